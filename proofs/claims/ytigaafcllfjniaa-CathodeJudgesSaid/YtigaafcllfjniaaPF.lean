/- A part of the proof. -/
import Derived.Test.YtigaafcllfjniaaPE
set_option linter.unusedSimpArgs false
set_option linter.unusedVariables false
namespace Go.Proofs
open Go Go.Sx

-- 5: thermion/thermionlaw03.CathodeFollows
def k_law03_CathodeFollows_r0 : List AOper := [
  ⟨(some (3)), .box (.tmp 0), none, []⟩, 
  ⟨(some (6)), .move (.const (.bool false)), none, []⟩]
def k_law03_CathodeFollows_r1 : List AOper := [
  ⟨(some (19)), .fieldAddr 6 (.tmp 3), none, []⟩, 
  ⟨(some (20)), .load none (.tmp 19), none, []⟩, 
  ⟨(some (21)), .len false (.tmp 20), none, []⟩, 
  ⟨(some (22)), .bin .plain .gtr (.tmp 21) (.const (.int .i64 30)), none, []⟩, 
  ⟨(some (23)), .move (.tmp 22), none, []⟩, 
  ⟨(some (24)), .move (.tmp 1), (some (23, false)), []⟩, 
  ⟨(some (25)), .len false (.tmp 24), (some (23, false)), []⟩, 
  ⟨(some (26)), .bin .plain .gtr (.tmp 25) (.const (.int .i64 60)), (some (23, false)), []⟩, 
  ⟨(some (27)), .pick (.tmp 23) (.const (.bool true)) (.tmp 26), none, []⟩]
def k_law03_CathodeFollows_r2 : List AOper := [
  ⟨(some (28)), .call (.const (.fn (.func 18) [] [])) [], none, []⟩, 
  ⟨(some (6)), .move (.tmp 28), none, []⟩]
def k_law03_CathodeFollows_r3 : List AOper := [
  ⟨(some (29)), .move (.tmp 2), none, []⟩, 
  ⟨(some (30)), .call (.const (.fn (.func 19) [] [])) [.tmp 29], none, []⟩, 
  ⟨(some (7)), .move (.tmp 30), none, []⟩]
def k_law03_CathodeFollows_r4 : List AOper := [
  ⟨(some (31)), .move (.tmp 7), none, []⟩, 
  ⟨(some (32)), .call (.const (.fn (.func 20) [] [])) [.tmp 31], none, []⟩, 
  ⟨(some (33)), .move (.tmp 7), none, []⟩, 
  ⟨(some (34)), .call (.const (.fn (.func 21) [] [])) [.tmp 33, .const (.int .i64 12), .const (.int .i64 60)], none, []⟩, 
  ⟨(some (8)), .box (.const (.agg [.int .i64 0, .int .i64 0, .int .i64 0, .int .i64 0, .int .i64 0, .int .i64 0, .nilsl])), none, []⟩, 
  ⟨none, .store 7 (.tmp 8) (.tmp 32), none, []⟩, 
  ⟨(some (9)), .move (.tmp 34), none, []⟩]
def k_law03_CathodeFollows_r5 : List AOper := [
  ⟨(some (36)), .load (some (7)) (.tmp 3), none, []⟩, 
  ⟨(some (37)), .move (.tmp 1), none, []⟩, 
  ⟨(some (38)), .call (.const (.fn (.func 39) [] [])) [.tmp 36, .tmp 37], none, []⟩, 
  ⟨(some (35)), .move (.tmp 38), none, []⟩, 
  ⟨(some (39)), .extract (.tmp 35) 0, none, []⟩, 
  ⟨(some (40)), .extract (.tmp 35) 1, none, []⟩, 
  ⟨(some (10)), .move (.tmp 39), none, []⟩, 
  ⟨(some (11)), .move (.tmp 40), none, []⟩]
def k_law03_CathodeFollows_r6 : List AOper := [
  ⟨(some (42)), .load (some (7)) (.tmp 3), none, []⟩, 
  ⟨(some (43)), .move (.tmp 1), none, []⟩, 
  ⟨(some (44)), .call (.const (.fn (.func 34) [] [])) [.tmp 42, .tmp 43], none, []⟩, 
  ⟨(some (41)), .move (.tmp 44), none, []⟩, 
  ⟨(some (45)), .extract (.tmp 41) 0, none, []⟩, 
  ⟨(some (46)), .extract (.tmp 41) 1, none, []⟩, 
  ⟨(some (12)), .move (.tmp 45), none, []⟩, 
  ⟨(some (13)), .move (.tmp 46), none, []⟩]
def k_law03_CathodeFollows_r7 : List AOper := [
  ⟨(some (47)), .load (some (7)) (.tmp 8), none, []⟩, 
  ⟨(some (48)), .call (.const (.fn (.func 24) [] [])) [.tmp 47], none, []⟩, 
  ⟨(some (14)), .box (.const (.agg [.int .i64 0, .int .i64 0, .int .i64 0, .int .i64 0, .int .i64 0, .int .i64 0, .nilsl])), none, []⟩, 
  ⟨none, .store 7 (.tmp 14) (.tmp 48), none, []⟩]
def k_law03_CathodeFollows_r8 : List AOper := [
  ⟨(some (50)), .load (some (7)) (.tmp 14), none, []⟩, 
  ⟨(some (51)), .move (.tmp 9), none, []⟩, 
  ⟨(some (52)), .call (.const (.fn (.func 39) [] [])) [.tmp 50, .tmp 51], none, []⟩, 
  ⟨(some (49)), .move (.tmp 52), none, []⟩, 
  ⟨(some (53)), .extract (.tmp 49) 0, none, []⟩, 
  ⟨(some (54)), .extract (.tmp 49) 1, none, []⟩, 
  ⟨(some (15)), .move (.tmp 53), none, []⟩, 
  ⟨(some (16)), .move (.tmp 54), none, []⟩]
def k_law03_CathodeFollows_r9 : List AOper := [
  ⟨(some (56)), .load (some (7)) (.tmp 8), none, []⟩, 
  ⟨(some (57)), .move (.tmp 9), none, []⟩, 
  ⟨(some (58)), .call (.const (.fn (.func 34) [] [])) [.tmp 56, .tmp 57], none, []⟩, 
  ⟨(some (55)), .move (.tmp 58), none, []⟩, 
  ⟨(some (59)), .extract (.tmp 55) 0, none, []⟩, 
  ⟨(some (60)), .extract (.tmp 55) 1, none, []⟩, 
  ⟨(some (17)), .move (.tmp 59), none, []⟩, 
  ⟨(some (18)), .move (.tmp 60), none, []⟩]
def k_law03_CathodeFollows_r10 : List AOper := [
  ⟨(some (61)), .move (.tmp 10), none, []⟩, 
  ⟨(some (62)), .move (.tmp 12), none, []⟩, 
  ⟨(some (63)), .call (.const (.fn (.func 40) [] [])) [.tmp 61, .tmp 62], none, []⟩, 
  ⟨(some (64)), .move (.tmp 63), none, []⟩, 
  ⟨(some (65)), .move (.tmp 11), (some (64, true)), []⟩, 
  ⟨(some (66)), .move (.tmp 13), (some (64, true)), []⟩, 
  ⟨(some (67)), .bin .plain .eql (.tmp 65) (.tmp 66), (some (64, true)), []⟩, 
  ⟨(some (68)), .pick (.tmp 64) (.tmp 67) (.const (.bool false)), none, []⟩, 
  ⟨(some (69)), .move (.tmp 68), none, []⟩, 
  ⟨(some (70)), .move (.tmp 15), (some (69, true)), []⟩, 
  ⟨(some (71)), .move (.tmp 17), (some (69, true)), []⟩, 
  ⟨(some (72)), .call (.const (.fn (.func 40) [] [])) [.tmp 70, .tmp 71], (some (69, true)), []⟩, 
  ⟨(some (73)), .pick (.tmp 69) (.tmp 72) (.const (.bool false)), none, []⟩, 
  ⟨(some (74)), .move (.tmp 73), none, []⟩, 
  ⟨(some (75)), .move (.tmp 16), (some (74, true)), []⟩, 
  ⟨(some (76)), .move (.tmp 18), (some (74, true)), []⟩, 
  ⟨(some (77)), .bin .plain .eql (.tmp 75) (.tmp 76), (some (74, true)), []⟩, 
  ⟨(some (78)), .pick (.tmp 74) (.tmp 77) (.const (.bool false)), none, []⟩, 
  ⟨(some (79)), .move (.tmp 78), none, []⟩, 
  ⟨(some (80)), .load (some (7)) (.tmp 14), (some (79, true)), []⟩, 
  ⟨(some (81)), .load (some (7)) (.tmp 8), (some (79, true)), []⟩, 
  ⟨(some (82)), .call (.const (.fn (.func 32) [] [])) [.tmp 80, .tmp 81], (some (79, true)), []⟩, 
  ⟨(some (83)), .pick (.tmp 79) (.tmp 82) (.const (.bool false)), none, []⟩, 
  ⟨(some (84)), .move (.tmp 83), none, []⟩, 
  ⟨(some (85)), .call (.const (.fn (.func 18) [] [])) [], (some (84, true)), []⟩, 
  ⟨(some (86)), .pick (.tmp 84) (.tmp 85) (.const (.bool false)), none, []⟩, 
  ⟨(some (6)), .move (.tmp 86), none, []⟩]
def k_law03_CathodeFollows : AFun := { params := 3, ntmps := 87, body := (.seq (.reg k_law03_CathodeFollows_r0 false) (.seq (.seq (.reg k_law03_CathodeFollows_r1 false) (.cond (.tmp 27) (.seq (.reg k_law03_CathodeFollows_r2 false) .ret) .skip)) (.seq (.reg k_law03_CathodeFollows_r3 false) (.seq (.reg k_law03_CathodeFollows_r4 false) (.seq (.reg k_law03_CathodeFollows_r5 false) (.seq (.reg k_law03_CathodeFollows_r6 false) (.seq (.reg k_law03_CathodeFollows_r7 false) (.seq (.reg k_law03_CathodeFollows_r8 false) (.seq (.reg k_law03_CathodeFollows_r9 false) (.seq (.reg k_law03_CathodeFollows_r10 false) .ret)))))))))), res := [.tmp 6] }
theorem k_law03_CathodeFollows_ok : cfun Try.prog Try.f5 = k_law03_CathodeFollows := by kernel_rfl


abbrev n_law03_CathodeFollows : Nat := 5
theorem e_law03_CathodeFollows : EntryOK Try.prog n_law03_CathodeFollows k_law03_CathodeFollows := ⟨Try.f5, Try.func5, k_law03_CathodeFollows_ok, by kernel_rfl⟩

attribute [go_sem] k_law03_CathodeFollows_r0 k_law03_CathodeFollows_r1 k_law03_CathodeFollows_r2 k_law03_CathodeFollows_r3 k_law03_CathodeFollows_r4 k_law03_CathodeFollows_r5 k_law03_CathodeFollows_r6 k_law03_CathodeFollows_r7 k_law03_CathodeFollows_r8 k_law03_CathodeFollows_r9 k_law03_CathodeFollows_r10 k_law03_CathodeFollows
end Go.Proofs
namespace Go.Proofs
open Go Go.Sx

-- 7: thermion/thermionlaw03.CathodeJudges
def k_law03_CathodeJudges_r0 : List AOper := [
  ⟨(some (4)), .box (.tmp 0), none, []⟩, 
  ⟨(some (5)), .box (.tmp 1), none, []⟩, 
  ⟨(some (8)), .move (.const (.bool false)), none, []⟩]
def k_law03_CathodeJudges_r1 : List AOper := [
  ⟨(some (19)), .fieldAddr 6 (.tmp 4), none, []⟩, 
  ⟨(some (20)), .load none (.tmp 19), none, []⟩, 
  ⟨(some (21)), .len false (.tmp 20), none, []⟩, 
  ⟨(some (22)), .bin .plain .gtr (.tmp 21) (.const (.int .i64 30)), none, []⟩, 
  ⟨(some (23)), .move (.tmp 22), none, []⟩, 
  ⟨(some (24)), .move (.tmp 2), (some (23, false)), []⟩, 
  ⟨(some (25)), .len false (.tmp 24), (some (23, false)), []⟩, 
  ⟨(some (26)), .bin .plain .gtr (.tmp 25) (.const (.int .i64 60)), (some (23, false)), []⟩, 
  ⟨(some (27)), .pick (.tmp 23) (.const (.bool true)) (.tmp 26), none, []⟩]
def k_law03_CathodeJudges_r2 : List AOper := [
  ⟨(some (28)), .call (.const (.fn (.func 18) [] [])) [], none, []⟩, 
  ⟨(some (8)), .move (.tmp 28), none, []⟩]
def k_law03_CathodeJudges_r3 : List AOper := [
  ⟨(some (29)), .move (.tmp 3), none, []⟩, 
  ⟨(some (30)), .call (.const (.fn (.func 19) [] [])) [.tmp 29], none, []⟩, 
  ⟨(some (9)), .move (.tmp 30), none, []⟩]
def k_law03_CathodeJudges_r4 : List AOper := [
  ⟨(some (31)), .move (.tmp 9), none, []⟩, 
  ⟨(some (32)), .call (.const (.fn (.func 20) [] [])) [.tmp 31], none, []⟩, 
  ⟨(some (33)), .move (.tmp 9), none, []⟩, 
  ⟨(some (34)), .call (.const (.fn (.func 21) [] [])) [.tmp 33, .const (.int .i64 8), .const (.int .i64 30)], none, []⟩, 
  ⟨(some (10)), .box (.const (.agg [.int .i64 0, .int .i64 0, .int .i64 0, .int .i64 0, .int .i64 0, .int .i64 0, .nilsl])), none, []⟩, 
  ⟨none, .store 7 (.tmp 10) (.tmp 32), none, []⟩, 
  ⟨(some (11)), .move (.tmp 34), none, []⟩]
def k_law03_CathodeJudges_r5 : List AOper := [
  ⟨(some (35)), .move (.tmp 9), none, []⟩, 
  ⟨(some (36)), .load (some (7)) (.tmp 10), none, []⟩, 
  ⟨(some (37)), .move (.tmp 11), none, []⟩, 
  ⟨(some (38)), .call (.const (.fn (.func 45) [] [])) [.tmp 35, .tmp 36, .tmp 37], none, []⟩, 
  ⟨(some (12)), .box (.const (.agg [.int .i64 0, .int .i64 0, .int .i64 0, .int .i64 0, .int .i64 0])), none, []⟩, 
  ⟨none, .store 5 (.tmp 12) (.tmp 38), none, []⟩]
def k_law03_CathodeJudges_r6 : List AOper := [
  ⟨(some (40)), .load (some (7)) (.tmp 4), none, []⟩, 
  ⟨(some (41)), .load (some (5)) (.tmp 5), none, []⟩, 
  ⟨(some (42)), .move (.tmp 2), none, []⟩, 
  ⟨(some (43)), .call (.const (.fn (.func 46) [] [])) [.tmp 40, .tmp 41, .tmp 42], none, []⟩, 
  ⟨(some (39)), .move (.tmp 43), none, []⟩, 
  ⟨(some (44)), .extract (.tmp 39) 0, none, []⟩, 
  ⟨(some (45)), .extract (.tmp 39) 1, none, []⟩, 
  ⟨(some (46)), .extract (.tmp 39) 2, none, []⟩, 
  ⟨(some (13)), .move (.tmp 44), none, []⟩, 
  ⟨(some (14)), .move (.tmp 45), none, []⟩, 
  ⟨(some (15)), .move (.tmp 46), none, []⟩]
def k_law03_CathodeJudges_r7 : List AOper := [
  ⟨(some (48)), .load (some (7)) (.tmp 4), none, []⟩, 
  ⟨(some (49)), .load (some (5)) (.tmp 5), none, []⟩, 
  ⟨(some (50)), .move (.tmp 2), none, []⟩, 
  ⟨(some (51)), .call (.const (.fn (.func 47) [] [])) [.tmp 48, .tmp 49, .tmp 50], none, []⟩, 
  ⟨(some (47)), .move (.tmp 51), none, []⟩, 
  ⟨(some (52)), .extract (.tmp 47) 0, none, []⟩, 
  ⟨(some (53)), .extract (.tmp 47) 1, none, []⟩, 
  ⟨(some (54)), .extract (.tmp 47) 2, none, []⟩, 
  ⟨(some (16)), .move (.tmp 52), none, []⟩, 
  ⟨(some (17)), .move (.tmp 53), none, []⟩, 
  ⟨(some (18)), .move (.tmp 54), none, []⟩]
def k_law03_CathodeJudges_r8 : List AOper := [
  ⟨(some (55)), .move (.tmp 13), none, []⟩, 
  ⟨(some (56)), .move (.tmp 16), none, []⟩, 
  ⟨(some (57)), .bin .plain .neq (.tmp 55) (.tmp 56), none, []⟩, 
  ⟨(some (58)), .move (.tmp 57), none, []⟩, 
  ⟨(some (59)), .move (.tmp 14), (some (58, false)), []⟩, 
  ⟨(some (60)), .move (.tmp 17), (some (58, false)), []⟩, 
  ⟨(some (61)), .bin .plain .neq (.tmp 59) (.tmp 60), (some (58, false)), []⟩, 
  ⟨(some (62)), .pick (.tmp 58) (.const (.bool true)) (.tmp 61), none, []⟩, 
  ⟨(some (63)), .move (.tmp 62), none, []⟩, 
  ⟨(some (64)), .move (.tmp 15), (some (63, false)), []⟩, 
  ⟨(some (65)), .move (.tmp 18), (some (63, false)), []⟩, 
  ⟨(some (66)), .bin .plain .neq (.tmp 64) (.tmp 65), (some (63, false)), []⟩, 
  ⟨(some (67)), .pick (.tmp 63) (.const (.bool true)) (.tmp 66), none, []⟩]
def k_law03_CathodeJudges_r9 : List AOper := [
  ⟨(some (8)), .move (.const (.bool false)), none, []⟩]
def k_law03_CathodeJudges_r10 : List AOper := [
  ⟨(some (69)), .load (some (7)) (.tmp 10), none, []⟩, 
  ⟨(some (70)), .load (some (5)) (.tmp 12), none, []⟩, 
  ⟨(some (71)), .move (.tmp 11), none, []⟩, 
  ⟨(some (72)), .call (.const (.fn (.func 46) [] [])) [.tmp 69, .tmp 70, .tmp 71], none, []⟩, 
  ⟨(some (68)), .move (.tmp 72), none, []⟩, 
  ⟨(some (73)), .extract (.tmp 68) 0, none, []⟩, 
  ⟨(some (74)), .extract (.tmp 68) 1, none, []⟩, 
  ⟨(some (75)), .extract (.tmp 68) 2, none, []⟩, 
  ⟨(some (13)), .move (.tmp 73), none, []⟩, 
  ⟨(some (14)), .move (.tmp 74), none, []⟩, 
  ⟨(some (15)), .move (.tmp 75), none, []⟩]
def k_law03_CathodeJudges_r11 : List AOper := [
  ⟨(some (77)), .load (some (7)) (.tmp 10), none, []⟩, 
  ⟨(some (78)), .load (some (5)) (.tmp 12), none, []⟩, 
  ⟨(some (79)), .move (.tmp 11), none, []⟩, 
  ⟨(some (80)), .call (.const (.fn (.func 47) [] [])) [.tmp 77, .tmp 78, .tmp 79], none, []⟩, 
  ⟨(some (76)), .move (.tmp 80), none, []⟩, 
  ⟨(some (81)), .extract (.tmp 76) 0, none, []⟩, 
  ⟨(some (82)), .extract (.tmp 76) 1, none, []⟩, 
  ⟨(some (83)), .extract (.tmp 76) 2, none, []⟩, 
  ⟨(some (16)), .move (.tmp 81), none, []⟩, 
  ⟨(some (17)), .move (.tmp 82), none, []⟩, 
  ⟨(some (18)), .move (.tmp 83), none, []⟩]
def k_law03_CathodeJudges_r12 : List AOper := [
  ⟨(some (84)), .move (.tmp 13), none, []⟩, 
  ⟨(some (85)), .move (.tmp 16), none, []⟩, 
  ⟨(some (86)), .bin .plain .neq (.tmp 84) (.tmp 85), none, []⟩, 
  ⟨(some (87)), .move (.tmp 86), none, []⟩, 
  ⟨(some (88)), .move (.tmp 14), (some (87, false)), []⟩, 
  ⟨(some (89)), .move (.tmp 17), (some (87, false)), []⟩, 
  ⟨(some (90)), .bin .plain .neq (.tmp 88) (.tmp 89), (some (87, false)), []⟩, 
  ⟨(some (91)), .pick (.tmp 87) (.const (.bool true)) (.tmp 90), none, []⟩, 
  ⟨(some (92)), .move (.tmp 91), none, []⟩, 
  ⟨(some (93)), .move (.tmp 15), (some (92, false)), []⟩, 
  ⟨(some (94)), .move (.tmp 18), (some (92, false)), []⟩, 
  ⟨(some (95)), .bin .plain .neq (.tmp 93) (.tmp 94), (some (92, false)), []⟩, 
  ⟨(some (96)), .pick (.tmp 92) (.const (.bool true)) (.tmp 95), none, []⟩]
def k_law03_CathodeJudges_r13 : List AOper := [
  ⟨(some (8)), .move (.const (.bool false)), none, []⟩]
def k_law03_CathodeJudges_r14 : List AOper := [
  ⟨(some (98)), .load (some (7)) (.tmp 10), none, []⟩, 
  ⟨(some (99)), .load (some (5)) (.tmp 5), none, []⟩, 
  ⟨(some (100)), .move (.tmp 11), none, []⟩, 
  ⟨(some (101)), .call (.const (.fn (.func 46) [] [])) [.tmp 98, .tmp 99, .tmp 100], none, []⟩, 
  ⟨(some (97)), .move (.tmp 101), none, []⟩, 
  ⟨(some (102)), .extract (.tmp 97) 0, none, []⟩, 
  ⟨(some (103)), .extract (.tmp 97) 1, none, []⟩, 
  ⟨(some (104)), .extract (.tmp 97) 2, none, []⟩, 
  ⟨(some (13)), .move (.tmp 102), none, []⟩, 
  ⟨(some (14)), .move (.tmp 103), none, []⟩, 
  ⟨(some (15)), .move (.tmp 104), none, []⟩]
def k_law03_CathodeJudges_r15 : List AOper := [
  ⟨(some (106)), .load (some (7)) (.tmp 10), none, []⟩, 
  ⟨(some (107)), .load (some (5)) (.tmp 5), none, []⟩, 
  ⟨(some (108)), .move (.tmp 11), none, []⟩, 
  ⟨(some (109)), .call (.const (.fn (.func 47) [] [])) [.tmp 106, .tmp 107, .tmp 108], none, []⟩, 
  ⟨(some (105)), .move (.tmp 109), none, []⟩, 
  ⟨(some (110)), .extract (.tmp 105) 0, none, []⟩, 
  ⟨(some (111)), .extract (.tmp 105) 1, none, []⟩, 
  ⟨(some (112)), .extract (.tmp 105) 2, none, []⟩, 
  ⟨(some (16)), .move (.tmp 110), none, []⟩, 
  ⟨(some (17)), .move (.tmp 111), none, []⟩, 
  ⟨(some (18)), .move (.tmp 112), none, []⟩]
def k_law03_CathodeJudges_r16 : List AOper := [
  ⟨(some (113)), .move (.tmp 13), none, []⟩, 
  ⟨(some (114)), .move (.tmp 16), none, []⟩, 
  ⟨(some (115)), .bin .plain .eql (.tmp 113) (.tmp 114), none, []⟩, 
  ⟨(some (116)), .move (.tmp 115), none, []⟩, 
  ⟨(some (117)), .move (.tmp 14), (some (116, true)), []⟩, 
  ⟨(some (118)), .move (.tmp 17), (some (116, true)), []⟩, 
  ⟨(some (119)), .bin .plain .eql (.tmp 117) (.tmp 118), (some (116, true)), []⟩, 
  ⟨(some (120)), .pick (.tmp 116) (.tmp 119) (.const (.bool false)), none, []⟩, 
  ⟨(some (121)), .move (.tmp 120), none, []⟩, 
  ⟨(some (122)), .move (.tmp 15), (some (121, true)), []⟩, 
  ⟨(some (123)), .move (.tmp 18), (some (121, true)), []⟩, 
  ⟨(some (124)), .bin .plain .eql (.tmp 122) (.tmp 123), (some (121, true)), []⟩, 
  ⟨(some (125)), .pick (.tmp 121) (.tmp 124) (.const (.bool false)), none, []⟩, 
  ⟨(some (126)), .move (.tmp 125), none, []⟩, 
  ⟨(some (127)), .call (.const (.fn (.func 18) [] [])) [], (some (126, true)), []⟩, 
  ⟨(some (128)), .pick (.tmp 126) (.tmp 127) (.const (.bool false)), none, []⟩, 
  ⟨(some (8)), .move (.tmp 128), none, []⟩]
def k_law03_CathodeJudges : AFun := { params := 4, ntmps := 129, body := (.seq (.reg k_law03_CathodeJudges_r0 false) (.seq (.seq (.reg k_law03_CathodeJudges_r1 false) (.cond (.tmp 27) (.seq (.reg k_law03_CathodeJudges_r2 false) .ret) .skip)) (.seq (.reg k_law03_CathodeJudges_r3 false) (.seq (.reg k_law03_CathodeJudges_r4 false) (.seq (.reg k_law03_CathodeJudges_r5 false) (.seq (.reg k_law03_CathodeJudges_r6 false) (.seq (.reg k_law03_CathodeJudges_r7 false) (.seq (.seq (.reg k_law03_CathodeJudges_r8 false) (.cond (.tmp 67) (.seq (.reg k_law03_CathodeJudges_r9 false) .ret) .skip)) (.seq (.reg k_law03_CathodeJudges_r10 false) (.seq (.reg k_law03_CathodeJudges_r11 false) (.seq (.seq (.reg k_law03_CathodeJudges_r12 false) (.cond (.tmp 96) (.seq (.reg k_law03_CathodeJudges_r13 false) .ret) .skip)) (.seq (.reg k_law03_CathodeJudges_r14 false) (.seq (.reg k_law03_CathodeJudges_r15 false) (.seq (.reg k_law03_CathodeJudges_r16 false) .ret)))))))))))))), res := [.tmp 8] }
theorem k_law03_CathodeJudges_ok : cfun Try.prog Try.f7 = k_law03_CathodeJudges := by kernel_rfl

-- 47: thermion/thermionref03.Judge
def k_ref03_Judge_r0 : List AOper := [
  ⟨(some (3)), .box (.tmp 0), none, []⟩, 
  ⟨(some (4)), .box (.tmp 1), none, []⟩, 
  ⟨(some (6)), .move (.const (.int .i64 0)), none, []⟩, 
  ⟨(some (7)), .move (.const (.int .i64 0)), none, []⟩, 
  ⟨(some (8)), .move (.const (.int .i64 0)), none, []⟩]
def k_ref03_Judge_r1 : List AOper := [
  ⟨(some (14)), .load (some (7)) (.tmp 3), none, []⟩, 
  ⟨(some (15)), .call (.const (.fn (.func 26) [] [])) [.tmp 14], none, []⟩, 
  ⟨(some (9)), .move (.tmp 15), none, []⟩]
def k_ref03_Judge_r2 : List AOper := [
  ⟨(some (16)), .move (.tmp 9), none, []⟩, 
  ⟨(some (17)), .bin .plain .neq (.tmp 16) (.const (.int .i64 0)), none, []⟩]
def k_ref03_Judge_r3 : List AOper := [
  ⟨(some (18)), .move (.tmp 9), none, []⟩, 
  ⟨(some (6)), .move (.const (.int .i64 0)), none, []⟩, 
  ⟨(some (7)), .move (.const (.int .i64 0)), none, []⟩, 
  ⟨(some (8)), .move (.tmp 18), none, []⟩]
def k_ref03_Judge_r4 : List AOper := [
  ⟨(some (19)), .load (some (5)) (.tmp 4), none, []⟩, 
  ⟨(some (20)), .call (.const (.fn (.func 95) [] [])) [.tmp 19], none, []⟩, 
  ⟨(some (10)), .move (.tmp 20), none, []⟩]
def k_ref03_Judge_r5 : List AOper := [
  ⟨(some (21)), .move (.tmp 10), none, []⟩, 
  ⟨(some (22)), .bin .plain .neq (.tmp 21) (.const (.int .i64 0)), none, []⟩]
def k_ref03_Judge_r6 : List AOper := [
  ⟨(some (23)), .move (.tmp 10), none, []⟩, 
  ⟨(some (6)), .move (.const (.int .i64 0)), none, []⟩, 
  ⟨(some (7)), .move (.const (.int .i64 0)), none, []⟩, 
  ⟨(some (8)), .move (.tmp 23), none, []⟩]
def k_ref03_Judge_r7 : List AOper := [
  ⟨(some (24)), .move (.tmp 2), none, []⟩, 
  ⟨(some (25)), .call (.const (.fn (.func 30) [] [])) [.tmp 24], none, []⟩, 
  ⟨(some (11)), .move (.tmp 25), none, []⟩]
def k_ref03_Judge_r8 : List AOper := [
  ⟨(some (26)), .move (.tmp 11), none, []⟩, 
  ⟨(some (27)), .bin .plain .neq (.tmp 26) (.const (.int .i64 0)), none, []⟩]
def k_ref03_Judge_r9 : List AOper := [
  ⟨(some (28)), .move (.tmp 11), none, []⟩, 
  ⟨(some (6)), .move (.const (.int .i64 0)), none, []⟩, 
  ⟨(some (7)), .move (.const (.int .i64 0)), none, []⟩, 
  ⟨(some (8)), .move (.tmp 28), none, []⟩]
def k_ref03_Judge_r10 : List AOper := [
  ⟨(some (30)), .load (some (7)) (.tmp 3), none, []⟩, 
  ⟨(some (31)), .load (some (5)) (.tmp 4), none, []⟩, 
  ⟨(some (32)), .move (.tmp 2), none, []⟩, 
  ⟨(some (33)), .call (.const (.fn (.func 96) [] [])) [.tmp 30, .tmp 31, .tmp 32], none, []⟩, 
  ⟨(some (29)), .move (.tmp 33), none, []⟩, 
  ⟨(some (34)), .extract (.tmp 29) 0, none, []⟩, 
  ⟨(some (35)), .extract (.tmp 29) 1, none, []⟩, 
  ⟨(some (12)), .move (.tmp 34), none, []⟩, 
  ⟨(some (13)), .move (.tmp 35), none, []⟩]
def k_ref03_Judge_r11 : List AOper := [
  ⟨(some (36)), .move (.tmp 12), none, []⟩, 
  ⟨(some (37)), .move (.tmp 13), none, []⟩, 
  ⟨(some (6)), .move (.tmp 36), none, []⟩, 
  ⟨(some (7)), .move (.tmp 37), none, []⟩, 
  ⟨(some (8)), .move (.const (.int .i64 0)), none, []⟩]
def k_ref03_Judge : AFun := { params := 3, ntmps := 38, body := (.seq (.reg k_ref03_Judge_r0 false) (.seq (.seq (.reg k_ref03_Judge_r1 false) (.seq (.reg k_ref03_Judge_r2 false) (.cond (.tmp 17) (.seq (.reg k_ref03_Judge_r3 false) .ret) .skip))) (.seq (.seq (.reg k_ref03_Judge_r4 false) (.seq (.reg k_ref03_Judge_r5 false) (.cond (.tmp 22) (.seq (.reg k_ref03_Judge_r6 false) .ret) .skip))) (.seq (.seq (.reg k_ref03_Judge_r7 false) (.seq (.reg k_ref03_Judge_r8 false) (.cond (.tmp 27) (.seq (.reg k_ref03_Judge_r9 false) .ret) .skip))) (.seq (.reg k_ref03_Judge_r10 false) (.seq (.reg k_ref03_Judge_r11 false) .ret)))))), res := [.tmp 6, .tmp 7, .tmp 8] }
theorem k_ref03_Judge_ok : cfun Try.prog Try.f47 = k_ref03_Judge := by kernel_rfl

-- 95: thermion/thermionref03.checkDemand
def k_ref03_checkDemand_r0 : List AOper := [
  ⟨(some (1)), .box (.tmp 0), none, []⟩, 
  ⟨(some (2)), .move (.const (.int .i64 0)), none, []⟩]
def k_ref03_checkDemand_r1 : List AOper := [
  ⟨(some (5)), .fieldAddr 0 (.tmp 1), none, []⟩, 
  ⟨(some (6)), .load none (.tmp 5), none, []⟩, 
  ⟨(some (7)), .fieldAddr 1 (.tmp 1), none, []⟩, 
  ⟨(some (8)), .load none (.tmp 7), none, []⟩, 
  ⟨(some (9)), .fieldAddr 2 (.tmp 1), none, []⟩, 
  ⟨(some (10)), .load none (.tmp 9), none, []⟩, 
  ⟨(some (11)), .fieldAddr 3 (.tmp 1), none, []⟩, 
  ⟨(some (12)), .load none (.tmp 11), none, []⟩, 
  ⟨(some (13)), .fieldAddr 4 (.tmp 1), none, []⟩, 
  ⟨(some (14)), .load none (.tmp 13), none, []⟩, 
  ⟨(some (15)), .buildSlice 1 [.tmp 6, .tmp 8, .tmp 10, .tmp 12, .tmp 14], none, []⟩, 
  ⟨(some (3)), .move (.tmp 15), none, []⟩]
def k_ref03_checkDemand_r2 : List AOper := [
  ⟨(some (4)), .move (.const (.int .i64 0)), none, []⟩]
def k_ref03_checkDemand_r3 : List AOper := [
  ⟨(some (16)), .move (.tmp 4), none, []⟩, 
  ⟨(some (17)), .move (.tmp 3), none, []⟩, 
  ⟨(some (18)), .len false (.tmp 17), none, []⟩, 
  ⟨(some (19)), .bin .plain .lss (.tmp 16) (.tmp 18), none, []⟩]
def k_ref03_checkDemand_r4 : List AOper := [
  ⟨(some (22)), .move (.tmp 3), none, []⟩, 
  ⟨(some (23)), .move (.tmp 4), none, []⟩, 
  ⟨(some (24)), .indexAddr 1 (.tmp 22) (.tmp 23), none, []⟩, 
  ⟨(some (25)), .load none (.tmp 24), none, []⟩, 
  ⟨(some (26)), .call (.const (.fn (.func 69) [] [])) [.tmp 25, .const (.int .i64 0), .const (.int .i64 1099511627776)], none, []⟩]
def k_ref03_checkDemand_r5 : List AOper := [
  ⟨(some (2)), .move (.const (.int .i64 2)), none, []⟩]
def k_ref03_checkDemand_r6 : List AOper := [
  ⟨(some (20)), .move (.tmp 4), none, []⟩, 
  ⟨(some (21)), .bin .plain .add (.tmp 20) (.const (.int .i64 1)), none, []⟩, 
  ⟨(some (4)), .move (.tmp 21), none, []⟩]
def k_ref03_checkDemand_r7 : ACode := (.seq (.seq (.reg k_ref03_checkDemand_r3 false) (.cond (.tmp 19) .skip (.exit 0))) (.seq (.block 1 (.seq (.reg k_ref03_checkDemand_r4 false) (.cond (.tmp 26) (.seq (.reg k_ref03_checkDemand_r5 false) .ret) .skip))) (.reg k_ref03_checkDemand_r6 false)))
def k_ref03_checkDemand_r8 : List AOper := [
  ⟨(some (2)), .move (.const (.int .i64 0)), none, []⟩]
def k_ref03_checkDemand : AFun := { params := 1, ntmps := 27, body := (.seq (.reg k_ref03_checkDemand_r0 false) (.seq (.reg k_ref03_checkDemand_r1 false) (.seq (.seq (.reg k_ref03_checkDemand_r2 false) (.block 0 (.loop k_ref03_checkDemand_r7))) (.seq (.reg k_ref03_checkDemand_r8 false) .ret)))), res := [.tmp 2] }
theorem k_ref03_checkDemand_ok : cfun Try.prog Try.f95 = k_ref03_checkDemand := by kernel_rfl

-- 96: thermion/thermionref03.judge
def k_ref03_judge_r0 : List AOper := [
  ⟨(some (3)), .box (.tmp 0), none, []⟩, 
  ⟨(some (4)), .box (.tmp 1), none, []⟩, 
  ⟨(some (6)), .move (.const (.int .i64 0)), none, []⟩, 
  ⟨(some (7)), .move (.const (.int .i64 0)), none, []⟩]
def k_ref03_judge_r1 : List AOper := [
  ⟨(some (14)), .load (some (7)) (.tmp 3), none, []⟩, 
  ⟨(some (15)), .move (.tmp 2), none, []⟩, 
  ⟨(some (16)), .call (.const (.fn (.func 77) [] [])) [.tmp 14, .tmp 15], none, []⟩, 
  ⟨(some (8)), .move (.tmp 16), none, []⟩]
def k_ref03_judge_r2 : List AOper := [
  ⟨(some (9)), .move (.const (.int .i64 1)), none, []⟩, 
  ⟨(some (10)), .move (.const (.int .i64 0)), none, []⟩]
def k_ref03_judge_r3 : List AOper := [
  ⟨(some (11)), .move (.const (.int .i64 0)), none, []⟩]
def k_ref03_judge_r4 : List AOper := [
  ⟨(some (17)), .move (.tmp 11), none, []⟩, 
  ⟨(some (18)), .move (.tmp 8), none, []⟩, 
  ⟨(some (19)), .len false (.tmp 18), none, []⟩, 
  ⟨(some (20)), .bin .plain .lss (.tmp 17) (.tmp 19), none, []⟩]
def k_ref03_judge_r5 : List AOper := [
  ⟨(some (23)), .load (some (5)) (.tmp 4), none, []⟩, 
  ⟨(some (24)), .move (.tmp 8), none, [0]⟩, 
  ⟨(some (25)), .move (.tmp 11), none, [0, 1]⟩, 
  ⟨(some (26)), .indexAddr 13 (.tmp 24) (.tmp 25), none, [0]⟩, 
  ⟨(some (27)), .load (some (13)) (.tmp 26), none, [0]⟩, 
  ⟨(some (28)), .move (.tmp 11), none, [0, 1, 2, 3, 4]⟩, 
  ⟨(some (29)), .bin .plain .gtr (.tmp 28) (.const (.int .i64 0)), none, [0, 1, 2, 3, 4]⟩, 
  ⟨(some (30)), .move (.tmp 11), none, [0, 1, 2, 3, 4, 5, 6]⟩, 
  ⟨(some (31)), .move (.tmp 8), none, [0, 1, 2, 3, 4, 5, 6, 7]⟩, 
  ⟨(some (32)), .len false (.tmp 31), none, [0, 1, 2, 3, 4, 5, 6, 7]⟩, 
  ⟨(some (33)), .bin .plain .sub (.tmp 32) (.const (.int .i64 1)), none, [0, 1, 2, 3, 4, 5, 6, 7]⟩, 
  ⟨(some (34)), .bin .plain .eql (.tmp 30) (.tmp 33), none, [0, 1, 2, 3, 4, 5, 6]⟩, 
  ⟨(some (35)), .call (.const (.fn (.func 123) [] [])) [.tmp 23, .tmp 27, .tmp 29, .tmp 34], none, []⟩, 
  ⟨(some (12)), .move (.tmp 35), none, []⟩]
def k_ref03_judge_r5s : List (List AOper) := [
  [
  ⟨(some (23)), .load (some (5)) (.tmp 4), none, []⟩, 
  ⟨(some (24)), .move (.tmp 8), none, [0]⟩, 
  ⟨(some (25)), .move (.tmp 11), none, [0, 1]⟩, 
  ⟨(some (26)), .indexAddr 13 (.tmp 24) (.tmp 25), none, [0]⟩, 
  ⟨(some (27)), .load (some (13)) (.tmp 26), none, [0]⟩, 
  ⟨(some (28)), .move (.tmp 11), none, [0, 1, 2, 3, 4]⟩, 
  ⟨(some (29)), .bin .plain .gtr (.tmp 28) (.const (.int .i64 0)), none, [0, 1, 2, 3, 4]⟩, 
  ⟨(some (30)), .move (.tmp 11), none, [0, 1, 2, 3, 4, 5, 6]⟩, 
  ⟨(some (31)), .move (.tmp 8), none, [0, 1, 2, 3, 4, 5, 6, 7]⟩, 
  ⟨(some (32)), .len false (.tmp 31), none, [0, 1, 2, 3, 4, 5, 6, 7]⟩, 
  ⟨(some (33)), .bin .plain .sub (.tmp 32) (.const (.int .i64 1)), none, [0, 1, 2, 3, 4, 5, 6, 7]⟩, 
  ⟨(some (34)), .bin .plain .eql (.tmp 30) (.tmp 33), none, [0, 1, 2, 3, 4, 5, 6]⟩], 
  [
  ⟨(some (35)), .call (.const (.fn (.func 123) [] [])) [.tmp 23, .tmp 27, .tmp 29, .tmp 34], none, []⟩], 
  [
  ⟨(some (12)), .move (.tmp 35), none, []⟩]]
theorem k_ref03_judge_r5_sg : segs k_ref03_judge_r5 = k_ref03_judge_r5s := by kernel_rfl
theorem k_ref03_judge_r5_st : statOK k_ref03_judge_r5 = true := by kernel_rfl
def k_ref03_judge_r6 : List AOper := [
  ⟨(some (13)), .move (.const (.int .i64 0)), none, []⟩]
def k_ref03_judge_r7 : List AOper := [
  ⟨(some (36)), .move (.tmp 13), none, []⟩, 
  ⟨(some (37)), .move (.tmp 12), none, []⟩, 
  ⟨(some (38)), .len false (.tmp 37), none, []⟩, 
  ⟨(some (39)), .bin .plain .lss (.tmp 36) (.tmp 38), none, []⟩]
def k_ref03_judge_r8 : List AOper := [
  ⟨(some (42)), .move (.tmp 12), none, []⟩, 
  ⟨(some (43)), .move (.tmp 13), none, []⟩, 
  ⟨(some (44)), .indexAddr 4 (.tmp 42) (.tmp 43), none, []⟩, 
  ⟨(some (45)), .load (some (4)) (.tmp 44), none, []⟩, 
  ⟨(some (46)), .call (.const (.fn (.func 124) [] [])) [.tmp 45], none, []⟩]
def k_ref03_judge_r9 : List AOper := [
  ⟨(some (47)), .move (.tmp 11), none, []⟩, 
  ⟨(some (6)), .move (.const (.int .i64 2)), none, []⟩, 
  ⟨(some (7)), .move (.tmp 47), none, []⟩]
def k_ref03_judge_r10 : List AOper := [
  ⟨(some (48)), .move (.tmp 12), none, []⟩, 
  ⟨(some (49)), .move (.tmp 13), none, []⟩, 
  ⟨(some (50)), .indexAddr 4 (.tmp 48) (.tmp 49), none, []⟩, 
  ⟨(some (51)), .load (some (4)) (.tmp 50), none, []⟩, 
  ⟨(some (52)), .call (.const (.fn (.func 125) [] [])) [.tmp 51], none, []⟩, 
  ⟨(some (53)), .move (.tmp 52), none, []⟩, 
  ⟨(some (54)), .move (.tmp 9), (some (53, true)), []⟩, 
  ⟨(some (55)), .bin .plain .eql (.tmp 54) (.const (.int .i64 1)), (some (53, true)), []⟩, 
  ⟨(some (56)), .pick (.tmp 53) (.tmp 55) (.const (.bool false)), none, []⟩]
def k_ref03_judge_r11 : List AOper := [
  ⟨(some (57)), .move (.tmp 11), none, []⟩, 
  ⟨(some (9)), .move (.const (.int .i64 3)), none, []⟩, 
  ⟨(some (10)), .move (.tmp 57), none, []⟩]
def k_ref03_judge_r12 : List AOper := [
  ⟨(some (40)), .move (.tmp 13), none, []⟩, 
  ⟨(some (41)), .bin .plain .add (.tmp 40) (.const (.int .i64 1)), none, []⟩, 
  ⟨(some (13)), .move (.tmp 41), none, []⟩]
def k_ref03_judge_r13 : ACode := (.seq (.seq (.reg k_ref03_judge_r7 false) (.cond (.tmp 39) .skip (.exit 2))) (.seq (.block 3 (.seq (.seq (.reg k_ref03_judge_r8 false) (.cond (.tmp 46) (.seq (.reg k_ref03_judge_r9 false) .ret) .skip)) (.seq (.reg k_ref03_judge_r10 false) (.cond (.tmp 56) (.reg k_ref03_judge_r11 false) .skip)))) (.reg k_ref03_judge_r12 false)))
def k_ref03_judge_r14 : List AOper := [
  ⟨(some (21)), .move (.tmp 11), none, []⟩, 
  ⟨(some (22)), .bin .plain .add (.tmp 21) (.const (.int .i64 1)), none, []⟩, 
  ⟨(some (11)), .move (.tmp 22), none, []⟩]
def k_ref03_judge_r15 : ACode := (.seq (.seq (.reg k_ref03_judge_r4 false) (.cond (.tmp 20) .skip (.exit 0))) (.seq (.block 1 (.seq (.reg k_ref03_judge_r5 true) (.seq (.reg k_ref03_judge_r6 false) (.block 2 (.loop k_ref03_judge_r13))))) (.reg k_ref03_judge_r14 false)))
def k_ref03_judge_r16 : List AOper := [
  ⟨(some (58)), .move (.tmp 9), none, []⟩, 
  ⟨(some (59)), .move (.tmp 10), none, []⟩, 
  ⟨(some (6)), .move (.tmp 58), none, []⟩, 
  ⟨(some (7)), .move (.tmp 59), none, []⟩]
def k_ref03_judge : AFun := { params := 3, ntmps := 60, body := (.seq (.reg k_ref03_judge_r0 false) (.seq (.reg k_ref03_judge_r1 false) (.seq (.reg k_ref03_judge_r2 false) (.seq (.seq (.reg k_ref03_judge_r3 false) (.block 0 (.loop k_ref03_judge_r15))) (.seq (.reg k_ref03_judge_r16 false) .ret))))), res := [.tmp 6, .tmp 7] }
theorem k_ref03_judge_ok : cfun Try.prog Try.f96 = k_ref03_judge := by kernel_rfl

-- 123: thermion/thermionref03.bounds
def k_ref03_bounds_r0 : List AOper := [
  ⟨(some (4)), .box (.tmp 0), none, []⟩, 
  ⟨(some (5)), .box (.tmp 1), none, []⟩, 
  ⟨(some (8)), .move (.const (.nilsl)), none, []⟩]
def k_ref03_bounds_r1 : List AOper := [
  ⟨(some (9)), .move (.const (.nilsl)), none, []⟩]
def k_ref03_bounds_r2 : List AOper := [
  ⟨(some (10)), .move (.tmp 2), none, []⟩]
def k_ref03_bounds_r3 : List AOper := [
  ⟨(some (11)), .move (.tmp 9), none, []⟩, 
  ⟨(some (12)), .fieldAddr 8 (.tmp 5), none, []⟩, 
  ⟨(some (13)), .load (some (2)) (.tmp 12), none, []⟩, 
  ⟨(some (14)), .fieldAddr 0 (.tmp 4), none, []⟩, 
  ⟨(some (15)), .load none (.tmp 14), none, []⟩, 
  ⟨(some (16)), .build [.int .i64 0, .int .i64 0, .int .i64 0, .bool false] [(0, 2, .tmp 13), (2, 1, .tmp 15), (3, 1, .const (.bool false))], none, []⟩, 
  ⟨(some (17)), .fieldAddr 10 (.tmp 5), none, []⟩, 
  ⟨(some (18)), .load (some (2)) (.tmp 17), none, []⟩, 
  ⟨(some (19)), .fieldAddr 1 (.tmp 4), none, []⟩, 
  ⟨(some (20)), .load none (.tmp 19), none, []⟩, 
  ⟨(some (21)), .build [.int .i64 0, .int .i64 0, .int .i64 0, .bool false] [(0, 2, .tmp 18), (2, 1, .tmp 20), (3, 1, .const (.bool false))], none, []⟩, 
  ⟨(some (22)), .fieldAddr 6 (.tmp 5), none, []⟩, 
  ⟨(some (23)), .load (some (2)) (.tmp 22), none, []⟩, 
  ⟨(some (24)), .fieldAddr 2 (.tmp 4), none, []⟩, 
  ⟨(some (25)), .load none (.tmp 24), none, []⟩, 
  ⟨(some (26)), .build [.int .i64 0, .int .i64 0, .int .i64 0, .bool false] [(0, 2, .tmp 23), (2, 1, .tmp 25), (3, 1, .const (.bool false))], none, []⟩, 
  ⟨(some (27)), .buildSlice 4 [.tmp 16, .tmp 21, .tmp 26], none, []⟩, 
  ⟨(some (28)), .append 4 32 true (.tmp 11) (.tmp 27), none, []⟩, 
  ⟨(some (9)), .move (.tmp 28), none, []⟩]
def k_ref03_bounds_r4 : List AOper := [
  ⟨(some (29)), .move (.tmp 3), none, []⟩]
def k_ref03_bounds_r5 : List AOper := [
  ⟨(some (30)), .move (.tmp 9), none, []⟩, 
  ⟨(some (31)), .fieldAddr 0 (.tmp 5), none, []⟩, 
  ⟨(some (32)), .load (some (2)) (.tmp 31), none, []⟩, 
  ⟨(some (33)), .fieldAddr 3 (.tmp 4), none, []⟩, 
  ⟨(some (34)), .load none (.tmp 33), none, []⟩, 
  ⟨(some (35)), .build [.int .i64 0, .int .i64 0, .int .i64 0, .bool false] [(0, 2, .tmp 32), (2, 1, .tmp 34), (3, 1, .const (.bool false))], none, []⟩, 
  ⟨(some (36)), .fieldAddr 4 (.tmp 5), none, []⟩, 
  ⟨(some (37)), .load (some (2)) (.tmp 36), none, []⟩, 
  ⟨(some (38)), .fieldAddr 4 (.tmp 4), none, []⟩, 
  ⟨(some (39)), .load none (.tmp 38), none, []⟩, 
  ⟨(some (40)), .build [.int .i64 0, .int .i64 0, .int .i64 0, .bool false] [(0, 2, .tmp 37), (2, 1, .tmp 39), (3, 1, .const (.bool true))], none, []⟩, 
  ⟨(some (41)), .buildSlice 4 [.tmp 35, .tmp 40], none, []⟩, 
  ⟨(some (42)), .append 4 32 true (.tmp 30) (.tmp 41), none, []⟩, 
  ⟨(some (9)), .move (.tmp 42), none, []⟩]
def k_ref03_bounds_r6 : List AOper := [
  ⟨(some (43)), .move (.tmp 9), none, []⟩, 
  ⟨(some (8)), .move (.tmp 43), none, []⟩]
def k_ref03_bounds : AFun := { params := 4, ntmps := 44, body := (.seq (.reg k_ref03_bounds_r0 false) (.seq (.reg k_ref03_bounds_r1 false) (.seq (.seq (.reg k_ref03_bounds_r2 false) (.cond (.tmp 10) (.reg k_ref03_bounds_r3 false) .skip)) (.seq (.seq (.reg k_ref03_bounds_r4 false) (.cond (.tmp 29) (.reg k_ref03_bounds_r5 false) .skip)) (.seq (.reg k_ref03_bounds_r6 false) .ret))))), res := [.tmp 8] }
theorem k_ref03_bounds_ok : cfun Try.prog Try.f123 = k_ref03_bounds := by kernel_rfl

-- 124: thermion/thermionref03.broken
def k_ref03_broken_r0 : List AOper := [
  ⟨(some (1)), .box (.tmp 0), none, []⟩, 
  ⟨(some (2)), .move (.const (.bool false)), none, []⟩]
def k_ref03_broken_r1 : List AOper := [
  ⟨(some (3)), .fieldAddr 3 (.tmp 1), none, []⟩, 
  ⟨(some (4)), .load none (.tmp 3), none, []⟩]
def k_ref03_broken_r2 : List AOper := [
  ⟨(some (5)), .fieldAddr 0 (.tmp 1), none, []⟩, 
  ⟨(some (6)), .fieldAddr 1 (.tmp 5), none, []⟩, 
  ⟨(some (7)), .load none (.tmp 6), none, []⟩, 
  ⟨(some (8)), .fieldAddr 2 (.tmp 1), none, []⟩, 
  ⟨(some (9)), .load none (.tmp 8), none, []⟩, 
  ⟨(some (10)), .bin .plain .lss (.tmp 7) (.tmp 9), none, []⟩, 
  ⟨(some (2)), .move (.tmp 10), none, []⟩]
def k_ref03_broken_r3 : List AOper := [
  ⟨(some (11)), .fieldAddr 0 (.tmp 1), none, []⟩, 
  ⟨(some (12)), .fieldAddr 0 (.tmp 11), none, []⟩, 
  ⟨(some (13)), .load none (.tmp 12), none, []⟩, 
  ⟨(some (14)), .fieldAddr 2 (.tmp 1), none, []⟩, 
  ⟨(some (15)), .load none (.tmp 14), none, []⟩, 
  ⟨(some (16)), .bin .plain .gtr (.tmp 13) (.tmp 15), none, []⟩, 
  ⟨(some (2)), .move (.tmp 16), none, []⟩]
def k_ref03_broken : AFun := { params := 1, ntmps := 17, body := (.seq (.reg k_ref03_broken_r0 false) (.seq (.seq (.reg k_ref03_broken_r1 false) (.cond (.tmp 4) (.seq (.reg k_ref03_broken_r2 false) .ret) .skip)) (.seq (.reg k_ref03_broken_r3 false) .ret))), res := [.tmp 2] }
theorem k_ref03_broken_ok : cfun Try.prog Try.f124 = k_ref03_broken := by kernel_rfl

-- 125: thermion/thermionref03.doubtful
def k_ref03_doubtful_r0 : List AOper := [
  ⟨(some (1)), .box (.tmp 0), none, []⟩, 
  ⟨(some (2)), .move (.const (.bool false)), none, []⟩]
def k_ref03_doubtful_r1 : List AOper := [
  ⟨(some (3)), .fieldAddr 3 (.tmp 1), none, []⟩, 
  ⟨(some (4)), .load none (.tmp 3), none, []⟩]
def k_ref03_doubtful_r2 : List AOper := [
  ⟨(some (5)), .fieldAddr 0 (.tmp 1), none, []⟩, 
  ⟨(some (6)), .fieldAddr 0 (.tmp 5), none, []⟩, 
  ⟨(some (7)), .load none (.tmp 6), none, []⟩, 
  ⟨(some (8)), .fieldAddr 2 (.tmp 1), none, []⟩, 
  ⟨(some (9)), .load none (.tmp 8), none, []⟩, 
  ⟨(some (10)), .bin .plain .lss (.tmp 7) (.tmp 9), none, []⟩, 
  ⟨(some (11)), .move (.tmp 10), none, []⟩, 
  ⟨(some (12)), .load (some (4)) (.tmp 1), (some (11, true)), []⟩, 
  ⟨(some (13)), .call (.const (.fn (.func 124) [] [])) [.tmp 12], (some (11, true)), []⟩, 
  ⟨(some (14)), .not (.tmp 13), (some (11, true)), []⟩, 
  ⟨(some (15)), .pick (.tmp 11) (.tmp 14) (.const (.bool false)), none, []⟩, 
  ⟨(some (2)), .move (.tmp 15), none, []⟩]
def k_ref03_doubtful_r3 : List AOper := [
  ⟨(some (16)), .fieldAddr 0 (.tmp 1), none, []⟩, 
  ⟨(some (17)), .fieldAddr 1 (.tmp 16), none, []⟩, 
  ⟨(some (18)), .load none (.tmp 17), none, []⟩, 
  ⟨(some (19)), .fieldAddr 2 (.tmp 1), none, []⟩, 
  ⟨(some (20)), .load none (.tmp 19), none, []⟩, 
  ⟨(some (21)), .bin .plain .gtr (.tmp 18) (.tmp 20), none, []⟩, 
  ⟨(some (22)), .move (.tmp 21), none, []⟩, 
  ⟨(some (23)), .load (some (4)) (.tmp 1), (some (22, true)), []⟩, 
  ⟨(some (24)), .call (.const (.fn (.func 124) [] [])) [.tmp 23], (some (22, true)), []⟩, 
  ⟨(some (25)), .not (.tmp 24), (some (22, true)), []⟩, 
  ⟨(some (26)), .pick (.tmp 22) (.tmp 25) (.const (.bool false)), none, []⟩, 
  ⟨(some (2)), .move (.tmp 26), none, []⟩]
def k_ref03_doubtful : AFun := { params := 1, ntmps := 27, body := (.seq (.reg k_ref03_doubtful_r0 false) (.seq (.seq (.reg k_ref03_doubtful_r1 false) (.cond (.tmp 4) (.seq (.reg k_ref03_doubtful_r2 false) .ret) .skip)) (.seq (.reg k_ref03_doubtful_r3 false) .ret))), res := [.tmp 2] }
theorem k_ref03_doubtful_ok : cfun Try.prog Try.f125 = k_ref03_doubtful := by kernel_rfl


abbrev n_law03_CathodeJudges : Nat := 7
theorem e_law03_CathodeJudges : EntryOK Try.prog n_law03_CathodeJudges k_law03_CathodeJudges := ⟨Try.f7, Try.func7, k_law03_CathodeJudges_ok, by kernel_rfl⟩
abbrev n_ref03_Judge : Nat := 47
theorem e_ref03_Judge : EntryOK Try.prog n_ref03_Judge k_ref03_Judge := ⟨Try.f47, Try.func47, k_ref03_Judge_ok, by kernel_rfl⟩
abbrev n_ref03_checkDemand : Nat := 95
theorem e_ref03_checkDemand : EntryOK Try.prog n_ref03_checkDemand k_ref03_checkDemand := ⟨Try.f95, Try.func95, k_ref03_checkDemand_ok, by kernel_rfl⟩
abbrev n_ref03_judge : Nat := 96
theorem e_ref03_judge : EntryOK Try.prog n_ref03_judge k_ref03_judge := ⟨Try.f96, Try.func96, k_ref03_judge_ok, by kernel_rfl⟩
abbrev n_ref03_bounds : Nat := 123
theorem e_ref03_bounds : EntryOK Try.prog n_ref03_bounds k_ref03_bounds := ⟨Try.f123, Try.func123, k_ref03_bounds_ok, by kernel_rfl⟩
abbrev n_ref03_broken : Nat := 124
theorem e_ref03_broken : EntryOK Try.prog n_ref03_broken k_ref03_broken := ⟨Try.f124, Try.func124, k_ref03_broken_ok, by kernel_rfl⟩
abbrev n_ref03_doubtful : Nat := 125
theorem e_ref03_doubtful : EntryOK Try.prog n_ref03_doubtful k_ref03_doubtful := ⟨Try.f125, Try.func125, k_ref03_doubtful_ok, by kernel_rfl⟩

attribute [go_sem] k_law03_CathodeJudges_r0 k_law03_CathodeJudges_r1 k_law03_CathodeJudges_r2 k_law03_CathodeJudges_r3 k_law03_CathodeJudges_r4 k_law03_CathodeJudges_r5 k_law03_CathodeJudges_r6 k_law03_CathodeJudges_r7 k_law03_CathodeJudges_r8 k_law03_CathodeJudges_r9 k_law03_CathodeJudges_r10 k_law03_CathodeJudges_r11
attribute [go_sem] k_law03_CathodeJudges_r12 k_law03_CathodeJudges_r13 k_law03_CathodeJudges_r14 k_law03_CathodeJudges_r15 k_law03_CathodeJudges_r16 k_ref03_Judge_r0 k_ref03_Judge_r1 k_ref03_Judge_r2 k_ref03_Judge_r3 k_ref03_Judge_r4 k_ref03_Judge_r5 k_ref03_Judge_r6
attribute [go_sem] k_ref03_Judge_r7 k_ref03_Judge_r8 k_ref03_Judge_r9 k_ref03_Judge_r10 k_ref03_Judge_r11 k_ref03_checkDemand_r0 k_ref03_checkDemand_r1 k_ref03_checkDemand_r2 k_ref03_checkDemand_r3 k_ref03_checkDemand_r4 k_ref03_checkDemand_r5 k_ref03_checkDemand_r6
attribute [go_sem] k_ref03_checkDemand_r8 k_ref03_judge_r0 k_ref03_judge_r1 k_ref03_judge_r2 k_ref03_judge_r3 k_ref03_judge_r4 k_ref03_judge_r5s k_ref03_judge_r6 k_ref03_judge_r7 k_ref03_judge_r8 k_ref03_judge_r9 k_ref03_judge_r10
attribute [go_sem] k_ref03_judge_r11 k_ref03_judge_r12 k_ref03_judge_r14 k_ref03_judge_r16 k_ref03_bounds_r0 k_ref03_bounds_r1 k_ref03_bounds_r2 k_ref03_bounds_r3 k_ref03_bounds_r4 k_ref03_bounds_r5 k_ref03_bounds_r6 k_ref03_broken_r0
attribute [go_sem] k_ref03_broken_r1 k_ref03_broken_r2 k_ref03_broken_r3 k_ref03_doubtful_r0 k_ref03_doubtful_r1 k_ref03_doubtful_r2 k_ref03_doubtful_r3 k_ref03_judge_r5_sg k_ref03_judge_r5_st k_law03_CathodeJudges k_ref03_Judge k_ref03_checkDemand
attribute [go_sem] k_ref03_judge k_ref03_bounds k_ref03_broken k_ref03_doubtful
end Go.Proofs
namespace Go.Proofs
open Go Go.Sx
attribute [local irreducible] Run

/-- A bound. -/
structure Bo where
  r : Rg
  m : Int
  low : Bool
def Bo.cs (b : Bo) : List AVal := [.int .i64 b.r.lo, .int .i64 b.r.hi, .int .i64 b.m, .bool b.low]
def Bo.v (b : Bo) : AVal := .agg b.cs
/-- What it says. -/
def Bo.val (b : Bo) : Int := if b.low then alV b.r b.m else amV b.r b.m

theorem broken_run (b : Bo) (h : b.r.lo ≤ b.r.hi) : Ans Try.prog n_ref03_broken [b.v] [] (.bool (b.val == 2)) [] := by
  obtain ⟨⟨lo, hi⟩, m, low⟩ := b
  dsimp only at h
  cases low
  · have e : (Bo.val ⟨⟨lo, hi⟩, m, false⟩ == 2) = decide (m < lo) := by
      simp only [Bo.val, amV]
      by_cases h1 : hi ≤ m
      · have : ¬ m < lo := by omega
        simp [h1, this]
      · by_cases h2 : m < lo <;> simp [h1, h2]
    rw [e]
    refine spec_run e_ref03_broken fun G => ?_
    simp only [go_sem, Bo.v, Bo.cs]
  · have e : (Bo.val ⟨⟨lo, hi⟩, m, true⟩ == 2) = decide (hi < m) := by
      simp only [Bo.val, alV]
      by_cases h1 : m ≤ lo
      · have : ¬ hi < m := by omega
        simp [h1, this]
      · by_cases h2 : hi < m <;> simp [h1, h2]
    rw [e]
    refine spec_run e_ref03_broken fun G => ?_
    simp only [go_sem, Bo.v, Bo.cs]

theorem doubtful_run (b : Bo) (h : b.r.lo ≤ b.r.hi) : Ans Try.prog n_ref03_doubtful [b.v] [] (.bool (b.val == 3)) [] := by
  have hb := broken_run b h
  obtain ⟨⟨lo, hi⟩, m, low⟩ := b
  dsimp only at h
  cases low
  · refine spec_run e_ref03_doubtful fun G => ?_
    simp only [go_sem, Bo.v, Bo.cs]
    by_cases h1 : hi ≤ m
    · have h1' : ¬ m < hi := by omega
      have e : Bo.val ⟨⟨lo, hi⟩, m, false⟩ = 1 := by simp [Bo.val, amV, h1]
      simp only [go_sem, h1', e, Int.reduceBEq]
    · have h1' : m < hi := by omega
      simp only [go_sem, h1']
      refine cP hb ?_
      by_cases h2 : m < lo
      · have e : Bo.val ⟨⟨lo, hi⟩, m, false⟩ = 2 := by simp [Bo.val, amV, h1, h2]
        simp only [go_sem, e, Int.reduceBEq]
      · have e : Bo.val ⟨⟨lo, hi⟩, m, false⟩ = 3 := by simp [Bo.val, amV, h1, h2]
        simp only [go_sem, e, Int.reduceBEq]
  · refine spec_run e_ref03_doubtful fun G => ?_
    simp only [go_sem, Bo.v, Bo.cs]
    by_cases h1 : m ≤ lo
    · have h1' : ¬ lo < m := by omega
      have e : Bo.val ⟨⟨lo, hi⟩, m, true⟩ = 1 := by simp [Bo.val, alV, h1]
      simp only [go_sem, h1', e, Int.reduceBEq]
    · have h1' : lo < m := by omega
      simp only [go_sem, h1']
      refine cP hb ?_
      by_cases h2 : hi < m
      · have e : Bo.val ⟨⟨lo, hi⟩, m, true⟩ = 2 := by simp [Bo.val, alV, h1, h2]
        simp only [go_sem, e, Int.reduceBEq]
      · have e : Bo.val ⟨⟨lo, hi⟩, m, true⟩ = 3 := by simp [Bo.val, alV, h1, h2]
        simp only [go_sem, e, Int.reduceBEq]

def eachB (d : Dm) (x : Cg) : List Bo := [⟨x.gas, d.gas, false⟩, ⟨x.wear, d.wear, false⟩, ⟨x.lost, d.lost, false⟩]
def lastB (d : Dm) (x : Cg) : List Bo := [⟨x.carb, d.rest, false⟩, ⟨x.ba, d.ba, true⟩]
theorem bounds_ff (d : Dm) (x : Cg) : Ans Try.prog n_ref03_bounds [d.v, x.v, .bool false, .bool false] [] .nilsl [] := by
  refine spec_run e_ref03_bounds fun G => ?_
  simp only [go_sem, Dm.v, Dm.cs, Cg.v, Cg.cs]
theorem bounds_tf (d : Dm) (x : Cg) : Ans Try.prog n_ref03_bounds [d.v, x.v, .bool true, .bool false] [] (.sl 0 0 3) [some (.cells true 4 ((eachB d x).map Bo.v))] := by
  refine Ans.keep (run_fn e_ref03_bounds fun G => ?_) (Nat.zero_le _) (by simp [go_sem]) ⟨by rw [row_bel_cells]; simp [go_sem, eachB, Bo.v, Bo.cs], trivial⟩
  simp only [go_sem, Dm.v, Dm.cs, Cg.v, Cg.cs]
  refine ⟨by decide, ?_⟩
  exact kept_one (x := .cells true 4 ((eachB d x).map Bo.v)) 3 rfl (by rw [row_bel_cells]; simp [go_sem, eachB, Bo.v, Bo.cs]) rfl
theorem bounds_ft (d : Dm) (x : Cg) : Ans Try.prog n_ref03_bounds [d.v, x.v, .bool false, .bool true] [] (.sl 0 0 2) [some (.cells true 4 ((lastB d x).map Bo.v))] := by
  refine Ans.keep (run_fn e_ref03_bounds fun G => ?_) (Nat.zero_le _) (by simp [go_sem]) ⟨by rw [row_bel_cells]; simp [go_sem, lastB, Bo.v, Bo.cs], trivial⟩
  simp only [go_sem, Dm.v, Dm.cs, Cg.v, Cg.cs]
  refine ⟨by decide, ?_⟩
  exact kept_one (x := .cells true 4 ((lastB d x).map Bo.v)) 3 rfl (by rw [row_bel_cells]; simp [go_sem, lastB, Bo.v, Bo.cs]) rfl
theorem bounds_tt (d : Dm) (x : Cg) : Ans Try.prog n_ref03_bounds [d.v, x.v, .bool true, .bool true] [] (.sl 0 0 5) [some (.cells true 4 ((eachB d x ++ lastB d x).map Bo.v))] := by
  refine Ans.keep (run_fn e_ref03_bounds fun G => ?_) (Nat.zero_le _) (by simp [go_sem]) ⟨by rw [row_bel_cells]; simp [go_sem, eachB, lastB, Bo.v, Bo.cs], trivial⟩
  simp only [go_sem, Dm.v, Dm.cs, Cg.v, Cg.cs]
  refine ⟨by decide, by decide, ?_⟩
  exact kept_one (x := .cells true 4 ((eachB d x ++ lastB d x).map Bo.v)) 3 rfl (by rw [row_bel_cells]; simp [go_sem, eachB, lastB, Bo.v, Bo.cs]) rfl
end Go.Proofs
namespace Go.Proofs
open Go Go.Sx
attribute [local irreducible] Run

/-- What is noted of several bounds after the i-th tick, and whether one of them is broken. -/
def bgo (i : Int) : Int × Int → List Int → (Int × Int) × Bool
  | st, [] => (st, false)
  | st, v :: vs => if v = 2 then ((2, i), true) else bgo i (noted st v i) vs
theorem bgo3 (i : Int) (st : Int × Int) {a b c : Int} (ha : a = 1 ∨ a = 2 ∨ a = 3) (hb : b = 1 ∨ b = 2 ∨ b = 3) (hc : c = 1 ∨ c = 2 ∨ c = 3) :
    bgo i st [a, b, c] = (noted st (worst 1 [a, b, c]) i, worst 1 [a, b, c] == 2) := by
  obtain ⟨v, t⟩ := st
  rcases ha with rfl | rfl | rfl <;> rcases hb with rfl | rfl | rfl <;> rcases hc with rfl | rfl | rfl <;> simp [bgo, worst, noted] <;> (try by_cases h : v = 1 <;> simp [h])
theorem bgo2 (i : Int) (st : Int × Int) {a b : Int} (ha : a = 1 ∨ a = 2 ∨ a = 3) (hb : b = 1 ∨ b = 2 ∨ b = 3) :
    (bgo i st [a, b]).1 = noted st (worst 1 [a, b]) i := by
  obtain ⟨v, t⟩ := st
  rcases ha with rfl | rfl | rfl <;> rcases hb with rfl | rfl | rfl <;> simp [bgo, worst, noted] <;> (try by_cases h : v = 1 <;> simp [h])
theorem bgo_app (i : Int) : ∀ (xs ys : List Int) (st : Int × Int), bgo i st (xs ++ ys) = if (bgo i st xs).2 = true then bgo i st xs else bgo i (bgo i st xs).1 ys
  | [], ys, st => by simp [bgo]
  | x :: xs, ys, st => by
    by_cases h : x = 2
    · simp [bgo, h]
    · have e : ∀ zs, bgo i st (x :: zs) = bgo i (noted st x i) zs := fun zs => by simp only [bgo]; rw [if_neg h]
      rw [List.cons_append, e, e]; exact bgo_app i xs ys _
def rjT (n : Nat) (v t : Int) (i : Nat) (b : AVal) : List (Nat × AVal) := [(3, .ptr 0 0 0 1), (4, .ptr 1 0 0 1), (8, .sl 2 0 n), (9, .int .i64 v), (10, .int .i64 t), (11, .int .i64 i), (12, b)]

set_option maxHeartbeats 4000000 in
theorem bd_loop {G : Ctx} {Q : Goal} {fs : List Sx.Frame} {H : Heap} {n j : Nat} {v t : Int} {i : Nat} {bs : List Bo} (hj : H.cellsAt j = some (true, 4, bs.map Bo.v)) (hl : bs.length ≤ 5) (hr : ∀ b ∈ bs, b.r.lo ≤ b.r.hi)
    (hv : v = 1 ∨ v = 3)
    (hret : ∀ (u s : Int) (p : Nat) (b : Bo), bgo i (v, t) (bs.map Bo.val) = ((2, (i : Int)), true) → Run Try.prog G 0 none 2962 (.out .ret) fs ⟨tsets 60 ([(3, .ptr 0 0 0 1), (4, .ptr 1 0 0 1), (6, .int .i64 2), (7, .int .i64 i), (8, .sl 2 0 n), (9, .int .i64 u), (10, .int .i64 s), (11, .int .i64 i), (12, .sl j 0 bs.length), (13, .int .i64 p), (36, .int .i64 p), (37, .sl j 0 bs.length), (38, .int .i64 bs.length), (39, .bool true), (42, .sl j 0 bs.length), (43, .int .i64 p), (44, .ptr j p 0 bs.length), (45, b.v), (46, .bool true), (47, .int .i64 i)]), H, []⟩ Q)
    (hgo : ∀ (u s : Int), (u = 1 ∨ u = 3) → bgo i (v, t) (bs.map Bo.val) = ((u, s), false) → Run Try.prog G 0 none 2986 (.out .normal) fs ⟨tsets 60 (rjT n u s i (.sl j 0 bs.length) ++ [(13, .int .i64 bs.length), (36, .int .i64 bs.length), (37, .sl j 0 bs.length), (38, .int .i64 bs.length), (39, .bool false)]), H, []⟩ Q)
    {ρ : List AVal} (hw : Wk ρ (tsets 60 (rjT n v t i (.sl j 0 bs.length) ++ [(13, .int .i64 0)]))) :
    Sx.Loop Try.prog G 0 none k_ref03_judge_r13 (.blk 2 :: fs) ⟨ρ, H, []⟩ Q := by
  generalize hRES : bgo i (v, t) (bs.map Bo.val) = RES
  refine loop_ind k_ref03_judge_r13.eq_1 (fun a : Nat × Int × Int => a.1 ≤ bs.length ∧ (a.2.1 = 1 ∨ a.2.1 = 3) ∧ bgo i (a.2.1, a.2.2) ((bs.drop a.1).map Bo.val) = RES) (fun a => bs.length - a.1)
    (fun a => (tsets 60 (rjT n a.2.1 a.2.2 i (.sl j 0 bs.length) ++ [(13, .int .i64 a.1)]), H)) (0, v, t) ⟨Nat.zero_le _, hv, hRES⟩ hw rfl ?_
  rintro ⟨p, u, s⟩ ⟨hp, hu, hR⟩ ih
  dsimp only at hp hu hR ih ⊢
  by_cases h1 : p < bs.length
  · have h2 : (p : Int) < bs.length := by omega
    have n0 : ¬ (p : Int) < 0 := by omega
    have hx : bs[p]? = some bs[p] := List.getElem?_eq_getElem h1
    have hbr := hr _ (List.getElem_mem h1)
    rw [List.drop_eq_getElem_cons h1] at hR
    have h3 := idx_next h1 (by omega)
    generalize bs[p] = b at *
    have g1 := broken_run b hbr
    have g2 := doubtful_run b hbr
    simp only [List.map_cons, bgo] at hR
    generalize b.val = e at *
    simp only [go_sem, rjT, hj, h2, n0, hx, List.length_map, Bo.v, Bo.cs]
    refine cP g1 ?_
    by_cases e2 : e = 2
    · rw [if_pos e2] at hR
      simp only [go_sem, e2, Int.reduceBEq]
      have := hret u s p b (by rw [hRES, ← hR])
      simp only [go_sem, Bo.v, Bo.cs] at this
      exact this
    · rw [if_neg e2] at hR
      have b2 : (e == 2) = false := by simp [e2]
      simp only [go_sem, b2, hj, h2, n0, hx, List.length_map, Bo.v, Bo.cs]
      refine cP g2 ?_
      by_cases e3 : e = 3
      · by_cases u1 : u = 1
        · simp only [go_sem, e3, u1, Int.reduceBEq, h3]
          exact ih (p + 1, 3, i) (by dsimp only; omega) ⟨h1, .inr rfl, by dsimp only; rw [← hR, e3, u1]; rfl⟩ _ (by simp [go_sem, rjT])
        · have b1 : (u == 1) = false := by simp [u1]
          simp only [go_sem, e3, b1, Int.reduceBEq, h3]
          exact ih (p + 1, u, s) (by dsimp only; omega) ⟨h1, hu, by dsimp only; rw [← hR, e3]; simp [noted, u1]⟩ _ (by simp [go_sem, rjT])
      · have b3 : (e == 3) = false := by simp [e3]
        simp only [go_sem, b3, h3]
        exact ih (p + 1, u, s) (by dsimp only; omega) ⟨h1, hu, by dsimp only; rw [← hR]; simp [noted, e2, e3]⟩ _ (by simp [go_sem, rjT])
  · have h2 : ¬ (p : Int) < bs.length := by omega
    rw [List.drop_of_length_le (by omega)] at hR
    obtain rfl : p = bs.length := by omega
    have := hgo u s hu (by rw [hRES, ← hR]; rfl)
    simp only [go_sem, rjT] at this
    simp only [go_sem, rjT, hj, h2, List.length_map]
    exact this
end Go.Proofs
namespace Go.Proofs
open Go Go.Sx

theorem at_struct {P : Program} {n : Nat} {t : TypeId} {fs : Array Field} (hu : P.underlying t = some (.struct fs)) {vs : List AVal} (h : AT P (n + 1) t vs) : ATs (AT P n) fs.toList vs := by
  unfold AT at h; rw [hu] at h; exact h
theorem at_int {P : Program} {n : Nat} {t : TypeId} {k : IntKind} (hu : P.underlying t = some (.int k)) {vs : List AVal} (h : AT P (n + 1) t vs) : ∃ m, vs = [.int k m] ∧ (Lit.int k m).wf = true := by
  unfold AT at h; rw [hu] at h; exact h
theorem at_slice {P : Program} {n : Nat} {t e : TypeId} (hu : P.underlying t = some (.slice e)) {vs : List AVal} (h : AT P (n + 1) t vs) : ∃ es, vs = [.view es] ∧ es.length ≤ maxLen ∧ ∀ x ∈ es, if aggT P e = true then ∃ ws, x = .agg ws ∧ AT P n e ws else AT P n e [x] := by
  unfold AT at h; rw [hu] at h; exact h

attribute [local irreducible] AT
set_option maxRecDepth 100000
theorem atn_int {n : Nat} {vs : List AVal} (h : AT Try.prog (n + 1) 3 vs) : ∃ m, vs = [.int .i64 m] ∧ (Lit.int .i64 m).wf = true := at_int Try.underlying3 h
theorem at_rg {n : Nat} {vs : List AVal} (h : AT Try.prog (n + 2) 23 vs) : ∃ r : Rg, vs = [.int .i64 r.lo, .int .i64 r.hi] ∧ (Lit.int .i64 r.lo).wf = true ∧ (Lit.int .i64 r.hi).wf = true := by
  obtain ⟨a, b, rfl, ha, c, d, rfl, hc, rfl⟩ := at_struct Try.underlying23 h
  obtain ⟨x, rfl, hx⟩ := atn_int ha
  obtain ⟨y, rfl, hy⟩ := atn_int hc
  exact ⟨⟨x, y⟩, rfl, hx, hy⟩
def I64 (n : Int) : Prop := (Lit.int .i64 n).wf = true
def RgW (r : Rg) : Prop := I64 r.lo ∧ I64 r.hi
def BdW (b : Bd) : Prop := I64 b.frm ∧ RgW b.conv ∧ RgW b.red ∧ RgW b.evap ∧ RgW b.sint
structure CtW (c : Ct) : Prop where
  amount : I64 c.amount
  slew : I64 c.slew
  aid : RgW c.aid
  yld : RgW c.yld
  len : c.bands.length ≤ maxLen
  all : ∀ b ∈ c.bands, BdW b
theorem at_band {n : Nat} {vs : List AVal} (h : AT Try.prog (n + 3) 49 vs) : ∃ b : Bd, vs = b.cs ∧ BdW b := by
  obtain ⟨a, _, rfl, ha, b, _, rfl, hb, c, _, rfl, hc, d, _, rfl, hd, e, _, rfl, he, rfl⟩ := at_struct Try.underlying49 h
  obtain ⟨x, rfl, hx⟩ := atn_int ha
  obtain ⟨r1, rfl, h1⟩ := at_rg hb
  obtain ⟨r2, rfl, h2⟩ := at_rg hc
  obtain ⟨r3, rfl, h3⟩ := at_rg hd
  obtain ⟨r4, rfl, h4⟩ := at_rg he
  exact ⟨⟨x, r1, r2, r3, r4⟩, rfl, hx, h1, h2, h3, h4⟩
theorem list_map {α β : Type} {f : α → β} {Q : α → Prop} : ∀ l : List β, (∀ x ∈ l, ∃ a, x = f a ∧ Q a) → ∃ l' : List α, l = l'.map f ∧ ∀ a ∈ l', Q a
  | [], _ => ⟨[], rfl, fun a ha => by simp at ha⟩
  | x :: l, h => by
    obtain ⟨a, rfl, ha⟩ := h x (by simp)
    obtain ⟨l', rfl, h'⟩ := list_map l fun y hy => h y (by simp [hy])
    exact ⟨a :: l', rfl, fun b hb => by
      rcases List.mem_cons.1 hb with rfl | hb
      · exact ha
      · exact h' b hb⟩
theorem at_bands {n : Nat} {vs : List AVal} (h : AT Try.prog (n + 4) 24 vs) : ∃ bs : List Bd, vs = [.view (bs.map Bd.v)] ∧ bs.length ≤ maxLen ∧ ∀ b ∈ bs, BdW b := by
  obtain ⟨es, rfl, hl, he⟩ := at_slice Try.underlying24 h
  have hg : aggT Try.prog 49 = true := by unfold aggT; rw [Try.underlying49]
  obtain ⟨bs, rfl, hb⟩ := list_map (f := Bd.v) (Q := BdW) es fun x hx => by
    have := he x hx
    rw [if_pos hg] at this
    obtain ⟨ws, rfl, hw⟩ := this
    obtain ⟨b, rfl, hb⟩ := at_band hw
    exact ⟨b, rfl, hb⟩
  exact ⟨bs, rfl, by simpa using hl, hb⟩
theorem at_coat {n : Nat} {vs : List AVal} (h : AT Try.prog (n + 5) 26 vs) : ∃ c : Ct, vs = c.cs (.view (c.bands.map Bd.v)) ∧ CtW c := by
  obtain ⟨a, _, rfl, ha, b, _, rfl, hb, c, _, rfl, hc, d, _, rfl, hd, e, _, rfl, he, rfl⟩ := at_struct Try.underlying26 h
  obtain ⟨x, rfl, hx⟩ := atn_int ha
  obtain ⟨y, rfl, hy⟩ := atn_int hb
  obtain ⟨r1, rfl, h1⟩ := at_rg hc
  obtain ⟨r2, rfl, h2⟩ := at_rg hd
  obtain ⟨bs, rfl, h3, h4⟩ := at_bands he
  exact ⟨⟨x, y, r1, r2, bs⟩, rfl, hx, hy, h1, h2, h3, h4⟩
structure CgW (x : Cg) : Prop where
  carb : RgW x.carb
  ox : RgW x.ox
  ba : RgW x.ba
  lost : RgW x.lost
  gas : RgW x.gas
  wear : RgW x.wear
  heat : I64 x.heat
theorem at_coating {n : Nat} {vs : List AVal} (h : AT Try.prog (n + 5) 28 vs) : ∃ x : Cg, vs = x.cs ∧ CgW x := by
  obtain ⟨a, _, rfl, ha, b, _, rfl, hb, c, _, rfl, hc, d, _, rfl, hd, e, _, rfl, he, f, _, rfl, hf, g, _, rfl, hg, rfl⟩ := at_struct Try.underlying28 h
  obtain ⟨r1, rfl, h1⟩ := at_rg ha
  obtain ⟨r2, rfl, h2⟩ := at_rg hb
  obtain ⟨r3, rfl, h3⟩ := at_rg hc
  obtain ⟨r4, rfl, h4⟩ := at_rg hd
  obtain ⟨r5, rfl, h5⟩ := at_rg he
  obtain ⟨r6, rfl, h6⟩ := at_rg hf
  obtain ⟨x, rfl, hx⟩ := atn_int hg
  exact ⟨⟨r1, r2, r3, r4, r5, r6, x⟩, rfl, h1, h2, h3, h4, h5, h6, hx⟩
theorem at_ints {n : Nat} {x : AVal} (h : AT Try.prog (n + 2) 30 [x]) : ∃ l : List Int, x = .view (l.map (.int .i64)) ∧ l.length ≤ maxLen := by
  obtain ⟨es, h1, hl, he⟩ := at_slice Try.underlying30 h
  obtain rfl : x = .view es := by simpa using h1
  have hg : ¬ aggT Try.prog 3 = true := by unfold aggT; rw [Try.underlying3]; decide
  obtain ⟨l, rfl, -⟩ := list_map (f := AVal.int .i64) (Q := fun _ => True) es fun x hx => by
    have := he x hx
    rw [if_neg hg] at this
    obtain ⟨m, hm, -⟩ := atn_int this
    exact ⟨m, by simpa using hm, trivial⟩
  exact ⟨l, rfl, by simpa using hl⟩
end Go.Proofs
namespace Go.Proofs
open Go Go.Sx
attribute [local irreducible] Run

/-- The first error of ranges. -/
def chkR (m : Int) : List Rg → Int
  | [] => 0
  | r :: rs => if 0 ≤ r.lo ∧ r.lo ≤ m then (if 0 ≤ r.hi ∧ r.hi ≤ m then (if r.hi < r.lo then 11 else chkR m rs) else 2) else 2
theorem within_no {n a b : Int} (h : ¬ (a ≤ n ∧ n ≤ b)) : Ans Try.prog n_cathode_within [.int .i64 n, .int .i64 a, .int .i64 b] [] (.bool false) [] := by
  have := within_ok n a b
  rwa [show (decide (a ≤ n) && decide (n ≤ b)) = false by simp; omega] at this

theorem checkRanges_raw (m : Int) (rs : List Rg) (hl : rs.length ≤ 1000) : Ans Try.prog n_cathode_checkRanges [.int .i64 m, .view (rs.map Rg.v)] [] (.int .i64 (chkR m rs)) [] := by
  generalize hRES : chkR m rs = RES
  refine spec_run e_cathode_checkRanges fun G => ?_
  simp only [go_sem]
  refine loop_ind k_cathode_checkRanges_r9.eq_1 (fun a : Nat × Heap => a.1 ≤ rs.length ∧ chkR m (rs.drop a.1) = RES) (fun a => rs.length - a.1)
    (fun a => ([.int .i64 m, .view (rs.map Rg.v), .any, .any, .int .i64 0, .any, .any, .view (rs.map Rg.v), .int .i64 rs.length, .int .i64 a.1] ++ List.replicate 21 .any, a.2)) (0, []) ⟨Nat.zero_le _, hRES⟩ (by simp [Wk]) rfl ?_
  rintro ⟨i, X⟩ ⟨hi, hR⟩ ih
  dsimp only at hi hR ih ⊢
  by_cases h1 : i < rs.length
  · have h2 : (i : Int) < rs.length := by omega
    have hx : rs[i]? = some rs[i] := List.getElem?_eq_getElem h1
    have h3 := idx_next h1 (by omega)
    rw [List.drop_eq_getElem_cons h1] at hR
    generalize rs[i] = z at *
    unfold chkR at hR
    simp only [go_sem, hx, h2, Rg.v]
    by_cases c1 : 0 ≤ z.lo ∧ z.lo ≤ m
    · rw [if_pos c1] at hR
      refine cP (within_yes c1) ?_
      simp only [go_sem]
      by_cases c2 : 0 ≤ z.hi ∧ z.hi ≤ m
      · rw [if_pos c2] at hR
        refine cP (within_yes c2) ?_
        simp only [go_sem, h3]
        refine ⟨fun c3 => ?_, fun c3 => ?_⟩
        · rw [if_pos c3] at hR
          exact hR
        · rw [if_neg c3] at hR
          exact ih (i + 1, _) (by dsimp only; omega) ⟨h1, hR⟩ _ (by simp [Wk])
      · rw [if_neg c2] at hR
        subst hR
        refine cP (within_no c2) ?_
        simp only [go_sem]
    · rw [if_neg c1] at hR
      subst hR
      refine cP (within_no c1) ?_
      simp only [go_sem]
  · have h2 : ¬ (i : Int) < rs.length := by omega
    rw [List.drop_of_length_le (by omega)] at hR
    subst hR
    simp only [go_sem, h2, chkR]
end Go.Proofs
namespace Go.Proofs
open Go Go.Sx
attribute [local irreducible] Run

def ordB (prev : Option Int) (x : Int) : Bool := match prev with | none => x == 0 | some p => decide (p < x)
/-- The first error of bands, behind one that begins at 'prev'. -/
def chkB (prev : Option Int) : List Bd → Int
  | [] => 0
  | b :: bs => if 0 ≤ b.frm ∧ b.frm ≤ 2000 then
      (if ordB prev b.frm = true then
        (if chkR 1000000 [b.conv, b.red, b.evap, b.sint] = 0 then chkB (some b.frm) bs else chkR 1000000 [b.conv, b.red, b.evap, b.sint])
      else 11) else 2
/-- The first error of a coat. -/
def chkC (c : Ct) : Int :=
  if 1 ≤ c.amount ∧ c.amount ≤ 1000000 then
    (if 1 ≤ c.slew ∧ c.slew ≤ 2000 then
      (if chkR 1000000 [c.aid, c.yld] = 0 then
        (if c.bands.length = 0 then 6 else if 16 < c.bands.length then 8 else chkB none c.bands)
      else chkR 1000000 [c.aid, c.yld]) else 2) else 2
def prevF (bs : List Bd) (i : Nat) : Option Int := if i = 0 then none else some (bs.getD (i - 1) default).frm

set_option maxHeartbeats 2000000 in
theorem Check_raw (c : Ct) (hl : c.bands.length ≤ 1000) : Ans Try.prog n_cathode_Check [c.v (.view (c.bands.map Bd.v))] [] (.int .i64 (chkC c)) [] := by
  have g1 := checkRanges_raw 1000000 [c.aid, c.yld] (by simp)
  generalize hRES : chkC c = RES
  unfold chkC at hRES
  refine spec_run e_cathode_Check fun G => ?_
  simp only [go_sem, Ct.v, Ct.cs]
  by_cases c1 : 1 ≤ c.amount ∧ c.amount ≤ 1000000
  rotate_left
  · rw [if_neg c1] at hRES
    subst hRES
    refine cP (within_no c1) ?_
    simp only [go_sem]
  rw [if_pos c1] at hRES
  refine cP (within_yes c1) ?_
  simp only [go_sem]
  by_cases c2 : 1 ≤ c.slew ∧ c.slew ≤ 2000
  rotate_left
  · rw [if_neg c2] at hRES
    subst hRES
    refine cP (within_no c2) ?_
    simp only [go_sem]
  rw [if_pos c2] at hRES
  refine cP (within_yes c2) ?_
  simp only [go_sem]
  refine callF0 g1 6 (by simp only [go_sem, frz, Rg.v]) ?_
  generalize chkR 1000000 [c.aid, c.yld] = e1 at *
  by_cases c3 : e1 = 0
  rotate_left
  · have b3 : (e1 != 0) = true := by simp [c3]
    rw [if_neg c3] at hRES
    subst hRES
    simp only [go_sem, b3]
    done
  rw [if_pos c3] at hRES
  subst c3
  simp only [go_sem, Int.reduceBNe]
  refine ⟨fun k1 => ?_, fun k1 => ⟨fun k2 => ?_, fun k2 => ?_⟩⟩
  · rw [if_pos (by omega)] at hRES; exact hRES
  · rw [if_neg (by omega), if_pos (by omega)] at hRES; exact hRES
  rw [if_neg (by omega), if_neg (by omega)] at hRES
  refine loop_ind k_cathode_Check_r21.eq_1 (fun a : Nat × Heap => a.1 ≤ c.bands.length ∧ chkB (prevF c.bands a.1) (c.bands.drop a.1) = RES) (fun a => c.bands.length - a.1)
    (fun a => (tsets 83 [(1, .ptr 0 0 0 1), (2, .int .i64 0), (35, .view (c.bands.map Bd.v)), (36, .int .i64 c.bands.length), (37, .int .i64 a.1)], some (.cells false 7 [c.v (.view (c.bands.map Bd.v))]) :: a.2)) (0, [_]) ⟨Nat.zero_le _, hRES⟩ (by simp [go_sem]) rfl ?_
  rintro ⟨i, X⟩ ⟨hi, hR⟩ ih
  dsimp only at hi hR ih ⊢
  by_cases h1 : i < c.bands.length
  · have h2 : (i : Int) < c.bands.length := by omega
    have hx : c.bands[i]? = some c.bands[i] := List.getElem?_eq_getElem h1
    have h3 := idx_next h1 (by omega)
    have hpn : prevF c.bands (i + 1) = some (c.bands[i]).frm := by
      unfold prevF
      rw [if_neg (by omega), Nat.add_sub_cancel, List.getD_eq_getElem?_getD, hx]; rfl
    have hpi : 0 < i → ∃ b : Bd, c.bands[i - 1]? = some b ∧ prevF c.bands i = some b.frm := fun h0 => by
      refine ⟨_, List.getElem?_eq_getElem (by omega), ?_⟩
      unfold prevF
      rw [if_neg (by omega), List.getD_eq_getElem?_getD, List.getElem?_eq_getElem (by omega)]; rfl
    have hp0 : i = 0 → prevF c.bands i = none := fun h0 => by unfold prevF; rw [if_pos h0]
    rw [List.drop_eq_getElem_cons h1] at hR
    generalize c.bands[i] = b at *
    unfold chkB at hR
    have g2 := checkRanges_raw 1000000 [b.conv, b.red, b.evap, b.sint] (by simp)
    generalize chkR 1000000 [b.conv, b.red, b.evap, b.sint] = e2 at *
    simp only [go_sem, hx, h2, Bd.v, Bd.cs, Ct.v, Ct.cs]
    by_cases c4 : 0 ≤ b.frm ∧ b.frm ≤ 2000
    rotate_left
    · rw [if_neg c4] at hR
      subst hR
      refine cP (within_no c4) ?_
      simp only [go_sem]
    rw [if_pos c4] at hR
    refine cP (within_yes c4) ?_
    by_cases h0 : i = 0
    · have hb : ((i : Int) == 0) = true := by simp [h0]
      have hg2 : ¬ (0 : Int) < i := by omega
      rw [hp0 h0] at hR
      by_cases c5 : b.frm = 0
      · have hb5 : (b.frm != 0) = false := by simp [c5]
        rw [if_pos (by simp [ordB, c5])] at hR
        simp only [go_sem, hb, hg2, hb5]
        refine callF0 g2 6 (by simp only [go_sem, frz, Rg.v]) ?_
        by_cases c6 : e2 = 0
        · rw [if_pos c6] at hR
          subst c6
          simp only [go_sem, Int.reduceBNe, h3]
          exact ih (i + 1, _) (by dsimp only; omega) ⟨h1, by dsimp only; rw [hpn]; exact hR⟩ _ (by simp [go_sem])
        · have b6 : (e2 != 0) = true := by simp [c6]
          rw [if_neg c6] at hR
          subst hR
          simp only [go_sem, b6]
      · have hb5 : (b.frm != 0) = true := by simp [c5]
        rw [if_neg (by simp [ordB, c5])] at hR
        subst hR
        simp only [go_sem, hb, hb5]
    · obtain ⟨b', hb1, hb2⟩ := hpi (by omega)
      have hb : ((i : Int) == 0) = false := by simp [h0]
      have hg2 : (0 : Int) < i := by omega
      have hg3 : IntKind.i64.wrap ((i : Int) - 1) = ((i - 1 : Nat) : Int) := by rw [w64 (by omega)]; omega
      rw [hb2] at hR
      simp only [go_sem, hb, hg2, hg3, hb1, Bd.v, Bd.cs]
      refine ⟨fun c5 => ?_, fun c5 => ?_⟩
      · have ho : ¬ ordB (some b'.frm) b.frm = true := by simp only [ordB, decide_eq_true_eq]; omega
        rw [if_neg ho] at hR
        exact hR
      · have ho : ordB (some b'.frm) b.frm = true := by simp only [ordB, decide_eq_true_eq]; omega
        rw [if_pos ho] at hR
        refine callF0 g2 6 (by simp only [go_sem, frz, Rg.v]) ?_
        by_cases c6 : e2 = 0
        · rw [if_pos c6] at hR
          subst c6
          simp only [go_sem, Int.reduceBNe, h3]
          exact ih (i + 1, _) (by dsimp only; omega) ⟨h1, by dsimp only; rw [hpn]; exact hR⟩ _ (by simp [go_sem])
        · have b6 : (e2 != 0) = true := by simp [c6]
          rw [if_neg c6] at hR
          subst hR
          simp only [go_sem, b6]
  · have h2 : ¬ (i : Int) < c.bands.length := by omega
    rw [List.drop_of_length_le (by omega)] at hR
    subst hR
    simp only [go_sem, h2, chkB]
end Go.Proofs
namespace Go.Proofs
open Go Go.Sx

theorem chkR_zero {m : Int} : ∀ {rs : List Rg}, chkR m rs = 0 → ∀ r ∈ rs, (0 ≤ r.lo ∧ r.lo ≤ m) ∧ (0 ≤ r.hi ∧ r.hi ≤ m) ∧ r.lo ≤ r.hi
  | [], _, r, hr => by simp at hr
  | x :: rs, h, r, hr => by
    unfold chkR at h
    by_cases c1 : 0 ≤ x.lo ∧ x.lo ≤ m
    rotate_left
    · rw [if_neg c1] at h; simp at h
    rw [if_pos c1] at h
    by_cases c2 : 0 ≤ x.hi ∧ x.hi ≤ m
    rotate_left
    · rw [if_neg c2] at h; simp at h
    rw [if_pos c2] at h
    by_cases c3 : x.hi < x.lo
    · rw [if_pos c3] at h; simp at h
    rw [if_neg c3] at h
    rcases List.mem_cons.1 hr with rfl | hr
    · exact ⟨c1, c2, by omega⟩
    · exact chkR_zero h r hr
theorem chkB_zero : ∀ {bs : List Bd} {prev : Option Int}, chkB prev bs = 0 → (∀ b ∈ bs, (0 ≤ b.frm ∧ b.frm ≤ 2000) ∧ chkR 1000000 [b.conv, b.red, b.evap, b.sint] = 0) ∧ (∀ b, bs[0]? = some b → ordB prev b.frm = true) ∧ ∀ i b b', bs[i]? = some b → bs[i + 1]? = some b' → b.frm < b'.frm
  | [], _, _ => ⟨fun b hb => by simp at hb, fun b hb => by simp at hb, fun i b b' hb => by simp at hb⟩
  | x :: bs, prev, h => by
    unfold chkB at h
    by_cases c1 : 0 ≤ x.frm ∧ x.frm ≤ 2000
    rotate_left
    · rw [if_neg c1] at h; simp at h
    rw [if_pos c1] at h
    by_cases c2 : ordB prev x.frm = true
    rotate_left
    · rw [if_neg c2] at h; simp at h
    rw [if_pos c2] at h
    by_cases c3 : chkR 1000000 [x.conv, x.red, x.evap, x.sint] = 0
    rotate_left
    · rw [if_neg c3] at h; exact absurd h c3
    rw [if_pos c3] at h
    obtain ⟨h1, h2, h3⟩ := chkB_zero h
    refine ⟨fun b hb => ?_, fun b hb => ?_, fun i b b' hb hb' => ?_⟩
    · rcases List.mem_cons.1 hb with rfl | hb
      · exact ⟨c1, c3⟩
      · exact h1 b hb
    · simp only [List.getElem?_cons_zero, Option.some.injEq] at hb
      subst hb; exact c2
    · cases i with
      | zero =>
        simp only [List.getElem?_cons_zero, Option.some.injEq] at hb
        subst hb
        have := h2 b' hb'
        simpa [ordB] using this
      | succ i => exact h3 i b b' hb hb'

/-- A coat that the check lets by keeps the rules. -/
theorem chkC_ok {c : Ct} (h : chkC c = 0) : CtOK c := by
  unfold chkC at h
  by_cases c1 : 1 ≤ c.amount ∧ c.amount ≤ 1000000
  rotate_left
  · rw [if_neg c1] at h; simp at h
  rw [if_pos c1] at h
  by_cases c2 : 1 ≤ c.slew ∧ c.slew ≤ 2000
  rotate_left
  · rw [if_neg c2] at h; simp at h
  rw [if_pos c2] at h
  by_cases c3 : chkR 1000000 [c.aid, c.yld] = 0
  rotate_left
  · rw [if_neg c3] at h; exact absurd h c3
  rw [if_pos c3] at h
  by_cases c4 : c.bands.length = 0
  · rw [if_pos c4] at h; simp at h
  rw [if_neg c4] at h
  by_cases c5 : 16 < c.bands.length
  · rw [if_pos c5] at h; simp at h
  rw [if_neg c5] at h
  obtain ⟨h1, h2, h3⟩ := chkB_zero h
  have hr := chkR_zero c3
  have ha := hr c.aid (by simp)
  have hy := hr c.yld (by simp)
  have g : ∀ i, i < c.bands.length → c.bands[i]? = some (c.bands.getD i default) := fun i hi => by simp [hi]
  refine ⟨c1, c2, ⟨by omega, by omega, by omega⟩, ⟨by omega, by omega, by omega⟩, by omega, ?_, fun i hi => h3 i _ _ (g i (by omega)) (g (i + 1) hi), fun b hb => ?_⟩
  · have := h2 _ (g 0 (by omega))
    simpa [ordB] using this
  · obtain ⟨q1, q2⟩ := h1 b hb
    have q := chkR_zero q2
    have r1 := q b.conv (by simp)
    have r2 := q b.red (by simp)
    have r3 := q b.evap (by simp)
    have r4 := q b.sint (by simp)
    exact ⟨q1, ⟨by omega, by omega, by omega⟩, ⟨by omega, by omega, by omega⟩, ⟨by omega, by omega, by omega⟩, ⟨by omega, by omega, by omega⟩⟩
end Go.Proofs
namespace Go.Proofs
open Go Go.Sx
attribute [local irreducible] Run

theorem beyond_yes {n a b : Int} (h : ¬ (a ≤ n ∧ n ≤ b)) : Ans Try.prog n_ref03_beyond [.int .i64 n, .int .i64 a, .int .i64 b] [] (.bool true) [] := by
  refine spec_run e_ref03_beyond fun G => ?_
  by_cases h1 : n < a
  · simp only [go_sem, h1]
  · have h2 : b < n := by omega
    simp only [go_sem, h1, h2]
theorem rcheckRange_raw (r : Rg) (m : Int) : Ans Try.prog n_ref03_checkRange [r.v, .int .i64 m] [] (.int .i64 (chkR m [r])) [] := by
  unfold chkR chkR
  refine spec_run e_ref03_checkRange fun G => ?_
  simp only [go_sem, Rg.v]
  by_cases c1 : 0 ≤ r.lo ∧ r.lo ≤ m
  rotate_left
  · rw [if_neg c1]
    refine cP (beyond_yes c1) ?_
    simp only [go_sem]
  rw [if_pos c1]
  refine cP (beyond_no c1) ?_
  simp only [go_sem]
  by_cases c2 : 0 ≤ r.hi ∧ r.hi ≤ m
  rotate_left
  · rw [if_neg c2]
    refine cP (beyond_yes c2) ?_
    simp only [go_sem]
  rw [if_pos c2]
  refine cP (beyond_no c2) ?_
  simp only [go_sem]
  refine ⟨fun c3 => ?_, fun c3 => ?_⟩
  · rw [if_pos c3]
  · rw [if_neg c3]
theorem chkR_cons (m : Int) (r : Rg) (rs : List Rg) : chkR m (r :: rs) = if chkR m [r] = 0 then chkR m rs else chkR m [r] := by
  simp only [chkR]
  by_cases c1 : 0 ≤ r.lo ∧ r.lo ≤ m
  · by_cases c2 : 0 ≤ r.hi ∧ r.hi ≤ m
    · by_cases c3 : r.hi < r.lo
      · simp [c1, c2, c3]
      · simp [c1, c2, c3]
    · simp [c1, c2]
  · simp [c1]

theorem rcheckRanges_raw (m : Int) (rs : List Rg) (hl : rs.length ≤ 1000) : Ans Try.prog n_ref03_checkRanges [.view (rs.map Rg.v), .int .i64 m] [] (.int .i64 (chkR m rs)) [] := by
  generalize hRES : chkR m rs = RES
  refine spec_run e_ref03_checkRanges fun G => ?_
  simp only [go_sem]
  refine loop_ind k_ref03_checkRanges_r7.eq_1 (fun a : Nat × Heap => a.1 ≤ rs.length ∧ chkR m (rs.drop a.1) = RES) (fun a => rs.length - a.1)
    (fun a => (tsets 22 [(0, .view (rs.map Rg.v)), (1, .int .i64 m), (5, .int .i64 a.1)], a.2)) (0, []) ⟨Nat.zero_le _, hRES⟩ (by simp [go_sem]) rfl ?_
  rintro ⟨i, X⟩ ⟨hi, hR⟩ ih
  dsimp only at hi hR ih ⊢
  by_cases h1 : i < rs.length
  · have h2 : (i : Int) < rs.length := by omega
    have n0 : ¬ (i : Int) < 0 := by omega
    have hx : rs[i]? = some rs[i] := List.getElem?_eq_getElem h1
    have h3 := idx_next h1 (by omega)
    rw [List.drop_eq_getElem_cons h1, chkR_cons] at hR
    generalize rs[i] = z at *
    have hr := rcheckRange_raw z m
    generalize chkR m [z] = e1 at *
    simp only [go_sem, hx, h2, n0, Rg.v, List.length_map]
    refine cP hr ?_
    by_cases c1 : e1 = 0
    · rw [if_pos c1] at hR
      subst c1
      simp only [go_sem, Int.reduceBNe, h3]
      exact ih (i + 1, _) (by dsimp only; omega) ⟨h1, hR⟩ _ (by simp [go_sem])
    · have b1 : (e1 != 0) = true := by simp [c1]
      rw [if_neg c1] at hR
      subst hR
      simp only [go_sem, b1]
  · have h2 : ¬ (i : Int) < rs.length := by omega
    rw [List.drop_of_length_le (by omega)] at hR
    subst hR
    simp only [go_sem, h2, chkR, List.length_map]

set_option maxHeartbeats 2000000 in
theorem rCheck_raw (c : Ct) (hl : c.bands.length ≤ 1000) : Ans Try.prog n_ref03_Check [c.v (.view (c.bands.map Bd.v))] [] (.int .i64 (chkC c)) [] := by
  have g1 := rcheckRanges_raw 1000000 [c.aid, c.yld] (by simp)
  generalize hRES : chkC c = RES
  unfold chkC at hRES
  refine spec_run e_ref03_Check fun G => ?_
  simp only [go_sem, Ct.v, Ct.cs]
  by_cases c1 : 1 ≤ c.amount ∧ c.amount ≤ 1000000
  rotate_left
  · rw [if_neg c1] at hRES
    subst hRES
    refine cP (beyond_yes c1) ?_
    simp only [go_sem]
  rw [if_pos c1] at hRES
  refine cP (beyond_no c1) ?_
  simp only [go_sem]
  by_cases c2 : 1 ≤ c.slew ∧ c.slew ≤ 2000
  rotate_left
  · rw [if_neg c2] at hRES
    subst hRES
    refine cP (beyond_yes c2) ?_
    simp only [go_sem]
  rw [if_pos c2] at hRES
  refine cP (beyond_no c2) ?_
  simp only [go_sem]
  refine cF g1 6 (by simp only [go_sem, frz, Rg.v]) ?_
  generalize chkR 1000000 [c.aid, c.yld] = e1 at *
  by_cases c3 : e1 = 0
  rotate_left
  · have b3 : (e1 != 0) = true := by simp [c3]
    rw [if_neg c3] at hRES
    subst hRES
    simp only [go_sem, b3]
    done
  rw [if_pos c3] at hRES
  subst c3
  simp only [go_sem, Int.reduceBNe, List.length_map]
  refine ⟨fun k1 => ?_, fun k1 => ⟨fun k2 => ?_, fun k2 => ?_⟩⟩
  · rw [if_pos (by omega)] at hRES; exact hRES
  · rw [if_neg (by omega), if_pos (by omega)] at hRES; exact hRES
  rw [if_neg (by omega), if_neg (by omega)] at hRES
  refine loop_ind k_ref03_Check_r21.eq_1 (fun a : Nat × Heap => a.1 ≤ c.bands.length ∧ chkB (prevF c.bands a.1) (c.bands.drop a.1) = RES) (fun a => c.bands.length - a.1)
    (fun a => (tsets 83 [(1, .ptr 0 0 0 1), (2, .int .i64 0), (4, .int .i64 a.1)], some (.cells false 7 [c.v (.view (c.bands.map Bd.v))]) :: a.2)) (0, [_]) ⟨Nat.zero_le _, hRES⟩ (by simp [go_sem]) rfl ?_
  rintro ⟨i, X⟩ ⟨hi, hR⟩ ih
  dsimp only at hi hR ih ⊢
  by_cases h1 : i < c.bands.length
  · have h2 : (i : Int) < c.bands.length := by omega
    have hx : c.bands[i]? = some c.bands[i] := List.getElem?_eq_getElem h1
    have h3 := idx_next h1 (by omega)
    have n0 : ¬ (i : Int) < 0 := by omega
    have hpn : prevF c.bands (i + 1) = some (c.bands[i]).frm := by
      unfold prevF
      rw [if_neg (by omega), Nat.add_sub_cancel, List.getD_eq_getElem?_getD, hx]; rfl
    have hpi : 0 < i → ∃ b : Bd, c.bands[i - 1]? = some b ∧ prevF c.bands i = some b.frm := fun h0 => by
      refine ⟨_, List.getElem?_eq_getElem (by omega), ?_⟩
      unfold prevF
      rw [if_neg (by omega), List.getD_eq_getElem?_getD, List.getElem?_eq_getElem (by omega)]; rfl
    have hp0 : i = 0 → prevF c.bands i = none := fun h0 => by unfold prevF; rw [if_pos h0]
    rw [List.drop_eq_getElem_cons h1] at hR
    generalize c.bands[i] = b at *
    unfold chkB at hR
    have g2 := rcheckRanges_raw 1000000 [b.conv, b.red, b.evap, b.sint] (by simp)
    generalize chkR 1000000 [b.conv, b.red, b.evap, b.sint] = e2 at *
    simp only [go_sem, hx, h2, n0, Bd.v, Bd.cs, Ct.v, Ct.cs, List.length_map]
    by_cases c4 : 0 ≤ b.frm ∧ b.frm ≤ 2000
    rotate_left
    · rw [if_neg c4] at hR
      subst hR
      refine cP (beyond_yes c4) ?_
      simp only [go_sem]
    rw [if_pos c4] at hR
    refine cP (beyond_no c4) ?_
    by_cases h0 : i = 0
    · have hb : ((i : Int) == 0) = true := by simp [h0]
      have hg2 : ¬ (0 : Int) < i := by omega
      rw [hp0 h0] at hR
      by_cases c5 : b.frm = 0
      · have hb5 : (b.frm != 0) = false := by simp [c5]
        rw [if_pos (by simp [ordB, c5])] at hR
        simp only [go_sem, hb, hg2, hb5]
        refine cF g2 6 (by simp only [go_sem, frz, Rg.v]) ?_
        by_cases c6 : e2 = 0
        · rw [if_pos c6] at hR
          subst c6
          simp only [go_sem, Int.reduceBNe, h3]
          exact ih (i + 1, _) (by dsimp only; omega) ⟨h1, by dsimp only; rw [hpn]; exact hR⟩ _ (by simp [go_sem])
        · have b6 : (e2 != 0) = true := by simp [c6]
          rw [if_neg c6] at hR
          subst hR
          simp only [go_sem, b6]
      · have hb5 : (b.frm != 0) = true := by simp [c5]
        rw [if_neg (by simp [ordB, c5])] at hR
        subst hR
        simp only [go_sem, hb, hb5]
    · obtain ⟨b', hb1, hb2⟩ := hpi (by omega)
      have hb : ((i : Int) == 0) = false := by simp [h0]
      have hg2 : (0 : Int) < i := by omega
      have hg3 : IntKind.i64.wrap ((i : Int) - 1) = ((i - 1 : Nat) : Int) := by rw [w64 (by omega)]; omega
      rw [hb2] at hR
      simp only [go_sem, hb, hg2, hg3, hb1, Bd.v, Bd.cs]
      refine ⟨fun c5 => ?_, fun c5 => ?_⟩
      · have ho : ¬ ordB (some b'.frm) b.frm = true := by simp only [ordB, decide_eq_true_eq]; omega
        rw [if_neg ho] at hR
        exact hR
      · have ho : ordB (some b'.frm) b.frm = true := by simp only [ordB, decide_eq_true_eq]; omega
        rw [if_pos ho] at hR
        refine cF g2 6 (by simp only [go_sem, frz, Rg.v]) ?_
        by_cases c6 : e2 = 0
        · rw [if_pos c6] at hR
          subst c6
          simp only [go_sem, Int.reduceBNe, h3]
          exact ih (i + 1, _) (by dsimp only; omega) ⟨h1, by dsimp only; rw [hpn]; exact hR⟩ _ (by simp [go_sem])
        · have b6 : (e2 != 0) = true := by simp [c6]
          rw [if_neg c6] at hR
          subst hR
          simp only [go_sem, b6]
  · have h2 : ¬ (i : Int) < c.bands.length := by omega
    rw [List.drop_of_length_le (by omega)] at hR
    subst hR
    simp only [go_sem, h2, chkB, List.length_map, Ct.v, Ct.cs]
end Go.Proofs
namespace Go.Proofs
open Go Go.Sx
attribute [local irreducible] Run

def okW (n : Int) : Prop := 0 ≤ n ∧ n ≤ 1099511627776
instance (n : Int) : Decidable (okW n) := inferInstanceAs (Decidable (_ ∧ _))
/-- The first error of a demand. -/
def chkD (d : Dm) : Int := if okW d.gas then (if okW d.wear then (if okW d.lost then (if okW d.rest then (if okW d.ba then 0 else 2) else 2) else 2) else 2) else 2
def chkCD (c : Ct) (d : Dm) : Int := if chkC c = 0 then chkD d else chkC c

theorem checkDemand_raw (c : Ct) (hl : c.bands.length ≤ 1000) (d : Dm) : Ans Try.prog n_cathode_checkDemand [c.v (.view (c.bands.map Bd.v)), d.v] [] (.int .i64 (chkCD c d)) [] := by
  have g := Check_raw c hl
  have u1 : IntKind.i64.wrap 1 = 1 := rfl
  have u2 : IntKind.i64.wrap 2 = 2 := rfl
  have u3 : IntKind.i64.wrap 3 = 3 := rfl
  have u4 : IntKind.i64.wrap 4 = 4 := rfl
  have u5 : IntKind.i64.wrap 5 = 5 := rfl
  generalize hRES : chkCD c d = RES
  unfold chkCD chkD at hRES
  refine spec_run e_cathode_checkDemand fun G => ?_
  simp only [go_sem, Ct.v, Ct.cs, Dm.v, Dm.cs]
  refine cP g ?_
  generalize chkC c = e0 at *
  by_cases c0 : e0 = 0
  rotate_left
  · have b0 : (e0 != 0) = true := by simp [c0]
    rw [if_neg c0] at hRES
    subst hRES
    simp only [go_sem, b0]
  rw [if_pos c0] at hRES
  subst c0
  simp only [go_sem, Int.reduceBNe]
  refine loop_body 200 k_cathode_checkDemand_r10.eq_1 ?_
  simp only [go_sem]
  by_cases c1 : okW d.gas
  rotate_left
  · rw [if_neg c1] at hRES
    subst hRES
    refine cP (within_no c1) ?_
    simp only [go_sem]
  rw [if_pos c1] at hRES
  refine cP (within_yes c1) ?_
  simp only [go_sem, u1]
  refine loop_body 200 k_cathode_checkDemand_r10.eq_1 ?_
  simp only [go_sem]
  by_cases c2 : okW d.wear
  rotate_left
  · rw [if_neg c2] at hRES
    subst hRES
    refine cP (within_no c2) ?_
    simp only [go_sem]
  rw [if_pos c2] at hRES
  refine cP (within_yes c2) ?_
  simp only [go_sem, u2]
  refine loop_body 200 k_cathode_checkDemand_r10.eq_1 ?_
  simp only [go_sem]
  by_cases c3 : okW d.lost
  rotate_left
  · rw [if_neg c3] at hRES
    subst hRES
    refine cP (within_no c3) ?_
    simp only [go_sem]
  rw [if_pos c3] at hRES
  refine cP (within_yes c3) ?_
  simp only [go_sem, u3]
  refine loop_body 200 k_cathode_checkDemand_r10.eq_1 ?_
  simp only [go_sem]
  by_cases c4 : okW d.rest
  rotate_left
  · rw [if_neg c4] at hRES
    subst hRES
    refine cP (within_no c4) ?_
    simp only [go_sem]
  rw [if_pos c4] at hRES
  refine cP (within_yes c4) ?_
  simp only [go_sem, u4]
  refine loop_body 200 k_cathode_checkDemand_r10.eq_1 ?_
  simp only [go_sem]
  by_cases c5 : okW d.ba
  rotate_left
  · rw [if_neg c5] at hRES
    subst hRES
    refine cP (within_no c5) ?_
    simp only [go_sem]
  rw [if_pos c5] at hRES
  subst hRES
  refine cP (within_yes c5) ?_
  simp only [go_sem, u5]
  refine loop_body 200 k_cathode_checkDemand_r10.eq_1 ?_
  simp only [go_sem]

theorem rcheckDemand_raw (d : Dm) : Ans Try.prog n_ref03_checkDemand [d.v] [] (.int .i64 (chkD d)) [] := by
  have u1 : IntKind.i64.wrap 1 = 1 := rfl
  have u2 : IntKind.i64.wrap 2 = 2 := rfl
  have u3 : IntKind.i64.wrap 3 = 3 := rfl
  have u4 : IntKind.i64.wrap 4 = 4 := rfl
  have u5 : IntKind.i64.wrap 5 = 5 := rfl
  generalize hRES : chkD d = RES
  unfold chkD at hRES
  refine spec_run e_ref03_checkDemand fun G => ?_
  simp only [go_sem, Dm.v, Dm.cs]
  refine loop_body 200 k_ref03_checkDemand_r7.eq_1 ?_
  simp only [go_sem]
  by_cases c1 : okW d.gas
  rotate_left
  · rw [if_neg c1] at hRES
    subst hRES
    refine cP (beyond_yes c1) ?_
    simp only [go_sem]
  rw [if_pos c1] at hRES
  refine cP (beyond_no c1) ?_
  simp only [go_sem, u1]
  refine loop_body 200 k_ref03_checkDemand_r7.eq_1 ?_
  simp only [go_sem]
  by_cases c2 : okW d.wear
  rotate_left
  · rw [if_neg c2] at hRES
    subst hRES
    refine cP (beyond_yes c2) ?_
    simp only [go_sem]
  rw [if_pos c2] at hRES
  refine cP (beyond_no c2) ?_
  simp only [go_sem, u2]
  refine loop_body 200 k_ref03_checkDemand_r7.eq_1 ?_
  simp only [go_sem]
  by_cases c3 : okW d.lost
  rotate_left
  · rw [if_neg c3] at hRES
    subst hRES
    refine cP (beyond_yes c3) ?_
    simp only [go_sem]
  rw [if_pos c3] at hRES
  refine cP (beyond_no c3) ?_
  simp only [go_sem, u3]
  refine loop_body 200 k_ref03_checkDemand_r7.eq_1 ?_
  simp only [go_sem]
  by_cases c4 : okW d.rest
  rotate_left
  · rw [if_neg c4] at hRES
    subst hRES
    refine cP (beyond_yes c4) ?_
    simp only [go_sem]
  rw [if_pos c4] at hRES
  refine cP (beyond_no c4) ?_
  simp only [go_sem, u4]
  refine loop_body 200 k_ref03_checkDemand_r7.eq_1 ?_
  simp only [go_sem]
  by_cases c5 : okW d.ba
  rotate_left
  · rw [if_neg c5] at hRES
    subst hRES
    refine cP (beyond_yes c5) ?_
    simp only [go_sem]
  rw [if_pos c5] at hRES
  refine cP (beyond_no c5) ?_
  simp only [go_sem, u5]
  subst hRES
  refine loop_body 200 k_ref03_checkDemand_r7.eq_1 ?_
  simp only [go_sem]
end Go.Proofs
