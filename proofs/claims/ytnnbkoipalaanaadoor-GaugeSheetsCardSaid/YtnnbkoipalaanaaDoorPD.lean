/- A part of the proof. -/
import Derived.Test.YtnnbkoipalaanaaDoorPC
set_option linter.unusedSimpArgs false
set_option linter.unusedVariables false
namespace Go.Proofs
open Go Go.Sx

def k_ref07_True_r0 : List AOper := [
  ⟨(some (6)), .box (.const (.agg [.int .i64 0, .int .i64 0])), none, []⟩, 
  ⟨(some (7)), .move (.const (.int .i64 0)), none, []⟩]
def k_ref07_True_r1 : List AOper := [
  ⟨(some (11)), .move (.tmp 0), none, []⟩, 
  ⟨(some (12)), .call (.const (.fn (.func 24) [] [])) [.tmp 11], none, []⟩, 
  ⟨(some (8)), .move (.tmp 12), none, []⟩]
def k_ref07_True_r2 : List AOper := [
  ⟨(some (13)), .move (.tmp 8), none, []⟩, 
  ⟨(some (14)), .bin .plain .neq (.tmp 13) (.const (.int .i64 0)), none, []⟩]
def k_ref07_True_r3 : List AOper := [
  ⟨(some (15)), .build [.int .i64 0, .int .i64 0] [], none, []⟩, 
  ⟨(some (16)), .move (.tmp 8), none, []⟩, 
  ⟨none, .store 2 (.tmp 6) (.tmp 15), none, []⟩, 
  ⟨(some (7)), .move (.tmp 16), none, []⟩]
def k_ref07_True_r4 : List AOper := [
  ⟨(some (17)), .move (.tmp 1), none, []⟩, 
  ⟨(some (18)), .move (.tmp 0), none, []⟩, 
  ⟨(some (19)), .len false (.tmp 18), none, []⟩, 
  ⟨(some (20)), .bin .plain .sub (.tmp 19) (.const (.int .i64 1)), none, []⟩, 
  ⟨(some (21)), .call (.const (.fn (.func 58) [] [])) [.tmp 17, .const (.int .i64 0), .tmp 20], none, []⟩]
def k_ref07_True_r5 : List AOper := [
  ⟨(some (22)), .build [.int .i64 0, .int .i64 0] [], none, []⟩, 
  ⟨none, .store 2 (.tmp 6) (.tmp 22), none, []⟩, 
  ⟨(some (7)), .move (.const (.int .i64 7)), none, []⟩]
def k_ref07_True_r6 : List AOper := [
  ⟨(some (23)), .move (.tmp 2), none, []⟩, 
  ⟨(some (24)), .call (.const (.fn (.func 58) [] [])) [.tmp 23, .const (.int .i64 (-1000000000)), .const (.int .i64 1000000000)], none, []⟩]
def k_ref07_True_r7 : List AOper := [
  ⟨(some (25)), .build [.int .i64 0, .int .i64 0] [], none, []⟩, 
  ⟨none, .store 2 (.tmp 6) (.tmp 25), none, []⟩, 
  ⟨(some (7)), .move (.const (.int .i64 2)), none, []⟩]
def k_ref07_True_r8 : List AOper := [
  ⟨(some (26)), .move (.tmp 2), none, []⟩, 
  ⟨(some (27)), .move (.tmp 0), none, []⟩, 
  ⟨(some (28)), .move (.tmp 1), none, []⟩, 
  ⟨(some (29)), .indexAddr 7 (.tmp 27) (.tmp 28), none, []⟩, 
  ⟨(some (30)), .fieldAddr 4 (.tmp 29), none, []⟩, 
  ⟨(some (31)), .load none (.tmp 30), none, []⟩, 
  ⟨(some (32)), .bin .plain .rem (.tmp 26) (.tmp 31), none, []⟩, 
  ⟨(some (33)), .bin .plain .neq (.tmp 32) (.const (.int .i64 0)), none, []⟩]
def k_ref07_True_r9 : List AOper := [
  ⟨(some (34)), .build [.int .i64 0, .int .i64 0] [], none, []⟩, 
  ⟨none, .store 2 (.tmp 6) (.tmp 34), none, []⟩, 
  ⟨(some (7)), .move (.const (.int .i64 3)), none, []⟩]
def k_ref07_True_r10 : List AOper := [
  ⟨(some (36)), .move (.tmp 0), none, []⟩, 
  ⟨(some (37)), .move (.tmp 1), none, []⟩, 
  ⟨(some (38)), .move (.tmp 2), none, []⟩, 
  ⟨(some (39)), .call (.const (.fn (.func 69) [] [])) [.tmp 36, .tmp 37, .tmp 38], none, []⟩, 
  ⟨(some (35)), .move (.tmp 39), none, []⟩, 
  ⟨(some (40)), .extract (.tmp 35) 0, none, []⟩, 
  ⟨(some (41)), .extract (.tmp 35) 1, none, []⟩, 
  ⟨(some (9)), .box (.const (.agg [.int .i64 0, .int .i64 0])), none, []⟩, 
  ⟨none, .store 2 (.tmp 9) (.tmp 40), none, []⟩, 
  ⟨(some (10)), .move (.tmp 41), none, []⟩]
def k_ref07_True_r11 : List AOper := [
  ⟨(some (42)), .move (.tmp 10), none, []⟩, 
  ⟨(some (43)), .not (.tmp 42), none, []⟩]
def k_ref07_True_r12 : List AOper := [
  ⟨(some (44)), .build [.int .i64 0, .int .i64 0] [], none, []⟩, 
  ⟨none, .store 2 (.tmp 6) (.tmp 44), none, []⟩, 
  ⟨(some (7)), .move (.const (.int .i64 12)), none, []⟩]
def k_ref07_True_r13 : List AOper := [
  ⟨(some (45)), .load (some (2)) (.tmp 9), none, []⟩, 
  ⟨none, .store 2 (.tmp 6) (.tmp 45), none, []⟩, 
  ⟨(some (7)), .move (.const (.int .i64 0)), none, []⟩]
def k_ref07_True : AFun := { params := 3, ntmps := 46, body := (.seq (.reg k_ref07_True_r0 false) (.seq (.seq (.reg k_ref07_True_r1 false) (.seq (.reg k_ref07_True_r2 false) (.cond (.tmp 14) (.seq (.reg k_ref07_True_r3 false) .ret) .skip))) (.seq (.seq (.reg k_ref07_True_r4 false) (.cond (.tmp 21) (.seq (.reg k_ref07_True_r5 false) .ret) .skip)) (.seq (.seq (.reg k_ref07_True_r6 false) (.cond (.tmp 24) (.seq (.reg k_ref07_True_r7 false) .ret) .skip)) (.seq (.seq (.reg k_ref07_True_r8 false) (.cond (.tmp 33) (.seq (.reg k_ref07_True_r9 false) .ret) .skip)) (.seq (.reg k_ref07_True_r10 false) (.seq (.seq (.reg k_ref07_True_r11 false) (.cond (.tmp 43) (.seq (.reg k_ref07_True_r12 false) .ret) .skip)) (.seq (.reg k_ref07_True_r13 false) .ret)))))))), res := [.cell 6 (some ((some (2)))), .tmp 7] }
theorem k_ref07_True_ok : cfun Tryd.prog Tryd.f33 = k_ref07_True := by kernel_rfl

def k_ref07_before_r0 : List AOper := [
  ⟨(some (6)), .box (.const (.agg [.int .i64 0, .int .i64 0])), none, []⟩, 
  ⟨(some (7)), .move (.const (.bool false)), none, []⟩]
def k_ref07_before_r1 : List AOper := [
  ⟨(some (14)), .move (.tmp 0), none, []⟩, 
  ⟨(some (15)), .move (.tmp 1), none, []⟩, 
  ⟨(some (16)), .indexAddr 7 (.tmp 14) (.tmp 15), none, []⟩, 
  ⟨(some (17)), .fieldAddr 4 (.tmp 16), none, []⟩, 
  ⟨(some (18)), .load none (.tmp 17), none, []⟩, 
  ⟨(some (19)), .bin .plain .quo (.tmp 18) (.const (.int .i64 2)), none, []⟩, 
  ⟨(some (8)), .move (.tmp 19), none, []⟩]
def k_ref07_before_r2 : List AOper := [
  ⟨(some (20)), .move (.tmp 2), none, []⟩, 
  ⟨(some (21)), .move (.tmp 8), none, []⟩, 
  ⟨(some (22)), .bin .plain .sub (.tmp 20) (.tmp 21), none, []⟩, 
  ⟨(some (23)), .move (.tmp 2), none, []⟩, 
  ⟨(some (24)), .move (.tmp 8), none, []⟩, 
  ⟨(some (25)), .bin .plain .add (.tmp 23) (.tmp 24), none, []⟩, 
  ⟨(some (26)), .build [.int .i64 0, .int .i64 0] [(0, 1, .tmp 22), (1, 1, .tmp 25)], none, []⟩, 
  ⟨(some (9)), .box (.const (.agg [.int .i64 0, .int .i64 0])), none, []⟩, 
  ⟨none, .store 2 (.tmp 9) (.tmp 26), none, []⟩]
def k_ref07_before_r3 : List AOper := [
  ⟨(some (28)), .move (.tmp 0), none, []⟩, 
  ⟨(some (29)), .move (.tmp 1), none, []⟩, 
  ⟨(some (30)), .call (.const (.fn (.func 59) [] [])) [.tmp 28, .tmp 29], none, []⟩, 
  ⟨(some (27)), .move (.tmp 30), none, []⟩, 
  ⟨(some (31)), .extract (.tmp 27) 0, none, []⟩, 
  ⟨(some (32)), .extract (.tmp 27) 1, none, []⟩, 
  ⟨(some (10)), .move (.tmp 31), none, []⟩, 
  ⟨(some (11)), .move (.tmp 32), none, []⟩]
def k_ref07_before_r4 : List AOper := [
  ⟨(some (12)), .move (.const (.bool true)), none, []⟩]
def k_ref07_before_r5 : List AOper := [
  ⟨(some (13)), .move (.const (.int .i64 0)), none, []⟩]
def k_ref07_before_r6 : List AOper := [
  ⟨(some (33)), .move (.tmp 13), none, []⟩, 
  ⟨(some (34)), .move (.tmp 10), none, []⟩, 
  ⟨(some (35)), .len false (.tmp 34), none, []⟩, 
  ⟨(some (36)), .bin .plain .lss (.tmp 33) (.tmp 35), none, []⟩]
def k_ref07_before_r7 : List AOper := [
  ⟨(some (39)), .move (.tmp 0), none, []⟩, 
  ⟨(some (40)), .move (.tmp 10), none, [0]⟩, 
  ⟨(some (41)), .move (.tmp 13), none, [0, 1]⟩, 
  ⟨(some (42)), .indexAddr 1 (.tmp 40) (.tmp 41), none, [0]⟩, 
  ⟨(some (43)), .load none (.tmp 42), none, [0]⟩, 
  ⟨(some (44)), .indexAddr 7 (.tmp 39) (.tmp 43), none, []⟩, 
  ⟨(some (45)), .load (some (7)) (.tmp 44), none, []⟩, 
  ⟨(some (46)), .fieldAddr 0 (.tmp 9), none, [0, 1, 2, 3, 4, 5, 6]⟩, 
  ⟨(some (47)), .load none (.tmp 46), none, [0, 1, 2, 3, 4, 5, 6]⟩, 
  ⟨(some (48)), .call (.const (.fn (.func 103) [] [])) [.tmp 45, .tmp 47], none, []⟩, 
  ⟨(some (49)), .move (.tmp 0), none, [0, 1, 2, 3, 4, 5, 6, 7, 8, 9]⟩, 
  ⟨(some (50)), .move (.tmp 10), none, [0, 1, 2, 3, 4, 5, 6, 7, 8, 9, 10]⟩, 
  ⟨(some (51)), .move (.tmp 13), none, [0, 1, 2, 3, 4, 5, 6, 7, 8, 9, 10, 11]⟩, 
  ⟨(some (52)), .indexAddr 1 (.tmp 50) (.tmp 51), none, [0, 1, 2, 3, 4, 5, 6, 7, 8, 9, 10]⟩, 
  ⟨(some (53)), .load none (.tmp 52), none, [0, 1, 2, 3, 4, 5, 6, 7, 8, 9, 10]⟩, 
  ⟨(some (54)), .indexAddr 7 (.tmp 49) (.tmp 53), none, [0, 1, 2, 3, 4, 5, 6, 7, 8, 9]⟩, 
  ⟨(some (55)), .load (some (7)) (.tmp 54), none, [0, 1, 2, 3, 4, 5, 6, 7, 8, 9]⟩, 
  ⟨(some (56)), .fieldAddr 1 (.tmp 9), none, [0, 1, 2, 3, 4, 5, 6, 7, 8, 9, 10, 11, 12, 13, 14, 15, 16]⟩, 
  ⟨(some (57)), .load none (.tmp 56), none, [0, 1, 2, 3, 4, 5, 6, 7, 8, 9, 10, 11, 12, 13, 14, 15, 16]⟩, 
  ⟨(some (58)), .call (.const (.fn (.func 104) [] [])) [.tmp 55, .tmp 57], none, []⟩, 
  ⟨(some (59)), .build [.int .i64 0, .int .i64 0] [(0, 1, .tmp 48), (1, 1, .tmp 58)], none, []⟩, 
  ⟨none, .store 2 (.tmp 9) (.tmp 59), none, []⟩]
def k_ref07_before_r7s : List (List AOper) := [
  [
  ⟨(some (39)), .move (.tmp 0), none, []⟩, 
  ⟨(some (40)), .move (.tmp 10), none, [0]⟩, 
  ⟨(some (41)), .move (.tmp 13), none, [0, 1]⟩, 
  ⟨(some (42)), .indexAddr 1 (.tmp 40) (.tmp 41), none, [0]⟩, 
  ⟨(some (43)), .load none (.tmp 42), none, [0]⟩, 
  ⟨(some (44)), .indexAddr 7 (.tmp 39) (.tmp 43), none, []⟩, 
  ⟨(some (45)), .load (some (7)) (.tmp 44), none, []⟩, 
  ⟨(some (46)), .fieldAddr 0 (.tmp 9), none, [0, 1, 2, 3, 4, 5, 6]⟩, 
  ⟨(some (47)), .load none (.tmp 46), none, [0, 1, 2, 3, 4, 5, 6]⟩, 
  ⟨(some (48)), .call (.const (.fn (.func 103) [] [])) [.tmp 45, .tmp 47], none, []⟩, 
  ⟨(some (49)), .move (.tmp 0), none, [0, 1, 2, 3, 4, 5, 6, 7, 8, 9]⟩, 
  ⟨(some (50)), .move (.tmp 10), none, [0, 1, 2, 3, 4, 5, 6, 7, 8, 9, 10]⟩, 
  ⟨(some (51)), .move (.tmp 13), none, [0, 1, 2, 3, 4, 5, 6, 7, 8, 9, 10, 11]⟩, 
  ⟨(some (52)), .indexAddr 1 (.tmp 50) (.tmp 51), none, [0, 1, 2, 3, 4, 5, 6, 7, 8, 9, 10]⟩, 
  ⟨(some (53)), .load none (.tmp 52), none, [0, 1, 2, 3, 4, 5, 6, 7, 8, 9, 10]⟩, 
  ⟨(some (54)), .indexAddr 7 (.tmp 49) (.tmp 53), none, [0, 1, 2, 3, 4, 5, 6, 7, 8, 9]⟩, 
  ⟨(some (55)), .load (some (7)) (.tmp 54), none, [0, 1, 2, 3, 4, 5, 6, 7, 8, 9]⟩, 
  ⟨(some (56)), .fieldAddr 1 (.tmp 9), none, [0, 1, 2, 3, 4, 5, 6, 7, 8, 9, 10, 11, 12, 13, 14, 15, 16]⟩, 
  ⟨(some (57)), .load none (.tmp 56), none, [0, 1, 2, 3, 4, 5, 6, 7, 8, 9, 10, 11, 12, 13, 14, 15, 16]⟩], 
  [
  ⟨(some (58)), .call (.const (.fn (.func 104) [] [])) [.tmp 55, .tmp 57], none, []⟩], 
  [
  ⟨(some (59)), .build [.int .i64 0, .int .i64 0] [(0, 1, .tmp 48), (1, 1, .tmp 58)], none, []⟩], 
  [
  ⟨none, .store 2 (.tmp 9) (.tmp 59), none, []⟩]]
theorem k_ref07_before_r7_sg : segs k_ref07_before_r7 = k_ref07_before_r7s := by kernel_rfl
theorem k_ref07_before_r7_st : statOK k_ref07_before_r7 = true := by kernel_rfl
def k_ref07_before_r8 : List AOper := [
  ⟨(some (60)), .move (.tmp 12), none, []⟩, 
  ⟨(some (61)), .move (.tmp 60), none, []⟩, 
  ⟨(some (62)), .fieldAddr 0 (.tmp 9), (some (61, true)), []⟩, 
  ⟨(some (63)), .load none (.tmp 62), (some (61, true)), []⟩, 
  ⟨(some (64)), .fieldAddr 1 (.tmp 9), (some (61, true)), []⟩, 
  ⟨(some (65)), .load none (.tmp 64), (some (61, true)), []⟩, 
  ⟨(some (66)), .bin .plain .leq (.tmp 63) (.tmp 65), (some (61, true)), []⟩, 
  ⟨(some (67)), .pick (.tmp 61) (.tmp 66) (.const (.bool false)), none, []⟩, 
  ⟨(some (12)), .move (.tmp 67), none, []⟩]
def k_ref07_before_r9 : List AOper := [
  ⟨(some (37)), .move (.tmp 13), none, []⟩, 
  ⟨(some (38)), .bin .plain .add (.tmp 37) (.const (.int .i64 1)), none, []⟩, 
  ⟨(some (13)), .move (.tmp 38), none, []⟩]
def k_ref07_before_r10 : ACode := (.seq (.seq (.reg k_ref07_before_r6 false) (.cond (.tmp 36) .skip (.exit 0))) (.seq (.block 1 (.seq (.reg k_ref07_before_r7 true) (.reg k_ref07_before_r8 false))) (.reg k_ref07_before_r9 false)))
def k_ref07_before_r11 : List AOper := [
  ⟨(some (68)), .fieldAddr 0 (.tmp 9), none, []⟩, 
  ⟨(some (69)), .load none (.tmp 68), none, []⟩, 
  ⟨(some (70)), .minmax true [.tmp 69, .const (.int .i64 (-1000000000))], none, []⟩, 
  ⟨(some (71)), .fieldAddr 1 (.tmp 9), none, []⟩, 
  ⟨(some (72)), .load none (.tmp 71), none, []⟩, 
  ⟨(some (73)), .minmax false [.tmp 72, .const (.int .i64 1000000000)], none, []⟩, 
  ⟨(some (74)), .build [.int .i64 0, .int .i64 0] [(0, 1, .tmp 70), (1, 1, .tmp 73)], none, []⟩, 
  ⟨none, .store 2 (.tmp 9) (.tmp 74), none, []⟩]
def k_ref07_before_r12 : List AOper := [
  ⟨(some (75)), .load (some (2)) (.tmp 9), none, []⟩, 
  ⟨(some (76)), .move (.tmp 12), none, [0]⟩, 
  ⟨(some (77)), .move (.tmp 76), none, [0]⟩, 
  ⟨(some (78)), .fieldAddr 0 (.tmp 9), (some (77, true)), [0]⟩, 
  ⟨(some (79)), .load none (.tmp 78), (some (77, true)), [0]⟩, 
  ⟨(some (80)), .fieldAddr 1 (.tmp 9), (some (77, true)), [0, 3, 4]⟩, 
  ⟨(some (81)), .load none (.tmp 80), (some (77, true)), [0, 3, 4]⟩, 
  ⟨(some (82)), .bin .plain .leq (.tmp 79) (.tmp 81), (some (77, true)), [0]⟩, 
  ⟨(some (83)), .pick (.tmp 77) (.tmp 82) (.const (.bool false)), none, [0]⟩, 
  ⟨none, .store 2 (.tmp 6) (.tmp 75), none, [3, 4, 5, 6, 7, 8]⟩, 
  ⟨(some (7)), .move (.tmp 83), none, []⟩]
def k_ref07_before_r12s : List (List AOper) := [
  [
  ⟨(some (75)), .load (some (2)) (.tmp 9), none, []⟩, 
  ⟨(some (76)), .move (.tmp 12), none, [0]⟩, 
  ⟨(some (77)), .move (.tmp 76), none, [0]⟩, 
  ⟨(some (78)), .fieldAddr 0 (.tmp 9), (some (77, true)), [0]⟩, 
  ⟨(some (79)), .load none (.tmp 78), (some (77, true)), [0]⟩, 
  ⟨(some (80)), .fieldAddr 1 (.tmp 9), (some (77, true)), [0, 3, 4]⟩, 
  ⟨(some (81)), .load none (.tmp 80), (some (77, true)), [0, 3, 4]⟩, 
  ⟨(some (82)), .bin .plain .leq (.tmp 79) (.tmp 81), (some (77, true)), [0]⟩, 
  ⟨(some (83)), .pick (.tmp 77) (.tmp 82) (.const (.bool false)), none, [0]⟩, 
  ⟨none, .store 2 (.tmp 6) (.tmp 75), none, [3, 4, 5, 6, 7, 8]⟩], 
  [
  ⟨(some (7)), .move (.tmp 83), none, []⟩]]
theorem k_ref07_before_r12_sg : segs k_ref07_before_r12 = k_ref07_before_r12s := by kernel_rfl
theorem k_ref07_before_r12_st : statOK k_ref07_before_r12 = true := by kernel_rfl
def k_ref07_before : AFun := { params := 3, ntmps := 84, body := (.seq (.reg k_ref07_before_r0 false) (.seq (.reg k_ref07_before_r1 false) (.seq (.reg k_ref07_before_r2 false) (.seq (.reg k_ref07_before_r3 false) (.seq (.reg k_ref07_before_r4 false) (.seq (.seq (.reg k_ref07_before_r5 false) (.block 0 (.loop k_ref07_before_r10))) (.seq (.reg k_ref07_before_r11 false) (.seq (.reg k_ref07_before_r12 true) .ret)))))))), res := [.cell 6 (some ((some (2)))), .tmp 7] }
theorem k_ref07_before_ok : cfun Tryd.prog Tryd.f69 = k_ref07_before := by kernel_rfl

def k_ref07_least_r0 : List AOper := [
  ⟨(some (2)), .box (.tmp 0), none, []⟩, 
  ⟨(some (4)), .move (.const (.int .i64 0)), none, []⟩]
def k_ref07_least_r1 : List AOper := [
  ⟨(some (5)), .move (.const (.int .i64 (-4398046511104))), none, []⟩, 
  ⟨(some (6)), .move (.const (.int .i64 4398046511104)), none, []⟩]
def k_ref07_least_r2 : List AOper := [
  ⟨(some (8)), .move (.tmp 5), none, []⟩, 
  ⟨(some (9)), .move (.tmp 6), none, []⟩, 
  ⟨(some (10)), .bin .plain .lss (.tmp 8) (.tmp 9), none, []⟩]
def k_ref07_least_r3 : List AOper := [
  ⟨(some (11)), .move (.tmp 5), none, []⟩, 
  ⟨(some (12)), .move (.tmp 6), none, []⟩, 
  ⟨(some (13)), .bin .plain .add (.tmp 11) (.tmp 12), none, []⟩, 
  ⟨(some (14)), .call (.const (.fn (.func 67) [] [])) [.tmp 13, .const (.int .i64 2)], none, []⟩, 
  ⟨(some (7)), .move (.tmp 14), none, []⟩]
def k_ref07_least_r4 : List AOper := [
  ⟨(some (15)), .load (some (7)) (.tmp 2), none, []⟩, 
  ⟨(some (16)), .move (.tmp 7), none, []⟩, 
  ⟨(some (17)), .call (.const (.fn (.func 65) [] [])) [.tmp 15, .tmp 16], none, []⟩, 
  ⟨(some (18)), .field none 1 (.tmp 17), none, []⟩, 
  ⟨(some (19)), .move (.tmp 1), none, []⟩, 
  ⟨(some (20)), .bin .plain .geq (.tmp 18) (.tmp 19), none, []⟩]
def k_ref07_least_r5 : List AOper := [
  ⟨(some (21)), .move (.tmp 7), none, []⟩, 
  ⟨(some (6)), .move (.tmp 21), none, []⟩]
def k_ref07_least_r6 : List AOper := [
  ⟨(some (22)), .move (.tmp 7), none, []⟩, 
  ⟨(some (23)), .bin .plain .add (.tmp 22) (.const (.int .i64 1)), none, []⟩, 
  ⟨(some (5)), .move (.tmp 23), none, []⟩]
def k_ref07_least_r7 : ACode := (.seq (.seq (.reg k_ref07_least_r2 false) (.cond (.tmp 10) .skip (.exit 0))) (.block 1 (.seq (.reg k_ref07_least_r3 false) (.seq (.reg k_ref07_least_r4 false) (.cond (.tmp 20) (.reg k_ref07_least_r5 false) (.reg k_ref07_least_r6 false))))))
def k_ref07_least_r8 : List AOper := [
  ⟨(some (24)), .move (.tmp 5), none, []⟩, 
  ⟨(some (4)), .move (.tmp 24), none, []⟩]
def k_ref07_least : AFun := { params := 2, ntmps := 25, body := (.seq (.reg k_ref07_least_r0 false) (.seq (.reg k_ref07_least_r1 false) (.seq (.block 0 (.loop k_ref07_least_r7)) (.seq (.reg k_ref07_least_r8 false) .ret)))), res := [.tmp 4] }
theorem k_ref07_least_ok : cfun Tryd.prog Tryd.f103 = k_ref07_least := by kernel_rfl

def k_ref07_most_r0 : List AOper := [
  ⟨(some (2)), .box (.tmp 0), none, []⟩, 
  ⟨(some (4)), .move (.const (.int .i64 0)), none, []⟩]
def k_ref07_most_r1 : List AOper := [
  ⟨(some (5)), .move (.const (.int .i64 (-4398046511104))), none, []⟩, 
  ⟨(some (6)), .move (.const (.int .i64 4398046511104)), none, []⟩]
def k_ref07_most_r2 : List AOper := [
  ⟨(some (8)), .move (.tmp 5), none, []⟩, 
  ⟨(some (9)), .move (.tmp 6), none, []⟩, 
  ⟨(some (10)), .bin .plain .lss (.tmp 8) (.tmp 9), none, []⟩]
def k_ref07_most_r3 : List AOper := [
  ⟨(some (11)), .move (.tmp 5), none, []⟩, 
  ⟨(some (12)), .move (.tmp 6), none, []⟩, 
  ⟨(some (13)), .bin .plain .add (.tmp 11) (.tmp 12), none, []⟩, 
  ⟨(some (14)), .call (.const (.fn (.func 75) [] [])) [.tmp 13, .const (.int .i64 2)], none, []⟩, 
  ⟨(some (7)), .move (.tmp 14), none, []⟩]
def k_ref07_most_r4 : List AOper := [
  ⟨(some (15)), .load (some (7)) (.tmp 2), none, []⟩, 
  ⟨(some (16)), .move (.tmp 7), none, []⟩, 
  ⟨(some (17)), .call (.const (.fn (.func 65) [] [])) [.tmp 15, .tmp 16], none, []⟩, 
  ⟨(some (18)), .field none 0 (.tmp 17), none, []⟩, 
  ⟨(some (19)), .move (.tmp 1), none, []⟩, 
  ⟨(some (20)), .bin .plain .leq (.tmp 18) (.tmp 19), none, []⟩]
def k_ref07_most_r5 : List AOper := [
  ⟨(some (21)), .move (.tmp 7), none, []⟩, 
  ⟨(some (5)), .move (.tmp 21), none, []⟩]
def k_ref07_most_r6 : List AOper := [
  ⟨(some (22)), .move (.tmp 7), none, []⟩, 
  ⟨(some (23)), .bin .plain .sub (.tmp 22) (.const (.int .i64 1)), none, []⟩, 
  ⟨(some (6)), .move (.tmp 23), none, []⟩]
def k_ref07_most_r7 : ACode := (.seq (.seq (.reg k_ref07_most_r2 false) (.cond (.tmp 10) .skip (.exit 0))) (.block 1 (.seq (.reg k_ref07_most_r3 false) (.seq (.reg k_ref07_most_r4 false) (.cond (.tmp 20) (.reg k_ref07_most_r5 false) (.reg k_ref07_most_r6 false))))))
def k_ref07_most_r8 : List AOper := [
  ⟨(some (24)), .move (.tmp 5), none, []⟩, 
  ⟨(some (4)), .move (.tmp 24), none, []⟩]
def k_ref07_most : AFun := { params := 2, ntmps := 25, body := (.seq (.reg k_ref07_most_r0 false) (.seq (.reg k_ref07_most_r1 false) (.seq (.block 0 (.loop k_ref07_most_r7)) (.seq (.reg k_ref07_most_r8 false) .ret)))), res := [.tmp 4] }
theorem k_ref07_most_ok : cfun Tryd.prog Tryd.f104 = k_ref07_most := by kernel_rfl


abbrev n_ref07_True : Nat := 33
theorem e_ref07_True : EntryOK Tryd.prog n_ref07_True k_ref07_True := ⟨Tryd.f33, Tryd.func33, k_ref07_True_ok, by kernel_rfl⟩
abbrev n_ref07_before : Nat := 69
theorem e_ref07_before : EntryOK Tryd.prog n_ref07_before k_ref07_before := ⟨Tryd.f69, Tryd.func69, k_ref07_before_ok, by kernel_rfl⟩
abbrev n_ref07_least : Nat := 103
theorem e_ref07_least : EntryOK Tryd.prog n_ref07_least k_ref07_least := ⟨Tryd.f103, Tryd.func103, k_ref07_least_ok, by kernel_rfl⟩
abbrev n_ref07_most : Nat := 104
theorem e_ref07_most : EntryOK Tryd.prog n_ref07_most k_ref07_most := ⟨Tryd.f104, Tryd.func104, k_ref07_most_ok, by kernel_rfl⟩

attribute [go_sem] k_ref07_True_r0 k_ref07_True_r1 k_ref07_True_r2 k_ref07_True_r3 k_ref07_True_r4
attribute [go_sem] k_ref07_True_r5 k_ref07_True_r6 k_ref07_True_r7 k_ref07_True_r8 k_ref07_True_r9 k_ref07_True_r10 k_ref07_True_r11 k_ref07_True_r12 k_ref07_True_r13 k_ref07_before_r0 k_ref07_before_r1 k_ref07_before_r2
attribute [go_sem] k_ref07_before_r3 k_ref07_before_r4 k_ref07_before_r5 k_ref07_before_r6 k_ref07_before_r7s k_ref07_before_r8 k_ref07_before_r9 k_ref07_before_r11 k_ref07_before_r12s k_ref07_least_r0 k_ref07_least_r1 k_ref07_least_r2
attribute [go_sem] k_ref07_least_r3 k_ref07_least_r4 k_ref07_least_r5 k_ref07_least_r6 k_ref07_least_r8 k_ref07_most_r0 k_ref07_most_r1 k_ref07_most_r2 k_ref07_most_r3 k_ref07_most_r4 k_ref07_most_r5 k_ref07_most_r6
attribute [go_sem] k_ref07_most_r8 k_ref07_before_r12_sg k_ref07_before_r7_sg k_ref07_before_r12_st k_ref07_before_r7_st
attribute [go_sem] k_ref07_True k_ref07_before k_ref07_least k_ref07_most
end Go.Proofs

namespace Go.Gauge

theorem mkHi_low {m : Mt} (h : MtOK m) {x : Int} (hx : x < 0) : mkHi m x ≤ -(-(x * 500000) / 1000000) + 1000000 := by
  have e : pl m.glo m.ghi x = x * m.glo := by unfold pl; rw [if_pos hx]
  have h1 : x * m.glo ≤ x * 500000 := Int.mul_le_mul_of_nonpos_left (by omega) h.g.1
  have h2 := h.o
  unfold mkHi
  rw [e]
  omega
theorem mkLo_high {m : Mt} (h : MtOK m) {x : Int} (hx : 0 ≤ x) : x * 500000 / 1000000 - 1000000 ≤ mkLo m x := by
  have e : pl m.ghi m.glo x = x * m.glo := by unfold pl; rw [if_neg (by omega)]
  have h1 : x * 500000 ≤ x * m.glo := Int.mul_le_mul_of_nonneg_left h.g.1 hx
  have h2 := h.o
  unfold mkLo
  rw [e]
  omega
end Go.Gauge

namespace Go.Gauge

theorem mkHi_high {m : Mt} (h : MtOK m) {x : Int} (hx : 0 ≤ x) : x * 500000 / 1000000 - 1000000 ≤ mkHi m x := Int.le_trans (mkLo_high h hx) (mk_le h x)
theorem mkLo_low {m : Mt} (h : MtOK m) {x : Int} (hx : x < 0) : mkLo m x ≤ -(-(x * 500000) / 1000000) + 1000000 := Int.le_trans (mk_le h x) (mkHi_low h hx)
theorem lf_bd {m : Mt} (h : MtOK m) {y B : Int} (hB : 0 ≤ B ∧ 2 * B + 2000004 ≤ rch) (hy : -B ≤ y ∧ y ≤ B) : -(2 * B + 2000004) ≤ lf m y ∧ lf m y ≤ 2 * B + 2000004 := by
  have h1 := mkHi_high h (x := 2 * B + 2000004) (by omega)
  have h2 := mkHi_low h (x := -(2 * B + 2000004) - 1) (by omega)
  have h3 := (lf_iff h (y := y) (x := 2 * B + 2000004) (by simp only [rch] at *; omega) hB.2).1 (by omega)
  refine ⟨?_, h3⟩
  by_cases c : -rch ≤ -(2 * B + 2000004) - 1
  · have h4 : ¬ lf m y ≤ -(2 * B + 2000004) - 1 := fun e => by
      have := (lf_iff h (y := y) c (by simp only [rch] at *; omega)).2 e
      omega
    omega
  · have := (lf_in h y).1
    omega
theorem mf_bd {m : Mt} (h : MtOK m) {y B : Int} (hB : 0 ≤ B ∧ 2 * B + 2000004 ≤ rch) (hy : -B ≤ y ∧ y ≤ B) : -(2 * B + 2000004) ≤ mf m y ∧ mf m y ≤ 2 * B + 2000004 := by
  have h1 := mkLo_high h (x := 2 * B + 2000004 + 1) (by omega)
  have h2 := mkLo_low h (x := -(2 * B + 2000004)) (by omega)
  have h3 := (mf_iff h (y := y) (x := -(2 * B + 2000004)) (by simp only [rch] at *; omega) (by simp only [rch] at *; omega)).1 (by omega)
  refine ⟨h3, ?_⟩
  by_cases c : 2 * B + 2000004 + 1 ≤ rch
  · have h4 : ¬ 2 * B + 2000004 + 1 ≤ mf m y := fun e => by
      have := (mf_iff h (y := y) (by simp only [rch] at *; omega) c).2 e
      omega
    omega
  · have := (mf_in h y).2
    omega
end Go.Gauge
namespace Go.Proofs
open Go Go.Sx Go.Gauge
attribute [local irreducible] Run

theorem rleast_run {m : Mt} (h : MtOK m) {y : Int} (hb : lf m y ≤ rch) : Ans Tryd.prog n_ref07_least [Mv m, .int .i64 y] [] (.int .i64 (lf m y)) [] := by
  have hi := lf_in h y
  simp only [rch] at hi hb
  have hit : ∀ x, -4398046511104 ≤ x → x ≤ 4398046511104 → (y ≤ mkHi m x ↔ lf m y ≤ x) := fun x a b => lf_iff h (by simpa [rch] using a) (by simpa [rch] using b)
  obtain ⟨L, hL⟩ : ∃ L, lf m y = L := ⟨_, rfl⟩
  rw [hL] at hi hb hit ⊢
  refine spec_run e_ref07_least fun G => ?_
  simp only [go_sem, Mv, Mc]
  refine loop_ind k_ref07_least_r7.eq_1 (fun a : Int × Int => -4398046511104 ≤ a.1 ∧ a.1 ≤ L ∧ L ≤ a.2 ∧ a.2 ≤ 4398046511104) (fun a => (a.2 - a.1).toNat)
    (fun a => (tsets 25 [(1, .int .i64 y), (2, .ptr 0 0 0 1), (5, .int .i64 a.1), (6, .int .i64 a.2)], [some (.cells false 7 [Mv m])])) (-4398046511104, 4398046511104) ⟨by decide, hi.1, hb, by decide⟩ (by simp [go_sem]) rfl ?_
  rintro ⟨lo, hi⟩ ⟨g1, g2, g3, g4⟩ ih
  dsimp only at g1 g2 g3 g4 ih ⊢
  by_cases c : lo < hi
  · have w1 : IntKind.i64.wrap (lo + hi) = lo + hi := w64 (by omega)
    have kd := refDown_run (lo + hi) 2 (by omega) (by decide)
    obtain ⟨x, hx⟩ : ∃ x, (lo + hi) / 2 = x := ⟨_, rfl⟩
    rw [hx] at kd
    have km := Made_run h (x := x) (by simp only [rch]; omega)
    have w2 : IntKind.i64.wrap (x + 1) = x + 1 := w64 (by omega)
    have hq := hit x (by omega) (by omega)
    simp only [Mv, Mc, r2] at km
    simp only [go_sem, c, w1, Mv, Mc]
    refine cP kd ?_
    simp only [go_sem]
    refine cP km ?_
    by_cases c2 : y ≤ mkHi m x
    · have := hq.1 c2
      simp only [go_sem, c2]
      exact ih (lo, x) (by dsimp only; omega) ⟨g1, g2, this, by dsimp only; omega⟩ _ (by simp [go_sem])
    · have : ¬ L ≤ x := fun e => c2 (hq.2 e)
      simp only [go_sem, c2, w2]
      exact ih (x + 1, hi) (by dsimp only; omega) ⟨by dsimp only; omega, by dsimp only; omega, g3, g4⟩ _ (by simp [go_sem])
  · have : lo = L := by omega
    subst this
    simp only [go_sem, c]
theorem rmost_run {m : Mt} (h : MtOK m) {y : Int} (hb : -rch ≤ mf m y) : Ans Tryd.prog n_ref07_most [Mv m, .int .i64 y] [] (.int .i64 (mf m y)) [] := by
  have hi := mf_in h y
  simp only [rch] at hi hb
  have hit : ∀ x, -4398046511104 ≤ x → x ≤ 4398046511104 → (mkLo m x ≤ y ↔ x ≤ mf m y) := fun x a b => mf_iff h (by simpa [rch] using a) (by simpa [rch] using b)
  obtain ⟨L, hL⟩ : ∃ L, mf m y = L := ⟨_, rfl⟩
  rw [hL] at hi hb hit ⊢
  refine spec_run e_ref07_most fun G => ?_
  simp only [go_sem, Mv, Mc]
  refine loop_ind k_ref07_most_r7.eq_1 (fun a : Int × Int => -4398046511104 ≤ a.1 ∧ a.1 ≤ L ∧ L ≤ a.2 ∧ a.2 ≤ 4398046511104) (fun a => (a.2 - a.1).toNat)
    (fun a => (tsets 25 [(1, .int .i64 y), (2, .ptr 0 0 0 1), (5, .int .i64 a.1), (6, .int .i64 a.2)], [some (.cells false 7 [Mv m])])) (-4398046511104, 4398046511104) ⟨by decide, hb, hi.2, by decide⟩ (by simp [go_sem]) rfl ?_
  rintro ⟨lo, hi⟩ ⟨g1, g2, g3, g4⟩ ih
  dsimp only at g1 g2 g3 g4 ih ⊢
  by_cases c : lo < hi
  · have w1 : IntKind.i64.wrap (lo + hi) = lo + hi := w64 (by omega)
    have kd := refUp_run (lo + hi) 2 (by omega) (by decide)
    obtain ⟨x, hx⟩ : ∃ x, -(-(lo + hi) / 2) = x := ⟨_, rfl⟩
    rw [hx] at kd
    have km := Made_run h (x := x) (by simp only [rch]; omega)
    have w2 : IntKind.i64.wrap (x - 1) = x - 1 := w64 (by omega)
    have hq := hit x (by omega) (by omega)
    simp only [Mv, Mc, r2] at km
    simp only [go_sem, c, w1, Mv, Mc]
    refine cP kd ?_
    simp only [go_sem]
    refine cP km ?_
    by_cases c2 : mkLo m x ≤ y
    · have := hq.1 c2
      simp only [go_sem, c2]
      exact ih (x, hi) (by dsimp only; omega) ⟨by dsimp only; omega, this, g3, g4⟩ _ (by simp [go_sem])
    · have : ¬ x ≤ L := fun e => c2 (hq.2 e)
      simp only [go_sem, c2, w2]
      exact ih (lo, x - 1) (by dsimp only; omega) ⟨g1, g2, by dsimp only; omega, by dsimp only; omega⟩ _ (by simp [go_sem])
  · have : lo = L := by omega
    subst this
    simp only [go_sem, c]
end Go.Proofs

namespace Go.Gauge
noncomputable def rf (bs : List Mt) : List Int → Int → Int → Bool → Int × Int × Bool
  | [], a, b, s => (a, b, s)
  | m :: ms, a, b, s => rf bs ms (lf (mt bs m) a) (mf (mt bs m) b) (s && decide (lf (mt bs m) a ≤ mf (mt bs m) b))
theorem rf_false (bs : List Mt) : ∀ (l : List Int) (a b : Int), (rf bs l a b false).2.2 = false
  | [], _, _ => rfl
  | m :: ms, a, b => by unfold rf; rw [Bool.false_and]; exact rf_false bs ms _ _
theorem rf_tfr (bs : List Mt) : ∀ (l : List Int) (a b : Int), match tfr bs l a b with
    | none => (rf bs l a b true).2.2 = false
    | some (x, y) => rf bs l a b true = (x, y, true)
  | [], a, b => rfl
  | m :: ms, a, b => by
    unfold rf tfr
    by_cases c : lf (mt bs m) a > mf (mt bs m) b
    · rw [if_pos c, decide_eq_false (by omega), Bool.and_false]; exact rf_false bs ms _ _
    · rw [if_neg c, decide_eq_true (by omega), Bool.and_true]; exact rf_tfr bs ms _ _
def gB : Nat → Int
  | 0 => 1000500000
  | n + 1 => 2 * gB n + 2000004
theorem gB_pos : ∀ n, 0 ≤ gB n
  | 0 => by decide
  | n + 1 => by have := gB_pos n; unfold gB; omega
theorem gB_mono {a b : Nat} (h : a ≤ b) : gB a ≤ gB b := by
  induction h with
  | refl => exact Int.le_refl _
  | step _ ih =>
    rename_i m _
    have := gB_pos m
    have e : gB m.succ = 2 * gB m + 2000004 := rfl
    omega
theorem gB_rch {n : Nat} (h : n ≤ 12) : gB n ≤ rch := Int.le_trans (gB_mono h) (by decide)
noncomputable def bfR (bs : List Mt) (m n : Int) : Int × Int × Bool :=
  let F := rf bs (ch bs m) (n - (mt bs m).step / 2) (n + (mt bs m).step / 2) true
  (max F.1 (-1000000000), min F.2.1 1000000000, F.2.2 && decide (max F.1 (-1000000000) ≤ min F.2.1 1000000000))
theorem bfR_tru (bs : List Mt) (m n : Int) : tru bs m n = if (bfR bs m n).2.2 = true then some ((bfR bs m n).1, (bfR bs m n).2.1) else none := by
  have h := rf_tfr bs (ch bs m) (n - (mt bs m).step / 2) (n + (mt bs m).step / 2)
  unfold tru bfR
  split at h
  · rename_i e
    rw [e]
    simp only [h, Bool.false_and]
    rfl
  · rename_i x y e
    rw [e]
    simp only [h, Bool.true_and]
    by_cases c : max x (-1000000000) > min y 1000000000
    · rw [if_pos c, if_neg (by rw [decide_eq_false (by omega)]; decide)]
    · rw [if_neg c, if_pos (by rw [decide_eq_true (by omega)])]
end Go.Gauge
namespace Go.Proofs
open Go Go.Sx Go.Gauge
attribute [local irreducible] Run

set_option maxHeartbeats 8000000 in
set_option maxRecDepth 10000 in
theorem before_run {bs : List Mt} (h : VB bs) {m0 n : Int} (h0 : 0 ≤ m0) (h1 : m0 < bs.length) (hn : -1000000000 ≤ n ∧ n ≤ 1000000000) :
    Ans Tryd.prog n_ref07_before [.view (bs.map Mv), .int .i64 m0, .int .i64 n] [] (.tup [r2 (bfR bs m0 n).1 (bfR bs m0 n).2.1, .bool (bfR bs m0 n).2.2]) [] := by
  have hlen := h.len
  have hcl := ch_len h (show -1 ≤ m0 by omega) h1
  have hmem := ch_mem h _ m0 rfl (by omega) h1
  have hall : ∀ k ∈ ch bs m0, MtOK (mt bs k) := fun k hk => h.all _ (mt_mem (hmem k hk).1 (hmem k hk).2)
  have hs0 := (h.all _ (mt_mem h0 h1)).s
  have hx0 := mt_get h0 h1
  have n0 : ¬ m0 < 0 := by omega
  have kc := rchain_run h h0 h1
  obtain ⟨l, hl⟩ : ∃ l, ch bs m0 = l := ⟨_, rfl⟩
  have hbf : bfR bs m0 n = (max (rf bs l (n - (mt bs m0).step / 2) (n + (mt bs m0).step / 2) true).1 (-1000000000), min (rf bs l (n - (mt bs m0).step / 2) (n + (mt bs m0).step / 2) true).2.1 1000000000, (rf bs l (n - (mt bs m0).step / 2) (n + (mt bs m0).step / 2) true).2.2 && decide (max (rf bs l (n - (mt bs m0).step / 2) (n + (mt bs m0).step / 2) true).1 (-1000000000) ≤ min (rf bs l (n - (mt bs m0).step / 2) (n + (mt bs m0).step / 2) true).2.1 1000000000)) := by rw [← hl]; rfl
  rw [hl] at hcl hmem hall kc
  have e2 : (mt bs m0).step.tdiv 2 = (mt bs m0).step / 2 := Int.tdiv_eq_ediv_of_nonneg (by omega)
  obtain ⟨hf, hhf⟩ : ∃ hf, (mt bs m0).step / 2 = hf := ⟨_, rfl⟩
  have w0 : IntKind.i64.wrap hf = hf := w64 (by omega)
  obtain ⟨a0, ha0⟩ : ∃ a0, n - hf = a0 := ⟨_, rfl⟩
  obtain ⟨b0, hb0⟩ : ∃ b0, n + hf = b0 := ⟨_, rfl⟩
  have w1 : IntKind.i64.wrap a0 = a0 := w64 (by omega)
  have w2 : IntKind.i64.wrap b0 = b0 := w64 (by omega)
  rw [hhf, ha0, hb0] at hbf
  obtain ⟨F, hF⟩ : ∃ F, rf bs l a0 b0 true = F := ⟨_, rfl⟩
  rw [hF] at hbf
  rw [hbf]
  clear hbf
  refine spec_run e_ref07_before fun G => ?_
  simp only [go_sem, n0, hx0, h1, Mv, Mc, e2, hhf, w0, ha0, hb0, w1, w2]
  refine cN1 kc ?_
  simp only [go_sem, ren, rens]
  refine loop_ind k_ref07_before_r10.eq_1 (fun a : Nat × Int × Int × Bool => a.1 ≤ l.length ∧ (-gB a.1 ≤ a.2.1 ∧ a.2.1 ≤ gB a.1) ∧ (-gB a.1 ≤ a.2.2.1 ∧ a.2.2.1 ≤ gB a.1) ∧ rf bs (l.drop a.1) a.2.1 a.2.2.1 a.2.2.2 = F) (fun a => l.length - a.1)
    (fun a => (tsets 84 [(0, .view (bs.map Mv)), (6, .ptr 0 0 0 1), (9, .ptr 1 0 0 1), (10, .sl 2 0 l.length), (12, .bool a.2.2.2), (13, .int .i64 a.1)],
      [some (.cells false 2 [.agg [.int .i64 0, .int .i64 0]]), some (.cells false 2 [.agg [.int .i64 a.2.1, .int .i64 a.2.2.1]]), some (.cells true 1 (l.map (.int .i64)))])) (0, a0, b0, true) ⟨Nat.zero_le _, by simp only [gB]; omega, by simp only [gB]; omega, hF⟩ (by simp [go_sem]) rfl ?_
  rintro ⟨i, a, b, s⟩ ⟨g1, g2, g3, g4⟩ ih
  dsimp only at g1 g2 g3 g4 ih ⊢
  by_cases c1 : i < l.length
  · have c2 : (i : Int) < l.length := by omega
    have ni : ¬ (i : Int) < 0 := by omega
    have w3 : IntKind.i64.wrap ((i : Int) + 1) = ((i + 1 : Nat) : Int) := by rw [w64 (by omega)]; rfl
    obtain ⟨mk, hmk⟩ : ∃ mk, l[i]? = some mk := ⟨_, List.getElem?_eq_getElem c1⟩
    have hml := List.mem_of_getElem? hmk
    obtain ⟨m1, m2⟩ := hmem mk hml
    have hok := hall mk hml
    have nmk : ¬ mk < 0 := by omega
    have hxk := mt_get m1 m2
    have hgr := gB_rch (n := i + 1) (by omega)
    have hg0 := gB_pos i
    have hge : gB (i + 1) = 2 * gB i + 2000004 := rfl
    have b1 := lf_bd hok (y := a) (B := gB i) ⟨hg0, by omega⟩ g2
    have b2 := mf_bd hok (y := b) (B := gB i) ⟨hg0, by omega⟩ g3
    have kl := rleast_run hok (y := a) (by omega)
    have km := rmost_run hok (y := b) (by omega)
    rw [drop_cons hmk, rf] at g4
    obtain ⟨c, hc⟩ : ∃ c, lf (mt bs mk) a = c := ⟨_, rfl⟩
    obtain ⟨d, hd⟩ : ∃ d, mf (mt bs mk) b = d := ⟨_, rfl⟩
    rw [hc, hd] at g4
    rw [hc] at b1 kl
    rw [hd] at b2 km
    simp only [Mv, Mc] at kl km
    have ihk := ih (i + 1, c, d, s && decide (c ≤ d)) (by dsimp only; omega) ⟨by dsimp only; omega, by dsimp only; omega, by dsimp only; omega, g4⟩
    clear ih
    dsimp only at ihk
    simp only [go_sem, c2, ni, hmk, nmk, hxk, m2, Mv, Mc, List.length_map]
    refine dP kl ?_
    simp only [go_sem, c2, ni, hmk, nmk, hxk, m2, Mv, Mc, List.length_map]
    refine cP km ?_
    cases s
    · simp only [go_sem, w3]
      simp only [Bool.false_and] at ihk
      exact ihk _ (by simp [go_sem])
    · simp only [go_sem, w3]
      simp only [Bool.true_and] at ihk
      exact ihk _ (by simp [go_sem])
  · have c2 : ¬ (i : Int) < l.length := by omega
    rw [List.drop_eq_nil_of_le (by omega), rf] at g4
    subst g4
    clear ih
    have e3 : (if a < -1000000000 then -1000000000 else a) = max a (-1000000000) := by split <;> omega
    have e4 : (if 1000000000 < b then 1000000000 else b) = min b 1000000000 := by split <;> omega
    cases s
    · simp only [go_sem, c2, e3, e4, r2, Bool.false_and]
    · simp only [go_sem, c2, e3, e4, r2, Bool.true_and]
end Go.Proofs

namespace Go.Proofs
open Go Go.Sx Go.Gauge
attribute [local irreducible] Run

noncomputable def trE (bs : List Mt) (m n : Int) : Int × Int × Int :=
  if chkE bs ≠ 0 then (0, 0, chkE bs) else if ¬(0 ≤ m ∧ m < bs.length) then (0, 0, 7) else if ¬(-1000000000 ≤ n ∧ n ≤ 1000000000) then (0, 0, 2)
  else if n % (mt bs m).step ≠ 0 then (0, 0, 3) else match tru bs m n with
    | none => (0, 0, 12)
    | some (a, b) => (a, b, 0)
theorem checkOne_raw (bs : List Mt) (m : Int) (hl : bs.length ≤ 1000) : Ans Tryd.prog n_gauge_checkOne [.view (bs.map Mv), .int .i64 m] [] (.int .i64 (if chkE bs ≠ 0 then chkE bs else if ¬(0 ≤ m ∧ m < bs.length) then 7 else 0)) [] := by
  have k := isMeter_run bs m (by omega)
  have k1 := Check_raw bs (by omega)
  obtain ⟨e, he⟩ : ∃ e, chkE bs = e := ⟨_, rfl⟩
  rw [he] at k1 ⊢
  refine spec_run e_gauge_checkOne fun G => ?_
  by_cases c : e = 0
  · have c2 : (e == 0) = true := beq_iff_eq.2 c
    rw [if_neg (not_not_intro c)]
    by_cases d : 0 ≤ m ∧ m < (bs.length : Int)
    · rw [if_neg (not_not_intro d)]
      rw [decide_eq_true d] at k
      simp only [go_sem]
      refine cP k1 ?_
      simp only [go_sem, c, c2]
      refine cP k ?_
      simp only [go_sem]
    · rw [if_pos d]
      rw [decide_eq_false d] at k
      simp only [go_sem]
      refine cP k1 ?_
      simp only [go_sem, c, c2]
      refine cP k ?_
      simp only [go_sem]
  · have c2 : (e == 0) = false := beq_eq_false_iff_ne.2 c
    rw [if_pos c]
    simp only [go_sem]
    refine cP k1 ?_
    simp only [go_sem, c, c2]
theorem tmod_iff {n s : Int} : n.tmod s = 0 ↔ n % s = 0 :=
  ⟨fun h => Int.emod_eq_zero_of_dvd (Int.dvd_of_tmod_eq_zero h), fun h => Int.tmod_eq_zero_of_dvd (Int.dvd_of_emod_eq_zero h)⟩
theorem True_raw (bs : List Mt) (m n : Int) (hl : bs.length ≤ 1000) :
    Ans Tryd.prog n_gauge_True [.view (bs.map Mv), .int .i64 m, .int .i64 n] [] (.tup [r2 (trE bs m n).1 (trE bs m n).2.1, .int .i64 (trE bs m n).2.2]) [] := by
  have k3 := checkOne_raw bs m hl
  have k1 := isIn_run n (-1000000000) 1000000000
  simp only [r2] at k1
  unfold trE
  by_cases c : chkE bs = 0
  · have h := chkE_vb c
    rw [if_neg (not_not_intro c)] at k3 ⊢
    by_cases d : 0 ≤ m ∧ m < (bs.length : Int)
    · rw [if_neg (not_not_intro d)] at k3 ⊢
      obtain ⟨h0, h1⟩ := d
      have n0 : ¬ m < 0 := by omega
      have hx0 := mt_get h0 h1
      have hs := (h.all _ (mt_mem h0 h1)).s
      have s0 : (mt bs m).step ≠ 0 := by omega
      by_cases d2 : -1000000000 ≤ n ∧ n ≤ 1000000000
      · rw [if_neg (not_not_intro d2)]
        rw [decide_eq_true d2] at k1
        by_cases d3 : n % (mt bs m).step = 0
        · have tm := tmod_iff.2 d3
          rw [if_neg (not_not_intro d3)]
          have k2 := trueFor_run h h0 h1 d2
          have kv : ∃ a b c, truV (tru bs m n) = .tup [.agg [.int .i64 a, .int .i64 b], .int .i64 c] ∧ (match tru bs m n with
              | none => ((0, 0, 12) : Int × Int × Int)
              | some (a, b) => (a, b, 0)) = (a, b, c) := by
            rcases tru bs m n with _ | ⟨a, b⟩
            · exact ⟨0, 0, 12, rfl, rfl⟩
            · exact ⟨a, b, 0, rfl, rfl⟩
          obtain ⟨a, b, e, hv, hv2⟩ := kv
          rw [hv] at k2
          rw [hv2]
          refine spec_run e_gauge_True fun G => ?_
          simp only [go_sem]
          refine cP k3 ?_
          simp only [go_sem]
          refine cP k1 ?_
          simp only [go_sem, n0, hx0, Mv, Mc, s0, tm]
          refine cP k2 ?_
          simp only [go_sem, r2]
        · have tm : ¬ n.tmod (mt bs m).step = 0 := fun h => d3 (tmod_iff.1 h)
          rw [if_pos d3]
          refine spec_run e_gauge_True fun G => ?_
          simp only [go_sem]
          refine cP k3 ?_
          simp only [go_sem]
          refine cP k1 ?_
          simp only [go_sem, n0, hx0, Mv, Mc, s0, tm, r2]
      · rw [if_pos d2]
        rw [decide_eq_false d2] at k1
        refine spec_run e_gauge_True fun G => ?_
        simp only [go_sem]
        refine cP k3 ?_
        simp only [go_sem]
        refine cP k1 ?_
        simp only [go_sem, r2]
    · rw [if_pos d] at k3 ⊢
      refine spec_run e_gauge_True fun G => ?_
      simp only [go_sem]
      refine cP k3 ?_
      simp only [go_sem, r2]
  · rw [if_pos c] at k3 ⊢
    obtain ⟨e, he⟩ : ∃ e, chkE bs = e := ⟨_, rfl⟩
    rw [he] at c k3 ⊢
    have c2 : (e == 0) = false := beq_eq_false_iff_ne.2 c
    refine spec_run e_gauge_True fun G => ?_
    simp only [go_sem]
    refine cP k3 ?_
    simp only [go_sem, c, c2, r2]
theorem rTrue_raw (bs : List Mt) (m n : Int) (hl : bs.length ≤ 1000) :
    Ans Tryd.prog n_ref07_True [.view (bs.map Mv), .int .i64 m, .int .i64 n] [] (.tup [r2 (trE bs m n).1 (trE bs m n).2.1, .int .i64 (trE bs m n).2.2]) [] := by
  have k3 := rCheck_raw bs hl
  have k1 := beyond_run n (-1000000000) 1000000000
  have k2 := beyond_run m 0 ((bs.length : Int) - 1)
  have w1 : IntKind.i64.wrap ((bs.length : Int) - 1) = (bs.length : Int) - 1 := w64 (by omega)
  rw [show decide (0 ≤ m ∧ m ≤ (bs.length : Int) - 1) = decide (0 ≤ m ∧ m < (bs.length : Int)) from decide_eq_decide.2 (by omega)] at k2
  unfold trE
  by_cases c : chkE bs = 0
  · have h := chkE_vb c
    rw [c] at k3
    rw [if_neg (not_not_intro c)]
    by_cases d : 0 ≤ m ∧ m < (bs.length : Int)
    · rw [if_neg (not_not_intro d)]
      rw [decide_eq_true d] at k2
      obtain ⟨h0, h1⟩ := d
      have n0 : ¬ m < 0 := by omega
      have hx0 := mt_get h0 h1
      have hs := (h.all _ (mt_mem h0 h1)).s
      have s0 : (mt bs m).step ≠ 0 := by omega
      by_cases d2 : -1000000000 ≤ n ∧ n ≤ 1000000000
      · rw [if_neg (not_not_intro d2)]
        rw [decide_eq_true d2] at k1
        by_cases d3 : n % (mt bs m).step = 0
        · have tm := tmod_iff.2 d3
          rw [if_neg (not_not_intro d3)]
          have kb := before_run h h0 h1 d2
          rw [bfR_tru]
          obtain ⟨B, hB⟩ : ∃ B, bfR bs m n = B := ⟨_, rfl⟩
          rw [hB] at kb ⊢
          obtain ⟨a, b, s⟩ := B
          simp only [r2] at kb
          refine spec_run e_ref07_True fun G => ?_
          simp only [go_sem]
          refine cP k3 ?_
          simp only [go_sem, w1, List.length_map]
          refine cP k2 ?_
          simp only [go_sem]
          refine cP k1 ?_
          simp only [go_sem, n0, hx0, Mv, Mc, s0, tm]
          refine cP kb ?_
          cases s
          · simp only [go_sem, r2]
          · simp only [go_sem, r2]
        · have tm : ¬ n.tmod (mt bs m).step = 0 := fun h => d3 (tmod_iff.1 h)
          rw [if_pos d3]
          refine spec_run e_ref07_True fun G => ?_
          simp only [go_sem]
          refine cP k3 ?_
          simp only [go_sem, w1, List.length_map]
          refine cP k2 ?_
          simp only [go_sem]
          refine cP k1 ?_
          simp only [go_sem, n0, hx0, Mv, Mc, s0, tm, r2]
      · rw [if_pos d2]
        rw [decide_eq_false d2] at k1
        refine spec_run e_ref07_True fun G => ?_
        simp only [go_sem]
        refine cP k3 ?_
        simp only [go_sem, w1, List.length_map]
        refine cP k2 ?_
        simp only [go_sem]
        refine cP k1 ?_
        simp only [go_sem, r2]
    · rw [if_pos d]
      rw [decide_eq_false d] at k2
      refine spec_run e_ref07_True fun G => ?_
      simp only [go_sem]
      refine cP k3 ?_
      simp only [go_sem, w1, List.length_map]
      refine cP k2 ?_
      simp only [go_sem, r2]
  · rw [if_pos c]
    obtain ⟨e, he⟩ : ∃ e, chkE bs = e := ⟨_, rfl⟩
    rw [he] at c k3 ⊢
    have c2 : (e == 0) = false := beq_eq_false_iff_ne.2 c
    refine spec_run e_ref07_True fun G => ?_
    simp only [go_sem]
    refine cP k3 ?_
    simp only [go_sem, c, c2, r2]
end Go.Proofs

namespace Go.Proofs
open Go Go.Sx

def k_law07_shown_r0 : List AOper := [
  ⟨(some (8)), .move (.const (.nilsl)), none, []⟩]
def k_law07_shown_r1 : List AOper := [
  ⟨(some (9)), .move (.const (.nilsl)), none, []⟩]
def k_law07_shown_r2 : List AOper := [
  ⟨(some (13)), .move (.tmp 0), none, []⟩, 
  ⟨(some (14)), .move (.tmp 3), none, []⟩, 
  ⟨(some (15)), .bin .plain .add (.tmp 14) (.const (.int .i64 1)), none, []⟩, 
  ⟨(some (16)), .call (.const (.fn (.func 19) [] [])) [.tmp 13, .tmp 15], none, []⟩, 
  ⟨(some (10)), .move (.tmp 16), none, []⟩]
def k_law07_shown_r3 : List AOper := [
  ⟨(some (17)), .move (.tmp 10), none, []⟩, 
  ⟨(some (18)), .bin .plain .gtr (.tmp 17) (.const (.int .i64 0)), none, []⟩]
def k_law07_shown_r4 : List AOper := [
  ⟨(some (21)), .move (.tmp 0), none, []⟩, 
  ⟨(some (22)), .move (.tmp 1), none, []⟩, 
  ⟨(some (23)), .len false (.tmp 22), none, []⟩, 
  ⟨(some (24)), .call (.const (.fn (.func 19) [] [])) [.tmp 21, .tmp 23], none, []⟩, 
  ⟨(some (11)), .move (.tmp 24), none, []⟩]
def k_law07_shown_r5 : List AOper := [
  ⟨(some (25)), .move (.tmp 2), none, []⟩, 
  ⟨(some (12)), .move (.tmp 25), none, []⟩]
def k_law07_shown_r6 : List AOper := [
  ⟨(some (26)), .move (.tmp 0), none, []⟩, 
  ⟨(some (27)), .call (.const (.fn (.func 18) [] [])) [.tmp 26, .const (.int .i64 9)], none, []⟩]
def k_law07_shown_r7 : List AOper := [
  ⟨(some (28)), .move (.tmp 2), none, []⟩, 
  ⟨(some (29)), .move (.tmp 0), none, []⟩, 
  ⟨(some (30)), .call (.const (.fn (.func 20) [] [])) [.tmp 29, .const (.int .i64 (-50)), .const (.int .i64 50)], none, []⟩, 
  ⟨(some (31)), .bin .plain .add (.tmp 28) (.tmp 30), none, []⟩, 
  ⟨(some (12)), .move (.tmp 31), none, []⟩]
def k_law07_shown_r8 : List AOper := [
  ⟨(some (32)), .move (.tmp 9), none, []⟩, 
  ⟨(some (33)), .move (.tmp 11), none, []⟩, 
  ⟨(some (34)), .move (.tmp 0), none, []⟩, 
  ⟨(some (35)), .move (.tmp 1), none, []⟩, 
  ⟨(some (36)), .move (.tmp 11), none, []⟩, 
  ⟨(some (37)), .move (.tmp 12), none, []⟩, 
  ⟨(some (38)), .call (.const (.fn (.func 31) [] [])) [.tmp 34, .tmp 35, .tmp 36, .tmp 37], none, []⟩, 
  ⟨(some (39)), .build [.int .i64 0, .int .i64 0] [(0, 1, .tmp 33), (1, 1, .tmp 38)], none, []⟩, 
  ⟨(some (40)), .buildSlice 2 [.tmp 39], none, []⟩, 
  ⟨(some (41)), .append 2 16 true (.tmp 32) (.tmp 40), none, []⟩, 
  ⟨(some (9)), .move (.tmp 41), none, []⟩]
def k_law07_shown_r9 : List AOper := [
  ⟨(some (19)), .move (.tmp 10), none, []⟩, 
  ⟨(some (20)), .bin .plain .sub (.tmp 19) (.const (.int .i64 1)), none, []⟩, 
  ⟨(some (10)), .move (.tmp 20), none, []⟩]
def k_law07_shown_r10 : ACode := (.seq (.seq (.reg k_law07_shown_r3 false) (.cond (.tmp 18) .skip (.exit 0))) (.seq (.block 1 (.seq (.reg k_law07_shown_r4 false) (.seq (.reg k_law07_shown_r5 false) (.seq (.seq (.reg k_law07_shown_r6 false) (.cond (.tmp 27) (.reg k_law07_shown_r7 false) .skip)) (.reg k_law07_shown_r8 false))))) (.reg k_law07_shown_r9 false)))
def k_law07_shown_r11 : List AOper := [
  ⟨(some (42)), .move (.tmp 9), none, []⟩, 
  ⟨(some (8)), .move (.tmp 42), none, []⟩]
def k_law07_shown : AFun := { params := 4, ntmps := 43, body := (.seq (.reg k_law07_shown_r0 false) (.seq (.reg k_law07_shown_r1 false) (.seq (.seq (.reg k_law07_shown_r2 false) (.block 0 (.loop k_law07_shown_r10))) (.seq (.reg k_law07_shown_r11 false) .ret)))), res := [.tmp 8] }
theorem k_law07_shown_ok : cfun Tryd.prog Tryd.f38 = k_law07_shown := by kernel_rfl

def k_ref07_Together_r0 : List AOper := [
  ⟨(some (4)), .box (.const (.agg [.int .i64 0, .int .i64 0])), none, []⟩, 
  ⟨(some (5)), .move (.const (.int .i64 0)), none, []⟩]
def k_ref07_Together_r1 : List AOper := [
  ⟨(some (11)), .move (.tmp 0), none, []⟩, 
  ⟨(some (12)), .call (.const (.fn (.func 24) [] [])) [.tmp 11], none, []⟩, 
  ⟨(some (6)), .move (.tmp 12), none, []⟩]
def k_ref07_Together_r2 : List AOper := [
  ⟨(some (13)), .move (.tmp 6), none, []⟩, 
  ⟨(some (14)), .bin .plain .neq (.tmp 13) (.const (.int .i64 0)), none, []⟩]
def k_ref07_Together_r3 : List AOper := [
  ⟨(some (15)), .build [.int .i64 0, .int .i64 0] [], none, []⟩, 
  ⟨(some (16)), .move (.tmp 6), none, []⟩, 
  ⟨none, .store 2 (.tmp 4) (.tmp 15), none, []⟩, 
  ⟨(some (5)), .move (.tmp 16), none, []⟩]
def k_ref07_Together_r4 : List AOper := [
  ⟨(some (17)), .move (.tmp 1), none, []⟩, 
  ⟨(some (18)), .len false (.tmp 17), none, []⟩, 
  ⟨(some (19)), .bin .plain .eql (.tmp 18) (.const (.int .i64 0)), none, []⟩]
def k_ref07_Together_r5 : List AOper := [
  ⟨(some (20)), .build [.int .i64 0, .int .i64 0] [], none, []⟩, 
  ⟨none, .store 2 (.tmp 4) (.tmp 20), none, []⟩, 
  ⟨(some (5)), .move (.const (.int .i64 6)), none, []⟩]
def k_ref07_Together_r6 : List AOper := [
  ⟨(some (21)), .move (.tmp 1), none, []⟩, 
  ⟨(some (22)), .len false (.tmp 21), none, []⟩, 
  ⟨(some (23)), .bin .plain .gtr (.tmp 22) (.const (.int .i64 10)), none, []⟩]
def k_ref07_Together_r7 : List AOper := [
  ⟨(some (24)), .build [.int .i64 0, .int .i64 0] [], none, []⟩, 
  ⟨none, .store 2 (.tmp 4) (.tmp 24), none, []⟩, 
  ⟨(some (5)), .move (.const (.int .i64 8)), none, []⟩]
def k_ref07_Together_r8 : List AOper := [
  ⟨(some (25)), .build [.int .i64 0, .int .i64 0] [(0, 1, .const (.int .i64 (-1000000000))), (1, 1, .const (.int .i64 1000000000))], none, []⟩, 
  ⟨(some (7)), .box (.const (.agg [.int .i64 0, .int .i64 0])), none, []⟩, 
  ⟨none, .store 2 (.tmp 7) (.tmp 25), none, []⟩]
def k_ref07_Together_r9 : List AOper := [
  ⟨(some (8)), .move (.const (.int .i64 0)), none, []⟩]
def k_ref07_Together_r10 : List AOper := [
  ⟨(some (26)), .move (.tmp 8), none, []⟩, 
  ⟨(some (27)), .move (.tmp 1), none, []⟩, 
  ⟨(some (28)), .len false (.tmp 27), none, []⟩, 
  ⟨(some (29)), .bin .plain .lss (.tmp 26) (.tmp 28), none, []⟩]
def k_ref07_Together_r11 : List AOper := [
  ⟨(some (33)), .move (.tmp 0), none, []⟩, 
  ⟨(some (34)), .move (.tmp 1), none, [0]⟩, 
  ⟨(some (35)), .move (.tmp 8), none, [0, 1]⟩, 
  ⟨(some (36)), .indexAddr 2 (.tmp 34) (.tmp 35), none, [0]⟩, 
  ⟨(some (37)), .fieldAddr 0 (.tmp 36), none, [0]⟩, 
  ⟨(some (38)), .load none (.tmp 37), none, [0]⟩, 
  ⟨(some (39)), .move (.tmp 1), none, [0, 1, 2, 3, 4, 5]⟩, 
  ⟨(some (40)), .move (.tmp 8), none, [0, 1, 2, 3, 4, 5, 6]⟩, 
  ⟨(some (41)), .indexAddr 2 (.tmp 39) (.tmp 40), none, [0, 1, 2, 3, 4, 5]⟩, 
  ⟨(some (42)), .fieldAddr 1 (.tmp 41), none, [0, 1, 2, 3, 4, 5]⟩, 
  ⟨(some (43)), .load none (.tmp 42), none, [0, 1, 2, 3, 4, 5]⟩, 
  ⟨(some (44)), .call (.const (.fn (.func 33) [] [])) [.tmp 33, .tmp 38, .tmp 43], none, []⟩, 
  ⟨(some (32)), .move (.tmp 44), none, []⟩, 
  ⟨(some (45)), .extract (.tmp 32) 0, none, []⟩, 
  ⟨(some (46)), .extract (.tmp 32) 1, none, [13]⟩, 
  ⟨(some (9)), .box (.const (.agg [.int .i64 0, .int .i64 0])), none, [0, 1, 2, 3, 4, 5, 6, 7, 8, 9, 10, 11, 12, 13, 14]⟩, 
  ⟨none, .store 2 (.tmp 9) (.tmp 45), none, [14]⟩, 
  ⟨(some (10)), .move (.tmp 46), none, []⟩]
def k_ref07_Together_r11s : List (List AOper) := [
  [
  ⟨(some (33)), .move (.tmp 0), none, []⟩, 
  ⟨(some (34)), .move (.tmp 1), none, [0]⟩, 
  ⟨(some (35)), .move (.tmp 8), none, [0, 1]⟩, 
  ⟨(some (36)), .indexAddr 2 (.tmp 34) (.tmp 35), none, [0]⟩, 
  ⟨(some (37)), .fieldAddr 0 (.tmp 36), none, [0]⟩, 
  ⟨(some (38)), .load none (.tmp 37), none, [0]⟩, 
  ⟨(some (39)), .move (.tmp 1), none, [0, 1, 2, 3, 4, 5]⟩, 
  ⟨(some (40)), .move (.tmp 8), none, [0, 1, 2, 3, 4, 5, 6]⟩, 
  ⟨(some (41)), .indexAddr 2 (.tmp 39) (.tmp 40), none, [0, 1, 2, 3, 4, 5]⟩, 
  ⟨(some (42)), .fieldAddr 1 (.tmp 41), none, [0, 1, 2, 3, 4, 5]⟩, 
  ⟨(some (43)), .load none (.tmp 42), none, [0, 1, 2, 3, 4, 5]⟩, 
  ⟨(some (44)), .call (.const (.fn (.func 33) [] [])) [.tmp 33, .tmp 38, .tmp 43], none, []⟩, 
  ⟨(some (32)), .move (.tmp 44), none, []⟩, 
  ⟨(some (45)), .extract (.tmp 32) 0, none, []⟩, 
  ⟨(some (46)), .extract (.tmp 32) 1, none, [13]⟩, 
  ⟨(some (9)), .box (.const (.agg [.int .i64 0, .int .i64 0])), none, [0, 1, 2, 3, 4, 5, 6, 7, 8, 9, 10, 11, 12, 13, 14]⟩, 
  ⟨none, .store 2 (.tmp 9) (.tmp 45), none, [14]⟩], 
  [
  ⟨(some (10)), .move (.tmp 46), none, []⟩]]
theorem k_ref07_Together_r11_sg : segs k_ref07_Together_r11 = k_ref07_Together_r11s := by kernel_rfl
theorem k_ref07_Together_r11_st : statOK k_ref07_Together_r11 = true := by kernel_rfl
def k_ref07_Together_r12 : List AOper := [
  ⟨(some (47)), .move (.tmp 10), none, []⟩, 
  ⟨(some (48)), .bin .plain .neq (.tmp 47) (.const (.int .i64 0)), none, []⟩]
def k_ref07_Together_r13 : List AOper := [
  ⟨(some (49)), .build [.int .i64 0, .int .i64 0] [], none, []⟩, 
  ⟨(some (50)), .move (.tmp 10), none, []⟩, 
  ⟨none, .store 2 (.tmp 4) (.tmp 49), none, []⟩, 
  ⟨(some (5)), .move (.tmp 50), none, []⟩]
def k_ref07_Together_r14 : List AOper := [
  ⟨(some (51)), .fieldAddr 0 (.tmp 7), none, []⟩, 
  ⟨(some (52)), .load none (.tmp 51), none, []⟩, 
  ⟨(some (53)), .fieldAddr 0 (.tmp 9), none, []⟩, 
  ⟨(some (54)), .load none (.tmp 53), none, []⟩, 
  ⟨(some (55)), .minmax true [.tmp 52, .tmp 54], none, []⟩, 
  ⟨(some (56)), .fieldAddr 1 (.tmp 7), none, []⟩, 
  ⟨(some (57)), .load none (.tmp 56), none, []⟩, 
  ⟨(some (58)), .fieldAddr 1 (.tmp 9), none, []⟩, 
  ⟨(some (59)), .load none (.tmp 58), none, []⟩, 
  ⟨(some (60)), .minmax false [.tmp 57, .tmp 59], none, []⟩, 
  ⟨(some (61)), .build [.int .i64 0, .int .i64 0] [(0, 1, .tmp 55), (1, 1, .tmp 60)], none, []⟩, 
  ⟨none, .store 2 (.tmp 7) (.tmp 61), none, []⟩]
def k_ref07_Together_r15 : List AOper := [
  ⟨(some (30)), .move (.tmp 8), none, []⟩, 
  ⟨(some (31)), .bin .plain .add (.tmp 30) (.const (.int .i64 1)), none, []⟩, 
  ⟨(some (8)), .move (.tmp 31), none, []⟩]
def k_ref07_Together_r16 : ACode := (.seq (.seq (.reg k_ref07_Together_r10 false) (.cond (.tmp 29) .skip (.exit 0))) (.seq (.block 1 (.seq (.reg k_ref07_Together_r11 true) (.seq (.seq (.reg k_ref07_Together_r12 false) (.cond (.tmp 48) (.seq (.reg k_ref07_Together_r13 false) .ret) .skip)) (.reg k_ref07_Together_r14 false)))) (.reg k_ref07_Together_r15 false)))
def k_ref07_Together_r17 : List AOper := [
  ⟨(some (62)), .fieldAddr 0 (.tmp 7), none, []⟩, 
  ⟨(some (63)), .load none (.tmp 62), none, []⟩, 
  ⟨(some (64)), .fieldAddr 1 (.tmp 7), none, []⟩, 
  ⟨(some (65)), .load none (.tmp 64), none, []⟩, 
  ⟨(some (66)), .bin .plain .gtr (.tmp 63) (.tmp 65), none, []⟩]
def k_ref07_Together_r18 : List AOper := [
  ⟨(some (67)), .build [.int .i64 0, .int .i64 0] [], none, []⟩, 
  ⟨none, .store 2 (.tmp 4) (.tmp 67), none, []⟩, 
  ⟨(some (5)), .move (.const (.int .i64 12)), none, []⟩]
def k_ref07_Together_r19 : List AOper := [
  ⟨(some (68)), .load (some (2)) (.tmp 7), none, []⟩, 
  ⟨none, .store 2 (.tmp 4) (.tmp 68), none, []⟩, 
  ⟨(some (5)), .move (.const (.int .i64 0)), none, []⟩]
def k_ref07_Together : AFun := { params := 2, ntmps := 69, body := (.seq (.reg k_ref07_Together_r0 false) (.seq (.seq (.reg k_ref07_Together_r1 false) (.seq (.reg k_ref07_Together_r2 false) (.cond (.tmp 14) (.seq (.reg k_ref07_Together_r3 false) .ret) .skip))) (.seq (.seq (.reg k_ref07_Together_r4 false) (.cond (.tmp 19) (.seq (.reg k_ref07_Together_r5 false) .ret) .skip)) (.seq (.seq (.reg k_ref07_Together_r6 false) (.cond (.tmp 23) (.seq (.reg k_ref07_Together_r7 false) .ret) .skip)) (.seq (.reg k_ref07_Together_r8 false) (.seq (.seq (.reg k_ref07_Together_r9 false) (.block 0 (.loop k_ref07_Together_r16))) (.seq (.seq (.reg k_ref07_Together_r17 false) (.cond (.tmp 66) (.seq (.reg k_ref07_Together_r18 false) .ret) .skip)) (.seq (.reg k_ref07_Together_r19 false) .ret)))))))), res := [.cell 4 (some ((some (2)))), .tmp 5] }
theorem k_ref07_Together_ok : cfun Tryd.prog Tryd.f40 = k_ref07_Together := by kernel_rfl


abbrev n_law07_shown : Nat := 38
theorem e_law07_shown : EntryOK Tryd.prog n_law07_shown k_law07_shown := ⟨Tryd.f38, Tryd.func38, k_law07_shown_ok, by kernel_rfl⟩
abbrev n_ref07_Together : Nat := 40
theorem e_ref07_Together : EntryOK Tryd.prog n_ref07_Together k_ref07_Together := ⟨Tryd.f40, Tryd.func40, k_ref07_Together_ok, by kernel_rfl⟩

attribute [go_sem] k_law07_shown_r0 k_law07_shown_r1 k_law07_shown_r2 k_law07_shown_r3 k_law07_shown_r4
attribute [go_sem] k_law07_shown_r5 k_law07_shown_r6 k_law07_shown_r7 k_law07_shown_r8 k_law07_shown_r9 k_law07_shown_r11 k_ref07_Together_r0 k_ref07_Together_r1 k_ref07_Together_r2 k_ref07_Together_r3 k_ref07_Together_r4 k_ref07_Together_r5
attribute [go_sem] k_ref07_Together_r6 k_ref07_Together_r7 k_ref07_Together_r8 k_ref07_Together_r9 k_ref07_Together_r10 k_ref07_Together_r11s k_ref07_Together_r12 k_ref07_Together_r13 k_ref07_Together_r14 k_ref07_Together_r15 k_ref07_Together_r17 k_ref07_Together_r18
attribute [go_sem] k_ref07_Together_r19 k_ref07_Together_r11_sg k_ref07_Together_r11_st k_law07_shown k_ref07_Together
end Go.Proofs

namespace Go.Proofs
open Go Go.Sx Go.Gauge
attribute [local irreducible] Run

section
variable {P : Program} {g : FuncId} {args largs : List AVal} {H : Heap} {R : Runner} {l : List AOper} {fs : List Sx.Frame} {ρ : List AVal} {ms : List Nat} {Q : Sx.Goal} {ao : AOper} {lo hi : Nat} {tr : List (List Nat × List Nat)} {ss : List (List AOper)}
end
end Go.Proofs

namespace Go.Proofs
open Go Go.Sx Go.Gauge
attribute [local irreducible] Run

def Sv (s : Int × Int) : AVal := .agg [.int .i64 s.1, .int .i64 s.2]
@[go_sem] theorem sv_bel (s : Int × Int) (S : Nat → Prop) : Bel S (Sv s) = True := by unfold Sv; simp only [go_sem]
@[go_sem] theorem svs_bel (l : List (Int × Int)) (S : Nat → Prop) : Bels S (l.map Sv) = True := eq_true (bels_map _ _ fun m => by simp only [go_sem])
@[go_sem] theorem sv_nv (s : Int × Int) : NV (Sv s) = True := by unfold Sv; simp only [go_sem]
@[go_sem] theorem svs_nv (l : List (Int × Int)) : NVs (l.map Sv) = True := eq_true (nvs_map _ _ fun m => by simp only [go_sem])
theorem sv_frz (l : List (Int × Int)) (d : Nat) (H : Heap) : (l.map Sv).map (frz (d + 2) H) = l.map Sv := by rw [List.map_map]; rfl
theorem ss_frz {l : List (Int × Int)} {H : Heap} {j n : Nat} {g : Bool} (h : H[j]? = some (some (.cells g 2 (l.map Sv)))) (hn : n = l.length) : frz 6 H (.sl j 0 n) = .view (l.map Sv) := by
  rw [frz_sl (d := 5) h (by simpa using hn), sv_frz]

noncomputable def loS (bs : List Mt) (s : Int × Int) : Int := ((tru bs s.1 s.2).getD (0, 0)).1
noncomputable def hiS (bs : List Mt) (s : Int × Int) : Int := ((tru bs s.1 s.2).getD (0, 0)).2
noncomputable def togLo (bs : List Mt) (l : List (Int × Int)) : Int := l.foldl (fun a s => max a (loS bs s)) (-1000000000)
noncomputable def togHi (bs : List Mt) (l : List (Int × Int)) : Int := l.foldl (fun b s => min b (hiS bs s)) 1000000000
end Go.Proofs

namespace Go.Proofs
open Go Go.Sx Go.Gauge
attribute [local irreducible] Run

noncomputable def tgF (bs : List Mt) : List (Int × Int) → Int → Int → Int × Int × Int
  | [], a, b => if b < a then (0, 0, 12) else (a, b, 0)
  | s :: l, a, b => if (trE bs s.1 s.2).2.2 ≠ 0 then (0, 0, (trE bs s.1 s.2).2.2) else tgF bs l (max a (trE bs s.1 s.2).1) (min b (trE bs s.1 s.2).2.1)
noncomputable def tgE (bs : List Mt) (l : List (Int × Int)) : Int × Int × Int :=
  if chkE bs ≠ 0 then (0, 0, chkE bs) else if l.length = 0 then (0, 0, 6) else if 10 < l.length then (0, 0, 8) else tgF bs l (-1000000000) 1000000000

set_option maxHeartbeats 8000000 in
set_option maxRecDepth 10000 in
theorem Together_raw (bs : List Mt) (l : List (Int × Int)) (hl : bs.length ≤ 1000) (hn : l.length ≤ 9223372036854775807) :
    Ans Tryd.prog n_gauge_Together [.view (bs.map Mv), .view (l.map Sv)] [] (.tup [r2 (tgE bs l).1 (tgE bs l).2.1, .int .i64 (tgE bs l).2.2]) [] := by
  have kc := Check_raw bs (by omega)
  unfold tgE
  by_cases c : chkE bs = 0
  · rw [c] at kc
    rw [if_neg (not_not_intro c)]
    by_cases c1 : l.length = 0
    · have d1 : ((l.length : Int) == 0) = true := beq_iff_eq.2 (by omega)
      rw [if_pos c1]
      refine spec_run e_gauge_Together fun G => ?_
      simp only [go_sem]
      refine cP kc ?_
      simp only [go_sem, d1, List.length_map, r2]
    · have d1 : ((l.length : Int) == 0) = false := beq_eq_false_iff_ne.2 (by omega)
      rw [if_neg c1]
      by_cases c2 : 10 < l.length
      · have d2 : (10 : Int) < l.length := by omega
        rw [if_pos c2]
        refine spec_run e_gauge_Together fun G => ?_
        simp only [go_sem]
        refine cP kc ?_
        simp only [go_sem, d1, d2, List.length_map, r2]
      · have d2 : ¬ (10 : Int) < l.length := by omega
        rw [if_neg c2]
        obtain ⟨F, hF⟩ : ∃ F, tgF bs l (-1000000000) 1000000000 = F := ⟨_, rfl⟩
        rw [hF]
        refine spec_run e_gauge_Together fun G => ?_
        simp only [go_sem]
        refine cP kc ?_
        simp only [go_sem, d1, d2, List.length_map]
        refine loop_ind k_gauge_Together_r17.eq_1 (fun a : Nat × Int × Int × Heap => a.1 ≤ l.length ∧ tgF bs (l.drop a.1) a.2.1 a.2.2.1 = F) (fun a => l.length - a.1)
          (fun a => (tsets 54 [(0, .view (bs.map Mv)), (4, .ptr 0 0 0 1), (5, .int .i64 0), (7, .ptr 1 0 0 1), (27, .view (l.map Sv)), (28, .int .i64 l.length), (29, .int .i64 a.1)],
            some (.cells false 2 [.agg [.int .i64 0, .int .i64 0]]) :: some (.cells false 2 [.agg [.int .i64 a.2.1, .int .i64 a.2.2.1]]) :: a.2.2.2)) (0, -1000000000, 1000000000, []) ⟨Nat.zero_le _, hF⟩ (by simp [go_sem]) (by simp) ?_
        rintro ⟨i, a, b, X⟩ ⟨hi, hf⟩ ih
        dsimp only at hi hf ih ⊢
        by_cases e1 : i < l.length
        · have e2 : (i : Int) < l.length := by omega
          have n0 : ¬ (i : Int) < 0 := by omega
          have w1 : IntKind.i64.wrap ((i : Int) + 1) = ((i + 1 : Nat) : Int) := by rw [w64 (by omega)]; rfl
          obtain ⟨s, hz⟩ : ∃ s, l[i]? = some s := ⟨_, List.getElem?_eq_getElem e1⟩
          rw [drop_cons hz, tgF] at hf
          have kt := True_raw bs s.1 s.2 hl
          obtain ⟨T, hT⟩ : ∃ T, trE bs s.1 s.2 = T := ⟨_, rfl⟩
          rw [hT] at kt hf
          obtain ⟨x, y, e⟩ := T
          dsimp only at kt hf
          have kc := common_run a b x y
          simp only [r2] at kt kc
          by_cases e3 : e = 0
          · have e4 : (e == 0) = true := beq_iff_eq.2 e3
            rw [if_neg (not_not_intro e3)] at hf
            simp only [go_sem, e2, n0, hz, Sv, cells_end, get_end, put_at_end]
            refine cP kt ?_
            simp only [go_sem, e3, e4, cells_end, get_end, put_at_end]
            refine cP kc ?_
            simp only [go_sem, w1]
            exact ih (i + 1, _, _, _) (by dsimp only; omega) ⟨e1, hf⟩ _ (by simp [go_sem])
          · have e4 : (e == 0) = false := beq_eq_false_iff_ne.2 e3
            rw [if_pos e3] at hf
            subst hf
            clear ih
            simp only [go_sem, e2, n0, hz, Sv, cells_end, get_end, put_at_end]
            refine cP kt ?_
            simp only [go_sem, e3, e4, cells_end, get_end, put_at_end, r2]
        · have e2 : ¬ (i : Int) < l.length := by omega
          rw [List.drop_eq_nil_of_le (by omega), tgF] at hf
          subst hf
          clear ih
          have ke := isEmpty_run a b
          simp only [r2] at ke
          by_cases e3 : b < a
          · rw [if_pos e3]
            simp only [go_sem, e2]
            refine cP ke ?_
            simp only [go_sem, e3, r2]
          · rw [if_neg e3]
            simp only [go_sem, e2]
            refine cP ke ?_
            simp only [go_sem, e3, r2]
  · rw [if_pos c]
    obtain ⟨e, he⟩ : ∃ e, chkE bs = e := ⟨_, rfl⟩
    rw [he] at c kc ⊢
    have c2 : (e == 0) = false := beq_eq_false_iff_ne.2 c
    refine spec_run e_gauge_Together fun G => ?_
    simp only [go_sem]
    refine cP kc ?_
    simp only [go_sem, c, c2, r2]

set_option maxHeartbeats 8000000 in
set_option maxRecDepth 10000 in
theorem rTogether_raw (bs : List Mt) (l : List (Int × Int)) (hl : bs.length ≤ 1000) (hn : l.length ≤ 9223372036854775807) :
    Ans Tryd.prog n_ref07_Together [.view (bs.map Mv), .view (l.map Sv)] [] (.tup [r2 (tgE bs l).1 (tgE bs l).2.1, .int .i64 (tgE bs l).2.2]) [] := by
  have kc := rCheck_raw bs hl
  unfold tgE
  by_cases c : chkE bs = 0
  · rw [c] at kc
    rw [if_neg (not_not_intro c)]
    by_cases c1 : l.length = 0
    · have d1 : ((l.length : Int) == 0) = true := beq_iff_eq.2 (by omega)
      rw [if_pos c1]
      refine spec_run e_ref07_Together fun G => ?_
      simp only [go_sem]
      refine cP kc ?_
      simp only [go_sem, d1, List.length_map, r2]
    · have d1 : ((l.length : Int) == 0) = false := beq_eq_false_iff_ne.2 (by omega)
      rw [if_neg c1]
      by_cases c2 : 10 < l.length
      · have d2 : (10 : Int) < l.length := by omega
        rw [if_pos c2]
        refine spec_run e_ref07_Together fun G => ?_
        simp only [go_sem]
        refine cP kc ?_
        simp only [go_sem, d1, d2, List.length_map, r2]
      · have d2 : ¬ (10 : Int) < l.length := by omega
        rw [if_neg c2]
        obtain ⟨F, hF⟩ : ∃ F, tgF bs l (-1000000000) 1000000000 = F := ⟨_, rfl⟩
        rw [hF]
        refine spec_run e_ref07_Together fun G => ?_
        simp only [go_sem]
        refine cP kc ?_
        simp only [go_sem, d1, d2, List.length_map]
        refine loop_ind k_ref07_Together_r16.eq_1 (fun a : Nat × Int × Int × Heap => a.1 ≤ l.length ∧ tgF bs (l.drop a.1) a.2.1 a.2.2.1 = F) (fun a => l.length - a.1)
          (fun a => (tsets 69 [(0, .view (bs.map Mv)), (1, .view (l.map Sv)), (4, .ptr 0 0 0 1), (7, .ptr 1 0 0 1), (8, .int .i64 a.1)],
            some (.cells false 2 [.agg [.int .i64 0, .int .i64 0]]) :: some (.cells false 2 [.agg [.int .i64 a.2.1, .int .i64 a.2.2.1]]) :: a.2.2.2)) (0, -1000000000, 1000000000, []) ⟨Nat.zero_le _, hF⟩ (by simp [go_sem]) (by simp) ?_
        rintro ⟨i, a, b, X⟩ ⟨hi, hf⟩ ih
        dsimp only at hi hf ih ⊢
        by_cases e1 : i < l.length
        · have e2 : (i : Int) < l.length := by omega
          have n0 : ¬ (i : Int) < 0 := by omega
          have w1 : IntKind.i64.wrap ((i : Int) + 1) = ((i + 1 : Nat) : Int) := by rw [w64 (by omega)]; rfl
          obtain ⟨s, hz⟩ : ∃ s, l[i]? = some s := ⟨_, List.getElem?_eq_getElem e1⟩
          rw [drop_cons hz, tgF] at hf
          have kt := rTrue_raw bs s.1 s.2 hl
          obtain ⟨T, hT⟩ : ∃ T, trE bs s.1 s.2 = T := ⟨_, rfl⟩
          rw [hT] at kt hf
          obtain ⟨x, y, e⟩ := T
          dsimp only at kt hf
          simp only [r2] at kt
          by_cases e3 : e = 0
          · have e4 : (e == 0) = true := beq_iff_eq.2 e3
            rw [if_neg (not_not_intro e3)] at hf
            simp only [go_sem, e2, n0, hz, Sv, cells_end, get_end, put_at_end, List.length_map]
            refine dP kt ?_
            have m1 : (if a < x then x else a) = max a x := by split <;> omega
            have m2 : (if y < b then y else b) = min b y := by split <;> omega
            simp only [go_sem, e3, e4, cells_end, get_end, put_at_end, m1, m2, w1]
            exact ih (i + 1, _, _, _) (by dsimp only; omega) ⟨e1, hf⟩ _ (by simp [go_sem])
          · have e4 : (e == 0) = false := beq_eq_false_iff_ne.2 e3
            rw [if_pos e3] at hf
            subst hf
            clear ih
            simp only [go_sem, e2, n0, hz, Sv, cells_end, get_end, put_at_end, List.length_map]
            refine dP kt ?_
            simp only [go_sem, e3, e4, cells_end, get_end, put_at_end, r2]
        · have e2 : ¬ (i : Int) < l.length := by omega
          rw [List.drop_eq_nil_of_le (by omega), tgF] at hf
          subst hf
          clear ih
          by_cases e3 : b < a
          · rw [if_pos e3]
            simp only [go_sem, e2, e3, r2, List.length_map]
          · rw [if_neg e3]
            simp only [go_sem, e2, e3, r2, List.length_map]
  · rw [if_pos c]
    obtain ⟨e, he⟩ : ∃ e, chkE bs = e := ⟨_, rfl⟩
    rw [he] at c kc ⊢
    have c2 : (e == 0) = false := beq_eq_false_iff_ne.2 c
    refine spec_run e_ref07_Together fun G => ?_
    simp only [go_sem]
    refine cP kc ?_
    simp only [go_sem, c, c2, r2]
end Go.Proofs

namespace Go.Proofs
open Go Go.Sx Go.Gauge
attribute [local irreducible] Run

section
variable {P : Program} {G : Ctx} {α : Type} {Φ : α → Prop} {r : α → AVal} {g : FuncId} {args largs : List AVal} {H : Heap} {k : Nat} {R : Runner} {l : List AOper} {fs : List Sx.Frame} {ρ : List AVal} {ms : List Nat} {Q : Sx.Goal} {dst : Option Nat}
theorem callR1 {x0 x1 : Row} {x' y : α → Row} {j0 j1 : Nat} (h : AnsE P g largs [some x0, some x1] Φ r fun a => [some (x' a), some x1, some (y a)]) (hargs : args = largs.map (ren (nth [j0, j1]))) (hb : Bels (· < 2) largs)
    (h0 : H[j0]? = some (some x0)) (h1 : H[j1]? = some (some x1)) (hx0 : x0.bel (fun _ => False)) (hx1 : x1.bel (fun _ => False)) (hn : [j0, j1].Nodup)
    (hwf : ∀ a, Φ a → Bel (· = 2) (r a) ∧ (x' a).bel (fun _ => False) ∧ (y a).bel (fun _ => False)) (hk : k ≤ H.length) (hms : ∀ q ∈ ms, q ∉ [j0, j1] ∧ H[q]? = some (some .dfr))
    (hK : ∀ a, Φ a → R (.ops l) fs ⟨setD ρ dst (ren (fun _ => H.length) (r a)), H.set j0 (some (x' a)) ++ [some (y a)], ms⟩ Q) : CallR P G k R g args dst l fs ρ H ms Q := by
  have hlt0 := (List.getElem?_eq_some_iff.1 h0).1
  have hlt1 := (List.getElem?_eq_some_iff.1 h1).1
  have n1 : j0 ≠ j1 := by simpa using hn
  have e : ∀ a, Φ a → outΔ (outσ [j0, j1] H.length) 0 [some (x' a), some x1, some (y a)] = [(j0, x' a), (j1, x1), (H.length, y a)] := fun a ha => by
    simp only [outΔ, Row.ren_same (hwf a ha).2.1, Row.ren_same (hwf a ha).2.2, Row.ren_same hx1]
    rfl
  refine callE h [j0, j1] hn ⟨by rw [Row.ren_same hx0]; exact h0, by rw [Row.ren_same hx1]; exact h1, trivial⟩ hargs hb ⟨bel_mono_row hx0 fun _ h => h.elim, bel_mono_row hx1 fun _ h => h.elim, trivial⟩
    (fun a ha => ⟨by simp, (hwf a ha).1.mono fun q hq => by subst hq; simp, bel_mono_row (hwf a ha).2.1 fun _ h => h.elim, bel_mono_row hx1 fun _ h => h.elim, bel_mono_row (hwf a ha).2.2 fun _ h => h.elim, trivial⟩) (by simp; omega) hk (fun a ha q hq => ?_) fun a ha => ?_
  · rw [e a ha]
    have := (List.getElem?_eq_some_iff.1 (hms q hq).2).1
    have h3 := (hms q hq).1
    simp only [List.mem_cons, List.not_mem_nil, or_false, not_or] at h3
    refine ⟨?_, (hms q hq).2⟩
    simp only [List.map_cons, List.map_nil, List.mem_cons, List.not_mem_nil, or_false, not_or]
    exact ⟨h3.1, h3.2, by omega⟩
  · rw [e a ha]
    have e2 : ren (outσ [j0, j1] H.length) (r a) = ren (fun _ => H.length) (r a) := ren_agree (fun q hq => by subst hq; simp [outσ]) (hwf a ha).1
    rw [e2]
    simp only [Heap.puts, put_lt hlt0]
    have q1 : (H.set j0 (some (x' a)))[j1]? = some (some x1) := by rw [List.getElem?_set_ne n1]; exact h1
    rw [put_same q1]
    have e3 : Heap.put (H.set j0 (some (x' a))) H.length (y a) = H.set j0 (some (x' a)) ++ [some (y a)] := by
      have := Heap.put_end (H.set j0 (some (x' a))) (y a)
      rwa [List.length_set] at this
    rw [e3]
    exact hK a ha
end
theorem kept_three {x x1 x' y : Row} {r v : AVal} {H' : Heap} (j : Nat) (hj : 2 ≤ j) (hv : v = ren (fun i => if i < 2 then i else j) r) (hx : x'.bel (fun _ => False)) (hx1 : x1.bel (fun _ => False)) (hy : y.bel (fun _ => False)) (h0 : H'[0]? = some (some x')) (h1 : H'[1]? = some (some x1)) (h2 : H'[j]? = some (some y)) : ∃ σ, Kept [some x, some x1] [some x', some x1, some y] r v H' σ :=
  ⟨fun i => if i < 2 then i else j, fun i hi => by simp only [List.length_cons, List.length_nil] at hi; simp [show i < 2 by omega], fun i k hi hk h => by
    simp only [List.length_cons, List.length_nil] at hi hk
    by_cases hi0 : i < 2 <;> by_cases hk0 : k < 2 <;> simp [hi0, hk0] at h <;> omega, hv, fun i z hz => by
    have hi := (List.getElem?_eq_some_iff.1 hz).1
    simp only [List.length_cons, List.length_nil] at hi
    obtain rfl | rfl | rfl : i = 0 ∨ i = 1 ∨ i = 2 := by omega
    · simp only [List.getElem?_cons_zero, Option.some.injEq] at hz
      subst hz
      rw [Row.ren_same hx]; exact h0
    · simp only [List.getElem?_cons_succ, List.getElem?_cons_zero, Option.some.injEq] at hz
      subst hz
      rw [Row.ren_same hx1]; exact h1
    · simp only [List.getElem?_cons_succ, List.getElem?_cons_zero, Option.some.injEq] at hz
      subst hz
      rw [Row.ren_same hy]; exact h2⟩

theorem shown_nil {bs : List Mt} (w v : Int) {most : Int} (hm : 0 ≤ most ∧ most ≤ 1000) (g : Bool) (h0 : upto w (most + 1) = 0) :
    Ans Tryd.prog n_law07_shown [.ptr 0 0 0 1, .sl 1 0 bs.length, .int .i64 v, .int .i64 most] [some (Dr w), some (.cells g 7 (bs.map Mv))] .nilsl [some (Dr (dstep w)), some (.cells g 7 (bs.map Mv))] := by
  have w1 : IntKind.i64.wrap (most + 1) = most + 1 := w64 (by omega)
  refine spec_run e_law07_shown fun G => ?_
  simp only [go_sem, w1]
  refine cD (upto_ok w (most + 1) (by omega)) ?_
  rw [h0]
  simp only [go_sem]
  refine loop_body 400 k_law07_shown_r10.eq_1 ?_
  simp only [go_sem]
  exact ⟨_, rfl⟩

set_option maxHeartbeats 8000000 in
set_option maxRecDepth 10000 in
theorem shown_loop {G : Ctx} {bs : List Mt} (h : VB bs) (hb1 : 1 ≤ bs.length) {v : Int} (hv : -100000000 ≤ v ∧ v ≤ 100000000) {R : AVal → Heap → Prop}
    (hR : ∀ (l : List (Int × Int)) (w' : Int) (q : Nat) (X : Heap), 1 ≤ l.length → l.length ≤ 1001 → X[q]? = some (some (.cells true 2 (l.map Sv))) → R (.sl (q + 2) 0 l.length) (some (Dr w') :: some (.cells true 7 (bs.map Mv)) :: X))
    (l : List (Int × Int)) (w i : Int) (q : Nat) (X : Heap) (hl : 1 ≤ l.length) (hi : (l.length : Int) + i ≤ 1001) (h0 : 0 ≤ i) (hX : X[q]? = some (some (.cells true 2 (l.map Sv)))) (ρ : List AVal) (hρ : Wk ρ (tsets 43 [(0, .ptr 0 0 0 1), (1, .sl 1 0 bs.length), (2, .int .i64 v), (9, .sl (q + 2) 0 l.length), (10, .int .i64 i)])) :
    Sx.Loop Tryd.prog G 2 none k_law07_shown_r10 [.blk 0, .seq (.seq (.reg k_law07_shown_r11 false) .ret)] ⟨ρ, some (Dr w) :: some (.cells true 7 (bs.map Mv)) :: X, []⟩ (RetPost [.tmp 8] R) := by
  have hlen := h.len
  refine loop_ind k_law07_shown_r10.eq_1 (fun a : List (Int × Int) × Int × Int × Heap => 1 ≤ a.1.length ∧ (a.1.length : Int) + a.2.2.1 ≤ 1001 ∧ 0 ≤ a.2.2.1 ∧ a.2.2.2[q]? = some (some (.cells true 2 (a.1.map Sv)))) (fun a => a.2.2.1.toNat)
    (fun a => (tsets 43 [(0, .ptr 0 0 0 1), (1, .sl 1 0 bs.length), (2, .int .i64 v), (9, .sl (q + 2) 0 a.1.length), (10, .int .i64 a.2.2.1)], some (Dr a.2.1) :: some (.cells true 7 (bs.map Mv)) :: a.2.2.2)) (l, w, i, X) ⟨hl, hi, h0, hX⟩ hρ rfl ?_
  clear hl hi h0 hX hρ
  clear l w i X ρ
  rintro ⟨l, w, i, X⟩ ⟨hl, hi, h0, hX⟩ ih
  dsimp only at hl hi h0 hX ih ⊢
  by_cases c1 : 0 < i
  · have hlt : q < X.length := (List.getElem?_eq_some_iff.1 hX).1
    have cX := fun Y => cells_more (cells_at hX) Y
    have pX := fun Y x => put_more (H := X) hlt Y x
    have hq : (l.length + 1) * 16 ≤ 2 ^ 44 := by omega
    simp only [go_sem, c1]
    refine cD (upto_ok w bs.length (by omega)) ?_
    have u1 := upto_in (w := w) (n := bs.length) (by omega)
    obtain ⟨m, hm1⟩ : ∃ m, upto w bs.length = m := ⟨_, rfl⟩
    obtain ⟨w3, hw3⟩ : ∃ w3, dstep w = w3 := ⟨_, rfl⟩
    rw [hm1] at u1 ⊢
    rw [hw3]
    clear hm1 hw3
    simp only [go_sem]
    refine cD (one_ok w3 9 (by decide)) ?_
    obtain ⟨w4, hw4⟩ : ∃ w4, dstep w3 = w4 := ⟨_, rfl⟩
    rw [hw4]
    clear hw4
    have w5 : IntKind.i64.wrap (i - 1) = i - 1 := w64 (by omega)
    obtain ⟨e, he⟩ : ∃ e, (upto w3 9 == 0) = e := ⟨_, rfl⟩
    rw [he]
    clear he
    cases e
    · have sh := Showing_run h u1.1 u1.2 (x := v) (by omega) w4 true
      obtain ⟨p, hp⟩ : ∃ p, showR bs m (v) w4 = p := ⟨_, rfl⟩
      rw [hp] at sh
      clear hp
      simp only [go_sem]
      refine cS2 sh (j0 := 0) (j1 := 1) rfl (by simp [go_sem]) rfl rfl (dr_bel _ _) (bk_bel _ _ _) (dr_bel _ _) (bk_bel _ _ _) (by decide) (.int _ _) (by simp) (by simp) ?_
      simp only [go_sem, w5, cX, pX, hq, List.length_map]
      have ez : l.map Sv ++ [AVal.agg [.int .i64 m, .int .i64 p.1]] = (l ++ [(m, p.1)]).map Sv := by rw [List.map_append]; rfl
      have el : l.length + 1 = (l ++ [(m, p.1)]).length := by simp
      rw [ez, el]
      refine ih (l ++ [(m, p.1)], p.2, i - 1, _) (by dsimp only; omega) ⟨by simp, by dsimp only; rw [← el]; omega, by dsimp only; omega, ?_⟩ _ (by simp [go_sem])
      dsimp only
      rw [List.getElem?_append_left (by rw [List.length_set]; exact hlt)]
      exact List.getElem?_set_self hlt
    · have b2 := btw_in (w := w4) (lo := -50) (hi := 50) (by decide)
      simp only [go_sem]
      refine cD (between_ok w4 (-50) 50 (by decide) (by decide) (by decide)) ?_
      obtain ⟨y, hy⟩ : ∃ y, btw w4 (-50) 50 = y := ⟨_, rfl⟩
      rw [hy] at b2 ⊢
      clear hy
      obtain ⟨w6, hw6⟩ : ∃ w6, dstep w4 = w6 := ⟨_, rfl⟩
      rw [hw6]
      clear hw6
      have w7 : IntKind.i64.wrap (v + y) = v + y := w64 (by omega)
      have sh := Showing_run h u1.1 u1.2 (x := v + y) (by omega) w6 true
      obtain ⟨p, hp⟩ : ∃ p, showR bs m (v + y) w6 = p := ⟨_, rfl⟩
      rw [hp] at sh
      clear hp
      simp only [go_sem, w7]
      refine cS2 sh (j0 := 0) (j1 := 1) rfl (by simp [go_sem]) rfl rfl (dr_bel _ _) (bk_bel _ _ _) (dr_bel _ _) (bk_bel _ _ _) (by decide) (.int _ _) (by simp) (by simp) ?_
      simp only [go_sem, w5, cX, pX, hq, List.length_map]
      have ez : l.map Sv ++ [AVal.agg [.int .i64 m, .int .i64 p.1]] = (l ++ [(m, p.1)]).map Sv := by rw [List.map_append]; rfl
      have el : l.length + 1 = (l ++ [(m, p.1)]).length := by simp
      rw [ez, el]
      refine ih (l ++ [(m, p.1)], p.2, i - 1, _) (by dsimp only; omega) ⟨by simp, by dsimp only; rw [← el]; omega, by dsimp only; omega, ?_⟩ _ (by simp [go_sem])
      dsimp only
      rw [List.getElem?_append_left (by rw [List.length_set]; exact hlt)]
      exact List.getElem?_set_self hlt
  · simp only [go_sem, c1]
    exact hR l w q X hl (by omega) hX

set_option maxHeartbeats 8000000 in
set_option maxRecDepth 10000 in
theorem shown_some {bs : List Mt} (h : VB bs) (hb1 : 1 ≤ bs.length) (w v : Int) {most : Int} (hm : 0 ≤ most ∧ most ≤ 1000) (hv : -100000000 ≤ v ∧ v ≤ 100000000) (h0 : upto w (most + 1) ≠ 0) :
    AnsE Tryd.prog n_law07_shown [.ptr 0 0 0 1, .sl 1 0 bs.length, .int .i64 v, .int .i64 most] [some (Dr w), some (.cells true 7 (bs.map Mv))]
      (fun a : List (Int × Int) × Int => 1 ≤ a.1.length ∧ a.1.length ≤ 1001) (fun a => .sl 2 0 a.1.length) (fun a => [some (Dr a.2), some (.cells true 7 (bs.map Mv)), some (.cells true 2 (a.1.map Sv))]) := by
  have hlen := h.len
  refine AnsE.keep (run_fn e_law07_shown fun G => ?_) (fun a ha => ⟨by simp, by simp [go_sem], by simp only [go_sem], bk_bel _ _ _, by rw [row_bel_cells]; simp only [go_sem], trivial⟩)
  have hR : ∀ (l : List (Int × Int)) (w' : Int) (q : Nat) (X : Heap), 1 ≤ l.length → l.length ≤ 1001 → X[q]? = some (some (.cells true 2 (l.map Sv))) →
      ∃ a : List (Int × Int) × Int, (1 ≤ a.1.length ∧ a.1.length ≤ 1001) ∧ ∃ σ, Kept [some (Dr w), some (Row.cells true 7 (bs.map Mv))] [some (Dr a.2), some (Row.cells true 7 (bs.map Mv)), some (Row.cells true 2 (List.map Sv a.1))] (AVal.sl 2 0 a.1.length) (.sl (q + 2) 0 l.length) (some (Dr w') :: some (.cells true 7 (bs.map Mv)) :: X) σ := by
    intro l w' q X h1 h2 hX
    refine ⟨(l, w'), ⟨h1, h2⟩, kept_three (q + 2) (by omega) (by simp [ren]) (by simp only [go_sem]) (bk_bel _ _ _) (by rw [row_bel_cells]; simp only [go_sem]) rfl rfl ?_⟩
    simpa using hX
  have w1 : IntKind.i64.wrap (most + 1) = most + 1 := w64 (by omega)
  have bi := upto_in (w := w) (n := most + 1) (by omega)
  obtain ⟨i, hi⟩ : ∃ i, upto w (most + 1) = i := ⟨_, rfl⟩
  have rest := shown_loop (G := G) h hb1 hv (R := fun v' H' => ∃ a : List (Int × Int) × Int, (1 ≤ a.1.length ∧ a.1.length ≤ 1001) ∧ ∃ σ, Kept [some (Dr w), some (Row.cells true 7 (bs.map Mv))] [some (Dr a.2), some (Row.cells true 7 (bs.map Mv)), some (Row.cells true 2 (List.map Sv a.1))] (AVal.sl 2 0 a.1.length) v' H' σ) hR
  generalize hRR : (fun (v' : AVal) (H' : Heap) => ∃ a : List (Int × Int) × Int, (1 ≤ a.1.length ∧ a.1.length ≤ 1001) ∧ ∃ σ, Kept [some (Dr w), some (Row.cells true 7 (bs.map Mv))] [some (Dr a.2), some (Row.cells true 7 (bs.map Mv)), some (Row.cells true 2 (List.map Sv a.1))] (AVal.sl 2 0 a.1.length) v' H' σ) = RR at rest ⊢
  clear hR hRR
  have kd := upto_ok w (most + 1) (by omega)
  rw [hi] at bi h0 kd
  clear hi
  obtain ⟨w2, hw2⟩ : ∃ w2, dstep w = w2 := ⟨_, rfl⟩
  rw [hw2] at kd
  clear hw2
  simp only [go_sem, w1]
  refine cD kd ?_
  simp only [go_sem]
  have c1 : 0 < i := by omega
  refine loop_body 400 k_law07_shown_r10.eq_1 ?_
  simp only [go_sem, c1]
  refine cD (upto_ok w2 bs.length (by omega)) ?_
  have u1 := upto_in (w := w2) (n := bs.length) (by omega)
  obtain ⟨m, hm1⟩ : ∃ m, upto w2 bs.length = m := ⟨_, rfl⟩
  obtain ⟨w3, hw3⟩ : ∃ w3, dstep w2 = w3 := ⟨_, rfl⟩
  rw [hm1] at u1 ⊢
  rw [hw3]
  clear hm1 hw3
  simp only [go_sem]
  refine cD (one_ok w3 9 (by decide)) ?_
  obtain ⟨w4, hw4⟩ : ∃ w4, dstep w3 = w4 := ⟨_, rfl⟩
  rw [hw4]
  clear hw4
  have w5 : IntKind.i64.wrap (i - 1) = i - 1 := w64 (by omega)
  obtain ⟨e, he⟩ : ∃ e, (upto w3 9 == 0) = e := ⟨_, rfl⟩
  rw [he]
  clear he
  cases e
  · have sh := Showing_run h u1.1 u1.2 (x := v) (by omega) w4 true
    obtain ⟨p, hp⟩ : ∃ p, showR bs m (v) w4 = p := ⟨_, rfl⟩
    rw [hp] at sh
    clear hp
    simp only [go_sem]
    refine cS2 sh (j0 := 0) (j1 := 1) rfl (by simp [go_sem]) rfl rfl (dr_bel _ _) (bk_bel _ _ _) (dr_bel _ _) (bk_bel _ _ _) (by decide) (.int _ _) (by simp) (by simp) ?_
    simp only [go_sem, w5]
    refine ⟨by decide, ?_⟩
    exact rest [(m, p.1)] p.2 (i - 1) 1 _ (by simp) (by simp; omega) (by omega) rfl _ (by simp [go_sem, Sv])
  · have b2 := btw_in (w := w4) (lo := -50) (hi := 50) (by decide)
    simp only [go_sem]
    refine cD (between_ok w4 (-50) 50 (by decide) (by decide) (by decide)) ?_
    obtain ⟨y, hy⟩ : ∃ y, btw w4 (-50) 50 = y := ⟨_, rfl⟩
    rw [hy] at b2 ⊢
    clear hy
    obtain ⟨w6, hw6⟩ : ∃ w6, dstep w4 = w6 := ⟨_, rfl⟩
    rw [hw6]
    clear hw6
    have w7 : IntKind.i64.wrap (v + y) = v + y := w64 (by omega)
    have sh := Showing_run h u1.1 u1.2 (x := v + y) (by omega) w6 true
    obtain ⟨p, hp⟩ : ∃ p, showR bs m (v + y) w6 = p := ⟨_, rfl⟩
    rw [hp] at sh
    clear hp
    simp only [go_sem, w7]
    refine cS2 sh (j0 := 0) (j1 := 1) rfl (by simp [go_sem]) rfl rfl (dr_bel _ _) (bk_bel _ _ _) (dr_bel _ _) (bk_bel _ _ _) (by decide) (.int _ _) (by simp) (by simp) ?_
    simp only [go_sem, w5]
    refine ⟨by decide, ?_⟩
    exact rest [(m, p.1)] p.2 (i - 1) 1 _ (by simp) (by simp; omega) (by omega) rfl _ (by simp [go_sem, Sv])
end Go.Proofs

namespace Go.Proofs
open Go Go.Sx

end Go.Proofs

namespace Go.Proofs
open Go Go.Sx Go.Gauge
attribute [local irreducible] Run

end Go.Proofs

namespace Go.Proofs
open Go Go.Sx Go.Gauge
attribute [local irreducible] Run

end Go.Proofs

namespace Go.Proofs
open Go Go.Sx Go.Gauge

theorem at_struct {P : Program} {n : Nat} {t : TypeId} {fs : Array Field} (hu : P.underlying t = some (.struct fs)) {vs : List AVal} (h : AT P (n + 1) t vs) : ATs (AT P n) fs.toList vs := by
  unfold AT at h; rw [hu] at h; exact h
theorem at_int {P : Program} {n : Nat} {t : TypeId} {k : IntKind} (hu : P.underlying t = some (.int k)) {vs : List AVal} (h : AT P (n + 1) t vs) : ∃ m, vs = [.int k m] ∧ (Lit.int k m).wf = true := by
  unfold AT at h; rw [hu] at h; exact h
theorem at_slice {P : Program} {n : Nat} {t e : TypeId} (hu : P.underlying t = some (.slice e)) {vs : List AVal} (h : AT P (n + 1) t vs) : ∃ es, vs = [.view es] ∧ es.length ≤ maxLen ∧ ∀ x ∈ es, if aggT P e = true then ∃ ws, x = .agg ws ∧ AT P n e ws else AT P n e [x] := by
  unfold AT at h; rw [hu] at h; exact h
theorem list_map {α β : Type} {f : α → β} {Q : α → Prop} : ∀ l : List β, (∀ x ∈ l, ∃ a, x = f a ∧ Q a) → ∃ l' : List α, l = l'.map f ∧ ∀ a ∈ l', Q a
  | [], _ => ⟨[], rfl, fun a ha => by simp at ha⟩
  | x :: l, h => by
    obtain ⟨a, rfl, ha⟩ := h x (by simp)
    obtain ⟨l', rfl, h'⟩ := list_map l fun y hy => h y (by simp [hy])
    exact ⟨a :: l', rfl, fun b hb => by
      rcases List.mem_cons.1 hb with rfl | hb
      · exact ha
      · exact h' b hb⟩

attribute [local irreducible] AT
set_option maxRecDepth 100000
theorem atn_int {n : Nat} {vs : List AVal} (h : AT Tryd.prog (n + 1) 3 vs) : ∃ m, vs = [.int .i64 m] ∧ (Lit.int .i64 m).wf = true := at_int Tryd.underlying3 h
theorem at_ints {n : Nat} {x : AVal} (h : AT Tryd.prog (n + 2) 27 [x]) : ∃ l : List Int, x = .view (l.map (.int .i64)) ∧ l.length ≤ 9223372036854775807 := by
  obtain ⟨es, h1, hl, he⟩ := at_slice Tryd.underlying27 h
  obtain rfl : x = .view es := by simpa using h1
  have hg : ¬ aggT Tryd.prog 3 = true := by unfold aggT; rw [Tryd.underlying3]; decide
  obtain ⟨l, rfl, -⟩ := list_map (f := AVal.int .i64) (Q := fun _ => True) es fun x hx => by
    have := he x hx
    rw [if_neg hg] at this
    obtain ⟨m, hm, -⟩ := atn_int this
    exact ⟨m, by simpa using hm, trivial⟩
  have hm : maxLen = 9223372036854775807 := rfl
  rw [hm] at hl
  exact ⟨l, rfl, by simpa using hl⟩
theorem at_rng {n : Nat} {ws : List AVal} (h : AT Tryd.prog (n + 2) 24 ws) : ∃ a b : Int, ws = [.int .i64 a, .int .i64 b] := by
  obtain ⟨a, _, rfl, ha, b, _, rfl, hb, rfl⟩ := at_struct Tryd.underlying24 h
  obtain ⟨x, rfl, hx⟩ := atn_int ha
  obtain ⟨y, rfl, hy⟩ := atn_int hb
  exact ⟨x, y, rfl⟩
theorem at_meter {n : Nat} {ws : List AVal} (h : AT Tryd.prog (n + 3) 26 ws) : ∃ m : Mt, ws = Mc m := by
  obtain ⟨a, _, rfl, ha, b, _, rfl, hb, c, _, rfl, hc, d, _, rfl, hd, e, _, rfl, he, rfl⟩ := at_struct Tryd.underlying26 h
  obtain ⟨x1, y1, rfl⟩ := at_rng ha
  obtain ⟨x2, y2, rfl⟩ := at_rng hb
  obtain ⟨x, rfl, -⟩ := atn_int hc
  obtain ⟨y, rfl, -⟩ := atn_int hd
  obtain ⟨z, rfl, -⟩ := atn_int he
  exact ⟨⟨x1, y1, x2, y2, x, y, z⟩, rfl⟩
theorem at_bench {n : Nat} {x : AVal} (h : AT Tryd.prog (n + 4) 22 [x]) : ∃ l : List Mt, x = .view (l.map Mv) ∧ l.length ≤ 9223372036854775807 := by
  obtain ⟨es, h1, hl, he⟩ := at_slice Tryd.underlying22 h
  obtain rfl : x = .view es := by simpa using h1
  have hg : aggT Tryd.prog 26 = true := by unfold aggT; rw [Tryd.underlying26]
  obtain ⟨l, rfl, -⟩ := list_map (f := Mv) (Q := fun _ => True) es fun x hx => by
    have := he x hx
    rw [if_pos hg] at this
    obtain ⟨ws, rfl, hw⟩ := this
    obtain ⟨m, rfl⟩ := at_meter hw
    exact ⟨m, rfl, trivial⟩
  have hm : maxLen = 9223372036854775807 := rfl
  rw [hm] at hl
  exact ⟨l, rfl, by simpa using hl⟩
end Go.Proofs

namespace Go.Proofs
open Go Go.Sx Go.Gauge
attribute [local irreducible] AT
set_option maxRecDepth 100000
theorem at_shn {n : Nat} {ws : List AVal} (h : AT Tryd.prog (n + 2) 56 ws) : ∃ s : Int × Int, .agg ws = Sv s := by
  obtain ⟨a, _, rfl, ha, b, _, rfl, hb, rfl⟩ := at_struct Tryd.underlying56 h
  obtain ⟨x, rfl, hx⟩ := atn_int ha
  obtain ⟨y, rfl, hy⟩ := atn_int hb
  exact ⟨(x, y), rfl⟩
theorem at_shown {n : Nat} {x : AVal} (h : AT Tryd.prog (n + 3) 52 [x]) : ∃ l : List (Int × Int), x = .view (l.map Sv) ∧ l.length ≤ 9223372036854775807 := by
  obtain ⟨es, h1, hl, he⟩ := at_slice Tryd.underlying52 h
  obtain rfl : x = .view es := by simpa using h1
  have hg : aggT Tryd.prog 56 = true := by unfold aggT; rw [Tryd.underlying56]
  obtain ⟨l, rfl, -⟩ := list_map (f := Sv) (Q := fun _ => True) es fun x hx => by
    have := he x hx
    rw [if_pos hg] at this
    obtain ⟨ws, rfl, hw⟩ := this
    obtain ⟨s, hs⟩ := at_shn hw
    exact ⟨s, hs, trivial⟩
  have hm : maxLen = 9223372036854775807 := rfl
  rw [hm] at hl
  exact ⟨l, rfl, by simpa using hl⟩
end Go.Proofs

namespace Go.Proofs
open Go Go.Sx Go.Gauge
attribute [local irreducible] Run

theorem bkN (w : Int) (N : Nat) (h : 1 ≤ N ∧ N ≤ 12) (v : AVal) (hv : v = .int .i64 N) : AnsE Tryd.prog n_kit_BenchOf [.ptr 0 0 0 1, v] [some (Dr w)] (fun a : List Mt × Int => BkOK a.1 ∧ 1 ≤ a.1.length ∧ a.1.length ≤ N) (fun a => .sl 1 0 a.1.length) (fun a => [some (Dr a.2), some (.cells true 7 (a.1.map Mv))]) := by
  rw [hv]; exact benchOf_run w (N := N) h

end Go.Proofs

namespace Go.Proofs
open Go Go.Sx Go.Gauge
attribute [local irreducible] Run

theorem ints_frz {l : List Int} {H : Heap} {j n : Nat} {g : Bool} (h : H[j]? = some (some (.cells g 1 (l.map (.int .i64))))) (hn : n = l.length) : frz 6 H (.sl j 0 n) = .view (l.map (.int .i64)) := by
  rw [frz_sl (d := 5) h (by simpa using hn), List.map_map]; rfl
end Go.Proofs

namespace Go.Proofs
open Go Go.Sx Go.Gauge
attribute [local irreducible] Run

end Go.Proofs

namespace Go.Proofs
open Go Go.Sx Go.Gauge
attribute [local irreducible] Run

end Go.Proofs

