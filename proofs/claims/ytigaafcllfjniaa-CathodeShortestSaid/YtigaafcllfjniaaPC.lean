/- A part of the proof. -/
import Derived.Test.YtigaafcllfjniaaPB
import Derived.IntWalk
set_option linter.unusedSimpArgs false
set_option linter.unusedVariables false
namespace Go.Proofs
open Go Go.Sx

end Go.Proofs

namespace Go.Proofs
open Go Go.Sx

def k_cathode_Shortest_r0 : List AOper := [
  ⟨(some (4)), .box (.tmp 0), none, []⟩, 
  ⟨(some (5)), .box (.tmp 1), none, []⟩, 
  ⟨(some (6)), .box (.tmp 2), none, []⟩, 
  ⟨(some (8)), .box (.const (.nilsl)), none, []⟩, 
  ⟨(some (9)), .box (.const (.int .i64 0)), none, []⟩, 
  ⟨(some (10)), .move (.const (.int .i64 0)), none, []⟩]
def k_cathode_Shortest_r1 : List AOper := [
  ⟨(some (18)), .load (some (7)) (.tmp 4), none, []⟩, 
  ⟨(some (19)), .load (some (5)) (.tmp 5), none, []⟩, 
  ⟨(some (20)), .call (.const (.fn (.func 93) [] [])) [.tmp 18, .tmp 19], none, []⟩, 
  ⟨(some (11)), .move (.tmp 20), none, []⟩]
def k_cathode_Shortest_r2 : List AOper := [
  ⟨(some (21)), .move (.tmp 11), none, []⟩, 
  ⟨(some (22)), .bin .plain .neq (.tmp 21) (.const (.int .i64 0)), none, []⟩]
def k_cathode_Shortest_r3 : List AOper := [
  ⟨(some (23)), .move (.tmp 11), none, []⟩, 
  ⟨none, .store 1 (.tmp 8) (.const (.nilsl)), none, []⟩, 
  ⟨none, .store 1 (.tmp 9) (.const (.int .i64 0)), none, []⟩, 
  ⟨(some (10)), .move (.tmp 23), none, []⟩]
def k_cathode_Shortest_r4 : List AOper := [
  ⟨(some (24)), .load none (.tmp 6), none, []⟩, 
  ⟨(some (25)), .move (.tmp 3), none, []⟩, 
  ⟨(some (26)), .call (.const (.fn (.func 97) [] [])) [.tmp 24, .tmp 25], none, []⟩, 
  ⟨(some (12)), .move (.tmp 26), none, []⟩]
def k_cathode_Shortest_r5 : List AOper := [
  ⟨(some (27)), .move (.tmp 12), none, []⟩, 
  ⟨(some (28)), .bin .plain .neq (.tmp 27) (.const (.int .i64 0)), none, []⟩]
def k_cathode_Shortest_r6 : List AOper := [
  ⟨(some (29)), .move (.tmp 12), none, []⟩, 
  ⟨none, .store 1 (.tmp 8) (.const (.nilsl)), none, []⟩, 
  ⟨none, .store 1 (.tmp 9) (.const (.int .i64 0)), none, []⟩, 
  ⟨(some (10)), .move (.tmp 29), none, []⟩]
def k_cathode_Shortest_r7 : List AOper := [
  ⟨(some (30)), .load none (.tmp 6), none, []⟩, 
  ⟨(some (31)), .len false (.tmp 30), none, []⟩, 
  ⟨(some (32)), .move (.tmp 3), none, []⟩, 
  ⟨(some (33)), .call (.const (.fn (.func 98) [] [])) [.tmp 31, .tmp 32], none, []⟩]
def k_cathode_Shortest_r8 : List AOper := [
  ⟨(some (13)), .move (.tmp 34), none, []⟩]
def k_cathode_Shortest_r9 : List AOper := [
  ⟨(some (35)), .load none (.tmp 6), none, []⟩, 
  ⟨(some (36)), .move (.tmp 13), none, []⟩, 
  ⟨(some (37)), .call (.const (.fn (.func 99) [] [])) [.tmp 35, .tmp 36], none, []⟩, 
  ⟨(some (14)), .move (.tmp 37), none, []⟩]
def k_cathode_Shortest_r10 : List AOper := [
  ⟨(some (38)), .move (.tmp 14), none, []⟩, 
  ⟨(some (39)), .call (.const (.fn (.func 74) [] [])) [.tmp 38], none, []⟩, 
  ⟨(some (15)), .move (.tmp 39), none, []⟩]
def k_cathode_Shortest_r11 : List AOper := [
  ⟨(some (40)), .load none (.tmp 8), none, []⟩, 
  ⟨(some (41)), .bin .slice .neq (.tmp 40) (.const (.nilsl)), none, []⟩, 
  ⟨(some (42)), .move (.tmp 41), none, []⟩, 
  ⟨(some (43)), .move (.tmp 15), (some (42, true)), []⟩, 
  ⟨(some (44)), .load none (.tmp 9), (some (42, true)), []⟩, 
  ⟨(some (45)), .bin .plain .geq (.tmp 43) (.tmp 44), (some (42, true)), []⟩, 
  ⟨(some (46)), .pick (.tmp 42) (.tmp 45) (.const (.bool false)), none, []⟩]
def k_cathode_Shortest_r12 : List AOper := [
  ⟨(some (48)), .load (some (7)) (.tmp 4), none, []⟩, 
  ⟨(some (49)), .load (some (5)) (.tmp 5), none, []⟩, 
  ⟨(some (50)), .move (.tmp 14), none, []⟩, 
  ⟨(some (51)), .call (.const (.fn (.func 94) [] [])) [.tmp 48, .tmp 49, .tmp 50], none, []⟩, 
  ⟨(some (47)), .move (.tmp 51), none, []⟩, 
  ⟨(some (52)), .extract (.tmp 47) 0, none, []⟩, 
  ⟨(some (53)), .extract (.tmp 47) 1, none, []⟩, 
  ⟨(some (16)), .move (.tmp 52), none, []⟩, 
  ⟨(some (17)), .move (.tmp 53), none, []⟩]
def k_cathode_Shortest_r13 : List AOper := [
  ⟨(some (54)), .move (.tmp 16), none, []⟩, 
  ⟨(some (55)), .bin .plain .eql (.tmp 54) (.const (.int .i64 1)), none, []⟩]
def k_cathode_Shortest_r14 : List AOper := [
  ⟨(some (56)), .move (.tmp 13), none, []⟩, 
  ⟨(some (57)), .call (.const (.fn (.func 100) [] [])) [.tmp 56], none, []⟩, 
  ⟨(some (58)), .move (.tmp 15), none, []⟩, 
  ⟨none, .store 1 (.tmp 8) (.tmp 57), none, []⟩, 
  ⟨none, .store 1 (.tmp 9) (.tmp 58), none, []⟩]
def k_cathode_Shortest_r15 : ACode := (.reg k_cathode_Shortest_r8 false)
def k_cathode_Shortest_r16 : ACode := (.block 1 (.seq (.reg k_cathode_Shortest_r9 false) (.seq (.reg k_cathode_Shortest_r10 false) (.seq (.seq (.reg k_cathode_Shortest_r11 false) (.cond (.tmp 46) (.exit 1) .skip)) (.seq (.reg k_cathode_Shortest_r12 false) (.seq (.reg k_cathode_Shortest_r13 false) (.cond (.tmp 55) (.reg k_cathode_Shortest_r14 false) .skip)))))))
def k_cathode_Shortest_r17 : List AOper := [
  ⟨(some (59)), .load none (.tmp 8), none, []⟩, 
  ⟨(some (60)), .bin .slice .eql (.tmp 59) (.const (.nilsl)), none, []⟩]
def k_cathode_Shortest_r18 : List AOper := [
  ⟨none, .store 1 (.tmp 8) (.const (.nilsl)), none, []⟩, 
  ⟨none, .store 1 (.tmp 9) (.const (.int .i64 0)), none, []⟩, 
  ⟨(some (10)), .move (.const (.int .i64 7)), none, []⟩]
def k_cathode_Shortest_r19 : List AOper := [
  ⟨(some (61)), .load none (.tmp 8), none, []⟩, 
  ⟨(some (62)), .load none (.tmp 9), none, [0]⟩, 
  ⟨none, .store 1 (.tmp 8) (.tmp 61), none, [1]⟩, 
  ⟨none, .store 1 (.tmp 9) (.tmp 62), none, []⟩, 
  ⟨(some (10)), .move (.const (.int .i64 0)), none, []⟩]
def k_cathode_Shortest_r19s : List (List AOper) := [
  [
  ⟨(some (61)), .load none (.tmp 8), none, []⟩, 
  ⟨(some (62)), .load none (.tmp 9), none, [0]⟩, 
  ⟨none, .store 1 (.tmp 8) (.tmp 61), none, [1]⟩], 
  [
  ⟨none, .store 1 (.tmp 9) (.tmp 62), none, []⟩], 
  [
  ⟨(some (10)), .move (.const (.int .i64 0)), none, []⟩]]
theorem k_cathode_Shortest_r19_sg : segs k_cathode_Shortest_r19 = k_cathode_Shortest_r19s := by kernel_rfl
theorem k_cathode_Shortest_r19_st : statOK k_cathode_Shortest_r19 = true := by kernel_rfl
def k_cathode_Shortest : AFun := { params := 4, ntmps := 63, body := (.seq (.reg k_cathode_Shortest_r0 false) (.seq (.seq (.reg k_cathode_Shortest_r1 false) (.seq (.reg k_cathode_Shortest_r2 false) (.cond (.tmp 22) (.seq (.reg k_cathode_Shortest_r3 false) .ret) .skip))) (.seq (.seq (.reg k_cathode_Shortest_r4 false) (.seq (.reg k_cathode_Shortest_r5 false) (.cond (.tmp 28) (.seq (.reg k_cathode_Shortest_r6 false) .ret) .skip))) (.seq (.seq (.reg k_cathode_Shortest_r7 false) (.block 0 (.rng (.tmp 33) [34] k_cathode_Shortest_r15 k_cathode_Shortest_r16))) (.seq (.seq (.reg k_cathode_Shortest_r17 false) (.cond (.tmp 60) (.seq (.reg k_cathode_Shortest_r18 false) .ret) .skip)) (.seq (.reg k_cathode_Shortest_r19 true) .ret)))))), res := [.cell 8 (some (none)), .cell 9 (some (none)), .tmp 10] }
theorem k_cathode_Shortest_ok : cfun Try.prog Try.f48 = k_cathode_Shortest := by kernel_rfl

def k_kit_Same_r0 : List AOper := [
  ⟨(some (4)), .move (.const (.bool false)), none, []⟩]
def k_kit_Same_r1 : List AOper := [
  ⟨(some (6)), .move (.tmp 0), none, []⟩, 
  ⟨(some (7)), .len false (.tmp 6), none, []⟩, 
  ⟨(some (8)), .move (.tmp 1), none, []⟩, 
  ⟨(some (9)), .len false (.tmp 8), none, []⟩, 
  ⟨(some (10)), .bin .plain .neq (.tmp 7) (.tmp 9), none, []⟩]
def k_kit_Same_r2 : List AOper := [
  ⟨(some (4)), .move (.const (.bool false)), none, []⟩]
def k_kit_Same_r3 : List AOper := [
  ⟨(some (5)), .move (.const (.int .i64 0)), none, []⟩]
def k_kit_Same_r4 : List AOper := [
  ⟨(some (11)), .move (.tmp 5), none, []⟩, 
  ⟨(some (12)), .move (.tmp 0), none, []⟩, 
  ⟨(some (13)), .len false (.tmp 12), none, []⟩, 
  ⟨(some (14)), .bin .plain .lss (.tmp 11) (.tmp 13), none, []⟩]
def k_kit_Same_r5 : List AOper := [
  ⟨(some (17)), .move (.tmp 0), none, []⟩, 
  ⟨(some (18)), .move (.tmp 5), none, [0]⟩, 
  ⟨(some (19)), .indexAddr 1 (.tmp 17) (.tmp 18), none, []⟩, 
  ⟨(some (20)), .load none (.tmp 19), none, []⟩, 
  ⟨(some (21)), .move (.tmp 1), none, [0, 1, 2, 3]⟩, 
  ⟨(some (22)), .move (.tmp 5), none, [0, 1, 2, 3, 4]⟩, 
  ⟨(some (23)), .indexAddr 1 (.tmp 21) (.tmp 22), none, [0, 1, 2, 3]⟩, 
  ⟨(some (24)), .load none (.tmp 23), none, [0, 1, 2, 3]⟩, 
  ⟨(some (25)), .bin .plain .neq (.tmp 20) (.tmp 24), none, []⟩]
def k_kit_Same_r5s : List (List AOper) := [
  [
  ⟨(some (17)), .move (.tmp 0), none, []⟩, 
  ⟨(some (18)), .move (.tmp 5), none, [0]⟩, 
  ⟨(some (19)), .indexAddr 1 (.tmp 17) (.tmp 18), none, []⟩, 
  ⟨(some (20)), .load none (.tmp 19), none, []⟩, 
  ⟨(some (21)), .move (.tmp 1), none, [0, 1, 2, 3]⟩, 
  ⟨(some (22)), .move (.tmp 5), none, [0, 1, 2, 3, 4]⟩, 
  ⟨(some (23)), .indexAddr 1 (.tmp 21) (.tmp 22), none, [0, 1, 2, 3]⟩, 
  ⟨(some (24)), .load none (.tmp 23), none, [0, 1, 2, 3]⟩], 
  [
  ⟨(some (25)), .bin .plain .neq (.tmp 20) (.tmp 24), none, []⟩]]
theorem k_kit_Same_r5_sg : segs k_kit_Same_r5 = k_kit_Same_r5s := by kernel_rfl
theorem k_kit_Same_r5_st : statOK k_kit_Same_r5 = true := by kernel_rfl
def k_kit_Same_r6 : List AOper := [
  ⟨(some (4)), .move (.const (.bool false)), none, []⟩]
def k_kit_Same_r7 : List AOper := [
  ⟨(some (15)), .move (.tmp 5), none, []⟩, 
  ⟨(some (16)), .bin .plain .add (.tmp 15) (.const (.int .i64 1)), none, []⟩, 
  ⟨(some (5)), .move (.tmp 16), none, []⟩]
def k_kit_Same_r8 : ACode := (.seq (.seq (.reg k_kit_Same_r4 false) (.cond (.tmp 14) .skip (.exit 0))) (.seq (.block 1 (.seq (.reg k_kit_Same_r5 true) (.cond (.tmp 25) (.seq (.reg k_kit_Same_r6 false) .ret) .skip))) (.reg k_kit_Same_r7 false)))
def k_kit_Same_r9 : List AOper := [
  ⟨(some (4)), .move (.const (.bool true)), none, []⟩]
def k_kit_Same : AFun := { params := 2, ntmps := 26, body := (.seq (.reg k_kit_Same_r0 false) (.seq (.seq (.reg k_kit_Same_r1 false) (.cond (.tmp 10) (.seq (.reg k_kit_Same_r2 false) .ret) .skip)) (.seq (.seq (.reg k_kit_Same_r3 false) (.block 0 (.loop k_kit_Same_r8))) (.seq (.reg k_kit_Same_r9 false) .ret)))), res := [.tmp 4] }
theorem k_kit_Same_ok : cfun Try.prog Try.f50 = k_kit_Same := by kernel_rfl

def k_cathode_checkMenu_r0 : List AOper := [
  ⟨(some (4)), .move (.const (.int .i64 0)), none, []⟩]
def k_cathode_checkMenu_r1 : List AOper := [
  ⟨(some (8)), .move (.tmp 0), none, []⟩, 
  ⟨(some (9)), .len false (.tmp 8), none, []⟩, 
  ⟨(some (10)), .bin .plain .eql (.tmp 9) (.const (.int .i64 0)), none, []⟩]
def k_cathode_checkMenu_r2 : List AOper := [
  ⟨(some (4)), .move (.const (.int .i64 6)), none, []⟩]
def k_cathode_checkMenu_r3 : List AOper := [
  ⟨(some (11)), .move (.tmp 0), none, []⟩, 
  ⟨(some (12)), .len false (.tmp 11), none, []⟩, 
  ⟨(some (13)), .bin .plain .gtr (.tmp 12) (.const (.int .i64 4)), none, []⟩]
def k_cathode_checkMenu_r4 : List AOper := [
  ⟨(some (4)), .move (.const (.int .i64 8)), none, []⟩]
def k_cathode_checkMenu_r5 : List AOper := [
  ⟨(some (14)), .move (.tmp 0), none, []⟩, 
  ⟨(some (15)), .call (.const (.fn (.func 29) [] [])) [.tmp 14], none, []⟩, 
  ⟨(some (5)), .move (.tmp 15), none, []⟩]
def k_cathode_checkMenu_r6 : List AOper := [
  ⟨(some (16)), .move (.tmp 5), none, []⟩, 
  ⟨(some (17)), .bin .plain .neq (.tmp 16) (.const (.int .i64 0)), none, []⟩]
def k_cathode_checkMenu_r7 : List AOper := [
  ⟨(some (18)), .move (.tmp 5), none, []⟩, 
  ⟨(some (4)), .move (.tmp 18), none, []⟩]
def k_cathode_checkMenu_r8 : List AOper := [
  ⟨(some (19)), .move (.tmp 0), none, []⟩, 
  ⟨(some (20)), .len false (.tmp 19), none, []⟩, 
  ⟨(some (21)), .move (.const (.int .i64 0)), none, []⟩]
def k_cathode_checkMenu_r9 : List AOper := [
  ⟨(some (22)), .bin .plain .lss (.tmp 21) (.tmp 20), none, []⟩]
def k_cathode_checkMenu_r10 : List AOper := [
  ⟨(some (23)), .indexAddr 3 (.tmp 19) (.tmp 21), none, []⟩, 
  ⟨(some (24)), .load (some (3)) (.tmp 23), none, []⟩, 
  ⟨(some (7)), .box (.const (.agg [.int .i64 0, .int .i64 0, .int .i64 0])), none, []⟩, 
  ⟨none, .store 3 (.tmp 7) (.tmp 24), none, []⟩]
def k_cathode_checkMenu_r11 : List AOper := [
  ⟨(some (25)), .fieldAddr 0 (.tmp 7), none, []⟩, 
  ⟨(some (26)), .load none (.tmp 25), none, []⟩, 
  ⟨(some (27)), .bin .plain .gtr (.tmp 26) (.const (.int .i64 100)), none, []⟩]
def k_cathode_checkMenu_r12 : List AOper := [
  ⟨(some (4)), .move (.const (.int .i64 2)), none, []⟩]
def k_cathode_checkMenu_r13 : List AOper := [
  ⟨(some (28)), .bin .plain .add (.tmp 21) (.const (.int .i64 1)), none, []⟩, 
  ⟨(some (21)), .move (.tmp 28), none, []⟩]
def k_cathode_checkMenu_r14 : ACode := (.seq (.reg k_cathode_checkMenu_r9 false) (.seq (.cond (.tmp 22) .skip (.exit 0)) (.seq (.block 1 (.seq (.reg k_cathode_checkMenu_r10 false) (.seq (.reg k_cathode_checkMenu_r11 false) (.cond (.tmp 27) (.seq (.reg k_cathode_checkMenu_r12 false) .ret) .skip)))) (.reg k_cathode_checkMenu_r13 false))))
def k_cathode_checkMenu_r15 : List AOper := [
  ⟨(some (29)), .move (.tmp 1), none, []⟩, 
  ⟨(some (30)), .call (.const (.fn (.func 67) [] [])) [.tmp 29, .const (.int .i64 1), .const (.int .i64 5)], none, []⟩, 
  ⟨(some (31)), .not (.tmp 30), none, []⟩]
def k_cathode_checkMenu_r16 : List AOper := [
  ⟨(some (4)), .move (.const (.int .i64 2)), none, []⟩]
def k_cathode_checkMenu_r17 : List AOper := [
  ⟨(some (4)), .move (.const (.int .i64 0)), none, []⟩]
def k_cathode_checkMenu : AFun := { params := 2, ntmps := 32, body := (.seq (.reg k_cathode_checkMenu_r0 false) (.seq (.seq (.reg k_cathode_checkMenu_r1 false) (.cond (.tmp 10) (.seq (.reg k_cathode_checkMenu_r2 false) .ret) .skip)) (.seq (.seq (.reg k_cathode_checkMenu_r3 false) (.cond (.tmp 13) (.seq (.reg k_cathode_checkMenu_r4 false) .ret) .skip)) (.seq (.seq (.reg k_cathode_checkMenu_r5 false) (.seq (.reg k_cathode_checkMenu_r6 false) (.cond (.tmp 17) (.seq (.reg k_cathode_checkMenu_r7 false) .ret) .skip))) (.seq (.seq (.reg k_cathode_checkMenu_r8 false) (.block 0 (.loop k_cathode_checkMenu_r14))) (.seq (.seq (.reg k_cathode_checkMenu_r15 false) (.cond (.tmp 31) (.seq (.reg k_cathode_checkMenu_r16 false) .ret) .skip)) (.seq (.reg k_cathode_checkMenu_r17 false) .ret))))))), res := [.tmp 4] }
theorem k_cathode_checkMenu_ok : cfun Try.prog Try.f97 = k_cathode_checkMenu := by kernel_rfl

def k_cathode_lists_r0 : List AOper := [
  ⟨(some (2)), .box (.tmp 0), none, []⟩, 
  ⟨(some (3)), .box (.tmp 1), none, []⟩, 
  ⟨(some (4)), .move (.const (.nilfn)), none, []⟩]
def k_cathode_lists_r1 : List AOper := [
  ⟨(some (5)), .makeFunc (.func 126) [] [.tmp 3, .tmp 2], none, []⟩, 
  ⟨(some (4)), .move (.tmp 5), none, []⟩]
def k_cathode_lists : AFun := { params := 2, ntmps := 6, body := (.seq (.reg k_cathode_lists_r0 false) (.seq (.reg k_cathode_lists_r1 false) .ret)), res := [.tmp 4] }
theorem k_cathode_lists_ok : cfun Try.prog Try.f98 = k_cathode_lists := by kernel_rfl

def k_cathode_chosen_r0 : List AOper := [
  ⟨(some (4)), .move (.const (.nilsl)), none, []⟩]
def k_cathode_chosen_r1 : List AOper := [
  ⟨(some (5)), .move (.const (.nilsl)), none, []⟩]
def k_cathode_chosen_r2 : List AOper := [
  ⟨(some (8)), .move (.tmp 1), none, []⟩, 
  ⟨(some (9)), .len false (.tmp 8), none, []⟩, 
  ⟨(some (10)), .move (.const (.int .i64 0)), none, []⟩]
def k_cathode_chosen_r3 : List AOper := [
  ⟨(some (11)), .bin .plain .lss (.tmp 10) (.tmp 9), none, []⟩]
def k_cathode_chosen_r4 : List AOper := [
  ⟨(some (12)), .indexAddr 1 (.tmp 8) (.tmp 10), none, []⟩, 
  ⟨(some (13)), .load none (.tmp 12), none, []⟩, 
  ⟨(some (7)), .move (.tmp 13), none, []⟩]
def k_cathode_chosen_r5 : List AOper := [
  ⟨(some (14)), .move (.tmp 5), none, []⟩, 
  ⟨(some (15)), .move (.tmp 0), none, []⟩, 
  ⟨(some (16)), .move (.tmp 7), none, []⟩, 
  ⟨(some (17)), .indexAddr 3 (.tmp 15) (.tmp 16), none, []⟩, 
  ⟨(some (18)), .load (some (3)) (.tmp 17), none, []⟩, 
  ⟨(some (19)), .buildSlice 3 [.tmp 18], none, []⟩, 
  ⟨(some (20)), .append 3 24 true (.tmp 14) (.tmp 19), none, []⟩, 
  ⟨(some (5)), .move (.tmp 20), none, []⟩]
def k_cathode_chosen_r6 : List AOper := [
  ⟨(some (21)), .bin .plain .add (.tmp 10) (.const (.int .i64 1)), none, []⟩, 
  ⟨(some (10)), .move (.tmp 21), none, []⟩]
def k_cathode_chosen_r7 : ACode := (.seq (.reg k_cathode_chosen_r3 false) (.seq (.cond (.tmp 11) .skip (.exit 0)) (.seq (.block 1 (.seq (.reg k_cathode_chosen_r4 false) (.reg k_cathode_chosen_r5 false))) (.reg k_cathode_chosen_r6 false))))
def k_cathode_chosen_r8 : List AOper := [
  ⟨(some (22)), .move (.tmp 5), none, []⟩, 
  ⟨(some (4)), .move (.tmp 22), none, []⟩]
def k_cathode_chosen : AFun := { params := 2, ntmps := 23, body := (.seq (.reg k_cathode_chosen_r0 false) (.seq (.reg k_cathode_chosen_r1 false) (.seq (.seq (.reg k_cathode_chosen_r2 false) (.block 0 (.loop k_cathode_chosen_r7))) (.seq (.reg k_cathode_chosen_r8 false) .ret)))), res := [.tmp 4] }
theorem k_cathode_chosen_ok : cfun Try.prog Try.f99 = k_cathode_chosen := by kernel_rfl

def k_slices_Clone_int_int_r0 : List AOper := [
  ⟨(some (2)), .move (.const (.nilsl)), none, []⟩]
def k_slices_Clone_int_int_r1 : List AOper := [
  ⟨(some (3)), .move (.tmp 0), none, []⟩, 
  ⟨(some (4)), .bin .slice .eql (.tmp 3) (.const (.nilsl)), none, []⟩]
def k_slices_Clone_int_int_r2 : List AOper := [
  ⟨(some (2)), .move (.const (.nilsl)), none, []⟩]
def k_slices_Clone_int_int_r3 : List AOper := [
  ⟨(some (5)), .buildSlice 1 [], none, []⟩, 
  ⟨(some (6)), .move (.tmp 0), none, []⟩, 
  ⟨(some (7)), .append 1 8 false (.tmp 5) (.tmp 6), none, []⟩, 
  ⟨(some (2)), .move (.tmp 7), none, []⟩]
def k_slices_Clone_int_int : AFun := { params := 1, ntmps := 8, body := (.seq (.reg k_slices_Clone_int_int_r0 false) (.seq (.seq (.reg k_slices_Clone_int_int_r1 false) (.cond (.tmp 4) (.seq (.reg k_slices_Clone_int_int_r2 false) .ret) .skip)) (.seq (.reg k_slices_Clone_int_int_r3 false) .ret))), res := [.tmp 2] }
theorem k_slices_Clone_int_int_ok : cfun Try.prog Try.f100 = k_slices_Clone_int_int := by kernel_rfl

def k_cathode_lists_1_r0 : List AOper := [
  ⟨(some (4)), .move (.const (.int .i64 1)), none, []⟩]
def k_cathode_lists_1_r1 : List AOper := [
  ⟨(some (7)), .move (.tmp 4), none, []⟩, 
  ⟨(some (8)), .load none (.tmp 1), none, []⟩, 
  ⟨(some (9)), .bin .plain .leq (.tmp 7) (.tmp 8), none, []⟩]
def k_cathode_lists_1_r2 : List AOper := [
  ⟨(some (12)), .move (.tmp 4), none, []⟩, 
  ⟨(some (13)), .makeSlice (.int .i64 0) 8 (.tmp 12) (.tmp 12), none, []⟩, 
  ⟨(some (5)), .move (.tmp 13), none, []⟩]
def k_cathode_lists_1_r3 : List AOper := [
  ⟨(some (6)), .move (.const (.bool true)), none, []⟩]
def k_cathode_lists_1_r4 : List AOper := [
  ⟨(some (14)), .move (.tmp 6), none, []⟩]
def k_cathode_lists_1_r5 : List AOper := [
  ⟨(some (18)), .move (.tmp 0), none, []⟩, 
  ⟨(some (19)), .move (.tmp 5), none, []⟩, 
  ⟨(some (20)), .call (.tmp 18) [.tmp 19], none, []⟩, 
  ⟨(some (21)), .not (.tmp 20), none, []⟩]
def k_cathode_lists_1_r6 : List AOper := [
  ⟨(some (15)), .move (.tmp 5), none, []⟩, 
  ⟨(some (16)), .load none (.tmp 2), none, []⟩, 
  ⟨(some (17)), .call (.const (.fn (.func 127) [] [])) [.tmp 15, .tmp 16], none, []⟩, 
  ⟨(some (6)), .move (.tmp 17), none, []⟩]
def k_cathode_lists_1_r7 : ACode := (.seq (.seq (.reg k_cathode_lists_1_r4 false) (.cond (.tmp 14) .skip (.exit 2))) (.seq (.block 3 (.seq (.reg k_cathode_lists_1_r5 false) (.cond (.tmp 21) .ret .skip))) (.reg k_cathode_lists_1_r6 false)))
def k_cathode_lists_1_r8 : List AOper := [
  ⟨(some (10)), .move (.tmp 4), none, []⟩, 
  ⟨(some (11)), .bin .plain .add (.tmp 10) (.const (.int .i64 1)), none, []⟩, 
  ⟨(some (4)), .move (.tmp 11), none, []⟩]
def k_cathode_lists_1_r9 : ACode := (.seq (.seq (.reg k_cathode_lists_1_r1 false) (.cond (.tmp 9) .skip (.exit 0))) (.seq (.block 1 (.seq (.reg k_cathode_lists_1_r2 false) (.seq (.reg k_cathode_lists_1_r3 false) (.block 2 (.loop k_cathode_lists_1_r7))))) (.reg k_cathode_lists_1_r8 false)))
def k_cathode_lists_1 : AFun := { params := 3, ntmps := 22, body := (.seq (.reg k_cathode_lists_1_r0 false) (.block 0 (.loop k_cathode_lists_1_r9))), res := [] }
theorem k_cathode_lists_1_ok : cfun Try.prog Try.f126 = k_cathode_lists_1 := by kernel_rfl

def k_cathode_advance_r0 : List AOper := [
  ⟨(some (2)), .box (.tmp 0), none, []⟩, 
  ⟨(some (3)), .box (.tmp 1), none, []⟩, 
  ⟨(some (4)), .box (.const (.bool false)), none, []⟩]
def k_cathode_advance_r1 : List AOper := [
  ⟨(some (7)), .load none (.tmp 2), none, []⟩, 
  ⟨(some (8)), .call (.const (.fn (.func 137) [] [])) [.tmp 7], none, []⟩]
def k_cathode_advance_r2 : List AOper := [
  ⟨(some (5)), .move (.tmp 9), none, []⟩]
def k_cathode_advance_r3 : List AOper := [
  ⟨(some (6)), .move (.tmp 10), none, []⟩]
def k_cathode_advance_r4 : List AOper := [
  ⟨(some (11)), .move (.tmp 6), none, []⟩, 
  ⟨(some (12)), .bin .plain .add (.tmp 11) (.const (.int .i64 1)), none, []⟩, 
  ⟨(some (13)), .load none (.tmp 3), none, []⟩, 
  ⟨(some (14)), .bin .plain .lss (.tmp 12) (.tmp 13), none, []⟩]
def k_cathode_advance_r5 : List AOper := [
  ⟨(some (15)), .load none (.tmp 2), none, []⟩, 
  ⟨(some (16)), .move (.tmp 5), none, []⟩, 
  ⟨(some (17)), .indexAddr 1 (.tmp 15) (.tmp 16), none, []⟩, 
  ⟨(some (18)), .load none (.tmp 17), none, []⟩, 
  ⟨(some (19)), .bin .plain .add (.tmp 18) (.const (.int .i64 1)), none, []⟩, 
  ⟨(some (20)), .indexAddr 1 (.tmp 15) (.tmp 16), none, []⟩, 
  ⟨none, .store 1 (.tmp 20) (.tmp 19), none, []⟩]
def k_cathode_advance_r6 : List AOper := [
  ⟨none, .store 1 (.tmp 4) (.const (.bool true)), none, []⟩]
def k_cathode_advance_r7 : List AOper := [
  ⟨(some (21)), .load none (.tmp 2), none, []⟩, 
  ⟨(some (22)), .move (.tmp 5), none, []⟩, 
  ⟨(some (23)), .indexAddr 1 (.tmp 21) (.tmp 22), none, []⟩, 
  ⟨none, .store 1 (.tmp 23) (.const (.int .i64 0)), none, []⟩]
def k_cathode_advance_r8 : ACode := (.seq (.reg k_cathode_advance_r2 false) (.reg k_cathode_advance_r3 false))
def k_cathode_advance_r9 : ACode := (.block 1 (.seq (.seq (.reg k_cathode_advance_r4 false) (.cond (.tmp 14) (.seq (.reg k_cathode_advance_r5 false) (.seq (.reg k_cathode_advance_r6 false) .ret)) .skip)) (.reg k_cathode_advance_r7 false)))
def k_cathode_advance_r10 : List AOper := [
  ⟨none, .store 1 (.tmp 4) (.const (.bool false)), none, []⟩]
def k_cathode_advance : AFun := { params := 2, ntmps := 24, body := (.seq (.reg k_cathode_advance_r0 false) (.seq (.seq (.reg k_cathode_advance_r1 false) (.block 0 (.rng (.tmp 8) [9, 10] k_cathode_advance_r8 k_cathode_advance_r9))) (.seq (.reg k_cathode_advance_r10 false) .ret))), res := [.cell 4 (some (none))] }
theorem k_cathode_advance_ok : cfun Try.prog Try.f127 = k_cathode_advance := by kernel_rfl

def k_slices_Backward_int_int_r0 : List AOper := [
  ⟨(some (1)), .box (.tmp 0), none, []⟩, 
  ⟨(some (2)), .move (.const (.nilfn)), none, []⟩]
def k_slices_Backward_int_int_r1 : List AOper := [
  ⟨(some (3)), .makeFunc (.func 138) [] [.tmp 1], none, []⟩, 
  ⟨(some (2)), .move (.tmp 3), none, []⟩]
def k_slices_Backward_int_int : AFun := { params := 1, ntmps := 4, body := (.seq (.reg k_slices_Backward_int_int_r0 false) (.seq (.reg k_slices_Backward_int_int_r1 false) .ret)), res := [.tmp 2] }
theorem k_slices_Backward_int_int_ok : cfun Try.prog Try.f137 = k_slices_Backward_int_int := by kernel_rfl

def k_slices_Backward_int_int_1_r0 : List AOper := [
  ⟨(some (4)), .load none (.tmp 1), none, []⟩, 
  ⟨(some (5)), .len false (.tmp 4), none, []⟩, 
  ⟨(some (6)), .bin .plain .sub (.tmp 5) (.const (.int .i64 1)), none, []⟩, 
  ⟨(some (3)), .move (.tmp 6), none, []⟩]
def k_slices_Backward_int_int_1_r1 : List AOper := [
  ⟨(some (7)), .move (.tmp 3), none, []⟩, 
  ⟨(some (8)), .bin .plain .geq (.tmp 7) (.const (.int .i64 0)), none, []⟩]
def k_slices_Backward_int_int_1_r2 : List AOper := [
  ⟨(some (11)), .move (.tmp 0), none, []⟩, 
  ⟨(some (12)), .move (.tmp 3), none, []⟩, 
  ⟨(some (13)), .load none (.tmp 1), none, []⟩, 
  ⟨(some (14)), .move (.tmp 3), none, []⟩, 
  ⟨(some (15)), .indexAddr 1 (.tmp 13) (.tmp 14), none, []⟩, 
  ⟨(some (16)), .load none (.tmp 15), none, []⟩, 
  ⟨(some (17)), .call (.tmp 11) [.tmp 12, .tmp 16], none, []⟩, 
  ⟨(some (18)), .not (.tmp 17), none, []⟩]
def k_slices_Backward_int_int_1_r3 : List AOper := [
  ⟨(some (9)), .move (.tmp 3), none, []⟩, 
  ⟨(some (10)), .bin .plain .sub (.tmp 9) (.const (.int .i64 1)), none, []⟩, 
  ⟨(some (3)), .move (.tmp 10), none, []⟩]
def k_slices_Backward_int_int_1_r4 : ACode := (.seq (.seq (.reg k_slices_Backward_int_int_1_r1 false) (.cond (.tmp 8) .skip (.exit 0))) (.seq (.block 1 (.seq (.reg k_slices_Backward_int_int_1_r2 false) (.cond (.tmp 18) .ret .skip))) (.reg k_slices_Backward_int_int_1_r3 false)))
def k_slices_Backward_int_int_1 : AFun := { params := 2, ntmps := 19, body := (.seq (.reg k_slices_Backward_int_int_1_r0 false) (.block 0 (.loop k_slices_Backward_int_int_1_r4))), res := [] }
theorem k_slices_Backward_int_int_1_ok : cfun Try.prog Try.f138 = k_slices_Backward_int_int_1 := by kernel_rfl


abbrev n_cathode_Shortest : Nat := 48
theorem e_cathode_Shortest : EntryOK Try.prog n_cathode_Shortest k_cathode_Shortest := ⟨Try.f48, Try.func48, k_cathode_Shortest_ok, by kernel_rfl⟩
abbrev n_kit_Same : Nat := 50
theorem e_kit_Same : EntryOK Try.prog n_kit_Same k_kit_Same := ⟨Try.f50, Try.func50, k_kit_Same_ok, by kernel_rfl⟩
abbrev n_cathode_checkMenu : Nat := 97
theorem e_cathode_checkMenu : EntryOK Try.prog n_cathode_checkMenu k_cathode_checkMenu := ⟨Try.f97, Try.func97, k_cathode_checkMenu_ok, by kernel_rfl⟩
abbrev n_cathode_lists : Nat := 98
theorem e_cathode_lists : EntryOK Try.prog n_cathode_lists k_cathode_lists := ⟨Try.f98, Try.func98, k_cathode_lists_ok, by kernel_rfl⟩
abbrev n_cathode_chosen : Nat := 99
theorem e_cathode_chosen : EntryOK Try.prog n_cathode_chosen k_cathode_chosen := ⟨Try.f99, Try.func99, k_cathode_chosen_ok, by kernel_rfl⟩
abbrev n_slices_Clone_int_int : Nat := 100
theorem e_slices_Clone_int_int : EntryOK Try.prog n_slices_Clone_int_int k_slices_Clone_int_int := ⟨Try.f100, Try.func100, k_slices_Clone_int_int_ok, by kernel_rfl⟩
abbrev n_cathode_lists_1 : Nat := 126
theorem e_cathode_lists_1 : EntryOK Try.prog n_cathode_lists_1 k_cathode_lists_1 := ⟨Try.f126, Try.func126, k_cathode_lists_1_ok, by kernel_rfl⟩
abbrev n_cathode_advance : Nat := 127
theorem e_cathode_advance : EntryOK Try.prog n_cathode_advance k_cathode_advance := ⟨Try.f127, Try.func127, k_cathode_advance_ok, by kernel_rfl⟩
abbrev n_slices_Backward_int_int : Nat := 137
theorem e_slices_Backward_int_int : EntryOK Try.prog n_slices_Backward_int_int k_slices_Backward_int_int := ⟨Try.f137, Try.func137, k_slices_Backward_int_int_ok, by kernel_rfl⟩
abbrev n_slices_Backward_int_int_1 : Nat := 138
theorem e_slices_Backward_int_int_1 : EntryOK Try.prog n_slices_Backward_int_int_1 k_slices_Backward_int_int_1 := ⟨Try.f138, Try.func138, k_slices_Backward_int_int_1_ok, by kernel_rfl⟩

attribute [go_sem] k_cathode_Shortest_r0 k_cathode_Shortest_r1 k_cathode_Shortest_r2 k_cathode_Shortest_r3 k_cathode_Shortest_r4 k_cathode_Shortest_r5
attribute [go_sem] k_cathode_Shortest_r6 k_cathode_Shortest_r7 k_cathode_Shortest_r8 k_cathode_Shortest_r9 k_cathode_Shortest_r10 k_cathode_Shortest_r11 k_cathode_Shortest_r12 k_cathode_Shortest_r13 k_cathode_Shortest_r14 k_cathode_Shortest_r17 k_cathode_Shortest_r18 k_cathode_Shortest_r19s
attribute [go_sem] k_kit_Same_r0 k_kit_Same_r1 k_kit_Same_r2 k_kit_Same_r3 k_kit_Same_r4 k_kit_Same_r5s k_kit_Same_r6 k_kit_Same_r7 k_kit_Same_r9 k_cathode_checkMenu_r0 k_cathode_checkMenu_r1 k_cathode_checkMenu_r2
attribute [go_sem] k_cathode_checkMenu_r3 k_cathode_checkMenu_r4 k_cathode_checkMenu_r5 k_cathode_checkMenu_r6 k_cathode_checkMenu_r7 k_cathode_checkMenu_r8 k_cathode_checkMenu_r9 k_cathode_checkMenu_r10 k_cathode_checkMenu_r11 k_cathode_checkMenu_r12 k_cathode_checkMenu_r13 k_cathode_checkMenu_r15
attribute [go_sem] k_cathode_checkMenu_r16 k_cathode_checkMenu_r17 k_cathode_lists_r0 k_cathode_lists_r1 k_cathode_chosen_r0 k_cathode_chosen_r1 k_cathode_chosen_r2 k_cathode_chosen_r3 k_cathode_chosen_r4 k_cathode_chosen_r5 k_cathode_chosen_r6 k_cathode_chosen_r8
attribute [go_sem] k_slices_Clone_int_int_r0 k_slices_Clone_int_int_r1 k_slices_Clone_int_int_r2 k_slices_Clone_int_int_r3 k_cathode_lists_1_r0 k_cathode_lists_1_r1 k_cathode_lists_1_r2 k_cathode_lists_1_r3 k_cathode_lists_1_r4 k_cathode_lists_1_r5 k_cathode_lists_1_r6 k_cathode_lists_1_r8
attribute [go_sem] k_cathode_advance_r0 k_cathode_advance_r1 k_cathode_advance_r2 k_cathode_advance_r3 k_cathode_advance_r4 k_cathode_advance_r5 k_cathode_advance_r6 k_cathode_advance_r7 k_cathode_advance_r10 k_slices_Backward_int_int_r0 k_slices_Backward_int_int_r1 k_slices_Backward_int_int_1_r0
attribute [go_sem] k_slices_Backward_int_int_1_r1 k_slices_Backward_int_int_1_r2 k_slices_Backward_int_int_1_r3 k_kit_Same_r5_sg k_cathode_Shortest_r19_sg k_kit_Same_r5_st k_cathode_Shortest_r19_st k_cathode_Shortest k_kit_Same
attribute [go_sem] k_cathode_checkMenu k_cathode_lists k_cathode_chosen k_slices_Clone_int_int k_cathode_lists_1 k_cathode_advance k_slices_Backward_int_int k_slices_Backward_int_int_1
end Go.Proofs

namespace Go.Proofs
open Go Go.Sx

end Go.Proofs

namespace Go.Proofs
open Go Go.Sx

end Go.Proofs

namespace Go.Proofs
open Go Go.Sx

def k_ref03_checkDemand_r0 : List AOper := [
  ⟨(some (1)), .box (.tmp 0), none, []⟩, 
  ⟨(some (2)), .move (.const (.int .i64 0)), none, []⟩]
def k_ref03_checkDemand_r1 : List AOper := [
  ⟨(some (5)), .fieldAddr 0 (.tmp 1), none, []⟩, 
  ⟨(some (6)), .load none (.tmp 5), none, []⟩, 
  ⟨(some (7)), .fieldAddr 1 (.tmp 1), none, []⟩, 
  ⟨(some (8)), .load none (.tmp 7), none, []⟩, 
  ⟨(some (9)), .fieldAddr 2 (.tmp 1), none, []⟩, 
  ⟨(some (10)), .load none (.tmp 9), none, []⟩, 
  ⟨(some (11)), .fieldAddr 3 (.tmp 1), none, []⟩, 
  ⟨(some (12)), .load none (.tmp 11), none, []⟩, 
  ⟨(some (13)), .fieldAddr 4 (.tmp 1), none, []⟩, 
  ⟨(some (14)), .load none (.tmp 13), none, []⟩, 
  ⟨(some (15)), .buildSlice 1 [.tmp 6, .tmp 8, .tmp 10, .tmp 12, .tmp 14], none, []⟩, 
  ⟨(some (3)), .move (.tmp 15), none, []⟩]
def k_ref03_checkDemand_r2 : List AOper := [
  ⟨(some (4)), .move (.const (.int .i64 0)), none, []⟩]
def k_ref03_checkDemand_r3 : List AOper := [
  ⟨(some (16)), .move (.tmp 4), none, []⟩, 
  ⟨(some (17)), .move (.tmp 3), none, []⟩, 
  ⟨(some (18)), .len false (.tmp 17), none, []⟩, 
  ⟨(some (19)), .bin .plain .lss (.tmp 16) (.tmp 18), none, []⟩]
def k_ref03_checkDemand_r4 : List AOper := [
  ⟨(some (22)), .move (.tmp 3), none, []⟩, 
  ⟨(some (23)), .move (.tmp 4), none, []⟩, 
  ⟨(some (24)), .indexAddr 1 (.tmp 22) (.tmp 23), none, []⟩, 
  ⟨(some (25)), .load none (.tmp 24), none, []⟩, 
  ⟨(some (26)), .call (.const (.fn (.func 69) [] [])) [.tmp 25, .const (.int .i64 0), .const (.int .i64 1099511627776)], none, []⟩]
def k_ref03_checkDemand_r5 : List AOper := [
  ⟨(some (2)), .move (.const (.int .i64 2)), none, []⟩]
def k_ref03_checkDemand_r6 : List AOper := [
  ⟨(some (20)), .move (.tmp 4), none, []⟩, 
  ⟨(some (21)), .bin .plain .add (.tmp 20) (.const (.int .i64 1)), none, []⟩, 
  ⟨(some (4)), .move (.tmp 21), none, []⟩]
def k_ref03_checkDemand_r7 : ACode := (.seq (.seq (.reg k_ref03_checkDemand_r3 false) (.cond (.tmp 19) .skip (.exit 0))) (.seq (.block 1 (.seq (.reg k_ref03_checkDemand_r4 false) (.cond (.tmp 26) (.seq (.reg k_ref03_checkDemand_r5 false) .ret) .skip))) (.reg k_ref03_checkDemand_r6 false)))
def k_ref03_checkDemand_r8 : List AOper := [
  ⟨(some (2)), .move (.const (.int .i64 0)), none, []⟩]
def k_ref03_checkDemand : AFun := { params := 1, ntmps := 27, body := (.seq (.reg k_ref03_checkDemand_r0 false) (.seq (.reg k_ref03_checkDemand_r1 false) (.seq (.seq (.reg k_ref03_checkDemand_r2 false) (.block 0 (.loop k_ref03_checkDemand_r7))) (.seq (.reg k_ref03_checkDemand_r8 false) .ret)))), res := [.tmp 2] }
theorem k_ref03_checkDemand_ok : cfun Try.prog Try.f95 = k_ref03_checkDemand := by kernel_rfl

def k_ref03_judge_r0 : List AOper := [
  ⟨(some (3)), .box (.tmp 0), none, []⟩, 
  ⟨(some (4)), .box (.tmp 1), none, []⟩, 
  ⟨(some (6)), .move (.const (.int .i64 0)), none, []⟩, 
  ⟨(some (7)), .move (.const (.int .i64 0)), none, []⟩]
def k_ref03_judge_r1 : List AOper := [
  ⟨(some (14)), .load (some (7)) (.tmp 3), none, []⟩, 
  ⟨(some (15)), .move (.tmp 2), none, []⟩, 
  ⟨(some (16)), .call (.const (.fn (.func 77) [] [])) [.tmp 14, .tmp 15], none, []⟩, 
  ⟨(some (8)), .move (.tmp 16), none, []⟩]
def k_ref03_judge_r2 : List AOper := [
  ⟨(some (9)), .move (.const (.int .i64 1)), none, []⟩, 
  ⟨(some (10)), .move (.const (.int .i64 0)), none, []⟩]
def k_ref03_judge_r3 : List AOper := [
  ⟨(some (11)), .move (.const (.int .i64 0)), none, []⟩]
def k_ref03_judge_r4 : List AOper := [
  ⟨(some (17)), .move (.tmp 11), none, []⟩, 
  ⟨(some (18)), .move (.tmp 8), none, []⟩, 
  ⟨(some (19)), .len false (.tmp 18), none, []⟩, 
  ⟨(some (20)), .bin .plain .lss (.tmp 17) (.tmp 19), none, []⟩]
def k_ref03_judge_r5 : List AOper := [
  ⟨(some (23)), .load (some (5)) (.tmp 4), none, []⟩, 
  ⟨(some (24)), .move (.tmp 8), none, [0]⟩, 
  ⟨(some (25)), .move (.tmp 11), none, [0, 1]⟩, 
  ⟨(some (26)), .indexAddr 13 (.tmp 24) (.tmp 25), none, [0]⟩, 
  ⟨(some (27)), .load (some (13)) (.tmp 26), none, [0]⟩, 
  ⟨(some (28)), .move (.tmp 11), none, [0, 1, 2, 3, 4]⟩, 
  ⟨(some (29)), .bin .plain .gtr (.tmp 28) (.const (.int .i64 0)), none, [0, 1, 2, 3, 4]⟩, 
  ⟨(some (30)), .move (.tmp 11), none, [0, 1, 2, 3, 4, 5, 6]⟩, 
  ⟨(some (31)), .move (.tmp 8), none, [0, 1, 2, 3, 4, 5, 6, 7]⟩, 
  ⟨(some (32)), .len false (.tmp 31), none, [0, 1, 2, 3, 4, 5, 6, 7]⟩, 
  ⟨(some (33)), .bin .plain .sub (.tmp 32) (.const (.int .i64 1)), none, [0, 1, 2, 3, 4, 5, 6, 7]⟩, 
  ⟨(some (34)), .bin .plain .eql (.tmp 30) (.tmp 33), none, [0, 1, 2, 3, 4, 5, 6]⟩, 
  ⟨(some (35)), .call (.const (.fn (.func 123) [] [])) [.tmp 23, .tmp 27, .tmp 29, .tmp 34], none, []⟩, 
  ⟨(some (12)), .move (.tmp 35), none, []⟩]
def k_ref03_judge_r5s : List (List AOper) := [
  [
  ⟨(some (23)), .load (some (5)) (.tmp 4), none, []⟩, 
  ⟨(some (24)), .move (.tmp 8), none, [0]⟩, 
  ⟨(some (25)), .move (.tmp 11), none, [0, 1]⟩, 
  ⟨(some (26)), .indexAddr 13 (.tmp 24) (.tmp 25), none, [0]⟩, 
  ⟨(some (27)), .load (some (13)) (.tmp 26), none, [0]⟩, 
  ⟨(some (28)), .move (.tmp 11), none, [0, 1, 2, 3, 4]⟩, 
  ⟨(some (29)), .bin .plain .gtr (.tmp 28) (.const (.int .i64 0)), none, [0, 1, 2, 3, 4]⟩, 
  ⟨(some (30)), .move (.tmp 11), none, [0, 1, 2, 3, 4, 5, 6]⟩, 
  ⟨(some (31)), .move (.tmp 8), none, [0, 1, 2, 3, 4, 5, 6, 7]⟩, 
  ⟨(some (32)), .len false (.tmp 31), none, [0, 1, 2, 3, 4, 5, 6, 7]⟩, 
  ⟨(some (33)), .bin .plain .sub (.tmp 32) (.const (.int .i64 1)), none, [0, 1, 2, 3, 4, 5, 6, 7]⟩, 
  ⟨(some (34)), .bin .plain .eql (.tmp 30) (.tmp 33), none, [0, 1, 2, 3, 4, 5, 6]⟩], 
  [
  ⟨(some (35)), .call (.const (.fn (.func 123) [] [])) [.tmp 23, .tmp 27, .tmp 29, .tmp 34], none, []⟩], 
  [
  ⟨(some (12)), .move (.tmp 35), none, []⟩]]
theorem k_ref03_judge_r5_sg : segs k_ref03_judge_r5 = k_ref03_judge_r5s := by kernel_rfl
theorem k_ref03_judge_r5_st : statOK k_ref03_judge_r5 = true := by kernel_rfl
def k_ref03_judge_r6 : List AOper := [
  ⟨(some (13)), .move (.const (.int .i64 0)), none, []⟩]
def k_ref03_judge_r7 : List AOper := [
  ⟨(some (36)), .move (.tmp 13), none, []⟩, 
  ⟨(some (37)), .move (.tmp 12), none, []⟩, 
  ⟨(some (38)), .len false (.tmp 37), none, []⟩, 
  ⟨(some (39)), .bin .plain .lss (.tmp 36) (.tmp 38), none, []⟩]
def k_ref03_judge_r8 : List AOper := [
  ⟨(some (42)), .move (.tmp 12), none, []⟩, 
  ⟨(some (43)), .move (.tmp 13), none, []⟩, 
  ⟨(some (44)), .indexAddr 4 (.tmp 42) (.tmp 43), none, []⟩, 
  ⟨(some (45)), .load (some (4)) (.tmp 44), none, []⟩, 
  ⟨(some (46)), .call (.const (.fn (.func 124) [] [])) [.tmp 45], none, []⟩]
def k_ref03_judge_r9 : List AOper := [
  ⟨(some (47)), .move (.tmp 11), none, []⟩, 
  ⟨(some (6)), .move (.const (.int .i64 2)), none, []⟩, 
  ⟨(some (7)), .move (.tmp 47), none, []⟩]
def k_ref03_judge_r10 : List AOper := [
  ⟨(some (48)), .move (.tmp 12), none, []⟩, 
  ⟨(some (49)), .move (.tmp 13), none, []⟩, 
  ⟨(some (50)), .indexAddr 4 (.tmp 48) (.tmp 49), none, []⟩, 
  ⟨(some (51)), .load (some (4)) (.tmp 50), none, []⟩, 
  ⟨(some (52)), .call (.const (.fn (.func 125) [] [])) [.tmp 51], none, []⟩, 
  ⟨(some (53)), .move (.tmp 52), none, []⟩, 
  ⟨(some (54)), .move (.tmp 9), (some (53, true)), []⟩, 
  ⟨(some (55)), .bin .plain .eql (.tmp 54) (.const (.int .i64 1)), (some (53, true)), []⟩, 
  ⟨(some (56)), .pick (.tmp 53) (.tmp 55) (.const (.bool false)), none, []⟩]
def k_ref03_judge_r11 : List AOper := [
  ⟨(some (57)), .move (.tmp 11), none, []⟩, 
  ⟨(some (9)), .move (.const (.int .i64 3)), none, []⟩, 
  ⟨(some (10)), .move (.tmp 57), none, []⟩]
def k_ref03_judge_r12 : List AOper := [
  ⟨(some (40)), .move (.tmp 13), none, []⟩, 
  ⟨(some (41)), .bin .plain .add (.tmp 40) (.const (.int .i64 1)), none, []⟩, 
  ⟨(some (13)), .move (.tmp 41), none, []⟩]
def k_ref03_judge_r13 : ACode := (.seq (.seq (.reg k_ref03_judge_r7 false) (.cond (.tmp 39) .skip (.exit 2))) (.seq (.block 3 (.seq (.seq (.reg k_ref03_judge_r8 false) (.cond (.tmp 46) (.seq (.reg k_ref03_judge_r9 false) .ret) .skip)) (.seq (.reg k_ref03_judge_r10 false) (.cond (.tmp 56) (.reg k_ref03_judge_r11 false) .skip)))) (.reg k_ref03_judge_r12 false)))
def k_ref03_judge_r14 : List AOper := [
  ⟨(some (21)), .move (.tmp 11), none, []⟩, 
  ⟨(some (22)), .bin .plain .add (.tmp 21) (.const (.int .i64 1)), none, []⟩, 
  ⟨(some (11)), .move (.tmp 22), none, []⟩]
def k_ref03_judge_r15 : ACode := (.seq (.seq (.reg k_ref03_judge_r4 false) (.cond (.tmp 20) .skip (.exit 0))) (.seq (.block 1 (.seq (.reg k_ref03_judge_r5 true) (.seq (.reg k_ref03_judge_r6 false) (.block 2 (.loop k_ref03_judge_r13))))) (.reg k_ref03_judge_r14 false)))
def k_ref03_judge_r16 : List AOper := [
  ⟨(some (58)), .move (.tmp 9), none, []⟩, 
  ⟨(some (59)), .move (.tmp 10), none, []⟩, 
  ⟨(some (6)), .move (.tmp 58), none, []⟩, 
  ⟨(some (7)), .move (.tmp 59), none, []⟩]
def k_ref03_judge : AFun := { params := 3, ntmps := 60, body := (.seq (.reg k_ref03_judge_r0 false) (.seq (.reg k_ref03_judge_r1 false) (.seq (.reg k_ref03_judge_r2 false) (.seq (.seq (.reg k_ref03_judge_r3 false) (.block 0 (.loop k_ref03_judge_r15))) (.seq (.reg k_ref03_judge_r16 false) .ret))))), res := [.tmp 6, .tmp 7] }
theorem k_ref03_judge_ok : cfun Try.prog Try.f96 = k_ref03_judge := by kernel_rfl

def k_ref03_bounds_r0 : List AOper := [
  ⟨(some (4)), .box (.tmp 0), none, []⟩, 
  ⟨(some (5)), .box (.tmp 1), none, []⟩, 
  ⟨(some (8)), .move (.const (.nilsl)), none, []⟩]
def k_ref03_bounds_r1 : List AOper := [
  ⟨(some (9)), .move (.const (.nilsl)), none, []⟩]
def k_ref03_bounds_r2 : List AOper := [
  ⟨(some (10)), .move (.tmp 2), none, []⟩]
def k_ref03_bounds_r3 : List AOper := [
  ⟨(some (11)), .move (.tmp 9), none, []⟩, 
  ⟨(some (12)), .fieldAddr 8 (.tmp 5), none, []⟩, 
  ⟨(some (13)), .load (some (2)) (.tmp 12), none, []⟩, 
  ⟨(some (14)), .fieldAddr 0 (.tmp 4), none, []⟩, 
  ⟨(some (15)), .load none (.tmp 14), none, []⟩, 
  ⟨(some (16)), .build [.int .i64 0, .int .i64 0, .int .i64 0, .bool false] [(0, 2, .tmp 13), (2, 1, .tmp 15), (3, 1, .const (.bool false))], none, []⟩, 
  ⟨(some (17)), .fieldAddr 10 (.tmp 5), none, []⟩, 
  ⟨(some (18)), .load (some (2)) (.tmp 17), none, []⟩, 
  ⟨(some (19)), .fieldAddr 1 (.tmp 4), none, []⟩, 
  ⟨(some (20)), .load none (.tmp 19), none, []⟩, 
  ⟨(some (21)), .build [.int .i64 0, .int .i64 0, .int .i64 0, .bool false] [(0, 2, .tmp 18), (2, 1, .tmp 20), (3, 1, .const (.bool false))], none, []⟩, 
  ⟨(some (22)), .fieldAddr 6 (.tmp 5), none, []⟩, 
  ⟨(some (23)), .load (some (2)) (.tmp 22), none, []⟩, 
  ⟨(some (24)), .fieldAddr 2 (.tmp 4), none, []⟩, 
  ⟨(some (25)), .load none (.tmp 24), none, []⟩, 
  ⟨(some (26)), .build [.int .i64 0, .int .i64 0, .int .i64 0, .bool false] [(0, 2, .tmp 23), (2, 1, .tmp 25), (3, 1, .const (.bool false))], none, []⟩, 
  ⟨(some (27)), .buildSlice 4 [.tmp 16, .tmp 21, .tmp 26], none, []⟩, 
  ⟨(some (28)), .append 4 32 true (.tmp 11) (.tmp 27), none, []⟩, 
  ⟨(some (9)), .move (.tmp 28), none, []⟩]
def k_ref03_bounds_r4 : List AOper := [
  ⟨(some (29)), .move (.tmp 3), none, []⟩]
def k_ref03_bounds_r5 : List AOper := [
  ⟨(some (30)), .move (.tmp 9), none, []⟩, 
  ⟨(some (31)), .fieldAddr 0 (.tmp 5), none, []⟩, 
  ⟨(some (32)), .load (some (2)) (.tmp 31), none, []⟩, 
  ⟨(some (33)), .fieldAddr 3 (.tmp 4), none, []⟩, 
  ⟨(some (34)), .load none (.tmp 33), none, []⟩, 
  ⟨(some (35)), .build [.int .i64 0, .int .i64 0, .int .i64 0, .bool false] [(0, 2, .tmp 32), (2, 1, .tmp 34), (3, 1, .const (.bool false))], none, []⟩, 
  ⟨(some (36)), .fieldAddr 4 (.tmp 5), none, []⟩, 
  ⟨(some (37)), .load (some (2)) (.tmp 36), none, []⟩, 
  ⟨(some (38)), .fieldAddr 4 (.tmp 4), none, []⟩, 
  ⟨(some (39)), .load none (.tmp 38), none, []⟩, 
  ⟨(some (40)), .build [.int .i64 0, .int .i64 0, .int .i64 0, .bool false] [(0, 2, .tmp 37), (2, 1, .tmp 39), (3, 1, .const (.bool true))], none, []⟩, 
  ⟨(some (41)), .buildSlice 4 [.tmp 35, .tmp 40], none, []⟩, 
  ⟨(some (42)), .append 4 32 true (.tmp 30) (.tmp 41), none, []⟩, 
  ⟨(some (9)), .move (.tmp 42), none, []⟩]
def k_ref03_bounds_r6 : List AOper := [
  ⟨(some (43)), .move (.tmp 9), none, []⟩, 
  ⟨(some (8)), .move (.tmp 43), none, []⟩]
def k_ref03_bounds : AFun := { params := 4, ntmps := 44, body := (.seq (.reg k_ref03_bounds_r0 false) (.seq (.reg k_ref03_bounds_r1 false) (.seq (.seq (.reg k_ref03_bounds_r2 false) (.cond (.tmp 10) (.reg k_ref03_bounds_r3 false) .skip)) (.seq (.seq (.reg k_ref03_bounds_r4 false) (.cond (.tmp 29) (.reg k_ref03_bounds_r5 false) .skip)) (.seq (.reg k_ref03_bounds_r6 false) .ret))))), res := [.tmp 8] }
theorem k_ref03_bounds_ok : cfun Try.prog Try.f123 = k_ref03_bounds := by kernel_rfl

def k_ref03_broken_r0 : List AOper := [
  ⟨(some (1)), .box (.tmp 0), none, []⟩, 
  ⟨(some (2)), .move (.const (.bool false)), none, []⟩]
def k_ref03_broken_r1 : List AOper := [
  ⟨(some (3)), .fieldAddr 3 (.tmp 1), none, []⟩, 
  ⟨(some (4)), .load none (.tmp 3), none, []⟩]
def k_ref03_broken_r2 : List AOper := [
  ⟨(some (5)), .fieldAddr 0 (.tmp 1), none, []⟩, 
  ⟨(some (6)), .fieldAddr 1 (.tmp 5), none, []⟩, 
  ⟨(some (7)), .load none (.tmp 6), none, []⟩, 
  ⟨(some (8)), .fieldAddr 2 (.tmp 1), none, []⟩, 
  ⟨(some (9)), .load none (.tmp 8), none, []⟩, 
  ⟨(some (10)), .bin .plain .lss (.tmp 7) (.tmp 9), none, []⟩, 
  ⟨(some (2)), .move (.tmp 10), none, []⟩]
def k_ref03_broken_r3 : List AOper := [
  ⟨(some (11)), .fieldAddr 0 (.tmp 1), none, []⟩, 
  ⟨(some (12)), .fieldAddr 0 (.tmp 11), none, []⟩, 
  ⟨(some (13)), .load none (.tmp 12), none, []⟩, 
  ⟨(some (14)), .fieldAddr 2 (.tmp 1), none, []⟩, 
  ⟨(some (15)), .load none (.tmp 14), none, []⟩, 
  ⟨(some (16)), .bin .plain .gtr (.tmp 13) (.tmp 15), none, []⟩, 
  ⟨(some (2)), .move (.tmp 16), none, []⟩]
def k_ref03_broken : AFun := { params := 1, ntmps := 17, body := (.seq (.reg k_ref03_broken_r0 false) (.seq (.seq (.reg k_ref03_broken_r1 false) (.cond (.tmp 4) (.seq (.reg k_ref03_broken_r2 false) .ret) .skip)) (.seq (.reg k_ref03_broken_r3 false) .ret))), res := [.tmp 2] }
theorem k_ref03_broken_ok : cfun Try.prog Try.f124 = k_ref03_broken := by kernel_rfl

def k_ref03_doubtful_r0 : List AOper := [
  ⟨(some (1)), .box (.tmp 0), none, []⟩, 
  ⟨(some (2)), .move (.const (.bool false)), none, []⟩]
def k_ref03_doubtful_r1 : List AOper := [
  ⟨(some (3)), .fieldAddr 3 (.tmp 1), none, []⟩, 
  ⟨(some (4)), .load none (.tmp 3), none, []⟩]
def k_ref03_doubtful_r2 : List AOper := [
  ⟨(some (5)), .fieldAddr 0 (.tmp 1), none, []⟩, 
  ⟨(some (6)), .fieldAddr 0 (.tmp 5), none, []⟩, 
  ⟨(some (7)), .load none (.tmp 6), none, []⟩, 
  ⟨(some (8)), .fieldAddr 2 (.tmp 1), none, []⟩, 
  ⟨(some (9)), .load none (.tmp 8), none, []⟩, 
  ⟨(some (10)), .bin .plain .lss (.tmp 7) (.tmp 9), none, []⟩, 
  ⟨(some (11)), .move (.tmp 10), none, []⟩, 
  ⟨(some (12)), .load (some (4)) (.tmp 1), (some (11, true)), []⟩, 
  ⟨(some (13)), .call (.const (.fn (.func 124) [] [])) [.tmp 12], (some (11, true)), []⟩, 
  ⟨(some (14)), .not (.tmp 13), (some (11, true)), []⟩, 
  ⟨(some (15)), .pick (.tmp 11) (.tmp 14) (.const (.bool false)), none, []⟩, 
  ⟨(some (2)), .move (.tmp 15), none, []⟩]
def k_ref03_doubtful_r3 : List AOper := [
  ⟨(some (16)), .fieldAddr 0 (.tmp 1), none, []⟩, 
  ⟨(some (17)), .fieldAddr 1 (.tmp 16), none, []⟩, 
  ⟨(some (18)), .load none (.tmp 17), none, []⟩, 
  ⟨(some (19)), .fieldAddr 2 (.tmp 1), none, []⟩, 
  ⟨(some (20)), .load none (.tmp 19), none, []⟩, 
  ⟨(some (21)), .bin .plain .gtr (.tmp 18) (.tmp 20), none, []⟩, 
  ⟨(some (22)), .move (.tmp 21), none, []⟩, 
  ⟨(some (23)), .load (some (4)) (.tmp 1), (some (22, true)), []⟩, 
  ⟨(some (24)), .call (.const (.fn (.func 124) [] [])) [.tmp 23], (some (22, true)), []⟩, 
  ⟨(some (25)), .not (.tmp 24), (some (22, true)), []⟩, 
  ⟨(some (26)), .pick (.tmp 22) (.tmp 25) (.const (.bool false)), none, []⟩, 
  ⟨(some (2)), .move (.tmp 26), none, []⟩]
def k_ref03_doubtful : AFun := { params := 1, ntmps := 27, body := (.seq (.reg k_ref03_doubtful_r0 false) (.seq (.seq (.reg k_ref03_doubtful_r1 false) (.cond (.tmp 4) (.seq (.reg k_ref03_doubtful_r2 false) .ret) .skip)) (.seq (.reg k_ref03_doubtful_r3 false) .ret))), res := [.tmp 2] }
theorem k_ref03_doubtful_ok : cfun Try.prog Try.f125 = k_ref03_doubtful := by kernel_rfl


abbrev n_ref03_checkDemand : Nat := 95
theorem e_ref03_checkDemand : EntryOK Try.prog n_ref03_checkDemand k_ref03_checkDemand := ⟨Try.f95, Try.func95, k_ref03_checkDemand_ok, by kernel_rfl⟩
abbrev n_ref03_judge : Nat := 96
theorem e_ref03_judge : EntryOK Try.prog n_ref03_judge k_ref03_judge := ⟨Try.f96, Try.func96, k_ref03_judge_ok, by kernel_rfl⟩
abbrev n_ref03_bounds : Nat := 123
theorem e_ref03_bounds : EntryOK Try.prog n_ref03_bounds k_ref03_bounds := ⟨Try.f123, Try.func123, k_ref03_bounds_ok, by kernel_rfl⟩
abbrev n_ref03_broken : Nat := 124
theorem e_ref03_broken : EntryOK Try.prog n_ref03_broken k_ref03_broken := ⟨Try.f124, Try.func124, k_ref03_broken_ok, by kernel_rfl⟩
abbrev n_ref03_doubtful : Nat := 125
theorem e_ref03_doubtful : EntryOK Try.prog n_ref03_doubtful k_ref03_doubtful := ⟨Try.f125, Try.func125, k_ref03_doubtful_ok, by kernel_rfl⟩

attribute [go_sem] k_ref03_checkDemand_r0 k_ref03_checkDemand_r1 k_ref03_checkDemand_r2 k_ref03_checkDemand_r3 k_ref03_checkDemand_r4 k_ref03_checkDemand_r5 k_ref03_checkDemand_r6
attribute [go_sem] k_ref03_checkDemand_r8 k_ref03_judge_r0 k_ref03_judge_r1 k_ref03_judge_r2 k_ref03_judge_r3 k_ref03_judge_r4 k_ref03_judge_r5s k_ref03_judge_r6 k_ref03_judge_r7 k_ref03_judge_r8 k_ref03_judge_r9 k_ref03_judge_r10
attribute [go_sem] k_ref03_judge_r11 k_ref03_judge_r12 k_ref03_judge_r14 k_ref03_judge_r16 k_ref03_bounds_r0 k_ref03_bounds_r1 k_ref03_bounds_r2 k_ref03_bounds_r3 k_ref03_bounds_r4 k_ref03_bounds_r5 k_ref03_bounds_r6 k_ref03_broken_r0
attribute [go_sem] k_ref03_broken_r1 k_ref03_broken_r2 k_ref03_broken_r3 k_ref03_doubtful_r0 k_ref03_doubtful_r1 k_ref03_doubtful_r2 k_ref03_doubtful_r3 k_ref03_judge_r5_sg k_ref03_judge_r5_st k_ref03_checkDemand
attribute [go_sem] k_ref03_judge k_ref03_bounds k_ref03_broken k_ref03_doubtful
end Go.Proofs

namespace Go.Proofs
open Go Go.Sx

def k_law03_CathodeShortest_r0 : List AOper := [
  ⟨(some (5)), .box (.tmp 0), none, []⟩, 
  ⟨(some (6)), .box (.tmp 1), none, []⟩, 
  ⟨(some (10)), .move (.const (.bool false)), none, []⟩]
def k_law03_CathodeShortest_r1 : List AOper := [
  ⟨(some (22)), .fieldAddr 6 (.tmp 5), none, []⟩, 
  ⟨(some (23)), .load none (.tmp 22), none, []⟩, 
  ⟨(some (24)), .len false (.tmp 23), none, []⟩, 
  ⟨(some (25)), .bin .plain .gtr (.tmp 24) (.const (.int .i64 30)), none, []⟩, 
  ⟨(some (26)), .move (.tmp 25), none, []⟩, 
  ⟨(some (27)), .move (.tmp 2), (some (26, false)), []⟩, 
  ⟨(some (28)), .len false (.tmp 27), (some (26, false)), []⟩, 
  ⟨(some (29)), .bin .plain .gtr (.tmp 28) (.const (.int .i64 6)), (some (26, false)), []⟩, 
  ⟨(some (30)), .pick (.tmp 26) (.const (.bool true)) (.tmp 29), none, []⟩]
def k_law03_CathodeShortest_r2 : List AOper := [
  ⟨(some (31)), .call (.const (.fn (.func 18) [] [])) [], none, []⟩, 
  ⟨(some (10)), .move (.tmp 31), none, []⟩]
def k_law03_CathodeShortest_r3 : List AOper := [
  ⟨(some (32)), .move (.tmp 4), none, []⟩, 
  ⟨(some (33)), .call (.const (.fn (.func 19) [] [])) [.tmp 32], none, []⟩, 
  ⟨(some (11)), .move (.tmp 33), none, []⟩]
def k_law03_CathodeShortest_r4 : List AOper := [
  ⟨(some (34)), .move (.tmp 11), none, []⟩, 
  ⟨(some (35)), .call (.const (.fn (.func 20) [] [])) [.tmp 34], none, []⟩, 
  ⟨(some (36)), .move (.tmp 11), none, []⟩, 
  ⟨(some (37)), .call (.const (.fn (.func 21) [] [])) [.tmp 36, .const (.int .i64 3), .const (.int .i64 12)], none, []⟩, 
  ⟨(some (12)), .box (.const (.agg [.int .i64 0, .int .i64 0, .int .i64 0, .int .i64 0, .int .i64 0, .int .i64 0, .nilsl])), none, []⟩, 
  ⟨none, .store 7 (.tmp 12) (.tmp 35), none, []⟩, 
  ⟨(some (13)), .move (.tmp 37), none, []⟩]
def k_law03_CathodeShortest_r5 : List AOper := [
  ⟨(some (38)), .move (.tmp 11), none, []⟩, 
  ⟨(some (39)), .load (some (7)) (.tmp 12), none, [0]⟩, 
  ⟨(some (40)), .buildSlice 3 [], none, [0, 1]⟩, 
  ⟨(some (41)), .move (.tmp 13), none, [0, 1, 2]⟩, 
  ⟨(some (42)), .append 3 24 true (.tmp 40) (.tmp 41), none, [0, 1]⟩, 
  ⟨(some (43)), .move (.tmp 13), none, [0, 1, 2, 3, 4]⟩, 
  ⟨(some (44)), .append 3 24 true (.tmp 42) (.tmp 43), none, [0, 1]⟩, 
  ⟨(some (45)), .call (.const (.fn (.func 45) [] [])) [.tmp 38, .tmp 39, .tmp 44], none, []⟩, 
  ⟨(some (14)), .box (.const (.agg [.int .i64 0, .int .i64 0, .int .i64 0, .int .i64 0, .int .i64 0])), none, [0, 1, 2, 3, 4, 5, 6, 7]⟩, 
  ⟨none, .store 5 (.tmp 14) (.tmp 45), none, []⟩]
def k_law03_CathodeShortest_r5s : List (List AOper) := [
  [
  ⟨(some (38)), .move (.tmp 11), none, []⟩, 
  ⟨(some (39)), .load (some (7)) (.tmp 12), none, [0]⟩, 
  ⟨(some (40)), .buildSlice 3 [], none, [0, 1]⟩, 
  ⟨(some (41)), .move (.tmp 13), none, [0, 1, 2]⟩, 
  ⟨(some (42)), .append 3 24 true (.tmp 40) (.tmp 41), none, [0, 1]⟩, 
  ⟨(some (43)), .move (.tmp 13), none, [0, 1, 2, 3, 4]⟩, 
  ⟨(some (44)), .append 3 24 true (.tmp 42) (.tmp 43), none, [0, 1]⟩, 
  ⟨(some (45)), .call (.const (.fn (.func 45) [] [])) [.tmp 38, .tmp 39, .tmp 44], none, []⟩, 
  ⟨(some (14)), .box (.const (.agg [.int .i64 0, .int .i64 0, .int .i64 0, .int .i64 0, .int .i64 0])), none, [0, 1, 2, 3, 4, 5, 6, 7]⟩], 
  [
  ⟨none, .store 5 (.tmp 14) (.tmp 45), none, []⟩]]
theorem k_law03_CathodeShortest_r5_sg : segs k_law03_CathodeShortest_r5 = k_law03_CathodeShortest_r5s := by kernel_rfl
theorem k_law03_CathodeShortest_r5_st : statOK k_law03_CathodeShortest_r5 = true := by kernel_rfl
def k_law03_CathodeShortest_r6 : List AOper := [
  ⟨(some (47)), .load (some (7)) (.tmp 5), none, []⟩, 
  ⟨(some (48)), .load (some (5)) (.tmp 6), none, []⟩, 
  ⟨(some (49)), .move (.tmp 2), none, []⟩, 
  ⟨(some (50)), .move (.tmp 3), none, []⟩, 
  ⟨(some (51)), .call (.const (.fn (.func 48) [] [])) [.tmp 47, .tmp 48, .tmp 49, .tmp 50], none, []⟩, 
  ⟨(some (46)), .move (.tmp 51), none, []⟩, 
  ⟨(some (52)), .extract (.tmp 46) 0, none, []⟩, 
  ⟨(some (53)), .extract (.tmp 46) 1, none, []⟩, 
  ⟨(some (54)), .extract (.tmp 46) 2, none, []⟩, 
  ⟨(some (15)), .move (.tmp 52), none, []⟩, 
  ⟨(some (16)), .move (.tmp 53), none, []⟩, 
  ⟨(some (17)), .move (.tmp 54), none, []⟩]
def k_law03_CathodeShortest_r7 : List AOper := [
  ⟨(some (56)), .load (some (7)) (.tmp 5), none, []⟩, 
  ⟨(some (57)), .load (some (5)) (.tmp 6), none, []⟩, 
  ⟨(some (58)), .move (.tmp 2), none, []⟩, 
  ⟨(some (59)), .move (.tmp 3), none, []⟩, 
  ⟨(some (60)), .call (.const (.fn (.func 49) [] [])) [.tmp 56, .tmp 57, .tmp 58, .tmp 59], none, []⟩, 
  ⟨(some (55)), .move (.tmp 60), none, []⟩, 
  ⟨(some (61)), .extract (.tmp 55) 0, none, []⟩, 
  ⟨(some (62)), .extract (.tmp 55) 1, none, []⟩, 
  ⟨(some (63)), .extract (.tmp 55) 2, none, []⟩, 
  ⟨(some (18)), .move (.tmp 61), none, []⟩, 
  ⟨(some (19)), .move (.tmp 62), none, []⟩, 
  ⟨(some (20)), .move (.tmp 63), none, []⟩]
def k_law03_CathodeShortest_r8 : List AOper := [
  ⟨(some (64)), .move (.tmp 15), none, []⟩, 
  ⟨(some (65)), .move (.tmp 18), none, []⟩, 
  ⟨(some (66)), .call (.const (.fn (.func 50) [] [])) [.tmp 64, .tmp 65], none, []⟩, 
  ⟨(some (67)), .not (.tmp 66), none, []⟩, 
  ⟨(some (68)), .move (.tmp 67), none, []⟩, 
  ⟨(some (69)), .move (.tmp 16), (some (68, false)), []⟩, 
  ⟨(some (70)), .move (.tmp 19), (some (68, false)), []⟩, 
  ⟨(some (71)), .bin .plain .neq (.tmp 69) (.tmp 70), (some (68, false)), []⟩, 
  ⟨(some (72)), .pick (.tmp 68) (.const (.bool true)) (.tmp 71), none, []⟩, 
  ⟨(some (73)), .move (.tmp 72), none, []⟩, 
  ⟨(some (74)), .move (.tmp 17), (some (73, false)), []⟩, 
  ⟨(some (75)), .move (.tmp 20), (some (73, false)), []⟩, 
  ⟨(some (76)), .bin .plain .neq (.tmp 74) (.tmp 75), (some (73, false)), []⟩, 
  ⟨(some (77)), .pick (.tmp 73) (.const (.bool true)) (.tmp 76), none, []⟩]
def k_law03_CathodeShortest_r9 : List AOper := [
  ⟨(some (10)), .move (.const (.bool false)), none, []⟩]
def k_law03_CathodeShortest_r10 : List AOper := [
  ⟨(some (78)), .move (.tmp 3), none, []⟩, 
  ⟨(some (79)), .call (.const (.fn (.func 42) [] [])) [.tmp 78, .const (.int .i64 4)], none, []⟩, 
  ⟨(some (80)), .bin .plain .add (.const (.int .i64 1)) (.tmp 79), none, []⟩, 
  ⟨(some (21)), .move (.tmp 80), none, []⟩]
def k_law03_CathodeShortest_r11 : List AOper := [
  ⟨(some (82)), .load (some (7)) (.tmp 12), none, []⟩, 
  ⟨(some (83)), .load (some (5)) (.tmp 14), none, []⟩, 
  ⟨(some (84)), .move (.tmp 13), none, []⟩, 
  ⟨(some (85)), .move (.tmp 21), none, []⟩, 
  ⟨(some (86)), .call (.const (.fn (.func 48) [] [])) [.tmp 82, .tmp 83, .tmp 84, .tmp 85], none, []⟩, 
  ⟨(some (81)), .move (.tmp 86), none, []⟩, 
  ⟨(some (87)), .extract (.tmp 81) 0, none, []⟩, 
  ⟨(some (88)), .extract (.tmp 81) 1, none, []⟩, 
  ⟨(some (89)), .extract (.tmp 81) 2, none, []⟩, 
  ⟨(some (15)), .move (.tmp 87), none, []⟩, 
  ⟨(some (16)), .move (.tmp 88), none, []⟩, 
  ⟨(some (17)), .move (.tmp 89), none, []⟩]
def k_law03_CathodeShortest_r12 : List AOper := [
  ⟨(some (91)), .load (some (7)) (.tmp 12), none, []⟩, 
  ⟨(some (92)), .load (some (5)) (.tmp 14), none, []⟩, 
  ⟨(some (93)), .move (.tmp 13), none, []⟩, 
  ⟨(some (94)), .move (.tmp 21), none, []⟩, 
  ⟨(some (95)), .call (.const (.fn (.func 49) [] [])) [.tmp 91, .tmp 92, .tmp 93, .tmp 94], none, []⟩, 
  ⟨(some (90)), .move (.tmp 95), none, []⟩, 
  ⟨(some (96)), .extract (.tmp 90) 0, none, []⟩, 
  ⟨(some (97)), .extract (.tmp 90) 1, none, []⟩, 
  ⟨(some (98)), .extract (.tmp 90) 2, none, []⟩, 
  ⟨(some (18)), .move (.tmp 96), none, []⟩, 
  ⟨(some (19)), .move (.tmp 97), none, []⟩, 
  ⟨(some (20)), .move (.tmp 98), none, []⟩]
def k_law03_CathodeShortest_r13 : List AOper := [
  ⟨(some (99)), .move (.tmp 15), none, []⟩, 
  ⟨(some (100)), .move (.tmp 18), none, []⟩, 
  ⟨(some (101)), .call (.const (.fn (.func 50) [] [])) [.tmp 99, .tmp 100], none, []⟩, 
  ⟨(some (102)), .move (.tmp 101), none, []⟩, 
  ⟨(some (103)), .move (.tmp 16), (some (102, true)), []⟩, 
  ⟨(some (104)), .move (.tmp 19), (some (102, true)), []⟩, 
  ⟨(some (105)), .bin .plain .eql (.tmp 103) (.tmp 104), (some (102, true)), []⟩, 
  ⟨(some (106)), .pick (.tmp 102) (.tmp 105) (.const (.bool false)), none, []⟩, 
  ⟨(some (107)), .move (.tmp 106), none, []⟩, 
  ⟨(some (108)), .move (.tmp 17), (some (107, true)), []⟩, 
  ⟨(some (109)), .move (.tmp 20), (some (107, true)), []⟩, 
  ⟨(some (110)), .bin .plain .eql (.tmp 108) (.tmp 109), (some (107, true)), []⟩, 
  ⟨(some (111)), .pick (.tmp 107) (.tmp 110) (.const (.bool false)), none, []⟩, 
  ⟨(some (112)), .move (.tmp 111), none, []⟩, 
  ⟨(some (113)), .call (.const (.fn (.func 18) [] [])) [], (some (112, true)), []⟩, 
  ⟨(some (114)), .pick (.tmp 112) (.tmp 113) (.const (.bool false)), none, []⟩, 
  ⟨(some (10)), .move (.tmp 114), none, []⟩]
def k_law03_CathodeShortest : AFun := { params := 5, ntmps := 115, body := (.seq (.reg k_law03_CathodeShortest_r0 false) (.seq (.seq (.reg k_law03_CathodeShortest_r1 false) (.cond (.tmp 30) (.seq (.reg k_law03_CathodeShortest_r2 false) .ret) .skip)) (.seq (.reg k_law03_CathodeShortest_r3 false) (.seq (.reg k_law03_CathodeShortest_r4 false) (.seq (.reg k_law03_CathodeShortest_r5 true) (.seq (.reg k_law03_CathodeShortest_r6 false) (.seq (.reg k_law03_CathodeShortest_r7 false) (.seq (.seq (.reg k_law03_CathodeShortest_r8 false) (.cond (.tmp 77) (.seq (.reg k_law03_CathodeShortest_r9 false) .ret) .skip)) (.seq (.reg k_law03_CathodeShortest_r10 false) (.seq (.reg k_law03_CathodeShortest_r11 false) (.seq (.reg k_law03_CathodeShortest_r12 false) (.seq (.reg k_law03_CathodeShortest_r13 false) .ret)))))))))))), res := [.tmp 10] }
theorem k_law03_CathodeShortest_ok : cfun Try.prog Try.f8 = k_law03_CathodeShortest := by kernel_rfl

def k_ref03_Shortest_r0 : List AOper := [
  ⟨(some (4)), .box (.tmp 0), none, []⟩, 
  ⟨(some (5)), .box (.tmp 1), none, []⟩, 
  ⟨(some (8)), .move (.const (.nilsl)), none, []⟩, 
  ⟨(some (9)), .move (.const (.int .i64 0)), none, []⟩, 
  ⟨(some (10)), .move (.const (.int .i64 0)), none, []⟩]
def k_ref03_Shortest_r1 : List AOper := [
  ⟨(some (24)), .load (some (7)) (.tmp 4), none, []⟩, 
  ⟨(some (25)), .call (.const (.fn (.func 26) [] [])) [.tmp 24], none, []⟩, 
  ⟨(some (11)), .move (.tmp 25), none, []⟩]
def k_ref03_Shortest_r2 : List AOper := [
  ⟨(some (26)), .move (.tmp 11), none, []⟩, 
  ⟨(some (27)), .bin .plain .neq (.tmp 26) (.const (.int .i64 0)), none, []⟩]
def k_ref03_Shortest_r3 : List AOper := [
  ⟨(some (28)), .move (.tmp 11), none, []⟩, 
  ⟨(some (8)), .move (.const (.nilsl)), none, []⟩, 
  ⟨(some (9)), .move (.const (.int .i64 0)), none, []⟩, 
  ⟨(some (10)), .move (.tmp 28), none, []⟩]
def k_ref03_Shortest_r4 : List AOper := [
  ⟨(some (29)), .load (some (5)) (.tmp 5), none, []⟩, 
  ⟨(some (30)), .call (.const (.fn (.func 95) [] [])) [.tmp 29], none, []⟩, 
  ⟨(some (12)), .move (.tmp 30), none, []⟩]
def k_ref03_Shortest_r5 : List AOper := [
  ⟨(some (31)), .move (.tmp 12), none, []⟩, 
  ⟨(some (32)), .bin .plain .neq (.tmp 31) (.const (.int .i64 0)), none, []⟩]
def k_ref03_Shortest_r6 : List AOper := [
  ⟨(some (33)), .move (.tmp 12), none, []⟩, 
  ⟨(some (8)), .move (.const (.nilsl)), none, []⟩, 
  ⟨(some (9)), .move (.const (.int .i64 0)), none, []⟩, 
  ⟨(some (10)), .move (.tmp 33), none, []⟩]
def k_ref03_Shortest_r7 : List AOper := [
  ⟨(some (34)), .move (.tmp 2), none, []⟩, 
  ⟨(some (35)), .move (.tmp 3), none, []⟩, 
  ⟨(some (36)), .call (.const (.fn (.func 101) [] [])) [.tmp 34, .tmp 35], none, []⟩, 
  ⟨(some (13)), .move (.tmp 36), none, []⟩]
def k_ref03_Shortest_r8 : List AOper := [
  ⟨(some (37)), .move (.tmp 13), none, []⟩, 
  ⟨(some (38)), .bin .plain .neq (.tmp 37) (.const (.int .i64 0)), none, []⟩]
def k_ref03_Shortest_r9 : List AOper := [
  ⟨(some (39)), .move (.tmp 13), none, []⟩, 
  ⟨(some (8)), .move (.const (.nilsl)), none, []⟩, 
  ⟨(some (9)), .move (.const (.int .i64 0)), none, []⟩, 
  ⟨(some (10)), .move (.tmp 39), none, []⟩]
def k_ref03_Shortest_r10 : List AOper := [
  ⟨(some (14)), .move (.const (.nilsl)), none, []⟩]
def k_ref03_Shortest_r11 : List AOper := [
  ⟨(some (15)), .move (.const (.int .i64 0)), none, []⟩]
def k_ref03_Shortest_r12 : List AOper := [
  ⟨(some (16)), .move (.const (.int .i64 1)), none, []⟩]
def k_ref03_Shortest_r13 : List AOper := [
  ⟨(some (40)), .move (.tmp 16), none, []⟩, 
  ⟨(some (41)), .move (.tmp 3), none, []⟩, 
  ⟨(some (42)), .bin .plain .leq (.tmp 40) (.tmp 41), none, []⟩]
def k_ref03_Shortest_r14 : List AOper := [
  ⟨(some (45)), .move (.tmp 16), none, []⟩, 
  ⟨(some (46)), .move (.tmp 2), none, []⟩, 
  ⟨(some (47)), .len false (.tmp 46), none, []⟩, 
  ⟨(some (48)), .call (.const (.fn (.func 102) [] [])) [.tmp 45, .tmp 47], none, []⟩, 
  ⟨(some (17)), .move (.tmp 48), none, []⟩]
def k_ref03_Shortest_r15 : List AOper := [
  ⟨(some (18)), .move (.const (.int .i64 0)), none, []⟩]
def k_ref03_Shortest_r16 : List AOper := [
  ⟨(some (49)), .move (.tmp 18), none, []⟩, 
  ⟨(some (50)), .move (.tmp 17), none, []⟩, 
  ⟨(some (51)), .len false (.tmp 50), none, []⟩, 
  ⟨(some (52)), .bin .plain .lss (.tmp 49) (.tmp 51), none, []⟩]
def k_ref03_Shortest_r17 : List AOper := [
  ⟨(some (19)), .move (.const (.nilsl)), none, []⟩]
def k_ref03_Shortest_r18 : List AOper := [
  ⟨(some (20)), .move (.const (.int .i64 0)), none, []⟩]
def k_ref03_Shortest_r19 : List AOper := [
  ⟨(some (21)), .move (.const (.int .i64 0)), none, []⟩]
def k_ref03_Shortest_r20 : List AOper := [
  ⟨(some (55)), .move (.tmp 21), none, []⟩, 
  ⟨(some (56)), .move (.tmp 16), none, []⟩, 
  ⟨(some (57)), .bin .plain .lss (.tmp 55) (.tmp 56), none, []⟩]
def k_ref03_Shortest_r21 : List AOper := [
  ⟨(some (60)), .move (.tmp 19), none, []⟩, 
  ⟨(some (61)), .move (.tmp 2), none, []⟩, 
  ⟨(some (62)), .move (.tmp 17), none, []⟩, 
  ⟨(some (63)), .move (.tmp 18), none, []⟩, 
  ⟨(some (64)), .indexAddr 1 (.tmp 62) (.tmp 63), none, []⟩, 
  ⟨(some (65)), .load none (.tmp 64), none, []⟩, 
  ⟨(some (66)), .move (.tmp 21), none, []⟩, 
  ⟨(some (67)), .indexAddr 1 (.tmp 65) (.tmp 66), none, []⟩, 
  ⟨(some (68)), .load none (.tmp 67), none, []⟩, 
  ⟨(some (69)), .indexAddr 3 (.tmp 61) (.tmp 68), none, []⟩, 
  ⟨(some (70)), .load (some (3)) (.tmp 69), none, []⟩, 
  ⟨(some (71)), .buildSlice 3 [.tmp 70], none, []⟩, 
  ⟨(some (72)), .append 3 24 true (.tmp 60) (.tmp 71), none, []⟩, 
  ⟨(some (19)), .move (.tmp 72), none, []⟩]
def k_ref03_Shortest_r22 : List AOper := [
  ⟨(some (73)), .move (.tmp 20), none, []⟩, 
  ⟨(some (74)), .move (.tmp 2), none, []⟩, 
  ⟨(some (75)), .move (.tmp 17), none, []⟩, 
  ⟨(some (76)), .move (.tmp 18), none, []⟩, 
  ⟨(some (77)), .indexAddr 1 (.tmp 75) (.tmp 76), none, []⟩, 
  ⟨(some (78)), .load none (.tmp 77), none, []⟩, 
  ⟨(some (79)), .move (.tmp 21), none, []⟩, 
  ⟨(some (80)), .indexAddr 1 (.tmp 78) (.tmp 79), none, []⟩, 
  ⟨(some (81)), .load none (.tmp 80), none, []⟩, 
  ⟨(some (82)), .indexAddr 3 (.tmp 74) (.tmp 81), none, []⟩, 
  ⟨(some (83)), .fieldAddr 0 (.tmp 82), none, []⟩, 
  ⟨(some (84)), .load none (.tmp 83), none, []⟩, 
  ⟨(some (85)), .bin .plain .add (.tmp 73) (.tmp 84), none, []⟩, 
  ⟨(some (20)), .move (.tmp 85), none, []⟩]
def k_ref03_Shortest_r23 : List AOper := [
  ⟨(some (58)), .move (.tmp 21), none, []⟩, 
  ⟨(some (59)), .bin .plain .add (.tmp 58) (.const (.int .i64 1)), none, []⟩, 
  ⟨(some (21)), .move (.tmp 59), none, []⟩]
def k_ref03_Shortest_r24 : ACode := (.seq (.seq (.reg k_ref03_Shortest_r20 false) (.cond (.tmp 57) .skip (.exit 4))) (.seq (.block 5 (.seq (.reg k_ref03_Shortest_r21 false) (.reg k_ref03_Shortest_r22 false))) (.reg k_ref03_Shortest_r23 false)))
def k_ref03_Shortest_r25 : List AOper := [
  ⟨(some (86)), .move (.tmp 14), none, []⟩, 
  ⟨(some (87)), .len false (.tmp 86), none, []⟩, 
  ⟨(some (88)), .bin .plain .gtr (.tmp 87) (.const (.int .i64 0)), none, []⟩, 
  ⟨(some (89)), .move (.tmp 88), none, []⟩, 
  ⟨(some (90)), .move (.tmp 20), (some (89, true)), []⟩, 
  ⟨(some (91)), .move (.tmp 15), (some (89, true)), []⟩, 
  ⟨(some (92)), .bin .plain .geq (.tmp 90) (.tmp 91), (some (89, true)), []⟩, 
  ⟨(some (93)), .pick (.tmp 89) (.tmp 92) (.const (.bool false)), none, []⟩]
def k_ref03_Shortest_r26 : List AOper := [
  ⟨(some (95)), .load (some (7)) (.tmp 4), none, []⟩, 
  ⟨(some (96)), .load (some (5)) (.tmp 5), none, []⟩, 
  ⟨(some (97)), .move (.tmp 19), none, []⟩, 
  ⟨(some (98)), .call (.const (.fn (.func 96) [] [])) [.tmp 95, .tmp 96, .tmp 97], none, []⟩, 
  ⟨(some (94)), .move (.tmp 98), none, []⟩, 
  ⟨(some (99)), .extract (.tmp 94) 0, none, []⟩, 
  ⟨(some (100)), .extract (.tmp 94) 1, none, []⟩, 
  ⟨(some (22)), .move (.tmp 99), none, []⟩, 
  ⟨(some (23)), .move (.tmp 100), none, []⟩]
def k_ref03_Shortest_r27 : List AOper := [
  ⟨(some (101)), .move (.tmp 22), none, []⟩, 
  ⟨(some (102)), .bin .plain .eql (.tmp 101) (.const (.int .i64 1)), none, []⟩]
def k_ref03_Shortest_r28 : List AOper := [
  ⟨(some (103)), .move (.tmp 17), none, []⟩, 
  ⟨(some (104)), .move (.tmp 18), none, []⟩, 
  ⟨(some (105)), .indexAddr 1 (.tmp 103) (.tmp 104), none, []⟩, 
  ⟨(some (106)), .load none (.tmp 105), none, []⟩, 
  ⟨(some (107)), .move (.tmp 20), none, []⟩, 
  ⟨(some (14)), .move (.tmp 106), none, []⟩, 
  ⟨(some (15)), .move (.tmp 107), none, []⟩]
def k_ref03_Shortest_r29 : List AOper := [
  ⟨(some (53)), .move (.tmp 18), none, []⟩, 
  ⟨(some (54)), .bin .plain .add (.tmp 53) (.const (.int .i64 1)), none, []⟩, 
  ⟨(some (18)), .move (.tmp 54), none, []⟩]
def k_ref03_Shortest_r30 : ACode := (.seq (.seq (.reg k_ref03_Shortest_r16 false) (.cond (.tmp 52) .skip (.exit 2))) (.seq (.block 3 (.seq (.reg k_ref03_Shortest_r17 false) (.seq (.reg k_ref03_Shortest_r18 false) (.seq (.seq (.reg k_ref03_Shortest_r19 false) (.block 4 (.loop k_ref03_Shortest_r24))) (.seq (.seq (.reg k_ref03_Shortest_r25 false) (.cond (.tmp 93) (.exit 3) .skip)) (.seq (.reg k_ref03_Shortest_r26 false) (.seq (.reg k_ref03_Shortest_r27 false) (.cond (.tmp 102) (.reg k_ref03_Shortest_r28 false) .skip)))))))) (.reg k_ref03_Shortest_r29 false)))
def k_ref03_Shortest_r31 : List AOper := [
  ⟨(some (43)), .move (.tmp 16), none, []⟩, 
  ⟨(some (44)), .bin .plain .add (.tmp 43) (.const (.int .i64 1)), none, []⟩, 
  ⟨(some (16)), .move (.tmp 44), none, []⟩]
def k_ref03_Shortest_r32 : ACode := (.seq (.seq (.reg k_ref03_Shortest_r13 false) (.cond (.tmp 42) .skip (.exit 0))) (.seq (.block 1 (.seq (.reg k_ref03_Shortest_r14 false) (.seq (.reg k_ref03_Shortest_r15 false) (.block 2 (.loop k_ref03_Shortest_r30))))) (.reg k_ref03_Shortest_r31 false)))
def k_ref03_Shortest_r33 : List AOper := [
  ⟨(some (108)), .move (.tmp 14), none, []⟩, 
  ⟨(some (109)), .len false (.tmp 108), none, []⟩, 
  ⟨(some (110)), .bin .plain .eql (.tmp 109) (.const (.int .i64 0)), none, []⟩]
def k_ref03_Shortest_r34 : List AOper := [
  ⟨(some (8)), .move (.const (.nilsl)), none, []⟩, 
  ⟨(some (9)), .move (.const (.int .i64 0)), none, []⟩, 
  ⟨(some (10)), .move (.const (.int .i64 7)), none, []⟩]
def k_ref03_Shortest_r35 : List AOper := [
  ⟨(some (111)), .move (.tmp 14), none, []⟩, 
  ⟨(some (112)), .move (.tmp 15), none, []⟩, 
  ⟨(some (8)), .move (.tmp 111), none, []⟩, 
  ⟨(some (9)), .move (.tmp 112), none, []⟩, 
  ⟨(some (10)), .move (.const (.int .i64 0)), none, []⟩]
def k_ref03_Shortest : AFun := { params := 4, ntmps := 113, body := (.seq (.reg k_ref03_Shortest_r0 false) (.seq (.seq (.reg k_ref03_Shortest_r1 false) (.seq (.reg k_ref03_Shortest_r2 false) (.cond (.tmp 27) (.seq (.reg k_ref03_Shortest_r3 false) .ret) .skip))) (.seq (.seq (.reg k_ref03_Shortest_r4 false) (.seq (.reg k_ref03_Shortest_r5 false) (.cond (.tmp 32) (.seq (.reg k_ref03_Shortest_r6 false) .ret) .skip))) (.seq (.seq (.reg k_ref03_Shortest_r7 false) (.seq (.reg k_ref03_Shortest_r8 false) (.cond (.tmp 38) (.seq (.reg k_ref03_Shortest_r9 false) .ret) .skip))) (.seq (.reg k_ref03_Shortest_r10 false) (.seq (.reg k_ref03_Shortest_r11 false) (.seq (.seq (.reg k_ref03_Shortest_r12 false) (.block 0 (.loop k_ref03_Shortest_r32))) (.seq (.seq (.reg k_ref03_Shortest_r33 false) (.cond (.tmp 110) (.seq (.reg k_ref03_Shortest_r34 false) .ret) .skip)) (.seq (.reg k_ref03_Shortest_r35 false) .ret))))))))), res := [.tmp 8, .tmp 9, .tmp 10] }
theorem k_ref03_Shortest_ok : cfun Try.prog Try.f49 = k_ref03_Shortest := by kernel_rfl

def k_ref03_checkMenu_r0 : List AOper := [
  ⟨(some (4)), .move (.const (.int .i64 0)), none, []⟩]
def k_ref03_checkMenu_r1 : List AOper := [
  ⟨(some (7)), .move (.tmp 0), none, []⟩, 
  ⟨(some (8)), .len false (.tmp 7), none, []⟩, 
  ⟨(some (9)), .bin .plain .eql (.tmp 8) (.const (.int .i64 0)), none, []⟩]
def k_ref03_checkMenu_r2 : List AOper := [
  ⟨(some (4)), .move (.const (.int .i64 6)), none, []⟩]
def k_ref03_checkMenu_r3 : List AOper := [
  ⟨(some (10)), .move (.tmp 0), none, []⟩, 
  ⟨(some (11)), .len false (.tmp 10), none, []⟩, 
  ⟨(some (12)), .bin .plain .gtr (.tmp 11) (.const (.int .i64 4)), none, []⟩]
def k_ref03_checkMenu_r4 : List AOper := [
  ⟨(some (4)), .move (.const (.int .i64 8)), none, []⟩]
def k_ref03_checkMenu_r5 : List AOper := [
  ⟨(some (13)), .move (.tmp 0), none, []⟩, 
  ⟨(some (14)), .call (.const (.fn (.func 30) [] [])) [.tmp 13], none, []⟩, 
  ⟨(some (5)), .move (.tmp 14), none, []⟩]
def k_ref03_checkMenu_r6 : List AOper := [
  ⟨(some (15)), .move (.tmp 5), none, []⟩, 
  ⟨(some (16)), .bin .plain .neq (.tmp 15) (.const (.int .i64 0)), none, []⟩]
def k_ref03_checkMenu_r7 : List AOper := [
  ⟨(some (17)), .move (.tmp 5), none, []⟩, 
  ⟨(some (4)), .move (.tmp 17), none, []⟩]
def k_ref03_checkMenu_r8 : List AOper := [
  ⟨(some (6)), .move (.const (.int .i64 0)), none, []⟩]
def k_ref03_checkMenu_r9 : List AOper := [
  ⟨(some (18)), .move (.tmp 6), none, []⟩, 
  ⟨(some (19)), .move (.tmp 0), none, []⟩, 
  ⟨(some (20)), .len false (.tmp 19), none, []⟩, 
  ⟨(some (21)), .bin .plain .lss (.tmp 18) (.tmp 20), none, []⟩]
def k_ref03_checkMenu_r10 : List AOper := [
  ⟨(some (24)), .move (.tmp 0), none, []⟩, 
  ⟨(some (25)), .move (.tmp 6), none, []⟩, 
  ⟨(some (26)), .indexAddr 3 (.tmp 24) (.tmp 25), none, []⟩, 
  ⟨(some (27)), .fieldAddr 0 (.tmp 26), none, []⟩, 
  ⟨(some (28)), .load none (.tmp 27), none, []⟩, 
  ⟨(some (29)), .bin .plain .gtr (.tmp 28) (.const (.int .i64 100)), none, []⟩]
def k_ref03_checkMenu_r11 : List AOper := [
  ⟨(some (4)), .move (.const (.int .i64 2)), none, []⟩]
def k_ref03_checkMenu_r12 : List AOper := [
  ⟨(some (22)), .move (.tmp 6), none, []⟩, 
  ⟨(some (23)), .bin .plain .add (.tmp 22) (.const (.int .i64 1)), none, []⟩, 
  ⟨(some (6)), .move (.tmp 23), none, []⟩]
def k_ref03_checkMenu_r13 : ACode := (.seq (.seq (.reg k_ref03_checkMenu_r9 false) (.cond (.tmp 21) .skip (.exit 0))) (.seq (.block 1 (.seq (.reg k_ref03_checkMenu_r10 false) (.cond (.tmp 29) (.seq (.reg k_ref03_checkMenu_r11 false) .ret) .skip))) (.reg k_ref03_checkMenu_r12 false)))
def k_ref03_checkMenu_r14 : List AOper := [
  ⟨(some (30)), .move (.tmp 1), none, []⟩, 
  ⟨(some (31)), .call (.const (.fn (.func 69) [] [])) [.tmp 30, .const (.int .i64 1), .const (.int .i64 5)], none, []⟩]
def k_ref03_checkMenu_r15 : List AOper := [
  ⟨(some (4)), .move (.const (.int .i64 2)), none, []⟩]
def k_ref03_checkMenu_r16 : List AOper := [
  ⟨(some (4)), .move (.const (.int .i64 0)), none, []⟩]
def k_ref03_checkMenu : AFun := { params := 2, ntmps := 32, body := (.seq (.reg k_ref03_checkMenu_r0 false) (.seq (.seq (.reg k_ref03_checkMenu_r1 false) (.cond (.tmp 9) (.seq (.reg k_ref03_checkMenu_r2 false) .ret) .skip)) (.seq (.seq (.reg k_ref03_checkMenu_r3 false) (.cond (.tmp 12) (.seq (.reg k_ref03_checkMenu_r4 false) .ret) .skip)) (.seq (.seq (.reg k_ref03_checkMenu_r5 false) (.seq (.reg k_ref03_checkMenu_r6 false) (.cond (.tmp 16) (.seq (.reg k_ref03_checkMenu_r7 false) .ret) .skip))) (.seq (.seq (.reg k_ref03_checkMenu_r8 false) (.block 0 (.loop k_ref03_checkMenu_r13))) (.seq (.seq (.reg k_ref03_checkMenu_r14 false) (.cond (.tmp 31) (.seq (.reg k_ref03_checkMenu_r15 false) .ret) .skip)) (.seq (.reg k_ref03_checkMenu_r16 false) .ret))))))), res := [.tmp 4] }
theorem k_ref03_checkMenu_ok : cfun Try.prog Try.f101 = k_ref03_checkMenu := by kernel_rfl

def k_ref03_lists_r0 : List AOper := [
  ⟨(some (4)), .move (.const (.nilsl)), none, []⟩]
def k_ref03_lists_r1 : List AOper := [
  ⟨(some (9)), .move (.tmp 0), none, []⟩, 
  ⟨(some (10)), .bin .plain .eql (.tmp 9) (.const (.int .i64 0)), none, []⟩]
def k_ref03_lists_r2 : List AOper := [
  ⟨(some (11)), .buildSlice 1 [.const (.nilsl)], none, []⟩, 
  ⟨(some (4)), .move (.tmp 11), none, []⟩]
def k_ref03_lists_r3 : List AOper := [
  ⟨(some (5)), .move (.const (.nilsl)), none, []⟩]
def k_ref03_lists_r4 : List AOper := [
  ⟨(some (12)), .move (.tmp 0), none, []⟩, 
  ⟨(some (13)), .bin .plain .sub (.tmp 12) (.const (.int .i64 1)), none, []⟩, 
  ⟨(some (14)), .move (.tmp 1), none, []⟩, 
  ⟨(some (15)), .call (.const (.fn (.func 102) [] [])) [.tmp 13, .tmp 14], none, []⟩, 
  ⟨(some (6)), .move (.tmp 15), none, []⟩]
def k_ref03_lists_r5 : List AOper := [
  ⟨(some (7)), .move (.const (.int .i64 0)), none, []⟩]
def k_ref03_lists_r6 : List AOper := [
  ⟨(some (16)), .move (.tmp 7), none, []⟩, 
  ⟨(some (17)), .move (.tmp 1), none, []⟩, 
  ⟨(some (18)), .bin .plain .lss (.tmp 16) (.tmp 17), none, []⟩]
def k_ref03_lists_r7 : List AOper := [
  ⟨(some (8)), .move (.const (.int .i64 0)), none, []⟩]
def k_ref03_lists_r8 : List AOper := [
  ⟨(some (21)), .move (.tmp 8), none, []⟩, 
  ⟨(some (22)), .move (.tmp 6), none, []⟩, 
  ⟨(some (23)), .len false (.tmp 22), none, []⟩, 
  ⟨(some (24)), .bin .plain .lss (.tmp 21) (.tmp 23), none, []⟩]
def k_ref03_lists_r9 : List AOper := [
  ⟨(some (27)), .move (.tmp 5), none, []⟩, 
  ⟨(some (28)), .move (.tmp 7), none, []⟩, 
  ⟨(some (29)), .buildSlice 1 [.tmp 28], none, []⟩, 
  ⟨(some (30)), .move (.tmp 6), none, []⟩, 
  ⟨(some (31)), .move (.tmp 8), none, []⟩, 
  ⟨(some (32)), .indexAddr 1 (.tmp 30) (.tmp 31), none, []⟩, 
  ⟨(some (33)), .load none (.tmp 32), none, []⟩, 
  ⟨(some (34)), .append 1 8 false (.tmp 29) (.tmp 33), none, []⟩, 
  ⟨(some (35)), .buildSlice 1 [.tmp 34], none, []⟩, 
  ⟨(some (36)), .append 1 24 false (.tmp 27) (.tmp 35), none, []⟩, 
  ⟨(some (5)), .move (.tmp 36), none, []⟩]
def k_ref03_lists_r10 : List AOper := [
  ⟨(some (25)), .move (.tmp 8), none, []⟩, 
  ⟨(some (26)), .bin .plain .add (.tmp 25) (.const (.int .i64 1)), none, []⟩, 
  ⟨(some (8)), .move (.tmp 26), none, []⟩]
def k_ref03_lists_r11 : ACode := (.seq (.seq (.reg k_ref03_lists_r8 false) (.cond (.tmp 24) .skip (.exit 2))) (.seq (.block 3 (.reg k_ref03_lists_r9 false)) (.reg k_ref03_lists_r10 false)))
def k_ref03_lists_r12 : List AOper := [
  ⟨(some (19)), .move (.tmp 7), none, []⟩, 
  ⟨(some (20)), .bin .plain .add (.tmp 19) (.const (.int .i64 1)), none, []⟩, 
  ⟨(some (7)), .move (.tmp 20), none, []⟩]
def k_ref03_lists_r13 : ACode := (.seq (.seq (.reg k_ref03_lists_r6 false) (.cond (.tmp 18) .skip (.exit 0))) (.seq (.block 1 (.seq (.reg k_ref03_lists_r7 false) (.block 2 (.loop k_ref03_lists_r11)))) (.reg k_ref03_lists_r12 false)))
def k_ref03_lists_r14 : List AOper := [
  ⟨(some (37)), .move (.tmp 5), none, []⟩, 
  ⟨(some (4)), .move (.tmp 37), none, []⟩]
def k_ref03_lists : AFun := { params := 2, ntmps := 38, body := (.seq (.reg k_ref03_lists_r0 false) (.seq (.seq (.reg k_ref03_lists_r1 false) (.cond (.tmp 10) (.seq (.reg k_ref03_lists_r2 false) .ret) .skip)) (.seq (.reg k_ref03_lists_r3 false) (.seq (.reg k_ref03_lists_r4 false) (.seq (.seq (.reg k_ref03_lists_r5 false) (.block 0 (.loop k_ref03_lists_r13))) (.seq (.reg k_ref03_lists_r14 false) .ret)))))), res := [.tmp 4] }
theorem k_ref03_lists_ok : cfun Try.prog Try.f102 = k_ref03_lists := by kernel_rfl


abbrev n_law03_CathodeShortest : Nat := 8
theorem e_law03_CathodeShortest : EntryOK Try.prog n_law03_CathodeShortest k_law03_CathodeShortest := ⟨Try.f8, Try.func8, k_law03_CathodeShortest_ok, by kernel_rfl⟩
abbrev n_ref03_Shortest : Nat := 49
theorem e_ref03_Shortest : EntryOK Try.prog n_ref03_Shortest k_ref03_Shortest := ⟨Try.f49, Try.func49, k_ref03_Shortest_ok, by kernel_rfl⟩
abbrev n_ref03_checkMenu : Nat := 101
theorem e_ref03_checkMenu : EntryOK Try.prog n_ref03_checkMenu k_ref03_checkMenu := ⟨Try.f101, Try.func101, k_ref03_checkMenu_ok, by kernel_rfl⟩
abbrev n_ref03_lists : Nat := 102
theorem e_ref03_lists : EntryOK Try.prog n_ref03_lists k_ref03_lists := ⟨Try.f102, Try.func102, k_ref03_lists_ok, by kernel_rfl⟩

attribute [go_sem] k_law03_CathodeShortest_r0 k_law03_CathodeShortest_r1 k_law03_CathodeShortest_r2 k_law03_CathodeShortest_r3 k_law03_CathodeShortest_r4 k_law03_CathodeShortest_r5s k_law03_CathodeShortest_r6 k_law03_CathodeShortest_r7 k_law03_CathodeShortest_r8 k_law03_CathodeShortest_r9 k_law03_CathodeShortest_r10 k_law03_CathodeShortest_r11
attribute [go_sem] k_law03_CathodeShortest_r12 k_law03_CathodeShortest_r13 k_ref03_Shortest_r0 k_ref03_Shortest_r1 k_ref03_Shortest_r2 k_ref03_Shortest_r3 k_ref03_Shortest_r4 k_ref03_Shortest_r5 k_ref03_Shortest_r6 k_ref03_Shortest_r7 k_ref03_Shortest_r8 k_ref03_Shortest_r9
attribute [go_sem] k_ref03_Shortest_r10 k_ref03_Shortest_r11 k_ref03_Shortest_r12 k_ref03_Shortest_r13 k_ref03_Shortest_r14 k_ref03_Shortest_r15 k_ref03_Shortest_r16 k_ref03_Shortest_r17 k_ref03_Shortest_r18 k_ref03_Shortest_r19 k_ref03_Shortest_r20 k_ref03_Shortest_r21
attribute [go_sem] k_ref03_Shortest_r22 k_ref03_Shortest_r23 k_ref03_Shortest_r25 k_ref03_Shortest_r26 k_ref03_Shortest_r27 k_ref03_Shortest_r28 k_ref03_Shortest_r29 k_ref03_Shortest_r31 k_ref03_Shortest_r33 k_ref03_Shortest_r34 k_ref03_Shortest_r35 k_ref03_checkMenu_r0
attribute [go_sem] k_ref03_checkMenu_r1 k_ref03_checkMenu_r2 k_ref03_checkMenu_r3 k_ref03_checkMenu_r4 k_ref03_checkMenu_r5 k_ref03_checkMenu_r6 k_ref03_checkMenu_r7 k_ref03_checkMenu_r8 k_ref03_checkMenu_r9 k_ref03_checkMenu_r10 k_ref03_checkMenu_r11 k_ref03_checkMenu_r12
attribute [go_sem] k_ref03_checkMenu_r14 k_ref03_checkMenu_r15 k_ref03_checkMenu_r16 k_ref03_lists_r0 k_ref03_lists_r1 k_ref03_lists_r2 k_ref03_lists_r3 k_ref03_lists_r4 k_ref03_lists_r5 k_ref03_lists_r6 k_ref03_lists_r7 k_ref03_lists_r8
attribute [go_sem] k_ref03_lists_r9 k_ref03_lists_r10 k_ref03_lists_r12 k_ref03_lists_r14 k_law03_CathodeShortest_r5_sg k_law03_CathodeShortest_r5_st k_law03_CathodeShortest k_ref03_Shortest k_ref03_checkMenu k_ref03_lists
end Go.Proofs

namespace Go.Proofs
open Go Go.Sx

def Dr (w : Int) : Row := .cells false 1 [.agg [.int .u64 w]]
def dstep (w : Int) : Int := IntKind.u64.wrap (w + 11400714819323198485)
def dmix (w : Int) : Int :=
  let z := IntKind.u64.wrap (bitW .xor .u64 w (shrW .u64 w 30) * 13787848793156543929)
  let z := IntKind.u64.wrap (bitW .xor .u64 z (shrW .u64 z 27) * 10723151780598845931)
  bitW .xor .u64 z (shrW .u64 z 31)

theorem dr_bel (w : Int) (S : Nat → Prop) : (Dr w).bel S := by unfold Dr; rw [row_bel_cells]; simp only [go_sem]

theorem bitW_u64 (op : BinOp) (a b : Int) : 0 ≤ bitW op .u64 a b ∧ bitW op .u64 a b ≤ 18446744073709551615 := by
  have hw : ∀ n : Int, 0 ≤ IntKind.u64.wrap n ∧ IntKind.u64.wrap n ≤ 18446744073709551615 := fun n => by simp only [IntKind.wrap, IntKind.bits, IntKind.signed, Bool.false_and, Bool.false_eq_true, if_false]; omega
  unfold bitW bitsOf
  cases op <;> simp only [Option.getD_some, Option.getD_none] <;> first
    | exact hw _
    | omega

def upto (w n : Int) : Int := if n < 1 then 0 else (dmix (dstep w)) % n
theorem upto_in {w n : Int} (h : 1 ≤ n) : 0 ≤ upto w n ∧ upto w n < n := by
  unfold upto
  rw [if_neg (by omega)]
  exact ⟨Int.emod_nonneg _ (by omega), Int.emod_lt_of_pos _ (by omega)⟩
def btw (w lo hi : Int) : Int := lo + upto w (hi - lo + 1)
theorem btw_in {w lo hi : Int} (h : lo ≤ hi) : lo ≤ btw w lo hi ∧ btw w lo hi ≤ hi := by
  have := upto_in (w := w) (n := hi - lo + 1) (by omega)
  unfold btw; omega

def feed (w : Int) : List Int → Int
  | [] => w
  | x :: xs => feed (dstep (bitW .xor .u64 w (IntKind.u64.wrap x))) xs
def seedW (xs : List Int) : Int := feed (IntKind.u64.wrap (IntKind.u64.wrap xs.length + 1374496523)) xs

structure Rg where
  lo : Int
  hi : Int
  deriving Inhabited, DecidableEq

def Rg.v (r : Rg) : AVal := .agg [.int .i64 r.lo, .int .i64 r.hi]
@[go_sem] theorem rg_bel_eq (r : Rg) (S : Nat → Prop) : Bel S r.v = True := by unfold Rg.v; simp only [go_sem]
@[go_sem] theorem rg_nv (r : Rg) : NV r.v = True := by unfold Rg.v; simp only [go_sem]
@[go_sem] theorem dr_bel_eq (w : Int) (S : Nat → Prop) : (Dr w).bel S = True := eq_true (dr_bel w S)
theorem w64 {n : Int} (h : -9223372036854775808 ≤ n ∧ n ≤ 9223372036854775807) : IntKind.i64.wrap n = n := IntWalk.i64_in _ h
end Go.Proofs

namespace Go.Proofs
open Go Go.Sx

theorem next_ok (w : Int) : Ans Try.prog n_kit_Dice_next [.ptr 0 0 0 1] [some (Dr w)] (.int .u64 (dmix (dstep w))) [some (Dr (dstep w))] := by
  refine spec_run e_kit_Dice_next fun G => ?_
  simp only [go_sem, Dr, dmix, dstep]
  exact ⟨_, rfl⟩

theorem upto_ok (w n : Int) (hn : n ≤ 9223372036854775807) : Ans Try.prog n_kit_Dice_Upto [.ptr 0 0 0 1, .int .i64 n] [some (Dr w)] (.int .i64 (upto w n)) [some (Dr (dstep w))] := by
  refine spec_run e_kit_Dice_Upto fun G => ?_
  simp only [go_sem]
  refine callD (next_ok w) rfl trivial (.int _ _) (dr_bel _ _) (dr_bel _ _) (by simp) (by simp) ?_
  simp only [go_sem]
  refine ⟨fun h => ⟨by simp [upto, h], by simp⟩, fun h => ?_⟩
  have hm : 0 ≤ dmix (dstep w) := (bitW_u64 _ _ _).1
  have h1 : IntKind.u64.wrap n = n := IntWalk.u64_in n (by omega)
  have h2 : (dmix (dstep w)).tmod n = dmix (dstep w) % n := Int.tmod_eq_emod_of_nonneg hm
  have h3 := Int.emod_nonneg (dmix (dstep w)) (show n ≠ 0 by omega)
  have h4 := Int.emod_lt_of_pos (dmix (dstep w)) (show 0 < n by omega)
  rw [h1, h2, IntWalk.i64_in _ (by omega)]
  refine ⟨by omega, by rw [upto, if_neg h], _, rfl⟩

theorem between_ok (w lo hi : Int) (h1 : -1152921504606846976 ≤ lo) (h2 : lo ≤ hi) (h3 : hi ≤ 1152921504606846976) : Ans Try.prog n_kit_Dice_Between [.ptr 0 0 0 1, .int .i64 lo, .int .i64 hi] [some (Dr w)] (.int .i64 (btw w lo hi)) [some (Dr (dstep w))] := by
  refine spec_run e_kit_Dice_Between fun G => ?_
  simp only [go_sem]
  rw [IntWalk.i64_in (hi - lo) (by omega), IntWalk.i64_in (hi - lo + 1) (by omega)]
  refine callD (upto_ok w _ (by omega)) rfl ⟨.int _ _, trivial⟩ (.int _ _) (dr_bel _ _) (dr_bel _ _) (by simp) (by simp) ?_
  have := btw_in (w := w) h2
  unfold btw at this
  simp only [go_sem]
  rw [IntWalk.i64_in _ (by omega)]
  exact ⟨rfl, _, rfl⟩

theorem newdice_ok (xs : List Int) (hl : xs.length ≤ 9223372036854775807) : Ans Try.prog n_kit_NewDice [.view (xs.map (.int .i64))] [] (.ptr 0 0 0 1) [some (Dr (seedW xs))] := by
  unfold seedW
  refine spec_run e_kit_NewDice fun G => ?_
  simp only [go_sem]
  have key : ∀ (zs : List Int) (i : Nat) (w : Int), xs.drop i = zs → i ≤ xs.length →
      Sx.Loop Try.prog G 0 none k_kit_NewDice_r7 [.blk 0, .seq (.seq (.reg k_kit_NewDice_r8 false) .ret)] ⟨[.view (xs.map (.int .i64)), .any, .nilptr, .ptr 0 0 0 1, .int .i64 i] ++ List.replicate 28 .any, [some (Dr w)], []⟩
        (RetPost [ARes.tmp 2] fun v H' => v = .ptr 0 0 0 1 ∧ ∃ X, H' = some (Dr (feed w zs)) :: X) := by
    intro zs
    induction zs with
    | nil =>
      intro i w hd hi
      have : xs.length ≤ i := by simpa using hd
      have h1 : ¬ (i : Int) < xs.length := by omega
      refine loop_body 200 k_kit_NewDice_r7.eq_1 ?_
      simp only [go_sem, h1, feed]
      exact ⟨_, rfl⟩
    | cons z zs ih =>
      intro i w hd hi
      have hx : xs[i]? = some z := by have := congrArg (·[0]?) hd; simpa using this
      have h1 : i < xs.length := (List.getElem?_eq_some_iff.1 hx).1
      have h2 : (i : Int) < xs.length := by omega
      have h3 : IntKind.i64.wrap ((i : Int) + 1) = ((i + 1 : Nat) : Int) := by rw [IntWalk.i64_in _ (by omega)]; rfl
      have hd' : xs.drop (i + 1) = zs := by have := congrArg (List.drop 1) hd; simpa [Nat.add_comm] using this
      refine loop_body 200 k_kit_NewDice_r7.eq_1 ?_
      simp only [go_sem, hx, h2, Dr]
      refine callD (next_ok _) rfl trivial (.int _ _) (dr_bel _ _) (dr_bel _ _) (by simp) (by simp) ?_
      simp only [go_sem, h3]
      refine loop_wk ?_ (ih (i + 1) _ hd' h1)
      simp [Wk]
  refine loop_wk ?_ (key xs 0 _ rfl (Nat.zero_le _))
  simp [Wk]

theorem mod_ok (a b : Int) (hb : b ≤ 9223372036854775807) : Ans Try.prog n_kit_Mod [.int .i64 a, .int .i64 b] [] (.int .i64 (if b < 1 then 0 else a % b)) [] := by
  refine spec_run e_kit_Mod fun G => ?_
  simp only [go_sem]
  refine ⟨fun h => by simp [h], fun h => ?_⟩
  have e := Int.tmod_eq_emod (a := a) (b := b)
  have h1 := Int.emod_nonneg a (show b ≠ 0 by omega)
  have h2 := Int.emod_lt_of_pos a (show 0 < b by omega)
  rw [if_neg h]
  generalize a % b = m at *
  generalize a.tmod b = t at *
  refine ⟨by omega, fun h3 => ?_, fun h3 => ?_⟩
  · rw [IntWalk.i64_in _ (by split at e <;> omega)]
    split at e <;> omega
  · split at e <;> omega

theorem mod_pos (a b : Int) (hb : 1 ≤ b ∧ b ≤ 9223372036854775807) : Ans Try.prog n_kit_Mod [.int .i64 a, .int .i64 b] [] (.int .i64 (a % b)) [] := by
  have h := mod_ok a b hb.2
  rwa [if_neg (by omega)] at h
end Go.Proofs

