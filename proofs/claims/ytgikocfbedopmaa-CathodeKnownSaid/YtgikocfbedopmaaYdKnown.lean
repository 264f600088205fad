/- The compiled code of functions of the program. -/
import Derived.Test.YtgikocfbedopmaaYcCode
import Derived.Test.YtgikocfbedopmaaYdCode
namespace Go.Proofs
open Go Go.Sx

-- 9: thermion/thermionlaw03.CathodeKnown
def k_law03_CathodeKnown_r0 : List AOper := [
  ⟨(some (0)), .move (.const (.bool false)), none, []⟩]
def k_law03_CathodeKnown_r1 : List AOper := [
  ⟨(some (16)), .call (.const (.fn (.func 51) [] [])) [], none, []⟩, 
  ⟨(some (1)), .box (.const (.agg [.int .i64 0, .int .i64 0, .int .i64 0, .int .i64 0, .int .i64 0, .int .i64 0, .nilsl])), none, []⟩, 
  ⟨none, .store 7 (.tmp 1) (.tmp 16), none, []⟩]
def k_law03_CathodeKnown_r2 : List AOper := [
  ⟨(some (2)), .box (.const (.agg [.int .i64 0, .int .i64 0, .int .i64 0, .int .i64 0, .int .i64 0, .int .i64 0, .nilsl, .int .i64 0, .int .i64 0, .int .i64 0, .int .i64 0, .int .i64 0, .int .i64 0, .nilsl, .int .i64 0, .int .i64 0, .int .i64 0, .int .i64 0, .int .i64 0, .int .i64 0, .nilsl, .int .i64 0, .int .i64 0, .int .i64 0, .int .i64 0, .int .i64 0, .int .i64 0, .nilsl])), none, []⟩]
def k_law03_CathodeKnown_r3 : List AOper := [
  ⟨(some (3)), .move (.const (.int .i64 0)), none, []⟩]
def k_law03_CathodeKnown_r4 : List AOper := [
  ⟨(some (17)), .move (.tmp 3), none, []⟩, 
  ⟨(some (18)), .bin .plain .lss (.tmp 17) (.const (.int .i64 4)), none, []⟩]
def k_law03_CathodeKnown_r5 : List AOper := [
  ⟨(some (21)), .move (.tmp 3), none, []⟩, 
  ⟨(some (22)), .call (.const (.fn (.func 51) [] [])) [], none, []⟩, 
  ⟨(some (23)), .indexArr 4 7 (.tmp 2) (.tmp 21), none, []⟩, 
  ⟨none, .store 7 (.tmp 23) (.tmp 22), none, []⟩]
def k_law03_CathodeKnown_r6 : List AOper := [
  ⟨(some (19)), .move (.tmp 3), none, []⟩, 
  ⟨(some (20)), .bin .plain .add (.tmp 19) (.const (.int .i64 1)), none, []⟩, 
  ⟨(some (3)), .move (.tmp 20), none, []⟩]
def k_law03_CathodeKnown_r7 : ACode := (.seq (.seq (.reg k_law03_CathodeKnown_r4 false) (.cond (.tmp 18) .skip (.exit 0))) (.seq (.block 1 (.reg k_law03_CathodeKnown_r5 false)) (.reg k_law03_CathodeKnown_r6 false)))
def k_law03_CathodeKnown_r8 : List AOper := [
  ⟨(some (24)), .indexArr 4 7 (.tmp 2) (.const (.int .i64 2)), none, []⟩, 
  ⟨(some (25)), .fieldAddr 6 (.tmp 24), none, []⟩, 
  ⟨(some (26)), .load none (.tmp 25), none, []⟩, 
  ⟨(some (27)), .call (.const (.fn (.func 52) [] [])) [.const (.int .i64 2), .const (.int .i64 1)], none, [0, 1, 2]⟩, 
  ⟨(some (28)), .indexArr 4 7 (.tmp 2) (.const (.int .i64 0)), none, []⟩, 
  ⟨(some (29)), .fieldAddr 0 (.tmp 28), none, []⟩, 
  ⟨none, .store 1 (.tmp 29) (.const (.int .i64 0)), none, []⟩, 
  ⟨(some (30)), .indexArr 4 7 (.tmp 2) (.const (.int .i64 1)), none, []⟩, 
  ⟨(some (31)), .fieldAddr 6 (.tmp 30), none, []⟩, 
  ⟨none, .store 1 (.tmp 31) (.const (.nilsl)), none, []⟩, 
  ⟨(some (32)), .indexAddr 9 (.tmp 26) (.const (.int .i64 0)), none, []⟩, 
  ⟨(some (33)), .fieldAddr 0 (.tmp 32), none, []⟩, 
  ⟨none, .store 1 (.tmp 33) (.const (.int .i64 5)), none, []⟩, 
  ⟨(some (34)), .indexArr 4 7 (.tmp 2) (.const (.int .i64 3)), none, []⟩, 
  ⟨(some (35)), .fieldAddr 2 (.tmp 34), none, []⟩, 
  ⟨none, .store 2 (.tmp 35) (.tmp 27), none, []⟩]
def k_law03_CathodeKnown_r8s : List (List AOper) := [
  [
  ⟨(some (24)), .indexArr 4 7 (.tmp 2) (.const (.int .i64 2)), none, []⟩, 
  ⟨(some (25)), .fieldAddr 6 (.tmp 24), none, []⟩, 
  ⟨(some (26)), .load none (.tmp 25), none, []⟩, 
  ⟨(some (27)), .call (.const (.fn (.func 52) [] [])) [.const (.int .i64 2), .const (.int .i64 1)], none, [0, 1, 2]⟩], 
  [
  ⟨(some (28)), .indexArr 4 7 (.tmp 2) (.const (.int .i64 0)), none, []⟩], 
  [
  ⟨(some (29)), .fieldAddr 0 (.tmp 28), none, []⟩], 
  [
  ⟨none, .store 1 (.tmp 29) (.const (.int .i64 0)), none, []⟩], 
  [
  ⟨(some (30)), .indexArr 4 7 (.tmp 2) (.const (.int .i64 1)), none, []⟩], 
  [
  ⟨(some (31)), .fieldAddr 6 (.tmp 30), none, []⟩], 
  [
  ⟨none, .store 1 (.tmp 31) (.const (.nilsl)), none, []⟩], 
  [
  ⟨(some (32)), .indexAddr 9 (.tmp 26) (.const (.int .i64 0)), none, []⟩], 
  [
  ⟨(some (33)), .fieldAddr 0 (.tmp 32), none, []⟩], 
  [
  ⟨none, .store 1 (.tmp 33) (.const (.int .i64 5)), none, []⟩], 
  [
  ⟨(some (34)), .indexArr 4 7 (.tmp 2) (.const (.int .i64 3)), none, []⟩], 
  [
  ⟨(some (35)), .fieldAddr 2 (.tmp 34), none, []⟩], 
  [
  ⟨none, .store 2 (.tmp 35) (.tmp 27), none, []⟩]]
theorem k_law03_CathodeKnown_r8_sg : segs k_law03_CathodeKnown_r8 = k_law03_CathodeKnown_r8s := by kernel_rfl
theorem k_law03_CathodeKnown_r8_st : statOK k_law03_CathodeKnown_r8 = true := by kernel_rfl
def k_law03_CathodeKnown_r9 : List AOper := [
  ⟨(some (36)), .call (.const (.fn (.func 18) [] [])) [], none, []⟩, 
  ⟨(some (37)), .not (.tmp 36), none, []⟩, 
  ⟨(some (38)), .move (.tmp 37), none, []⟩, 
  ⟨(some (39)), .load (some (7)) (.tmp 1), (some (38, false)), []⟩, 
  ⟨(some (40)), .call (.const (.fn (.func 25) [] [])) [.tmp 39], (some (38, false)), []⟩, 
  ⟨(some (41)), .bin .plain .neq (.tmp 40) (.const (.int .i64 0)), (some (38, false)), []⟩, 
  ⟨(some (42)), .pick (.tmp 38) (.const (.bool true)) (.tmp 41), none, []⟩, 
  ⟨(some (43)), .move (.tmp 42), none, []⟩, 
  ⟨(some (44)), .indexArr 4 7 (.tmp 2) (.const (.int .i64 0)), (some (43, false)), []⟩, 
  ⟨(some (45)), .load (some (7)) (.tmp 44), (some (43, false)), []⟩, 
  ⟨(some (46)), .call (.const (.fn (.func 25) [] [])) [.tmp 45], (some (43, false)), []⟩, 
  ⟨(some (47)), .bin .plain .neq (.tmp 46) (.const (.int .i64 2)), (some (43, false)), []⟩, 
  ⟨(some (48)), .pick (.tmp 43) (.const (.bool true)) (.tmp 47), none, []⟩, 
  ⟨(some (49)), .move (.tmp 48), none, []⟩, 
  ⟨(some (50)), .indexArr 4 7 (.tmp 2) (.const (.int .i64 1)), (some (49, false)), []⟩, 
  ⟨(some (51)), .load (some (7)) (.tmp 50), (some (49, false)), []⟩, 
  ⟨(some (52)), .call (.const (.fn (.func 25) [] [])) [.tmp 51], (some (49, false)), []⟩, 
  ⟨(some (53)), .bin .plain .neq (.tmp 52) (.const (.int .i64 6)), (some (49, false)), []⟩, 
  ⟨(some (54)), .pick (.tmp 49) (.const (.bool true)) (.tmp 53), none, []⟩, 
  ⟨(some (55)), .move (.tmp 54), none, []⟩, 
  ⟨(some (56)), .indexArr 4 7 (.tmp 2) (.const (.int .i64 2)), (some (55, false)), []⟩, 
  ⟨(some (57)), .load (some (7)) (.tmp 56), (some (55, false)), []⟩, 
  ⟨(some (58)), .call (.const (.fn (.func 25) [] [])) [.tmp 57], (some (55, false)), []⟩, 
  ⟨(some (59)), .bin .plain .neq (.tmp 58) (.const (.int .i64 11)), (some (55, false)), []⟩, 
  ⟨(some (60)), .pick (.tmp 55) (.const (.bool true)) (.tmp 59), none, []⟩, 
  ⟨(some (61)), .move (.tmp 60), none, []⟩, 
  ⟨(some (62)), .indexArr 4 7 (.tmp 2) (.const (.int .i64 3)), (some (61, false)), []⟩, 
  ⟨(some (63)), .load (some (7)) (.tmp 62), (some (61, false)), []⟩, 
  ⟨(some (64)), .call (.const (.fn (.func 25) [] [])) [.tmp 63], (some (61, false)), []⟩, 
  ⟨(some (65)), .bin .plain .neq (.tmp 64) (.const (.int .i64 11)), (some (61, false)), []⟩, 
  ⟨(some (66)), .pick (.tmp 61) (.const (.bool true)) (.tmp 65), none, []⟩]
def k_law03_CathodeKnown_r10 : List AOper := [
  ⟨(some (0)), .move (.const (.bool false)), none, []⟩]
def k_law03_CathodeKnown_r11 : List AOper := [
  ⟨(some (68)), .load (some (7)) (.tmp 1), none, []⟩, 
  ⟨(some (69)), .call (.const (.fn (.func 35) [] [])) [.tmp 68], none, []⟩, 
  ⟨(some (67)), .move (.tmp 69), none, []⟩, 
  ⟨(some (70)), .extract (.tmp 67) 0, none, []⟩, 
  ⟨(some (71)), .extract (.tmp 67) 1, none, []⟩, 
  ⟨(some (4)), .box (.const (.agg [.int .i64 0, .int .i64 0, .int .i64 0, .int .i64 0, .int .i64 0, .int .i64 0, .int .i64 0, .int .i64 0, .int .i64 0, .int .i64 0, .int .i64 0, .int .i64 0, .int .i64 0])), none, []⟩, 
  ⟨none, .store 13 (.tmp 4) (.tmp 70), none, []⟩, 
  ⟨(some (5)), .move (.tmp 71), none, []⟩]
def k_law03_CathodeKnown_r12 : List AOper := [
  ⟨(some (73)), .load (some (7)) (.tmp 1), none, []⟩, 
  ⟨(some (74)), .load (some (13)) (.tmp 4), none, []⟩, 
  ⟨(some (75)), .call (.const (.fn (.func 37) [] [])) [.tmp 73, .tmp 74, .const (.int .i64 1100), .const (.int .i64 0)], none, []⟩, 
  ⟨(some (72)), .move (.tmp 75), none, []⟩, 
  ⟨(some (76)), .extract (.tmp 72) 0, none, []⟩, 
  ⟨(some (77)), .extract (.tmp 72) 1, none, []⟩, 
  ⟨(some (6)), .box (.const (.agg [.int .i64 0, .int .i64 0, .int .i64 0, .int .i64 0, .int .i64 0, .int .i64 0, .int .i64 0, .int .i64 0, .int .i64 0, .int .i64 0, .int .i64 0, .int .i64 0, .int .i64 0])), none, []⟩, 
  ⟨none, .store 13 (.tmp 6) (.tmp 76), none, []⟩, 
  ⟨(some (7)), .move (.tmp 77), none, []⟩]
def k_law03_CathodeKnown_r13 : List AOper := [
  ⟨(some (78)), .move (.tmp 5), none, []⟩, 
  ⟨(some (79)), .bin .plain .neq (.tmp 78) (.const (.int .i64 0)), none, []⟩, 
  ⟨(some (80)), .move (.tmp 79), none, []⟩, 
  ⟨(some (81)), .move (.tmp 7), (some (80, false)), []⟩, 
  ⟨(some (82)), .bin .plain .neq (.tmp 81) (.const (.int .i64 0)), (some (80, false)), []⟩, 
  ⟨(some (83)), .pick (.tmp 80) (.const (.bool true)) (.tmp 82), none, []⟩, 
  ⟨(some (84)), .move (.tmp 83), none, []⟩, 
  ⟨(some (85)), .load (some (13)) (.tmp 4), (some (84, false)), []⟩, 
  ⟨(some (86)), .call (.const (.fn (.func 52) [] [])) [.const (.int .i64 1000), .const (.int .i64 1000)], (some (84, false)), [7]⟩, 
  ⟨(some (87)), .build [.int .i64 0, .int .i64 0, .int .i64 0, .int .i64 0, .int .i64 0, .int .i64 0, .int .i64 0, .int .i64 0, .int .i64 0, .int .i64 0, .int .i64 0, .int .i64 0, .int .i64 0] [(0, 2, .tmp 86), (12, 1, .const (.int .i64 300))], (some (84, false)), [7]⟩, 
  ⟨(some (88)), .eqAgg true [.int, .int, .int, .int, .int, .int, .int, .int, .int, .int, .int, .int, .int] (.tmp 85) (.tmp 87), (some (84, false)), []⟩, 
  ⟨(some (89)), .pick (.tmp 84) (.const (.bool true)) (.tmp 88), none, []⟩, 
  ⟨(some (90)), .move (.tmp 89), none, []⟩, 
  ⟨(some (91)), .load (some (13)) (.tmp 6), (some (90, false)), []⟩, 
  ⟨(some (92)), .call (.const (.fn (.func 52) [] [])) [.const (.int .i64 1000), .const (.int .i64 1000)], (some (90, false)), [13]⟩, 
  ⟨(some (93)), .build [.int .i64 0, .int .i64 0, .int .i64 0, .int .i64 0, .int .i64 0, .int .i64 0, .int .i64 0, .int .i64 0, .int .i64 0, .int .i64 0, .int .i64 0, .int .i64 0, .int .i64 0] [(0, 2, .tmp 92), (12, 1, .const (.int .i64 700))], (some (90, false)), [13]⟩, 
  ⟨(some (94)), .eqAgg true [.int, .int, .int, .int, .int, .int, .int, .int, .int, .int, .int, .int, .int] (.tmp 91) (.tmp 93), (some (90, false)), []⟩, 
  ⟨(some (95)), .pick (.tmp 90) (.const (.bool true)) (.tmp 94), none, []⟩]
def k_law03_CathodeKnown_r13s : List (List AOper) := [
  [
  ⟨(some (78)), .move (.tmp 5), none, []⟩], 
  [
  ⟨(some (79)), .bin .plain .neq (.tmp 78) (.const (.int .i64 0)), none, []⟩], 
  [
  ⟨(some (80)), .move (.tmp 79), none, []⟩], 
  [
  ⟨(some (81)), .move (.tmp 7), (some (80, false)), []⟩], 
  [
  ⟨(some (82)), .bin .plain .neq (.tmp 81) (.const (.int .i64 0)), (some (80, false)), []⟩], 
  [
  ⟨(some (83)), .pick (.tmp 80) (.const (.bool true)) (.tmp 82), none, []⟩], 
  [
  ⟨(some (84)), .move (.tmp 83), none, []⟩], 
  [
  ⟨(some (85)), .load (some (13)) (.tmp 4), (some (84, false)), []⟩, 
  ⟨(some (86)), .call (.const (.fn (.func 52) [] [])) [.const (.int .i64 1000), .const (.int .i64 1000)], (some (84, false)), [7]⟩, 
  ⟨(some (87)), .build [.int .i64 0, .int .i64 0, .int .i64 0, .int .i64 0, .int .i64 0, .int .i64 0, .int .i64 0, .int .i64 0, .int .i64 0, .int .i64 0, .int .i64 0, .int .i64 0, .int .i64 0] [(0, 2, .tmp 86), (12, 1, .const (.int .i64 300))], (some (84, false)), [7]⟩], 
  [
  ⟨(some (88)), .eqAgg true [.int, .int, .int, .int, .int, .int, .int, .int, .int, .int, .int, .int, .int] (.tmp 85) (.tmp 87), (some (84, false)), []⟩], 
  [
  ⟨(some (89)), .pick (.tmp 84) (.const (.bool true)) (.tmp 88), none, []⟩], 
  [
  ⟨(some (90)), .move (.tmp 89), none, []⟩], 
  [
  ⟨(some (91)), .load (some (13)) (.tmp 6), (some (90, false)), []⟩, 
  ⟨(some (92)), .call (.const (.fn (.func 52) [] [])) [.const (.int .i64 1000), .const (.int .i64 1000)], (some (90, false)), [13]⟩, 
  ⟨(some (93)), .build [.int .i64 0, .int .i64 0, .int .i64 0, .int .i64 0, .int .i64 0, .int .i64 0, .int .i64 0, .int .i64 0, .int .i64 0, .int .i64 0, .int .i64 0, .int .i64 0, .int .i64 0] [(0, 2, .tmp 92), (12, 1, .const (.int .i64 700))], (some (90, false)), [13]⟩], 
  [
  ⟨(some (94)), .eqAgg true [.int, .int, .int, .int, .int, .int, .int, .int, .int, .int, .int, .int, .int] (.tmp 91) (.tmp 93), (some (90, false)), []⟩], 
  [
  ⟨(some (95)), .pick (.tmp 90) (.const (.bool true)) (.tmp 94), none, []⟩]]
theorem k_law03_CathodeKnown_r13_sg : segs k_law03_CathodeKnown_r13 = k_law03_CathodeKnown_r13s := by kernel_rfl
theorem k_law03_CathodeKnown_r13_st : statOK k_law03_CathodeKnown_r13 = true := by kernel_rfl
def k_law03_CathodeKnown_r14 : List AOper := [
  ⟨(some (0)), .move (.const (.bool false)), none, []⟩]
def k_law03_CathodeKnown_r15 : List AOper := [
  ⟨(some (97)), .load (some (7)) (.tmp 1), none, []⟩, 
  ⟨(some (98)), .call (.const (.fn (.func 53) [] [])) [], none, [0]⟩, 
  ⟨(some (99)), .call (.const (.fn (.func 53) [] [])) [], none, [0]⟩, 
  ⟨(some (100)), .buildSlice 3 [.tmp 98, .tmp 99], none, [0]⟩, 
  ⟨(some (101)), .call (.const (.fn (.func 39) [] [])) [.tmp 97, .tmp 100], none, []⟩, 
  ⟨(some (96)), .move (.tmp 101), none, []⟩, 
  ⟨(some (102)), .extract (.tmp 96) 0, none, []⟩, 
  ⟨(some (103)), .extract (.tmp 96) 1, none, [6]⟩, 
  ⟨(some (8)), .move (.tmp 102), none, [7]⟩, 
  ⟨(some (9)), .move (.tmp 103), none, []⟩]
def k_law03_CathodeKnown_r15s : List (List AOper) := [
  [
  ⟨(some (97)), .load (some (7)) (.tmp 1), none, []⟩, 
  ⟨(some (98)), .call (.const (.fn (.func 53) [] [])) [], none, [0]⟩, 
  ⟨(some (99)), .call (.const (.fn (.func 53) [] [])) [], none, [0]⟩, 
  ⟨(some (100)), .buildSlice 3 [.tmp 98, .tmp 99], none, [0]⟩], 
  [
  ⟨(some (101)), .call (.const (.fn (.func 39) [] [])) [.tmp 97, .tmp 100], none, []⟩], 
  [
  ⟨(some (96)), .move (.tmp 101), none, []⟩], 
  [
  ⟨(some (102)), .extract (.tmp 96) 0, none, []⟩, 
  ⟨(some (103)), .extract (.tmp 96) 1, none, [6]⟩, 
  ⟨(some (8)), .move (.tmp 102), none, [7]⟩], 
  [
  ⟨(some (9)), .move (.tmp 103), none, []⟩]]
theorem k_law03_CathodeKnown_r15_sg : segs k_law03_CathodeKnown_r15 = k_law03_CathodeKnown_r15s := by kernel_rfl
theorem k_law03_CathodeKnown_r15_st : statOK k_law03_CathodeKnown_r15 = true := by kernel_rfl
def k_law03_CathodeKnown_r16 : List AOper := [
  ⟨(some (104)), .move (.tmp 9), none, []⟩, 
  ⟨(some (105)), .bin .plain .neq (.tmp 104) (.const (.int .i64 0)), none, []⟩, 
  ⟨(some (106)), .move (.tmp 105), none, []⟩, 
  ⟨(some (107)), .move (.tmp 8), (some (106, false)), []⟩, 
  ⟨(some (108)), .len false (.tmp 107), (some (106, false)), []⟩, 
  ⟨(some (109)), .bin .plain .neq (.tmp 108) (.const (.int .i64 2)), (some (106, false)), []⟩, 
  ⟨(some (110)), .pick (.tmp 106) (.const (.bool true)) (.tmp 109), none, []⟩, 
  ⟨(some (111)), .move (.tmp 110), none, []⟩, 
  ⟨(some (112)), .move (.tmp 8), (some (111, false)), []⟩, 
  ⟨(some (113)), .indexAddr 13 (.tmp 112) (.const (.int .i64 1)), (some (111, false)), []⟩, 
  ⟨(some (114)), .load (some (13)) (.tmp 113), (some (111, false)), []⟩, 
  ⟨(some (115)), .call (.const (.fn (.func 52) [] [])) [.const (.int .i64 512), .const (.int .i64 729)], (some (111, false)), [8, 9, 10]⟩, 
  ⟨(some (116)), .call (.const (.fn (.func 52) [] [])) [.const (.int .i64 217), .const (.int .i64 486)], (some (111, false)), [8, 9, 10]⟩, 
  ⟨(some (117)), .call (.const (.fn (.func 52) [] [])) [.const (.int .i64 26), .const (.int .i64 56)], (some (111, false)), [8, 9, 10]⟩, 
  ⟨(some (118)), .call (.const (.fn (.func 52) [] [])) [.const (.int .i64 0), .const (.int .i64 1)], (some (111, false)), [8, 9, 10]⟩, 
  ⟨(some (119)), .call (.const (.fn (.func 52) [] [])) [.const (.int .i64 64), .const (.int .i64 162)], (some (111, false)), [8, 9, 10]⟩, 
  ⟨(some (120)), .call (.const (.fn (.func 52) [] [])) [.const (.int .i64 3), .const (.int .i64 6)], (some (111, false)), [8, 9, 10]⟩, 
  ⟨(some (121)), .build [.int .i64 0, .int .i64 0, .int .i64 0, .int .i64 0, .int .i64 0, .int .i64 0, .int .i64 0, .int .i64 0, .int .i64 0, .int .i64 0, .int .i64 0, .int .i64 0, .int .i64 0] [(0, 2, .tmp 115), (2, 2, .tmp 116), (4, 2, .tmp 117), (6, 2, .tmp 118), (8, 2, .tmp 119), (10, 2, .tmp 120), (12, 1, .const (.int .i64 1100))], (some (111, false)), [8, 9, 10]⟩, 
  ⟨(some (122)), .eqAgg true [.int, .int, .int, .int, .int, .int, .int, .int, .int, .int, .int, .int, .int] (.tmp 114) (.tmp 121), (some (111, false)), []⟩, 
  ⟨(some (123)), .pick (.tmp 111) (.const (.bool true)) (.tmp 122), none, []⟩]
def k_law03_CathodeKnown_r16s : List (List AOper) := [
  [
  ⟨(some (104)), .move (.tmp 9), none, []⟩], 
  [
  ⟨(some (105)), .bin .plain .neq (.tmp 104) (.const (.int .i64 0)), none, []⟩], 
  [
  ⟨(some (106)), .move (.tmp 105), none, []⟩], 
  [
  ⟨(some (107)), .move (.tmp 8), (some (106, false)), []⟩], 
  [
  ⟨(some (108)), .len false (.tmp 107), (some (106, false)), []⟩], 
  [
  ⟨(some (109)), .bin .plain .neq (.tmp 108) (.const (.int .i64 2)), (some (106, false)), []⟩], 
  [
  ⟨(some (110)), .pick (.tmp 106) (.const (.bool true)) (.tmp 109), none, []⟩], 
  [
  ⟨(some (111)), .move (.tmp 110), none, []⟩], 
  [
  ⟨(some (112)), .move (.tmp 8), (some (111, false)), []⟩, 
  ⟨(some (113)), .indexAddr 13 (.tmp 112) (.const (.int .i64 1)), (some (111, false)), []⟩, 
  ⟨(some (114)), .load (some (13)) (.tmp 113), (some (111, false)), []⟩, 
  ⟨(some (115)), .call (.const (.fn (.func 52) [] [])) [.const (.int .i64 512), .const (.int .i64 729)], (some (111, false)), [8, 9, 10]⟩, 
  ⟨(some (116)), .call (.const (.fn (.func 52) [] [])) [.const (.int .i64 217), .const (.int .i64 486)], (some (111, false)), [8, 9, 10]⟩, 
  ⟨(some (117)), .call (.const (.fn (.func 52) [] [])) [.const (.int .i64 26), .const (.int .i64 56)], (some (111, false)), [8, 9, 10]⟩, 
  ⟨(some (118)), .call (.const (.fn (.func 52) [] [])) [.const (.int .i64 0), .const (.int .i64 1)], (some (111, false)), [8, 9, 10]⟩, 
  ⟨(some (119)), .call (.const (.fn (.func 52) [] [])) [.const (.int .i64 64), .const (.int .i64 162)], (some (111, false)), [8, 9, 10]⟩, 
  ⟨(some (120)), .call (.const (.fn (.func 52) [] [])) [.const (.int .i64 3), .const (.int .i64 6)], (some (111, false)), [8, 9, 10]⟩, 
  ⟨(some (121)), .build [.int .i64 0, .int .i64 0, .int .i64 0, .int .i64 0, .int .i64 0, .int .i64 0, .int .i64 0, .int .i64 0, .int .i64 0, .int .i64 0, .int .i64 0, .int .i64 0, .int .i64 0] [(0, 2, .tmp 115), (2, 2, .tmp 116), (4, 2, .tmp 117), (6, 2, .tmp 118), (8, 2, .tmp 119), (10, 2, .tmp 120), (12, 1, .const (.int .i64 1100))], (some (111, false)), [8, 9, 10]⟩], 
  [
  ⟨(some (122)), .eqAgg true [.int, .int, .int, .int, .int, .int, .int, .int, .int, .int, .int, .int, .int] (.tmp 114) (.tmp 121), (some (111, false)), []⟩], 
  [
  ⟨(some (123)), .pick (.tmp 111) (.const (.bool true)) (.tmp 122), none, []⟩]]
theorem k_law03_CathodeKnown_r16_sg : segs k_law03_CathodeKnown_r16 = k_law03_CathodeKnown_r16s := by kernel_rfl
theorem k_law03_CathodeKnown_r16_st : statOK k_law03_CathodeKnown_r16 = true := by kernel_rfl
def k_law03_CathodeKnown_r17 : List AOper := [
  ⟨(some (0)), .move (.const (.bool false)), none, []⟩]
def k_law03_CathodeKnown_r18 : List AOper := [
  ⟨(some (125)), .load (some (7)) (.tmp 1), none, []⟩, 
  ⟨(some (126)), .move (.tmp 8), none, [0]⟩, 
  ⟨(some (127)), .indexAddr 13 (.tmp 126) (.const (.int .i64 1)), none, [0]⟩, 
  ⟨(some (128)), .load (some (13)) (.tmp 127), none, [0]⟩, 
  ⟨(some (129)), .call (.const (.fn (.func 54) [] [])) [.tmp 125, .tmp 128], none, []⟩, 
  ⟨(some (124)), .move (.tmp 129), none, []⟩, 
  ⟨(some (130)), .extract (.tmp 124) 0, none, []⟩, 
  ⟨(some (131)), .extract (.tmp 124) 1, none, [6]⟩, 
  ⟨(some (10)), .box (.const (.agg [.int .i64 0, .int .i64 0])), none, [0, 1, 2, 3, 4, 5, 6, 7]⟩, 
  ⟨none, .store 2 (.tmp 10) (.tmp 130), none, [7]⟩, 
  ⟨(some (11)), .move (.tmp 131), none, []⟩]
def k_law03_CathodeKnown_r18s : List (List AOper) := [
  [
  ⟨(some (125)), .load (some (7)) (.tmp 1), none, []⟩, 
  ⟨(some (126)), .move (.tmp 8), none, [0]⟩, 
  ⟨(some (127)), .indexAddr 13 (.tmp 126) (.const (.int .i64 1)), none, [0]⟩, 
  ⟨(some (128)), .load (some (13)) (.tmp 127), none, [0]⟩, 
  ⟨(some (129)), .call (.const (.fn (.func 54) [] [])) [.tmp 125, .tmp 128], none, []⟩, 
  ⟨(some (124)), .move (.tmp 129), none, []⟩, 
  ⟨(some (130)), .extract (.tmp 124) 0, none, []⟩, 
  ⟨(some (131)), .extract (.tmp 124) 1, none, [6]⟩, 
  ⟨(some (10)), .box (.const (.agg [.int .i64 0, .int .i64 0])), none, [0, 1, 2, 3, 4, 5, 6, 7]⟩, 
  ⟨none, .store 2 (.tmp 10) (.tmp 130), none, [7]⟩], 
  [
  ⟨(some (11)), .move (.tmp 131), none, []⟩]]
theorem k_law03_CathodeKnown_r18_sg : segs k_law03_CathodeKnown_r18 = k_law03_CathodeKnown_r18s := by kernel_rfl
theorem k_law03_CathodeKnown_r18_st : statOK k_law03_CathodeKnown_r18 = true := by kernel_rfl
def k_law03_CathodeKnown_r19 : List AOper := [
  ⟨(some (133)), .load (some (7)) (.tmp 1), none, []⟩, 
  ⟨(some (134)), .load (some (13)) (.tmp 4), none, []⟩, 
  ⟨(some (135)), .call (.const (.fn (.func 55) [] [])) [.tmp 133, .tmp 134, .const (.int .i64 300), .const (.int .i64 0), .const (.int .i64 0)], none, []⟩, 
  ⟨(some (132)), .move (.tmp 135), none, []⟩, 
  ⟨(some (136)), .extract (.tmp 132) 0, none, []⟩, 
  ⟨(some (137)), .extract (.tmp 132) 1, none, []⟩, 
  ⟨(some (12)), .box (.const (.agg [.int .i64 0, .int .i64 0])), none, []⟩, 
  ⟨none, .store 2 (.tmp 12) (.tmp 136), none, []⟩, 
  ⟨(some (13)), .move (.tmp 137), none, []⟩]
def k_law03_CathodeKnown_r20 : List AOper := [
  ⟨(some (139)), .load (some (7)) (.tmp 1), none, []⟩, 
  ⟨(some (140)), .load (some (13)) (.tmp 4), none, []⟩, 
  ⟨(some (141)), .call (.const (.fn (.func 55) [] [])) [.tmp 139, .tmp 140, .const (.int .i64 300), .const (.int .i64 0), .const (.int .i64 1)], none, []⟩, 
  ⟨(some (138)), .move (.tmp 141), none, []⟩, 
  ⟨(some (142)), .extract (.tmp 138) 0, none, []⟩, 
  ⟨(some (143)), .extract (.tmp 138) 1, none, []⟩, 
  ⟨(some (14)), .box (.const (.agg [.int .i64 0, .int .i64 0])), none, []⟩, 
  ⟨none, .store 2 (.tmp 14) (.tmp 142), none, []⟩, 
  ⟨(some (15)), .move (.tmp 143), none, []⟩]
def k_law03_CathodeKnown_r21 : List AOper := [
  ⟨(some (144)), .move (.tmp 11), none, []⟩, 
  ⟨(some (145)), .bin .plain .eql (.tmp 144) (.const (.int .i64 0)), none, []⟩, 
  ⟨(some (146)), .move (.tmp 145), none, []⟩, 
  ⟨(some (147)), .move (.tmp 13), (some (146, true)), []⟩, 
  ⟨(some (148)), .bin .plain .eql (.tmp 147) (.const (.int .i64 0)), (some (146, true)), []⟩, 
  ⟨(some (149)), .pick (.tmp 146) (.tmp 148) (.const (.bool false)), none, []⟩, 
  ⟨(some (150)), .move (.tmp 149), none, []⟩, 
  ⟨(some (151)), .move (.tmp 15), (some (150, true)), []⟩, 
  ⟨(some (152)), .bin .plain .eql (.tmp 151) (.const (.int .i64 0)), (some (150, true)), []⟩, 
  ⟨(some (153)), .pick (.tmp 150) (.tmp 152) (.const (.bool false)), none, []⟩, 
  ⟨(some (154)), .move (.tmp 153), none, []⟩, 
  ⟨(some (155)), .load (some (2)) (.tmp 10), (some (154, true)), []⟩, 
  ⟨(some (156)), .call (.const (.fn (.func 52) [] [])) [.const (.int .i64 13), .const (.int .i64 28)], (some (154, true)), [11]⟩, 
  ⟨(some (157)), .eqAgg false [.int, .int] (.tmp 155) (.tmp 156), (some (154, true)), []⟩, 
  ⟨(some (158)), .pick (.tmp 154) (.tmp 157) (.const (.bool false)), none, []⟩, 
  ⟨(some (159)), .move (.tmp 158), none, []⟩, 
  ⟨(some (160)), .load (some (2)) (.tmp 12), (some (159, true)), []⟩, 
  ⟨(some (161)), .call (.const (.fn (.func 52) [] [])) [.const (.int .i64 5000), .const (.int .i64 5000)], (some (159, true)), [16]⟩, 
  ⟨(some (162)), .eqAgg false [.int, .int] (.tmp 160) (.tmp 161), (some (159, true)), []⟩, 
  ⟨(some (163)), .pick (.tmp 159) (.tmp 162) (.const (.bool false)), none, []⟩, 
  ⟨(some (164)), .move (.tmp 163), none, []⟩, 
  ⟨(some (165)), .load (some (2)) (.tmp 14), (some (164, true)), []⟩, 
  ⟨(some (166)), .call (.const (.fn (.func 52) [] [])) [.const (.int .i64 0), .const (.int .i64 0)], (some (164, true)), [21]⟩, 
  ⟨(some (167)), .eqAgg false [.int, .int] (.tmp 165) (.tmp 166), (some (164, true)), []⟩, 
  ⟨(some (168)), .pick (.tmp 164) (.tmp 167) (.const (.bool false)), none, []⟩, 
  ⟨(some (169)), .move (.tmp 168), none, []⟩, 
  ⟨(some (170)), .call (.const (.fn (.func 56) [] [])) [], (some (169, true)), []⟩, 
  ⟨(some (171)), .pick (.tmp 169) (.tmp 170) (.const (.bool false)), none, []⟩, 
  ⟨(some (172)), .move (.tmp 171), none, []⟩, 
  ⟨(some (173)), .call (.const (.fn (.func 57) [] [])) [], (some (172, true)), []⟩, 
  ⟨(some (174)), .pick (.tmp 172) (.tmp 173) (.const (.bool false)), none, []⟩, 
  ⟨(some (0)), .move (.tmp 174), none, []⟩]
def k_law03_CathodeKnown_r21s : List (List AOper) := [
  [
  ⟨(some (144)), .move (.tmp 11), none, []⟩], 
  [
  ⟨(some (145)), .bin .plain .eql (.tmp 144) (.const (.int .i64 0)), none, []⟩], 
  [
  ⟨(some (146)), .move (.tmp 145), none, []⟩], 
  [
  ⟨(some (147)), .move (.tmp 13), (some (146, true)), []⟩], 
  [
  ⟨(some (148)), .bin .plain .eql (.tmp 147) (.const (.int .i64 0)), (some (146, true)), []⟩], 
  [
  ⟨(some (149)), .pick (.tmp 146) (.tmp 148) (.const (.bool false)), none, []⟩], 
  [
  ⟨(some (150)), .move (.tmp 149), none, []⟩], 
  [
  ⟨(some (151)), .move (.tmp 15), (some (150, true)), []⟩], 
  [
  ⟨(some (152)), .bin .plain .eql (.tmp 151) (.const (.int .i64 0)), (some (150, true)), []⟩], 
  [
  ⟨(some (153)), .pick (.tmp 150) (.tmp 152) (.const (.bool false)), none, []⟩], 
  [
  ⟨(some (154)), .move (.tmp 153), none, []⟩], 
  [
  ⟨(some (155)), .load (some (2)) (.tmp 10), (some (154, true)), []⟩, 
  ⟨(some (156)), .call (.const (.fn (.func 52) [] [])) [.const (.int .i64 13), .const (.int .i64 28)], (some (154, true)), [11]⟩], 
  [
  ⟨(some (157)), .eqAgg false [.int, .int] (.tmp 155) (.tmp 156), (some (154, true)), []⟩], 
  [
  ⟨(some (158)), .pick (.tmp 154) (.tmp 157) (.const (.bool false)), none, []⟩], 
  [
  ⟨(some (159)), .move (.tmp 158), none, []⟩], 
  [
  ⟨(some (160)), .load (some (2)) (.tmp 12), (some (159, true)), []⟩, 
  ⟨(some (161)), .call (.const (.fn (.func 52) [] [])) [.const (.int .i64 5000), .const (.int .i64 5000)], (some (159, true)), [16]⟩], 
  [
  ⟨(some (162)), .eqAgg false [.int, .int] (.tmp 160) (.tmp 161), (some (159, true)), []⟩], 
  [
  ⟨(some (163)), .pick (.tmp 159) (.tmp 162) (.const (.bool false)), none, []⟩], 
  [
  ⟨(some (164)), .move (.tmp 163), none, []⟩], 
  [
  ⟨(some (165)), .load (some (2)) (.tmp 14), (some (164, true)), []⟩, 
  ⟨(some (166)), .call (.const (.fn (.func 52) [] [])) [.const (.int .i64 0), .const (.int .i64 0)], (some (164, true)), [21]⟩], 
  [
  ⟨(some (167)), .eqAgg false [.int, .int] (.tmp 165) (.tmp 166), (some (164, true)), []⟩], 
  [
  ⟨(some (168)), .pick (.tmp 164) (.tmp 167) (.const (.bool false)), none, []⟩], 
  [
  ⟨(some (169)), .move (.tmp 168), none, []⟩], 
  [
  ⟨(some (170)), .call (.const (.fn (.func 56) [] [])) [], (some (169, true)), []⟩], 
  [
  ⟨(some (171)), .pick (.tmp 169) (.tmp 170) (.const (.bool false)), none, []⟩], 
  [
  ⟨(some (172)), .move (.tmp 171), none, []⟩], 
  [
  ⟨(some (173)), .call (.const (.fn (.func 57) [] [])) [], (some (172, true)), []⟩], 
  [
  ⟨(some (174)), .pick (.tmp 172) (.tmp 173) (.const (.bool false)), none, []⟩], 
  [
  ⟨(some (0)), .move (.tmp 174), none, []⟩]]
theorem k_law03_CathodeKnown_r21_sg : segs k_law03_CathodeKnown_r21 = k_law03_CathodeKnown_r21s := by kernel_rfl
theorem k_law03_CathodeKnown_r21_st : statOK k_law03_CathodeKnown_r21 = true := by kernel_rfl
def k_law03_CathodeKnown : AFun := { params := 0, ntmps := 175, body := (.seq (.reg k_law03_CathodeKnown_r0 false) (.seq (.reg k_law03_CathodeKnown_r1 false) (.seq (.reg k_law03_CathodeKnown_r2 false) (.seq (.seq (.reg k_law03_CathodeKnown_r3 false) (.block 0 (.loop k_law03_CathodeKnown_r7))) (.seq (.reg k_law03_CathodeKnown_r8 true) (.seq (.seq (.reg k_law03_CathodeKnown_r9 false) (.cond (.tmp 66) (.seq (.reg k_law03_CathodeKnown_r10 false) .ret) .skip)) (.seq (.reg k_law03_CathodeKnown_r11 false) (.seq (.reg k_law03_CathodeKnown_r12 false) (.seq (.seq (.reg k_law03_CathodeKnown_r13 true) (.cond (.tmp 95) (.seq (.reg k_law03_CathodeKnown_r14 false) .ret) .skip)) (.seq (.reg k_law03_CathodeKnown_r15 true) (.seq (.seq (.reg k_law03_CathodeKnown_r16 true) (.cond (.tmp 123) (.seq (.reg k_law03_CathodeKnown_r17 false) .ret) .skip)) (.seq (.reg k_law03_CathodeKnown_r18 true) (.seq (.reg k_law03_CathodeKnown_r19 false) (.seq (.reg k_law03_CathodeKnown_r20 false) (.seq (.reg k_law03_CathodeKnown_r21 true) .ret))))))))))))))), res := [.tmp 0] }
theorem k_law03_CathodeKnown_ok : cfun Try.prog Try.f9 = k_law03_CathodeKnown := by kernel_rfl

-- 48: thermion/cathode.Shortest
def k_cathode_Shortest_r0 : List AOper := [
  ⟨(some (4)), .box (.tmp 0), none, []⟩, 
  ⟨(some (5)), .box (.tmp 1), none, []⟩, 
  ⟨(some (6)), .box (.tmp 2), none, []⟩, 
  ⟨(some (8)), .box (.const (.nilsl)), none, []⟩, 
  ⟨(some (9)), .box (.const (.int .i64 0)), none, []⟩, 
  ⟨(some (10)), .move (.const (.int .i64 0)), none, []⟩]
def k_cathode_Shortest_r1 : List AOper := [
  ⟨(some (18)), .load (some (7)) (.tmp 4), none, []⟩, 
  ⟨(some (19)), .load (some (5)) (.tmp 5), none, []⟩, 
  ⟨(some (20)), .call (.const (.fn (.func 93) [] [])) [.tmp 18, .tmp 19], none, []⟩, 
  ⟨(some (11)), .move (.tmp 20), none, []⟩]
def k_cathode_Shortest_r2 : List AOper := [
  ⟨(some (21)), .move (.tmp 11), none, []⟩, 
  ⟨(some (22)), .bin .plain .neq (.tmp 21) (.const (.int .i64 0)), none, []⟩]
def k_cathode_Shortest_r3 : List AOper := [
  ⟨(some (23)), .move (.tmp 11), none, []⟩, 
  ⟨none, .store 1 (.tmp 8) (.const (.nilsl)), none, []⟩, 
  ⟨none, .store 1 (.tmp 9) (.const (.int .i64 0)), none, []⟩, 
  ⟨(some (10)), .move (.tmp 23), none, []⟩]
def k_cathode_Shortest_r4 : List AOper := [
  ⟨(some (24)), .load none (.tmp 6), none, []⟩, 
  ⟨(some (25)), .move (.tmp 3), none, []⟩, 
  ⟨(some (26)), .call (.const (.fn (.func 97) [] [])) [.tmp 24, .tmp 25], none, []⟩, 
  ⟨(some (12)), .move (.tmp 26), none, []⟩]
def k_cathode_Shortest_r5 : List AOper := [
  ⟨(some (27)), .move (.tmp 12), none, []⟩, 
  ⟨(some (28)), .bin .plain .neq (.tmp 27) (.const (.int .i64 0)), none, []⟩]
def k_cathode_Shortest_r6 : List AOper := [
  ⟨(some (29)), .move (.tmp 12), none, []⟩, 
  ⟨none, .store 1 (.tmp 8) (.const (.nilsl)), none, []⟩, 
  ⟨none, .store 1 (.tmp 9) (.const (.int .i64 0)), none, []⟩, 
  ⟨(some (10)), .move (.tmp 29), none, []⟩]
def k_cathode_Shortest_r7 : List AOper := [
  ⟨(some (30)), .load none (.tmp 6), none, []⟩, 
  ⟨(some (31)), .len false (.tmp 30), none, []⟩, 
  ⟨(some (32)), .move (.tmp 3), none, []⟩, 
  ⟨(some (33)), .call (.const (.fn (.func 98) [] [])) [.tmp 31, .tmp 32], none, []⟩]
def k_cathode_Shortest_r8 : List AOper := [
  ⟨(some (13)), .move (.tmp 34), none, []⟩]
def k_cathode_Shortest_r9 : List AOper := [
  ⟨(some (35)), .load none (.tmp 6), none, []⟩, 
  ⟨(some (36)), .move (.tmp 13), none, []⟩, 
  ⟨(some (37)), .call (.const (.fn (.func 99) [] [])) [.tmp 35, .tmp 36], none, []⟩, 
  ⟨(some (14)), .move (.tmp 37), none, []⟩]
def k_cathode_Shortest_r10 : List AOper := [
  ⟨(some (38)), .move (.tmp 14), none, []⟩, 
  ⟨(some (39)), .call (.const (.fn (.func 74) [] [])) [.tmp 38], none, []⟩, 
  ⟨(some (15)), .move (.tmp 39), none, []⟩]
def k_cathode_Shortest_r11 : List AOper := [
  ⟨(some (40)), .load none (.tmp 8), none, []⟩, 
  ⟨(some (41)), .bin .slice .neq (.tmp 40) (.const (.nilsl)), none, []⟩, 
  ⟨(some (42)), .move (.tmp 41), none, []⟩, 
  ⟨(some (43)), .move (.tmp 15), (some (42, true)), []⟩, 
  ⟨(some (44)), .load none (.tmp 9), (some (42, true)), []⟩, 
  ⟨(some (45)), .bin .plain .geq (.tmp 43) (.tmp 44), (some (42, true)), []⟩, 
  ⟨(some (46)), .pick (.tmp 42) (.tmp 45) (.const (.bool false)), none, []⟩]
def k_cathode_Shortest_r12 : List AOper := [
  ⟨(some (48)), .load (some (7)) (.tmp 4), none, []⟩, 
  ⟨(some (49)), .load (some (5)) (.tmp 5), none, []⟩, 
  ⟨(some (50)), .move (.tmp 14), none, []⟩, 
  ⟨(some (51)), .call (.const (.fn (.func 94) [] [])) [.tmp 48, .tmp 49, .tmp 50], none, []⟩, 
  ⟨(some (47)), .move (.tmp 51), none, []⟩, 
  ⟨(some (52)), .extract (.tmp 47) 0, none, []⟩, 
  ⟨(some (53)), .extract (.tmp 47) 1, none, []⟩, 
  ⟨(some (16)), .move (.tmp 52), none, []⟩, 
  ⟨(some (17)), .move (.tmp 53), none, []⟩]
def k_cathode_Shortest_r13 : List AOper := [
  ⟨(some (54)), .move (.tmp 16), none, []⟩, 
  ⟨(some (55)), .bin .plain .eql (.tmp 54) (.const (.int .i64 1)), none, []⟩]
def k_cathode_Shortest_r14 : List AOper := [
  ⟨(some (56)), .move (.tmp 13), none, []⟩, 
  ⟨(some (57)), .call (.const (.fn (.func 100) [] [])) [.tmp 56], none, []⟩, 
  ⟨(some (58)), .move (.tmp 15), none, []⟩, 
  ⟨none, .store 1 (.tmp 8) (.tmp 57), none, []⟩, 
  ⟨none, .store 1 (.tmp 9) (.tmp 58), none, []⟩]
def k_cathode_Shortest_r15 : ACode := (.reg k_cathode_Shortest_r8 false)
def k_cathode_Shortest_r16 : ACode := (.block 1 (.seq (.reg k_cathode_Shortest_r9 false) (.seq (.reg k_cathode_Shortest_r10 false) (.seq (.seq (.reg k_cathode_Shortest_r11 false) (.cond (.tmp 46) (.exit 1) .skip)) (.seq (.reg k_cathode_Shortest_r12 false) (.seq (.reg k_cathode_Shortest_r13 false) (.cond (.tmp 55) (.reg k_cathode_Shortest_r14 false) .skip)))))))
def k_cathode_Shortest_r17 : List AOper := [
  ⟨(some (59)), .load none (.tmp 8), none, []⟩, 
  ⟨(some (60)), .bin .slice .eql (.tmp 59) (.const (.nilsl)), none, []⟩]
def k_cathode_Shortest_r18 : List AOper := [
  ⟨none, .store 1 (.tmp 8) (.const (.nilsl)), none, []⟩, 
  ⟨none, .store 1 (.tmp 9) (.const (.int .i64 0)), none, []⟩, 
  ⟨(some (10)), .move (.const (.int .i64 7)), none, []⟩]
def k_cathode_Shortest_r19 : List AOper := [
  ⟨(some (61)), .load none (.tmp 8), none, []⟩, 
  ⟨(some (62)), .load none (.tmp 9), none, [0]⟩, 
  ⟨none, .store 1 (.tmp 8) (.tmp 61), none, [1]⟩, 
  ⟨none, .store 1 (.tmp 9) (.tmp 62), none, []⟩, 
  ⟨(some (10)), .move (.const (.int .i64 0)), none, []⟩]
def k_cathode_Shortest_r19s : List (List AOper) := [
  [
  ⟨(some (61)), .load none (.tmp 8), none, []⟩, 
  ⟨(some (62)), .load none (.tmp 9), none, [0]⟩, 
  ⟨none, .store 1 (.tmp 8) (.tmp 61), none, [1]⟩], 
  [
  ⟨none, .store 1 (.tmp 9) (.tmp 62), none, []⟩], 
  [
  ⟨(some (10)), .move (.const (.int .i64 0)), none, []⟩]]
theorem k_cathode_Shortest_r19_sg : segs k_cathode_Shortest_r19 = k_cathode_Shortest_r19s := by kernel_rfl
theorem k_cathode_Shortest_r19_st : statOK k_cathode_Shortest_r19 = true := by kernel_rfl
def k_cathode_Shortest : AFun := { params := 4, ntmps := 63, body := (.seq (.reg k_cathode_Shortest_r0 false) (.seq (.seq (.reg k_cathode_Shortest_r1 false) (.seq (.reg k_cathode_Shortest_r2 false) (.cond (.tmp 22) (.seq (.reg k_cathode_Shortest_r3 false) .ret) .skip))) (.seq (.seq (.reg k_cathode_Shortest_r4 false) (.seq (.reg k_cathode_Shortest_r5 false) (.cond (.tmp 28) (.seq (.reg k_cathode_Shortest_r6 false) .ret) .skip))) (.seq (.seq (.reg k_cathode_Shortest_r7 false) (.block 0 (.rng (.tmp 33) [34] k_cathode_Shortest_r15 k_cathode_Shortest_r16))) (.seq (.seq (.reg k_cathode_Shortest_r17 false) (.cond (.tmp 60) (.seq (.reg k_cathode_Shortest_r18 false) .ret) .skip)) (.seq (.reg k_cathode_Shortest_r19 true) .ret)))))), res := [.cell 8 (some (none)), .cell 9 (some (none)), .tmp 10] }
theorem k_cathode_Shortest_ok : cfun Try.prog Try.f48 = k_cathode_Shortest := by kernel_rfl

-- 50: thermion/thermionkit.Same
def k_kit_Same_r0 : List AOper := [
  ⟨(some (4)), .move (.const (.bool false)), none, []⟩]
def k_kit_Same_r1 : List AOper := [
  ⟨(some (6)), .move (.tmp 0), none, []⟩, 
  ⟨(some (7)), .len false (.tmp 6), none, []⟩, 
  ⟨(some (8)), .move (.tmp 1), none, []⟩, 
  ⟨(some (9)), .len false (.tmp 8), none, []⟩, 
  ⟨(some (10)), .bin .plain .neq (.tmp 7) (.tmp 9), none, []⟩]
def k_kit_Same_r2 : List AOper := [
  ⟨(some (4)), .move (.const (.bool false)), none, []⟩]
def k_kit_Same_r3 : List AOper := [
  ⟨(some (5)), .move (.const (.int .i64 0)), none, []⟩]
def k_kit_Same_r4 : List AOper := [
  ⟨(some (11)), .move (.tmp 5), none, []⟩, 
  ⟨(some (12)), .move (.tmp 0), none, []⟩, 
  ⟨(some (13)), .len false (.tmp 12), none, []⟩, 
  ⟨(some (14)), .bin .plain .lss (.tmp 11) (.tmp 13), none, []⟩]
def k_kit_Same_r5 : List AOper := [
  ⟨(some (17)), .move (.tmp 0), none, []⟩, 
  ⟨(some (18)), .move (.tmp 5), none, [0]⟩, 
  ⟨(some (19)), .indexAddr 1 (.tmp 17) (.tmp 18), none, []⟩, 
  ⟨(some (20)), .load none (.tmp 19), none, []⟩, 
  ⟨(some (21)), .move (.tmp 1), none, [0, 1, 2, 3]⟩, 
  ⟨(some (22)), .move (.tmp 5), none, [0, 1, 2, 3, 4]⟩, 
  ⟨(some (23)), .indexAddr 1 (.tmp 21) (.tmp 22), none, [0, 1, 2, 3]⟩, 
  ⟨(some (24)), .load none (.tmp 23), none, [0, 1, 2, 3]⟩, 
  ⟨(some (25)), .bin .plain .neq (.tmp 20) (.tmp 24), none, []⟩]
def k_kit_Same_r5s : List (List AOper) := [
  [
  ⟨(some (17)), .move (.tmp 0), none, []⟩, 
  ⟨(some (18)), .move (.tmp 5), none, [0]⟩, 
  ⟨(some (19)), .indexAddr 1 (.tmp 17) (.tmp 18), none, []⟩, 
  ⟨(some (20)), .load none (.tmp 19), none, []⟩, 
  ⟨(some (21)), .move (.tmp 1), none, [0, 1, 2, 3]⟩, 
  ⟨(some (22)), .move (.tmp 5), none, [0, 1, 2, 3, 4]⟩, 
  ⟨(some (23)), .indexAddr 1 (.tmp 21) (.tmp 22), none, [0, 1, 2, 3]⟩, 
  ⟨(some (24)), .load none (.tmp 23), none, [0, 1, 2, 3]⟩], 
  [
  ⟨(some (25)), .bin .plain .neq (.tmp 20) (.tmp 24), none, []⟩]]
theorem k_kit_Same_r5_sg : segs k_kit_Same_r5 = k_kit_Same_r5s := by kernel_rfl
theorem k_kit_Same_r5_st : statOK k_kit_Same_r5 = true := by kernel_rfl
def k_kit_Same_r6 : List AOper := [
  ⟨(some (4)), .move (.const (.bool false)), none, []⟩]
def k_kit_Same_r7 : List AOper := [
  ⟨(some (15)), .move (.tmp 5), none, []⟩, 
  ⟨(some (16)), .bin .plain .add (.tmp 15) (.const (.int .i64 1)), none, []⟩, 
  ⟨(some (5)), .move (.tmp 16), none, []⟩]
def k_kit_Same_r8 : ACode := (.seq (.seq (.reg k_kit_Same_r4 false) (.cond (.tmp 14) .skip (.exit 0))) (.seq (.block 1 (.seq (.reg k_kit_Same_r5 true) (.cond (.tmp 25) (.seq (.reg k_kit_Same_r6 false) .ret) .skip))) (.reg k_kit_Same_r7 false)))
def k_kit_Same_r9 : List AOper := [
  ⟨(some (4)), .move (.const (.bool true)), none, []⟩]
def k_kit_Same : AFun := { params := 2, ntmps := 26, body := (.seq (.reg k_kit_Same_r0 false) (.seq (.seq (.reg k_kit_Same_r1 false) (.cond (.tmp 10) (.seq (.reg k_kit_Same_r2 false) .ret) .skip)) (.seq (.seq (.reg k_kit_Same_r3 false) (.block 0 (.loop k_kit_Same_r8))) (.seq (.reg k_kit_Same_r9 false) .ret)))), res := [.tmp 4] }
theorem k_kit_Same_ok : cfun Try.prog Try.f50 = k_kit_Same := by kernel_rfl

-- 56: thermion/thermionlaw03.courses
def k_law03_courses_r0 : List AOper := [
  ⟨(some (0)), .move (.const (.bool false)), none, []⟩]
def k_law03_courses_r1 : List AOper := [
  ⟨(some (4)), .call (.const (.fn (.func 53) [] [])) [], none, []⟩, 
  ⟨(some (5)), .buildSlice 3 [.tmp 4], none, []⟩, 
  ⟨(some (1)), .move (.tmp 5), none, []⟩]
def k_law03_courses_r2 : List AOper := [
  ⟨(some (6)), .build [.int .i64 0, .int .i64 0, .int .i64 0, .int .i64 0] [(0, 1, .const (.int .i64 1000))], none, []⟩, 
  ⟨(some (7)), .build [.int .i64 0, .int .i64 0, .int .i64 0, .int .i64 0] [(0, 1, .const (.int .i64 1000))], none, []⟩, 
  ⟨(some (8)), .build [.int .i64 0, .int .i64 0, .int .i64 0, .int .i64 0] [(0, 1, .const (.int .i64 850)), (1, 1, .const (.int .i64 150))], none, []⟩, 
  ⟨(some (9)), .buildSlice 4 [.tmp 6, .tmp 7, .tmp 8], none, []⟩, 
  ⟨(some (2)), .move (.tmp 9), none, []⟩]
def k_law03_courses_r3 : List AOper := [
  ⟨(some (10)), .build [.int .i64 0, .int .i64 0, .int .i64 0, .int .i64 0] [(0, 1, .const (.int .i64 1000))], none, []⟩, 
  ⟨(some (11)), .build [.int .i64 0, .int .i64 0, .int .i64 0, .int .i64 0] [(0, 1, .const (.int .i64 1000))], none, []⟩, 
  ⟨(some (12)), .build [.int .i64 0, .int .i64 0, .int .i64 0, .int .i64 0] [(0, 1, .const (.int .i64 701)), (1, 1, .const (.int .i64 299))], none, []⟩, 
  ⟨(some (13)), .buildSlice 4 [.tmp 10, .tmp 11, .tmp 12], none, []⟩, 
  ⟨(some (3)), .move (.tmp 13), none, []⟩]
def k_law03_courses_r4 : List AOper := [
  ⟨(some (14)), .call (.const (.fn (.func 51) [] [])) [], none, []⟩, 
  ⟨(some (15)), .move (.tmp 1), none, []⟩, 
  ⟨(some (16)), .move (.tmp 2), none, []⟩, 
  ⟨(some (17)), .call (.const (.fn (.func 43) [] [])) [.tmp 14, .tmp 15, .tmp 16], none, []⟩, 
  ⟨(some (18)), .move (.tmp 17), none, []⟩, 
  ⟨(some (19)), .call (.const (.fn (.func 51) [] [])) [], (some (18, true)), []⟩, 
  ⟨(some (20)), .move (.tmp 1), (some (18, true)), []⟩, 
  ⟨(some (21)), .move (.tmp 3), (some (18, true)), []⟩, 
  ⟨(some (22)), .call (.const (.fn (.func 43) [] [])) [.tmp 19, .tmp 20, .tmp 21], (some (18, true)), []⟩, 
  ⟨(some (23)), .not (.tmp 22), (some (18, true)), []⟩, 
  ⟨(some (24)), .pick (.tmp 18) (.tmp 23) (.const (.bool false)), none, []⟩, 
  ⟨(some (0)), .move (.tmp 24), none, []⟩]
def k_law03_courses : AFun := { params := 0, ntmps := 25, body := (.seq (.reg k_law03_courses_r0 false) (.seq (.reg k_law03_courses_r1 false) (.seq (.reg k_law03_courses_r2 false) (.seq (.reg k_law03_courses_r3 false) (.seq (.reg k_law03_courses_r4 false) .ret))))), res := [.tmp 0] }
theorem k_law03_courses_ok : cfun Try.prog Try.f56 = k_law03_courses := by kernel_rfl

-- 57: thermion/thermionlaw03.verdicts
def k_law03_verdicts_r0 : List AOper := [
  ⟨(some (0)), .move (.const (.bool false)), none, []⟩]
def k_law03_verdicts_r1 : List AOper := [
  ⟨(some (11)), .build [.int .i64 0, .int .i64 0, .int .i64 0, .int .i64 0, .int .i64 0] [(0, 1, .const (.int .i64 200)), (1, 1, .const (.int .i64 2)), (3, 1, .const (.int .i64 900))], none, []⟩, 
  ⟨(some (1)), .box (.const (.agg [.int .i64 0, .int .i64 0, .int .i64 0, .int .i64 0, .int .i64 0])), none, []⟩, 
  ⟨none, .store 5 (.tmp 1) (.tmp 11), none, []⟩]
def k_law03_verdicts_r2 : List AOper := [
  ⟨(some (13)), .call (.const (.fn (.func 51) [] [])) [], none, []⟩, 
  ⟨(some (14)), .load (some (5)) (.tmp 1), none, [0]⟩, 
  ⟨(some (15)), .call (.const (.fn (.func 53) [] [])) [], none, [1]⟩, 
  ⟨(some (16)), .buildSlice 3 [.tmp 15], none, [1]⟩, 
  ⟨(some (17)), .call (.const (.fn (.func 46) [] [])) [.tmp 13, .tmp 14, .tmp 16], none, []⟩, 
  ⟨(some (12)), .move (.tmp 17), none, []⟩, 
  ⟨(some (18)), .extract (.tmp 12) 0, none, []⟩, 
  ⟨(some (19)), .extract (.tmp 12) 1, none, [6]⟩, 
  ⟨(some (20)), .extract (.tmp 12) 2, none, [6, 7]⟩, 
  ⟨(some (2)), .move (.tmp 18), none, [7, 8]⟩, 
  ⟨(some (3)), .move (.tmp 19), none, [8]⟩, 
  ⟨(some (4)), .move (.tmp 20), none, []⟩]
def k_law03_verdicts_r2s : List (List AOper) := [
  [
  ⟨(some (13)), .call (.const (.fn (.func 51) [] [])) [], none, []⟩, 
  ⟨(some (14)), .load (some (5)) (.tmp 1), none, [0]⟩, 
  ⟨(some (15)), .call (.const (.fn (.func 53) [] [])) [], none, [1]⟩, 
  ⟨(some (16)), .buildSlice 3 [.tmp 15], none, [1]⟩], 
  [
  ⟨(some (17)), .call (.const (.fn (.func 46) [] [])) [.tmp 13, .tmp 14, .tmp 16], none, []⟩], 
  [
  ⟨(some (12)), .move (.tmp 17), none, []⟩], 
  [
  ⟨(some (18)), .extract (.tmp 12) 0, none, []⟩, 
  ⟨(some (19)), .extract (.tmp 12) 1, none, [6]⟩, 
  ⟨(some (20)), .extract (.tmp 12) 2, none, [6, 7]⟩, 
  ⟨(some (2)), .move (.tmp 18), none, [7, 8]⟩, 
  ⟨(some (3)), .move (.tmp 19), none, [8]⟩], 
  [
  ⟨(some (4)), .move (.tmp 20), none, []⟩]]
theorem k_law03_verdicts_r2_sg : segs k_law03_verdicts_r2 = k_law03_verdicts_r2s := by kernel_rfl
theorem k_law03_verdicts_r2_st : statOK k_law03_verdicts_r2 = true := by kernel_rfl
def k_law03_verdicts_r3 : List AOper := [
  ⟨(some (21)), .fieldAddr 3 (.tmp 1), none, []⟩, 
  ⟨none, .store 1 (.tmp 21) (.const (.int .i64 899)), none, []⟩]
def k_law03_verdicts_r4 : List AOper := [
  ⟨(some (23)), .call (.const (.fn (.func 51) [] [])) [], none, []⟩, 
  ⟨(some (24)), .load (some (5)) (.tmp 1), none, [0]⟩, 
  ⟨(some (25)), .call (.const (.fn (.func 53) [] [])) [], none, [1]⟩, 
  ⟨(some (26)), .buildSlice 3 [.tmp 25], none, [1]⟩, 
  ⟨(some (27)), .call (.const (.fn (.func 46) [] [])) [.tmp 23, .tmp 24, .tmp 26], none, []⟩, 
  ⟨(some (22)), .move (.tmp 27), none, []⟩, 
  ⟨(some (28)), .extract (.tmp 22) 0, none, []⟩, 
  ⟨(some (29)), .extract (.tmp 22) 1, none, [6]⟩, 
  ⟨(some (30)), .extract (.tmp 22) 2, none, [6, 7]⟩, 
  ⟨(some (5)), .move (.tmp 28), none, [7, 8]⟩, 
  ⟨(some (6)), .move (.tmp 29), none, [8]⟩, 
  ⟨(some (7)), .move (.tmp 30), none, []⟩]
def k_law03_verdicts_r4s : List (List AOper) := [
  [
  ⟨(some (23)), .call (.const (.fn (.func 51) [] [])) [], none, []⟩, 
  ⟨(some (24)), .load (some (5)) (.tmp 1), none, [0]⟩, 
  ⟨(some (25)), .call (.const (.fn (.func 53) [] [])) [], none, [1]⟩, 
  ⟨(some (26)), .buildSlice 3 [.tmp 25], none, [1]⟩], 
  [
  ⟨(some (27)), .call (.const (.fn (.func 46) [] [])) [.tmp 23, .tmp 24, .tmp 26], none, []⟩], 
  [
  ⟨(some (22)), .move (.tmp 27), none, []⟩], 
  [
  ⟨(some (28)), .extract (.tmp 22) 0, none, []⟩, 
  ⟨(some (29)), .extract (.tmp 22) 1, none, [6]⟩, 
  ⟨(some (30)), .extract (.tmp 22) 2, none, [6, 7]⟩, 
  ⟨(some (5)), .move (.tmp 28), none, [7, 8]⟩, 
  ⟨(some (6)), .move (.tmp 29), none, [8]⟩], 
  [
  ⟨(some (7)), .move (.tmp 30), none, []⟩]]
theorem k_law03_verdicts_r4_sg : segs k_law03_verdicts_r4 = k_law03_verdicts_r4s := by kernel_rfl
theorem k_law03_verdicts_r4_st : statOK k_law03_verdicts_r4 = true := by kernel_rfl
def k_law03_verdicts_r5 : List AOper := [
  ⟨(some (32)), .call (.const (.fn (.func 51) [] [])) [], none, []⟩, 
  ⟨(some (33)), .build [.int .i64 0, .int .i64 0, .int .i64 0, .int .i64 0, .int .i64 0] [(0, 1, .const (.int .i64 1000)), (1, 1, .const (.int .i64 9)), (2, 1, .const (.int .i64 9)), (3, 1, .const (.int .i64 900))], none, []⟩, 
  ⟨(some (34)), .build [.int .i64 0, .int .i64 0, .int .i64 0] [(0, 1, .const (.int .i64 1)), (1, 1, .const (.int .i64 1100))], none, []⟩, 
  ⟨(some (35)), .call (.const (.fn (.func 53) [] [])) [], none, []⟩, 
  ⟨(some (36)), .buildSlice 3 [.tmp 34, .tmp 35], none, []⟩, 
  ⟨(some (37)), .call (.const (.fn (.func 48) [] [])) [.tmp 32, .tmp 33, .tmp 36, .const (.int .i64 3)], none, []⟩, 
  ⟨(some (31)), .move (.tmp 37), none, []⟩, 
  ⟨(some (38)), .extract (.tmp 31) 0, none, []⟩, 
  ⟨(some (39)), .extract (.tmp 31) 1, none, []⟩, 
  ⟨(some (40)), .extract (.tmp 31) 2, none, []⟩, 
  ⟨(some (8)), .move (.tmp 38), none, []⟩, 
  ⟨(some (9)), .move (.tmp 39), none, []⟩, 
  ⟨(some (10)), .move (.tmp 40), none, []⟩]
def k_law03_verdicts_r6 : List AOper := [
  ⟨(some (41)), .move (.tmp 4), none, []⟩, 
  ⟨(some (42)), .bin .plain .eql (.tmp 41) (.const (.int .i64 0)), none, []⟩, 
  ⟨(some (43)), .move (.tmp 42), none, []⟩, 
  ⟨(some (44)), .move (.tmp 7), (some (43, true)), []⟩, 
  ⟨(some (45)), .bin .plain .eql (.tmp 44) (.const (.int .i64 0)), (some (43, true)), []⟩, 
  ⟨(some (46)), .pick (.tmp 43) (.tmp 45) (.const (.bool false)), none, []⟩, 
  ⟨(some (47)), .move (.tmp 46), none, []⟩, 
  ⟨(some (48)), .move (.tmp 10), (some (47, true)), []⟩, 
  ⟨(some (49)), .bin .plain .eql (.tmp 48) (.const (.int .i64 0)), (some (47, true)), []⟩, 
  ⟨(some (50)), .pick (.tmp 47) (.tmp 49) (.const (.bool false)), none, []⟩, 
  ⟨(some (51)), .move (.tmp 50), none, []⟩, 
  ⟨(some (52)), .move (.tmp 2), (some (51, true)), []⟩, 
  ⟨(some (53)), .bin .plain .eql (.tmp 52) (.const (.int .i64 1)), (some (51, true)), []⟩, 
  ⟨(some (54)), .pick (.tmp 51) (.tmp 53) (.const (.bool false)), none, []⟩, 
  ⟨(some (55)), .move (.tmp 54), none, []⟩, 
  ⟨(some (56)), .move (.tmp 3), (some (55, true)), []⟩, 
  ⟨(some (57)), .bin .plain .eql (.tmp 56) (.const (.int .i64 0)), (some (55, true)), []⟩, 
  ⟨(some (58)), .pick (.tmp 55) (.tmp 57) (.const (.bool false)), none, []⟩, 
  ⟨(some (59)), .move (.tmp 58), none, []⟩, 
  ⟨(some (60)), .move (.tmp 5), (some (59, true)), []⟩, 
  ⟨(some (61)), .bin .plain .eql (.tmp 60) (.const (.int .i64 3)), (some (59, true)), []⟩, 
  ⟨(some (62)), .pick (.tmp 59) (.tmp 61) (.const (.bool false)), none, []⟩, 
  ⟨(some (63)), .move (.tmp 62), none, []⟩, 
  ⟨(some (64)), .move (.tmp 6), (some (63, true)), []⟩, 
  ⟨(some (65)), .bin .plain .eql (.tmp 64) (.const (.int .i64 2)), (some (63, true)), []⟩, 
  ⟨(some (66)), .pick (.tmp 63) (.tmp 65) (.const (.bool false)), none, []⟩, 
  ⟨(some (67)), .move (.tmp 66), none, []⟩, 
  ⟨(some (68)), .move (.tmp 8), (some (67, true)), []⟩, 
  ⟨(some (69)), .buildSlice 1 [.const (.int .i64 1)], (some (67, true)), []⟩, 
  ⟨(some (70)), .call (.const (.fn (.func 50) [] [])) [.tmp 68, .tmp 69], (some (67, true)), []⟩, 
  ⟨(some (71)), .pick (.tmp 67) (.tmp 70) (.const (.bool false)), none, []⟩, 
  ⟨(some (72)), .move (.tmp 71), none, []⟩, 
  ⟨(some (73)), .move (.tmp 9), (some (72, true)), []⟩, 
  ⟨(some (74)), .bin .plain .eql (.tmp 73) (.const (.int .i64 2)), (some (72, true)), []⟩, 
  ⟨(some (75)), .pick (.tmp 72) (.tmp 74) (.const (.bool false)), none, []⟩, 
  ⟨(some (0)), .move (.tmp 75), none, []⟩]
def k_law03_verdicts : AFun := { params := 0, ntmps := 76, body := (.seq (.reg k_law03_verdicts_r0 false) (.seq (.reg k_law03_verdicts_r1 false) (.seq (.reg k_law03_verdicts_r2 true) (.seq (.reg k_law03_verdicts_r3 false) (.seq (.reg k_law03_verdicts_r4 true) (.seq (.reg k_law03_verdicts_r5 false) (.seq (.reg k_law03_verdicts_r6 false) .ret))))))), res := [.tmp 0] }
theorem k_law03_verdicts_ok : cfun Try.prog Try.f57 = k_law03_verdicts := by kernel_rfl

-- 97: thermion/cathode.checkMenu
def k_cathode_checkMenu_r0 : List AOper := [
  ⟨(some (4)), .move (.const (.int .i64 0)), none, []⟩]
def k_cathode_checkMenu_r1 : List AOper := [
  ⟨(some (8)), .move (.tmp 0), none, []⟩, 
  ⟨(some (9)), .len false (.tmp 8), none, []⟩, 
  ⟨(some (10)), .bin .plain .eql (.tmp 9) (.const (.int .i64 0)), none, []⟩]
def k_cathode_checkMenu_r2 : List AOper := [
  ⟨(some (4)), .move (.const (.int .i64 6)), none, []⟩]
def k_cathode_checkMenu_r3 : List AOper := [
  ⟨(some (11)), .move (.tmp 0), none, []⟩, 
  ⟨(some (12)), .len false (.tmp 11), none, []⟩, 
  ⟨(some (13)), .bin .plain .gtr (.tmp 12) (.const (.int .i64 4)), none, []⟩]
def k_cathode_checkMenu_r4 : List AOper := [
  ⟨(some (4)), .move (.const (.int .i64 8)), none, []⟩]
def k_cathode_checkMenu_r5 : List AOper := [
  ⟨(some (14)), .move (.tmp 0), none, []⟩, 
  ⟨(some (15)), .call (.const (.fn (.func 29) [] [])) [.tmp 14], none, []⟩, 
  ⟨(some (5)), .move (.tmp 15), none, []⟩]
def k_cathode_checkMenu_r6 : List AOper := [
  ⟨(some (16)), .move (.tmp 5), none, []⟩, 
  ⟨(some (17)), .bin .plain .neq (.tmp 16) (.const (.int .i64 0)), none, []⟩]
def k_cathode_checkMenu_r7 : List AOper := [
  ⟨(some (18)), .move (.tmp 5), none, []⟩, 
  ⟨(some (4)), .move (.tmp 18), none, []⟩]
def k_cathode_checkMenu_r8 : List AOper := [
  ⟨(some (19)), .move (.tmp 0), none, []⟩, 
  ⟨(some (20)), .len false (.tmp 19), none, []⟩, 
  ⟨(some (21)), .move (.const (.int .i64 0)), none, []⟩]
def k_cathode_checkMenu_r9 : List AOper := [
  ⟨(some (22)), .bin .plain .lss (.tmp 21) (.tmp 20), none, []⟩]
def k_cathode_checkMenu_r10 : List AOper := [
  ⟨(some (23)), .indexAddr 3 (.tmp 19) (.tmp 21), none, []⟩, 
  ⟨(some (24)), .load (some (3)) (.tmp 23), none, []⟩, 
  ⟨(some (7)), .box (.const (.agg [.int .i64 0, .int .i64 0, .int .i64 0])), none, []⟩, 
  ⟨none, .store 3 (.tmp 7) (.tmp 24), none, []⟩]
def k_cathode_checkMenu_r11 : List AOper := [
  ⟨(some (25)), .fieldAddr 0 (.tmp 7), none, []⟩, 
  ⟨(some (26)), .load none (.tmp 25), none, []⟩, 
  ⟨(some (27)), .bin .plain .gtr (.tmp 26) (.const (.int .i64 100)), none, []⟩]
def k_cathode_checkMenu_r12 : List AOper := [
  ⟨(some (4)), .move (.const (.int .i64 2)), none, []⟩]
def k_cathode_checkMenu_r13 : List AOper := [
  ⟨(some (28)), .bin .plain .add (.tmp 21) (.const (.int .i64 1)), none, []⟩, 
  ⟨(some (21)), .move (.tmp 28), none, []⟩]
def k_cathode_checkMenu_r14 : ACode := (.seq (.reg k_cathode_checkMenu_r9 false) (.seq (.cond (.tmp 22) .skip (.exit 0)) (.seq (.block 1 (.seq (.reg k_cathode_checkMenu_r10 false) (.seq (.reg k_cathode_checkMenu_r11 false) (.cond (.tmp 27) (.seq (.reg k_cathode_checkMenu_r12 false) .ret) .skip)))) (.reg k_cathode_checkMenu_r13 false))))
def k_cathode_checkMenu_r15 : List AOper := [
  ⟨(some (29)), .move (.tmp 1), none, []⟩, 
  ⟨(some (30)), .call (.const (.fn (.func 67) [] [])) [.tmp 29, .const (.int .i64 1), .const (.int .i64 5)], none, []⟩, 
  ⟨(some (31)), .not (.tmp 30), none, []⟩]
def k_cathode_checkMenu_r16 : List AOper := [
  ⟨(some (4)), .move (.const (.int .i64 2)), none, []⟩]
def k_cathode_checkMenu_r17 : List AOper := [
  ⟨(some (4)), .move (.const (.int .i64 0)), none, []⟩]
def k_cathode_checkMenu : AFun := { params := 2, ntmps := 32, body := (.seq (.reg k_cathode_checkMenu_r0 false) (.seq (.seq (.reg k_cathode_checkMenu_r1 false) (.cond (.tmp 10) (.seq (.reg k_cathode_checkMenu_r2 false) .ret) .skip)) (.seq (.seq (.reg k_cathode_checkMenu_r3 false) (.cond (.tmp 13) (.seq (.reg k_cathode_checkMenu_r4 false) .ret) .skip)) (.seq (.seq (.reg k_cathode_checkMenu_r5 false) (.seq (.reg k_cathode_checkMenu_r6 false) (.cond (.tmp 17) (.seq (.reg k_cathode_checkMenu_r7 false) .ret) .skip))) (.seq (.seq (.reg k_cathode_checkMenu_r8 false) (.block 0 (.loop k_cathode_checkMenu_r14))) (.seq (.seq (.reg k_cathode_checkMenu_r15 false) (.cond (.tmp 31) (.seq (.reg k_cathode_checkMenu_r16 false) .ret) .skip)) (.seq (.reg k_cathode_checkMenu_r17 false) .ret))))))), res := [.tmp 4] }
theorem k_cathode_checkMenu_ok : cfun Try.prog Try.f97 = k_cathode_checkMenu := by kernel_rfl

-- 98: thermion/cathode.lists
def k_cathode_lists_r0 : List AOper := [
  ⟨(some (2)), .box (.tmp 0), none, []⟩, 
  ⟨(some (3)), .box (.tmp 1), none, []⟩, 
  ⟨(some (4)), .move (.const (.nilfn)), none, []⟩]
def k_cathode_lists_r1 : List AOper := [
  ⟨(some (5)), .makeFunc (.func 126) [] [.tmp 3, .tmp 2], none, []⟩, 
  ⟨(some (4)), .move (.tmp 5), none, []⟩]
def k_cathode_lists : AFun := { params := 2, ntmps := 6, body := (.seq (.reg k_cathode_lists_r0 false) (.seq (.reg k_cathode_lists_r1 false) .ret)), res := [.tmp 4] }
theorem k_cathode_lists_ok : cfun Try.prog Try.f98 = k_cathode_lists := by kernel_rfl

-- 99: thermion/cathode.chosen
def k_cathode_chosen_r0 : List AOper := [
  ⟨(some (4)), .move (.const (.nilsl)), none, []⟩]
def k_cathode_chosen_r1 : List AOper := [
  ⟨(some (5)), .move (.const (.nilsl)), none, []⟩]
def k_cathode_chosen_r2 : List AOper := [
  ⟨(some (8)), .move (.tmp 1), none, []⟩, 
  ⟨(some (9)), .len false (.tmp 8), none, []⟩, 
  ⟨(some (10)), .move (.const (.int .i64 0)), none, []⟩]
def k_cathode_chosen_r3 : List AOper := [
  ⟨(some (11)), .bin .plain .lss (.tmp 10) (.tmp 9), none, []⟩]
def k_cathode_chosen_r4 : List AOper := [
  ⟨(some (12)), .indexAddr 1 (.tmp 8) (.tmp 10), none, []⟩, 
  ⟨(some (13)), .load none (.tmp 12), none, []⟩, 
  ⟨(some (7)), .move (.tmp 13), none, []⟩]
def k_cathode_chosen_r5 : List AOper := [
  ⟨(some (14)), .move (.tmp 5), none, []⟩, 
  ⟨(some (15)), .move (.tmp 0), none, []⟩, 
  ⟨(some (16)), .move (.tmp 7), none, []⟩, 
  ⟨(some (17)), .indexAddr 3 (.tmp 15) (.tmp 16), none, []⟩, 
  ⟨(some (18)), .load (some (3)) (.tmp 17), none, []⟩, 
  ⟨(some (19)), .buildSlice 3 [.tmp 18], none, []⟩, 
  ⟨(some (20)), .append 3 24 true (.tmp 14) (.tmp 19), none, []⟩, 
  ⟨(some (5)), .move (.tmp 20), none, []⟩]
def k_cathode_chosen_r6 : List AOper := [
  ⟨(some (21)), .bin .plain .add (.tmp 10) (.const (.int .i64 1)), none, []⟩, 
  ⟨(some (10)), .move (.tmp 21), none, []⟩]
def k_cathode_chosen_r7 : ACode := (.seq (.reg k_cathode_chosen_r3 false) (.seq (.cond (.tmp 11) .skip (.exit 0)) (.seq (.block 1 (.seq (.reg k_cathode_chosen_r4 false) (.reg k_cathode_chosen_r5 false))) (.reg k_cathode_chosen_r6 false))))
def k_cathode_chosen_r8 : List AOper := [
  ⟨(some (22)), .move (.tmp 5), none, []⟩, 
  ⟨(some (4)), .move (.tmp 22), none, []⟩]
def k_cathode_chosen : AFun := { params := 2, ntmps := 23, body := (.seq (.reg k_cathode_chosen_r0 false) (.seq (.reg k_cathode_chosen_r1 false) (.seq (.seq (.reg k_cathode_chosen_r2 false) (.block 0 (.loop k_cathode_chosen_r7))) (.seq (.reg k_cathode_chosen_r8 false) .ret)))), res := [.tmp 4] }
theorem k_cathode_chosen_ok : cfun Try.prog Try.f99 = k_cathode_chosen := by kernel_rfl

-- 100: slices.Clone[[]int,int]
def k_slices_Clone_int_int_r0 : List AOper := [
  ⟨(some (2)), .move (.const (.nilsl)), none, []⟩]
def k_slices_Clone_int_int_r1 : List AOper := [
  ⟨(some (3)), .move (.tmp 0), none, []⟩, 
  ⟨(some (4)), .bin .slice .eql (.tmp 3) (.const (.nilsl)), none, []⟩]
def k_slices_Clone_int_int_r2 : List AOper := [
  ⟨(some (2)), .move (.const (.nilsl)), none, []⟩]
def k_slices_Clone_int_int_r3 : List AOper := [
  ⟨(some (5)), .buildSlice 1 [], none, []⟩, 
  ⟨(some (6)), .move (.tmp 0), none, []⟩, 
  ⟨(some (7)), .append 1 8 false (.tmp 5) (.tmp 6), none, []⟩, 
  ⟨(some (2)), .move (.tmp 7), none, []⟩]
def k_slices_Clone_int_int : AFun := { params := 1, ntmps := 8, body := (.seq (.reg k_slices_Clone_int_int_r0 false) (.seq (.seq (.reg k_slices_Clone_int_int_r1 false) (.cond (.tmp 4) (.seq (.reg k_slices_Clone_int_int_r2 false) .ret) .skip)) (.seq (.reg k_slices_Clone_int_int_r3 false) .ret))), res := [.tmp 2] }
theorem k_slices_Clone_int_int_ok : cfun Try.prog Try.f100 = k_slices_Clone_int_int := by kernel_rfl

-- 126: thermion/cathode.lists$1
def k_cathode_lists_1_r0 : List AOper := [
  ⟨(some (4)), .move (.const (.int .i64 1)), none, []⟩]
def k_cathode_lists_1_r1 : List AOper := [
  ⟨(some (7)), .move (.tmp 4), none, []⟩, 
  ⟨(some (8)), .load none (.tmp 1), none, []⟩, 
  ⟨(some (9)), .bin .plain .leq (.tmp 7) (.tmp 8), none, []⟩]
def k_cathode_lists_1_r2 : List AOper := [
  ⟨(some (12)), .move (.tmp 4), none, []⟩, 
  ⟨(some (13)), .makeSlice (.int .i64 0) 8 (.tmp 12) (.tmp 12), none, []⟩, 
  ⟨(some (5)), .move (.tmp 13), none, []⟩]
def k_cathode_lists_1_r3 : List AOper := [
  ⟨(some (6)), .move (.const (.bool true)), none, []⟩]
def k_cathode_lists_1_r4 : List AOper := [
  ⟨(some (14)), .move (.tmp 6), none, []⟩]
def k_cathode_lists_1_r5 : List AOper := [
  ⟨(some (18)), .move (.tmp 0), none, []⟩, 
  ⟨(some (19)), .move (.tmp 5), none, []⟩, 
  ⟨(some (20)), .call (.tmp 18) [.tmp 19], none, []⟩, 
  ⟨(some (21)), .not (.tmp 20), none, []⟩]
def k_cathode_lists_1_r6 : List AOper := [
  ⟨(some (15)), .move (.tmp 5), none, []⟩, 
  ⟨(some (16)), .load none (.tmp 2), none, []⟩, 
  ⟨(some (17)), .call (.const (.fn (.func 127) [] [])) [.tmp 15, .tmp 16], none, []⟩, 
  ⟨(some (6)), .move (.tmp 17), none, []⟩]
def k_cathode_lists_1_r7 : ACode := (.seq (.seq (.reg k_cathode_lists_1_r4 false) (.cond (.tmp 14) .skip (.exit 2))) (.seq (.block 3 (.seq (.reg k_cathode_lists_1_r5 false) (.cond (.tmp 21) .ret .skip))) (.reg k_cathode_lists_1_r6 false)))
def k_cathode_lists_1_r8 : List AOper := [
  ⟨(some (10)), .move (.tmp 4), none, []⟩, 
  ⟨(some (11)), .bin .plain .add (.tmp 10) (.const (.int .i64 1)), none, []⟩, 
  ⟨(some (4)), .move (.tmp 11), none, []⟩]
def k_cathode_lists_1_r9 : ACode := (.seq (.seq (.reg k_cathode_lists_1_r1 false) (.cond (.tmp 9) .skip (.exit 0))) (.seq (.block 1 (.seq (.reg k_cathode_lists_1_r2 false) (.seq (.reg k_cathode_lists_1_r3 false) (.block 2 (.loop k_cathode_lists_1_r7))))) (.reg k_cathode_lists_1_r8 false)))
def k_cathode_lists_1 : AFun := { params := 3, ntmps := 22, body := (.seq (.reg k_cathode_lists_1_r0 false) (.block 0 (.loop k_cathode_lists_1_r9))), res := [] }
theorem k_cathode_lists_1_ok : cfun Try.prog Try.f126 = k_cathode_lists_1 := by kernel_rfl

-- 127: thermion/cathode.advance
def k_cathode_advance_r0 : List AOper := [
  ⟨(some (2)), .box (.tmp 0), none, []⟩, 
  ⟨(some (3)), .box (.tmp 1), none, []⟩, 
  ⟨(some (4)), .box (.const (.bool false)), none, []⟩]
def k_cathode_advance_r1 : List AOper := [
  ⟨(some (7)), .load none (.tmp 2), none, []⟩, 
  ⟨(some (8)), .call (.const (.fn (.func 137) [] [])) [.tmp 7], none, []⟩]
def k_cathode_advance_r2 : List AOper := [
  ⟨(some (5)), .move (.tmp 9), none, []⟩]
def k_cathode_advance_r3 : List AOper := [
  ⟨(some (6)), .move (.tmp 10), none, []⟩]
def k_cathode_advance_r4 : List AOper := [
  ⟨(some (11)), .move (.tmp 6), none, []⟩, 
  ⟨(some (12)), .bin .plain .add (.tmp 11) (.const (.int .i64 1)), none, []⟩, 
  ⟨(some (13)), .load none (.tmp 3), none, []⟩, 
  ⟨(some (14)), .bin .plain .lss (.tmp 12) (.tmp 13), none, []⟩]
def k_cathode_advance_r5 : List AOper := [
  ⟨(some (15)), .load none (.tmp 2), none, []⟩, 
  ⟨(some (16)), .move (.tmp 5), none, []⟩, 
  ⟨(some (17)), .indexAddr 1 (.tmp 15) (.tmp 16), none, []⟩, 
  ⟨(some (18)), .load none (.tmp 17), none, []⟩, 
  ⟨(some (19)), .bin .plain .add (.tmp 18) (.const (.int .i64 1)), none, []⟩, 
  ⟨(some (20)), .indexAddr 1 (.tmp 15) (.tmp 16), none, []⟩, 
  ⟨none, .store 1 (.tmp 20) (.tmp 19), none, []⟩]
def k_cathode_advance_r6 : List AOper := [
  ⟨none, .store 1 (.tmp 4) (.const (.bool true)), none, []⟩]
def k_cathode_advance_r7 : List AOper := [
  ⟨(some (21)), .load none (.tmp 2), none, []⟩, 
  ⟨(some (22)), .move (.tmp 5), none, []⟩, 
  ⟨(some (23)), .indexAddr 1 (.tmp 21) (.tmp 22), none, []⟩, 
  ⟨none, .store 1 (.tmp 23) (.const (.int .i64 0)), none, []⟩]
def k_cathode_advance_r8 : ACode := (.seq (.reg k_cathode_advance_r2 false) (.reg k_cathode_advance_r3 false))
def k_cathode_advance_r9 : ACode := (.block 1 (.seq (.seq (.reg k_cathode_advance_r4 false) (.cond (.tmp 14) (.seq (.reg k_cathode_advance_r5 false) (.seq (.reg k_cathode_advance_r6 false) .ret)) .skip)) (.reg k_cathode_advance_r7 false)))
def k_cathode_advance_r10 : List AOper := [
  ⟨none, .store 1 (.tmp 4) (.const (.bool false)), none, []⟩]
def k_cathode_advance : AFun := { params := 2, ntmps := 24, body := (.seq (.reg k_cathode_advance_r0 false) (.seq (.seq (.reg k_cathode_advance_r1 false) (.block 0 (.rng (.tmp 8) [9, 10] k_cathode_advance_r8 k_cathode_advance_r9))) (.seq (.reg k_cathode_advance_r10 false) .ret))), res := [.cell 4 (some (none))] }
theorem k_cathode_advance_ok : cfun Try.prog Try.f127 = k_cathode_advance := by kernel_rfl

-- 137: slices.Backward[[]int,int]
def k_slices_Backward_int_int_r0 : List AOper := [
  ⟨(some (1)), .box (.tmp 0), none, []⟩, 
  ⟨(some (2)), .move (.const (.nilfn)), none, []⟩]
def k_slices_Backward_int_int_r1 : List AOper := [
  ⟨(some (3)), .makeFunc (.func 138) [] [.tmp 1], none, []⟩, 
  ⟨(some (2)), .move (.tmp 3), none, []⟩]
def k_slices_Backward_int_int : AFun := { params := 1, ntmps := 4, body := (.seq (.reg k_slices_Backward_int_int_r0 false) (.seq (.reg k_slices_Backward_int_int_r1 false) .ret)), res := [.tmp 2] }
theorem k_slices_Backward_int_int_ok : cfun Try.prog Try.f137 = k_slices_Backward_int_int := by kernel_rfl

-- 138: slices.Backward[[]int,int]$1
def k_slices_Backward_int_int_1_r0 : List AOper := [
  ⟨(some (4)), .load none (.tmp 1), none, []⟩, 
  ⟨(some (5)), .len false (.tmp 4), none, []⟩, 
  ⟨(some (6)), .bin .plain .sub (.tmp 5) (.const (.int .i64 1)), none, []⟩, 
  ⟨(some (3)), .move (.tmp 6), none, []⟩]
def k_slices_Backward_int_int_1_r1 : List AOper := [
  ⟨(some (7)), .move (.tmp 3), none, []⟩, 
  ⟨(some (8)), .bin .plain .geq (.tmp 7) (.const (.int .i64 0)), none, []⟩]
def k_slices_Backward_int_int_1_r2 : List AOper := [
  ⟨(some (11)), .move (.tmp 0), none, []⟩, 
  ⟨(some (12)), .move (.tmp 3), none, []⟩, 
  ⟨(some (13)), .load none (.tmp 1), none, []⟩, 
  ⟨(some (14)), .move (.tmp 3), none, []⟩, 
  ⟨(some (15)), .indexAddr 1 (.tmp 13) (.tmp 14), none, []⟩, 
  ⟨(some (16)), .load none (.tmp 15), none, []⟩, 
  ⟨(some (17)), .call (.tmp 11) [.tmp 12, .tmp 16], none, []⟩, 
  ⟨(some (18)), .not (.tmp 17), none, []⟩]
def k_slices_Backward_int_int_1_r3 : List AOper := [
  ⟨(some (9)), .move (.tmp 3), none, []⟩, 
  ⟨(some (10)), .bin .plain .sub (.tmp 9) (.const (.int .i64 1)), none, []⟩, 
  ⟨(some (3)), .move (.tmp 10), none, []⟩]
def k_slices_Backward_int_int_1_r4 : ACode := (.seq (.seq (.reg k_slices_Backward_int_int_1_r1 false) (.cond (.tmp 8) .skip (.exit 0))) (.seq (.block 1 (.seq (.reg k_slices_Backward_int_int_1_r2 false) (.cond (.tmp 18) .ret .skip))) (.reg k_slices_Backward_int_int_1_r3 false)))
def k_slices_Backward_int_int_1 : AFun := { params := 2, ntmps := 19, body := (.seq (.reg k_slices_Backward_int_int_1_r0 false) (.block 0 (.loop k_slices_Backward_int_int_1_r4))), res := [] }
theorem k_slices_Backward_int_int_1_ok : cfun Try.prog Try.f138 = k_slices_Backward_int_int_1 := by kernel_rfl


abbrev n_law03_CathodeKnown : Nat := 9
theorem e_law03_CathodeKnown : EntryOK Try.prog n_law03_CathodeKnown k_law03_CathodeKnown := ⟨Try.f9, Try.func9, k_law03_CathodeKnown_ok, by kernel_rfl⟩
abbrev n_cathode_Shortest : Nat := 48
theorem e_cathode_Shortest : EntryOK Try.prog n_cathode_Shortest k_cathode_Shortest := ⟨Try.f48, Try.func48, k_cathode_Shortest_ok, by kernel_rfl⟩
abbrev n_kit_Same : Nat := 50
theorem e_kit_Same : EntryOK Try.prog n_kit_Same k_kit_Same := ⟨Try.f50, Try.func50, k_kit_Same_ok, by kernel_rfl⟩
abbrev n_law03_courses : Nat := 56
theorem e_law03_courses : EntryOK Try.prog n_law03_courses k_law03_courses := ⟨Try.f56, Try.func56, k_law03_courses_ok, by kernel_rfl⟩
abbrev n_law03_verdicts : Nat := 57
theorem e_law03_verdicts : EntryOK Try.prog n_law03_verdicts k_law03_verdicts := ⟨Try.f57, Try.func57, k_law03_verdicts_ok, by kernel_rfl⟩
abbrev n_cathode_checkMenu : Nat := 97
theorem e_cathode_checkMenu : EntryOK Try.prog n_cathode_checkMenu k_cathode_checkMenu := ⟨Try.f97, Try.func97, k_cathode_checkMenu_ok, by kernel_rfl⟩
abbrev n_cathode_lists : Nat := 98
theorem e_cathode_lists : EntryOK Try.prog n_cathode_lists k_cathode_lists := ⟨Try.f98, Try.func98, k_cathode_lists_ok, by kernel_rfl⟩
abbrev n_cathode_chosen : Nat := 99
theorem e_cathode_chosen : EntryOK Try.prog n_cathode_chosen k_cathode_chosen := ⟨Try.f99, Try.func99, k_cathode_chosen_ok, by kernel_rfl⟩
abbrev n_slices_Clone_int_int : Nat := 100
theorem e_slices_Clone_int_int : EntryOK Try.prog n_slices_Clone_int_int k_slices_Clone_int_int := ⟨Try.f100, Try.func100, k_slices_Clone_int_int_ok, by kernel_rfl⟩
abbrev n_cathode_lists_1 : Nat := 126
theorem e_cathode_lists_1 : EntryOK Try.prog n_cathode_lists_1 k_cathode_lists_1 := ⟨Try.f126, Try.func126, k_cathode_lists_1_ok, by kernel_rfl⟩
abbrev n_cathode_advance : Nat := 127
theorem e_cathode_advance : EntryOK Try.prog n_cathode_advance k_cathode_advance := ⟨Try.f127, Try.func127, k_cathode_advance_ok, by kernel_rfl⟩
abbrev n_slices_Backward_int_int : Nat := 137
theorem e_slices_Backward_int_int : EntryOK Try.prog n_slices_Backward_int_int k_slices_Backward_int_int := ⟨Try.f137, Try.func137, k_slices_Backward_int_int_ok, by kernel_rfl⟩
abbrev n_slices_Backward_int_int_1 : Nat := 138
theorem e_slices_Backward_int_int_1 : EntryOK Try.prog n_slices_Backward_int_int_1 k_slices_Backward_int_int_1 := ⟨Try.f138, Try.func138, k_slices_Backward_int_int_1_ok, by kernel_rfl⟩

attribute [go_sem] k_law03_CathodeKnown_r0 k_law03_CathodeKnown_r1 k_law03_CathodeKnown_r2 k_law03_CathodeKnown_r3 k_law03_CathodeKnown_r4 k_law03_CathodeKnown_r5 k_law03_CathodeKnown_r6 k_law03_CathodeKnown_r8s k_law03_CathodeKnown_r9 k_law03_CathodeKnown_r10 k_law03_CathodeKnown_r11 k_law03_CathodeKnown_r12
attribute [go_sem] k_law03_CathodeKnown_r13s k_law03_CathodeKnown_r14 k_law03_CathodeKnown_r15s k_law03_CathodeKnown_r16s k_law03_CathodeKnown_r17 k_law03_CathodeKnown_r18s k_law03_CathodeKnown_r19 k_law03_CathodeKnown_r20 k_law03_CathodeKnown_r21s k_cathode_Shortest_r0 k_cathode_Shortest_r1 k_cathode_Shortest_r2
attribute [go_sem] k_cathode_Shortest_r3 k_cathode_Shortest_r4 k_cathode_Shortest_r5 k_cathode_Shortest_r6 k_cathode_Shortest_r7 k_cathode_Shortest_r8 k_cathode_Shortest_r9 k_cathode_Shortest_r10 k_cathode_Shortest_r11 k_cathode_Shortest_r12 k_cathode_Shortest_r13 k_cathode_Shortest_r14
attribute [go_sem] k_cathode_Shortest_r17 k_cathode_Shortest_r18 k_cathode_Shortest_r19s k_kit_Same_r0 k_kit_Same_r1 k_kit_Same_r2 k_kit_Same_r3 k_kit_Same_r4 k_kit_Same_r5s k_kit_Same_r6 k_kit_Same_r7 k_kit_Same_r9
attribute [go_sem] k_law03_courses_r0 k_law03_courses_r1 k_law03_courses_r2 k_law03_courses_r3 k_law03_courses_r4 k_law03_verdicts_r0 k_law03_verdicts_r1 k_law03_verdicts_r2s k_law03_verdicts_r3 k_law03_verdicts_r4s k_law03_verdicts_r5 k_law03_verdicts_r6
attribute [go_sem] k_cathode_checkMenu_r0 k_cathode_checkMenu_r1 k_cathode_checkMenu_r2 k_cathode_checkMenu_r3 k_cathode_checkMenu_r4 k_cathode_checkMenu_r5 k_cathode_checkMenu_r6 k_cathode_checkMenu_r7 k_cathode_checkMenu_r8 k_cathode_checkMenu_r9 k_cathode_checkMenu_r10 k_cathode_checkMenu_r11
attribute [go_sem] k_cathode_checkMenu_r12 k_cathode_checkMenu_r13 k_cathode_checkMenu_r15 k_cathode_checkMenu_r16 k_cathode_checkMenu_r17 k_cathode_lists_r0 k_cathode_lists_r1 k_cathode_chosen_r0 k_cathode_chosen_r1 k_cathode_chosen_r2 k_cathode_chosen_r3 k_cathode_chosen_r4
attribute [go_sem] k_cathode_chosen_r5 k_cathode_chosen_r6 k_cathode_chosen_r8 k_slices_Clone_int_int_r0 k_slices_Clone_int_int_r1 k_slices_Clone_int_int_r2 k_slices_Clone_int_int_r3 k_cathode_lists_1_r0 k_cathode_lists_1_r1 k_cathode_lists_1_r2 k_cathode_lists_1_r3 k_cathode_lists_1_r4
attribute [go_sem] k_cathode_lists_1_r5 k_cathode_lists_1_r6 k_cathode_lists_1_r8 k_cathode_advance_r0 k_cathode_advance_r1 k_cathode_advance_r2 k_cathode_advance_r3 k_cathode_advance_r4 k_cathode_advance_r5 k_cathode_advance_r6 k_cathode_advance_r7 k_cathode_advance_r10
attribute [go_sem] k_slices_Backward_int_int_r0 k_slices_Backward_int_int_r1 k_slices_Backward_int_int_1_r0 k_slices_Backward_int_int_1_r1 k_slices_Backward_int_int_1_r2 k_slices_Backward_int_int_1_r3 k_law03_CathodeKnown_r21_sg k_law03_CathodeKnown_r13_sg k_law03_CathodeKnown_r16_sg k_law03_verdicts_r2_sg k_law03_CathodeKnown_r15_sg k_law03_CathodeKnown_r8_sg
attribute [go_sem] k_kit_Same_r5_sg k_cathode_Shortest_r19_sg k_law03_verdicts_r4_sg k_law03_CathodeKnown_r18_sg k_law03_CathodeKnown_r21_st k_law03_CathodeKnown_r13_st k_law03_CathodeKnown_r16_st k_law03_verdicts_r2_st k_law03_CathodeKnown_r15_st k_law03_CathodeKnown_r8_st k_kit_Same_r5_st k_cathode_Shortest_r19_st
attribute [go_sem] k_law03_verdicts_r4_st k_law03_CathodeKnown_r18_st k_law03_CathodeKnown k_cathode_Shortest k_kit_Same k_law03_courses k_law03_verdicts k_cathode_checkMenu k_cathode_lists k_cathode_chosen k_slices_Clone_int_int k_cathode_lists_1
attribute [go_sem] k_cathode_advance k_slices_Backward_int_int k_slices_Backward_int_int_1

def tabLK : List (Nat × AFun) := [(25, k_cathode_Check), (29, k_cathode_CheckSchedule), (43, k_cathode_Possible), (46, k_cathode_Judge), (48, k_cathode_Shortest), (50, k_kit_Same), (51, k_law03_sample), (53, k_law03_hot), (56, k_law03_courses), (57, k_law03_verdicts), (67, k_cathode_within), (68, k_cathode_checkRanges), (72, k_cathode_rightHeat), (73, k_cathode_rightCurrent), (74, k_cathode_length), (78, k_cathode_fresh), (81, k_cathode_after), (86, k_cathode_ticks), (87, k_cathode_moved), (88, k_cathode_follows), (89, k_cathode_ratesAt), (93, k_cathode_checkDemand), (94, k_cathode_judge), (97, k_cathode_checkMenu), (98, k_cathode_lists), (99, k_cathode_chosen), (100, k_slices_Clone_int_int), (103, k_cathode_parts), (105, k_cathode_tick_gas), (106, k_cathode_tick_carbonate), (107, k_cathode_tick_oxide), (108, k_cathode_tick_barium), (109, k_cathode_tick_lost), (110, k_cathode_tick_wear), (113, k_cathode_ticks_1), (114, k_cathode_isIn), (115, k_cathode_remains), (116, k_cathode_alone), (117, k_cathode_sum), (118, k_sort_Search), (119, k_cathode_ratesAt_1), (120, k_cathode_looksOf), (121, k_cathode_judge_1), (122, k_cathode_looks_all), (126, k_cathode_lists_1), (127, k_cathode_advance), (128, k_cathode_partDown), (129, k_cathode_partUp), (130, k_cathode_looksOf_1), (131, k_cathode_atMost), (132, k_cathode_looksOf_2), (133, k_cathode_looksOf_3), (134, k_cathode_looksOf_4), (135, k_cathode_looksOf_5), (136, k_cathode_atLeast), (137, k_slices_Backward_int_int), (138, k_slices_Backward_int_int_1)]
def tabK (g : Nat) : Option AFun := tabGet tabLK g
theorem tabK_all : ∀ p ∈ tabLK, EntryOK Try.prog p.1 p.2 := AllOK.get (l := tabLK) (⟨e_cathode_Check, ⟨e_cathode_CheckSchedule, ⟨e_cathode_Possible, ⟨e_cathode_Judge, ⟨e_cathode_Shortest, ⟨e_kit_Same, ⟨e_law03_sample, ⟨e_law03_hot, ⟨e_law03_courses, ⟨e_law03_verdicts, ⟨e_cathode_within, ⟨e_cathode_checkRanges, ⟨e_cathode_rightHeat, ⟨e_cathode_rightCurrent, ⟨e_cathode_length, ⟨e_cathode_fresh, ⟨e_cathode_after, ⟨e_cathode_ticks, ⟨e_cathode_moved, ⟨e_cathode_follows, ⟨e_cathode_ratesAt, ⟨e_cathode_checkDemand, ⟨e_cathode_judge, ⟨e_cathode_checkMenu, ⟨e_cathode_lists, ⟨e_cathode_chosen, ⟨e_slices_Clone_int_int, ⟨e_cathode_parts, ⟨e_cathode_tick_gas, ⟨e_cathode_tick_carbonate, ⟨e_cathode_tick_oxide, ⟨e_cathode_tick_barium, ⟨e_cathode_tick_lost, ⟨e_cathode_tick_wear, ⟨e_cathode_ticks_1, ⟨e_cathode_isIn, ⟨e_cathode_remains, ⟨e_cathode_alone, ⟨e_cathode_sum, ⟨e_sort_Search, ⟨e_cathode_ratesAt_1, ⟨e_cathode_looksOf, ⟨e_cathode_judge_1, ⟨e_cathode_looks_all, ⟨e_cathode_lists_1, ⟨e_cathode_advance, ⟨e_cathode_partDown, ⟨e_cathode_partUp, ⟨e_cathode_looksOf_1, ⟨e_cathode_atMost, ⟨e_cathode_looksOf_2, ⟨e_cathode_looksOf_3, ⟨e_cathode_looksOf_4, ⟨e_cathode_looksOf_5, ⟨e_cathode_atLeast, ⟨e_slices_Backward_int_int, ⟨e_slices_Backward_int_int_1, trivial⟩⟩⟩⟩⟩⟩⟩⟩⟩⟩⟩⟩⟩⟩⟩⟩⟩⟩⟩⟩⟩⟩⟩⟩⟩⟩⟩⟩⟩⟩⟩⟩⟩⟩⟩⟩⟩⟩⟩⟩⟩⟩⟩⟩⟩⟩⟩⟩⟩⟩⟩⟩⟩⟩⟩⟩⟩)
theorem tabK_ok (g : Nat) (af : AFun) (h : tabK g = some af) : EntryOK Try.prog g af := by
  have h2 := tabK_all _ (tabGet_mem _ _ _ h)
  exact h2
end Go.Proofs
