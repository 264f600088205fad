/- A part of the proof. -/
import Derived.Test.YtdodlephmmpemaaPF
set_option linter.unusedSimpArgs false
set_option linter.unusedVariables false
namespace Go.Proofs
open Go Go.Sx

def k_law01_FieldGoods_r0 : List AOper := [
  ⟨(some (7)), .box (.tmp 0), none, []⟩, 
  ⟨(some (14)), .move (.const (.bool false)), none, []⟩]
def k_law01_FieldGoods_r1 : List AOper := [
  ⟨(some (23)), .load (some (4)) (.tmp 7), none, []⟩, 
  ⟨(some (24)), .move (.tmp 1), none, []⟩, 
  ⟨(some (25)), .move (.tmp 2), none, []⟩, 
  ⟨(some (26)), .move (.tmp 3), none, []⟩, 
  ⟨(some (27)), .buildSlice 1 [.tmp 24, .tmp 25, .tmp 26], none, []⟩, 
  ⟨(some (28)), .call (.const (.fn (.func 19) [] [])) [.tmp 23, .tmp 27], none, []⟩]
def k_law01_FieldGoods_r2 : List AOper := [
  ⟨(some (29)), .call (.const (.fn (.func 20) [] [])) [], none, []⟩, 
  ⟨(some (14)), .move (.tmp 29), none, []⟩]
def k_law01_FieldGoods_r3 : List AOper := [
  ⟨(some (30)), .move (.tmp 4), none, []⟩, 
  ⟨(some (31)), .call (.const (.fn (.func 22) [] [])) [.tmp 30], none, []⟩, 
  ⟨(some (15)), .move (.tmp 31), none, []⟩]
def k_law01_FieldGoods_r4 : List AOper := [
  ⟨(some (32)), .move (.tmp 15), none, []⟩, 
  ⟨(some (33)), .call (.const (.fn (.func 21) [] [])) [.tmp 32, .const (.int .i64 8), .const (.int .i64 6)], none, []⟩, 
  ⟨(some (16)), .box (.const (.agg [.int .i64 0, .int .i64 0, .bool false, .nilsl])), none, []⟩, 
  ⟨none, .store 4 (.tmp 16) (.tmp 33), none, []⟩]
def k_law01_FieldGoods_r5 : List AOper := [
  ⟨(some (34)), .move (.tmp 15), none, []⟩, 
  ⟨(some (35)), .load (some (4)) (.tmp 16), none, []⟩, 
  ⟨(some (36)), .call (.const (.fn (.func 37) [] [])) [.tmp 34, .tmp 35], none, []⟩, 
  ⟨(some (17)), .move (.tmp 36), none, []⟩]
def k_law01_FieldGoods_r6 : List AOper := [
  ⟨(some (38)), .load (some (4)) (.tmp 16), none, []⟩, 
  ⟨(some (39)), .move (.tmp 17), none, [0]⟩, 
  ⟨(some (40)), .move (.tmp 15), none, [0, 1]⟩, 
  ⟨(some (41)), .call (.const (.fn (.func 41) [] [])) [.tmp 40, .const (.int .i64 9)], none, [0, 1]⟩, 
  ⟨(some (42)), .call (.const (.fn (.func 39) [] [])) [.tmp 38, .tmp 39, .tmp 41], none, []⟩, 
  ⟨(some (37)), .move (.tmp 42), none, []⟩, 
  ⟨(some (43)), .extract (.tmp 37) 0, none, []⟩, 
  ⟨(some (44)), .extract (.tmp 37) 1, none, [6]⟩, 
  ⟨(some (18)), .box (.const (.agg [.nilsl, .nilsl, .int .i64 0, .bool false])), none, [0, 1, 2, 3, 4, 5, 6, 7]⟩, 
  ⟨none, .store 4 (.tmp 18) (.tmp 43), none, [7]⟩, 
  ⟨(some (19)), .move (.tmp 44), none, []⟩]
def k_law01_FieldGoods_r6s : List (List AOper) := [
  [
  ⟨(some (38)), .load (some (4)) (.tmp 16), none, []⟩, 
  ⟨(some (39)), .move (.tmp 17), none, [0]⟩, 
  ⟨(some (40)), .move (.tmp 15), none, [0, 1]⟩, 
  ⟨(some (41)), .call (.const (.fn (.func 41) [] [])) [.tmp 40, .const (.int .i64 9)], none, [0, 1]⟩, 
  ⟨(some (42)), .call (.const (.fn (.func 39) [] [])) [.tmp 38, .tmp 39, .tmp 41], none, []⟩, 
  ⟨(some (37)), .move (.tmp 42), none, []⟩, 
  ⟨(some (43)), .extract (.tmp 37) 0, none, []⟩, 
  ⟨(some (44)), .extract (.tmp 37) 1, none, [6]⟩, 
  ⟨(some (18)), .box (.const (.agg [.nilsl, .nilsl, .int .i64 0, .bool false])), none, [0, 1, 2, 3, 4, 5, 6, 7]⟩, 
  ⟨none, .store 4 (.tmp 18) (.tmp 43), none, [7]⟩], 
  [
  ⟨(some (19)), .move (.tmp 44), none, []⟩]]
theorem k_law01_FieldGoods_r6_sg : segs k_law01_FieldGoods_r6 = k_law01_FieldGoods_r6s := by kernel_rfl
theorem k_law01_FieldGoods_r6_st : statOK k_law01_FieldGoods_r6 = true := by kernel_rfl
def k_law01_FieldGoods_r7 : List AOper := [
  ⟨(some (45)), .move (.tmp 5), none, []⟩, 
  ⟨(some (46)), .fieldAddr 3 (.tmp 16), none, []⟩, 
  ⟨(some (47)), .load none (.tmp 46), none, []⟩, 
  ⟨(some (48)), .len false (.tmp 47), none, []⟩, 
  ⟨(some (49)), .call (.const (.fn (.func 23) [] [])) [.tmp 45, .tmp 48], none, []⟩, 
  ⟨(some (20)), .move (.tmp 49), none, []⟩]
def k_law01_FieldGoods_r8 : List AOper := [
  ⟨(some (50)), .move (.tmp 6), none, []⟩, 
  ⟨(some (51)), .call (.const (.fn (.func 23) [] [])) [.tmp 50, .const (.int .i64 4)], none, []⟩]
def k_law01_FieldGoods_r9 : List AOper := [
  ⟨(some (53)), .bin .plain .eql (.tmp 51) (.const (.int .i64 0)), none, []⟩, 
  ⟨(some (52)), .move (.tmp 53), none, []⟩]
def k_law01_FieldGoods_r10 : List AOper := [
  ⟨(some (54)), .fieldAddr 0 (.tmp 18), none, []⟩, 
  ⟨(some (55)), .load none (.tmp 54), none, []⟩, 
  ⟨(some (56)), .move (.tmp 20), none, [0, 1]⟩, 
  ⟨(some (57)), .fieldAddr 0 (.tmp 18), none, [0, 1, 2]⟩, 
  ⟨(some (58)), .load none (.tmp 57), none, [0, 1, 2]⟩, 
  ⟨(some (59)), .move (.tmp 20), none, [0, 1, 2, 3, 4]⟩, 
  ⟨(some (60)), .indexAddr 1 (.tmp 58) (.tmp 59), none, [0, 1, 2]⟩, 
  ⟨(some (61)), .load none (.tmp 60), none, [0, 1, 2]⟩, 
  ⟨(some (62)), .move (.tmp 6), none, [0, 1, 2, 3, 4, 5, 6, 7]⟩, 
  ⟨(some (63)), .bin .plain .quo (.tmp 62) (.const (.int .i64 4)), none, [0, 1, 2, 3, 4, 5, 6, 7]⟩, 
  ⟨(some (64)), .call (.const (.fn (.func 23) [] [])) [.tmp 63, .const (.int .i64 5)], none, [0, 1, 2, 3, 4, 5, 6, 7]⟩, 
  ⟨(some (65)), .bin .plain .add (.tmp 61) (.tmp 64), none, [0, 1, 2]⟩, 
  ⟨(some (66)), .bin .plain .sub (.tmp 65) (.const (.int .i64 1)), none, [0, 1, 2]⟩, 
  ⟨(some (67)), .indexAddr 1 (.tmp 55) (.tmp 56), none, []⟩, 
  ⟨none, .store 1 (.tmp 67) (.tmp 66), none, []⟩]
def k_law01_FieldGoods_r10s : List (List AOper) := [
  [
  ⟨(some (54)), .fieldAddr 0 (.tmp 18), none, []⟩, 
  ⟨(some (55)), .load none (.tmp 54), none, []⟩, 
  ⟨(some (56)), .move (.tmp 20), none, [0, 1]⟩, 
  ⟨(some (57)), .fieldAddr 0 (.tmp 18), none, [0, 1, 2]⟩, 
  ⟨(some (58)), .load none (.tmp 57), none, [0, 1, 2]⟩, 
  ⟨(some (59)), .move (.tmp 20), none, [0, 1, 2, 3, 4]⟩, 
  ⟨(some (60)), .indexAddr 1 (.tmp 58) (.tmp 59), none, [0, 1, 2]⟩, 
  ⟨(some (61)), .load none (.tmp 60), none, [0, 1, 2]⟩, 
  ⟨(some (62)), .move (.tmp 6), none, [0, 1, 2, 3, 4, 5, 6, 7]⟩, 
  ⟨(some (63)), .bin .plain .quo (.tmp 62) (.const (.int .i64 4)), none, [0, 1, 2, 3, 4, 5, 6, 7]⟩, 
  ⟨(some (64)), .call (.const (.fn (.func 23) [] [])) [.tmp 63, .const (.int .i64 5)], none, [0, 1, 2, 3, 4, 5, 6, 7]⟩, 
  ⟨(some (65)), .bin .plain .add (.tmp 61) (.tmp 64), none, [0, 1, 2]⟩, 
  ⟨(some (66)), .bin .plain .sub (.tmp 65) (.const (.int .i64 1)), none, [0, 1, 2]⟩], 
  [
  ⟨(some (67)), .indexAddr 1 (.tmp 55) (.tmp 56), none, []⟩], 
  [
  ⟨none, .store 1 (.tmp 67) (.tmp 66), none, []⟩]]
theorem k_law01_FieldGoods_r10_sg : segs k_law01_FieldGoods_r10 = k_law01_FieldGoods_r10s := by kernel_rfl
theorem k_law01_FieldGoods_r10_st : statOK k_law01_FieldGoods_r10 = true := by kernel_rfl
def k_law01_FieldGoods_r11 : List AOper := [
  ⟨(some (69)), .bin .plain .eql (.tmp 51) (.const (.int .i64 1)), none, []⟩, 
  ⟨(some (68)), .move (.tmp 69), none, []⟩]
def k_law01_FieldGoods_r12 : List AOper := [
  ⟨(some (70)), .fieldAddr 1 (.tmp 18), none, []⟩, 
  ⟨(some (71)), .load none (.tmp 70), none, []⟩, 
  ⟨(some (72)), .move (.tmp 20), none, [0, 1]⟩, 
  ⟨(some (73)), .fieldAddr 1 (.tmp 18), none, [0, 1, 2]⟩, 
  ⟨(some (74)), .load none (.tmp 73), none, [0, 1, 2]⟩, 
  ⟨(some (75)), .move (.tmp 20), none, [0, 1, 2, 3, 4]⟩, 
  ⟨(some (76)), .indexAddr 1 (.tmp 74) (.tmp 75), none, [0, 1, 2]⟩, 
  ⟨(some (77)), .load none (.tmp 76), none, [0, 1, 2]⟩, 
  ⟨(some (78)), .move (.tmp 6), none, [0, 1, 2, 3, 4, 5, 6, 7]⟩, 
  ⟨(some (79)), .bin .plain .quo (.tmp 78) (.const (.int .i64 4)), none, [0, 1, 2, 3, 4, 5, 6, 7]⟩, 
  ⟨(some (80)), .call (.const (.fn (.func 23) [] [])) [.tmp 79, .const (.int .i64 5)], none, [0, 1, 2, 3, 4, 5, 6, 7]⟩, 
  ⟨(some (81)), .bin .plain .sub (.tmp 77) (.tmp 80), none, [0, 1, 2]⟩, 
  ⟨(some (82)), .bin .plain .add (.tmp 81) (.const (.int .i64 1)), none, [0, 1, 2]⟩, 
  ⟨(some (83)), .indexAddr 1 (.tmp 71) (.tmp 72), none, []⟩, 
  ⟨none, .store 1 (.tmp 83) (.tmp 82), none, []⟩]
def k_law01_FieldGoods_r12s : List (List AOper) := [
  [
  ⟨(some (70)), .fieldAddr 1 (.tmp 18), none, []⟩, 
  ⟨(some (71)), .load none (.tmp 70), none, []⟩, 
  ⟨(some (72)), .move (.tmp 20), none, [0, 1]⟩, 
  ⟨(some (73)), .fieldAddr 1 (.tmp 18), none, [0, 1, 2]⟩, 
  ⟨(some (74)), .load none (.tmp 73), none, [0, 1, 2]⟩, 
  ⟨(some (75)), .move (.tmp 20), none, [0, 1, 2, 3, 4]⟩, 
  ⟨(some (76)), .indexAddr 1 (.tmp 74) (.tmp 75), none, [0, 1, 2]⟩, 
  ⟨(some (77)), .load none (.tmp 76), none, [0, 1, 2]⟩, 
  ⟨(some (78)), .move (.tmp 6), none, [0, 1, 2, 3, 4, 5, 6, 7]⟩, 
  ⟨(some (79)), .bin .plain .quo (.tmp 78) (.const (.int .i64 4)), none, [0, 1, 2, 3, 4, 5, 6, 7]⟩, 
  ⟨(some (80)), .call (.const (.fn (.func 23) [] [])) [.tmp 79, .const (.int .i64 5)], none, [0, 1, 2, 3, 4, 5, 6, 7]⟩, 
  ⟨(some (81)), .bin .plain .sub (.tmp 77) (.tmp 80), none, [0, 1, 2]⟩, 
  ⟨(some (82)), .bin .plain .add (.tmp 81) (.const (.int .i64 1)), none, [0, 1, 2]⟩], 
  [
  ⟨(some (83)), .indexAddr 1 (.tmp 71) (.tmp 72), none, []⟩], 
  [
  ⟨none, .store 1 (.tmp 83) (.tmp 82), none, []⟩]]
theorem k_law01_FieldGoods_r12_sg : segs k_law01_FieldGoods_r12 = k_law01_FieldGoods_r12s := by kernel_rfl
theorem k_law01_FieldGoods_r12_st : statOK k_law01_FieldGoods_r12 = true := by kernel_rfl
def k_law01_FieldGoods_r13 : List AOper := [
  ⟨(some (85)), .bin .plain .eql (.tmp 51) (.const (.int .i64 2)), none, []⟩, 
  ⟨(some (84)), .move (.tmp 85), none, []⟩]
def k_law01_FieldGoods_r14 : List AOper := [
  ⟨(some (86)), .fieldAddr 0 (.tmp 18), none, []⟩, 
  ⟨(some (87)), .load none (.tmp 86), none, []⟩, 
  ⟨(some (88)), .move (.tmp 20), none, [0, 1]⟩, 
  ⟨(some (89)), .fieldAddr 1 (.tmp 18), none, [0, 1, 2]⟩, 
  ⟨(some (90)), .load none (.tmp 89), none, [0, 1, 2]⟩, 
  ⟨(some (91)), .move (.tmp 20), none, [0, 1, 2, 3, 4]⟩, 
  ⟨(some (92)), .move (.tmp 6), none, [0, 1, 2, 3, 4, 5]⟩, 
  ⟨(some (93)), .bin .plain .quo (.tmp 92) (.const (.int .i64 4)), none, [0, 1, 2, 3, 4, 5]⟩, 
  ⟨(some (94)), .call (.const (.fn (.func 23) [] [])) [.tmp 93, .const (.int .i64 2)], none, [0, 1, 2, 3, 4, 5]⟩, 
  ⟨(some (95)), .bin .plain .sub (.const (.int .i64 (-1000000))) (.tmp 94), none, [0, 1, 2, 3, 4, 5]⟩, 
  ⟨(some (96)), .indexAddr 1 (.tmp 87) (.tmp 88), none, [3, 4, 5]⟩, 
  ⟨none, .store 1 (.tmp 96) (.tmp 95), none, [3, 4, 5]⟩, 
  ⟨(some (97)), .indexAddr 1 (.tmp 90) (.tmp 91), none, []⟩, 
  ⟨none, .store 1 (.tmp 97) (.const (.int .i64 1000000)), none, []⟩]
def k_law01_FieldGoods_r14s : List (List AOper) := [
  [
  ⟨(some (86)), .fieldAddr 0 (.tmp 18), none, []⟩, 
  ⟨(some (87)), .load none (.tmp 86), none, []⟩, 
  ⟨(some (88)), .move (.tmp 20), none, [0, 1]⟩, 
  ⟨(some (89)), .fieldAddr 1 (.tmp 18), none, [0, 1, 2]⟩, 
  ⟨(some (90)), .load none (.tmp 89), none, [0, 1, 2]⟩, 
  ⟨(some (91)), .move (.tmp 20), none, [0, 1, 2, 3, 4]⟩, 
  ⟨(some (92)), .move (.tmp 6), none, [0, 1, 2, 3, 4, 5]⟩, 
  ⟨(some (93)), .bin .plain .quo (.tmp 92) (.const (.int .i64 4)), none, [0, 1, 2, 3, 4, 5]⟩, 
  ⟨(some (94)), .call (.const (.fn (.func 23) [] [])) [.tmp 93, .const (.int .i64 2)], none, [0, 1, 2, 3, 4, 5]⟩, 
  ⟨(some (95)), .bin .plain .sub (.const (.int .i64 (-1000000))) (.tmp 94), none, [0, 1, 2, 3, 4, 5]⟩, 
  ⟨(some (96)), .indexAddr 1 (.tmp 87) (.tmp 88), none, [3, 4, 5]⟩, 
  ⟨none, .store 1 (.tmp 96) (.tmp 95), none, [3, 4, 5]⟩], 
  [
  ⟨(some (97)), .indexAddr 1 (.tmp 90) (.tmp 91), none, []⟩], 
  [
  ⟨none, .store 1 (.tmp 97) (.const (.int .i64 1000000)), none, []⟩]]
theorem k_law01_FieldGoods_r14_sg : segs k_law01_FieldGoods_r14 = k_law01_FieldGoods_r14s := by kernel_rfl
theorem k_law01_FieldGoods_r14_st : statOK k_law01_FieldGoods_r14 = true := by kernel_rfl
def k_law01_FieldGoods_r15 : List AOper := [
  ⟨(some (98)), .fieldAddr 0 (.tmp 18), none, []⟩, 
  ⟨(some (99)), .load none (.tmp 98), none, []⟩, 
  ⟨(some (100)), .call (.const (.fn (.func 25) [] [])) [.tmp 99], none, []⟩, 
  ⟨(some (101)), .fieldAddr 1 (.tmp 18), none, [0, 1, 2]⟩, 
  ⟨(some (102)), .load none (.tmp 101), none, [0, 1, 2]⟩, 
  ⟨(some (103)), .call (.const (.fn (.func 25) [] [])) [.tmp 102], none, []⟩, 
  ⟨(some (21)), .move (.tmp 100), none, []⟩, 
  ⟨(some (22)), .move (.tmp 103), none, []⟩]
def k_law01_FieldGoods_r15s : List (List AOper) := [
  [
  ⟨(some (98)), .fieldAddr 0 (.tmp 18), none, []⟩, 
  ⟨(some (99)), .load none (.tmp 98), none, []⟩, 
  ⟨(some (100)), .call (.const (.fn (.func 25) [] [])) [.tmp 99], none, []⟩, 
  ⟨(some (101)), .fieldAddr 1 (.tmp 18), none, [0, 1, 2]⟩, 
  ⟨(some (102)), .load none (.tmp 101), none, [0, 1, 2]⟩], 
  [
  ⟨(some (103)), .call (.const (.fn (.func 25) [] [])) [.tmp 102], none, []⟩], 
  [
  ⟨(some (21)), .move (.tmp 100), none, []⟩], 
  [
  ⟨(some (22)), .move (.tmp 103), none, []⟩]]
theorem k_law01_FieldGoods_r15_sg : segs k_law01_FieldGoods_r15 = k_law01_FieldGoods_r15s := by kernel_rfl
theorem k_law01_FieldGoods_r15_st : statOK k_law01_FieldGoods_r15 = true := by kernel_rfl
def k_law01_FieldGoods_r16 : List AOper := [
  ⟨(some (104)), .load (some (4)) (.tmp 7), none, []⟩, 
  ⟨(some (105)), .move (.tmp 1), none, [0]⟩, 
  ⟨(some (106)), .move (.tmp 2), none, [0, 1]⟩, 
  ⟨(some (107)), .move (.tmp 3), none, [0, 1, 2]⟩, 
  ⟨(some (108)), .call (.const (.fn (.func 42) [] [])) [.tmp 104, .tmp 105, .tmp 106, .tmp 107], none, []⟩, 
  ⟨(some (109)), .load (some (4)) (.tmp 7), none, [0, 1, 2, 3, 4]⟩, 
  ⟨(some (110)), .move (.tmp 1), none, [0, 1, 2, 3, 4, 5]⟩, 
  ⟨(some (111)), .move (.tmp 2), none, [0, 1, 2, 3, 4, 5, 6]⟩, 
  ⟨(some (112)), .move (.tmp 3), none, [0, 1, 2, 3, 4, 5, 6, 7]⟩, 
  ⟨(some (113)), .call (.const (.fn (.func 43) [] [])) [.tmp 109, .tmp 110, .tmp 111, .tmp 112], none, []⟩, 
  ⟨(some (114)), .bin .bool .eql (.tmp 108) (.tmp 113), none, []⟩, 
  ⟨(some (115)), .move (.tmp 114), none, []⟩, 
  ⟨(some (116)), .load (some (4)) (.tmp 16), (some (115, true)), []⟩, 
  ⟨(some (117)), .move (.tmp 17), (some (115, true)), [12]⟩, 
  ⟨(some (118)), .move (.tmp 21), (some (115, true)), [12, 13]⟩, 
  ⟨(some (119)), .move (.tmp 22), (some (115, true)), [12, 13, 14]⟩, 
  ⟨(some (120)), .call (.const (.fn (.func 42) [] [])) [.tmp 116, .tmp 117, .tmp 118, .tmp 119], (some (115, true)), []⟩, 
  ⟨(some (121)), .load (some (4)) (.tmp 16), (some (115, true)), [12, 13, 14, 15, 16]⟩, 
  ⟨(some (122)), .move (.tmp 17), (some (115, true)), [12, 13, 14, 15, 16, 17]⟩, 
  ⟨(some (123)), .fieldAddr 0 (.tmp 18), (some (115, true)), [12, 13, 14, 15, 16, 17, 18]⟩, 
  ⟨(some (124)), .load none (.tmp 123), (some (115, true)), [12, 13, 14, 15, 16, 17, 18]⟩, 
  ⟨(some (125)), .fieldAddr 1 (.tmp 18), (some (115, true)), [12, 13, 14, 15, 16, 17, 18, 19, 20]⟩, 
  ⟨(some (126)), .load none (.tmp 125), (some (115, true)), [12, 13, 14, 15, 16, 17, 18, 19, 20]⟩, 
  ⟨(some (127)), .call (.const (.fn (.func 43) [] [])) [.tmp 121, .tmp 122, .tmp 124, .tmp 126], (some (115, true)), []⟩, 
  ⟨(some (128)), .bin .bool .eql (.tmp 120) (.tmp 127), (some (115, true)), []⟩, 
  ⟨(some (129)), .pick (.tmp 115) (.tmp 128) (.const (.bool false)), none, []⟩, 
  ⟨(some (130)), .move (.tmp 129), none, []⟩, 
  ⟨(some (131)), .move (.tmp 21), (some (130, true)), []⟩, 
  ⟨(some (132)), .fieldAddr 0 (.tmp 18), (some (130, true)), [27]⟩, 
  ⟨(some (133)), .load none (.tmp 132), (some (130, true)), [27]⟩, 
  ⟨(some (134)), .call (.const (.fn (.func 30) [] [])) [.tmp 131, .tmp 133], (some (130, true)), []⟩, 
  ⟨(some (135)), .pick (.tmp 130) (.tmp 134) (.const (.bool false)), none, []⟩, 
  ⟨(some (136)), .move (.tmp 135), none, []⟩, 
  ⟨(some (137)), .move (.tmp 22), (some (136, true)), []⟩, 
  ⟨(some (138)), .fieldAddr 1 (.tmp 18), (some (136, true)), [33]⟩, 
  ⟨(some (139)), .load none (.tmp 138), (some (136, true)), [33]⟩, 
  ⟨(some (140)), .call (.const (.fn (.func 30) [] [])) [.tmp 137, .tmp 139], (some (136, true)), []⟩, 
  ⟨(some (141)), .pick (.tmp 136) (.tmp 140) (.const (.bool false)), none, []⟩, 
  ⟨(some (142)), .move (.tmp 141), none, []⟩, 
  ⟨(some (143)), .call (.const (.fn (.func 20) [] [])) [], (some (142, true)), []⟩, 
  ⟨(some (144)), .pick (.tmp 142) (.tmp 143) (.const (.bool false)), none, []⟩, 
  ⟨(some (14)), .move (.tmp 144), none, []⟩]
def k_law01_FieldGoods_r16s : List (List AOper) := [
  [
  ⟨(some (104)), .load (some (4)) (.tmp 7), none, []⟩, 
  ⟨(some (105)), .move (.tmp 1), none, [0]⟩, 
  ⟨(some (106)), .move (.tmp 2), none, [0, 1]⟩, 
  ⟨(some (107)), .move (.tmp 3), none, [0, 1, 2]⟩, 
  ⟨(some (108)), .call (.const (.fn (.func 42) [] [])) [.tmp 104, .tmp 105, .tmp 106, .tmp 107], none, []⟩, 
  ⟨(some (109)), .load (some (4)) (.tmp 7), none, [0, 1, 2, 3, 4]⟩, 
  ⟨(some (110)), .move (.tmp 1), none, [0, 1, 2, 3, 4, 5]⟩, 
  ⟨(some (111)), .move (.tmp 2), none, [0, 1, 2, 3, 4, 5, 6]⟩, 
  ⟨(some (112)), .move (.tmp 3), none, [0, 1, 2, 3, 4, 5, 6, 7]⟩], 
  [
  ⟨(some (113)), .call (.const (.fn (.func 43) [] [])) [.tmp 109, .tmp 110, .tmp 111, .tmp 112], none, []⟩], 
  [
  ⟨(some (114)), .bin .bool .eql (.tmp 108) (.tmp 113), none, []⟩], 
  [
  ⟨(some (115)), .move (.tmp 114), none, []⟩], 
  [
  ⟨(some (116)), .load (some (4)) (.tmp 16), (some (115, true)), []⟩, 
  ⟨(some (117)), .move (.tmp 17), (some (115, true)), [12]⟩, 
  ⟨(some (118)), .move (.tmp 21), (some (115, true)), [12, 13]⟩, 
  ⟨(some (119)), .move (.tmp 22), (some (115, true)), [12, 13, 14]⟩, 
  ⟨(some (120)), .call (.const (.fn (.func 42) [] [])) [.tmp 116, .tmp 117, .tmp 118, .tmp 119], (some (115, true)), []⟩, 
  ⟨(some (121)), .load (some (4)) (.tmp 16), (some (115, true)), [12, 13, 14, 15, 16]⟩, 
  ⟨(some (122)), .move (.tmp 17), (some (115, true)), [12, 13, 14, 15, 16, 17]⟩, 
  ⟨(some (123)), .fieldAddr 0 (.tmp 18), (some (115, true)), [12, 13, 14, 15, 16, 17, 18]⟩, 
  ⟨(some (124)), .load none (.tmp 123), (some (115, true)), [12, 13, 14, 15, 16, 17, 18]⟩, 
  ⟨(some (125)), .fieldAddr 1 (.tmp 18), (some (115, true)), [12, 13, 14, 15, 16, 17, 18, 19, 20]⟩, 
  ⟨(some (126)), .load none (.tmp 125), (some (115, true)), [12, 13, 14, 15, 16, 17, 18, 19, 20]⟩], 
  [
  ⟨(some (127)), .call (.const (.fn (.func 43) [] [])) [.tmp 121, .tmp 122, .tmp 124, .tmp 126], (some (115, true)), []⟩], 
  [
  ⟨(some (128)), .bin .bool .eql (.tmp 120) (.tmp 127), (some (115, true)), []⟩], 
  [
  ⟨(some (129)), .pick (.tmp 115) (.tmp 128) (.const (.bool false)), none, []⟩], 
  [
  ⟨(some (130)), .move (.tmp 129), none, []⟩], 
  [
  ⟨(some (131)), .move (.tmp 21), (some (130, true)), []⟩, 
  ⟨(some (132)), .fieldAddr 0 (.tmp 18), (some (130, true)), [27]⟩, 
  ⟨(some (133)), .load none (.tmp 132), (some (130, true)), [27]⟩], 
  [
  ⟨(some (134)), .call (.const (.fn (.func 30) [] [])) [.tmp 131, .tmp 133], (some (130, true)), []⟩], 
  [
  ⟨(some (135)), .pick (.tmp 130) (.tmp 134) (.const (.bool false)), none, []⟩], 
  [
  ⟨(some (136)), .move (.tmp 135), none, []⟩], 
  [
  ⟨(some (137)), .move (.tmp 22), (some (136, true)), []⟩, 
  ⟨(some (138)), .fieldAddr 1 (.tmp 18), (some (136, true)), [33]⟩, 
  ⟨(some (139)), .load none (.tmp 138), (some (136, true)), [33]⟩], 
  [
  ⟨(some (140)), .call (.const (.fn (.func 30) [] [])) [.tmp 137, .tmp 139], (some (136, true)), []⟩], 
  [
  ⟨(some (141)), .pick (.tmp 136) (.tmp 140) (.const (.bool false)), none, []⟩], 
  [
  ⟨(some (142)), .move (.tmp 141), none, []⟩], 
  [
  ⟨(some (143)), .call (.const (.fn (.func 20) [] [])) [], (some (142, true)), []⟩], 
  [
  ⟨(some (144)), .pick (.tmp 142) (.tmp 143) (.const (.bool false)), none, []⟩], 
  [
  ⟨(some (14)), .move (.tmp 144), none, []⟩]]
theorem k_law01_FieldGoods_r16_sg : segs k_law01_FieldGoods_r16 = k_law01_FieldGoods_r16s := by kernel_rfl
theorem k_law01_FieldGoods_r16_st : statOK k_law01_FieldGoods_r16 = true := by kernel_rfl
def k_law01_FieldGoods : AFun := { params := 7, ntmps := 145, body := (.seq (.reg k_law01_FieldGoods_r0 false) (.seq (.seq (.reg k_law01_FieldGoods_r1 false) (.cond (.tmp 28) (.seq (.reg k_law01_FieldGoods_r2 false) .ret) .skip)) (.seq (.reg k_law01_FieldGoods_r3 false) (.seq (.reg k_law01_FieldGoods_r4 false) (.seq (.reg k_law01_FieldGoods_r5 false) (.seq (.reg k_law01_FieldGoods_r6 true) (.seq (.reg k_law01_FieldGoods_r7 false) (.seq (.seq (.reg k_law01_FieldGoods_r8 false) (.block 0 (.seq (.reg k_law01_FieldGoods_r9 false) (.cond (.tmp 52) (.reg k_law01_FieldGoods_r10 true) (.seq (.reg k_law01_FieldGoods_r11 false) (.cond (.tmp 68) (.reg k_law01_FieldGoods_r12 true) (.seq (.reg k_law01_FieldGoods_r13 false) (.cond (.tmp 84) (.reg k_law01_FieldGoods_r14 true) .skip)))))))) (.seq (.reg k_law01_FieldGoods_r15 true) (.seq (.reg k_law01_FieldGoods_r16 true) .ret)))))))))), res := [.tmp 14] }
theorem k_law01_FieldGoods_ok : cfun Try.prog Try.f5 = k_law01_FieldGoods := by kernel_rfl

def k_kit_Own_r0 : List AOper := [
  ⟨(some (2)), .move (.const (.nilsl)), none, []⟩]
def k_kit_Own_r1 : List AOper := [
  ⟨(some (3)), .buildSlice 1 [], none, []⟩, 
  ⟨(some (4)), .move (.tmp 0), none, []⟩, 
  ⟨(some (5)), .append 1 8 false (.tmp 3) (.tmp 4), none, []⟩, 
  ⟨(some (2)), .move (.tmp 5), none, []⟩]
def k_kit_Own : AFun := { params := 1, ntmps := 6, body := (.seq (.reg k_kit_Own_r0 false) (.seq (.reg k_kit_Own_r1 false) .ret)), res := [.tmp 2] }
theorem k_kit_Own_ok : cfun Try.prog Try.f25 = k_kit_Own := by kernel_rfl

def k_ref01_Good_r0 : List AOper := [
  ⟨(some (4)), .box (.tmp 0), none, []⟩, 
  ⟨(some (8)), .move (.const (.bool false)), none, []⟩]
def k_ref01_Good_r1 : List AOper := [
  ⟨(some (16)), .load (some (4)) (.tmp 4), none, []⟩, 
  ⟨(some (17)), .move (.tmp 1), none, []⟩, 
  ⟨(some (18)), .call (.const (.fn (.func 29) [] [])) [.tmp 16, .tmp 17], none, []⟩, 
  ⟨(some (19)), .bin .plain .neq (.tmp 18) (.const (.int .i64 0)), none, []⟩, 
  ⟨(some (20)), .move (.tmp 19), none, []⟩, 
  ⟨(some (21)), .move (.tmp 2), (some (20, false)), []⟩, 
  ⟨(some (22)), .len false (.tmp 21), (some (20, false)), []⟩, 
  ⟨(some (23)), .fieldAddr 3 (.tmp 4), (some (20, false)), []⟩, 
  ⟨(some (24)), .load none (.tmp 23), (some (20, false)), []⟩, 
  ⟨(some (25)), .len false (.tmp 24), (some (20, false)), []⟩, 
  ⟨(some (26)), .bin .plain .neq (.tmp 22) (.tmp 25), (some (20, false)), []⟩, 
  ⟨(some (27)), .pick (.tmp 20) (.const (.bool true)) (.tmp 26), none, []⟩, 
  ⟨(some (28)), .move (.tmp 27), none, []⟩, 
  ⟨(some (29)), .move (.tmp 3), (some (28, false)), []⟩, 
  ⟨(some (30)), .len false (.tmp 29), (some (28, false)), []⟩, 
  ⟨(some (31)), .fieldAddr 3 (.tmp 4), (some (28, false)), []⟩, 
  ⟨(some (32)), .load none (.tmp 31), (some (28, false)), []⟩, 
  ⟨(some (33)), .len false (.tmp 32), (some (28, false)), []⟩, 
  ⟨(some (34)), .bin .plain .neq (.tmp 30) (.tmp 33), (some (28, false)), []⟩, 
  ⟨(some (35)), .pick (.tmp 28) (.const (.bool true)) (.tmp 34), none, []⟩]
def k_ref01_Good_r2 : List AOper := [
  ⟨(some (8)), .move (.const (.bool false)), none, []⟩]
def k_ref01_Good_r3 : List AOper := [
  ⟨(some (9)), .move (.const (.int .i64 0)), none, []⟩]
def k_ref01_Good_r4 : List AOper := [
  ⟨(some (36)), .move (.tmp 9), none, []⟩, 
  ⟨(some (37)), .fieldAddr 3 (.tmp 4), none, []⟩, 
  ⟨(some (38)), .load none (.tmp 37), none, []⟩, 
  ⟨(some (39)), .len false (.tmp 38), none, []⟩, 
  ⟨(some (40)), .bin .plain .lss (.tmp 36) (.tmp 39), none, []⟩]
def k_ref01_Good_r5 : List AOper := [
  ⟨(some (43)), .move (.tmp 2), none, []⟩, 
  ⟨(some (44)), .move (.tmp 9), none, []⟩, 
  ⟨(some (45)), .indexAddr 1 (.tmp 43) (.tmp 44), none, []⟩, 
  ⟨(some (46)), .load none (.tmp 45), none, []⟩, 
  ⟨(some (47)), .call (.const (.fn (.func 71) [] [])) [.tmp 46, .const (.int .i64 (-1000000)), .const (.int .i64 1000000)], none, []⟩, 
  ⟨(some (48)), .move (.tmp 47), none, []⟩, 
  ⟨(some (49)), .move (.tmp 3), (some (48, false)), []⟩, 
  ⟨(some (50)), .move (.tmp 9), (some (48, false)), []⟩, 
  ⟨(some (51)), .indexAddr 1 (.tmp 49) (.tmp 50), (some (48, false)), []⟩, 
  ⟨(some (52)), .load none (.tmp 51), (some (48, false)), []⟩, 
  ⟨(some (53)), .call (.const (.fn (.func 71) [] [])) [.tmp 52, .const (.int .i64 (-1000000)), .const (.int .i64 1000000)], (some (48, false)), []⟩, 
  ⟨(some (54)), .pick (.tmp 48) (.const (.bool true)) (.tmp 53), none, []⟩]
def k_ref01_Good_r6 : List AOper := [
  ⟨(some (8)), .move (.const (.bool false)), none, []⟩]
def k_ref01_Good_r7 : List AOper := [
  ⟨(some (41)), .move (.tmp 9), none, []⟩, 
  ⟨(some (42)), .bin .plain .add (.tmp 41) (.const (.int .i64 1)), none, []⟩, 
  ⟨(some (9)), .move (.tmp 42), none, []⟩]
def k_ref01_Good_r8 : ACode := (.seq (.seq (.reg k_ref01_Good_r4 false) (.cond (.tmp 40) .skip (.exit 0))) (.seq (.block 1 (.seq (.reg k_ref01_Good_r5 false) (.cond (.tmp 54) (.seq (.reg k_ref01_Good_r6 false) .ret) .skip))) (.reg k_ref01_Good_r7 false)))
def k_ref01_Good_r9 : List AOper := [
  ⟨(some (10)), .move (.const (.int .i64 0)), none, []⟩]
def k_ref01_Good_r10 : List AOper := [
  ⟨(some (55)), .move (.tmp 10), none, []⟩, 
  ⟨(some (56)), .fieldAddr 3 (.tmp 4), none, []⟩, 
  ⟨(some (57)), .load none (.tmp 56), none, []⟩, 
  ⟨(some (58)), .len false (.tmp 57), none, []⟩, 
  ⟨(some (59)), .bin .plain .lss (.tmp 55) (.tmp 58), none, []⟩]
def k_ref01_Good_r11 : List AOper := [
  ⟨(some (62)), .fieldAddr 3 (.tmp 4), none, []⟩, 
  ⟨(some (63)), .load none (.tmp 62), none, []⟩, 
  ⟨(some (64)), .move (.tmp 10), none, []⟩, 
  ⟨(some (65)), .indexAddr 1 (.tmp 63) (.tmp 64), none, []⟩, 
  ⟨(some (66)), .load none (.tmp 65), none, []⟩, 
  ⟨(some (67)), .bin .plain .gtr (.tmp 66) (.const (.int .i64 0)), none, []⟩]
def k_ref01_Good_r12 : List AOper := [
  ⟨(some (68)), .move (.tmp 1), none, []⟩, 
  ⟨(some (69)), .fieldAddr 3 (.tmp 4), none, []⟩, 
  ⟨(some (70)), .load none (.tmp 69), none, []⟩, 
  ⟨(some (71)), .move (.tmp 10), none, []⟩, 
  ⟨(some (72)), .indexAddr 1 (.tmp 70) (.tmp 71), none, []⟩, 
  ⟨(some (73)), .load none (.tmp 72), none, []⟩, 
  ⟨(some (74)), .bin .plain .sub (.tmp 73) (.const (.int .i64 1)), none, []⟩, 
  ⟨(some (75)), .indexAddr 1 (.tmp 68) (.tmp 74), none, []⟩, 
  ⟨(some (76)), .load none (.tmp 75), none, []⟩, 
  ⟨(some (11)), .move (.tmp 76), none, []⟩]
def k_ref01_Good_r13 : List AOper := [
  ⟨(some (77)), .move (.tmp 2), none, []⟩, 
  ⟨(some (78)), .move (.tmp 10), none, []⟩, 
  ⟨(some (79)), .indexAddr 1 (.tmp 77) (.tmp 78), none, []⟩, 
  ⟨(some (80)), .load none (.tmp 79), none, []⟩, 
  ⟨(some (81)), .move (.tmp 11), none, []⟩, 
  ⟨(some (82)), .bin .plain .gtr (.tmp 80) (.tmp 81), none, []⟩, 
  ⟨(some (83)), .move (.tmp 82), none, []⟩, 
  ⟨(some (84)), .move (.tmp 3), (some (83, false)), []⟩, 
  ⟨(some (85)), .move (.tmp 10), (some (83, false)), []⟩, 
  ⟨(some (86)), .indexAddr 1 (.tmp 84) (.tmp 85), (some (83, false)), []⟩, 
  ⟨(some (87)), .load none (.tmp 86), (some (83, false)), []⟩, 
  ⟨(some (88)), .move (.tmp 11), (some (83, false)), []⟩, 
  ⟨(some (89)), .bin .plain .lss (.tmp 87) (.tmp 88), (some (83, false)), []⟩, 
  ⟨(some (90)), .pick (.tmp 83) (.const (.bool true)) (.tmp 89), none, []⟩]
def k_ref01_Good_r14 : List AOper := [
  ⟨(some (8)), .move (.const (.bool false)), none, []⟩]
def k_ref01_Good_r15 : List AOper := [
  ⟨(some (92)), .load (some (4)) (.tmp 4), none, []⟩, 
  ⟨(some (93)), .move (.tmp 2), none, []⟩, 
  ⟨(some (94)), .move (.tmp 10), none, []⟩, 
  ⟨(some (95)), .call (.const (.fn (.func 85) [] [])) [.tmp 92, .tmp 93, .tmp 94], none, []⟩, 
  ⟨(some (91)), .move (.tmp 95), none, []⟩, 
  ⟨(some (96)), .extract (.tmp 91) 0, none, []⟩, 
  ⟨(some (97)), .extract (.tmp 91) 1, none, []⟩, 
  ⟨(some (12)), .move (.tmp 96), none, []⟩, 
  ⟨(some (13)), .move (.tmp 97), none, []⟩]
def k_ref01_Good_r16 : List AOper := [
  ⟨(some (99)), .load (some (4)) (.tmp 4), none, []⟩, 
  ⟨(some (100)), .move (.tmp 3), none, []⟩, 
  ⟨(some (101)), .move (.tmp 10), none, []⟩, 
  ⟨(some (102)), .call (.const (.fn (.func 85) [] [])) [.tmp 99, .tmp 100, .tmp 101], none, []⟩, 
  ⟨(some (98)), .move (.tmp 102), none, []⟩, 
  ⟨(some (103)), .extract (.tmp 98) 0, none, []⟩, 
  ⟨(some (104)), .extract (.tmp 98) 1, none, []⟩, 
  ⟨(some (14)), .move (.tmp 103), none, []⟩, 
  ⟨(some (15)), .move (.tmp 104), none, []⟩]
def k_ref01_Good_r17 : List AOper := [
  ⟨(some (105)), .move (.tmp 12), none, []⟩, 
  ⟨(some (106)), .move (.tmp 2), none, []⟩, 
  ⟨(some (107)), .move (.tmp 10), none, []⟩, 
  ⟨(some (108)), .indexAddr 1 (.tmp 106) (.tmp 107), none, []⟩, 
  ⟨(some (109)), .load none (.tmp 108), none, []⟩, 
  ⟨(some (110)), .bin .plain .mul (.tmp 105) (.tmp 109), none, []⟩, 
  ⟨(some (111)), .move (.tmp 13), none, []⟩, 
  ⟨(some (112)), .bin .plain .gtr (.tmp 110) (.tmp 111), none, []⟩, 
  ⟨(some (113)), .move (.tmp 112), none, []⟩, 
  ⟨(some (114)), .move (.tmp 12), (some (113, false)), []⟩, 
  ⟨(some (115)), .move (.tmp 3), (some (113, false)), []⟩, 
  ⟨(some (116)), .move (.tmp 10), (some (113, false)), []⟩, 
  ⟨(some (117)), .indexAddr 1 (.tmp 115) (.tmp 116), (some (113, false)), []⟩, 
  ⟨(some (118)), .load none (.tmp 117), (some (113, false)), []⟩, 
  ⟨(some (119)), .bin .plain .mul (.tmp 114) (.tmp 118), (some (113, false)), []⟩, 
  ⟨(some (120)), .move (.tmp 15), (some (113, false)), []⟩, 
  ⟨(some (121)), .bin .plain .lss (.tmp 119) (.tmp 120), (some (113, false)), []⟩, 
  ⟨(some (122)), .pick (.tmp 113) (.const (.bool true)) (.tmp 121), none, []⟩]
def k_ref01_Good_r18 : List AOper := [
  ⟨(some (8)), .move (.const (.bool false)), none, []⟩]
def k_ref01_Good_r19 : List AOper := [
  ⟨(some (60)), .move (.tmp 10), none, []⟩, 
  ⟨(some (61)), .bin .plain .add (.tmp 60) (.const (.int .i64 1)), none, []⟩, 
  ⟨(some (10)), .move (.tmp 61), none, []⟩]
def k_ref01_Good_r20 : ACode := (.seq (.seq (.reg k_ref01_Good_r10 false) (.cond (.tmp 59) .skip (.exit 2))) (.seq (.block 3 (.seq (.seq (.reg k_ref01_Good_r11 false) (.cond (.tmp 67) (.seq (.seq (.reg k_ref01_Good_r12 false) (.seq (.reg k_ref01_Good_r13 false) (.cond (.tmp 90) (.seq (.reg k_ref01_Good_r14 false) .ret) .skip))) (.exit 3)) .skip)) (.seq (.reg k_ref01_Good_r15 false) (.seq (.reg k_ref01_Good_r16 false) (.seq (.reg k_ref01_Good_r17 false) (.cond (.tmp 122) (.seq (.reg k_ref01_Good_r18 false) .ret) .skip)))))) (.reg k_ref01_Good_r19 false)))
def k_ref01_Good_r21 : List AOper := [
  ⟨(some (8)), .move (.const (.bool true)), none, []⟩]
def k_ref01_Good : AFun := { params := 4, ntmps := 123, body := (.seq (.reg k_ref01_Good_r0 false) (.seq (.seq (.reg k_ref01_Good_r1 false) (.cond (.tmp 35) (.seq (.reg k_ref01_Good_r2 false) .ret) .skip)) (.seq (.seq (.reg k_ref01_Good_r3 false) (.block 0 (.loop k_ref01_Good_r8))) (.seq (.seq (.reg k_ref01_Good_r9 false) (.block 2 (.loop k_ref01_Good_r20))) (.seq (.reg k_ref01_Good_r21 false) .ret))))), res := [.tmp 8] }
theorem k_ref01_Good_ok : cfun Try.prog Try.f43 = k_ref01_Good := by kernel_rfl


abbrev n_law01_FieldGoods : Nat := 5
theorem e_law01_FieldGoods : EntryOK Try.prog n_law01_FieldGoods k_law01_FieldGoods := ⟨Try.f5, Try.func5, k_law01_FieldGoods_ok, by kernel_rfl⟩
abbrev n_kit_Own : Nat := 25
theorem e_kit_Own : EntryOK Try.prog n_kit_Own k_kit_Own := ⟨Try.f25, Try.func25, k_kit_Own_ok, by kernel_rfl⟩
abbrev n_ref01_Good : Nat := 43
theorem e_ref01_Good : EntryOK Try.prog n_ref01_Good k_ref01_Good := ⟨Try.f43, Try.func43, k_ref01_Good_ok, by kernel_rfl⟩

attribute [go_sem] k_law01_FieldGoods_r0 k_law01_FieldGoods_r1 k_law01_FieldGoods_r2 k_law01_FieldGoods_r3 k_law01_FieldGoods_r4 k_law01_FieldGoods_r5 k_law01_FieldGoods_r6s k_law01_FieldGoods_r7 k_law01_FieldGoods_r8 k_law01_FieldGoods_r9 k_law01_FieldGoods_r10s k_law01_FieldGoods_r11
attribute [go_sem] k_law01_FieldGoods_r12s k_law01_FieldGoods_r13 k_law01_FieldGoods_r14s k_law01_FieldGoods_r15s k_law01_FieldGoods_r16s k_kit_Own_r0 k_kit_Own_r1 k_ref01_Good_r0 k_ref01_Good_r1 k_ref01_Good_r2 k_ref01_Good_r3 k_ref01_Good_r4
attribute [go_sem] k_ref01_Good_r5 k_ref01_Good_r6 k_ref01_Good_r7 k_ref01_Good_r9 k_ref01_Good_r10 k_ref01_Good_r11 k_ref01_Good_r12 k_ref01_Good_r13 k_ref01_Good_r14 k_ref01_Good_r15 k_ref01_Good_r16 k_ref01_Good_r17
attribute [go_sem] k_ref01_Good_r18 k_ref01_Good_r19 k_ref01_Good_r21 k_law01_FieldGoods_r14_sg k_law01_FieldGoods_r16_sg k_law01_FieldGoods_r6_sg k_law01_FieldGoods_r12_sg k_law01_FieldGoods_r15_sg k_law01_FieldGoods_r10_sg k_law01_FieldGoods_r14_st k_law01_FieldGoods_r16_st k_law01_FieldGoods_r6_st
attribute [go_sem] k_law01_FieldGoods_r12_st k_law01_FieldGoods_r15_st k_law01_FieldGoods_r10_st k_law01_FieldGoods k_kit_Own k_ref01_Good
end Go.Proofs

namespace Go.Proofs
open Go Go.Sx
attribute [local irreducible] Run

def cellG (p : Pl) (v lo hi : List Int) (i : Nat) : Prop := if gt p.cs i = 0 then wtot (nbs p i) * gt lo i ≤ wsum (nbs p i) (gt lo) ∧ wsum (nbs p i) (gt hi) ≤ wtot (nbs p i) * gt hi i else gt lo i ≤ vo v (gt p.cs i) ∧ vo v (gt p.cs i) ≤ gt hi i
def allG (p : Pl) (v lo hi : List Int) : Prop := ∀ i, i < p.w * p.h → cellG p v lo hi i
def Bnd (p : Pl) (l : List Int) : Prop := l.length = p.cs.length ∧ ∀ x ∈ l, -1000000 ≤ x ∧ x ≤ 1000000
theorem Bnd.at {p : Pl} (hp : PlOK p) {l : List Int} (h : Bnd p l) : AtOK p l := ⟨by rw [h.1, hp.len], fun i hi => h.2 _ (gt_mem (by rw [h.1, hp.len]; exact hi))⟩
theorem no_of {b : Bool} {P : Prop} (hb : b = true ↔ P) (h : ¬ P) : b = false := by
  cases b with
  | false => rfl
  | true => exact absurd (hb.1 rfl) h
theorem boolOf (P : Prop) : ∃ b : Bool, b = true ↔ P := by
  by_cases h : P
  · exact ⟨true, by simp [h]⟩
  · exact ⟨false, by simp [h]⟩
theorem all_take {l : List Int} {i : Nat} {Q : Int → Prop} (h : ∀ x ∈ l.take i, Q x) (hi : i < l.length) (hq : Q (gt l i)) : ∀ x ∈ l.take (i + 1), Q x := fun x hx => by
  rw [List.take_add_one, gt_get hi] at hx
  rcases List.mem_append.1 hx with h1 | h1
  · exact h x h1
  · simp at h1; rw [h1]; exact hq

set_option maxHeartbeats 4000000 in
set_option maxRecDepth 10000 in
theorem Good_gen {p : Pl} (hp : PlOK p) {v : List Int} (hv : VOK v) (hvl : (v.length : Int) = gmax p.cs) {lo hi : List Int} (hL : Bnd p lo) (hH : Bnd p hi) (b : Bool) (hb : b = true ↔ allG p v lo hi) : Ans Try.prog n_field_Good [p.v, vw v, vw lo, vw hi] [] (.bool b) [] := by
  have hN : p.w * p.h ≤ 256 := Nat.mul_le_mul hp.w.2 hp.h.2
  have hlen := hp.len
  have aL := hL.at hp
  have aH := hH.at hp
  refine spec_run e_field_Good fun G => ?_
  simp only [go_sem, Pl.v, Pl.a, Pl.c4, vw]
  refine cP (CheckVolts_ok hp hv hvl) ?_
  simp only [go_sem]
  refine cP (bounds_ok hp aL) ?_
  simp only [go_sem]
  refine cP (bounds_ok hp aH) ?_
  simp only [go_sem, List.length_map]
  refine loop_ind k_field_Good_r13.eq_1 (fun i : Nat => i ≤ p.cs.length ∧ ∀ j, j < i → cellG p v lo hi j) (fun i => p.cs.length - i)
    (fun i => (tsets 84 [(1, vw v), (2, vw lo), (3, vw hi), (4, .ptr 0 0 0 1), (32, vw p.cs), (33, .int .i64 p.cs.length), (34, .int .i64 i)], [some (.cells false 4 [p.v])])) 0 ⟨Nat.zero_le _, fun j hj => by omega⟩ (by simp [go_sem, vw]) (by simp [Pl.v, Pl.a, Pl.c4, vw]) ?_
  rintro i ⟨hi0, hall⟩ ih
  dsimp only at hi0 hall ih ⊢
  by_cases h1 : i < p.cs.length
  · have h2 : (i : Int) < p.cs.length := by omega
    have h3 := idx_next h1 (by omega)
    have n0 : ¬ (i : Int) < 0 := by omega
    have hiN : i < p.w * p.h := by omega
    have hx := gt_get h1
    have r1 := around_ok hp aL hiN
    have r2 := around_ok hp aH hiN
    have gl := gt_get (l := lo) (i := i) (by rw [aL.len]; exact hiN)
    have gh := gt_get (l := hi) (i := i) (by rw [aH.len]; exact hiN)
    have cl : (i : Int) < lo.length := by rw [aL.len]; omega
    have ch : (i : Int) < hi.length := by rw [aH.len]; omega
    have bl := aL.bd i hiN
    have bh := aH.bd i hiN
    have wt := wtot_in p hp.w.2 hiN
    have m1 : -128000000 ≤ wtot (nbs p i) * gt lo i ∧ wtot (nbs p i) * gt lo i ≤ 128000000 := by
      have k1 := Int.mul_le_mul_of_nonneg_left bl.1 wt.1
      have k2 := Int.mul_le_mul_of_nonneg_left bl.2 wt.1
      omega
    have m2 : -128000000 ≤ wtot (nbs p i) * gt hi i ∧ wtot (nbs p i) * gt hi i ≤ 128000000 := by
      have k1 := Int.mul_le_mul_of_nonneg_left bh.1 wt.1
      have k2 := Int.mul_le_mul_of_nonneg_left bh.2 wt.1
      omega
    have u1 : IntKind.i64.wrap (wtot (nbs p i) * gt lo i) = wtot (nbs p i) * gt lo i := w64 (by omega)
    have u2 : IntKind.i64.wrap (wtot (nbs p i) * gt hi i) = wtot (nbs p i) * gt hi i := w64 (by omega)
    have u3 : IntKind.i64.wrap (1 * gt lo i) = gt lo i := by rw [Int.one_mul]; exact w64 (by omega)
    have u4 : IntKind.i64.wrap (1 * gt hi i) = gt hi i := by rw [Int.one_mul]; exact w64 (by omega)
    have hbad : ¬ cellG p v lo hi i → b = false := fun h => no_of hb fun h2 => h (h2 i hiN)
    have ihn := fun hg : cellG p v lo hi i => ih (i + 1) (by omega) ⟨h1, fun j hj => by
      by_cases e : j = i
      · rw [e]; exact hg
      · exact hall j (by omega)⟩
    clear ih
    unfold cellG at hbad ihn
    by_cases hz : gt p.cs i = 0
    · rw [if_pos hz] at hbad ihn
      have hz' : (gt p.cs i != 0) = false := by simp [hz]
      generalize wsum (nbs p i) (gt lo) = sl at *
      generalize wsum (nbs p i) (gt hi) = sh at *
      generalize wtot (nbs p i) = tw at *
      generalize gt p.cs i = z at *
      by_cases g1 : sl < tw * gt lo i
      · rw [hbad (by omega)]
        simp only [go_sem, Pl.v, Pl.a, Pl.c4, vw, List.length_map, h2, n0, hx, hz', h3]
        refine cP r1 ?_
        simp only [go_sem, Pl.v, Pl.a, Pl.c4, vw]
        refine cP r2 ?_
        simp only [go_sem, Pl.v, Pl.a, Pl.c4, vw, List.length_map, hz', n0, cl, ch, gl, gh, u1, u2, g1, h3]
      · by_cases g2 : tw * gt hi i < sh
        · rw [hbad (by omega)]
          simp only [go_sem, Pl.v, Pl.a, Pl.c4, vw, List.length_map, h2, n0, hx, hz', h3]
          refine cP r1 ?_
          simp only [go_sem, Pl.v, Pl.a, Pl.c4, vw]
          refine cP r2 ?_
          simp only [go_sem, Pl.v, Pl.a, Pl.c4, vw, List.length_map, hz', n0, cl, ch, gl, gh, u1, u2, g1, g2, h3]
        · simp only [go_sem, Pl.v, Pl.a, Pl.c4, vw, List.length_map, h2, n0, hx, hz', h3]
          refine cP r1 ?_
          simp only [go_sem, Pl.v, Pl.a, Pl.c4, vw]
          refine cP r2 ?_
          simp only [go_sem, Pl.v, Pl.a, Pl.c4, vw, List.length_map, hz', n0, cl, ch, gl, gh, u1, u2, g1, g2, h3]
          exact ihn (by omega) _ (by simp [go_sem, vw])
    · rw [if_neg hz] at hbad ihn
      have hz' : (gt p.cs i != 0) = true := by simp [hz]
      have hc := hp.cell _ (gt_mem h1)
      have hcm := hp.max.2.2 _ (gt_mem h1)
      have w1 : IntKind.i64.wrap (gt p.cs i - 1) = gt p.cs i - 1 := w64 (by omega)
      have k1 : ¬ gt p.cs i - 1 < 0 := by omega
      have k2 : gt p.cs i - 1 < v.length := by omega
      have hxv : v[(gt p.cs i - 1).toNat]? = some (vo v (gt p.cs i)) := gt_get (by omega)
      generalize wsum (nbs p i) (gt lo) = sl at *
      generalize wsum (nbs p i) (gt hi) = sh at *
      generalize wtot (nbs p i) = tw at *
      generalize gt p.cs i = z at *
      generalize vo v z = vz at *
      by_cases g1 : vz < gt lo i
      · rw [hbad (by omega)]
        simp only [go_sem, Pl.v, Pl.a, Pl.c4, vw, List.length_map, h2, n0, hx, hz', h3]
        refine cP r1 ?_
        simp only [go_sem, Pl.v, Pl.a, Pl.c4, vw]
        refine cP r2 ?_
        simp only [go_sem, Pl.v, Pl.a, Pl.c4, vw, List.length_map, hz', n0, cl, ch, gl, gh, w1, k1, k2, hxv, u3, u4, g1, h3]
      · by_cases g2 : gt hi i < vz
        · rw [hbad (by omega)]
          simp only [go_sem, Pl.v, Pl.a, Pl.c4, vw, List.length_map, h2, n0, hx, hz', h3]
          refine cP r1 ?_
          simp only [go_sem, Pl.v, Pl.a, Pl.c4, vw]
          refine cP r2 ?_
          simp only [go_sem, Pl.v, Pl.a, Pl.c4, vw, List.length_map, hz', n0, cl, ch, gl, gh, w1, k1, k2, hxv, u3, u4, g1, g2, h3]
        · simp only [go_sem, Pl.v, Pl.a, Pl.c4, vw, List.length_map, h2, n0, hx, hz', h3]
          refine cP r1 ?_
          simp only [go_sem, Pl.v, Pl.a, Pl.c4, vw]
          refine cP r2 ?_
          simp only [go_sem, Pl.v, Pl.a, Pl.c4, vw, List.length_map, hz', n0, cl, ch, gl, gh, w1, k1, k2, hxv, u3, u4, g1, g2, h3]
          exact ihn (by omega) _ (by simp [go_sem, vw])
  · have h2 : ¬ (i : Int) < p.cs.length := by omega
    have hbt : b = true := hb.2 fun j hj => hall j (by omega)
    rw [hbt]
    simp only [go_sem, vw, List.length_map, h2]

theorem bounds_raw (p : Rp) {l : List Int} (hl : l.length ≤ 1000000) (b : Bool) (hb : b = true ↔ (l.length = p.cs.length ∧ ∀ x ∈ l, -1000000 ≤ x ∧ x ≤ 1000000)) : Ans Try.prog n_field_bounds [p.v, vw l] [] (.bool b) [] := by
  have hcn := checkNumbers_raw hl
  unfold numErr at hcn
  refine spec_run e_field_bounds fun G => ?_
  by_cases h1 : l.length = p.cs.length
  · have e : ((l.length : Int) == p.cs.length) = true := by rw [h1]; simp
    simp only [go_sem, Rp.v, vw, List.length_map, e]
    by_cases h2 : ∀ x ∈ l, -1000000 ≤ x ∧ x ≤ 1000000
    · rw [if_pos h2] at hcn
      refine cP hcn ?_
      rw [hb.2 ⟨h1, h2⟩]
      simp only [go_sem]
    · rw [if_neg h2] at hcn
      refine cP hcn ?_
      rw [no_of hb fun h => h2 h.2]
      simp only [go_sem]
  · have e : ((l.length : Int) == p.cs.length) = false := by simp; omega
    rw [no_of hb fun h => h1 h.1]
    simp only [go_sem, Rp.v, vw, List.length_map, e]

def goodR (p : Rp) (v lo hi : List Int) : Prop := p.errV v = 0 ∧ Bnd p.pl lo ∧ Bnd p.pl hi ∧ allG p.pl v lo hi
theorem Rp.okV {p : Rp} {v : List Int} (h : p.errV v = 0) : (PlOK p.pl ∧ p.v = p.pl.v) ∧ VOK v ∧ (v.length : Int) = gmax p.pl.cs := by
  have h2 : p.errS v 0 = 0 := by unfold Rp.errS; rw [if_neg fun h2 => h2 h, if_pos (by omega)]
  obtain ⟨a, b, c, _⟩ := Rp.okS h2
  exact ⟨a, b, c⟩

theorem Good_raw (p : Rp) {v lo hi : List Int} (hlen : p.cs.length ≤ 1000000) (hv : v.length ≤ 1000000) (hl : lo.length ≤ 1000000) (hh : hi.length ≤ 1000000) (b : Bool) (hb : b = true ↔ goodR p v lo hi) : Ans Try.prog n_field_Good [p.v, vw v, vw lo, vw hi] [] (.bool b) [] := by
  have c1 := CheckVolts_raw p (v := v) hlen hv
  by_cases h1 : p.errV v = 0
  rotate_left
  · have h1' : (p.errV v != 0) = true := by simp [h1]
    rw [no_of hb fun h => h1 h.1]
    refine spec_run e_field_Good fun G => ?_
    simp only [go_sem, Rp.v, vw]
    refine cP c1 ?_
    simp only [go_sem, h1']
  rw [h1] at c1
  by_cases h2 : Bnd p.pl lo
  rotate_left
  · have c2 := bounds_raw p hl false (by simp; intro h3; simpa using fun h4 => h2 ⟨h3, h4⟩)
    rw [no_of hb fun h => h2 h.2.1]
    refine spec_run e_field_Good fun G => ?_
    simp only [go_sem, Rp.v, vw]
    refine cP c1 ?_
    simp only [go_sem]
    refine cP c2 ?_
    simp only [go_sem]
  by_cases h3 : Bnd p.pl hi
  rotate_left
  · have c2 := bounds_raw p hl true (by simp; exact h2)
    have c3 := bounds_raw p hh false (by simp; intro h4; simpa using fun h5 => h3 ⟨h4, h5⟩)
    rw [no_of hb fun h => h3 h.2.2.1]
    refine spec_run e_field_Good fun G => ?_
    simp only [go_sem, Rp.v, vw]
    refine cP c1 ?_
    simp only [go_sem]
    refine cP c2 ?_
    simp only [go_sem]
    refine cP c3 ?_
    simp only [go_sem]
  obtain ⟨⟨hp, hpv⟩, hvv, hvl⟩ := Rp.okV h1
  rw [hpv]
  exact Good_gen hp hvv hvl h2 h3 b ⟨fun h => (hb.1 h).2.2.2, fun h => hb.2 ⟨h1, h2, h3, h⟩⟩
end Go.Proofs

namespace Go.Proofs
open Go Go.Sx
attribute [local irreducible] Run

set_option maxHeartbeats 4000000 in
set_option maxRecDepth 10000 in
theorem rGood_gen {p : Pl} (hp : PlOK p) {v : List Int} (hvl : (v.length : Int) = gmax p.cs) (hC : Ans Try.prog n_ref01_CheckVolts [p.v, vw v] [] (.int .i64 0) []) {lo hi : List Int} (hll : lo.length = p.cs.length) (hhl : hi.length = p.cs.length) (b : Bool) (hb : b = true ↔ (Bnd p lo ∧ Bnd p hi ∧ allG p v lo hi)) : Ans Try.prog n_ref01_Good [p.v, vw v, vw lo, vw hi] [] (.bool b) [] := by
  have hN : p.w * p.h ≤ 256 := Nat.mul_le_mul hp.w.2 hp.h.2
  have hlen := hp.len
  have e1 : ((lo.length : Int) != p.cs.length) = false := by simp [hll]
  have e2 : ((hi.length : Int) != p.cs.length) = false := by simp [hhl]
  refine spec_run e_ref01_Good fun G => ?_
  simp only [go_sem, Pl.v, Pl.a, Pl.c4, vw]
  refine cP hC ?_
  simp only [go_sem, List.length_map, e1, e2]
  refine loop_ind k_ref01_Good_r8.eq_1 (fun i : Nat => i ≤ p.cs.length ∧ (∀ x ∈ lo.take i, -1000000 ≤ x ∧ x ≤ 1000000) ∧ ∀ x ∈ hi.take i, -1000000 ≤ x ∧ x ≤ 1000000) (fun i => p.cs.length - i)
    (fun i => (tsets 123 [(1, vw v), (2, vw lo), (3, vw hi), (4, .ptr 0 0 0 1), (9, .int .i64 i)], [some (.cells false 4 [p.v])])) 0 ⟨Nat.zero_le _, fun j hj => by simp at hj, fun j hj => by simp at hj⟩ (by simp [go_sem, vw]) (by simp [Pl.v, Pl.a, Pl.c4, vw]) ?_
  rintro i ⟨hi0, ha1, ha2⟩ ih
  dsimp only at hi0 ha1 ha2 ih ⊢
  by_cases h1 : i < p.cs.length
  · have h2 : (i : Int) < p.cs.length := by omega
    have h3 := idx_next h1 (by omega)
    have n0 : ¬ (i : Int) < 0 := by omega
    have gl := gt_get (l := lo) (i := i) (by omega)
    have gh := gt_get (l := hi) (i := i) (by omega)
    have cl : (i : Int) < lo.length := by omega
    have ch : (i : Int) < hi.length := by omega
    have ml := gt_mem (l := lo) (i := i) (by omega)
    have mh := gt_mem (l := hi) (i := i) (by omega)
    have ihn := fun (g1 : -1000000 ≤ gt lo i ∧ gt lo i ≤ 1000000) (g2 : -1000000 ≤ gt hi i ∧ gt hi i ≤ 1000000) => ih (i + 1) (by omega) ⟨h1, all_take ha1 (by omega) g1, all_take ha2 (by omega) g2⟩
    clear ih
    by_cases q1 : -1000000 ≤ gt lo i ∧ gt lo i ≤ 1000000
    · by_cases q2 : -1000000 ≤ gt hi i ∧ gt hi i ≤ 1000000
      · simp only [go_sem, Pl.v, Pl.a, Pl.c4, vw, List.length_map, h2, n0, cl, ch, gl, gh]
        refine cP (beyond_no q1) ?_
        simp only [go_sem, Pl.v, Pl.a, Pl.c4, vw, List.length_map, h2, n0, cl, ch, gl, gh]
        refine cP (beyond_no q2) ?_
        simp only [go_sem, h3]
        exact ihn q1 q2 _ (by simp [go_sem, vw])
      · rw [no_of hb fun h => q2 (h.2.1.2 _ mh)]
        simp only [go_sem, Pl.v, Pl.a, Pl.c4, vw, List.length_map, h2, n0, cl, ch, gl, gh]
        refine cP (beyond_no q1) ?_
        simp only [go_sem, Pl.v, Pl.a, Pl.c4, vw, List.length_map, h2, n0, cl, ch, gl, gh]
        refine cP (beyond_yes q2) ?_
        simp only [go_sem]
    · rw [no_of hb fun h => q1 (h.1.2 _ ml)]
      simp only [go_sem, Pl.v, Pl.a, Pl.c4, vw, List.length_map, h2, n0, cl, ch, gl, gh]
      refine cP (beyond_yes q1) ?_
      simp only [go_sem]
  have hL : Bnd p lo := ⟨hll, by rwa [List.take_of_length_le (by omega)] at ha1⟩
  have hH : Bnd p hi := ⟨hhl, by rwa [List.take_of_length_le (by omega)] at ha2⟩
  have aL := hL.at hp
  have aH := hH.at hp
  replace hb : b = true ↔ allG p v lo hi := ⟨fun h => (hb.1 h).2.2, fun h => hb.2 ⟨hL, hH, h⟩⟩
  have h2 : ¬ (i : Int) < p.cs.length := by omega
  clear ih ha1 ha2
  simp only [go_sem, Pl.v, Pl.a, Pl.c4, vw, List.length_map, h2]
  clear h1 h2
  refine loop_ind k_ref01_Good_r20.eq_1 (fun i : Nat => i ≤ p.cs.length ∧ ∀ j, j < i → cellG p v lo hi j) (fun i => p.cs.length - i)
    (fun i => (tsets 123 [(1, vw v), (2, vw lo), (3, vw hi), (4, .ptr 0 0 0 1), (10, .int .i64 i)], [some (.cells false 4 [p.v])])) 0 ⟨Nat.zero_le _, fun j hj => by omega⟩ (by simp [go_sem, vw]) (by simp [Pl.v, Pl.a, Pl.c4, vw]) ?_
  rintro i ⟨hi0, hall⟩ ih
  dsimp only at hi0 hall ih ⊢
  by_cases h1 : i < p.cs.length
  · have h2 : (i : Int) < p.cs.length := by omega
    have h3 := idx_next h1 (by omega)
    have n0 : ¬ (i : Int) < 0 := by omega
    have hiN : i < p.w * p.h := by omega
    have hx := gt_get h1
    have r1 := sums_ok hp aL hiN
    have r2 := sums_ok hp aH hiN
    have gl := gt_get (l := lo) (i := i) (by omega)
    have gh := gt_get (l := hi) (i := i) (by omega)
    have cl : (i : Int) < lo.length := by omega
    have ch : (i : Int) < hi.length := by omega
    have bl := aL.bd i hiN
    have bh := aH.bd i hiN
    have wt := wtot_in p hp.w.2 hiN
    have m1 : -128000000 ≤ wtot (nbs p i) * gt lo i ∧ wtot (nbs p i) * gt lo i ≤ 128000000 := by
      have k1 := Int.mul_le_mul_of_nonneg_left bl.1 wt.1
      have k2 := Int.mul_le_mul_of_nonneg_left bl.2 wt.1
      omega
    have m2 : -128000000 ≤ wtot (nbs p i) * gt hi i ∧ wtot (nbs p i) * gt hi i ≤ 128000000 := by
      have k1 := Int.mul_le_mul_of_nonneg_left bh.1 wt.1
      have k2 := Int.mul_le_mul_of_nonneg_left bh.2 wt.1
      omega
    have u1 : IntKind.i64.wrap (wtot (nbs p i) * gt lo i) = wtot (nbs p i) * gt lo i := w64 (by omega)
    have u2 : IntKind.i64.wrap (wtot (nbs p i) * gt hi i) = wtot (nbs p i) * gt hi i := w64 (by omega)
    have hbad : ¬ cellG p v lo hi i → b = false := fun h => no_of hb fun h2 => h (h2 i hiN)
    have ihn := fun hg : cellG p v lo hi i => ih (i + 1) (by omega) ⟨h1, fun j hj => by
      by_cases e : j = i
      · rw [e]; exact hg
      · exact hall j (by omega)⟩
    clear ih
    have hc := hp.cell _ (gt_mem h1)
    unfold cellG at hbad ihn
    by_cases hz : gt p.cs i = 0
    · rw [if_pos hz] at hbad ihn
      have hz' : ¬ 0 < gt p.cs i := by omega
      generalize wsum (nbs p i) (gt lo) = sl at *
      generalize wsum (nbs p i) (gt hi) = sh at *
      generalize wtot (nbs p i) = tw at *
      generalize gt p.cs i = z at *
      by_cases g1 : sl < tw * gt lo i
      · rw [hbad (by omega)]
        simp only [go_sem, Pl.v, Pl.a, Pl.c4, vw, List.length_map, h2, n0, hx, hz', h3]
        refine cP r1 ?_
        simp only [go_sem, Pl.v, Pl.a, Pl.c4, vw]
        refine cP r2 ?_
        simp only [go_sem, Pl.v, Pl.a, Pl.c4, vw, List.length_map, hz', n0, cl, ch, gl, gh, u1, u2, g1, h3]
      · by_cases g2 : tw * gt hi i < sh
        · rw [hbad (by omega)]
          simp only [go_sem, Pl.v, Pl.a, Pl.c4, vw, List.length_map, h2, n0, hx, hz', h3]
          refine cP r1 ?_
          simp only [go_sem, Pl.v, Pl.a, Pl.c4, vw]
          refine cP r2 ?_
          simp only [go_sem, Pl.v, Pl.a, Pl.c4, vw, List.length_map, hz', n0, cl, ch, gl, gh, u1, u2, g1, g2, h3]
        · simp only [go_sem, Pl.v, Pl.a, Pl.c4, vw, List.length_map, h2, n0, hx, hz', h3]
          refine cP r1 ?_
          simp only [go_sem, Pl.v, Pl.a, Pl.c4, vw]
          refine cP r2 ?_
          simp only [go_sem, Pl.v, Pl.a, Pl.c4, vw, List.length_map, hz', n0, cl, ch, gl, gh, u1, u2, g1, g2, h3]
          exact ihn (by omega) _ (by simp [go_sem, vw])
    · rw [if_neg hz] at hbad ihn
      have hz' : 0 < gt p.cs i := by omega
      have hcm := hp.max.2.2 _ (gt_mem h1)
      have w1 : IntKind.i64.wrap (gt p.cs i - 1) = gt p.cs i - 1 := w64 (by omega)
      have k1 : ¬ gt p.cs i - 1 < 0 := by omega
      have k2 : gt p.cs i - 1 < v.length := by omega
      have hxv : v[(gt p.cs i - 1).toNat]? = some (vo v (gt p.cs i)) := gt_get (by omega)
      generalize gt p.cs i = z at *
      generalize vo v z = vz at *
      by_cases g1 : vz < gt lo i
      · rw [hbad (by omega)]
        simp only [go_sem, Pl.v, Pl.a, Pl.c4, vw, List.length_map, h2, hx, hz', n0, cl, ch, gl, gh, w1, k1, k2, hxv, g1, h3]
      · by_cases g2 : gt hi i < vz
        · rw [hbad (by omega)]
          simp only [go_sem, Pl.v, Pl.a, Pl.c4, vw, List.length_map, h2, hx, hz', n0, cl, ch, gl, gh, w1, k1, k2, hxv, g1, g2, h3]
        · simp only [go_sem, Pl.v, Pl.a, Pl.c4, vw, List.length_map, h2, hx, hz', n0, cl, ch, gl, gh, w1, k1, k2, hxv, g1, g2, h3]
          exact ihn (by omega) _ (by simp [go_sem, vw])
  · have h2 : ¬ (i : Int) < p.cs.length := by omega
    have hbt : b = true := hb.2 fun j hj => hall j (by omega)
    rw [hbt]
    simp only [go_sem, Pl.v, Pl.a, Pl.c4, vw, List.length_map, h2]

theorem rGood_raw (p : Rp) {v lo hi : List Int} (hlen : p.cs.length ≤ 1000000) (hv : v.length ≤ 1000000) (b : Bool) (hb : b = true ↔ goodR p v lo hi) : Ans Try.prog n_ref01_Good [p.v, vw v, vw lo, vw hi] [] (.bool b) [] := by
  have c1 := rCheckVolts_raw p (v := v) hlen hv
  by_cases h1 : p.errV v = 0
  rotate_left
  · have h1' : (p.errV v != 0) = true := by simp [h1]
    rw [no_of hb fun h => h1 h.1]
    refine spec_run e_ref01_Good fun G => ?_
    simp only [go_sem, Rp.v, vw]
    refine cP c1 ?_
    simp only [go_sem, h1']
  rw [h1] at c1
  by_cases h2 : lo.length = p.cs.length
  rotate_left
  · have e1 : ((lo.length : Int) != p.cs.length) = true := by simp; omega
    rw [no_of hb fun h => h2 h.2.1.1]
    refine spec_run e_ref01_Good fun G => ?_
    simp only [go_sem, Rp.v, vw]
    refine cP c1 ?_
    simp only [go_sem, List.length_map, e1]
  by_cases h3 : hi.length = p.cs.length
  rotate_left
  · have e1 : ((lo.length : Int) != p.cs.length) = false := by simp [h2]
    have e2 : ((hi.length : Int) != p.cs.length) = true := by simp; omega
    rw [no_of hb fun h => h3 h.2.2.1.1]
    refine spec_run e_ref01_Good fun G => ?_
    simp only [go_sem, Rp.v, vw]
    refine cP c1 ?_
    simp only [go_sem, List.length_map, e1, e2]
  obtain ⟨⟨hp, hpv⟩, hvv, hvl⟩ := Rp.okV h1
  rw [hpv] at c1 ⊢
  exact rGood_gen hp hvl c1 h2 h3 b ⟨fun h => (hb.1 h).2, fun h => hb.2 ⟨h1, h⟩⟩
end Go.Proofs

namespace Go.Proofs
open Go Go.Sx
attribute [local irreducible] Run

end Go.Proofs

namespace Go.Proofs
open Go Go.Sx
attribute [local irreducible] Run

theorem big_gen (p : Rp) (ls : List (List Int)) (hls : ls.length ≤ 1000) (b : Bool) (hb : b = true ↔ ((∃ l ∈ ls, 300 < l.length) ∨ 300 < p.cs.length)) : Ans Try.prog n_law01_big [p.v, .view (ls.map vw)] [] (.bool b) [] := by
  refine spec_run e_law01_big fun G => ?_
  simp only [go_sem, Rp.v]
  refine loop_ind k_law01_big_r6.eq_1 (fun i : Nat => i ≤ ls.length ∧ ∀ l ∈ ls.take i, ¬ 300 < l.length) (fun i => ls.length - i)
    (fun i => (tsets 22 [(1, .view (ls.map vw)), (2, .ptr 0 0 0 1), (5, .int .i64 i)], [some (.cells false 4 [p.v])])) 0 ⟨Nat.zero_le _, fun l hl => by simp at hl⟩ (by simp [go_sem]) rfl ?_
  rintro i ⟨hi, hall⟩ ih
  dsimp only at hi hall ih ⊢
  by_cases h1 : i < ls.length
  · have h2 : (i : Int) < ls.length := by omega
    have h3 := idx_next h1 (by omega)
    have n0 : ¬ (i : Int) < 0 := by omega
    have hx : ls[i]? = some ls[i] := List.getElem?_eq_getElem h1
    have hm : ls[i] ∈ ls := List.getElem_mem h1
    have hT : ls.take (i + 1) = ls.take i ++ [ls[i]] := by rw [List.take_add_one, hx]; rfl
    have ihn := fun hq : ¬ 300 < ls[i].length => ih (i + 1) (by omega) ⟨h1, fun l hl => by
      rw [hT] at hl
      rcases List.mem_append.1 hl with h | h
      · exact hall l h
      · simp at h; rw [h]; exact hq⟩
    clear ih hT
    generalize ls[i] = l at *
    by_cases hq : (300 : Int) < l.length
    · rw [hb.2 (.inl ⟨l, hm, by omega⟩)]
      simp only [go_sem, List.length_map, h2, n0, hx, vw, hq]
    · simp only [go_sem, List.length_map, h2, n0, hx, vw, hq, h3]
      exact ihn (by omega) _ (by simp [go_sem])
  · have h2 : ¬ (i : Int) < ls.length := by omega
    rw [List.take_of_length_le (by omega)] at hall
    by_cases hq : (300 : Int) < p.cs.length
    · rw [hb.2 (.inr (by omega))]
      simp only [go_sem, Rp.v, List.length_map, h2, vw, hq]
    · rw [no_of hb fun h => by
        rcases h with ⟨l, hl, h⟩ | h
        · exact hall l hl h
        · omega]
      simp only [go_sem, Rp.v, List.length_map, h2, vw, hq]
theorem own_ok {l : List Int} (hlen : l.length ≤ 1000000) (hne : 1 ≤ l.length) : Ans Try.prog n_kit_Own [vw l] [] (.sl 0 0 l.length) [some (.cells true 1 (iv l))] := by
  refine Ans.keep (run_fn e_kit_Own fun G => ?_) (by simp) (by simp [go_sem]) ⟨iv_row _ _ _, trivial⟩
  have hnz : l ≠ [] := fun h => by rw [h] at hne; simp at hne
  simp only [go_sem, vw]
  have hs : sizedAll 1 (List.map (AVal.int IntKind.i64) l) = true := by simp [sizedAll, acells, AVal.one]
  refine ⟨by rw [hs]; simp, by omega, ?_⟩
  exact kept_new (A := []) 0 0 rfl rfl (by omega) (by simp [ren, rens]) (fun i x hx => by simp at hx) (iv_row _ _ _) rfl
theorem kSame_self {l : List Int} (hlen : l.length ≤ 1000000) : Ans Try.prog n_kit_Same [vw l, vw l] [] (.bool true) [] := by
  have h := Same_ok (a := l) (b := l) hlen
  simpa using h
def big3 (a b c : List Int) : AVal := .view [vw a, vw b, vw c]
theorem big3_frz {H : Heap} {j : Nat} {a b c : List Int} (h : H[j]? = some (some (.cells false 1 [vw a, vw b, vw c]))) : frz 6 H (.sl j 0 3) = big3 a b c := by
  refine (frz_sl (d := 5) h rfl).trans ?_
  show AVal.view [frz 5 H (vw a), frz 5 H (vw b), frz 5 H (vw c)] = _
  rw [vw_frz 3, vw_frz 3, vw_frz 3]; rfl

set_option maxHeartbeats 16000000 in
set_option maxRecDepth 20000 in
theorem goods_law (p : Rp) (v lo hi zs : List Int) (at' by' : Int) (hl : zs.length ≤ 9223372036854775807) : Ans Try.prog n_law01_FieldGoods [p.v, vw v, vw lo, vw hi, .view (zs.map (.int .i64)), .int .i64 at', .int .i64 by'] [] (.bool true) [] := by
  obtain ⟨bb, hbb⟩ := boolOf ((∃ l ∈ [v, lo, hi], 300 < l.length) ∨ 300 < p.cs.length)
  have hB := big_gen p [v, lo, hi] (by simp) bb hbb
  cases bb with
  | true =>
    refine spec_run e_law01_FieldGoods fun G => ?_
    simp only [go_sem, Rp.v, vw]
    refine cF hB 6 ⟨.inl (rp_frz 3 _ p), .inl (big3_frz rfl), trivial⟩ ?_
    simp only [go_sem]
    refine cP awake_ok ?_
    simp only [go_sem]
  | false =>
  have hno : ¬ ((∃ l ∈ [v, lo, hi], 300 < l.length) ∨ 300 < p.cs.length) := fun h => by have := hbb.2 h; cases this
  have l1 : v.length ≤ 300 := by
    by_cases h : v.length ≤ 300
    · exact h
    · exact absurd (.inl ⟨v, by simp, by omega⟩) hno
  have l2 : lo.length ≤ 300 := by
    by_cases h : lo.length ≤ 300
    · exact h
    · exact absurd (.inl ⟨lo, by simp, by omega⟩) hno
  have l3 : hi.length ≤ 300 := by
    by_cases h : hi.length ≤ 300
    · exact h
    · exact absurd (.inl ⟨hi, by simp, by omega⟩) hno
  have l4 : p.cs.length ≤ 300 := by
    by_cases h : p.cs.length ≤ 300
    · exact h
    · exact absurd (.inr (by omega)) hno
  clear hno hbb
  obtain ⟨b1, hb1⟩ := boolOf (goodR p v lo hi)
  have q1 := Good_raw p (v := v) (lo := lo) (hi := hi) (by omega) (by omega) (by omega) (by omega) b1 hb1
  have q2 := rGood_raw p (v := v) (lo := lo) (hi := hi) (by omega) (by omega) b1 hb1
  clear hb1
  have hbe : (b1 == b1) = true := by cases b1 <;> rfl
  have m2 := mod_pos by' 4 (by omega)
  have y2 : 0 ≤ by' % 4 ∧ by' % 4 < 4 := ⟨Int.emod_nonneg _ (by decide), Int.emod_lt_of_pos _ (by decide)⟩
  generalize by' % 4 = s at *
  have m5 := mod_pos (IntKind.i64.wrap (by'.tdiv 4)) 5 (by omega)
  have m6 := mod_pos (IntKind.i64.wrap (by'.tdiv 4)) 2 (by omega)
  have y5 : 0 ≤ (IntKind.i64.wrap (by'.tdiv 4)) % 5 ∧ (IntKind.i64.wrap (by'.tdiv 4)) % 5 < 5 := ⟨Int.emod_nonneg _ (by decide), Int.emod_lt_of_pos _ (by decide)⟩
  have y6 : 0 ≤ (IntKind.i64.wrap (by'.tdiv 4)) % 2 ∧ (IntKind.i64.wrap (by'.tdiv 4)) % 2 < 2 := ⟨Int.emod_nonneg _ (by decide), Int.emod_lt_of_pos _ (by decide)⟩
  generalize hby5 : (IntKind.i64.wrap (by'.tdiv 4)) % 5 = t5 at *
  generalize hby6 : (IntKind.i64.wrap (by'.tdiv 4)) % 2 = t6 at *
  clear hby5 hby6
  refine spec_run e_law01_FieldGoods fun G => ?_
  simp only [go_sem, Rp.v, vw]
  refine cF hB 6 ⟨.inl (rp_frz 3 _ p), .inl (big3_frz rfl), trivial⟩ ?_
  simp only [go_sem]
  refine callN1 (newdice_ok zs hl) (by simp only [go_sem]) (dr_bel _ _) (by simp) (by simp) ?_
  generalize seedW zs = w
  simp only [go_sem]
  refine callDN (PlanOf_ok w 8 6 (by omega) (by omega)) rfl (by simp only [go_sem]) (dr_bel _ _) (fun q hq => ⟨pla_bel _ _ _ _ rfl, dr_bel _ _, iv_row _ _ _⟩) (by simp) (by simp) ?_
  rintro ⟨w1, q⟩ hq
  dsimp only at hq ⊢
  have hqo := hq.ok
  have hqN : q.cs.length ≤ 256 := by rw [hqo.len]; exact Nat.mul_le_mul hqo.w.2 hqo.h.2
  have hql : q.cs.length ≤ 1000000 := by omega
  have hq1 : 1 ≤ q.cs.length := by rw [hqo.len]; exact Nat.mul_pos hqo.w.1 hqo.h.1
  have hmx := hqo.max
  simp only [go_sem, Pl.a, Pl.c4, ren, rens]
  refine callR1 (VoltsOf_ok w1 hql (by omega) true) (j0 := 2) (j1 := 3) rfl (by simp [go_sem, Pl.a, Pl.c4]) rfl rfl (dr_bel _ _) (iv_row _ _ _) (by decide) (fun q hq => ⟨by simp [go_sem], dr_bel _ _, iv_row _ _ _⟩) (by simp) (by simp) ?_
  rintro ⟨w2, u⟩ hvv
  dsimp only at hvv ⊢
  have hu := hvv.2
  have hul := hvv.len hq
  have x9 := upto_in (w := w2) (n := 9) (by omega)
  have U9 := upto_ok w2 9 (by omega)
  generalize upto w2 9 = ni at *
  obtain ⟨n, rfl⟩ : ∃ n : Nat, (n : Int) = ni := ⟨ni.toNat, by omega⟩
  have s2 := rSolve_ok (p := q.rp) (v := u) (n := n) (hqo.errS hu hul (by omega))
  rw [Pl.rp_v, Pl.rp_pl, Int.toNat_natCast] at s2
  have A := low_ok hqo u (cnt q u n)
  have B := high_ok hqo u (cnt q u n)
  have lA : (lowB q u (cnt q u n)).length = q.cs.length := by rw [A.len, hqo.len]
  have lB : (highB q u (cnt q u n)).length = q.cs.length := by rw [B.len, hqo.len]
  have bA := (A.at hu).bd
  have bB := (B.at hu).bd
  clear A B
  generalize hgL : lowB q u (cnt q u n) = L at *
  generalize hgH : highB q u (cnt q u n) = U at *
  generalize hgs : stl q u (cnt q u n) = st at *
  generalize hgc : cnt q u n = ct at *
  clear hgL hgH hgs hgc
  have mk := mod_pos at' q.cs.length (by omega)
  have yk : 0 ≤ at' % (q.cs.length : Int) ∧ at' % (q.cs.length : Int) < q.cs.length := ⟨Int.emod_nonneg _ (by omega), Int.emod_lt_of_pos _ (by omega)⟩
  generalize at' % (q.cs.length : Int) = ki at *
  obtain ⟨k, rfl⟩ : ∃ k : Nat, (k : Int) = ki := ⟨ki.toNat, by omega⟩
  have gL := iv_get (l := L) (i := k) (by omega)
  have gU := iv_get (l := U) (i := k) (by omega)
  have bL := bA k (by rw [← hqo.len]; omega)
  have bU := bB k (by rw [← hqo.len]; omega)
  have k0 : ¬ (k : Int) < 0 := by omega
  have k1 : (k : Int) < q.cs.length := by omega
  have W1 : IntKind.i64.wrap (gt L k + t5) = gt L k + t5 := w64 (by omega)
  have W2 : IntKind.i64.wrap (gt L k + t5 - 1) = gt L k + t5 - 1 := w64 (by omega)
  have W3 : IntKind.i64.wrap (gt U k - t5) = gt U k - t5 := w64 (by omega)
  have W4 : IntKind.i64.wrap (gt U k - t5 + 1) = gt U k - t5 + 1 := w64 (by omega)
  have W5 : IntKind.i64.wrap (-1000000 - t6) = -1000000 - t6 := w64 (by omega)
  simp only [go_sem, Pl.a, Pl.c4, ren, rens]
  refine dD U9 ?_
  simp only [go_sem, Pl.a, Pl.c4, ren, rens]
  refine dFN2 s2 6 [3, 5] ⟨.inl (pla_frz 3 (j := 3) (g := true) (onlyR_row rfl (by simp)) rfl), .inl (iv_frz_sl (d := 4) (j := 5) (g := false) (onlyR_row rfl (by simp)) rfl), .inl rfl, trivial⟩ ?_ (by simp [go_sem, fldV]) (by simp only [go_sem, fldV]) (iv_row _ _ _) (iv_nv _ _) (iv_row _ _ _) (iv_nv _ _) (by simp [go_sem])
  simp only [go_sem, ren, rens, fldV, Pl.a, Pl.c4, iv_len]
  refine cP mk ?_
  simp only [go_sem, ren, rens, fldV, Pl.a, Pl.c4, iv_len]
  refine cP m2 ?_
  obtain rfl | rfl | rfl | rfl : s = 0 ∨ s = 1 ∨ s = 2 ∨ s = 3 := by omega
  · simp only [go_sem, Int.reduceBEq, fldV, Pl.a, Pl.c4, iv_len, lA, lB, k0, k1, gL, gU]
    refine dP m5 ?_
    simp only [go_sem, fldV, Pl.a, Pl.c4, iv_len, lA, lB, k0, k1, gL, gU, W1, W2, iv_set]
    have e1 : (L.set k (gt L k + t5 - 1)).length = q.cs.length := by rw [List.length_set, lA]
    have e2 : (U).length = q.cs.length := by exact lB
    generalize L.set k (gt L k + t5 - 1) = L' at *
    generalize U = U' at *
    obtain ⟨b2, hb2⟩ := boolOf (goodR q.rp u L' U')
    have q3 := Good_raw q.rp (v := u) (lo := L') (hi := U') hql (by omega) (by omega) (by omega) b2 hb2
    have q4 := rGood_raw q.rp (v := u) (lo := L') (hi := U') hql (by omega) b2 hb2
    rw [Pl.rp_v] at q3 q4
    clear hb2
    have hbf : (b2 == b2) = true := by cases b2 <;> rfl
    have o1 := own_ok (l := L') (by omega) (by omega)
    have o2 := own_ok (l := U') (by omega) (by omega)
    rw [e1] at o1
    rw [e2] at o2
    have t1 := kSame_self (l := L') (by omega)
    have t2 := kSame_self (l := U') (by omega)
    refine dFN o1 6 [6] ⟨.inl (iv_frz_sl (d := 4) (j := 6) (g := true) (onlyR_row rfl (by simp)) e1.symm), trivial⟩ ?_ (hr := by simp [go_sem]) (hnv := by simp only [go_sem]) (hx := iv_row _ _ _) (hxn := iv_nv _ _)
    simp only [go_sem, ren, rens, fldV, Pl.a, Pl.c4, iv_len]
    refine cFN o2 6 ⟨.inl (iv_frz_sl (d := 4) (j := 7) (g := true) rfl e2.symm), trivial⟩ ?_ (by simp [go_sem]) (by simp only [go_sem]) (iv_row _ _ _) (iv_nv _ _)
    simp only [go_sem, ren, rens, fldV, Pl.a, Pl.c4, iv_len]
    refine dP q1 ?_
    simp only [go_sem, ren, rens, fldV, Pl.a, Pl.c4, iv_len]
    refine cP q2 ?_
    simp only [go_sem, ren, rens, fldV, Pl.a, Pl.c4, iv_len, hbe]
    refine dF q3 6 [3, 5, 9, 10] ⟨.inl (pla_frz 3 (p := q) (j := 3) (g := true) (onlyR_row rfl (by simp)) rfl), .inl (iv_frz_sl (d := 4) (j := 5) (g := false) (onlyR_row rfl (by simp)) rfl), .inl (iv_frz_sl (d := 4) (j := 9) (g := true) (onlyR_row rfl (by simp)) e1.symm), .inl (iv_frz_sl (d := 4) (j := 10) (g := true) (onlyR_row rfl (by simp)) e2.symm), trivial⟩ ?_
    simp only [go_sem, ren, rens, fldV, Pl.a, Pl.c4, iv_len]
    refine cF q4 6 ⟨.inl (pla_frz 3 (p := q) (j := 3) (g := true) rfl rfl), .inl (iv_frz_sl (d := 4) (j := 5) (g := false) rfl rfl), .inl (iv_frz_sl (d := 4) (j := 6) (g := true) rfl e1.symm), .inl (iv_frz_sl (d := 4) (j := 7) (g := true) rfl e2.symm), trivial⟩ ?_
    simp only [go_sem, ren, rens, fldV, Pl.a, Pl.c4, iv_len, hbf]
    refine cF t1 6 ⟨.inl (iv_frz_sl (d := 4) (j := 9) (g := true) rfl e1.symm), .inl (iv_frz_sl (d := 4) (j := 6) (g := true) rfl e1.symm), trivial⟩ ?_
    simp only [go_sem, ren, rens, fldV, Pl.a, Pl.c4, iv_len, hbf]
    refine cF t2 6 ⟨.inl (iv_frz_sl (d := 4) (j := 10) (g := true) rfl e2.symm), .inl (iv_frz_sl (d := 4) (j := 7) (g := true) rfl e2.symm), trivial⟩ ?_
    simp only [go_sem, ren, rens, fldV, Pl.a, Pl.c4, iv_len, hbf]
    refine cP awake_ok ?_
    simp only [go_sem]
  · simp only [go_sem, Int.reduceBEq, fldV, Pl.a, Pl.c4, iv_len, lA, lB, k0, k1, gL, gU]
    refine dP m5 ?_
    simp only [go_sem, fldV, Pl.a, Pl.c4, iv_len, lA, lB, k0, k1, gL, gU, W3, W4, iv_set]
    have e1 : (L).length = q.cs.length := by exact lA
    have e2 : (U.set k (gt U k - t5 + 1)).length = q.cs.length := by rw [List.length_set, lB]
    generalize L = L' at *
    generalize U.set k (gt U k - t5 + 1) = U' at *
    obtain ⟨b2, hb2⟩ := boolOf (goodR q.rp u L' U')
    have q3 := Good_raw q.rp (v := u) (lo := L') (hi := U') hql (by omega) (by omega) (by omega) b2 hb2
    have q4 := rGood_raw q.rp (v := u) (lo := L') (hi := U') hql (by omega) b2 hb2
    rw [Pl.rp_v] at q3 q4
    clear hb2
    have hbf : (b2 == b2) = true := by cases b2 <;> rfl
    have o1 := own_ok (l := L') (by omega) (by omega)
    have o2 := own_ok (l := U') (by omega) (by omega)
    rw [e1] at o1
    rw [e2] at o2
    have t1 := kSame_self (l := L') (by omega)
    have t2 := kSame_self (l := U') (by omega)
    refine dFN o1 6 [6] ⟨.inl (iv_frz_sl (d := 4) (j := 6) (g := true) (onlyR_row rfl (by simp)) e1.symm), trivial⟩ ?_ (hr := by simp [go_sem]) (hnv := by simp only [go_sem]) (hx := iv_row _ _ _) (hxn := iv_nv _ _)
    simp only [go_sem, ren, rens, fldV, Pl.a, Pl.c4, iv_len]
    refine cFN o2 6 ⟨.inl (iv_frz_sl (d := 4) (j := 7) (g := true) rfl e2.symm), trivial⟩ ?_ (by simp [go_sem]) (by simp only [go_sem]) (iv_row _ _ _) (iv_nv _ _)
    simp only [go_sem, ren, rens, fldV, Pl.a, Pl.c4, iv_len]
    refine dP q1 ?_
    simp only [go_sem, ren, rens, fldV, Pl.a, Pl.c4, iv_len]
    refine cP q2 ?_
    simp only [go_sem, ren, rens, fldV, Pl.a, Pl.c4, iv_len, hbe]
    refine dF q3 6 [3, 5, 9, 10] ⟨.inl (pla_frz 3 (p := q) (j := 3) (g := true) (onlyR_row rfl (by simp)) rfl), .inl (iv_frz_sl (d := 4) (j := 5) (g := false) (onlyR_row rfl (by simp)) rfl), .inl (iv_frz_sl (d := 4) (j := 9) (g := true) (onlyR_row rfl (by simp)) e1.symm), .inl (iv_frz_sl (d := 4) (j := 10) (g := true) (onlyR_row rfl (by simp)) e2.symm), trivial⟩ ?_
    simp only [go_sem, ren, rens, fldV, Pl.a, Pl.c4, iv_len]
    refine cF q4 6 ⟨.inl (pla_frz 3 (p := q) (j := 3) (g := true) rfl rfl), .inl (iv_frz_sl (d := 4) (j := 5) (g := false) rfl rfl), .inl (iv_frz_sl (d := 4) (j := 6) (g := true) rfl e1.symm), .inl (iv_frz_sl (d := 4) (j := 7) (g := true) rfl e2.symm), trivial⟩ ?_
    simp only [go_sem, ren, rens, fldV, Pl.a, Pl.c4, iv_len, hbf]
    refine cF t1 6 ⟨.inl (iv_frz_sl (d := 4) (j := 9) (g := true) rfl e1.symm), .inl (iv_frz_sl (d := 4) (j := 6) (g := true) rfl e1.symm), trivial⟩ ?_
    simp only [go_sem, ren, rens, fldV, Pl.a, Pl.c4, iv_len, hbf]
    refine cF t2 6 ⟨.inl (iv_frz_sl (d := 4) (j := 10) (g := true) rfl e2.symm), .inl (iv_frz_sl (d := 4) (j := 7) (g := true) rfl e2.symm), trivial⟩ ?_
    simp only [go_sem, ren, rens, fldV, Pl.a, Pl.c4, iv_len, hbf]
    refine cP awake_ok ?_
    simp only [go_sem]
  · simp only [go_sem, Int.reduceBEq, fldV, Pl.a, Pl.c4, iv_len, lA, lB, k0, k1, gL, gU]
    refine dP m6 ?_
    simp only [go_sem, fldV, Pl.a, Pl.c4, iv_len, lA, lB, k0, k1, gL, gU, W5, iv_set]
    have e1 : (L.set k (-1000000 - t6)).length = q.cs.length := by rw [List.length_set, lA]
    have e2 : (U.set k 1000000).length = q.cs.length := by rw [List.length_set, lB]
    generalize L.set k (-1000000 - t6) = L' at *
    generalize U.set k 1000000 = U' at *
    obtain ⟨b2, hb2⟩ := boolOf (goodR q.rp u L' U')
    have q3 := Good_raw q.rp (v := u) (lo := L') (hi := U') hql (by omega) (by omega) (by omega) b2 hb2
    have q4 := rGood_raw q.rp (v := u) (lo := L') (hi := U') hql (by omega) b2 hb2
    rw [Pl.rp_v] at q3 q4
    clear hb2
    have hbf : (b2 == b2) = true := by cases b2 <;> rfl
    have o1 := own_ok (l := L') (by omega) (by omega)
    have o2 := own_ok (l := U') (by omega) (by omega)
    rw [e1] at o1
    rw [e2] at o2
    have t1 := kSame_self (l := L') (by omega)
    have t2 := kSame_self (l := U') (by omega)
    refine dFN o1 6 [6] ⟨.inl (iv_frz_sl (d := 4) (j := 6) (g := true) (onlyR_row rfl (by simp)) e1.symm), trivial⟩ ?_ (hr := by simp [go_sem]) (hnv := by simp only [go_sem]) (hx := iv_row _ _ _) (hxn := iv_nv _ _)
    simp only [go_sem, ren, rens, fldV, Pl.a, Pl.c4, iv_len]
    refine cFN o2 6 ⟨.inl (iv_frz_sl (d := 4) (j := 7) (g := true) rfl e2.symm), trivial⟩ ?_ (by simp [go_sem]) (by simp only [go_sem]) (iv_row _ _ _) (iv_nv _ _)
    simp only [go_sem, ren, rens, fldV, Pl.a, Pl.c4, iv_len]
    refine dP q1 ?_
    simp only [go_sem, ren, rens, fldV, Pl.a, Pl.c4, iv_len]
    refine cP q2 ?_
    simp only [go_sem, ren, rens, fldV, Pl.a, Pl.c4, iv_len, hbe]
    refine dF q3 6 [3, 5, 9, 10] ⟨.inl (pla_frz 3 (p := q) (j := 3) (g := true) (onlyR_row rfl (by simp)) rfl), .inl (iv_frz_sl (d := 4) (j := 5) (g := false) (onlyR_row rfl (by simp)) rfl), .inl (iv_frz_sl (d := 4) (j := 9) (g := true) (onlyR_row rfl (by simp)) e1.symm), .inl (iv_frz_sl (d := 4) (j := 10) (g := true) (onlyR_row rfl (by simp)) e2.symm), trivial⟩ ?_
    simp only [go_sem, ren, rens, fldV, Pl.a, Pl.c4, iv_len]
    refine cF q4 6 ⟨.inl (pla_frz 3 (p := q) (j := 3) (g := true) rfl rfl), .inl (iv_frz_sl (d := 4) (j := 5) (g := false) rfl rfl), .inl (iv_frz_sl (d := 4) (j := 6) (g := true) rfl e1.symm), .inl (iv_frz_sl (d := 4) (j := 7) (g := true) rfl e2.symm), trivial⟩ ?_
    simp only [go_sem, ren, rens, fldV, Pl.a, Pl.c4, iv_len, hbf]
    refine cF t1 6 ⟨.inl (iv_frz_sl (d := 4) (j := 9) (g := true) rfl e1.symm), .inl (iv_frz_sl (d := 4) (j := 6) (g := true) rfl e1.symm), trivial⟩ ?_
    simp only [go_sem, ren, rens, fldV, Pl.a, Pl.c4, iv_len, hbf]
    refine cF t2 6 ⟨.inl (iv_frz_sl (d := 4) (j := 10) (g := true) rfl e2.symm), .inl (iv_frz_sl (d := 4) (j := 7) (g := true) rfl e2.symm), trivial⟩ ?_
    simp only [go_sem, ren, rens, fldV, Pl.a, Pl.c4, iv_len, hbf]
    refine cP awake_ok ?_
    simp only [go_sem]
  · simp only [go_sem, Int.reduceBEq, fldV, Pl.a, Pl.c4, iv_len, lA, lB, k0, k1, gL, gU]
    have e1 : (L).length = q.cs.length := by exact lA
    have e2 : (U).length = q.cs.length := by exact lB
    generalize L = L' at *
    generalize U = U' at *
    obtain ⟨b2, hb2⟩ := boolOf (goodR q.rp u L' U')
    have q3 := Good_raw q.rp (v := u) (lo := L') (hi := U') hql (by omega) (by omega) (by omega) b2 hb2
    have q4 := rGood_raw q.rp (v := u) (lo := L') (hi := U') hql (by omega) b2 hb2
    rw [Pl.rp_v] at q3 q4
    clear hb2
    have hbf : (b2 == b2) = true := by cases b2 <;> rfl
    have o1 := own_ok (l := L') (by omega) (by omega)
    have o2 := own_ok (l := U') (by omega) (by omega)
    rw [e1] at o1
    rw [e2] at o2
    have t1 := kSame_self (l := L') (by omega)
    have t2 := kSame_self (l := U') (by omega)
    refine dFN o1 6 [6] ⟨.inl (iv_frz_sl (d := 4) (j := 6) (g := true) (onlyR_row rfl (by simp)) e1.symm), trivial⟩ ?_ (hr := by simp [go_sem]) (hnv := by simp only [go_sem]) (hx := iv_row _ _ _) (hxn := iv_nv _ _)
    simp only [go_sem, ren, rens, fldV, Pl.a, Pl.c4, iv_len]
    refine cFN o2 6 ⟨.inl (iv_frz_sl (d := 4) (j := 7) (g := true) rfl e2.symm), trivial⟩ ?_ (by simp [go_sem]) (by simp only [go_sem]) (iv_row _ _ _) (iv_nv _ _)
    simp only [go_sem, ren, rens, fldV, Pl.a, Pl.c4, iv_len]
    refine dP q1 ?_
    simp only [go_sem, ren, rens, fldV, Pl.a, Pl.c4, iv_len]
    refine cP q2 ?_
    simp only [go_sem, ren, rens, fldV, Pl.a, Pl.c4, iv_len, hbe]
    refine dF q3 6 [3, 5, 9, 10] ⟨.inl (pla_frz 3 (p := q) (j := 3) (g := true) (onlyR_row rfl (by simp)) rfl), .inl (iv_frz_sl (d := 4) (j := 5) (g := false) (onlyR_row rfl (by simp)) rfl), .inl (iv_frz_sl (d := 4) (j := 9) (g := true) (onlyR_row rfl (by simp)) e1.symm), .inl (iv_frz_sl (d := 4) (j := 10) (g := true) (onlyR_row rfl (by simp)) e2.symm), trivial⟩ ?_
    simp only [go_sem, ren, rens, fldV, Pl.a, Pl.c4, iv_len]
    refine cF q4 6 ⟨.inl (pla_frz 3 (p := q) (j := 3) (g := true) rfl rfl), .inl (iv_frz_sl (d := 4) (j := 5) (g := false) rfl rfl), .inl (iv_frz_sl (d := 4) (j := 6) (g := true) rfl e1.symm), .inl (iv_frz_sl (d := 4) (j := 7) (g := true) rfl e2.symm), trivial⟩ ?_
    simp only [go_sem, ren, rens, fldV, Pl.a, Pl.c4, iv_len, hbf]
    refine cF t1 6 ⟨.inl (iv_frz_sl (d := 4) (j := 9) (g := true) rfl e1.symm), .inl (iv_frz_sl (d := 4) (j := 6) (g := true) rfl e1.symm), trivial⟩ ?_
    simp only [go_sem, ren, rens, fldV, Pl.a, Pl.c4, iv_len, hbf]
    refine cF t2 6 ⟨.inl (iv_frz_sl (d := 4) (j := 10) (g := true) rfl e2.symm), .inl (iv_frz_sl (d := 4) (j := 7) (g := true) rfl e2.symm), trivial⟩ ?_
    simp only [go_sem, ren, rens, fldV, Pl.a, Pl.c4, iv_len, hbf]
    refine cP awake_ok ?_
    simp only [go_sem]
end Go.Proofs

