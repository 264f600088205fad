/- A part of the proof. -/
import Derived.Test.YtnnbkoipalaanaaDoorPD
set_option linter.unusedSimpArgs false
set_option linter.unusedVariables false
namespace Go.Proofs
open Go Go.Sx

def k_law07_GaugeSheets_r0 : List AOper := [
  ⟨(some (10)), .move (.const (.bool false)), none, []⟩]
def k_law07_GaugeSheets_r1 : List AOper := [
  ⟨(some (25)), .move (.tmp 0), none, []⟩, 
  ⟨(some (26)), .len false (.tmp 25), none, []⟩, 
  ⟨(some (27)), .bin .plain .gtr (.tmp 26) (.const (.int .i64 20)), none, []⟩, 
  ⟨(some (28)), .move (.tmp 27), none, []⟩, 
  ⟨(some (29)), .move (.tmp 2), (some (28, false)), []⟩, 
  ⟨(some (30)), .len false (.tmp 29), (some (28, false)), []⟩, 
  ⟨(some (31)), .bin .plain .gtr (.tmp 30) (.const (.int .i64 30)), (some (28, false)), []⟩, 
  ⟨(some (32)), .pick (.tmp 28) (.const (.bool true)) (.tmp 31), none, []⟩, 
  ⟨(some (33)), .move (.tmp 32), none, []⟩, 
  ⟨(some (34)), .move (.tmp 3), (some (33, false)), []⟩, 
  ⟨(some (35)), .len false (.tmp 34), (some (33, false)), []⟩, 
  ⟨(some (36)), .bin .plain .gtr (.tmp 35) (.const (.int .i64 30)), (some (33, false)), []⟩, 
  ⟨(some (37)), .pick (.tmp 33) (.const (.bool true)) (.tmp 36), none, []⟩]
def k_law07_GaugeSheets_r2 : List AOper := [
  ⟨(some (38)), .call (.const (.fn (.func 15) [] [])) [], none, []⟩, 
  ⟨(some (10)), .move (.tmp 38), none, []⟩]
def k_law07_GaugeSheets_r3 : List AOper := [
  ⟨(some (11)), .move (.const (.int .i64 0)), none, []⟩]
def k_law07_GaugeSheets_r4 : List AOper := [
  ⟨(some (39)), .move (.tmp 11), none, []⟩, 
  ⟨(some (40)), .move (.tmp 3), none, []⟩, 
  ⟨(some (41)), .len false (.tmp 40), none, []⟩, 
  ⟨(some (42)), .bin .plain .lss (.tmp 39) (.tmp 41), none, []⟩]
def k_law07_GaugeSheets_r5 : List AOper := [
  ⟨(some (45)), .move (.tmp 3), none, []⟩, 
  ⟨(some (46)), .move (.tmp 11), none, []⟩, 
  ⟨(some (47)), .indexAddr 1 (.tmp 45) (.tmp 46), none, []⟩, 
  ⟨(some (48)), .load none (.tmp 47), none, []⟩, 
  ⟨(some (49)), .len false (.tmp 48), none, []⟩, 
  ⟨(some (50)), .bin .plain .gtr (.tmp 49) (.const (.int .i64 20)), none, []⟩]
def k_law07_GaugeSheets_r6 : List AOper := [
  ⟨(some (51)), .call (.const (.fn (.func 15) [] [])) [], none, []⟩, 
  ⟨(some (10)), .move (.tmp 51), none, []⟩]
def k_law07_GaugeSheets_r7 : List AOper := [
  ⟨(some (43)), .move (.tmp 11), none, []⟩, 
  ⟨(some (44)), .bin .plain .add (.tmp 43) (.const (.int .i64 1)), none, []⟩, 
  ⟨(some (11)), .move (.tmp 44), none, []⟩]
def k_law07_GaugeSheets_r8 : ACode := (.seq (.seq (.reg k_law07_GaugeSheets_r4 false) (.cond (.tmp 42) .skip (.exit 0))) (.seq (.block 1 (.seq (.reg k_law07_GaugeSheets_r5 false) (.cond (.tmp 50) (.seq (.reg k_law07_GaugeSheets_r6 false) .ret) .skip))) (.reg k_law07_GaugeSheets_r7 false)))
def k_law07_GaugeSheets_r9 : List AOper := [
  ⟨(some (52)), .move (.tmp 4), none, []⟩, 
  ⟨(some (53)), .call (.const (.fn (.func 16) [] [])) [.tmp 52], none, []⟩, 
  ⟨(some (12)), .move (.tmp 53), none, []⟩]
def k_law07_GaugeSheets_r10 : List AOper := [
  ⟨(some (54)), .move (.tmp 12), none, []⟩, 
  ⟨(some (55)), .call (.const (.fn (.func 17) [] [])) [.tmp 54, .const (.int .i64 4)], none, []⟩, 
  ⟨(some (13)), .move (.tmp 55), none, []⟩]
def k_law07_GaugeSheets_r11 : List AOper := [
  ⟨(some (14)), .move (.const (.nilsl)), none, []⟩]
def k_law07_GaugeSheets_r12 : List AOper := [
  ⟨(some (15)), .move (.const (.nilsl)), none, []⟩]
def k_law07_GaugeSheets_r13 : List AOper := [
  ⟨(some (56)), .move (.tmp 12), none, []⟩, 
  ⟨(some (57)), .call (.const (.fn (.func 19) [] [])) [.tmp 56, .const (.int .i64 7)], none, []⟩, 
  ⟨(some (16)), .move (.tmp 57), none, []⟩]
def k_law07_GaugeSheets_r14 : List AOper := [
  ⟨(some (58)), .move (.tmp 16), none, []⟩, 
  ⟨(some (59)), .bin .plain .gtr (.tmp 58) (.const (.int .i64 0)), none, []⟩]
def k_law07_GaugeSheets_r15 : List AOper := [
  ⟨(some (62)), .move (.tmp 12), none, []⟩, 
  ⟨(some (63)), .call (.const (.fn (.func 20) [] [])) [.tmp 62, .const (.int .i64 (-5000)), .const (.int .i64 5000)], none, []⟩, 
  ⟨(some (17)), .move (.tmp 63), none, []⟩]
def k_law07_GaugeSheets_r16 : List AOper := [
  ⟨(some (64)), .move (.tmp 14), none, []⟩, 
  ⟨(some (65)), .move (.tmp 12), none, []⟩, 
  ⟨(some (66)), .move (.tmp 17), none, []⟩, 
  ⟨(some (67)), .bin .plain .sub (.tmp 66) (.const (.int .i64 200)), none, []⟩, 
  ⟨(some (68)), .move (.tmp 17), none, []⟩, 
  ⟨(some (69)), .bin .plain .add (.tmp 68) (.const (.int .i64 200)), none, []⟩, 
  ⟨(some (70)), .call (.const (.fn (.func 41) [] [])) [.tmp 65, .tmp 67, .tmp 69], none, []⟩, 
  ⟨(some (71)), .buildSlice 2 [.tmp 70], none, []⟩, 
  ⟨(some (72)), .append 2 16 true (.tmp 64) (.tmp 71), none, []⟩, 
  ⟨(some (14)), .move (.tmp 72), none, []⟩]
def k_law07_GaugeSheets_r17 : List AOper := [
  ⟨(some (73)), .move (.tmp 15), none, []⟩, 
  ⟨(some (74)), .move (.tmp 12), none, []⟩, 
  ⟨(some (75)), .move (.tmp 13), none, []⟩, 
  ⟨(some (76)), .move (.tmp 17), none, []⟩, 
  ⟨(some (77)), .call (.const (.fn (.func 38) [] [])) [.tmp 74, .tmp 75, .tmp 76, .const (.int .i64 3)], none, []⟩, 
  ⟨(some (78)), .buildSlice 1 [.tmp 77], none, []⟩, 
  ⟨(some (79)), .append 1 24 false (.tmp 73) (.tmp 78), none, []⟩, 
  ⟨(some (15)), .move (.tmp 79), none, []⟩]
def k_law07_GaugeSheets_r18 : List AOper := [
  ⟨(some (60)), .move (.tmp 16), none, []⟩, 
  ⟨(some (61)), .bin .plain .sub (.tmp 60) (.const (.int .i64 1)), none, []⟩, 
  ⟨(some (16)), .move (.tmp 61), none, []⟩]
def k_law07_GaugeSheets_r19 : ACode := (.seq (.seq (.reg k_law07_GaugeSheets_r14 false) (.cond (.tmp 59) .skip (.exit 2))) (.seq (.block 3 (.seq (.reg k_law07_GaugeSheets_r15 false) (.seq (.reg k_law07_GaugeSheets_r16 false) (.reg k_law07_GaugeSheets_r17 false)))) (.reg k_law07_GaugeSheets_r18 false)))
def k_law07_GaugeSheets_r20 : List AOper := [
  ⟨(some (80)), .move (.tmp 1), none, []⟩, 
  ⟨(some (81)), .call (.const (.fn (.func 22) [] [])) [.tmp 80, .const (.int .i64 300)], none, []⟩, 
  ⟨(some (82)), .bin .plain .add (.const (.int .i64 900)) (.tmp 81), none, []⟩, 
  ⟨(some (18)), .move (.tmp 82), none, []⟩]
def k_law07_GaugeSheets_r21 : List AOper := [
  ⟨(some (84)), .move (.tmp 0), none, []⟩, 
  ⟨(some (85)), .move (.tmp 1), none, []⟩, 
  ⟨(some (86)), .move (.tmp 2), none, []⟩, 
  ⟨(some (87)), .move (.tmp 3), none, []⟩, 
  ⟨(some (88)), .call (.const (.fn (.func 42) [] [])) [.tmp 84, .tmp 85, .tmp 86, .tmp 87], none, []⟩, 
  ⟨(some (83)), .move (.tmp 88), none, []⟩, 
  ⟨(some (89)), .extract (.tmp 83) 0, none, []⟩, 
  ⟨(some (90)), .extract (.tmp 83) 1, none, []⟩, 
  ⟨(some (91)), .extract (.tmp 83) 2, none, []⟩, 
  ⟨(some (19)), .move (.tmp 89), none, []⟩, 
  ⟨(some (20)), .move (.tmp 90), none, []⟩, 
  ⟨(some (21)), .move (.tmp 91), none, []⟩]
def k_law07_GaugeSheets_r22 : List AOper := [
  ⟨(some (93)), .move (.tmp 0), none, []⟩, 
  ⟨(some (94)), .move (.tmp 1), none, []⟩, 
  ⟨(some (95)), .move (.tmp 2), none, []⟩, 
  ⟨(some (96)), .move (.tmp 3), none, []⟩, 
  ⟨(some (97)), .call (.const (.fn (.func 43) [] [])) [.tmp 93, .tmp 94, .tmp 95, .tmp 96], none, []⟩, 
  ⟨(some (92)), .move (.tmp 97), none, []⟩, 
  ⟨(some (98)), .extract (.tmp 92) 0, none, []⟩, 
  ⟨(some (99)), .extract (.tmp 92) 1, none, []⟩, 
  ⟨(some (100)), .extract (.tmp 92) 2, none, []⟩, 
  ⟨(some (22)), .move (.tmp 98), none, []⟩, 
  ⟨(some (23)), .move (.tmp 99), none, []⟩, 
  ⟨(some (24)), .move (.tmp 100), none, []⟩]
def k_law07_GaugeSheets_r23 : List AOper := [
  ⟨(some (101)), .move (.tmp 19), none, []⟩, 
  ⟨(some (102)), .move (.tmp 22), none, []⟩, 
  ⟨(some (103)), .bin .plain .neq (.tmp 101) (.tmp 102), none, []⟩, 
  ⟨(some (104)), .move (.tmp 103), none, []⟩, 
  ⟨(some (105)), .move (.tmp 20), (some (104, false)), []⟩, 
  ⟨(some (106)), .move (.tmp 23), (some (104, false)), []⟩, 
  ⟨(some (107)), .bin .plain .neq (.tmp 105) (.tmp 106), (some (104, false)), []⟩, 
  ⟨(some (108)), .pick (.tmp 104) (.const (.bool true)) (.tmp 107), none, []⟩, 
  ⟨(some (109)), .move (.tmp 108), none, []⟩, 
  ⟨(some (110)), .move (.tmp 21), (some (109, false)), []⟩, 
  ⟨(some (111)), .move (.tmp 24), (some (109, false)), []⟩, 
  ⟨(some (112)), .bin .plain .neq (.tmp 110) (.tmp 111), (some (109, false)), []⟩, 
  ⟨(some (113)), .pick (.tmp 109) (.const (.bool true)) (.tmp 112), none, []⟩]
def k_law07_GaugeSheets_r24 : List AOper := [
  ⟨(some (10)), .move (.const (.bool false)), none, []⟩]
def k_law07_GaugeSheets_r25 : List AOper := [
  ⟨(some (115)), .move (.tmp 13), none, []⟩, 
  ⟨(some (116)), .move (.tmp 18), none, []⟩, 
  ⟨(some (117)), .move (.tmp 14), none, []⟩, 
  ⟨(some (118)), .move (.tmp 15), none, []⟩, 
  ⟨(some (119)), .call (.const (.fn (.func 42) [] [])) [.tmp 115, .tmp 116, .tmp 117, .tmp 118], none, []⟩, 
  ⟨(some (114)), .move (.tmp 119), none, []⟩, 
  ⟨(some (120)), .extract (.tmp 114) 0, none, []⟩, 
  ⟨(some (121)), .extract (.tmp 114) 1, none, []⟩, 
  ⟨(some (122)), .extract (.tmp 114) 2, none, []⟩, 
  ⟨(some (19)), .move (.tmp 120), none, []⟩, 
  ⟨(some (20)), .move (.tmp 121), none, []⟩, 
  ⟨(some (21)), .move (.tmp 122), none, []⟩]
def k_law07_GaugeSheets_r26 : List AOper := [
  ⟨(some (124)), .move (.tmp 13), none, []⟩, 
  ⟨(some (125)), .move (.tmp 18), none, []⟩, 
  ⟨(some (126)), .move (.tmp 14), none, []⟩, 
  ⟨(some (127)), .move (.tmp 15), none, []⟩, 
  ⟨(some (128)), .call (.const (.fn (.func 43) [] [])) [.tmp 124, .tmp 125, .tmp 126, .tmp 127], none, []⟩, 
  ⟨(some (123)), .move (.tmp 128), none, []⟩, 
  ⟨(some (129)), .extract (.tmp 123) 0, none, []⟩, 
  ⟨(some (130)), .extract (.tmp 123) 1, none, []⟩, 
  ⟨(some (131)), .extract (.tmp 123) 2, none, []⟩, 
  ⟨(some (22)), .move (.tmp 129), none, []⟩, 
  ⟨(some (23)), .move (.tmp 130), none, []⟩, 
  ⟨(some (24)), .move (.tmp 131), none, []⟩]
def k_law07_GaugeSheets_r27 : List AOper := [
  ⟨(some (132)), .move (.tmp 19), none, []⟩, 
  ⟨(some (133)), .move (.tmp 22), none, []⟩, 
  ⟨(some (134)), .bin .plain .eql (.tmp 132) (.tmp 133), none, []⟩, 
  ⟨(some (135)), .move (.tmp 134), none, []⟩, 
  ⟨(some (136)), .move (.tmp 20), (some (135, true)), []⟩, 
  ⟨(some (137)), .move (.tmp 23), (some (135, true)), []⟩, 
  ⟨(some (138)), .bin .plain .eql (.tmp 136) (.tmp 137), (some (135, true)), []⟩, 
  ⟨(some (139)), .pick (.tmp 135) (.tmp 138) (.const (.bool false)), none, []⟩, 
  ⟨(some (140)), .move (.tmp 139), none, []⟩, 
  ⟨(some (141)), .move (.tmp 21), (some (140, true)), []⟩, 
  ⟨(some (142)), .move (.tmp 24), (some (140, true)), []⟩, 
  ⟨(some (143)), .bin .plain .eql (.tmp 141) (.tmp 142), (some (140, true)), []⟩, 
  ⟨(some (144)), .pick (.tmp 140) (.tmp 143) (.const (.bool false)), none, []⟩, 
  ⟨(some (145)), .move (.tmp 144), none, []⟩, 
  ⟨(some (146)), .call (.const (.fn (.func 15) [] [])) [], (some (145, true)), []⟩, 
  ⟨(some (147)), .pick (.tmp 145) (.tmp 146) (.const (.bool false)), none, []⟩, 
  ⟨(some (10)), .move (.tmp 147), none, []⟩]
def k_law07_GaugeSheets : AFun := { params := 5, ntmps := 148, body := (.seq (.reg k_law07_GaugeSheets_r0 false) (.seq (.seq (.reg k_law07_GaugeSheets_r1 false) (.cond (.tmp 37) (.seq (.reg k_law07_GaugeSheets_r2 false) .ret) .skip)) (.seq (.seq (.reg k_law07_GaugeSheets_r3 false) (.block 0 (.loop k_law07_GaugeSheets_r8))) (.seq (.reg k_law07_GaugeSheets_r9 false) (.seq (.reg k_law07_GaugeSheets_r10 false) (.seq (.reg k_law07_GaugeSheets_r11 false) (.seq (.reg k_law07_GaugeSheets_r12 false) (.seq (.seq (.reg k_law07_GaugeSheets_r13 false) (.block 2 (.loop k_law07_GaugeSheets_r19))) (.seq (.reg k_law07_GaugeSheets_r20 false) (.seq (.reg k_law07_GaugeSheets_r21 false) (.seq (.reg k_law07_GaugeSheets_r22 false) (.seq (.seq (.reg k_law07_GaugeSheets_r23 false) (.cond (.tmp 113) (.seq (.reg k_law07_GaugeSheets_r24 false) .ret) .skip)) (.seq (.reg k_law07_GaugeSheets_r25 false) (.seq (.reg k_law07_GaugeSheets_r26 false) (.seq (.reg k_law07_GaugeSheets_r27 false) .ret))))))))))))))), res := [.tmp 10] }
theorem k_law07_GaugeSheets_ok : cfun Tryd.prog Tryd.f7 = k_law07_GaugeSheets := by kernel_rfl

def k_gauge_Sheet_r0 : List AOper := [
  ⟨(some (4)), .box (.tmp 0), none, []⟩, 
  ⟨(some (5)), .box (.tmp 1), none, []⟩, 
  ⟨(some (8)), .move (.const (.int .i64 0)), none, []⟩, 
  ⟨(some (9)), .move (.const (.int .i64 0)), none, []⟩, 
  ⟨(some (10)), .move (.const (.int .i64 0)), none, []⟩]
def k_gauge_Sheet_r1 : List AOper := [
  ⟨(some (15)), .load none (.tmp 4), none, []⟩, 
  ⟨(some (16)), .call (.const (.fn (.func 23) [] [])) [.tmp 15], none, []⟩, 
  ⟨(some (11)), .move (.tmp 16), none, []⟩]
def k_gauge_Sheet_r2 : List AOper := [
  ⟨(some (17)), .move (.tmp 11), none, []⟩, 
  ⟨(some (18)), .bin .plain .neq (.tmp 17) (.const (.int .i64 0)), none, []⟩]
def k_gauge_Sheet_r3 : List AOper := [
  ⟨(some (19)), .move (.tmp 11), none, []⟩, 
  ⟨(some (8)), .move (.const (.int .i64 0)), none, []⟩, 
  ⟨(some (9)), .move (.const (.int .i64 0)), none, []⟩, 
  ⟨(some (10)), .move (.tmp 19), none, []⟩]
def k_gauge_Sheet_r4 : List AOper := [
  ⟨(some (20)), .load none (.tmp 5), none, []⟩, 
  ⟨(some (21)), .call (.const (.fn (.func 76) [] [])) [.tmp 20], none, []⟩, 
  ⟨(some (22)), .not (.tmp 21), none, []⟩]
def k_gauge_Sheet_r5 : List AOper := [
  ⟨(some (8)), .move (.const (.int .i64 0)), none, []⟩, 
  ⟨(some (9)), .move (.const (.int .i64 0)), none, []⟩, 
  ⟨(some (10)), .move (.const (.int .i64 2)), none, []⟩]
def k_gauge_Sheet_r6 : List AOper := [
  ⟨(some (23)), .move (.tmp 2), none, []⟩, 
  ⟨(some (24)), .len false (.tmp 23), none, []⟩, 
  ⟨(some (25)), .bin .plain .gtr (.tmp 24) (.const (.int .i64 20)), none, []⟩]
def k_gauge_Sheet_r7 : List AOper := [
  ⟨(some (8)), .move (.const (.int .i64 0)), none, []⟩, 
  ⟨(some (9)), .move (.const (.int .i64 0)), none, []⟩, 
  ⟨(some (10)), .move (.const (.int .i64 8)), none, []⟩]
def k_gauge_Sheet_r8 : List AOper := [
  ⟨(some (26)), .move (.tmp 3), none, []⟩, 
  ⟨(some (27)), .len false (.tmp 26), none, []⟩, 
  ⟨(some (28)), .move (.tmp 2), none, []⟩, 
  ⟨(some (29)), .len false (.tmp 28), none, []⟩, 
  ⟨(some (30)), .bin .plain .neq (.tmp 27) (.tmp 29), none, []⟩]
def k_gauge_Sheet_r9 : List AOper := [
  ⟨(some (8)), .move (.const (.int .i64 0)), none, []⟩, 
  ⟨(some (9)), .move (.const (.int .i64 0)), none, []⟩, 
  ⟨(some (10)), .move (.const (.int .i64 3)), none, []⟩]
def k_gauge_Sheet_r10 : List AOper := [
  ⟨(some (12)), .move (.const (.nilsl)), none, []⟩]
def k_gauge_Sheet_r11 : List AOper := [
  ⟨(some (31)), .move (.tmp 2), none, []⟩, 
  ⟨(some (32)), .len false (.tmp 31), none, []⟩, 
  ⟨(some (33)), .move (.const (.int .i64 0)), none, []⟩]
def k_gauge_Sheet_r12 : List AOper := [
  ⟨(some (34)), .bin .plain .lss (.tmp 33) (.tmp 32), none, []⟩]
def k_gauge_Sheet_r13 : List AOper := [
  ⟨(some (35)), .move (.tmp 33), none, []⟩, 
  ⟨(some (36)), .indexAddr 2 (.tmp 31) (.tmp 33), none, []⟩, 
  ⟨(some (37)), .load (some (2)) (.tmp 36), none, []⟩, 
  ⟨(some (14)), .box (.const (.agg [.int .i64 0, .int .i64 0])), none, []⟩, 
  ⟨(some (13)), .move (.tmp 35), none, []⟩, 
  ⟨none, .store 2 (.tmp 14) (.tmp 37), none, []⟩]
def k_gauge_Sheet_r14 : List AOper := [
  ⟨(some (38)), .move (.tmp 12), none, []⟩, 
  ⟨(some (39)), .load (some (2)) (.tmp 14), none, [0]⟩, 
  ⟨(some (40)), .move (.tmp 3), none, [0, 1]⟩, 
  ⟨(some (41)), .move (.tmp 13), none, [0, 1, 2]⟩, 
  ⟨(some (42)), .indexAddr 1 (.tmp 40) (.tmp 41), none, [0, 1]⟩, 
  ⟨(some (43)), .load none (.tmp 42), none, [0, 1]⟩, 
  ⟨(some (44)), .build [.int .i64 0, .int .i64 0, .nilsl] [(0, 2, .tmp 39), (2, 1, .tmp 43)], none, [0]⟩, 
  ⟨(some (45)), .buildSlice 3 [.tmp 44], none, [0]⟩, 
  ⟨(some (46)), .append 3 40 true (.tmp 38) (.tmp 45), none, []⟩, 
  ⟨(some (12)), .move (.tmp 46), none, []⟩]
def k_gauge_Sheet_r14s : List (List AOper) := [
  [
  ⟨(some (38)), .move (.tmp 12), none, []⟩, 
  ⟨(some (39)), .load (some (2)) (.tmp 14), none, [0]⟩, 
  ⟨(some (40)), .move (.tmp 3), none, [0, 1]⟩, 
  ⟨(some (41)), .move (.tmp 13), none, [0, 1, 2]⟩, 
  ⟨(some (42)), .indexAddr 1 (.tmp 40) (.tmp 41), none, [0, 1]⟩, 
  ⟨(some (43)), .load none (.tmp 42), none, [0, 1]⟩, 
  ⟨(some (44)), .build [.int .i64 0, .int .i64 0, .nilsl] [(0, 2, .tmp 39), (2, 1, .tmp 43)], none, [0]⟩, 
  ⟨(some (45)), .buildSlice 3 [.tmp 44], none, [0]⟩], 
  [
  ⟨(some (46)), .append 3 40 true (.tmp 38) (.tmp 45), none, []⟩], 
  [
  ⟨(some (12)), .move (.tmp 46), none, []⟩]]
theorem k_gauge_Sheet_r14_sg : segs k_gauge_Sheet_r14 = k_gauge_Sheet_r14s := by kernel_rfl
theorem k_gauge_Sheet_r14_st : statOK k_gauge_Sheet_r14 = true := by kernel_rfl
def k_gauge_Sheet_r15 : List AOper := [
  ⟨(some (47)), .bin .plain .add (.tmp 33) (.const (.int .i64 1)), none, []⟩, 
  ⟨(some (33)), .move (.tmp 47), none, []⟩]
def k_gauge_Sheet_r16 : ACode := (.seq (.reg k_gauge_Sheet_r12 false) (.seq (.cond (.tmp 34) .skip (.exit 0)) (.seq (.block 1 (.seq (.reg k_gauge_Sheet_r13 false) (.reg k_gauge_Sheet_r14 true))) (.reg k_gauge_Sheet_r15 false))))
def k_gauge_Sheet_r17 : List AOper := [
  ⟨(some (48)), .move (.tmp 12), none, []⟩, 
  ⟨(some (49)), .makeFunc (.func 78) [] [.tmp 4, .tmp 5], none, []⟩, 
  ⟨(some (50)), .call (.const (.fn (.func 77) [] [])) [.tmp 48, .tmp 49], none, []⟩, 
  ⟨(some (51)), .extract (.tmp 50) 0, none, []⟩, 
  ⟨(some (52)), .extract (.tmp 50) 1, none, []⟩, 
  ⟨(some (53)), .extract (.tmp 50) 2, none, []⟩, 
  ⟨(some (8)), .move (.tmp 51), none, []⟩, 
  ⟨(some (9)), .move (.tmp 52), none, []⟩, 
  ⟨(some (10)), .move (.tmp 53), none, []⟩]
def k_gauge_Sheet : AFun := { params := 4, ntmps := 54, body := (.seq (.reg k_gauge_Sheet_r0 false) (.seq (.seq (.reg k_gauge_Sheet_r1 false) (.seq (.reg k_gauge_Sheet_r2 false) (.cond (.tmp 18) (.seq (.reg k_gauge_Sheet_r3 false) .ret) .skip))) (.seq (.seq (.reg k_gauge_Sheet_r4 false) (.cond (.tmp 22) (.seq (.reg k_gauge_Sheet_r5 false) .ret) .skip)) (.seq (.seq (.reg k_gauge_Sheet_r6 false) (.cond (.tmp 25) (.seq (.reg k_gauge_Sheet_r7 false) .ret) .skip)) (.seq (.seq (.reg k_gauge_Sheet_r8 false) (.cond (.tmp 30) (.seq (.reg k_gauge_Sheet_r9 false) .ret) .skip)) (.seq (.reg k_gauge_Sheet_r10 false) (.seq (.seq (.reg k_gauge_Sheet_r11 false) (.block 0 (.loop k_gauge_Sheet_r16))) (.seq (.reg k_gauge_Sheet_r17 false) .ret)))))))), res := [.tmp 8, .tmp 9, .tmp 10] }
theorem k_gauge_Sheet_ok : cfun Tryd.prog Tryd.f42 = k_gauge_Sheet := by kernel_rfl

def k_ref07_Sheet_r0 : List AOper := [
  ⟨(some (8)), .move (.const (.int .i64 0)), none, []⟩, 
  ⟨(some (9)), .move (.const (.int .i64 0)), none, []⟩, 
  ⟨(some (10)), .move (.const (.int .i64 0)), none, []⟩]
def k_ref07_Sheet_r1 : List AOper := [
  ⟨(some (18)), .move (.tmp 0), none, []⟩, 
  ⟨(some (19)), .call (.const (.fn (.func 24) [] [])) [.tmp 18], none, []⟩, 
  ⟨(some (11)), .move (.tmp 19), none, []⟩]
def k_ref07_Sheet_r2 : List AOper := [
  ⟨(some (20)), .move (.tmp 11), none, []⟩, 
  ⟨(some (21)), .bin .plain .neq (.tmp 20) (.const (.int .i64 0)), none, []⟩]
def k_ref07_Sheet_r3 : List AOper := [
  ⟨(some (22)), .move (.tmp 11), none, []⟩, 
  ⟨(some (8)), .move (.const (.int .i64 0)), none, []⟩, 
  ⟨(some (9)), .move (.const (.int .i64 0)), none, []⟩, 
  ⟨(some (10)), .move (.tmp 22), none, []⟩]
def k_ref07_Sheet_r4 : List AOper := [
  ⟨(some (23)), .move (.tmp 1), none, []⟩, 
  ⟨(some (24)), .call (.const (.fn (.func 58) [] [])) [.tmp 23, .const (.int .i64 0), .const (.int .i64 1000000000)], none, []⟩]
def k_ref07_Sheet_r5 : List AOper := [
  ⟨(some (8)), .move (.const (.int .i64 0)), none, []⟩, 
  ⟨(some (9)), .move (.const (.int .i64 0)), none, []⟩, 
  ⟨(some (10)), .move (.const (.int .i64 2)), none, []⟩]
def k_ref07_Sheet_r6 : List AOper := [
  ⟨(some (25)), .move (.tmp 2), none, []⟩, 
  ⟨(some (26)), .len false (.tmp 25), none, []⟩, 
  ⟨(some (27)), .bin .plain .gtr (.tmp 26) (.const (.int .i64 20)), none, []⟩]
def k_ref07_Sheet_r7 : List AOper := [
  ⟨(some (8)), .move (.const (.int .i64 0)), none, []⟩, 
  ⟨(some (9)), .move (.const (.int .i64 0)), none, []⟩, 
  ⟨(some (10)), .move (.const (.int .i64 8)), none, []⟩]
def k_ref07_Sheet_r8 : List AOper := [
  ⟨(some (28)), .move (.tmp 3), none, []⟩, 
  ⟨(some (29)), .len false (.tmp 28), none, []⟩, 
  ⟨(some (30)), .move (.tmp 2), none, []⟩, 
  ⟨(some (31)), .len false (.tmp 30), none, []⟩, 
  ⟨(some (32)), .bin .plain .neq (.tmp 29) (.tmp 31), none, []⟩]
def k_ref07_Sheet_r9 : List AOper := [
  ⟨(some (8)), .move (.const (.int .i64 0)), none, []⟩, 
  ⟨(some (9)), .move (.const (.int .i64 0)), none, []⟩, 
  ⟨(some (10)), .move (.const (.int .i64 3)), none, []⟩]
def k_ref07_Sheet_r10 : List AOper := [
  ⟨(some (12)), .move (.const (.nilsl)), none, []⟩]
def k_ref07_Sheet_r11 : List AOper := [
  ⟨(some (13)), .move (.const (.int .i64 0)), none, []⟩]
def k_ref07_Sheet_r12 : List AOper := [
  ⟨(some (33)), .move (.tmp 13), none, []⟩, 
  ⟨(some (34)), .move (.tmp 3), none, []⟩, 
  ⟨(some (35)), .len false (.tmp 34), none, []⟩, 
  ⟨(some (36)), .bin .plain .lss (.tmp 33) (.tmp 35), none, []⟩]
def k_ref07_Sheet_r13 : List AOper := [
  ⟨(some (40)), .move (.tmp 0), none, []⟩, 
  ⟨(some (41)), .move (.tmp 1), none, [0]⟩, 
  ⟨(some (42)), .move (.tmp 2), none, [0, 1]⟩, 
  ⟨(some (43)), .move (.tmp 13), none, [0, 1, 2]⟩, 
  ⟨(some (44)), .indexAddr 2 (.tmp 42) (.tmp 43), none, [0, 1]⟩, 
  ⟨(some (45)), .load (some (2)) (.tmp 44), none, [0, 1]⟩, 
  ⟨(some (46)), .move (.tmp 3), none, [0, 1, 2, 3, 4, 5]⟩, 
  ⟨(some (47)), .move (.tmp 13), none, [0, 1, 2, 3, 4, 5, 6]⟩, 
  ⟨(some (48)), .indexAddr 1 (.tmp 46) (.tmp 47), none, [0, 1, 2, 3, 4, 5]⟩, 
  ⟨(some (49)), .load none (.tmp 48), none, [0, 1, 2, 3, 4, 5]⟩, 
  ⟨(some (50)), .call (.const (.fn (.func 80) [] [])) [.tmp 40, .tmp 41, .tmp 45, .tmp 49], none, []⟩, 
  ⟨(some (39)), .move (.tmp 50), none, []⟩, 
  ⟨(some (51)), .extract (.tmp 39) 0, none, []⟩, 
  ⟨(some (52)), .extract (.tmp 39) 1, none, [12]⟩, 
  ⟨(some (14)), .move (.tmp 51), none, [13]⟩, 
  ⟨(some (15)), .move (.tmp 52), none, []⟩]
def k_ref07_Sheet_r13s : List (List AOper) := [
  [
  ⟨(some (40)), .move (.tmp 0), none, []⟩, 
  ⟨(some (41)), .move (.tmp 1), none, [0]⟩, 
  ⟨(some (42)), .move (.tmp 2), none, [0, 1]⟩, 
  ⟨(some (43)), .move (.tmp 13), none, [0, 1, 2]⟩, 
  ⟨(some (44)), .indexAddr 2 (.tmp 42) (.tmp 43), none, [0, 1]⟩, 
  ⟨(some (45)), .load (some (2)) (.tmp 44), none, [0, 1]⟩, 
  ⟨(some (46)), .move (.tmp 3), none, [0, 1, 2, 3, 4, 5]⟩, 
  ⟨(some (47)), .move (.tmp 13), none, [0, 1, 2, 3, 4, 5, 6]⟩, 
  ⟨(some (48)), .indexAddr 1 (.tmp 46) (.tmp 47), none, [0, 1, 2, 3, 4, 5]⟩, 
  ⟨(some (49)), .load none (.tmp 48), none, [0, 1, 2, 3, 4, 5]⟩], 
  [
  ⟨(some (50)), .call (.const (.fn (.func 80) [] [])) [.tmp 40, .tmp 41, .tmp 45, .tmp 49], none, []⟩], 
  [
  ⟨(some (39)), .move (.tmp 50), none, []⟩], 
  [
  ⟨(some (51)), .extract (.tmp 39) 0, none, []⟩, 
  ⟨(some (52)), .extract (.tmp 39) 1, none, [12]⟩, 
  ⟨(some (14)), .move (.tmp 51), none, [13]⟩], 
  [
  ⟨(some (15)), .move (.tmp 52), none, []⟩]]
theorem k_ref07_Sheet_r13_sg : segs k_ref07_Sheet_r13 = k_ref07_Sheet_r13s := by kernel_rfl
theorem k_ref07_Sheet_r13_st : statOK k_ref07_Sheet_r13 = true := by kernel_rfl
def k_ref07_Sheet_r14 : List AOper := [
  ⟨(some (53)), .move (.tmp 15), none, []⟩, 
  ⟨(some (54)), .bin .plain .neq (.tmp 53) (.const (.int .i64 0)), none, []⟩]
def k_ref07_Sheet_r15 : List AOper := [
  ⟨(some (55)), .move (.tmp 15), none, []⟩, 
  ⟨(some (8)), .move (.const (.int .i64 0)), none, []⟩, 
  ⟨(some (9)), .move (.const (.int .i64 0)), none, []⟩, 
  ⟨(some (10)), .move (.tmp 55), none, []⟩]
def k_ref07_Sheet_r16 : List AOper := [
  ⟨(some (56)), .move (.tmp 12), none, []⟩, 
  ⟨(some (57)), .move (.tmp 14), none, []⟩, 
  ⟨(some (58)), .buildSlice 1 [.tmp 57], none, []⟩, 
  ⟨(some (59)), .append 1 8 false (.tmp 56) (.tmp 58), none, []⟩, 
  ⟨(some (12)), .move (.tmp 59), none, []⟩]
def k_ref07_Sheet_r17 : List AOper := [
  ⟨(some (37)), .move (.tmp 13), none, []⟩, 
  ⟨(some (38)), .bin .plain .add (.tmp 37) (.const (.int .i64 1)), none, []⟩, 
  ⟨(some (13)), .move (.tmp 38), none, []⟩]
def k_ref07_Sheet_r18 : ACode := (.seq (.seq (.reg k_ref07_Sheet_r12 false) (.cond (.tmp 36) .skip (.exit 0))) (.seq (.block 1 (.seq (.reg k_ref07_Sheet_r13 true) (.seq (.seq (.reg k_ref07_Sheet_r14 false) (.cond (.tmp 54) (.seq (.reg k_ref07_Sheet_r15 false) .ret) .skip)) (.reg k_ref07_Sheet_r16 false)))) (.reg k_ref07_Sheet_r17 false)))
def k_ref07_Sheet_r19 : List AOper := [
  ⟨(some (61)), .move (.tmp 12), none, []⟩, 
  ⟨(some (62)), .call (.const (.fn (.func 81) [] [])) [.tmp 61], none, []⟩, 
  ⟨(some (60)), .move (.tmp 62), none, []⟩, 
  ⟨(some (63)), .extract (.tmp 60) 0, none, []⟩, 
  ⟨(some (64)), .extract (.tmp 60) 1, none, []⟩, 
  ⟨(some (16)), .move (.tmp 63), none, []⟩, 
  ⟨(some (17)), .move (.tmp 64), none, []⟩]
def k_ref07_Sheet_r20 : List AOper := [
  ⟨(some (65)), .move (.tmp 16), none, []⟩, 
  ⟨(some (66)), .move (.tmp 17), none, []⟩, 
  ⟨(some (8)), .move (.tmp 65), none, []⟩, 
  ⟨(some (9)), .move (.tmp 66), none, []⟩, 
  ⟨(some (10)), .move (.const (.int .i64 0)), none, []⟩]
def k_ref07_Sheet : AFun := { params := 4, ntmps := 67, body := (.seq (.reg k_ref07_Sheet_r0 false) (.seq (.seq (.reg k_ref07_Sheet_r1 false) (.seq (.reg k_ref07_Sheet_r2 false) (.cond (.tmp 21) (.seq (.reg k_ref07_Sheet_r3 false) .ret) .skip))) (.seq (.seq (.reg k_ref07_Sheet_r4 false) (.cond (.tmp 24) (.seq (.reg k_ref07_Sheet_r5 false) .ret) .skip)) (.seq (.seq (.reg k_ref07_Sheet_r6 false) (.cond (.tmp 27) (.seq (.reg k_ref07_Sheet_r7 false) .ret) .skip)) (.seq (.seq (.reg k_ref07_Sheet_r8 false) (.cond (.tmp 32) (.seq (.reg k_ref07_Sheet_r9 false) .ret) .skip)) (.seq (.reg k_ref07_Sheet_r10 false) (.seq (.seq (.reg k_ref07_Sheet_r11 false) (.block 0 (.loop k_ref07_Sheet_r18))) (.seq (.reg k_ref07_Sheet_r19 false) (.seq (.reg k_ref07_Sheet_r20 false) .ret))))))))), res := [.tmp 8, .tmp 9, .tmp 10] }
theorem k_ref07_Sheet_ok : cfun Tryd.prog Tryd.f43 = k_ref07_Sheet := by kernel_rfl

def k_gauge_isTick_r0 : List AOper := [
  ⟨(some (2)), .move (.const (.bool false)), none, []⟩]
def k_gauge_isTick_r1 : List AOper := [
  ⟨(some (3)), .move (.tmp 0), none, []⟩, 
  ⟨(some (4)), .call (.const (.fn (.func 83) [] [])) [.tmp 3, .const (.int .i64 0), .const (.int .i64 1000000000)], none, []⟩, 
  ⟨(some (2)), .move (.tmp 4), none, []⟩]
def k_gauge_isTick : AFun := { params := 1, ntmps := 5, body := (.seq (.reg k_gauge_isTick_r0 false) (.seq (.reg k_gauge_isTick_r1 false) .ret)), res := [.tmp 2] }
theorem k_gauge_isTick_ok : cfun Tryd.prog Tryd.f76 = k_gauge_isTick := by kernel_rfl

def k_gauge_judge_gauge_test_r0 : List AOper := [
  ⟨(some (4)), .move (.const (.int .i64 0)), none, []⟩, 
  ⟨(some (5)), .move (.const (.int .i64 0)), none, []⟩, 
  ⟨(some (6)), .move (.const (.int .i64 0)), none, []⟩]
def k_gauge_judge_gauge_test_r1 : List AOper := [
  ⟨(some (4)), .move (.const (.int .i64 1)), none, []⟩, 
  ⟨(some (5)), .move (.const (.int .i64 (-1))), none, []⟩]
def k_gauge_judge_gauge_test_r2 : List AOper := [
  ⟨(some (11)), .move (.tmp 0), none, []⟩, 
  ⟨(some (12)), .len false (.tmp 11), none, []⟩, 
  ⟨(some (13)), .move (.const (.int .i64 0)), none, []⟩]
def k_gauge_judge_gauge_test_r3 : List AOper := [
  ⟨(some (14)), .bin .plain .lss (.tmp 13) (.tmp 12), none, []⟩]
def k_gauge_judge_gauge_test_r4 : List AOper := [
  ⟨(some (15)), .move (.tmp 13), none, []⟩, 
  ⟨(some (16)), .indexAddr 3 (.tmp 11) (.tmp 13), none, []⟩, 
  ⟨(some (17)), .load (some (3)) (.tmp 16), none, []⟩, 
  ⟨(some (8)), .box (.const (.agg [.int .i64 0, .int .i64 0, .nilsl])), none, []⟩, 
  ⟨(some (7)), .move (.tmp 15), none, []⟩, 
  ⟨none, .store 3 (.tmp 8) (.tmp 17), none, []⟩]
def k_gauge_judge_gauge_test_r5 : List AOper := [
  ⟨(some (19)), .move (.tmp 1), none, []⟩, 
  ⟨(some (20)), .load (some (3)) (.tmp 8), none, []⟩, 
  ⟨(some (21)), .call (.tmp 19) [.tmp 20], none, []⟩, 
  ⟨(some (18)), .move (.tmp 21), none, []⟩, 
  ⟨(some (22)), .extract (.tmp 18) 0, none, []⟩, 
  ⟨(some (23)), .extract (.tmp 18) 1, none, []⟩, 
  ⟨(some (9)), .move (.tmp 22), none, []⟩, 
  ⟨(some (10)), .move (.tmp 23), none, []⟩]
def k_gauge_judge_gauge_test_r6 : List AOper := [
  ⟨(some (24)), .move (.tmp 10), none, []⟩, 
  ⟨(some (25)), .bin .plain .neq (.tmp 24) (.const (.int .i64 0)), none, []⟩]
def k_gauge_judge_gauge_test_r7 : List AOper := [
  ⟨(some (26)), .move (.tmp 10), none, []⟩, 
  ⟨(some (4)), .move (.const (.int .i64 0)), none, []⟩, 
  ⟨(some (5)), .move (.const (.int .i64 0)), none, []⟩, 
  ⟨(some (6)), .move (.tmp 26), none, []⟩]
def k_gauge_judge_gauge_test_r8 : List AOper := [
  ⟨(some (27)), .move (.tmp 9), none, []⟩, 
  ⟨(some (28)), .move (.tmp 4), none, []⟩, 
  ⟨(some (29)), .call (.const (.fn (.func 109) [] [])) [.tmp 27, .tmp 28], none, []⟩]
def k_gauge_judge_gauge_test_r9 : List AOper := [
  ⟨(some (30)), .move (.tmp 9), none, []⟩, 
  ⟨(some (31)), .move (.tmp 7), none, []⟩, 
  ⟨(some (4)), .move (.tmp 30), none, []⟩, 
  ⟨(some (5)), .move (.tmp 31), none, []⟩]
def k_gauge_judge_gauge_test_r10 : List AOper := [
  ⟨(some (32)), .bin .plain .add (.tmp 13) (.const (.int .i64 1)), none, []⟩, 
  ⟨(some (13)), .move (.tmp 32), none, []⟩]
def k_gauge_judge_gauge_test_r11 : ACode := (.seq (.reg k_gauge_judge_gauge_test_r3 false) (.seq (.cond (.tmp 14) .skip (.exit 0)) (.seq (.block 1 (.seq (.reg k_gauge_judge_gauge_test_r4 false) (.seq (.reg k_gauge_judge_gauge_test_r5 false) (.seq (.seq (.reg k_gauge_judge_gauge_test_r6 false) (.cond (.tmp 25) (.seq (.reg k_gauge_judge_gauge_test_r7 false) .ret) .skip)) (.seq (.reg k_gauge_judge_gauge_test_r8 false) (.cond (.tmp 29) (.reg k_gauge_judge_gauge_test_r9 false) .skip)))))) (.reg k_gauge_judge_gauge_test_r10 false))))
def k_gauge_judge_gauge_test_r12 : List AOper := [
  ⟨(some (33)), .move (.tmp 4), none, []⟩, 
  ⟨(some (34)), .move (.tmp 5), none, []⟩, 
  ⟨(some (4)), .move (.tmp 33), none, []⟩, 
  ⟨(some (5)), .move (.tmp 34), none, []⟩, 
  ⟨(some (6)), .move (.const (.int .i64 0)), none, []⟩]
def k_gauge_judge_gauge_test : AFun := { params := 2, ntmps := 35, body := (.seq (.reg k_gauge_judge_gauge_test_r0 false) (.seq (.reg k_gauge_judge_gauge_test_r1 false) (.seq (.seq (.reg k_gauge_judge_gauge_test_r2 false) (.block 0 (.loop k_gauge_judge_gauge_test_r11))) (.seq (.reg k_gauge_judge_gauge_test_r12 false) .ret)))), res := [.tmp 4, .tmp 5, .tmp 6] }
theorem k_gauge_judge_gauge_test_ok : cfun Tryd.prog Tryd.f77 = k_gauge_judge_gauge_test := by kernel_rfl

def k_gauge_Sheet_1_r0 : List AOper := [
  ⟨(some (3)), .box (.tmp 0), none, []⟩, 
  ⟨(some (4)), .move (.const (.int .i64 0)), none, []⟩, 
  ⟨(some (5)), .move (.const (.int .i64 0)), none, []⟩]
def k_gauge_Sheet_1_r1 : List AOper := [
  ⟨(some (6)), .load none (.tmp 1), none, []⟩, 
  ⟨(some (7)), .load none (.tmp 2), none, []⟩, 
  ⟨(some (8)), .load (some (3)) (.tmp 3), none, []⟩, 
  ⟨(some (9)), .call (.const (.fn (.func 79) [] [])) [.tmp 6, .tmp 7, .tmp 8], none, []⟩, 
  ⟨(some (10)), .extract (.tmp 9) 0, none, []⟩, 
  ⟨(some (11)), .extract (.tmp 9) 1, none, []⟩, 
  ⟨(some (4)), .move (.tmp 10), none, []⟩, 
  ⟨(some (5)), .move (.tmp 11), none, []⟩]
def k_gauge_Sheet_1 : AFun := { params := 3, ntmps := 12, body := (.seq (.reg k_gauge_Sheet_1_r0 false) (.seq (.reg k_gauge_Sheet_1_r1 false) .ret)), res := [.tmp 4, .tmp 5] }
theorem k_gauge_Sheet_1_ok : cfun Tryd.prog Tryd.f78 = k_gauge_Sheet_1 := by kernel_rfl

def k_gauge_judgeTest_r0 : List AOper := [
  ⟨(some (5)), .box (.tmp 2), none, []⟩, 
  ⟨(some (6)), .move (.const (.int .i64 0)), none, []⟩, 
  ⟨(some (7)), .move (.const (.int .i64 0)), none, []⟩]
def k_gauge_judgeTest_r1 : List AOper := [
  ⟨(some (11)), .fieldAddr 0 (.tmp 5), none, []⟩, 
  ⟨(some (12)), .load (some (2)) (.tmp 11), none, []⟩, 
  ⟨(some (13)), .call (.const (.fn (.func 70) [] [])) [.tmp 12], none, []⟩]
def k_gauge_judgeTest_r2 : List AOper := [
  ⟨(some (6)), .move (.const (.int .i64 0)), none, []⟩, 
  ⟨(some (7)), .move (.const (.int .i64 11)), none, []⟩]
def k_gauge_judgeTest_r3 : List AOper := [
  ⟨(some (14)), .fieldAddr 2 (.tmp 5), none, []⟩, 
  ⟨(some (15)), .load none (.tmp 14), none, []⟩, 
  ⟨(some (16)), .len false (.tmp 15), none, []⟩, 
  ⟨(some (17)), .bin .plain .gtr (.tmp 16) (.const (.int .i64 10)), none, []⟩]
def k_gauge_judgeTest_r4 : List AOper := [
  ⟨(some (6)), .move (.const (.int .i64 0)), none, []⟩, 
  ⟨(some (7)), .move (.const (.int .i64 8)), none, []⟩]
def k_gauge_judgeTest_r5 : List AOper := [
  ⟨(some (18)), .move (.tmp 0), none, []⟩, 
  ⟨(some (19)), .move (.tmp 1), none, []⟩, 
  ⟨(some (20)), .fieldAddr 2 (.tmp 5), none, []⟩, 
  ⟨(some (21)), .load none (.tmp 20), none, []⟩, 
  ⟨(some (22)), .call (.const (.fn (.func 110) [] [])) [.tmp 18, .tmp 19, .tmp 21], none, []⟩, 
  ⟨(some (8)), .move (.tmp 22), none, []⟩]
def k_gauge_judgeTest_r6 : List AOper := [
  ⟨(some (23)), .move (.tmp 8), none, []⟩, 
  ⟨(some (24)), .bin .plain .neq (.tmp 23) (.const (.int .i64 0)), none, []⟩]
def k_gauge_judgeTest_r7 : List AOper := [
  ⟨(some (25)), .move (.tmp 8), none, []⟩, 
  ⟨(some (6)), .move (.const (.int .i64 0)), none, []⟩, 
  ⟨(some (7)), .move (.tmp 25), none, []⟩]
def k_gauge_judgeTest_r8 : List AOper := [
  ⟨(some (26)), .fieldAddr 2 (.tmp 5), none, []⟩, 
  ⟨(some (27)), .load none (.tmp 26), none, []⟩, 
  ⟨(some (28)), .len false (.tmp 27), none, []⟩, 
  ⟨(some (29)), .bin .plain .eql (.tmp 28) (.const (.int .i64 0)), none, []⟩]
def k_gauge_judgeTest_r9 : List AOper := [
  ⟨(some (6)), .move (.const (.int .i64 3)), none, []⟩, 
  ⟨(some (7)), .move (.const (.int .i64 0)), none, []⟩]
def k_gauge_judgeTest_r10 : List AOper := [
  ⟨(some (31)), .move (.tmp 0), none, []⟩, 
  ⟨(some (32)), .fieldAddr 2 (.tmp 5), none, []⟩, 
  ⟨(some (33)), .load none (.tmp 32), none, []⟩, 
  ⟨(some (34)), .call (.const (.fn (.func 39) [] [])) [.tmp 31, .tmp 33], none, []⟩, 
  ⟨(some (30)), .move (.tmp 34), none, []⟩, 
  ⟨(some (35)), .extract (.tmp 30) 0, none, []⟩, 
  ⟨(some (36)), .extract (.tmp 30) 1, none, []⟩, 
  ⟨(some (9)), .box (.const (.agg [.int .i64 0, .int .i64 0])), none, []⟩, 
  ⟨none, .store 2 (.tmp 9) (.tmp 35), none, []⟩, 
  ⟨(some (10)), .move (.tmp 36), none, []⟩]
def k_gauge_judgeTest_r11 : List AOper := [
  ⟨(some (37)), .move (.tmp 10), none, []⟩, 
  ⟨(some (38)), .bin .plain .neq (.tmp 37) (.const (.int .i64 0)), none, []⟩]
def k_gauge_judgeTest_r12 : List AOper := [
  ⟨(some (39)), .move (.tmp 10), none, []⟩, 
  ⟨(some (6)), .move (.const (.int .i64 0)), none, []⟩, 
  ⟨(some (7)), .move (.tmp 39), none, []⟩]
def k_gauge_judgeTest_r13 : List AOper := [
  ⟨(some (40)), .load (some (2)) (.tmp 9), none, []⟩, 
  ⟨(some (41)), .fieldAddr 0 (.tmp 5), none, []⟩, 
  ⟨(some (42)), .load (some (2)) (.tmp 41), none, []⟩, 
  ⟨(some (43)), .call (.const (.fn (.func 34) [] [])) [.tmp 40, .tmp 42], none, []⟩, 
  ⟨(some (6)), .move (.tmp 43), none, []⟩, 
  ⟨(some (7)), .move (.const (.int .i64 0)), none, []⟩]
def k_gauge_judgeTest : AFun := { params := 3, ntmps := 44, body := (.seq (.reg k_gauge_judgeTest_r0 false) (.seq (.seq (.reg k_gauge_judgeTest_r1 false) (.cond (.tmp 13) (.seq (.reg k_gauge_judgeTest_r2 false) .ret) .skip)) (.seq (.seq (.reg k_gauge_judgeTest_r3 false) (.cond (.tmp 17) (.seq (.reg k_gauge_judgeTest_r4 false) .ret) .skip)) (.seq (.seq (.reg k_gauge_judgeTest_r5 false) (.seq (.reg k_gauge_judgeTest_r6 false) (.cond (.tmp 24) (.seq (.reg k_gauge_judgeTest_r7 false) .ret) .skip))) (.seq (.seq (.reg k_gauge_judgeTest_r8 false) (.cond (.tmp 29) (.seq (.reg k_gauge_judgeTest_r9 false) .ret) .skip)) (.seq (.reg k_gauge_judgeTest_r10 false) (.seq (.seq (.reg k_gauge_judgeTest_r11 false) (.cond (.tmp 38) (.seq (.reg k_gauge_judgeTest_r12 false) .ret) .skip)) (.seq (.reg k_gauge_judgeTest_r13 false) .ret)))))))), res := [.tmp 6, .tmp 7] }
theorem k_gauge_judgeTest_ok : cfun Tryd.prog Tryd.f79 = k_gauge_judgeTest := by kernel_rfl

def k_ref07_test_r0 : List AOper := [
  ⟨(some (6)), .box (.tmp 2), none, []⟩, 
  ⟨(some (8)), .move (.const (.int .i64 0)), none, []⟩, 
  ⟨(some (9)), .move (.const (.int .i64 0)), none, []⟩]
def k_ref07_test_r1 : List AOper := [
  ⟨(some (13)), .fieldAddr 0 (.tmp 6), none, []⟩, 
  ⟨(some (14)), .load none (.tmp 13), none, []⟩, 
  ⟨(some (15)), .fieldAddr 1 (.tmp 6), none, []⟩, 
  ⟨(some (16)), .load none (.tmp 15), none, []⟩, 
  ⟨(some (17)), .bin .plain .gtr (.tmp 14) (.tmp 16), none, []⟩]
def k_ref07_test_r2 : List AOper := [
  ⟨(some (8)), .move (.const (.int .i64 0)), none, []⟩, 
  ⟨(some (9)), .move (.const (.int .i64 11)), none, []⟩]
def k_ref07_test_r3 : List AOper := [
  ⟨(some (18)), .move (.tmp 3), none, []⟩, 
  ⟨(some (19)), .len false (.tmp 18), none, []⟩, 
  ⟨(some (20)), .bin .plain .gtr (.tmp 19) (.const (.int .i64 10)), none, []⟩]
def k_ref07_test_r4 : List AOper := [
  ⟨(some (8)), .move (.const (.int .i64 0)), none, []⟩, 
  ⟨(some (9)), .move (.const (.int .i64 8)), none, []⟩]
def k_ref07_test_r5 : List AOper := [
  ⟨(some (10)), .move (.const (.int .i64 0)), none, []⟩]
def k_ref07_test_r6 : List AOper := [
  ⟨(some (21)), .move (.tmp 10), none, []⟩, 
  ⟨(some (22)), .move (.tmp 3), none, []⟩, 
  ⟨(some (23)), .len false (.tmp 22), none, []⟩, 
  ⟨(some (24)), .bin .plain .lss (.tmp 21) (.tmp 23), none, []⟩]
def k_ref07_test_r7 : List AOper := [
  ⟨(some (27)), .move (.tmp 3), none, []⟩, 
  ⟨(some (28)), .move (.tmp 10), none, []⟩, 
  ⟨(some (29)), .indexAddr 2 (.tmp 27) (.tmp 28), none, []⟩, 
  ⟨(some (30)), .fieldAddr 0 (.tmp 29), none, []⟩, 
  ⟨(some (31)), .load none (.tmp 30), none, []⟩, 
  ⟨(some (32)), .move (.tmp 0), none, []⟩, 
  ⟨(some (33)), .len false (.tmp 32), none, []⟩, 
  ⟨(some (34)), .bin .plain .sub (.tmp 33) (.const (.int .i64 1)), none, []⟩, 
  ⟨(some (35)), .call (.const (.fn (.func 58) [] [])) [.tmp 31, .const (.int .i64 0), .tmp 34], none, []⟩]
def k_ref07_test_r8 : List AOper := [
  ⟨(some (8)), .move (.const (.int .i64 0)), none, []⟩, 
  ⟨(some (9)), .move (.const (.int .i64 7)), none, []⟩]
def k_ref07_test_r9 : List AOper := [
  ⟨(some (36)), .move (.tmp 0), none, []⟩, 
  ⟨(some (37)), .move (.tmp 3), none, []⟩, 
  ⟨(some (38)), .move (.tmp 10), none, []⟩, 
  ⟨(some (39)), .indexAddr 2 (.tmp 37) (.tmp 38), none, []⟩, 
  ⟨(some (40)), .fieldAddr 0 (.tmp 39), none, []⟩, 
  ⟨(some (41)), .load none (.tmp 40), none, []⟩, 
  ⟨(some (42)), .indexAddr 7 (.tmp 36) (.tmp 41), none, []⟩, 
  ⟨(some (43)), .fieldAddr 6 (.tmp 42), none, []⟩, 
  ⟨(some (44)), .load none (.tmp 43), none, []⟩, 
  ⟨(some (45)), .move (.tmp 1), none, []⟩, 
  ⟨(some (46)), .bin .plain .lss (.tmp 44) (.tmp 45), none, []⟩]
def k_ref07_test_r10 : List AOper := [
  ⟨(some (8)), .move (.const (.int .i64 0)), none, []⟩, 
  ⟨(some (9)), .move (.const (.int .i64 10)), none, []⟩]
def k_ref07_test_r11 : List AOper := [
  ⟨(some (25)), .move (.tmp 10), none, []⟩, 
  ⟨(some (26)), .bin .plain .add (.tmp 25) (.const (.int .i64 1)), none, []⟩, 
  ⟨(some (10)), .move (.tmp 26), none, []⟩]
def k_ref07_test_r12 : ACode := (.seq (.seq (.reg k_ref07_test_r6 false) (.cond (.tmp 24) .skip (.exit 0))) (.seq (.block 1 (.seq (.seq (.reg k_ref07_test_r7 false) (.cond (.tmp 35) (.seq (.reg k_ref07_test_r8 false) .ret) .skip)) (.seq (.reg k_ref07_test_r9 false) (.cond (.tmp 46) (.seq (.reg k_ref07_test_r10 false) .ret) .skip)))) (.reg k_ref07_test_r11 false)))
def k_ref07_test_r13 : List AOper := [
  ⟨(some (47)), .move (.tmp 3), none, []⟩, 
  ⟨(some (48)), .len false (.tmp 47), none, []⟩, 
  ⟨(some (49)), .bin .plain .eql (.tmp 48) (.const (.int .i64 0)), none, []⟩]
def k_ref07_test_r14 : List AOper := [
  ⟨(some (8)), .move (.const (.int .i64 3)), none, []⟩, 
  ⟨(some (9)), .move (.const (.int .i64 0)), none, []⟩]
def k_ref07_test_r15 : List AOper := [
  ⟨(some (51)), .move (.tmp 0), none, []⟩, 
  ⟨(some (52)), .move (.tmp 3), none, []⟩, 
  ⟨(some (53)), .call (.const (.fn (.func 40) [] [])) [.tmp 51, .tmp 52], none, []⟩, 
  ⟨(some (50)), .move (.tmp 53), none, []⟩, 
  ⟨(some (54)), .extract (.tmp 50) 0, none, []⟩, 
  ⟨(some (55)), .extract (.tmp 50) 1, none, []⟩, 
  ⟨(some (11)), .box (.const (.agg [.int .i64 0, .int .i64 0])), none, []⟩, 
  ⟨none, .store 2 (.tmp 11) (.tmp 54), none, []⟩, 
  ⟨(some (12)), .move (.tmp 55), none, []⟩]
def k_ref07_test_r16 : List AOper := [
  ⟨(some (56)), .move (.tmp 12), none, []⟩, 
  ⟨(some (57)), .bin .plain .neq (.tmp 56) (.const (.int .i64 0)), none, []⟩]
def k_ref07_test_r17 : List AOper := [
  ⟨(some (58)), .move (.tmp 12), none, []⟩, 
  ⟨(some (8)), .move (.const (.int .i64 0)), none, []⟩, 
  ⟨(some (9)), .move (.tmp 58), none, []⟩]
def k_ref07_test_r18 : List AOper := [
  ⟨(some (59)), .load (some (2)) (.tmp 11), none, []⟩, 
  ⟨(some (60)), .load (some (2)) (.tmp 6), none, []⟩, 
  ⟨(some (61)), .call (.const (.fn (.func 35) [] [])) [.tmp 59, .tmp 60], none, []⟩, 
  ⟨(some (8)), .move (.tmp 61), none, []⟩, 
  ⟨(some (9)), .move (.const (.int .i64 0)), none, []⟩]
def k_ref07_test : AFun := { params := 4, ntmps := 62, body := (.seq (.reg k_ref07_test_r0 false) (.seq (.seq (.reg k_ref07_test_r1 false) (.cond (.tmp 17) (.seq (.reg k_ref07_test_r2 false) .ret) .skip)) (.seq (.seq (.reg k_ref07_test_r3 false) (.cond (.tmp 20) (.seq (.reg k_ref07_test_r4 false) .ret) .skip)) (.seq (.seq (.reg k_ref07_test_r5 false) (.block 0 (.loop k_ref07_test_r12))) (.seq (.seq (.reg k_ref07_test_r13 false) (.cond (.tmp 49) (.seq (.reg k_ref07_test_r14 false) .ret) .skip)) (.seq (.reg k_ref07_test_r15 false) (.seq (.seq (.reg k_ref07_test_r16 false) (.cond (.tmp 57) (.seq (.reg k_ref07_test_r17 false) .ret) .skip)) (.seq (.reg k_ref07_test_r18 false) .ret)))))))), res := [.tmp 8, .tmp 9] }
theorem k_ref07_test_ok : cfun Tryd.prog Tryd.f80 = k_ref07_test := by kernel_rfl

def k_ref07_worst_r0 : List AOper := [
  ⟨(some (2)), .move (.const (.int .i64 0)), none, []⟩, 
  ⟨(some (3)), .move (.const (.int .i64 0)), none, []⟩]
def k_ref07_worst_r1 : List AOper := [
  ⟨(some (7)), .buildSlice 1 [.const (.int .i64 2), .const (.int .i64 3)], none, []⟩, 
  ⟨(some (4)), .move (.tmp 7), none, []⟩]
def k_ref07_worst_r2 : List AOper := [
  ⟨(some (5)), .move (.const (.int .i64 0)), none, []⟩]
def k_ref07_worst_r3 : List AOper := [
  ⟨(some (8)), .move (.tmp 5), none, []⟩, 
  ⟨(some (9)), .move (.tmp 4), none, []⟩, 
  ⟨(some (10)), .len false (.tmp 9), none, []⟩, 
  ⟨(some (11)), .bin .plain .lss (.tmp 8) (.tmp 10), none, []⟩]
def k_ref07_worst_r4 : List AOper := [
  ⟨(some (6)), .move (.const (.int .i64 0)), none, []⟩]
def k_ref07_worst_r5 : List AOper := [
  ⟨(some (14)), .move (.tmp 6), none, []⟩, 
  ⟨(some (15)), .move (.tmp 0), none, []⟩, 
  ⟨(some (16)), .len false (.tmp 15), none, []⟩, 
  ⟨(some (17)), .bin .plain .lss (.tmp 14) (.tmp 16), none, []⟩]
def k_ref07_worst_r6 : List AOper := [
  ⟨(some (20)), .move (.tmp 0), none, []⟩, 
  ⟨(some (21)), .move (.tmp 6), none, [0]⟩, 
  ⟨(some (22)), .indexAddr 1 (.tmp 20) (.tmp 21), none, []⟩, 
  ⟨(some (23)), .load none (.tmp 22), none, []⟩, 
  ⟨(some (24)), .move (.tmp 4), none, [0, 1, 2, 3]⟩, 
  ⟨(some (25)), .move (.tmp 5), none, [0, 1, 2, 3, 4]⟩, 
  ⟨(some (26)), .indexAddr 1 (.tmp 24) (.tmp 25), none, [0, 1, 2, 3]⟩, 
  ⟨(some (27)), .load none (.tmp 26), none, [0, 1, 2, 3]⟩, 
  ⟨(some (28)), .bin .plain .eql (.tmp 23) (.tmp 27), none, []⟩]
def k_ref07_worst_r6s : List (List AOper) := [
  [
  ⟨(some (20)), .move (.tmp 0), none, []⟩, 
  ⟨(some (21)), .move (.tmp 6), none, [0]⟩, 
  ⟨(some (22)), .indexAddr 1 (.tmp 20) (.tmp 21), none, []⟩, 
  ⟨(some (23)), .load none (.tmp 22), none, []⟩, 
  ⟨(some (24)), .move (.tmp 4), none, [0, 1, 2, 3]⟩, 
  ⟨(some (25)), .move (.tmp 5), none, [0, 1, 2, 3, 4]⟩, 
  ⟨(some (26)), .indexAddr 1 (.tmp 24) (.tmp 25), none, [0, 1, 2, 3]⟩, 
  ⟨(some (27)), .load none (.tmp 26), none, [0, 1, 2, 3]⟩], 
  [
  ⟨(some (28)), .bin .plain .eql (.tmp 23) (.tmp 27), none, []⟩]]
theorem k_ref07_worst_r6_sg : segs k_ref07_worst_r6 = k_ref07_worst_r6s := by kernel_rfl
theorem k_ref07_worst_r6_st : statOK k_ref07_worst_r6 = true := by kernel_rfl
def k_ref07_worst_r7 : List AOper := [
  ⟨(some (29)), .move (.tmp 4), none, []⟩, 
  ⟨(some (30)), .move (.tmp 5), none, []⟩, 
  ⟨(some (31)), .indexAddr 1 (.tmp 29) (.tmp 30), none, []⟩, 
  ⟨(some (32)), .load none (.tmp 31), none, []⟩, 
  ⟨(some (33)), .move (.tmp 6), none, []⟩, 
  ⟨(some (2)), .move (.tmp 32), none, []⟩, 
  ⟨(some (3)), .move (.tmp 33), none, []⟩]
def k_ref07_worst_r8 : List AOper := [
  ⟨(some (18)), .move (.tmp 6), none, []⟩, 
  ⟨(some (19)), .bin .plain .add (.tmp 18) (.const (.int .i64 1)), none, []⟩, 
  ⟨(some (6)), .move (.tmp 19), none, []⟩]
def k_ref07_worst_r9 : ACode := (.seq (.seq (.reg k_ref07_worst_r5 false) (.cond (.tmp 17) .skip (.exit 2))) (.seq (.block 3 (.seq (.reg k_ref07_worst_r6 true) (.cond (.tmp 28) (.seq (.reg k_ref07_worst_r7 false) .ret) .skip))) (.reg k_ref07_worst_r8 false)))
def k_ref07_worst_r10 : List AOper := [
  ⟨(some (12)), .move (.tmp 5), none, []⟩, 
  ⟨(some (13)), .bin .plain .add (.tmp 12) (.const (.int .i64 1)), none, []⟩, 
  ⟨(some (5)), .move (.tmp 13), none, []⟩]
def k_ref07_worst_r11 : ACode := (.seq (.seq (.reg k_ref07_worst_r3 false) (.cond (.tmp 11) .skip (.exit 0))) (.seq (.block 1 (.seq (.reg k_ref07_worst_r4 false) (.block 2 (.loop k_ref07_worst_r9)))) (.reg k_ref07_worst_r10 false)))
def k_ref07_worst_r12 : List AOper := [
  ⟨(some (2)), .move (.const (.int .i64 1)), none, []⟩, 
  ⟨(some (3)), .move (.const (.int .i64 (-1))), none, []⟩]
def k_ref07_worst : AFun := { params := 1, ntmps := 34, body := (.seq (.reg k_ref07_worst_r0 false) (.seq (.reg k_ref07_worst_r1 false) (.seq (.seq (.reg k_ref07_worst_r2 false) (.block 0 (.loop k_ref07_worst_r11))) (.seq (.reg k_ref07_worst_r12 false) .ret)))), res := [.tmp 2, .tmp 3] }
theorem k_ref07_worst_ok : cfun Tryd.prog Tryd.f81 = k_ref07_worst := by kernel_rfl

def k_gauge_isWorse_r0 : List AOper := [
  ⟨(some (4)), .move (.const (.bool false)), none, []⟩]
def k_gauge_isWorse_r1 : List AOper := [
  ⟨(some (5)), .move (.tmp 0), none, []⟩, 
  ⟨(some (6)), .move (.tmp 1), none, []⟩, 
  ⟨(some (7)), .bin .plain .neq (.tmp 5) (.tmp 6), none, []⟩, 
  ⟨(some (8)), .move (.tmp 7), none, []⟩, 
  ⟨(some (9)), .move (.tmp 0), (some (8, true)), []⟩, 
  ⟨(some (10)), .bin .plain .eql (.tmp 9) (.const (.int .i64 2)), (some (8, true)), []⟩, 
  ⟨(some (11)), .move (.tmp 10), (some (8, true)), []⟩, 
  ⟨(some (12)), .move (.tmp 1), (some (11, false)), []⟩, 
  ⟨(some (13)), .bin .plain .eql (.tmp 12) (.const (.int .i64 1)), (some (11, false)), []⟩, 
  ⟨(some (14)), .pick (.tmp 11) (.const (.bool true)) (.tmp 13), (some (8, true)), []⟩, 
  ⟨(some (15)), .pick (.tmp 8) (.tmp 14) (.const (.bool false)), none, []⟩, 
  ⟨(some (4)), .move (.tmp 15), none, []⟩]
def k_gauge_isWorse : AFun := { params := 2, ntmps := 16, body := (.seq (.reg k_gauge_isWorse_r0 false) (.seq (.reg k_gauge_isWorse_r1 false) .ret)), res := [.tmp 4] }
theorem k_gauge_isWorse_ok : cfun Tryd.prog Tryd.f109 = k_gauge_isWorse := by kernel_rfl

def k_gauge_checkUse_r0 : List AOper := [
  ⟨(some (6)), .move (.const (.int .i64 0)), none, []⟩]
def k_gauge_checkUse_r1 : List AOper := [
  ⟨(some (9)), .move (.tmp 2), none, []⟩, 
  ⟨(some (10)), .len false (.tmp 9), none, []⟩, 
  ⟨(some (11)), .move (.const (.int .i64 0)), none, []⟩]
def k_gauge_checkUse_r2 : List AOper := [
  ⟨(some (12)), .bin .plain .lss (.tmp 11) (.tmp 10), none, []⟩]
def k_gauge_checkUse_r3 : List AOper := [
  ⟨(some (13)), .indexAddr 2 (.tmp 9) (.tmp 11), none, []⟩, 
  ⟨(some (14)), .load (some (2)) (.tmp 13), none, []⟩, 
  ⟨(some (8)), .box (.const (.agg [.int .i64 0, .int .i64 0])), none, []⟩, 
  ⟨none, .store 2 (.tmp 8) (.tmp 14), none, []⟩]
def k_gauge_checkUse_r4 : List AOper := [
  ⟨(some (15)), .move (.tmp 0), none, []⟩, 
  ⟨(some (16)), .fieldAddr 0 (.tmp 8), none, []⟩, 
  ⟨(some (17)), .load none (.tmp 16), none, []⟩, 
  ⟨(some (18)), .call (.const (.fn (.func 96) [] [])) [.tmp 15, .tmp 17], none, []⟩, 
  ⟨(some (19)), .not (.tmp 18), none, []⟩]
def k_gauge_checkUse_r5 : List AOper := [
  ⟨(some (6)), .move (.const (.int .i64 7)), none, []⟩]
def k_gauge_checkUse_r6 : List AOper := [
  ⟨(some (20)), .move (.tmp 0), none, []⟩, 
  ⟨(some (21)), .fieldAddr 0 (.tmp 8), none, []⟩, 
  ⟨(some (22)), .load none (.tmp 21), none, []⟩, 
  ⟨(some (23)), .indexAddr 7 (.tmp 20) (.tmp 22), none, []⟩, 
  ⟨(some (24)), .fieldAddr 6 (.tmp 23), none, []⟩, 
  ⟨(some (25)), .load none (.tmp 24), none, []⟩, 
  ⟨(some (26)), .move (.tmp 1), none, []⟩, 
  ⟨(some (27)), .bin .plain .lss (.tmp 25) (.tmp 26), none, []⟩]
def k_gauge_checkUse_r7 : List AOper := [
  ⟨(some (6)), .move (.const (.int .i64 10)), none, []⟩]
def k_gauge_checkUse_r8 : List AOper := [
  ⟨(some (28)), .bin .plain .add (.tmp 11) (.const (.int .i64 1)), none, []⟩, 
  ⟨(some (11)), .move (.tmp 28), none, []⟩]
def k_gauge_checkUse_r9 : ACode := (.seq (.reg k_gauge_checkUse_r2 false) (.seq (.cond (.tmp 12) .skip (.exit 0)) (.seq (.block 1 (.seq (.reg k_gauge_checkUse_r3 false) (.seq (.seq (.reg k_gauge_checkUse_r4 false) (.cond (.tmp 19) (.seq (.reg k_gauge_checkUse_r5 false) .ret) .skip)) (.seq (.reg k_gauge_checkUse_r6 false) (.cond (.tmp 27) (.seq (.reg k_gauge_checkUse_r7 false) .ret) .skip))))) (.reg k_gauge_checkUse_r8 false))))
def k_gauge_checkUse_r10 : List AOper := [
  ⟨(some (6)), .move (.const (.int .i64 0)), none, []⟩]
def k_gauge_checkUse : AFun := { params := 3, ntmps := 29, body := (.seq (.reg k_gauge_checkUse_r0 false) (.seq (.seq (.reg k_gauge_checkUse_r1 false) (.block 0 (.loop k_gauge_checkUse_r9))) (.seq (.reg k_gauge_checkUse_r10 false) .ret))), res := [.tmp 6] }
theorem k_gauge_checkUse_ok : cfun Tryd.prog Tryd.f110 = k_gauge_checkUse := by kernel_rfl


abbrev n_law07_GaugeSheets : Nat := 7
theorem e_law07_GaugeSheets : EntryOK Tryd.prog n_law07_GaugeSheets k_law07_GaugeSheets := ⟨Tryd.f7, Tryd.func7, k_law07_GaugeSheets_ok, by kernel_rfl⟩
abbrev n_gauge_Sheet : Nat := 42
theorem e_gauge_Sheet : EntryOK Tryd.prog n_gauge_Sheet k_gauge_Sheet := ⟨Tryd.f42, Tryd.func42, k_gauge_Sheet_ok, by kernel_rfl⟩
abbrev n_ref07_Sheet : Nat := 43
theorem e_ref07_Sheet : EntryOK Tryd.prog n_ref07_Sheet k_ref07_Sheet := ⟨Tryd.f43, Tryd.func43, k_ref07_Sheet_ok, by kernel_rfl⟩
abbrev n_gauge_isTick : Nat := 76
theorem e_gauge_isTick : EntryOK Tryd.prog n_gauge_isTick k_gauge_isTick := ⟨Tryd.f76, Tryd.func76, k_gauge_isTick_ok, by kernel_rfl⟩
abbrev n_gauge_judge_gauge_test : Nat := 77
theorem e_gauge_judge_gauge_test : EntryOK Tryd.prog n_gauge_judge_gauge_test k_gauge_judge_gauge_test := ⟨Tryd.f77, Tryd.func77, k_gauge_judge_gauge_test_ok, by kernel_rfl⟩
abbrev n_gauge_Sheet_1 : Nat := 78
theorem e_gauge_Sheet_1 : EntryOK Tryd.prog n_gauge_Sheet_1 k_gauge_Sheet_1 := ⟨Tryd.f78, Tryd.func78, k_gauge_Sheet_1_ok, by kernel_rfl⟩
abbrev n_gauge_judgeTest : Nat := 79
theorem e_gauge_judgeTest : EntryOK Tryd.prog n_gauge_judgeTest k_gauge_judgeTest := ⟨Tryd.f79, Tryd.func79, k_gauge_judgeTest_ok, by kernel_rfl⟩
abbrev n_ref07_test : Nat := 80
theorem e_ref07_test : EntryOK Tryd.prog n_ref07_test k_ref07_test := ⟨Tryd.f80, Tryd.func80, k_ref07_test_ok, by kernel_rfl⟩
abbrev n_ref07_worst : Nat := 81
theorem e_ref07_worst : EntryOK Tryd.prog n_ref07_worst k_ref07_worst := ⟨Tryd.f81, Tryd.func81, k_ref07_worst_ok, by kernel_rfl⟩
abbrev n_gauge_isWorse : Nat := 109
theorem e_gauge_isWorse : EntryOK Tryd.prog n_gauge_isWorse k_gauge_isWorse := ⟨Tryd.f109, Tryd.func109, k_gauge_isWorse_ok, by kernel_rfl⟩
abbrev n_gauge_checkUse : Nat := 110
theorem e_gauge_checkUse : EntryOK Tryd.prog n_gauge_checkUse k_gauge_checkUse := ⟨Tryd.f110, Tryd.func110, k_gauge_checkUse_ok, by kernel_rfl⟩

attribute [go_sem] k_law07_GaugeSheets_r0 k_law07_GaugeSheets_r1 k_law07_GaugeSheets_r2 k_law07_GaugeSheets_r3 k_law07_GaugeSheets_r4 k_law07_GaugeSheets_r5 k_law07_GaugeSheets_r6 k_law07_GaugeSheets_r7 k_law07_GaugeSheets_r9 k_law07_GaugeSheets_r10 k_law07_GaugeSheets_r11 k_law07_GaugeSheets_r12
attribute [go_sem] k_law07_GaugeSheets_r13 k_law07_GaugeSheets_r14 k_law07_GaugeSheets_r15 k_law07_GaugeSheets_r16 k_law07_GaugeSheets_r17 k_law07_GaugeSheets_r18 k_law07_GaugeSheets_r20 k_law07_GaugeSheets_r21 k_law07_GaugeSheets_r22 k_law07_GaugeSheets_r23 k_law07_GaugeSheets_r24 k_law07_GaugeSheets_r25
attribute [go_sem] k_law07_GaugeSheets_r26 k_law07_GaugeSheets_r27 k_gauge_Sheet_r0 k_gauge_Sheet_r1 k_gauge_Sheet_r2 k_gauge_Sheet_r3 k_gauge_Sheet_r4 k_gauge_Sheet_r5 k_gauge_Sheet_r6 k_gauge_Sheet_r7 k_gauge_Sheet_r8 k_gauge_Sheet_r9
attribute [go_sem] k_gauge_Sheet_r10 k_gauge_Sheet_r11 k_gauge_Sheet_r12 k_gauge_Sheet_r13 k_gauge_Sheet_r14s k_gauge_Sheet_r15 k_gauge_Sheet_r17 k_ref07_Sheet_r0 k_ref07_Sheet_r1 k_ref07_Sheet_r2 k_ref07_Sheet_r3 k_ref07_Sheet_r4
attribute [go_sem] k_ref07_Sheet_r5 k_ref07_Sheet_r6 k_ref07_Sheet_r7 k_ref07_Sheet_r8 k_ref07_Sheet_r9 k_ref07_Sheet_r10 k_ref07_Sheet_r11 k_ref07_Sheet_r12 k_ref07_Sheet_r13s k_ref07_Sheet_r14 k_ref07_Sheet_r15 k_ref07_Sheet_r16
attribute [go_sem] k_ref07_Sheet_r17 k_ref07_Sheet_r19 k_ref07_Sheet_r20 k_gauge_isTick_r0 k_gauge_isTick_r1 k_gauge_judge_gauge_test_r0 k_gauge_judge_gauge_test_r1 k_gauge_judge_gauge_test_r2 k_gauge_judge_gauge_test_r3 k_gauge_judge_gauge_test_r4 k_gauge_judge_gauge_test_r5 k_gauge_judge_gauge_test_r6
attribute [go_sem] k_gauge_judge_gauge_test_r7 k_gauge_judge_gauge_test_r8 k_gauge_judge_gauge_test_r9 k_gauge_judge_gauge_test_r10 k_gauge_judge_gauge_test_r12 k_gauge_Sheet_1_r0 k_gauge_Sheet_1_r1 k_gauge_judgeTest_r0 k_gauge_judgeTest_r1 k_gauge_judgeTest_r2 k_gauge_judgeTest_r3 k_gauge_judgeTest_r4
attribute [go_sem] k_gauge_judgeTest_r5 k_gauge_judgeTest_r6 k_gauge_judgeTest_r7 k_gauge_judgeTest_r8 k_gauge_judgeTest_r9 k_gauge_judgeTest_r10 k_gauge_judgeTest_r11 k_gauge_judgeTest_r12 k_gauge_judgeTest_r13 k_ref07_test_r0 k_ref07_test_r1 k_ref07_test_r2
attribute [go_sem] k_ref07_test_r3 k_ref07_test_r4 k_ref07_test_r5 k_ref07_test_r6 k_ref07_test_r7 k_ref07_test_r8 k_ref07_test_r9 k_ref07_test_r10 k_ref07_test_r11 k_ref07_test_r13 k_ref07_test_r14 k_ref07_test_r15
attribute [go_sem] k_ref07_test_r16 k_ref07_test_r17 k_ref07_test_r18 k_ref07_worst_r0 k_ref07_worst_r1 k_ref07_worst_r2 k_ref07_worst_r3 k_ref07_worst_r4 k_ref07_worst_r5 k_ref07_worst_r6s k_ref07_worst_r7 k_ref07_worst_r8
attribute [go_sem] k_ref07_worst_r10 k_ref07_worst_r12 k_gauge_isWorse_r0 k_gauge_isWorse_r1 k_gauge_checkUse_r0 k_gauge_checkUse_r1 k_gauge_checkUse_r2 k_gauge_checkUse_r3 k_gauge_checkUse_r4 k_gauge_checkUse_r5 k_gauge_checkUse_r6 k_gauge_checkUse_r7
attribute [go_sem] k_gauge_checkUse_r8 k_gauge_checkUse_r10 k_ref07_worst_r6_sg k_ref07_Sheet_r13_sg k_gauge_Sheet_r14_sg k_ref07_worst_r6_st k_ref07_Sheet_r13_st k_gauge_Sheet_r14_st k_law07_GaugeSheets k_gauge_Sheet k_ref07_Sheet k_gauge_isTick
attribute [go_sem] k_gauge_judge_gauge_test k_gauge_Sheet_1 k_gauge_judgeTest k_ref07_test k_ref07_worst k_gauge_isWorse k_gauge_checkUse
end Go.Proofs

namespace Go.Proofs
open Go Go.Sx Go.Gauge
attribute [local irreducible] Run

theorem isTick_run (n : Int) : Ans Tryd.prog n_gauge_isTick [.int .i64 n] [] (.bool (decide (0 ≤ n ∧ n ≤ 1000000000))) [] := by
  refine spec_run e_gauge_isTick fun G => ?_
  simp only [go_sem]
  refine cP (within_run n 0 1000000000) ?_
  simp only [go_sem]
def usE (bs : List Mt) (tick : Int) : List (Int × Int) → Int
  | [] => 0
  | s :: l => if ¬(0 ≤ s.1 ∧ s.1 < bs.length) then 7 else if (mt bs s.1).due < tick then 10 else usE bs tick l

set_option maxHeartbeats 4000000 in
set_option maxRecDepth 10000 in
theorem checkUse_raw (bs : List Mt) (tick : Int) (l : List (Int × Int)) (hl : bs.length ≤ 1000) (hn : l.length ≤ 1000000) :
    Ans Tryd.prog n_gauge_checkUse [.view (bs.map Mv), .int .i64 tick, .view (l.map Sv)] [] (.int .i64 (usE bs tick l)) [] := by
  obtain ⟨F, hF⟩ : ∃ F, usE bs tick l = F := ⟨_, rfl⟩
  rw [hF]
  refine spec_run e_gauge_checkUse fun G => ?_
  simp only [go_sem, List.length_map]
  refine loop_ind k_gauge_checkUse_r9.eq_1 (fun a : Nat × Heap => a.1 ≤ l.length ∧ usE bs tick (l.drop a.1) = F) (fun a => l.length - a.1)
    (fun a => (tsets 29 [(0, .view (bs.map Mv)), (1, .int .i64 tick), (9, .view (l.map Sv)), (10, .int .i64 l.length), (11, .int .i64 a.1)], a.2)) (0, []) ⟨Nat.zero_le _, hF⟩ (by simp [go_sem]) rfl ?_
  rintro ⟨i, X⟩ ⟨hi, hf⟩ ih
  dsimp only at hi hf ih ⊢
  by_cases e1 : i < l.length
  · have e2 : (i : Int) < l.length := by omega
    have n0 : ¬ (i : Int) < 0 := by omega
    have w1 : IntKind.i64.wrap ((i : Int) + 1) = ((i + 1 : Nat) : Int) := by rw [w64 (by omega)]; rfl
    obtain ⟨s, hz⟩ : ∃ s, l[i]? = some s := ⟨_, List.getElem?_eq_getElem e1⟩
    rw [drop_cons hz, usE] at hf
    have km := isMeter_run bs s.1 (by omega)
    by_cases c : 0 ≤ s.1 ∧ s.1 < (bs.length : Int)
    · rw [if_neg (not_not_intro c)] at hf
      rw [decide_eq_true c] at km
      have hxk := mt_get c.1 c.2
      have n1 : ¬ s.1 < 0 := by omega
      by_cases d : (mt bs s.1).due < tick
      · rw [if_pos d] at hf
        subst hf
        clear ih
        simp only [go_sem, e2, n0, hz, Sv, cells_end, get_end, put_at_end]
        refine cP km ?_
        simp only [go_sem, cells_end, get_end, n1, c.2, hxk, d, Mv, Mc]
      · rw [if_neg d] at hf
        simp only [go_sem, e2, n0, hz, Sv, cells_end, get_end, put_at_end]
        refine cP km ?_
        simp only [go_sem, cells_end, get_end, n1, c.2, hxk, d, w1, Mv, Mc]
        exact ih (i + 1, _) (by dsimp only; omega) ⟨e1, hf⟩ _ (by simp [go_sem])
    · rw [if_pos c] at hf
      rw [decide_eq_false c] at km
      subst hf
      clear ih
      simp only [go_sem, e2, n0, hz, Sv, cells_end, get_end, put_at_end]
      refine cP km ?_
      simp only [go_sem]
  · have e2 : ¬ (i : Int) < l.length := by omega
    rw [List.drop_eq_nil_of_le (by omega), usE] at hf
    subst hf
    clear ih
    simp only [go_sem, e2]

noncomputable def jtR (bs : List Mt) (tick : Int) (t : (Int × Int) × List (Int × Int)) : Int × Int :=
  if t.1.2 < t.1.1 then (0, 11) else if 10 < t.2.length then (0, 8) else if usE bs tick t.2 ≠ 0 then (0, usE bs tick t.2) else if t.2.length = 0 then (3, 0)
  else if (tgE bs t.2).2.2 ≠ 0 then (0, (tgE bs t.2).2.2) else (vrd (tgE bs t.2).1 (tgE bs t.2).2.1 t.1.1 t.1.2, 0)
def Tv (t : (Int × Int) × List (Int × Int)) : AVal := .agg [.int .i64 t.1.1, .int .i64 t.1.2, .view (t.2.map Sv)]
@[go_sem] theorem tv_bel (s : (Int × Int) × List (Int × Int)) (S : Nat → Prop) : Bel S (Tv s) = True := by unfold Tv; simp only [go_sem]
@[go_sem] theorem tvs_bel (l : List ((Int × Int) × List (Int × Int))) (S : Nat → Prop) : Bels S (l.map Tv) = True := eq_true (bels_map _ _ fun m => by simp only [go_sem])

set_option maxHeartbeats 4000000 in
set_option maxRecDepth 10000 in
theorem judgeTest_raw (bs : List Mt) (tick : Int) (t : (Int × Int) × List (Int × Int)) (hl : bs.length ≤ 1000) (hn : t.2.length ≤ 1000000) :
    Ans Tryd.prog n_gauge_judgeTest [.view (bs.map Mv), .int .i64 tick, Tv t] [] (.tup [.int .i64 (jtR bs tick t).1, .int .i64 (jtR bs tick t).2]) [] := by
  obtain ⟨⟨lo, hi⟩, l⟩ := t
  dsimp only at hn
  have k1 := isEmpty_run lo hi
  have k2 := checkUse_raw bs tick l hl hn
  have k3 := Together_raw bs l hl (by omega)
  unfold jtR
  dsimp only
  obtain ⟨u, hu⟩ : ∃ u, usE bs tick l = u := ⟨_, rfl⟩
  obtain ⟨T, hT⟩ : ∃ T, tgE bs l = T := ⟨_, rfl⟩
  rw [hu] at k2 ⊢
  rw [hT] at k3 ⊢
  obtain ⟨a, b, e⟩ := T
  dsimp only at k3 ⊢
  have k4 := Verdict_run a b lo hi
  simp only [r2] at k1 k3 k4
  refine spec_run e_gauge_judgeTest fun G => ?_
  simp only [go_sem, Tv]
  refine cP k1 ?_
  by_cases c1 : hi < lo
  · rw [if_pos c1]
    simp only [go_sem, c1]
  · rw [if_neg c1]
    by_cases c2 : 10 < l.length
    · have d2 : (10 : Int) < l.length := by omega
      rw [if_pos c2]
      simp only [go_sem, c1, d2, List.length_map]
    · have d2 : ¬ (10 : Int) < l.length := by omega
      rw [if_neg c2]
      simp only [go_sem, c1, d2, List.length_map]
      refine cP k2 ?_
      by_cases c3 : u = 0
      · have d3 : (u == 0) = true := beq_iff_eq.2 c3
        rw [if_neg (not_not_intro c3)]
        by_cases c4 : l.length = 0
        · have d4 : ((l.length : Int) == 0) = true := beq_iff_eq.2 (by omega)
          rw [if_pos c4]
          simp only [go_sem, c3, d3, d4, List.length_map]
        · have d4 : ((l.length : Int) == 0) = false := beq_eq_false_iff_ne.2 (by omega)
          rw [if_neg c4]
          simp only [go_sem, c3, d3, d4, List.length_map]
          refine cP k3 ?_
          by_cases c5 : e = 0
          · have d5 : (e == 0) = true := beq_iff_eq.2 c5
            rw [if_neg (not_not_intro c5)]
            simp only [go_sem, c5, d5]
            refine cP k4 ?_
            simp only [go_sem]
          · have d5 : (e == 0) = false := beq_eq_false_iff_ne.2 c5
            rw [if_pos c5]
            simp only [go_sem, c5, d5]
      · have d3 : (u == 0) = false := beq_eq_false_iff_ne.2 c3
        rw [if_pos c3]
        simp only [go_sem, c3, d3]
end Go.Proofs

namespace Go.Proofs
open Go Go.Sx Go.Gauge
attribute [local irreducible] Run

set_option maxHeartbeats 4000000 in
set_option maxRecDepth 10000 in
theorem rtest_raw (bs : List Mt) (tick : Int) (t : (Int × Int) × List (Int × Int)) (hl : bs.length ≤ 1000) (hn : t.2.length ≤ 1000000) :
    Ans Tryd.prog n_ref07_test [.view (bs.map Mv), .int .i64 tick, r2 t.1.1 t.1.2, .view (t.2.map Sv)] [] (.tup [.int .i64 (jtR bs tick t).1, .int .i64 (jtR bs tick t).2]) [] := by
  obtain ⟨⟨lo, hi⟩, l⟩ := t
  dsimp only at hn
  have k3 := rTogether_raw bs l hl (by omega)
  have w2 : IntKind.i64.wrap ((bs.length : Int) - 1) = (bs.length : Int) - 1 := w64 (by omega)
  unfold jtR
  dsimp only
  obtain ⟨T, hT⟩ : ∃ T, tgE bs l = T := ⟨_, rfl⟩
  rw [hT] at k3 ⊢
  obtain ⟨a, b, e⟩ := T
  dsimp only at k3 ⊢
  have k4 := rVerdict_run a b lo hi
  simp only [r2] at k3 k4
  refine spec_run e_ref07_test fun G => ?_
  by_cases c1 : hi < lo
  · rw [if_pos c1]
    simp only [go_sem, r2, c1]
  · rw [if_neg c1]
    by_cases c2 : 10 < l.length
    · have d2 : (10 : Int) < l.length := by omega
      rw [if_pos c2]
      simp only [go_sem, r2, c1, d2, List.length_map]
    · have d2 : ¬ (10 : Int) < l.length := by omega
      rw [if_neg c2]
      simp only [go_sem, r2, c1, d2, List.length_map]
      obtain ⟨u, hu⟩ : ∃ u, usE bs tick l = u := ⟨_, rfl⟩
      rw [hu]
      refine loop_ind k_ref07_test_r12.eq_1 (fun i : Nat => i ≤ l.length ∧ usE bs tick (l.drop i) = u) (fun i => l.length - i)
        (fun i => (tsets 62 [(0, .view (bs.map Mv)), (1, .int .i64 tick), (3, .view (l.map Sv)), (6, .ptr 0 0 0 1), (10, .int .i64 i)], [some (.cells false 2 [.agg [.int .i64 lo, .int .i64 hi]])])) 0 ⟨Nat.zero_le _, hu⟩ (by simp [go_sem]) rfl ?_
      clear hu
      intro i hif ih
      obtain ⟨hi', hf⟩ := hif
      dsimp only at hi' hf ih ⊢
      by_cases e1 : i < l.length
      · have e2 : (i : Int) < l.length := by omega
        have n0 : ¬ (i : Int) < 0 := by omega
        have w1 : IntKind.i64.wrap ((i : Int) + 1) = ((i + 1 : Nat) : Int) := by rw [w64 (by omega)]; rfl
        obtain ⟨s, hz⟩ : ∃ s, l[i]? = some s := ⟨_, List.getElem?_eq_getElem e1⟩
        rw [drop_cons hz, usE] at hf
        have km := beyond_run s.1 0 ((bs.length : Int) - 1)
        by_cases c : 0 ≤ s.1 ∧ s.1 < (bs.length : Int)
        · rw [if_neg (not_not_intro c)] at hf
          rw [decide_eq_true (show 0 ≤ s.1 ∧ s.1 ≤ (bs.length : Int) - 1 by omega)] at km
          have hxk := mt_get c.1 c.2
          have n1 : ¬ s.1 < 0 := by omega
          by_cases d : (mt bs s.1).due < tick
          · rw [if_pos d] at hf
            subst hf
            clear ih
            rw [if_pos (by decide)]
            simp only [go_sem, e2, n0, hz, w2, Sv, List.length_map]
            refine cP km ?_
            simp only [go_sem, n1, n0, e2, hz, c.2, hxk, d, Sv, Mv, Mc, List.length_map]
          · rw [if_neg d] at hf
            have ihk := ih (i + 1) (by omega) ⟨e1, hf⟩
            clear ih
            simp only [go_sem, e2, n0, hz, w2, Sv, List.length_map]
            refine cP km ?_
            simp only [go_sem, n1, n0, e2, hz, c.2, hxk, d, w1, Sv, Mv, Mc, List.length_map]
            exact ihk _ (by simp [go_sem])
        · rw [if_pos c] at hf
          rw [decide_eq_false (show ¬ (0 ≤ s.1 ∧ s.1 ≤ (bs.length : Int) - 1) by omega)] at km
          subst hf
          clear ih
          rw [if_pos (by decide)]
          simp only [go_sem, e2, n0, hz, w2, Sv, List.length_map]
          refine cP km ?_
          simp only [go_sem]
      · have e2 : ¬ (i : Int) < l.length := by omega
        rw [List.drop_eq_nil_of_le (by omega), usE] at hf
        subst hf
        clear ih
        rw [if_neg (by decide)]
        by_cases c4 : l.length = 0
        · have d4 : ((l.length : Int) == 0) = true := beq_iff_eq.2 (by omega)
          rw [if_pos c4]
          simp only [go_sem, e2, d4, List.length_map]
        · have d4 : ((l.length : Int) == 0) = false := beq_eq_false_iff_ne.2 (by omega)
          rw [if_neg c4]
          simp only [go_sem, e2, d4, List.length_map]
          refine cP k3 ?_
          by_cases c5 : e = 0
          · have d5 : (e == 0) = true := beq_iff_eq.2 c5
            rw [if_neg (not_not_intro c5)]
            simp only [go_sem, c5, d5]
            refine cP k4 ?_
            simp only [go_sem]
          · have d5 : (e == 0) = false := beq_eq_false_iff_ne.2 c5
            rw [if_pos c5]
            simp only [go_sem, c5, d5]

theorem isWorse_run (a b : Int) : Ans Tryd.prog n_gauge_isWorse [.int .i64 a, .int .i64 b] [] (.bool (decide (a ≠ b ∧ (a = 2 ∨ b = 1)))) [] := by
  have e2 : (a == 2) = decide (a = 2) := by by_cases c : a = 2 <;> simp [c]
  have e1 : (b == 1) = decide (b = 1) := by by_cases c : b = 1 <;> simp [c]
  by_cases c : a = b
  · have c0 : (a == b) = true := beq_iff_eq.2 c
    rw [decide_eq_false (fun h => h.1 c)]
    refine spec_run e_gauge_isWorse fun G => ?_
    simp only [go_sem, c]
  · have c0 : (a == b) = false := beq_eq_false_iff_ne.2 c
    by_cases d : a = 2
    · have d0 : (a == 2) = true := beq_iff_eq.2 d
      rw [decide_eq_true ⟨c, .inl d⟩]
      refine spec_run e_gauge_isWorse fun G => ?_
      simp only [go_sem, c, c0, d0]
    · have d0 : (a == 2) = false := beq_eq_false_iff_ne.2 d
      by_cases f : b = 1
      · have f0 : (b == 1) = true := beq_iff_eq.2 f
        rw [decide_eq_true ⟨c, .inr f⟩]
        refine spec_run e_gauge_isWorse fun G => ?_
        simp only [go_sem, c, c0, d0, f0]
      · have f0 : (b == 1) = false := beq_eq_false_iff_ne.2 f
        rw [decide_eq_false (fun h => h.2.elim d f)]
        refine spec_run e_gauge_isWorse fun G => ?_
        simp only [go_sem, c, c0, d0, f0]
end Go.Proofs

namespace Go.Proofs
open Go Go.Sx Go.Gauge
attribute [local irreducible] Run

noncomputable def jgF (bs : List Mt) (tick : Int) : List ((Int × Int) × List (Int × Int)) → Nat → Int → Int → Int × Int × Int
  | [], _, v, p => (v, p, 0)
  | t :: ts, i, v, p => if (jtR bs tick t).2 ≠ 0 then (0, 0, (jtR bs tick t).2) else if (jtR bs tick t).1 ≠ v ∧ ((jtR bs tick t).1 = 2 ∨ v = 1) then jgF bs tick ts (i + 1) (jtR bs tick t).1 i else jgF bs tick ts (i + 1) v p

theorem Sheet1_run (bs : List Mt) (tick : Int) (t : (Int × Int) × List (Int × Int)) (hl : bs.length ≤ 1000) (hn : t.2.length ≤ 1000000) :
    Ans Tryd.prog n_gauge_Sheet_1 [Tv t, .rptr (.view (bs.map Mv)) 0, .rptr (.int .i64 tick) 0] [] (.tup [.int .i64 (jtR bs tick t).1, .int .i64 (jtR bs tick t).2]) [] := by
  have k := judgeTest_raw bs tick t hl hn
  simp only [Tv] at k
  refine spec_run e_gauge_Sheet_1 fun G => ?_
  simp only [go_sem, Tv]
  refine cP k ?_
  simp only [go_sem]

def shF (bs : List Mt) (tick : Int) : AVal := .fn (.func n_gauge_Sheet_1) [] [.rptr (.view (bs.map Mv)) 0, .rptr (.int .i64 tick) 0]
theorem judge_run (bs : List Mt) (tick : Int) (ts : List ((Int × Int) × List (Int × Int))) (hl : bs.length ≤ 1000) (hn : ∀ t ∈ ts, t.2.length ≤ 1000000) (ht : ts.length ≤ 1000000) :
    Ans Tryd.prog n_gauge_judge_gauge_test [.view (ts.map Tv), shF bs tick] [] (.tup [.int .i64 (jgF bs tick ts 0 1 (-1)).1, .int .i64 (jgF bs tick ts 0 1 (-1)).2.1, .int .i64 (jgF bs tick ts 0 1 (-1)).2.2]) [] := by
  obtain ⟨F, hF⟩ : ∃ F, jgF bs tick ts 0 1 (-1) = F := ⟨_, rfl⟩
  rw [hF]
  refine spec_run e_gauge_judge_gauge_test fun G => ?_
  simp only [go_sem, shF, List.length_map]
  refine loop_ind k_gauge_judge_gauge_test_r11.eq_1 (fun a : Nat × Int × Int × Heap => a.1 ≤ ts.length ∧ jgF bs tick (ts.drop a.1) a.1 a.2.1 a.2.2.1 = F) (fun a => ts.length - a.1)
    (fun a => (tsets 35 [(1, shF bs tick), (4, .int .i64 a.2.1), (5, .int .i64 a.2.2.1), (6, .int .i64 0), (11, .view (ts.map Tv)), (12, .int .i64 ts.length), (13, .int .i64 a.1)], a.2.2.2)) (0, 1, -1, []) ⟨Nat.zero_le _, hF⟩ (by simp [go_sem, shF]) rfl ?_
  rintro ⟨i, v, p, X⟩ ⟨hi, hf⟩ ih
  dsimp only at hi hf ih ⊢
  by_cases e1 : i < ts.length
  · have e2 : (i : Int) < ts.length := by omega
    have n0 : ¬ (i : Int) < 0 := by omega
    have w1 : IntKind.i64.wrap ((i : Int) + 1) = ((i + 1 : Nat) : Int) := by rw [w64 (by omega)]; rfl
    obtain ⟨t, hz⟩ : ∃ t, ts[i]? = some t := ⟨_, List.getElem?_eq_getElem e1⟩
    rw [drop_cons hz, jgF] at hf
    have k := Sheet1_run bs tick t hl (hn t (List.mem_of_getElem? hz))
    obtain ⟨J, hJ⟩ : ∃ J, jtR bs tick t = J := ⟨_, rfl⟩
    rw [hJ] at k hf
    obtain ⟨x, e⟩ := J
    dsimp only at k hf
    have kw := isWorse_run x v
    simp only [Tv] at k
    by_cases c : e = 0
    · have d : (e == 0) = true := beq_iff_eq.2 c
      rw [if_neg (not_not_intro c)] at hf
      simp only [go_sem, e2, n0, hz, shF, Tv, cells_end, get_end, put_at_end]
      refine cP k ?_
      simp only [go_sem, c, d]
      refine cP kw ?_
      by_cases c2 : x ≠ v ∧ (x = 2 ∨ v = 1)
      · rw [if_pos c2] at hf
        have ihk := fun Y => ih (i + 1, x, (i : Int), Y) (by dsimp only; omega) ⟨e1, hf⟩
        clear ih
        simp only [go_sem, decide_eq_true c2, w1]
        exact ihk _ _ (by simp [go_sem, shF])
      · rw [if_neg c2] at hf
        have ihk := fun Y => ih (i + 1, v, p, Y) (by dsimp only; omega) ⟨e1, hf⟩
        clear ih
        simp only [go_sem, decide_eq_false c2, w1]
        exact ihk _ _ (by simp [go_sem, shF])
    · have d : (e == 0) = false := beq_eq_false_iff_ne.2 c
      rw [if_pos c] at hf
      subst hf
      clear ih
      simp only [go_sem, e2, n0, hz, shF, Tv, cells_end, get_end, put_at_end]
      refine cP k ?_
      simp only [go_sem, c, d]
  · have e2 : ¬ (i : Int) < ts.length := by omega
    rw [List.drop_eq_nil_of_le (by omega), jgF] at hf
    subst hf
    clear ih
    simp only [go_sem, e2]
end Go.Proofs

namespace Go.Proofs
open Go Go.Sx Go.Gauge
attribute [local irreducible] Run

def Lv (l : List (Int × Int)) : AVal := .view (l.map Sv)
@[go_sem] theorem lv_bel (l : List (Int × Int)) (S : Nat → Prop) : Bel S (Lv l) = True := by unfold Lv; simp only [go_sem]
@[go_sem] theorem lvs_bel (l : List (List (Int × Int))) (S : Nat → Prop) : Bels S (l.map Lv) = True := eq_true (bels_map _ _ fun m => by simp only [go_sem])
theorem ts_frz {ts : List ((Int × Int) × List (Int × Int))} {H : Heap} {j n : Nat} {g : Bool} (h : H[j]? = some (some (.cells g 3 (ts.map Tv)))) (hn : n = ts.length) : frz 6 H (.sl j 0 n) = .view (ts.map Tv) := by
  rw [frz_sl (d := 5) h (by simpa using hn), List.map_map]
  refine congrArg AVal.view (List.map_congr_left fun t _ => ?_)
  have := sv_frz t.2 1 H
  show AVal.agg [.int .i64 t.1.1, .int .i64 t.1.2, .view ((t.2.map Sv).map (frz 3 H))] = _
  rw [this]; rfl
theorem fn_frz {bs : List Mt} {tick : Int} {H : Heap} (h0 : H[0]? = some (some (.cells false 1 [.view (bs.map Mv)]))) (h1 : H[1]? = some (some (.cells false 1 [.int .i64 tick]))) :
    frz 6 H (.fn (.func n_gauge_Sheet_1) [] [.ptr 0 0 0 1, .ptr 1 0 0 1]) = shF bs tick := by
  have c0 := cells_at h0
  have c1 := cells_at h1
  have := mv_frz bs 1 H
  simp only [frz, List.map_cons, List.map_nil, c0, c1, true_or, if_true, List.getElem?_cons_zero, this, shF]

noncomputable def shE (bs : List Mt) (tick : Int) (rg : List (Int × Int)) (ls : List (List (Int × Int))) : Int × Int × Int :=
  if chkE bs ≠ 0 then (0, 0, chkE bs) else if ¬(0 ≤ tick ∧ tick ≤ 1000000000) then (0, 0, 2) else if 20 < rg.length then (0, 0, 8) else if ls.length ≠ rg.length then (0, 0, 3)
  else jgF bs tick (rg.zip ls) 0 1 (-1)

set_option maxHeartbeats 4000000 in
set_option maxRecDepth 10000 in
theorem Sheet_raw (bs : List Mt) (tick : Int) (rg : List (Int × Int)) (ls : List (List (Int × Int))) (hl : bs.length ≤ 1000) (hn : ∀ l ∈ ls, l.length ≤ 1000000) (hr : rg.length ≤ 1000000) (hs : ls.length ≤ 1000000) :
    Ans Tryd.prog n_gauge_Sheet [.view (bs.map Mv), .int .i64 tick, .view (rg.map Sv), .view (ls.map Lv)] [] (.tup [.int .i64 (shE bs tick rg ls).1, .int .i64 (shE bs tick rg ls).2.1, .int .i64 (shE bs tick rg ls).2.2]) [] := by
  have kc := Check_raw bs (by omega)
  have kt := isTick_run tick
  unfold shE
  by_cases c : chkE bs = 0
  · rw [c] at kc
    rw [if_neg (not_not_intro c)]
    by_cases c1 : 0 ≤ tick ∧ tick ≤ 1000000000
    · rw [if_neg (not_not_intro c1)]
      rw [decide_eq_true c1] at kt
      by_cases c2 : 20 < rg.length
      · have d2 : (20 : Int) < rg.length := by omega
        rw [if_pos c2]
        refine spec_run e_gauge_Sheet fun G => ?_
        simp only [go_sem]
        refine cP kc ?_
        simp only [go_sem]
        refine cP kt ?_
        simp only [go_sem, d2, List.length_map]
      · have d2 : ¬ (20 : Int) < rg.length := by omega
        rw [if_neg c2]
        by_cases c3 : ls.length = rg.length
        · have d3 : ((ls.length : Int) == rg.length) = true := beq_iff_eq.2 (by omega)
          have d4 : (ls.length : Int) = rg.length := by omega
          rw [if_neg (not_not_intro c3)]
          obtain ⟨ts, hts⟩ : ∃ ts, rg.zip ls = ts := ⟨_, rfl⟩
          have htl : ts.length = rg.length := by rw [← hts, List.length_zip]; omega
          have hin : ∀ t ∈ ts, t.2.length ≤ 1000000 := fun t ht => by
            rw [← hts] at ht
            exact hn _ (List.of_mem_zip ht).2
          have kj := judge_run bs tick ts hl hin (by omega)
          rw [hts]
          obtain ⟨J, hJ⟩ : ∃ J, jgF bs tick ts 0 1 (-1) = J := ⟨_, rfl⟩
          rw [hJ] at kj ⊢
          refine spec_run e_gauge_Sheet fun G => ?_
          simp only [go_sem]
          refine cP kc ?_
          simp only [go_sem]
          refine cP kt ?_
          simp only [go_sem, d2, d3, d4, List.length_map]
          refine loop_ind k_gauge_Sheet_r16.eq_1 (fun a : Nat × AVal × Heap => a.1 ≤ ts.length ∧ ((a.1 = 0 ∧ a.2.1 = .nilsl) ∨ (1 ≤ a.1 ∧ ∃ q, a.2.1 = .sl (q + 2) 0 a.1 ∧ a.2.2[q]? = some (some (.cells true 3 ((ts.take a.1).map Tv)))))) (fun a => ts.length - a.1)
            (fun a => (tsets 54 [(3, .view (ls.map Lv)), (4, .ptr 0 0 0 1), (5, .ptr 1 0 0 1), (12, a.2.1), (31, .view (rg.map Sv)), (32, .int .i64 rg.length), (33, .int .i64 a.1)],
              some (.cells false 1 [.view (bs.map Mv)]) :: some (.cells false 1 [.int .i64 tick]) :: a.2.2)) (0, .nilsl, []) ⟨Nat.zero_le _, .inl ⟨rfl, rfl⟩⟩ (by simp [go_sem]) rfl ?_
          rintro ⟨i, s, X⟩ ⟨hi, hq⟩ ih
          dsimp only at hi hq ih ⊢
          by_cases e1 : i < ts.length
          · have e2 : (i : Int) < rg.length := by omega
            have e3 : (i : Int) < ls.length := by omega
            have n0 : ¬ (i : Int) < 0 := by omega
            have w1 : IntKind.i64.wrap ((i : Int) + 1) = ((i + 1 : Nat) : Int) := by rw [w64 (by omega)]; rfl
            obtain ⟨r, hz⟩ : ∃ r, rg[i]? = some r := ⟨_, List.getElem?_eq_getElem (by omega)⟩
            obtain ⟨l, hz2⟩ : ∃ l, ls[i]? = some l := ⟨_, List.getElem?_eq_getElem (by omega)⟩
            have hz3 : ts[i]? = some (r, l) := by rw [← hts, List.getElem?_zip_eq_some]; exact ⟨hz, hz2⟩
            have htk : ts.take (i + 1) = ts.take i ++ [(r, l)] := by rw [List.take_add_one, hz3]; rfl
            rcases hq with ⟨rfl, rfl⟩ | ⟨hi1, q, rfl, hX⟩
            · have e20 : (0 : Int) < rg.length := by omega
              have e30 : (0 : Int) < ls.length := by omega
              have q1 : IntKind.i64.wrap 1 = 1 := by decide
              simp only [go_sem, e20, e30, hz, hz2, q1, Sv, Lv, cells_end, get_end, put_at_end, List.length_map]
              refine ⟨by decide, ?_⟩
              refine ih (1, .sl (X.length + 2 + 2) 0 1, _) (by dsimp only; omega) ⟨by dsimp only; omega, .inr ⟨Nat.le_refl _, X.length + 2, rfl, ?_⟩⟩ _ (by simp [go_sem])
              dsimp only
              rw [htk]
              simp [Tv]
            · have hlt : q < X.length := (List.getElem?_eq_some_iff.1 hX).1
              have cX := fun Y => cells_more (cells_at hX) Y
              have pX := fun Y x => put_more (H := X) hlt Y x
              have hqb : (i + 1) * 40 ≤ 2 ^ 44 := by omega
              have hlk : (ts.take i).length = i := by rw [List.length_take]; omega
              simp only [go_sem, e2, e3, n0, hz, hz2, w1, cX, pX, hqb, hlk, Sv, Lv, cells_end, get_end, put_at_end, List.length_map]
              refine ih (i + 1, .sl (q + 2) 0 (i + 1), _) (by dsimp only; omega) ⟨by dsimp only; omega, .inr ⟨by dsimp only; omega, q, rfl, ?_⟩⟩ _ (by simp [go_sem])
              dsimp only
              rw [htk, List.map_append, List.getElem?_append_left (by rw [List.length_set]; exact hlt), List.getElem?_set_self hlt]
              rfl
          · have e2 : ¬ (i : Int) < rg.length := by omega
            clear ih
            simp only [go_sem, e2]
            rcases hq with ⟨hi0, rfl⟩ | ⟨hi1, q, rfl, hX⟩
            · have hnil : ts = [] := List.length_eq_zero_iff.1 (by omega)
              rw [hnil] at kj
              refine cF kj 6 ⟨.inr ⟨rfl, rfl⟩, .inl (fn_frz rfl rfl), trivial⟩ ?_
              simp only [go_sem]
            · rw [List.take_of_length_le (by omega)] at hX
              refine cF kj 6 ⟨.inl (ts_frz (g := true) (by simpa using hX) (by omega)), .inl (fn_frz rfl rfl), trivial⟩ ?_
              simp only [go_sem]
        · have d3 : ((ls.length : Int) == rg.length) = false := beq_eq_false_iff_ne.2 (by omega)
          have d4 : ¬ (ls.length : Int) = rg.length := by omega
          rw [if_pos c3]
          refine spec_run e_gauge_Sheet fun G => ?_
          simp only [go_sem]
          refine cP kc ?_
          simp only [go_sem]
          refine cP kt ?_
          simp only [go_sem, d2, d3, d4, List.length_map]
    · rw [if_pos c1]
      rw [decide_eq_false c1] at kt
      refine spec_run e_gauge_Sheet fun G => ?_
      simp only [go_sem]
      refine cP kc ?_
      simp only [go_sem]
      refine cP kt ?_
      simp only [go_sem]
  · rw [if_pos c]
    obtain ⟨e, he⟩ : ∃ e, chkE bs = e := ⟨_, rfl⟩
    rw [he] at c kc ⊢
    have c2 : (e == 0) = false := beq_eq_false_iff_ne.2 c
    refine spec_run e_gauge_Sheet fun G => ?_
    simp only [go_sem]
    refine cP kc ?_
    simp only [go_sem, c, c2]
end Go.Proofs

