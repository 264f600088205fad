/- A part of the proof. -/
import Derived.Test.YtnnbkoipalaanaaDoorSxH
import Derived.Test.YtnnbkoipalaanaaDoorProg
import Derived.KernelRfl
set_option linter.unusedSimpArgs false
set_option linter.unusedVariables false
namespace Go.Proofs
open Go Go.Sx

def k_law07_GaugeShows_r0 : List AOper := [
  ⟨(some (4)), .move (.const (.bool false)), none, []⟩]
def k_law07_GaugeShows_r1 : List AOper := [
  ⟨(some (12)), .move (.tmp 0), none, []⟩, 
  ⟨(some (13)), .call (.const (.fn (.func 16) [] [])) [.tmp 12], none, []⟩, 
  ⟨(some (5)), .move (.tmp 13), none, []⟩]
def k_law07_GaugeShows_r2 : List AOper := [
  ⟨(some (14)), .move (.tmp 5), none, []⟩, 
  ⟨(some (15)), .call (.const (.fn (.func 17) [] [])) [.tmp 14, .const (.int .i64 5)], none, []⟩, 
  ⟨(some (6)), .move (.tmp 15), none, []⟩]
def k_law07_GaugeShows_r3 : List AOper := [
  ⟨(some (16)), .move (.tmp 5), none, []⟩, 
  ⟨(some (17)), .move (.tmp 6), none, []⟩, 
  ⟨(some (18)), .len false (.tmp 17), none, []⟩, 
  ⟨(some (19)), .call (.const (.fn (.func 19) [] [])) [.tmp 16, .tmp 18], none, []⟩, 
  ⟨(some (7)), .move (.tmp 19), none, []⟩]
def k_law07_GaugeShows_r4 : List AOper := [
  ⟨(some (20)), .move (.tmp 1), none, []⟩, 
  ⟨(some (21)), .call (.const (.fn (.func 22) [] [])) [.tmp 20, .const (.int .i64 2000000001)], none, []⟩, 
  ⟨(some (22)), .bin .plain .sub (.tmp 21) (.const (.int .i64 1000000000)), none, []⟩, 
  ⟨(some (8)), .move (.tmp 22), none, []⟩]
def k_law07_GaugeShows_r5 : List AOper := [
  ⟨(some (23)), .move (.tmp 5), none, []⟩, 
  ⟨(some (24)), .call (.const (.fn (.func 18) [] [])) [.tmp 23, .const (.int .i64 2)], none, []⟩]
def k_law07_GaugeShows_r6 : List AOper := [
  ⟨(some (25)), .move (.tmp 8), none, []⟩, 
  ⟨(some (26)), .bin .plain .rem (.tmp 25) (.const (.int .i64 10000)), none, []⟩, 
  ⟨(some (8)), .move (.tmp 26), none, []⟩]
def k_law07_GaugeShows_r7 : List AOper := [
  ⟨(some (27)), .move (.tmp 5), none, []⟩, 
  ⟨(some (28)), .move (.tmp 6), none, []⟩, 
  ⟨(some (29)), .move (.tmp 7), none, []⟩, 
  ⟨(some (30)), .move (.tmp 8), none, []⟩, 
  ⟨(some (31)), .call (.const (.fn (.func 31) [] [])) [.tmp 27, .tmp 28, .tmp 29, .tmp 30], none, []⟩, 
  ⟨(some (9)), .move (.tmp 31), none, []⟩]
def k_law07_GaugeShows_r8 : List AOper := [
  ⟨(some (32)), .move (.tmp 9), none, []⟩, 
  ⟨(some (33)), .bin .plain .lss (.tmp 32) (.const (.int .i64 (-1000000000))), none, []⟩, 
  ⟨(some (34)), .move (.tmp 33), none, []⟩, 
  ⟨(some (35)), .move (.tmp 9), (some (34, false)), []⟩, 
  ⟨(some (36)), .bin .plain .gtr (.tmp 35) (.const (.int .i64 1000000000)), (some (34, false)), []⟩, 
  ⟨(some (37)), .pick (.tmp 34) (.const (.bool true)) (.tmp 36), none, []⟩]
def k_law07_GaugeShows_r9 : List AOper := [
  ⟨(some (38)), .call (.const (.fn (.func 15) [] [])) [], none, []⟩, 
  ⟨(some (4)), .move (.tmp 38), none, []⟩]
def k_law07_GaugeShows_r10 : List AOper := [
  ⟨(some (40)), .move (.tmp 6), none, []⟩, 
  ⟨(some (41)), .move (.tmp 7), none, []⟩, 
  ⟨(some (42)), .move (.tmp 9), none, []⟩, 
  ⟨(some (43)), .call (.const (.fn (.func 32) [] [])) [.tmp 40, .tmp 41, .tmp 42], none, []⟩, 
  ⟨(some (39)), .move (.tmp 43), none, []⟩, 
  ⟨(some (44)), .extract (.tmp 39) 0, none, []⟩, 
  ⟨(some (45)), .extract (.tmp 39) 1, none, []⟩, 
  ⟨(some (10)), .box (.const (.agg [.int .i64 0, .int .i64 0])), none, []⟩, 
  ⟨none, .store 2 (.tmp 10) (.tmp 44), none, []⟩, 
  ⟨(some (11)), .move (.tmp 45), none, []⟩]
def k_law07_GaugeShows_r11 : List AOper := [
  ⟨(some (46)), .move (.tmp 11), none, []⟩, 
  ⟨(some (47)), .bin .plain .eql (.tmp 46) (.const (.int .i64 0)), none, []⟩, 
  ⟨(some (48)), .move (.tmp 47), none, []⟩, 
  ⟨(some (49)), .move (.tmp 8), (some (48, true)), []⟩, 
  ⟨(some (50)), .fieldAddr 0 (.tmp 10), (some (48, true)), []⟩, 
  ⟨(some (51)), .load none (.tmp 50), (some (48, true)), []⟩, 
  ⟨(some (52)), .bin .plain .geq (.tmp 49) (.tmp 51), (some (48, true)), []⟩, 
  ⟨(some (53)), .pick (.tmp 48) (.tmp 52) (.const (.bool false)), none, []⟩, 
  ⟨(some (54)), .move (.tmp 53), none, []⟩, 
  ⟨(some (55)), .move (.tmp 8), (some (54, true)), []⟩, 
  ⟨(some (56)), .fieldAddr 1 (.tmp 10), (some (54, true)), []⟩, 
  ⟨(some (57)), .load none (.tmp 56), (some (54, true)), []⟩, 
  ⟨(some (58)), .bin .plain .leq (.tmp 55) (.tmp 57), (some (54, true)), []⟩, 
  ⟨(some (59)), .pick (.tmp 54) (.tmp 58) (.const (.bool false)), none, []⟩, 
  ⟨(some (60)), .move (.tmp 59), none, []⟩, 
  ⟨(some (61)), .call (.const (.fn (.func 15) [] [])) [], (some (60, true)), []⟩, 
  ⟨(some (62)), .pick (.tmp 60) (.tmp 61) (.const (.bool false)), none, []⟩, 
  ⟨(some (4)), .move (.tmp 62), none, []⟩]
def k_law07_GaugeShows : AFun := { params := 2, ntmps := 63, body := (.seq (.reg k_law07_GaugeShows_r0 false) (.seq (.reg k_law07_GaugeShows_r1 false) (.seq (.reg k_law07_GaugeShows_r2 false) (.seq (.reg k_law07_GaugeShows_r3 false) (.seq (.reg k_law07_GaugeShows_r4 false) (.seq (.seq (.reg k_law07_GaugeShows_r5 false) (.cond (.tmp 24) (.reg k_law07_GaugeShows_r6 false) .skip)) (.seq (.reg k_law07_GaugeShows_r7 false) (.seq (.seq (.reg k_law07_GaugeShows_r8 false) (.cond (.tmp 37) (.seq (.reg k_law07_GaugeShows_r9 false) .ret) .skip)) (.seq (.reg k_law07_GaugeShows_r10 false) (.seq (.reg k_law07_GaugeShows_r11 false) .ret)))))))))), res := [.tmp 4] }
theorem k_law07_GaugeShows_ok : cfun Tryd.prog Tryd.f9 = k_law07_GaugeShows := by kernel_rfl

def k_law07_awake_r0 : List AOper := [
  ⟨(some (0)), .move (.const (.bool false)), none, []⟩]
def k_law07_awake_r1 : List AOper := [
  ⟨(some (8)), .call (.const (.fn (.func 52) [] [])) [], none, []⟩, 
  ⟨(some (9)), .call (.const (.fn (.func 32) [] [])) [.tmp 8, .const (.int .i64 1), .const (.int .i64 1000)], none, []⟩, 
  ⟨(some (7)), .move (.tmp 9), none, []⟩, 
  ⟨(some (10)), .extract (.tmp 7) 0, none, []⟩, 
  ⟨(some (11)), .extract (.tmp 7) 1, none, []⟩, 
  ⟨(some (1)), .box (.const (.agg [.int .i64 0, .int .i64 0])), none, []⟩, 
  ⟨none, .store 2 (.tmp 1) (.tmp 10), none, []⟩, 
  ⟨(some (2)), .move (.tmp 11), none, []⟩]
def k_law07_awake_r2 : List AOper := [
  ⟨(some (13)), .call (.const (.fn (.func 53) [] [])) [.const (.int .i64 10), .const (.int .i64 0), .const (.int .i64 5), .const (.int .i64 10), .const (.int .i64 10)], none, []⟩, 
  ⟨(some (12)), .move (.tmp 13), none, []⟩, 
  ⟨(some (14)), .extract (.tmp 12) 0, none, []⟩, 
  ⟨(some (15)), .extract (.tmp 12) 1, none, []⟩, 
  ⟨(some (3)), .box (.const (.agg [.int .i64 0, .int .i64 0])), none, []⟩, 
  ⟨none, .store 2 (.tmp 3) (.tmp 14), none, []⟩, 
  ⟨(some (4)), .move (.tmp 15), none, []⟩]
def k_law07_awake_r3 : List AOper := [
  ⟨(some (17)), .call (.const (.fn (.func 50) [] [])) [.const (.int .i64 10), .const (.int .i64 20)], none, []⟩, 
  ⟨(some (18)), .call (.const (.fn (.func 50) [] [])) [.const (.int .i64 0), .const (.int .i64 1)], none, []⟩, 
  ⟨(some (19)), .call (.const (.fn (.func 50) [] [])) [.const (.int .i64 0), .const (.int .i64 25)], none, []⟩, 
  ⟨(some (20)), .call (.const (.fn (.func 46) [] [])) [.tmp 17, .tmp 18, .tmp 19], none, []⟩, 
  ⟨(some (16)), .move (.tmp 20), none, []⟩, 
  ⟨(some (21)), .extract (.tmp 16) 0, none, []⟩, 
  ⟨(some (22)), .extract (.tmp 16) 1, none, []⟩, 
  ⟨(some (5)), .box (.const (.agg [.int .i64 0, .int .i64 0])), none, []⟩, 
  ⟨none, .store 2 (.tmp 5) (.tmp 21), none, []⟩, 
  ⟨(some (6)), .move (.tmp 22), none, []⟩]
def k_law07_awake_r4 : List AOper := [
  ⟨(some (23)), .move (.tmp 2), none, []⟩, 
  ⟨(some (24)), .bin .plain .eql (.tmp 23) (.const (.int .i64 0)), none, []⟩, 
  ⟨(some (25)), .move (.tmp 24), none, []⟩, 
  ⟨(some (26)), .move (.tmp 4), (some (25, true)), []⟩, 
  ⟨(some (27)), .bin .plain .eql (.tmp 26) (.const (.int .i64 0)), (some (25, true)), []⟩, 
  ⟨(some (28)), .pick (.tmp 25) (.tmp 27) (.const (.bool false)), none, []⟩, 
  ⟨(some (29)), .move (.tmp 28), none, []⟩, 
  ⟨(some (30)), .move (.tmp 6), (some (29, true)), []⟩, 
  ⟨(some (31)), .bin .plain .eql (.tmp 30) (.const (.int .i64 0)), (some (29, true)), []⟩, 
  ⟨(some (32)), .pick (.tmp 29) (.tmp 31) (.const (.bool false)), none, []⟩, 
  ⟨(some (33)), .move (.tmp 32), none, []⟩, 
  ⟨(some (34)), .load (some (2)) (.tmp 1), (some (33, true)), []⟩, 
  ⟨(some (35)), .call (.const (.fn (.func 50) [] [])) [.const (.int .i64 985), .const (.int .i64 1016)], (some (33, true)), [11]⟩, 
  ⟨(some (36)), .eqAgg false [.int, .int] (.tmp 34) (.tmp 35), (some (33, true)), []⟩, 
  ⟨(some (37)), .pick (.tmp 33) (.tmp 36) (.const (.bool false)), none, []⟩, 
  ⟨(some (38)), .move (.tmp 37), none, []⟩, 
  ⟨(some (39)), .load (some (2)) (.tmp 3), (some (38, true)), []⟩, 
  ⟨(some (40)), .build [.int .i64 0, .int .i64 0] [(0, 1, .const (.int .i64 3))], (some (38, true)), [16]⟩, 
  ⟨(some (41)), .eqAgg false [.int, .int] (.tmp 39) (.tmp 40), (some (38, true)), []⟩, 
  ⟨(some (42)), .pick (.tmp 38) (.tmp 41) (.const (.bool false)), none, []⟩, 
  ⟨(some (43)), .move (.tmp 42), none, []⟩, 
  ⟨(some (44)), .load (some (2)) (.tmp 5), (some (43, true)), []⟩, 
  ⟨(some (45)), .call (.const (.fn (.func 50) [] [])) [.const (.int .i64 5000), .const (.int .i64 1000000)], (some (43, true)), [21]⟩, 
  ⟨(some (46)), .eqAgg false [.int, .int] (.tmp 44) (.tmp 45), (some (43, true)), []⟩, 
  ⟨(some (47)), .pick (.tmp 43) (.tmp 46) (.const (.bool false)), none, []⟩, 
  ⟨(some (48)), .move (.tmp 47), none, []⟩, 
  ⟨(some (49)), .call (.const (.fn (.func 50) [] [])) [.const (.int .i64 95), .const (.int .i64 105)], (some (48, true)), []⟩, 
  ⟨(some (50)), .call (.const (.fn (.func 50) [] [])) [.const (.int .i64 106), .const (.int .i64 200)], (some (48, true)), []⟩, 
  ⟨(some (51)), .call (.const (.fn (.func 34) [] [])) [.tmp 49, .tmp 50], (some (48, true)), []⟩, 
  ⟨(some (52)), .bin .plain .eql (.tmp 51) (.const (.int .i64 2)), (some (48, true)), []⟩, 
  ⟨(some (53)), .pick (.tmp 48) (.tmp 52) (.const (.bool false)), none, []⟩, 
  ⟨(some (54)), .move (.tmp 53), none, []⟩, 
  ⟨(some (55)), .makeSlice (.agg [.int .i64 0, .int .i64 0, .int .i64 0, .int .i64 0, .int .i64 0, .int .i64 0, .int .i64 0]) 56 (.const (.int .i64 13)) (.const (.int .i64 13)), (some (54, true)), []⟩, 
  ⟨(some (56)), .call (.const (.fn (.func 23) [] [])) [.tmp 55], (some (54, true)), []⟩, 
  ⟨(some (57)), .bin .plain .eql (.tmp 56) (.const (.int .i64 8)), (some (54, true)), []⟩, 
  ⟨(some (58)), .pick (.tmp 54) (.tmp 57) (.const (.bool false)), none, []⟩, 
  ⟨(some (0)), .move (.tmp 58), none, []⟩]
def k_law07_awake_r4s : List (List AOper) := [
  [
  ⟨(some (23)), .move (.tmp 2), none, []⟩], 
  [
  ⟨(some (24)), .bin .plain .eql (.tmp 23) (.const (.int .i64 0)), none, []⟩], 
  [
  ⟨(some (25)), .move (.tmp 24), none, []⟩], 
  [
  ⟨(some (26)), .move (.tmp 4), (some (25, true)), []⟩], 
  [
  ⟨(some (27)), .bin .plain .eql (.tmp 26) (.const (.int .i64 0)), (some (25, true)), []⟩], 
  [
  ⟨(some (28)), .pick (.tmp 25) (.tmp 27) (.const (.bool false)), none, []⟩], 
  [
  ⟨(some (29)), .move (.tmp 28), none, []⟩], 
  [
  ⟨(some (30)), .move (.tmp 6), (some (29, true)), []⟩], 
  [
  ⟨(some (31)), .bin .plain .eql (.tmp 30) (.const (.int .i64 0)), (some (29, true)), []⟩], 
  [
  ⟨(some (32)), .pick (.tmp 29) (.tmp 31) (.const (.bool false)), none, []⟩], 
  [
  ⟨(some (33)), .move (.tmp 32), none, []⟩], 
  [
  ⟨(some (34)), .load (some (2)) (.tmp 1), (some (33, true)), []⟩, 
  ⟨(some (35)), .call (.const (.fn (.func 50) [] [])) [.const (.int .i64 985), .const (.int .i64 1016)], (some (33, true)), [11]⟩], 
  [
  ⟨(some (36)), .eqAgg false [.int, .int] (.tmp 34) (.tmp 35), (some (33, true)), []⟩], 
  [
  ⟨(some (37)), .pick (.tmp 33) (.tmp 36) (.const (.bool false)), none, []⟩], 
  [
  ⟨(some (38)), .move (.tmp 37), none, []⟩], 
  [
  ⟨(some (39)), .load (some (2)) (.tmp 3), (some (38, true)), []⟩, 
  ⟨(some (40)), .build [.int .i64 0, .int .i64 0] [(0, 1, .const (.int .i64 3))], (some (38, true)), [16]⟩], 
  [
  ⟨(some (41)), .eqAgg false [.int, .int] (.tmp 39) (.tmp 40), (some (38, true)), []⟩], 
  [
  ⟨(some (42)), .pick (.tmp 38) (.tmp 41) (.const (.bool false)), none, []⟩], 
  [
  ⟨(some (43)), .move (.tmp 42), none, []⟩], 
  [
  ⟨(some (44)), .load (some (2)) (.tmp 5), (some (43, true)), []⟩, 
  ⟨(some (45)), .call (.const (.fn (.func 50) [] [])) [.const (.int .i64 5000), .const (.int .i64 1000000)], (some (43, true)), [21]⟩], 
  [
  ⟨(some (46)), .eqAgg false [.int, .int] (.tmp 44) (.tmp 45), (some (43, true)), []⟩], 
  [
  ⟨(some (47)), .pick (.tmp 43) (.tmp 46) (.const (.bool false)), none, []⟩], 
  [
  ⟨(some (48)), .move (.tmp 47), none, []⟩], 
  [
  ⟨(some (49)), .call (.const (.fn (.func 50) [] [])) [.const (.int .i64 95), .const (.int .i64 105)], (some (48, true)), []⟩], 
  [
  ⟨(some (50)), .call (.const (.fn (.func 50) [] [])) [.const (.int .i64 106), .const (.int .i64 200)], (some (48, true)), []⟩], 
  [
  ⟨(some (51)), .call (.const (.fn (.func 34) [] [])) [.tmp 49, .tmp 50], (some (48, true)), []⟩], 
  [
  ⟨(some (52)), .bin .plain .eql (.tmp 51) (.const (.int .i64 2)), (some (48, true)), []⟩], 
  [
  ⟨(some (53)), .pick (.tmp 48) (.tmp 52) (.const (.bool false)), none, []⟩], 
  [
  ⟨(some (54)), .move (.tmp 53), none, []⟩], 
  [
  ⟨(some (55)), .makeSlice (.agg [.int .i64 0, .int .i64 0, .int .i64 0, .int .i64 0, .int .i64 0, .int .i64 0, .int .i64 0]) 56 (.const (.int .i64 13)) (.const (.int .i64 13)), (some (54, true)), []⟩], 
  [
  ⟨(some (56)), .call (.const (.fn (.func 23) [] [])) [.tmp 55], (some (54, true)), []⟩], 
  [
  ⟨(some (57)), .bin .plain .eql (.tmp 56) (.const (.int .i64 8)), (some (54, true)), []⟩], 
  [
  ⟨(some (58)), .pick (.tmp 54) (.tmp 57) (.const (.bool false)), none, []⟩], 
  [
  ⟨(some (0)), .move (.tmp 58), none, []⟩]]
theorem k_law07_awake_r4_sg : segs k_law07_awake_r4 = k_law07_awake_r4s := by kernel_rfl
theorem k_law07_awake_r4_st : statOK k_law07_awake_r4 = true := by kernel_rfl
def k_law07_awake : AFun := { params := 0, ntmps := 59, body := (.seq (.reg k_law07_awake_r0 false) (.seq (.reg k_law07_awake_r1 false) (.seq (.reg k_law07_awake_r2 false) (.seq (.reg k_law07_awake_r3 false) (.seq (.reg k_law07_awake_r4 true) .ret))))), res := [.tmp 0] }
theorem k_law07_awake_ok : cfun Tryd.prog Tryd.f15 = k_law07_awake := by kernel_rfl

def k_kit_NewDice_r0 : List AOper := [
  ⟨(some (2)), .move (.const (.nilptr)), none, []⟩]
def k_kit_NewDice_r1 : List AOper := [
  ⟨(some (5)), .move (.tmp 0), none, []⟩, 
  ⟨(some (6)), .len false (.tmp 5), none, []⟩, 
  ⟨(some (7)), .toInt .u64 (.tmp 6), none, []⟩, 
  ⟨(some (8)), .bin .plain .add (.tmp 7) (.const (.int .u64 1374496523)), none, []⟩, 
  ⟨(some (9)), .build [.int .u64 0] [(0, 1, .tmp 8)], none, []⟩, 
  ⟨(some (10)), .box (.tmp 9), none, []⟩, 
  ⟨(some (3)), .move (.tmp 10), none, []⟩]
def k_kit_NewDice_r2 : List AOper := [
  ⟨(some (4)), .move (.const (.int .i64 0)), none, []⟩]
def k_kit_NewDice_r3 : List AOper := [
  ⟨(some (11)), .move (.tmp 4), none, []⟩, 
  ⟨(some (12)), .move (.tmp 0), none, []⟩, 
  ⟨(some (13)), .len false (.tmp 12), none, []⟩, 
  ⟨(some (14)), .bin .plain .lss (.tmp 11) (.tmp 13), none, []⟩]
def k_kit_NewDice_r4 : List AOper := [
  ⟨(some (17)), .move (.tmp 3), none, []⟩, 
  ⟨(some (18)), .move (.tmp 3), none, [0]⟩, 
  ⟨(some (19)), .nilCheck (.tmp 18), none, [0]⟩, 
  ⟨(some (20)), .fieldAddr 0 (.tmp 19), none, [0]⟩, 
  ⟨(some (21)), .load none (.tmp 20), none, [0]⟩, 
  ⟨(some (22)), .move (.tmp 0), none, [0, 1, 2, 3, 4]⟩, 
  ⟨(some (23)), .move (.tmp 4), none, [0, 1, 2, 3, 4, 5]⟩, 
  ⟨(some (24)), .indexAddr 1 (.tmp 22) (.tmp 23), none, [0, 1, 2, 3, 4]⟩, 
  ⟨(some (25)), .load none (.tmp 24), none, [0, 1, 2, 3, 4]⟩, 
  ⟨(some (26)), .toInt .u64 (.tmp 25), none, [0, 1, 2, 3, 4]⟩, 
  ⟨(some (27)), .bin .plain .xor (.tmp 21) (.tmp 26), none, [0]⟩, 
  ⟨(some (28)), .nilCheck (.tmp 17), none, []⟩, 
  ⟨(some (29)), .fieldAddr 0 (.tmp 28), none, []⟩, 
  ⟨none, .store 1 (.tmp 29) (.tmp 27), none, []⟩]
def k_kit_NewDice_r4s : List (List AOper) := [
  [
  ⟨(some (17)), .move (.tmp 3), none, []⟩, 
  ⟨(some (18)), .move (.tmp 3), none, [0]⟩, 
  ⟨(some (19)), .nilCheck (.tmp 18), none, [0]⟩, 
  ⟨(some (20)), .fieldAddr 0 (.tmp 19), none, [0]⟩, 
  ⟨(some (21)), .load none (.tmp 20), none, [0]⟩, 
  ⟨(some (22)), .move (.tmp 0), none, [0, 1, 2, 3, 4]⟩, 
  ⟨(some (23)), .move (.tmp 4), none, [0, 1, 2, 3, 4, 5]⟩, 
  ⟨(some (24)), .indexAddr 1 (.tmp 22) (.tmp 23), none, [0, 1, 2, 3, 4]⟩, 
  ⟨(some (25)), .load none (.tmp 24), none, [0, 1, 2, 3, 4]⟩, 
  ⟨(some (26)), .toInt .u64 (.tmp 25), none, [0, 1, 2, 3, 4]⟩, 
  ⟨(some (27)), .bin .plain .xor (.tmp 21) (.tmp 26), none, [0]⟩], 
  [
  ⟨(some (28)), .nilCheck (.tmp 17), none, []⟩], 
  [
  ⟨(some (29)), .fieldAddr 0 (.tmp 28), none, []⟩], 
  [
  ⟨none, .store 1 (.tmp 29) (.tmp 27), none, []⟩]]
theorem k_kit_NewDice_r4_sg : segs k_kit_NewDice_r4 = k_kit_NewDice_r4s := by kernel_rfl
theorem k_kit_NewDice_r4_st : statOK k_kit_NewDice_r4 = true := by kernel_rfl
def k_kit_NewDice_r5 : List AOper := [
  ⟨(some (30)), .move (.tmp 3), none, []⟩, 
  ⟨(some (31)), .call (.const (.fn (.func 54) [] [])) [.tmp 30], none, []⟩]
def k_kit_NewDice_r6 : List AOper := [
  ⟨(some (15)), .move (.tmp 4), none, []⟩, 
  ⟨(some (16)), .bin .plain .add (.tmp 15) (.const (.int .i64 1)), none, []⟩, 
  ⟨(some (4)), .move (.tmp 16), none, []⟩]
def k_kit_NewDice_r7 : ACode := (.seq (.seq (.reg k_kit_NewDice_r3 false) (.cond (.tmp 14) .skip (.exit 0))) (.seq (.block 1 (.seq (.reg k_kit_NewDice_r4 true) (.reg k_kit_NewDice_r5 false))) (.reg k_kit_NewDice_r6 false)))
def k_kit_NewDice_r8 : List AOper := [
  ⟨(some (32)), .move (.tmp 3), none, []⟩, 
  ⟨(some (2)), .move (.tmp 32), none, []⟩]
def k_kit_NewDice : AFun := { params := 1, ntmps := 33, body := (.seq (.reg k_kit_NewDice_r0 false) (.seq (.reg k_kit_NewDice_r1 false) (.seq (.seq (.reg k_kit_NewDice_r2 false) (.block 0 (.loop k_kit_NewDice_r7))) (.seq (.reg k_kit_NewDice_r8 false) .ret)))), res := [.tmp 2] }
theorem k_kit_NewDice_ok : cfun Tryd.prog Tryd.f16 = k_kit_NewDice := by kernel_rfl

def k_kit_BenchOf_r0 : List AOper := [
  ⟨(some (4)), .move (.const (.nilsl)), none, []⟩]
def k_kit_BenchOf_r1 : List AOper := [
  ⟨(some (5)), .move (.const (.nilsl)), none, []⟩]
def k_kit_BenchOf_r2 : List AOper := [
  ⟨(some (9)), .move (.tmp 0), none, []⟩, 
  ⟨(some (10)), .move (.tmp 1), none, []⟩, 
  ⟨(some (11)), .call (.const (.fn (.func 20) [] [])) [.tmp 9, .const (.int .i64 1), .tmp 10], none, []⟩, 
  ⟨(some (6)), .move (.tmp 11), none, []⟩]
def k_kit_BenchOf_r3 : List AOper := [
  ⟨(some (12)), .move (.tmp 6), none, []⟩, 
  ⟨(some (13)), .bin .plain .gtr (.tmp 12) (.const (.int .i64 0)), none, []⟩]
def k_kit_BenchOf_r4 : List AOper := [
  ⟨(some (16)), .move (.tmp 0), none, []⟩, 
  ⟨(some (17)), .call (.const (.fn (.func 20) [] [])) [.tmp 16, .const (.int .i64 900000), .const (.int .i64 1100000)], none, []⟩, 
  ⟨(some (18)), .move (.tmp 0), none, []⟩, 
  ⟨(some (19)), .call (.const (.fn (.func 20) [] [])) [.tmp 18, .const (.int .i64 500000), .const (.int .i64 2000000)], none, []⟩, 
  ⟨(some (20)), .buildSlice 1 [.const (.int .i64 1000000), .tmp 17, .tmp 19], none, []⟩, 
  ⟨(some (21)), .move (.tmp 0), none, []⟩, 
  ⟨(some (22)), .call (.const (.fn (.func 19) [] [])) [.tmp 21, .const (.int .i64 3)], none, []⟩, 
  ⟨(some (23)), .indexAddr 1 (.tmp 20) (.tmp 22), none, []⟩, 
  ⟨(some (24)), .load none (.tmp 23), none, []⟩, 
  ⟨(some (7)), .move (.tmp 24), none, []⟩]
def k_kit_BenchOf_r5 : List AOper := [
  ⟨(some (25)), .move (.tmp 7), none, []⟩, 
  ⟨(some (26)), .move (.tmp 7), none, [0]⟩, 
  ⟨(some (27)), .move (.tmp 0), none, [0, 1]⟩, 
  ⟨(some (28)), .call (.const (.fn (.func 19) [] [])) [.tmp 27, .const (.int .i64 20000)], none, [0, 1]⟩, 
  ⟨(some (29)), .move (.tmp 0), none, [0, 1, 2, 3]⟩, 
  ⟨(some (30)), .call (.const (.fn (.func 19) [] [])) [.tmp 29, .const (.int .i64 300000)], none, [0, 1]⟩, 
  ⟨(some (31)), .buildSlice 1 [.const (.int .i64 0), .tmp 28, .tmp 30], none, [0, 1]⟩, 
  ⟨(some (32)), .move (.tmp 0), none, [0, 1, 2, 3, 4, 5, 6]⟩, 
  ⟨(some (33)), .call (.const (.fn (.func 19) [] [])) [.tmp 32, .const (.int .i64 3)], none, [0, 1, 6]⟩, 
  ⟨(some (34)), .indexAddr 1 (.tmp 31) (.tmp 33), none, [0, 1]⟩, 
  ⟨(some (35)), .load none (.tmp 34), none, [0, 1]⟩, 
  ⟨(some (36)), .bin .plain .add (.tmp 26) (.tmp 35), none, [0]⟩, 
  ⟨(some (37)), .minmax false [.const (.int .i64 2000000), .tmp 36], none, [0]⟩, 
  ⟨(some (38)), .build [.int .i64 0, .int .i64 0] [(0, 1, .tmp 25), (1, 1, .tmp 37)], none, []⟩, 
  ⟨(some (39)), .move (.tmp 0), none, [0, 1, 2, 3, 4, 5, 6, 7, 8, 9, 10, 11, 12, 13]⟩, 
  ⟨(some (40)), .buildSlice 1 [.const (.int .i64 0), .const (.int .i64 9), .const (.int .i64 1000)], none, [0, 1, 2, 3, 4, 5, 6, 7, 8, 9, 10, 11, 12, 13, 14]⟩, 
  ⟨(some (41)), .move (.tmp 0), none, [0, 1, 2, 3, 4, 5, 6, 7, 8, 9, 10, 11, 12, 13, 14, 15]⟩, 
  ⟨(some (42)), .call (.const (.fn (.func 19) [] [])) [.tmp 41, .const (.int .i64 3)], none, [0, 1, 6, 9, 10, 11, 12, 13, 14, 15]⟩, 
  ⟨(some (43)), .indexAddr 1 (.tmp 40) (.tmp 42), none, [0, 1, 6, 9, 10, 11, 12, 13, 14]⟩, 
  ⟨(some (44)), .load none (.tmp 43), none, [0, 1, 6, 9, 10, 11, 12, 13, 14]⟩, 
  ⟨(some (45)), .neg (.tmp 44), none, [0, 1, 6, 9, 10, 11, 12, 13, 14]⟩, 
  ⟨(some (46)), .call (.const (.fn (.func 41) [] [])) [.tmp 39, .tmp 45, .const (.int .i64 9)], none, [0, 1, 6, 9, 10, 11, 12, 13]⟩, 
  ⟨(some (47)), .move (.tmp 0), none, [0, 1, 2, 3, 4, 5, 6, 7, 8, 9, 10, 11, 12, 13, 14, 15, 16, 17, 18, 19, 20, 21]⟩, 
  ⟨(some (48)), .call (.const (.fn (.func 20) [] [])) [.tmp 47, .const (.int .i64 1), .const (.int .i64 12)], none, [0, 1, 6, 9, 10, 11, 12, 13]⟩, 
  ⟨(some (49)), .move (.tmp 0), none, [0, 1, 2, 3, 4, 5, 6, 7, 8, 9, 10, 11, 12, 13, 14, 15, 16, 17, 18, 19, 20, 21, 22, 23]⟩, 
  ⟨(some (50)), .call (.const (.fn (.func 20) [] [])) [.tmp 49, .const (.int .i64 1), .const (.int .i64 1000)], none, [0, 1, 6, 9, 10, 11, 12, 13]⟩, 
  ⟨(some (51)), .buildSlice 1 [.const (.int .i64 1), .tmp 48, .tmp 50], none, [0, 1, 6, 9, 10, 11, 12, 13]⟩, 
  ⟨(some (52)), .move (.tmp 0), none, [0, 1, 2, 3, 4, 5, 6, 7, 8, 9, 10, 11, 12, 13, 14, 15, 16, 17, 18, 19, 20, 21, 22, 23, 24, 25, 26]⟩, 
  ⟨(some (53)), .call (.const (.fn (.func 19) [] [])) [.tmp 52, .const (.int .i64 3)], none, [0, 1, 6, 9, 10, 11, 12, 13, 26]⟩, 
  ⟨(some (54)), .indexAddr 1 (.tmp 51) (.tmp 53), none, [0, 1, 6, 9, 10, 11, 12, 13]⟩, 
  ⟨(some (55)), .load none (.tmp 54), none, [0, 1, 6, 9, 10, 11, 12, 13]⟩, 
  ⟨(some (56)), .move (.tmp 0), none, [0, 1, 2, 3, 4, 5, 6, 7, 8, 9, 10, 11, 12, 13, 14, 15, 16, 17, 18, 19, 20, 21, 22, 23, 24, 25, 26, 27, 28, 29, 30]⟩, 
  ⟨(some (57)), .move (.tmp 5), none, [0, 1, 2, 3, 4, 5, 6, 7, 8, 9, 10, 11, 12, 13, 14, 15, 16, 17, 18, 19, 20, 21, 22, 23, 24, 25, 26, 27, 28, 29, 30, 31]⟩, 
  ⟨(some (58)), .len false (.tmp 57), none, [0, 1, 2, 3, 4, 5, 6, 7, 8, 9, 10, 11, 12, 13, 14, 15, 16, 17, 18, 19, 20, 21, 22, 23, 24, 25, 26, 27, 28, 29, 30, 31]⟩, 
  ⟨(some (59)), .bin .plain .sub (.tmp 58) (.const (.int .i64 1)), none, [0, 1, 2, 3, 4, 5, 6, 7, 8, 9, 10, 11, 12, 13, 14, 15, 16, 17, 18, 19, 20, 21, 22, 23, 24, 25, 26, 27, 28, 29, 30, 31]⟩, 
  ⟨(some (60)), .call (.const (.fn (.func 20) [] [])) [.tmp 56, .const (.int .i64 (-1)), .tmp 59], none, [0, 1, 6, 9, 10, 11, 12, 13, 26, 29, 30]⟩, 
  ⟨(some (61)), .move (.tmp 0), none, [0, 1, 2, 3, 4, 5, 6, 7, 8, 9, 10, 11, 12, 13, 14, 15, 16, 17, 18, 19, 20, 21, 22, 23, 24, 25, 26, 27, 28, 29, 30, 31, 32, 33, 34, 35]⟩, 
  ⟨(some (62)), .call (.const (.fn (.func 19) [] [])) [.tmp 61, .const (.int .i64 1000)], none, [0, 1, 6, 9, 10, 11, 12, 13, 26, 29, 30]⟩, 
  ⟨(some (63)), .bin .plain .add (.const (.int .i64 1000)) (.tmp 62), none, [0, 1, 6, 9, 10, 11, 12, 13, 26, 29, 30]⟩, 
  ⟨(some (64)), .build [.int .i64 0, .int .i64 0, .int .i64 0, .int .i64 0, .int .i64 0, .int .i64 0, .int .i64 0] [(0, 2, .tmp 38), (2, 2, .tmp 46), (4, 1, .tmp 55), (5, 1, .tmp 60), (6, 1, .tmp 63)], none, []⟩, 
  ⟨(some (8)), .box (.const (.agg [.int .i64 0, .int .i64 0, .int .i64 0, .int .i64 0, .int .i64 0, .int .i64 0, .int .i64 0])), none, [0, 1, 2, 3, 4, 5, 6, 7, 8, 9, 10, 11, 12, 13, 14, 15, 16, 17, 18, 19, 20, 21, 22, 23, 24, 25, 26, 27, 28, 29, 30, 31, 32, 33, 34, 35, 36, 37, 38, 39]⟩, 
  ⟨none, .store 7 (.tmp 8) (.tmp 64), none, []⟩]
def k_kit_BenchOf_r5s : List (List AOper) := [
  [
  ⟨(some (25)), .move (.tmp 7), none, []⟩, 
  ⟨(some (26)), .move (.tmp 7), none, [0]⟩, 
  ⟨(some (27)), .move (.tmp 0), none, [0, 1]⟩, 
  ⟨(some (28)), .call (.const (.fn (.func 19) [] [])) [.tmp 27, .const (.int .i64 20000)], none, [0, 1]⟩, 
  ⟨(some (29)), .move (.tmp 0), none, [0, 1, 2, 3]⟩, 
  ⟨(some (30)), .call (.const (.fn (.func 19) [] [])) [.tmp 29, .const (.int .i64 300000)], none, [0, 1]⟩, 
  ⟨(some (31)), .buildSlice 1 [.const (.int .i64 0), .tmp 28, .tmp 30], none, [0, 1]⟩, 
  ⟨(some (32)), .move (.tmp 0), none, [0, 1, 2, 3, 4, 5, 6]⟩, 
  ⟨(some (33)), .call (.const (.fn (.func 19) [] [])) [.tmp 32, .const (.int .i64 3)], none, [0, 1, 6]⟩, 
  ⟨(some (34)), .indexAddr 1 (.tmp 31) (.tmp 33), none, [0, 1]⟩, 
  ⟨(some (35)), .load none (.tmp 34), none, [0, 1]⟩, 
  ⟨(some (36)), .bin .plain .add (.tmp 26) (.tmp 35), none, [0]⟩, 
  ⟨(some (37)), .minmax false [.const (.int .i64 2000000), .tmp 36], none, [0]⟩, 
  ⟨(some (38)), .build [.int .i64 0, .int .i64 0] [(0, 1, .tmp 25), (1, 1, .tmp 37)], none, []⟩, 
  ⟨(some (39)), .move (.tmp 0), none, [0, 1, 2, 3, 4, 5, 6, 7, 8, 9, 10, 11, 12, 13]⟩, 
  ⟨(some (40)), .buildSlice 1 [.const (.int .i64 0), .const (.int .i64 9), .const (.int .i64 1000)], none, [0, 1, 2, 3, 4, 5, 6, 7, 8, 9, 10, 11, 12, 13, 14]⟩, 
  ⟨(some (41)), .move (.tmp 0), none, [0, 1, 2, 3, 4, 5, 6, 7, 8, 9, 10, 11, 12, 13, 14, 15]⟩, 
  ⟨(some (42)), .call (.const (.fn (.func 19) [] [])) [.tmp 41, .const (.int .i64 3)], none, [0, 1, 6, 9, 10, 11, 12, 13, 14, 15]⟩, 
  ⟨(some (43)), .indexAddr 1 (.tmp 40) (.tmp 42), none, [0, 1, 6, 9, 10, 11, 12, 13, 14]⟩, 
  ⟨(some (44)), .load none (.tmp 43), none, [0, 1, 6, 9, 10, 11, 12, 13, 14]⟩, 
  ⟨(some (45)), .neg (.tmp 44), none, [0, 1, 6, 9, 10, 11, 12, 13, 14]⟩, 
  ⟨(some (46)), .call (.const (.fn (.func 41) [] [])) [.tmp 39, .tmp 45, .const (.int .i64 9)], none, [0, 1, 6, 9, 10, 11, 12, 13]⟩, 
  ⟨(some (47)), .move (.tmp 0), none, [0, 1, 2, 3, 4, 5, 6, 7, 8, 9, 10, 11, 12, 13, 14, 15, 16, 17, 18, 19, 20, 21]⟩, 
  ⟨(some (48)), .call (.const (.fn (.func 20) [] [])) [.tmp 47, .const (.int .i64 1), .const (.int .i64 12)], none, [0, 1, 6, 9, 10, 11, 12, 13]⟩, 
  ⟨(some (49)), .move (.tmp 0), none, [0, 1, 2, 3, 4, 5, 6, 7, 8, 9, 10, 11, 12, 13, 14, 15, 16, 17, 18, 19, 20, 21, 22, 23]⟩, 
  ⟨(some (50)), .call (.const (.fn (.func 20) [] [])) [.tmp 49, .const (.int .i64 1), .const (.int .i64 1000)], none, [0, 1, 6, 9, 10, 11, 12, 13]⟩, 
  ⟨(some (51)), .buildSlice 1 [.const (.int .i64 1), .tmp 48, .tmp 50], none, [0, 1, 6, 9, 10, 11, 12, 13]⟩, 
  ⟨(some (52)), .move (.tmp 0), none, [0, 1, 2, 3, 4, 5, 6, 7, 8, 9, 10, 11, 12, 13, 14, 15, 16, 17, 18, 19, 20, 21, 22, 23, 24, 25, 26]⟩, 
  ⟨(some (53)), .call (.const (.fn (.func 19) [] [])) [.tmp 52, .const (.int .i64 3)], none, [0, 1, 6, 9, 10, 11, 12, 13, 26]⟩, 
  ⟨(some (54)), .indexAddr 1 (.tmp 51) (.tmp 53), none, [0, 1, 6, 9, 10, 11, 12, 13]⟩, 
  ⟨(some (55)), .load none (.tmp 54), none, [0, 1, 6, 9, 10, 11, 12, 13]⟩, 
  ⟨(some (56)), .move (.tmp 0), none, [0, 1, 2, 3, 4, 5, 6, 7, 8, 9, 10, 11, 12, 13, 14, 15, 16, 17, 18, 19, 20, 21, 22, 23, 24, 25, 26, 27, 28, 29, 30]⟩, 
  ⟨(some (57)), .move (.tmp 5), none, [0, 1, 2, 3, 4, 5, 6, 7, 8, 9, 10, 11, 12, 13, 14, 15, 16, 17, 18, 19, 20, 21, 22, 23, 24, 25, 26, 27, 28, 29, 30, 31]⟩, 
  ⟨(some (58)), .len false (.tmp 57), none, [0, 1, 2, 3, 4, 5, 6, 7, 8, 9, 10, 11, 12, 13, 14, 15, 16, 17, 18, 19, 20, 21, 22, 23, 24, 25, 26, 27, 28, 29, 30, 31]⟩, 
  ⟨(some (59)), .bin .plain .sub (.tmp 58) (.const (.int .i64 1)), none, [0, 1, 2, 3, 4, 5, 6, 7, 8, 9, 10, 11, 12, 13, 14, 15, 16, 17, 18, 19, 20, 21, 22, 23, 24, 25, 26, 27, 28, 29, 30, 31]⟩, 
  ⟨(some (60)), .call (.const (.fn (.func 20) [] [])) [.tmp 56, .const (.int .i64 (-1)), .tmp 59], none, [0, 1, 6, 9, 10, 11, 12, 13, 26, 29, 30]⟩, 
  ⟨(some (61)), .move (.tmp 0), none, [0, 1, 2, 3, 4, 5, 6, 7, 8, 9, 10, 11, 12, 13, 14, 15, 16, 17, 18, 19, 20, 21, 22, 23, 24, 25, 26, 27, 28, 29, 30, 31, 32, 33, 34, 35]⟩, 
  ⟨(some (62)), .call (.const (.fn (.func 19) [] [])) [.tmp 61, .const (.int .i64 1000)], none, [0, 1, 6, 9, 10, 11, 12, 13, 26, 29, 30]⟩, 
  ⟨(some (63)), .bin .plain .add (.const (.int .i64 1000)) (.tmp 62), none, [0, 1, 6, 9, 10, 11, 12, 13, 26, 29, 30]⟩, 
  ⟨(some (64)), .build [.int .i64 0, .int .i64 0, .int .i64 0, .int .i64 0, .int .i64 0, .int .i64 0, .int .i64 0] [(0, 2, .tmp 38), (2, 2, .tmp 46), (4, 1, .tmp 55), (5, 1, .tmp 60), (6, 1, .tmp 63)], none, []⟩, 
  ⟨(some (8)), .box (.const (.agg [.int .i64 0, .int .i64 0, .int .i64 0, .int .i64 0, .int .i64 0, .int .i64 0, .int .i64 0])), none, [0, 1, 2, 3, 4, 5, 6, 7, 8, 9, 10, 11, 12, 13, 14, 15, 16, 17, 18, 19, 20, 21, 22, 23, 24, 25, 26, 27, 28, 29, 30, 31, 32, 33, 34, 35, 36, 37, 38, 39]⟩], 
  [
  ⟨none, .store 7 (.tmp 8) (.tmp 64), none, []⟩]]
theorem k_kit_BenchOf_r5_sg : segs k_kit_BenchOf_r5 = k_kit_BenchOf_r5s := by kernel_rfl
theorem k_kit_BenchOf_r5_st : statOK k_kit_BenchOf_r5 = true := by kernel_rfl
def k_kit_BenchOf_r6 : List AOper := [
  ⟨(some (65)), .move (.tmp 5), none, []⟩, 
  ⟨(some (66)), .load (some (7)) (.tmp 8), none, []⟩, 
  ⟨(some (67)), .buildSlice 7 [.tmp 66], none, []⟩, 
  ⟨(some (68)), .append 7 56 true (.tmp 65) (.tmp 67), none, []⟩, 
  ⟨(some (5)), .move (.tmp 68), none, []⟩]
def k_kit_BenchOf_r7 : List AOper := [
  ⟨(some (14)), .move (.tmp 6), none, []⟩, 
  ⟨(some (15)), .bin .plain .sub (.tmp 14) (.const (.int .i64 1)), none, []⟩, 
  ⟨(some (6)), .move (.tmp 15), none, []⟩]
def k_kit_BenchOf_r8 : ACode := (.seq (.seq (.reg k_kit_BenchOf_r3 false) (.cond (.tmp 13) .skip (.exit 0))) (.seq (.block 1 (.seq (.reg k_kit_BenchOf_r4 false) (.seq (.reg k_kit_BenchOf_r5 true) (.reg k_kit_BenchOf_r6 false)))) (.reg k_kit_BenchOf_r7 false)))
def k_kit_BenchOf_r9 : List AOper := [
  ⟨(some (69)), .move (.tmp 5), none, []⟩, 
  ⟨(some (4)), .move (.tmp 69), none, []⟩]
def k_kit_BenchOf : AFun := { params := 2, ntmps := 70, body := (.seq (.reg k_kit_BenchOf_r0 false) (.seq (.reg k_kit_BenchOf_r1 false) (.seq (.seq (.reg k_kit_BenchOf_r2 false) (.block 0 (.loop k_kit_BenchOf_r8))) (.seq (.reg k_kit_BenchOf_r9 false) .ret)))), res := [.tmp 4] }
theorem k_kit_BenchOf_ok : cfun Tryd.prog Tryd.f17 = k_kit_BenchOf := by kernel_rfl

def k_kit_Dice_One_r0 : List AOper := [
  ⟨(some (4)), .move (.const (.bool false)), none, []⟩]
def k_kit_Dice_One_r1 : List AOper := [
  ⟨(some (5)), .move (.tmp 0), none, []⟩, 
  ⟨(some (6)), .move (.tmp 1), none, []⟩, 
  ⟨(some (7)), .call (.const (.fn (.func 19) [] [])) [.tmp 5, .tmp 6], none, []⟩, 
  ⟨(some (8)), .bin .plain .eql (.tmp 7) (.const (.int .i64 0)), none, []⟩, 
  ⟨(some (4)), .move (.tmp 8), none, []⟩]
def k_kit_Dice_One : AFun := { params := 2, ntmps := 9, body := (.seq (.reg k_kit_Dice_One_r0 false) (.seq (.reg k_kit_Dice_One_r1 false) .ret)), res := [.tmp 4] }
theorem k_kit_Dice_One_ok : cfun Tryd.prog Tryd.f18 = k_kit_Dice_One := by kernel_rfl

def k_kit_Dice_Upto_r0 : List AOper := [
  ⟨(some (4)), .move (.const (.int .i64 0)), none, []⟩]
def k_kit_Dice_Upto_r1 : List AOper := [
  ⟨(some (6)), .move (.tmp 0), none, []⟩, 
  ⟨(some (7)), .call (.const (.fn (.func 54) [] [])) [.tmp 6], none, []⟩, 
  ⟨(some (5)), .move (.tmp 7), none, []⟩]
def k_kit_Dice_Upto_r2 : List AOper := [
  ⟨(some (8)), .move (.tmp 1), none, []⟩, 
  ⟨(some (9)), .bin .plain .lss (.tmp 8) (.const (.int .i64 1)), none, []⟩]
def k_kit_Dice_Upto_r3 : List AOper := [
  ⟨(some (4)), .move (.const (.int .i64 0)), none, []⟩]
def k_kit_Dice_Upto_r4 : List AOper := [
  ⟨(some (10)), .move (.tmp 5), none, []⟩, 
  ⟨(some (11)), .move (.tmp 1), none, []⟩, 
  ⟨(some (12)), .toInt .u64 (.tmp 11), none, []⟩, 
  ⟨(some (13)), .bin .plain .rem (.tmp 10) (.tmp 12), none, []⟩, 
  ⟨(some (14)), .toInt .i64 (.tmp 13), none, []⟩, 
  ⟨(some (4)), .move (.tmp 14), none, []⟩]
def k_kit_Dice_Upto : AFun := { params := 2, ntmps := 15, body := (.seq (.reg k_kit_Dice_Upto_r0 false) (.seq (.reg k_kit_Dice_Upto_r1 false) (.seq (.seq (.reg k_kit_Dice_Upto_r2 false) (.cond (.tmp 9) (.seq (.reg k_kit_Dice_Upto_r3 false) .ret) .skip)) (.seq (.reg k_kit_Dice_Upto_r4 false) .ret)))), res := [.tmp 4] }
theorem k_kit_Dice_Upto_ok : cfun Tryd.prog Tryd.f19 = k_kit_Dice_Upto := by kernel_rfl

def k_kit_Dice_Between_r0 : List AOper := [
  ⟨(some (6)), .move (.const (.int .i64 0)), none, []⟩]
def k_kit_Dice_Between_r1 : List AOper := [
  ⟨(some (7)), .move (.tmp 1), none, []⟩, 
  ⟨(some (8)), .move (.tmp 0), none, []⟩, 
  ⟨(some (9)), .move (.tmp 2), none, []⟩, 
  ⟨(some (10)), .move (.tmp 1), none, []⟩, 
  ⟨(some (11)), .bin .plain .sub (.tmp 9) (.tmp 10), none, []⟩, 
  ⟨(some (12)), .bin .plain .add (.tmp 11) (.const (.int .i64 1)), none, []⟩, 
  ⟨(some (13)), .call (.const (.fn (.func 19) [] [])) [.tmp 8, .tmp 12], none, []⟩, 
  ⟨(some (14)), .bin .plain .add (.tmp 7) (.tmp 13), none, []⟩, 
  ⟨(some (6)), .move (.tmp 14), none, []⟩]
def k_kit_Dice_Between : AFun := { params := 3, ntmps := 15, body := (.seq (.reg k_kit_Dice_Between_r0 false) (.seq (.reg k_kit_Dice_Between_r1 false) .ret)), res := [.tmp 6] }
theorem k_kit_Dice_Between_ok : cfun Tryd.prog Tryd.f20 = k_kit_Dice_Between := by kernel_rfl

def k_kit_Mod_r0 : List AOper := [
  ⟨(some (4)), .move (.const (.int .i64 0)), none, []⟩]
def k_kit_Mod_r1 : List AOper := [
  ⟨(some (6)), .move (.tmp 1), none, []⟩, 
  ⟨(some (7)), .bin .plain .lss (.tmp 6) (.const (.int .i64 1)), none, []⟩]
def k_kit_Mod_r2 : List AOper := [
  ⟨(some (4)), .move (.const (.int .i64 0)), none, []⟩]
def k_kit_Mod_r3 : List AOper := [
  ⟨(some (8)), .move (.tmp 0), none, []⟩, 
  ⟨(some (9)), .move (.tmp 1), none, []⟩, 
  ⟨(some (10)), .bin .plain .rem (.tmp 8) (.tmp 9), none, []⟩, 
  ⟨(some (5)), .move (.tmp 10), none, []⟩]
def k_kit_Mod_r4 : List AOper := [
  ⟨(some (11)), .move (.tmp 5), none, []⟩, 
  ⟨(some (12)), .bin .plain .lss (.tmp 11) (.const (.int .i64 0)), none, []⟩]
def k_kit_Mod_r5 : List AOper := [
  ⟨(some (13)), .move (.tmp 5), none, []⟩, 
  ⟨(some (14)), .move (.tmp 1), none, []⟩, 
  ⟨(some (15)), .bin .plain .add (.tmp 13) (.tmp 14), none, []⟩, 
  ⟨(some (4)), .move (.tmp 15), none, []⟩]
def k_kit_Mod_r6 : List AOper := [
  ⟨(some (16)), .move (.tmp 5), none, []⟩, 
  ⟨(some (4)), .move (.tmp 16), none, []⟩]
def k_kit_Mod : AFun := { params := 2, ntmps := 17, body := (.seq (.reg k_kit_Mod_r0 false) (.seq (.seq (.reg k_kit_Mod_r1 false) (.cond (.tmp 7) (.seq (.reg k_kit_Mod_r2 false) .ret) .skip)) (.seq (.reg k_kit_Mod_r3 false) (.seq (.seq (.reg k_kit_Mod_r4 false) (.cond (.tmp 12) (.seq (.reg k_kit_Mod_r5 false) .ret) .skip)) (.seq (.reg k_kit_Mod_r6 false) .ret))))), res := [.tmp 4] }
theorem k_kit_Mod_ok : cfun Tryd.prog Tryd.f22 = k_kit_Mod := by kernel_rfl

def k_gauge_Check_r0 : List AOper := [
  ⟨(some (2)), .move (.const (.int .i64 0)), none, []⟩]
def k_gauge_Check_r1 : List AOper := [
  ⟨(some (7)), .move (.tmp 0), none, []⟩, 
  ⟨(some (8)), .len false (.tmp 7), none, []⟩, 
  ⟨(some (9)), .bin .plain .gtr (.tmp 8) (.const (.int .i64 12)), none, []⟩]
def k_gauge_Check_r2 : List AOper := [
  ⟨(some (2)), .move (.const (.int .i64 8)), none, []⟩]
def k_gauge_Check_r3 : List AOper := [
  ⟨(some (10)), .move (.tmp 0), none, []⟩, 
  ⟨(some (11)), .len false (.tmp 10), none, []⟩, 
  ⟨(some (12)), .move (.const (.int .i64 0)), none, []⟩]
def k_gauge_Check_r4 : List AOper := [
  ⟨(some (13)), .bin .plain .lss (.tmp 12) (.tmp 11), none, []⟩]
def k_gauge_Check_r5 : List AOper := [
  ⟨(some (14)), .indexAddr 7 (.tmp 10) (.tmp 12), none, []⟩, 
  ⟨(some (15)), .load (some (7)) (.tmp 14), none, []⟩, 
  ⟨(some (4)), .box (.const (.agg [.int .i64 0, .int .i64 0, .int .i64 0, .int .i64 0, .int .i64 0, .int .i64 0, .int .i64 0])), none, []⟩, 
  ⟨none, .store 7 (.tmp 4) (.tmp 15), none, []⟩]
def k_gauge_Check_r6 : List AOper := [
  ⟨(some (16)), .load (some (7)) (.tmp 4), none, []⟩, 
  ⟨(some (17)), .move (.tmp 0), none, []⟩, 
  ⟨(some (18)), .len false (.tmp 17), none, []⟩, 
  ⟨(some (19)), .call (.const (.fn (.func 55) [] [])) [.tmp 16, .tmp 18], none, []⟩, 
  ⟨(some (5)), .move (.tmp 19), none, []⟩]
def k_gauge_Check_r7 : List AOper := [
  ⟨(some (20)), .move (.tmp 5), none, []⟩, 
  ⟨(some (21)), .bin .plain .neq (.tmp 20) (.const (.int .i64 0)), none, []⟩]
def k_gauge_Check_r8 : List AOper := [
  ⟨(some (22)), .move (.tmp 5), none, []⟩, 
  ⟨(some (2)), .move (.tmp 22), none, []⟩]
def k_gauge_Check_r9 : List AOper := [
  ⟨(some (23)), .bin .plain .add (.tmp 12) (.const (.int .i64 1)), none, []⟩, 
  ⟨(some (12)), .move (.tmp 23), none, []⟩]
def k_gauge_Check_r10 : ACode := (.seq (.reg k_gauge_Check_r4 false) (.seq (.cond (.tmp 13) .skip (.exit 0)) (.seq (.block 1 (.seq (.reg k_gauge_Check_r5 false) (.seq (.reg k_gauge_Check_r6 false) (.seq (.reg k_gauge_Check_r7 false) (.cond (.tmp 21) (.seq (.reg k_gauge_Check_r8 false) .ret) .skip))))) (.reg k_gauge_Check_r9 false))))
def k_gauge_Check_r11 : List AOper := [
  ⟨(some (24)), .move (.tmp 0), none, []⟩, 
  ⟨(some (25)), .len false (.tmp 24), none, []⟩, 
  ⟨(some (26)), .move (.const (.int .i64 0)), none, []⟩]
def k_gauge_Check_r12 : List AOper := [
  ⟨(some (27)), .bin .plain .lss (.tmp 26) (.tmp 25), none, []⟩]
def k_gauge_Check_r13 : List AOper := [
  ⟨(some (28)), .move (.tmp 26), none, []⟩, 
  ⟨(some (6)), .move (.tmp 28), none, []⟩]
def k_gauge_Check_r14 : List AOper := [
  ⟨(some (29)), .move (.tmp 0), none, []⟩, 
  ⟨(some (30)), .move (.tmp 6), none, []⟩, 
  ⟨(some (31)), .call (.const (.fn (.func 56) [] [])) [.tmp 29, .tmp 30], none, []⟩]
def k_gauge_Check_r15 : List AOper := [
  ⟨(some (2)), .move (.const (.int .i64 13)), none, []⟩]
def k_gauge_Check_r16 : List AOper := [
  ⟨(some (32)), .bin .plain .add (.tmp 26) (.const (.int .i64 1)), none, []⟩, 
  ⟨(some (26)), .move (.tmp 32), none, []⟩]
def k_gauge_Check_r17 : ACode := (.seq (.reg k_gauge_Check_r12 false) (.seq (.cond (.tmp 27) .skip (.exit 2)) (.seq (.block 3 (.seq (.reg k_gauge_Check_r13 false) (.seq (.reg k_gauge_Check_r14 false) (.cond (.tmp 31) (.seq (.reg k_gauge_Check_r15 false) .ret) .skip)))) (.reg k_gauge_Check_r16 false))))
def k_gauge_Check_r18 : List AOper := [
  ⟨(some (2)), .move (.const (.int .i64 0)), none, []⟩]
def k_gauge_Check : AFun := { params := 1, ntmps := 33, body := (.seq (.reg k_gauge_Check_r0 false) (.seq (.seq (.reg k_gauge_Check_r1 false) (.cond (.tmp 9) (.seq (.reg k_gauge_Check_r2 false) .ret) .skip)) (.seq (.seq (.reg k_gauge_Check_r3 false) (.block 0 (.loop k_gauge_Check_r10))) (.seq (.seq (.reg k_gauge_Check_r11 false) (.block 2 (.loop k_gauge_Check_r17))) (.seq (.reg k_gauge_Check_r18 false) .ret))))), res := [.tmp 2] }
theorem k_gauge_Check_ok : cfun Tryd.prog Tryd.f23 = k_gauge_Check := by kernel_rfl

def k_ref07_Check_r0 : List AOper := [
  ⟨(some (2)), .move (.const (.int .i64 0)), none, []⟩]
def k_ref07_Check_r1 : List AOper := [
  ⟨(some (9)), .move (.tmp 0), none, []⟩, 
  ⟨(some (10)), .len false (.tmp 9), none, []⟩, 
  ⟨(some (11)), .bin .plain .gtr (.tmp 10) (.const (.int .i64 12)), none, []⟩]
def k_ref07_Check_r2 : List AOper := [
  ⟨(some (2)), .move (.const (.int .i64 8)), none, []⟩]
def k_ref07_Check_r3 : List AOper := [
  ⟨(some (3)), .move (.const (.int .i64 0)), none, []⟩]
def k_ref07_Check_r4 : List AOper := [
  ⟨(some (12)), .move (.tmp 3), none, []⟩, 
  ⟨(some (13)), .move (.tmp 0), none, []⟩, 
  ⟨(some (14)), .len false (.tmp 13), none, []⟩, 
  ⟨(some (15)), .bin .plain .lss (.tmp 12) (.tmp 14), none, []⟩]
def k_ref07_Check_r5 : List AOper := [
  ⟨(some (18)), .move (.tmp 0), none, []⟩, 
  ⟨(some (19)), .move (.tmp 3), none, []⟩, 
  ⟨(some (20)), .indexAddr 7 (.tmp 18) (.tmp 19), none, []⟩, 
  ⟨(some (21)), .load (some (7)) (.tmp 20), none, []⟩, 
  ⟨(some (4)), .box (.const (.agg [.int .i64 0, .int .i64 0, .int .i64 0, .int .i64 0, .int .i64 0, .int .i64 0, .int .i64 0])), none, []⟩, 
  ⟨none, .store 7 (.tmp 4) (.tmp 21), none, []⟩]
def k_ref07_Check_r6 : List AOper := [
  ⟨(some (22)), .load (some (7)) (.tmp 4), none, []⟩, 
  ⟨(some (23)), .call (.const (.fn (.func 57) [] [])) [.tmp 22], none, []⟩, 
  ⟨(some (5)), .move (.tmp 23), none, []⟩]
def k_ref07_Check_r7 : List AOper := [
  ⟨(some (24)), .move (.tmp 5), none, []⟩, 
  ⟨(some (25)), .bin .plain .neq (.tmp 24) (.const (.int .i64 0)), none, []⟩]
def k_ref07_Check_r8 : List AOper := [
  ⟨(some (26)), .move (.tmp 5), none, []⟩, 
  ⟨(some (2)), .move (.tmp 26), none, []⟩]
def k_ref07_Check_r9 : List AOper := [
  ⟨(some (27)), .fieldAddr 4 (.tmp 4), none, []⟩, 
  ⟨(some (28)), .load none (.tmp 27), none, []⟩, 
  ⟨(some (29)), .call (.const (.fn (.func 58) [] [])) [.tmp 28, .const (.int .i64 1), .const (.int .i64 1000000)], none, []⟩, 
  ⟨(some (30)), .move (.tmp 29), none, []⟩, 
  ⟨(some (31)), .fieldAddr 6 (.tmp 4), (some (30, false)), []⟩, 
  ⟨(some (32)), .load none (.tmp 31), (some (30, false)), []⟩, 
  ⟨(some (33)), .call (.const (.fn (.func 58) [] [])) [.tmp 32, .const (.int .i64 0), .const (.int .i64 1000000000)], (some (30, false)), []⟩, 
  ⟨(some (34)), .pick (.tmp 30) (.const (.bool true)) (.tmp 33), none, []⟩, 
  ⟨(some (35)), .move (.tmp 34), none, []⟩, 
  ⟨(some (36)), .fieldAddr 5 (.tmp 4), (some (35, false)), []⟩, 
  ⟨(some (37)), .load none (.tmp 36), (some (35, false)), []⟩, 
  ⟨(some (38)), .move (.tmp 0), (some (35, false)), []⟩, 
  ⟨(some (39)), .len false (.tmp 38), (some (35, false)), []⟩, 
  ⟨(some (40)), .bin .plain .sub (.tmp 39) (.const (.int .i64 1)), (some (35, false)), []⟩, 
  ⟨(some (41)), .call (.const (.fn (.func 58) [] [])) [.tmp 37, .const (.int .i64 (-1)), .tmp 40], (some (35, false)), []⟩, 
  ⟨(some (42)), .pick (.tmp 35) (.const (.bool true)) (.tmp 41), none, []⟩]
def k_ref07_Check_r10 : List AOper := [
  ⟨(some (2)), .move (.const (.int .i64 2)), none, []⟩]
def k_ref07_Check_r11 : List AOper := [
  ⟨(some (16)), .move (.tmp 3), none, []⟩, 
  ⟨(some (17)), .bin .plain .add (.tmp 16) (.const (.int .i64 1)), none, []⟩, 
  ⟨(some (3)), .move (.tmp 17), none, []⟩]
def k_ref07_Check_r12 : ACode := (.seq (.seq (.reg k_ref07_Check_r4 false) (.cond (.tmp 15) .skip (.exit 0))) (.seq (.block 1 (.seq (.reg k_ref07_Check_r5 false) (.seq (.seq (.reg k_ref07_Check_r6 false) (.seq (.reg k_ref07_Check_r7 false) (.cond (.tmp 25) (.seq (.reg k_ref07_Check_r8 false) .ret) .skip))) (.seq (.reg k_ref07_Check_r9 false) (.cond (.tmp 42) (.seq (.reg k_ref07_Check_r10 false) .ret) .skip))))) (.reg k_ref07_Check_r11 false)))
def k_ref07_Check_r13 : List AOper := [
  ⟨(some (6)), .move (.const (.int .i64 0)), none, []⟩]
def k_ref07_Check_r14 : List AOper := [
  ⟨(some (43)), .move (.tmp 6), none, []⟩, 
  ⟨(some (44)), .move (.tmp 0), none, []⟩, 
  ⟨(some (45)), .len false (.tmp 44), none, []⟩, 
  ⟨(some (46)), .bin .plain .lss (.tmp 43) (.tmp 45), none, []⟩]
def k_ref07_Check_r15 : List AOper := [
  ⟨(some (50)), .move (.tmp 0), none, []⟩, 
  ⟨(some (51)), .move (.tmp 6), none, []⟩, 
  ⟨(some (52)), .call (.const (.fn (.func 59) [] [])) [.tmp 50, .tmp 51], none, []⟩, 
  ⟨(some (49)), .move (.tmp 52), none, []⟩, 
  ⟨(some (53)), .extract (.tmp 49) 0, none, []⟩, 
  ⟨(some (54)), .extract (.tmp 49) 1, none, []⟩, 
  ⟨(some (7)), .move (.tmp 53), none, []⟩, 
  ⟨(some (8)), .move (.tmp 54), none, []⟩]
def k_ref07_Check_r16 : List AOper := [
  ⟨(some (55)), .move (.tmp 8), none, []⟩, 
  ⟨(some (56)), .not (.tmp 55), none, []⟩]
def k_ref07_Check_r17 : List AOper := [
  ⟨(some (2)), .move (.const (.int .i64 13)), none, []⟩]
def k_ref07_Check_r18 : List AOper := [
  ⟨(some (47)), .move (.tmp 6), none, []⟩, 
  ⟨(some (48)), .bin .plain .add (.tmp 47) (.const (.int .i64 1)), none, []⟩, 
  ⟨(some (6)), .move (.tmp 48), none, []⟩]
def k_ref07_Check_r19 : ACode := (.seq (.seq (.reg k_ref07_Check_r14 false) (.cond (.tmp 46) .skip (.exit 2))) (.seq (.block 3 (.seq (.reg k_ref07_Check_r15 false) (.seq (.reg k_ref07_Check_r16 false) (.cond (.tmp 56) (.seq (.reg k_ref07_Check_r17 false) .ret) .skip)))) (.reg k_ref07_Check_r18 false)))
def k_ref07_Check_r20 : List AOper := [
  ⟨(some (2)), .move (.const (.int .i64 0)), none, []⟩]
def k_ref07_Check : AFun := { params := 1, ntmps := 57, body := (.seq (.reg k_ref07_Check_r0 false) (.seq (.seq (.reg k_ref07_Check_r1 false) (.cond (.tmp 11) (.seq (.reg k_ref07_Check_r2 false) .ret) .skip)) (.seq (.seq (.reg k_ref07_Check_r3 false) (.block 0 (.loop k_ref07_Check_r12))) (.seq (.seq (.reg k_ref07_Check_r13 false) (.block 2 (.loop k_ref07_Check_r19))) (.seq (.reg k_ref07_Check_r20 false) .ret))))), res := [.tmp 2] }
theorem k_ref07_Check_ok : cfun Tryd.prog Tryd.f24 = k_ref07_Check := by kernel_rfl

def k_ref07_Chain_r0 : List AOper := [
  ⟨(some (4)), .move (.const (.nilsl)), none, []⟩]
def k_ref07_Chain_r1 : List AOper := [
  ⟨(some (7)), .move (.tmp 0), none, []⟩, 
  ⟨(some (8)), .call (.const (.fn (.func 24) [] [])) [.tmp 7], none, []⟩, 
  ⟨(some (9)), .bin .plain .neq (.tmp 8) (.const (.int .i64 0)), none, []⟩, 
  ⟨(some (10)), .move (.tmp 9), none, []⟩, 
  ⟨(some (11)), .move (.tmp 1), (some (10, false)), []⟩, 
  ⟨(some (12)), .move (.tmp 0), (some (10, false)), []⟩, 
  ⟨(some (13)), .len false (.tmp 12), (some (10, false)), []⟩, 
  ⟨(some (14)), .bin .plain .sub (.tmp 13) (.const (.int .i64 1)), (some (10, false)), []⟩, 
  ⟨(some (15)), .call (.const (.fn (.func 58) [] [])) [.tmp 11, .const (.int .i64 0), .tmp 14], (some (10, false)), []⟩, 
  ⟨(some (16)), .pick (.tmp 10) (.const (.bool true)) (.tmp 15), none, []⟩]
def k_ref07_Chain_r2 : List AOper := [
  ⟨(some (4)), .move (.const (.nilsl)), none, []⟩]
def k_ref07_Chain_r3 : List AOper := [
  ⟨(some (18)), .move (.tmp 0), none, []⟩, 
  ⟨(some (19)), .move (.tmp 1), none, []⟩, 
  ⟨(some (20)), .call (.const (.fn (.func 59) [] [])) [.tmp 18, .tmp 19], none, []⟩, 
  ⟨(some (17)), .move (.tmp 20), none, []⟩, 
  ⟨(some (21)), .extract (.tmp 17) 0, none, []⟩, 
  ⟨(some (22)), .extract (.tmp 17) 1, none, []⟩, 
  ⟨(some (5)), .move (.tmp 21), none, []⟩, 
  ⟨(some (6)), .move (.tmp 22), none, []⟩]
def k_ref07_Chain_r4 : List AOper := [
  ⟨(some (23)), .move (.tmp 5), none, []⟩, 
  ⟨(some (4)), .move (.tmp 23), none, []⟩]
def k_ref07_Chain : AFun := { params := 2, ntmps := 24, body := (.seq (.reg k_ref07_Chain_r0 false) (.seq (.seq (.reg k_ref07_Chain_r1 false) (.cond (.tmp 16) (.seq (.reg k_ref07_Chain_r2 false) .ret) .skip)) (.seq (.reg k_ref07_Chain_r3 false) (.seq (.reg k_ref07_Chain_r4 false) .ret)))), res := [.tmp 4] }
theorem k_ref07_Chain_ok : cfun Tryd.prog Tryd.f27 = k_ref07_Chain := by kernel_rfl

def k_kit_Showing_r0 : List AOper := [
  ⟨(some (8)), .move (.const (.int .i64 0)), none, []⟩]
def k_kit_Showing_r1 : List AOper := [
  ⟨(some (16)), .move (.tmp 1), none, []⟩, 
  ⟨(some (17)), .move (.tmp 2), none, []⟩, 
  ⟨(some (18)), .call (.const (.fn (.func 27) [] [])) [.tmp 16, .tmp 17], none, []⟩, 
  ⟨(some (9)), .move (.tmp 18), none, []⟩]
def k_kit_Showing_r2 : List AOper := [
  ⟨(some (19)), .move (.tmp 0), none, []⟩, 
  ⟨(some (20)), .call (.const (.fn (.func 19) [] [])) [.tmp 19, .const (.int .i64 3)], none, []⟩, 
  ⟨(some (10)), .move (.tmp 20), none, []⟩]
def k_kit_Showing_r3 : List AOper := [
  ⟨(some (21)), .move (.tmp 9), none, []⟩, 
  ⟨(some (22)), .len false (.tmp 21), none, []⟩, 
  ⟨(some (23)), .bin .plain .sub (.tmp 22) (.const (.int .i64 1)), none, []⟩, 
  ⟨(some (11)), .move (.tmp 23), none, []⟩]
def k_kit_Showing_r4 : List AOper := [
  ⟨(some (24)), .move (.tmp 11), none, []⟩, 
  ⟨(some (25)), .bin .plain .geq (.tmp 24) (.const (.int .i64 0)), none, []⟩]
def k_kit_Showing_r5 : List AOper := [
  ⟨(some (28)), .move (.tmp 1), none, []⟩, 
  ⟨(some (29)), .move (.tmp 9), none, []⟩, 
  ⟨(some (30)), .move (.tmp 11), none, []⟩, 
  ⟨(some (31)), .indexAddr 1 (.tmp 29) (.tmp 30), none, []⟩, 
  ⟨(some (32)), .load none (.tmp 31), none, []⟩, 
  ⟨(some (33)), .indexAddr 7 (.tmp 28) (.tmp 32), none, []⟩, 
  ⟨(some (34)), .load (some (7)) (.tmp 33), none, []⟩, 
  ⟨(some (35)), .move (.tmp 3), none, []⟩, 
  ⟨(some (36)), .call (.const (.fn (.func 65) [] [])) [.tmp 34, .tmp 35], none, []⟩, 
  ⟨(some (12)), .box (.const (.agg [.int .i64 0, .int .i64 0])), none, []⟩, 
  ⟨none, .store 2 (.tmp 12) (.tmp 36), none, []⟩]
def k_kit_Showing_r6 : List AOper := [
  ⟨(some (37)), .fieldAddr 0 (.tmp 12), none, []⟩, 
  ⟨(some (38)), .load none (.tmp 37), none, []⟩, 
  ⟨(some (39)), .fieldAddr 1 (.tmp 12), none, [0, 1]⟩, 
  ⟨(some (40)), .load none (.tmp 39), none, [0, 1]⟩, 
  ⟨(some (41)), .move (.tmp 0), none, [0, 1, 2, 3]⟩, 
  ⟨(some (42)), .load (some (2)) (.tmp 12), none, [0, 1, 2, 3, 4]⟩, 
  ⟨(some (43)), .call (.const (.fn (.func 66) [] [])) [.tmp 41, .tmp 42], none, [0, 1, 2, 3]⟩, 
  ⟨(some (44)), .buildSlice 1 [.tmp 38, .tmp 40, .tmp 43], none, []⟩, 
  ⟨(some (45)), .move (.tmp 10), none, [0, 1, 2, 3, 4, 5, 6, 7]⟩, 
  ⟨(some (46)), .indexAddr 1 (.tmp 44) (.tmp 45), none, []⟩, 
  ⟨(some (47)), .load none (.tmp 46), none, []⟩, 
  ⟨(some (3)), .move (.tmp 47), none, []⟩]
def k_kit_Showing_r6s : List (List AOper) := [
  [
  ⟨(some (37)), .fieldAddr 0 (.tmp 12), none, []⟩, 
  ⟨(some (38)), .load none (.tmp 37), none, []⟩, 
  ⟨(some (39)), .fieldAddr 1 (.tmp 12), none, [0, 1]⟩, 
  ⟨(some (40)), .load none (.tmp 39), none, [0, 1]⟩, 
  ⟨(some (41)), .move (.tmp 0), none, [0, 1, 2, 3]⟩, 
  ⟨(some (42)), .load (some (2)) (.tmp 12), none, [0, 1, 2, 3, 4]⟩, 
  ⟨(some (43)), .call (.const (.fn (.func 66) [] [])) [.tmp 41, .tmp 42], none, [0, 1, 2, 3]⟩, 
  ⟨(some (44)), .buildSlice 1 [.tmp 38, .tmp 40, .tmp 43], none, []⟩, 
  ⟨(some (45)), .move (.tmp 10), none, [0, 1, 2, 3, 4, 5, 6, 7]⟩], 
  [
  ⟨(some (46)), .indexAddr 1 (.tmp 44) (.tmp 45), none, []⟩], 
  [
  ⟨(some (47)), .load none (.tmp 46), none, []⟩], 
  [
  ⟨(some (3)), .move (.tmp 47), none, []⟩]]
theorem k_kit_Showing_r6_sg : segs k_kit_Showing_r6 = k_kit_Showing_r6s := by kernel_rfl
theorem k_kit_Showing_r6_st : statOK k_kit_Showing_r6 = true := by kernel_rfl
def k_kit_Showing_r7 : List AOper := [
  ⟨(some (26)), .move (.tmp 11), none, []⟩, 
  ⟨(some (27)), .bin .plain .sub (.tmp 26) (.const (.int .i64 1)), none, []⟩, 
  ⟨(some (11)), .move (.tmp 27), none, []⟩]
def k_kit_Showing_r8 : ACode := (.seq (.seq (.reg k_kit_Showing_r4 false) (.cond (.tmp 25) .skip (.exit 0))) (.seq (.block 1 (.seq (.reg k_kit_Showing_r5 false) (.reg k_kit_Showing_r6 true))) (.reg k_kit_Showing_r7 false)))
def k_kit_Showing_r9 : List AOper := [
  ⟨(some (48)), .move (.tmp 1), none, []⟩, 
  ⟨(some (49)), .move (.tmp 2), none, []⟩, 
  ⟨(some (50)), .indexAddr 7 (.tmp 48) (.tmp 49), none, []⟩, 
  ⟨(some (51)), .fieldAddr 4 (.tmp 50), none, []⟩, 
  ⟨(some (52)), .load none (.tmp 51), none, []⟩, 
  ⟨(some (13)), .move (.tmp 52), none, []⟩]
def k_kit_Showing_r10 : List AOper := [
  ⟨(some (53)), .move (.tmp 3), none, []⟩, 
  ⟨(some (54)), .move (.tmp 13), none, []⟩, 
  ⟨(some (55)), .call (.const (.fn (.func 67) [] [])) [.tmp 53, .tmp 54], none, []⟩, 
  ⟨(some (56)), .move (.tmp 13), none, []⟩, 
  ⟨(some (57)), .bin .plain .mul (.tmp 55) (.tmp 56), none, []⟩, 
  ⟨(some (14)), .move (.tmp 57), none, []⟩]
def k_kit_Showing_r11 : List AOper := [
  ⟨(some (58)), .move (.tmp 3), none, []⟩, 
  ⟨(some (59)), .move (.tmp 14), none, []⟩, 
  ⟨(some (60)), .bin .plain .sub (.tmp 58) (.tmp 59), none, []⟩, 
  ⟨(some (61)), .bin .plain .mul (.const (.int .i64 2)) (.tmp 60), none, []⟩, 
  ⟨(some (15)), .move (.tmp 61), none, []⟩]
def k_kit_Showing_r12 : List AOper := [
  ⟨(some (62)), .move (.tmp 15), none, []⟩, 
  ⟨(some (63)), .move (.tmp 13), none, []⟩, 
  ⟨(some (64)), .bin .plain .gtr (.tmp 62) (.tmp 63), none, []⟩, 
  ⟨(some (65)), .move (.tmp 64), none, []⟩, 
  ⟨(some (66)), .move (.tmp 15), (some (65, false)), []⟩, 
  ⟨(some (67)), .move (.tmp 13), (some (65, false)), []⟩, 
  ⟨(some (68)), .bin .plain .eql (.tmp 66) (.tmp 67), (some (65, false)), []⟩, 
  ⟨(some (69)), .move (.tmp 68), (some (65, false)), []⟩, 
  ⟨(some (70)), .move (.tmp 0), (some (69, true)), []⟩, 
  ⟨(some (71)), .call (.const (.fn (.func 18) [] [])) [.tmp 70, .const (.int .i64 2)], (some (69, true)), []⟩, 
  ⟨(some (72)), .pick (.tmp 69) (.tmp 71) (.const (.bool false)), (some (65, false)), []⟩, 
  ⟨(some (73)), .pick (.tmp 65) (.const (.bool true)) (.tmp 72), none, []⟩]
def k_kit_Showing_r13 : List AOper := [
  ⟨(some (74)), .move (.tmp 14), none, []⟩, 
  ⟨(some (75)), .move (.tmp 13), none, []⟩, 
  ⟨(some (76)), .bin .plain .add (.tmp 74) (.tmp 75), none, []⟩, 
  ⟨(some (8)), .move (.tmp 76), none, []⟩]
def k_kit_Showing_r14 : List AOper := [
  ⟨(some (77)), .move (.tmp 14), none, []⟩, 
  ⟨(some (8)), .move (.tmp 77), none, []⟩]
def k_kit_Showing : AFun := { params := 4, ntmps := 78, body := (.seq (.reg k_kit_Showing_r0 false) (.seq (.reg k_kit_Showing_r1 false) (.seq (.reg k_kit_Showing_r2 false) (.seq (.seq (.reg k_kit_Showing_r3 false) (.block 0 (.loop k_kit_Showing_r8))) (.seq (.reg k_kit_Showing_r9 false) (.seq (.reg k_kit_Showing_r10 false) (.seq (.seq (.reg k_kit_Showing_r11 false) (.seq (.reg k_kit_Showing_r12 false) (.cond (.tmp 73) (.seq (.reg k_kit_Showing_r13 false) .ret) .skip))) (.seq (.reg k_kit_Showing_r14 false) .ret)))))))), res := [.tmp 8] }
theorem k_kit_Showing_ok : cfun Tryd.prog Tryd.f31 = k_kit_Showing := by kernel_rfl

def k_gauge_True_r0 : List AOper := [
  ⟨(some (6)), .box (.const (.agg [.int .i64 0, .int .i64 0])), none, []⟩, 
  ⟨(some (7)), .move (.const (.int .i64 0)), none, []⟩]
def k_gauge_True_r1 : List AOper := [
  ⟨(some (9)), .move (.tmp 0), none, []⟩, 
  ⟨(some (10)), .move (.tmp 1), none, []⟩, 
  ⟨(some (11)), .call (.const (.fn (.func 60) [] [])) [.tmp 9, .tmp 10], none, []⟩, 
  ⟨(some (8)), .move (.tmp 11), none, []⟩]
def k_gauge_True_r2 : List AOper := [
  ⟨(some (12)), .move (.tmp 8), none, []⟩, 
  ⟨(some (13)), .bin .plain .neq (.tmp 12) (.const (.int .i64 0)), none, []⟩]
def k_gauge_True_r3 : List AOper := [
  ⟨(some (14)), .build [.int .i64 0, .int .i64 0] [], none, []⟩, 
  ⟨(some (15)), .move (.tmp 8), none, []⟩, 
  ⟨none, .store 2 (.tmp 6) (.tmp 14), none, []⟩, 
  ⟨(some (7)), .move (.tmp 15), none, []⟩]
def k_gauge_True_r4 : List AOper := [
  ⟨(some (16)), .move (.tmp 2), none, []⟩, 
  ⟨(some (17)), .load (some (2)) (.const (.rptr (.agg [.int .i64 (-1000000000), .int .i64 1000000000]) 0)), none, []⟩, 
  ⟨(some (18)), .call (.const (.fn (.func 63) [] [])) [.tmp 16, .tmp 17], none, []⟩, 
  ⟨(some (19)), .not (.tmp 18), none, []⟩]
def k_gauge_True_r5 : List AOper := [
  ⟨(some (20)), .build [.int .i64 0, .int .i64 0] [], none, []⟩, 
  ⟨none, .store 2 (.tmp 6) (.tmp 20), none, []⟩, 
  ⟨(some (7)), .move (.const (.int .i64 2)), none, []⟩]
def k_gauge_True_r6 : List AOper := [
  ⟨(some (21)), .move (.tmp 2), none, []⟩, 
  ⟨(some (22)), .move (.tmp 0), none, []⟩, 
  ⟨(some (23)), .move (.tmp 1), none, []⟩, 
  ⟨(some (24)), .indexAddr 7 (.tmp 22) (.tmp 23), none, []⟩, 
  ⟨(some (25)), .fieldAddr 4 (.tmp 24), none, []⟩, 
  ⟨(some (26)), .load none (.tmp 25), none, []⟩, 
  ⟨(some (27)), .bin .plain .rem (.tmp 21) (.tmp 26), none, []⟩, 
  ⟨(some (28)), .bin .plain .neq (.tmp 27) (.const (.int .i64 0)), none, []⟩]
def k_gauge_True_r7 : List AOper := [
  ⟨(some (29)), .build [.int .i64 0, .int .i64 0] [], none, []⟩, 
  ⟨none, .store 2 (.tmp 6) (.tmp 29), none, []⟩, 
  ⟨(some (7)), .move (.const (.int .i64 3)), none, []⟩]
def k_gauge_True_r8 : List AOper := [
  ⟨(some (30)), .move (.tmp 0), none, []⟩, 
  ⟨(some (31)), .move (.tmp 1), none, []⟩, 
  ⟨(some (32)), .move (.tmp 2), none, []⟩, 
  ⟨(some (33)), .call (.const (.fn (.func 68) [] [])) [.tmp 30, .tmp 31, .tmp 32], none, []⟩, 
  ⟨(some (34)), .extract (.tmp 33) 0, none, []⟩, 
  ⟨(some (35)), .extract (.tmp 33) 1, none, []⟩, 
  ⟨none, .store 2 (.tmp 6) (.tmp 34), none, []⟩, 
  ⟨(some (7)), .move (.tmp 35), none, []⟩]
def k_gauge_True : AFun := { params := 3, ntmps := 36, body := (.seq (.reg k_gauge_True_r0 false) (.seq (.seq (.reg k_gauge_True_r1 false) (.seq (.reg k_gauge_True_r2 false) (.cond (.tmp 13) (.seq (.reg k_gauge_True_r3 false) .ret) .skip))) (.seq (.seq (.reg k_gauge_True_r4 false) (.cond (.tmp 19) (.seq (.reg k_gauge_True_r5 false) .ret) .skip)) (.seq (.seq (.reg k_gauge_True_r6 false) (.cond (.tmp 28) (.seq (.reg k_gauge_True_r7 false) .ret) .skip)) (.seq (.reg k_gauge_True_r8 false) .ret))))), res := [.cell 6 (some ((some (2)))), .tmp 7] }
theorem k_gauge_True_ok : cfun Tryd.prog Tryd.f32 = k_gauge_True := by kernel_rfl

def k_gauge_Verdict_r0 : List AOper := [
  ⟨(some (2)), .box (.tmp 0), none, []⟩, 
  ⟨(some (3)), .box (.tmp 1), none, []⟩, 
  ⟨(some (4)), .move (.const (.int .i64 0)), none, []⟩]
def k_gauge_Verdict_r1 : List AOper := [
  ⟨(some (6)), .load (some (2)) (.tmp 2), none, []⟩, 
  ⟨(some (7)), .call (.const (.fn (.func 70) [] [])) [.tmp 6], none, []⟩, 
  ⟨(some (8)), .move (.tmp 7), none, []⟩, 
  ⟨(some (9)), .load (some (2)) (.tmp 3), (some (8, false)), []⟩, 
  ⟨(some (10)), .call (.const (.fn (.func 70) [] [])) [.tmp 9], (some (8, false)), []⟩, 
  ⟨(some (11)), .pick (.tmp 8) (.const (.bool true)) (.tmp 10), none, []⟩, 
  ⟨(some (5)), .move (.tmp 11), none, []⟩]
def k_gauge_Verdict_r2 : List AOper := [
  ⟨(some (4)), .move (.const (.int .i64 0)), none, []⟩]
def k_gauge_Verdict_r3 : List AOper := [
  ⟨(some (13)), .fieldAddr 0 (.tmp 3), none, []⟩, 
  ⟨(some (14)), .load none (.tmp 13), none, []⟩, 
  ⟨(some (15)), .fieldAddr 0 (.tmp 2), none, []⟩, 
  ⟨(some (16)), .load none (.tmp 15), none, []⟩, 
  ⟨(some (17)), .bin .plain .leq (.tmp 14) (.tmp 16), none, []⟩, 
  ⟨(some (18)), .move (.tmp 17), none, []⟩, 
  ⟨(some (19)), .fieldAddr 1 (.tmp 2), (some (18, true)), []⟩, 
  ⟨(some (20)), .load none (.tmp 19), (some (18, true)), []⟩, 
  ⟨(some (21)), .fieldAddr 1 (.tmp 3), (some (18, true)), []⟩, 
  ⟨(some (22)), .load none (.tmp 21), (some (18, true)), []⟩, 
  ⟨(some (23)), .bin .plain .leq (.tmp 20) (.tmp 22), (some (18, true)), []⟩, 
  ⟨(some (24)), .pick (.tmp 18) (.tmp 23) (.const (.bool false)), none, []⟩, 
  ⟨(some (12)), .move (.tmp 24), none, []⟩]
def k_gauge_Verdict_r4 : List AOper := [
  ⟨(some (4)), .move (.const (.int .i64 1)), none, []⟩]
def k_gauge_Verdict_r5 : List AOper := [
  ⟨(some (26)), .load (some (2)) (.tmp 2), none, []⟩, 
  ⟨(some (27)), .load (some (2)) (.tmp 3), none, []⟩, 
  ⟨(some (28)), .call (.const (.fn (.func 71) [] [])) [.tmp 26, .tmp 27], none, []⟩, 
  ⟨(some (29)), .call (.const (.fn (.func 70) [] [])) [.tmp 28], none, []⟩, 
  ⟨(some (25)), .move (.tmp 29), none, []⟩]
def k_gauge_Verdict_r6 : List AOper := [
  ⟨(some (4)), .move (.const (.int .i64 2)), none, []⟩]
def k_gauge_Verdict_r7 : List AOper := [
  ⟨(some (4)), .move (.const (.int .i64 3)), none, []⟩]
def k_gauge_Verdict : AFun := { params := 2, ntmps := 30, body := (.seq (.reg k_gauge_Verdict_r0 false) (.seq (.block 0 (.seq (.reg k_gauge_Verdict_r1 false) (.cond (.tmp 5) (.seq (.reg k_gauge_Verdict_r2 false) .ret) (.seq (.reg k_gauge_Verdict_r3 false) (.cond (.tmp 12) (.seq (.reg k_gauge_Verdict_r4 false) .ret) (.seq (.reg k_gauge_Verdict_r5 false) (.cond (.tmp 25) (.seq (.reg k_gauge_Verdict_r6 false) .ret) .skip))))))) (.seq (.reg k_gauge_Verdict_r7 false) .ret))), res := [.tmp 4] }
theorem k_gauge_Verdict_ok : cfun Tryd.prog Tryd.f34 = k_gauge_Verdict := by kernel_rfl

def k_kit_Dice_Range_r0 : List AOper := [
  ⟨(some (6)), .box (.const (.agg [.int .i64 0, .int .i64 0])), none, []⟩]
def k_kit_Dice_Range_r1 : List AOper := [
  ⟨(some (9)), .move (.tmp 0), none, []⟩, 
  ⟨(some (10)), .move (.tmp 1), none, []⟩, 
  ⟨(some (11)), .move (.tmp 2), none, []⟩, 
  ⟨(some (12)), .call (.const (.fn (.func 20) [] [])) [.tmp 9, .tmp 10, .tmp 11], none, []⟩, 
  ⟨(some (13)), .move (.tmp 0), none, []⟩, 
  ⟨(some (14)), .move (.tmp 1), none, []⟩, 
  ⟨(some (15)), .move (.tmp 2), none, []⟩, 
  ⟨(some (16)), .call (.const (.fn (.func 20) [] [])) [.tmp 13, .tmp 14, .tmp 15], none, []⟩, 
  ⟨(some (7)), .move (.tmp 12), none, []⟩, 
  ⟨(some (8)), .move (.tmp 16), none, []⟩]
def k_kit_Dice_Range_r2 : List AOper := [
  ⟨(some (17)), .move (.tmp 7), none, []⟩, 
  ⟨(some (18)), .move (.tmp 8), none, []⟩, 
  ⟨(some (19)), .minmax false [.tmp 17, .tmp 18], none, []⟩, 
  ⟨(some (20)), .move (.tmp 7), none, []⟩, 
  ⟨(some (21)), .move (.tmp 8), none, []⟩, 
  ⟨(some (22)), .minmax true [.tmp 20, .tmp 21], none, []⟩, 
  ⟨(some (23)), .build [.int .i64 0, .int .i64 0] [(0, 1, .tmp 19), (1, 1, .tmp 22)], none, []⟩, 
  ⟨none, .store 2 (.tmp 6) (.tmp 23), none, []⟩]
def k_kit_Dice_Range : AFun := { params := 3, ntmps := 24, body := (.seq (.reg k_kit_Dice_Range_r0 false) (.seq (.reg k_kit_Dice_Range_r1 false) (.seq (.reg k_kit_Dice_Range_r2 false) .ret))), res := [.cell 6 (some ((some (2))))] }
theorem k_kit_Dice_Range_ok : cfun Tryd.prog Tryd.f41 = k_kit_Dice_Range := by kernel_rfl

def k_gauge_Keeps_r0 : List AOper := [
  ⟨(some (3)), .box (.tmp 0), none, []⟩, 
  ⟨(some (4)), .box (.tmp 1), none, []⟩, 
  ⟨(some (5)), .box (.tmp 2), none, []⟩, 
  ⟨(some (6)), .box (.const (.agg [.int .i64 0, .int .i64 0])), none, []⟩, 
  ⟨(some (7)), .move (.const (.int .i64 0)), none, []⟩]
def k_gauge_Keeps_r1 : List AOper := [
  ⟨(some (11)), .load (some (2)) (.tmp 3), none, []⟩, 
  ⟨(some (12)), .load (some (2)) (.tmp 4), none, []⟩, 
  ⟨(some (13)), .call (.const (.fn (.func 82) [] [])) [.tmp 11, .tmp 12], none, []⟩, 
  ⟨(some (8)), .move (.tmp 13), none, []⟩]
def k_gauge_Keeps_r2 : List AOper := [
  ⟨(some (14)), .move (.tmp 8), none, []⟩, 
  ⟨(some (15)), .bin .plain .neq (.tmp 14) (.const (.int .i64 0)), none, []⟩]
def k_gauge_Keeps_r3 : List AOper := [
  ⟨(some (16)), .build [.int .i64 0, .int .i64 0] [], none, []⟩, 
  ⟨(some (17)), .move (.tmp 8), none, []⟩, 
  ⟨none, .store 2 (.tmp 6) (.tmp 16), none, []⟩, 
  ⟨(some (7)), .move (.tmp 17), none, []⟩]
def k_gauge_Keeps_r4 : List AOper := [
  ⟨(some (18)), .load (some (2)) (.tmp 5), none, []⟩, 
  ⟨(some (19)), .call (.const (.fn (.func 87) [] [])) [.tmp 18, .const (.int .i64 (-1000000000)), .const (.int .i64 1000000000)], none, []⟩, 
  ⟨(some (9)), .move (.tmp 19), none, []⟩]
def k_gauge_Keeps_r5 : List AOper := [
  ⟨(some (20)), .move (.tmp 9), none, []⟩, 
  ⟨(some (21)), .bin .plain .neq (.tmp 20) (.const (.int .i64 0)), none, []⟩]
def k_gauge_Keeps_r6 : List AOper := [
  ⟨(some (22)), .build [.int .i64 0, .int .i64 0] [], none, []⟩, 
  ⟨(some (23)), .move (.tmp 9), none, []⟩, 
  ⟨none, .store 2 (.tmp 6) (.tmp 22), none, []⟩, 
  ⟨(some (7)), .move (.tmp 23), none, []⟩]
def k_gauge_Keeps_r7 : List AOper := [
  ⟨(some (24)), .makeFunc (.func 88) [] [.tmp 3, .tmp 4, .tmp 5], none, []⟩, 
  ⟨(some (10)), .box (.const (.nilfn)), none, []⟩, 
  ⟨none, .store 1 (.tmp 10) (.tmp 24), none, []⟩]
def k_gauge_Keeps_r8 : List AOper := [
  ⟨(some (25)), .makeFunc (.func 90) [] [.tmp 10], none, []⟩, 
  ⟨(some (26)), .call (.const (.fn (.func 89) [] [])) [.tmp 25], none, []⟩, 
  ⟨(some (27)), .makeFunc (.func 91) [] [.tmp 10], none, []⟩, 
  ⟨(some (28)), .call (.const (.fn (.func 89) [] [])) [.tmp 27], none, []⟩, 
  ⟨(some (29)), .build [.int .i64 0, .int .i64 0] [(0, 1, .tmp 26), (1, 1, .tmp 28)], none, []⟩, 
  ⟨none, .store 2 (.tmp 6) (.tmp 29), none, []⟩, 
  ⟨(some (7)), .move (.const (.int .i64 0)), none, []⟩]
def k_gauge_Keeps : AFun := { params := 3, ntmps := 30, body := (.seq (.reg k_gauge_Keeps_r0 false) (.seq (.seq (.reg k_gauge_Keeps_r1 false) (.seq (.reg k_gauge_Keeps_r2 false) (.cond (.tmp 15) (.seq (.reg k_gauge_Keeps_r3 false) .ret) .skip))) (.seq (.seq (.reg k_gauge_Keeps_r4 false) (.seq (.reg k_gauge_Keeps_r5 false) (.cond (.tmp 21) (.seq (.reg k_gauge_Keeps_r6 false) .ret) .skip))) (.seq (.reg k_gauge_Keeps_r7 false) (.seq (.reg k_gauge_Keeps_r8 false) .ret))))), res := [.cell 6 (some ((some (2)))), .tmp 7] }
theorem k_gauge_Keeps_ok : cfun Tryd.prog Tryd.f46 = k_gauge_Keeps := by kernel_rfl

def k_law07_span_r0 : List AOper := [
  ⟨(some (4)), .box (.const (.agg [.int .i64 0, .int .i64 0])), none, []⟩]
def k_law07_span_r1 : List AOper := [
  ⟨(some (5)), .move (.tmp 0), none, []⟩, 
  ⟨(some (6)), .move (.tmp 1), none, []⟩, 
  ⟨(some (7)), .build [.int .i64 0, .int .i64 0] [(0, 1, .tmp 5), (1, 1, .tmp 6)], none, []⟩, 
  ⟨none, .store 2 (.tmp 4) (.tmp 7), none, []⟩]
def k_law07_span : AFun := { params := 2, ntmps := 8, body := (.seq (.reg k_law07_span_r0 false) (.seq (.reg k_law07_span_r1 false) .ret)), res := [.cell 4 (some ((some (2))))] }
theorem k_law07_span_ok : cfun Tryd.prog Tryd.f50 = k_law07_span := by kernel_rfl

def k_law07_bench_r0 : List AOper := [
  ⟨(some (0)), .move (.const (.nilsl)), none, []⟩]
def k_law07_bench_r1 : List AOper := [
  ⟨(some (1)), .call (.const (.fn (.func 50) [] [])) [.const (.int .i64 1000000), .const (.int .i64 1000000)], none, []⟩, 
  ⟨(some (2)), .build [.int .i64 0, .int .i64 0, .int .i64 0, .int .i64 0, .int .i64 0, .int .i64 0, .int .i64 0] [(0, 2, .tmp 1), (4, 1, .const (.int .i64 10)), (5, 1, .const (.int .i64 (-1))), (6, 1, .const (.int .i64 100))], none, []⟩, 
  ⟨(some (3)), .call (.const (.fn (.func 50) [] [])) [.const (.int .i64 990000), .const (.int .i64 1010000)], none, []⟩, 
  ⟨(some (4)), .call (.const (.fn (.func 50) [] [])) [.const (.int .i64 (-5)), .const (.int .i64 5)], none, []⟩, 
  ⟨(some (5)), .build [.int .i64 0, .int .i64 0, .int .i64 0, .int .i64 0, .int .i64 0, .int .i64 0, .int .i64 0] [(0, 2, .tmp 3), (2, 2, .tmp 4), (4, 1, .const (.int .i64 1)), (6, 1, .const (.int .i64 50))], none, []⟩, 
  ⟨(some (6)), .buildSlice 7 [.tmp 2, .tmp 5], none, []⟩, 
  ⟨(some (0)), .move (.tmp 6), none, []⟩]
def k_law07_bench : AFun := { params := 0, ntmps := 7, body := (.seq (.reg k_law07_bench_r0 false) (.seq (.reg k_law07_bench_r1 false) .ret)), res := [.tmp 0] }
theorem k_law07_bench_ok : cfun Tryd.prog Tryd.f52 = k_law07_bench := by kernel_rfl

def k_gauge_Plan_r0 : List AOper := [
  ⟨(some (10)), .box (.const (.agg [.int .i64 0, .int .i64 0])), none, []⟩, 
  ⟨(some (11)), .move (.const (.int .i64 0)), none, []⟩]
def k_gauge_Plan_r1 : List AOper := [
  ⟨(some (17)), .move (.tmp 0), none, []⟩, 
  ⟨(some (18)), .call (.const (.fn (.func 83) [] [])) [.tmp 17, .const (.int .i64 1), .const (.int .i64 50)], none, []⟩, 
  ⟨(some (19)), .not (.tmp 18), none, []⟩, 
  ⟨(some (20)), .move (.tmp 19), none, []⟩, 
  ⟨(some (21)), .move (.tmp 1), (some (20, false)), []⟩, 
  ⟨(some (22)), .move (.tmp 0), (some (20, false)), []⟩, 
  ⟨(some (23)), .call (.const (.fn (.func 83) [] [])) [.tmp 21, .const (.int .i64 0), .tmp 22], (some (20, false)), []⟩, 
  ⟨(some (24)), .not (.tmp 23), (some (20, false)), []⟩, 
  ⟨(some (25)), .pick (.tmp 20) (.const (.bool true)) (.tmp 24), none, []⟩, 
  ⟨(some (26)), .move (.tmp 25), none, []⟩, 
  ⟨(some (27)), .move (.tmp 2), (some (26, false)), []⟩, 
  ⟨(some (28)), .move (.tmp 1), (some (26, false)), []⟩, 
  ⟨(some (29)), .bin .plain .add (.tmp 28) (.const (.int .i64 1)), (some (26, false)), []⟩, 
  ⟨(some (30)), .move (.tmp 0), (some (26, false)), []⟩, 
  ⟨(some (31)), .call (.const (.fn (.func 83) [] [])) [.tmp 27, .tmp 29, .tmp 30], (some (26, false)), []⟩, 
  ⟨(some (32)), .not (.tmp 31), (some (26, false)), []⟩, 
  ⟨(some (33)), .pick (.tmp 26) (.const (.bool true)) (.tmp 32), none, []⟩]
def k_gauge_Plan_r2 : List AOper := [
  ⟨(some (34)), .build [.int .i64 0, .int .i64 0] [], none, []⟩, 
  ⟨none, .store 2 (.tmp 10) (.tmp 34), none, []⟩, 
  ⟨(some (11)), .move (.const (.int .i64 2)), none, []⟩]
def k_gauge_Plan_r3 : List AOper := [
  ⟨(some (35)), .move (.tmp 3), none, []⟩, 
  ⟨(some (36)), .call (.const (.fn (.func 83) [] [])) [.tmp 35, .const (.int .i64 1), .const (.int .i64 10000)], none, []⟩, 
  ⟨(some (37)), .not (.tmp 36), none, []⟩, 
  ⟨(some (38)), .move (.tmp 37), none, []⟩, 
  ⟨(some (39)), .move (.tmp 4), (some (38, false)), []⟩, 
  ⟨(some (40)), .call (.const (.fn (.func 83) [] [])) [.tmp 39, .const (.int .i64 1), .const (.int .i64 10000)], (some (38, false)), []⟩, 
  ⟨(some (41)), .not (.tmp 40), (some (38, false)), []⟩, 
  ⟨(some (42)), .pick (.tmp 38) (.const (.bool true)) (.tmp 41), none, []⟩]
def k_gauge_Plan_r4 : List AOper := [
  ⟨(some (43)), .build [.int .i64 0, .int .i64 0] [], none, []⟩, 
  ⟨none, .store 2 (.tmp 10) (.tmp 43), none, []⟩, 
  ⟨(some (11)), .move (.const (.int .i64 2)), none, []⟩]
def k_gauge_Plan_r5 : List AOper := [
  ⟨(some (44)), .move (.tmp 0), none, []⟩, 
  ⟨(some (45)), .bin .plain .add (.tmp 44) (.const (.int .i64 1)), none, []⟩, 
  ⟨(some (46)), .move (.const (.int .i64 0)), none, []⟩]
def k_gauge_Plan_r6 : List AOper := [
  ⟨(some (47)), .bin .plain .lss (.tmp 46) (.tmp 45), none, []⟩]
def k_gauge_Plan_r7 : List AOper := [
  ⟨(some (48)), .move (.tmp 46), none, []⟩, 
  ⟨(some (12)), .move (.tmp 48), none, []⟩]
def k_gauge_Plan_r8 : List AOper := [
  ⟨(some (49)), .move (.tmp 0), none, []⟩, 
  ⟨(some (50)), .move (.tmp 12), none, []⟩, 
  ⟨(some (51)), .call (.const (.fn (.func 94) [] [])) [.tmp 49, .tmp 50], none, []⟩, 
  ⟨(some (13)), .move (.tmp 51), none, []⟩]
def k_gauge_Plan_r9 : List AOper := [
  ⟨(some (52)), .move (.tmp 13), none, []⟩, 
  ⟨(some (14)), .move (.tmp 52), none, []⟩, 
  ⟨(some (15)), .move (.const (.int .i64 0)), none, []⟩]
def k_gauge_Plan_r10 : List AOper := [
  ⟨(some (53)), .move (.tmp 12), none, []⟩, 
  ⟨(some (54)), .bin .plain .add (.tmp 53) (.const (.int .i64 1)), none, []⟩, 
  ⟨(some (55)), .move (.const (.int .i64 0)), none, []⟩]
def k_gauge_Plan_r11 : List AOper := [
  ⟨(some (56)), .bin .plain .lss (.tmp 55) (.tmp 54), none, []⟩]
def k_gauge_Plan_r12 : List AOper := [
  ⟨(some (57)), .move (.tmp 55), none, []⟩, 
  ⟨(some (16)), .move (.tmp 57), none, []⟩]
def k_gauge_Plan_r13 : List AOper := [
  ⟨(some (58)), .move (.tmp 14), none, []⟩, 
  ⟨(some (59)), .move (.tmp 0), none, []⟩, 
  ⟨(some (60)), .move (.tmp 1), none, []⟩, 
  ⟨(some (61)), .move (.tmp 12), none, []⟩, 
  ⟨(some (62)), .move (.tmp 16), none, []⟩, 
  ⟨(some (63)), .call (.const (.fn (.func 95) [] [])) [.tmp 59, .tmp 60, .tmp 61, .tmp 62], none, []⟩, 
  ⟨(some (64)), .bin .plain .sub (.tmp 58) (.tmp 63), none, []⟩, 
  ⟨(some (14)), .move (.tmp 64), none, []⟩]
def k_gauge_Plan_r14 : List AOper := [
  ⟨(some (65)), .move (.tmp 15), none, []⟩, 
  ⟨(some (66)), .move (.tmp 0), none, []⟩, 
  ⟨(some (67)), .move (.tmp 2), none, []⟩, 
  ⟨(some (68)), .move (.tmp 12), none, []⟩, 
  ⟨(some (69)), .move (.tmp 16), none, []⟩, 
  ⟨(some (70)), .call (.const (.fn (.func 95) [] [])) [.tmp 66, .tmp 67, .tmp 68, .tmp 69], none, []⟩, 
  ⟨(some (71)), .bin .plain .add (.tmp 65) (.tmp 70), none, []⟩, 
  ⟨(some (15)), .move (.tmp 71), none, []⟩]
def k_gauge_Plan_r15 : List AOper := [
  ⟨(some (72)), .move (.tmp 14), none, []⟩, 
  ⟨(some (73)), .move (.tmp 3), none, []⟩, 
  ⟨(some (74)), .bin .plain .mul (.tmp 72) (.tmp 73), none, []⟩, 
  ⟨(some (75)), .move (.tmp 13), none, []⟩, 
  ⟨(some (76)), .bin .plain .leq (.tmp 74) (.tmp 75), none, []⟩, 
  ⟨(some (77)), .move (.tmp 76), none, []⟩, 
  ⟨(some (78)), .move (.tmp 15), (some (77, true)), []⟩, 
  ⟨(some (79)), .move (.tmp 4), (some (77, true)), []⟩, 
  ⟨(some (80)), .bin .plain .mul (.tmp 78) (.tmp 79), (some (77, true)), []⟩, 
  ⟨(some (81)), .move (.tmp 13), (some (77, true)), []⟩, 
  ⟨(some (82)), .bin .plain .leq (.tmp 80) (.tmp 81), (some (77, true)), []⟩, 
  ⟨(some (83)), .pick (.tmp 77) (.tmp 82) (.const (.bool false)), none, []⟩]
def k_gauge_Plan_r16 : List AOper := [
  ⟨(some (84)), .move (.tmp 12), none, []⟩, 
  ⟨(some (85)), .move (.tmp 16), none, []⟩, 
  ⟨(some (86)), .build [.int .i64 0, .int .i64 0] [(0, 1, .tmp 84), (1, 1, .tmp 85)], none, []⟩, 
  ⟨none, .store 2 (.tmp 10) (.tmp 86), none, []⟩, 
  ⟨(some (11)), .move (.const (.int .i64 0)), none, []⟩]
def k_gauge_Plan_r17 : List AOper := [
  ⟨(some (87)), .bin .plain .add (.tmp 55) (.const (.int .i64 1)), none, []⟩, 
  ⟨(some (55)), .move (.tmp 87), none, []⟩]
def k_gauge_Plan_r18 : ACode := (.seq (.reg k_gauge_Plan_r11 false) (.seq (.cond (.tmp 56) .skip (.exit 2)) (.seq (.block 3 (.seq (.reg k_gauge_Plan_r12 false) (.seq (.reg k_gauge_Plan_r13 false) (.seq (.reg k_gauge_Plan_r14 false) (.seq (.reg k_gauge_Plan_r15 false) (.cond (.tmp 83) (.seq (.reg k_gauge_Plan_r16 false) .ret) .skip)))))) (.reg k_gauge_Plan_r17 false))))
def k_gauge_Plan_r19 : List AOper := [
  ⟨(some (88)), .bin .plain .add (.tmp 46) (.const (.int .i64 1)), none, []⟩, 
  ⟨(some (46)), .move (.tmp 88), none, []⟩]
def k_gauge_Plan_r20 : ACode := (.seq (.reg k_gauge_Plan_r6 false) (.seq (.cond (.tmp 47) .skip (.exit 0)) (.seq (.block 1 (.seq (.reg k_gauge_Plan_r7 false) (.seq (.reg k_gauge_Plan_r8 false) (.seq (.reg k_gauge_Plan_r9 false) (.seq (.reg k_gauge_Plan_r10 false) (.block 2 (.loop k_gauge_Plan_r18))))))) (.reg k_gauge_Plan_r19 false))))
def k_gauge_Plan_r21 : List AOper := [
  ⟨(some (89)), .build [.int .i64 0, .int .i64 0] [], none, []⟩, 
  ⟨none, .store 2 (.tmp 10) (.tmp 89), none, []⟩, 
  ⟨(some (11)), .move (.const (.int .i64 7)), none, []⟩]
def k_gauge_Plan : AFun := { params := 5, ntmps := 90, body := (.seq (.reg k_gauge_Plan_r0 false) (.seq (.seq (.reg k_gauge_Plan_r1 false) (.cond (.tmp 33) (.seq (.reg k_gauge_Plan_r2 false) .ret) .skip)) (.seq (.seq (.reg k_gauge_Plan_r3 false) (.cond (.tmp 42) (.seq (.reg k_gauge_Plan_r4 false) .ret) .skip)) (.seq (.seq (.reg k_gauge_Plan_r5 false) (.block 0 (.loop k_gauge_Plan_r20))) (.seq (.reg k_gauge_Plan_r21 false) .ret))))), res := [.cell 10 (some ((some (2)))), .tmp 11] }
theorem k_gauge_Plan_ok : cfun Tryd.prog Tryd.f53 = k_gauge_Plan := by kernel_rfl

def k_kit_Dice_next_r0 : List AOper := [
  ⟨(some (2)), .move (.const (.int .u64 0)), none, []⟩]
def k_kit_Dice_next_r1 : List AOper := [
  ⟨(some (4)), .move (.tmp 0), none, []⟩, 
  ⟨(some (5)), .move (.tmp 0), none, []⟩, 
  ⟨(some (6)), .nilCheck (.tmp 5), none, []⟩, 
  ⟨(some (7)), .fieldAddr 0 (.tmp 6), none, []⟩, 
  ⟨(some (8)), .load none (.tmp 7), none, []⟩, 
  ⟨(some (9)), .bin .plain .add (.tmp 8) (.const (.int .u64 11400714819323198485)), none, []⟩, 
  ⟨(some (10)), .nilCheck (.tmp 4), none, []⟩, 
  ⟨(some (11)), .fieldAddr 0 (.tmp 10), none, []⟩, 
  ⟨none, .store 1 (.tmp 11) (.tmp 9), none, []⟩]
def k_kit_Dice_next_r2 : List AOper := [
  ⟨(some (12)), .move (.tmp 0), none, []⟩, 
  ⟨(some (13)), .nilCheck (.tmp 12), none, []⟩, 
  ⟨(some (14)), .fieldAddr 0 (.tmp 13), none, []⟩, 
  ⟨(some (15)), .load none (.tmp 14), none, []⟩, 
  ⟨(some (3)), .move (.tmp 15), none, []⟩]
def k_kit_Dice_next_r3 : List AOper := [
  ⟨(some (16)), .move (.tmp 3), none, []⟩, 
  ⟨(some (17)), .move (.tmp 3), none, []⟩, 
  ⟨(some (18)), .bin .plain .shr (.tmp 17) (.const (.int .u64 30)), none, []⟩, 
  ⟨(some (19)), .bin .plain .xor (.tmp 16) (.tmp 18), none, []⟩, 
  ⟨(some (20)), .bin .plain .mul (.tmp 19) (.const (.int .u64 13787848793156543929)), none, []⟩, 
  ⟨(some (3)), .move (.tmp 20), none, []⟩]
def k_kit_Dice_next_r4 : List AOper := [
  ⟨(some (21)), .move (.tmp 3), none, []⟩, 
  ⟨(some (22)), .move (.tmp 3), none, []⟩, 
  ⟨(some (23)), .bin .plain .shr (.tmp 22) (.const (.int .u64 27)), none, []⟩, 
  ⟨(some (24)), .bin .plain .xor (.tmp 21) (.tmp 23), none, []⟩, 
  ⟨(some (25)), .bin .plain .mul (.tmp 24) (.const (.int .u64 10723151780598845931)), none, []⟩, 
  ⟨(some (3)), .move (.tmp 25), none, []⟩]
def k_kit_Dice_next_r5 : List AOper := [
  ⟨(some (26)), .move (.tmp 3), none, []⟩, 
  ⟨(some (27)), .move (.tmp 3), none, []⟩, 
  ⟨(some (28)), .bin .plain .shr (.tmp 27) (.const (.int .u64 31)), none, []⟩, 
  ⟨(some (29)), .bin .plain .xor (.tmp 26) (.tmp 28), none, []⟩, 
  ⟨(some (2)), .move (.tmp 29), none, []⟩]
def k_kit_Dice_next : AFun := { params := 1, ntmps := 30, body := (.seq (.reg k_kit_Dice_next_r0 false) (.seq (.reg k_kit_Dice_next_r1 false) (.seq (.reg k_kit_Dice_next_r2 false) (.seq (.reg k_kit_Dice_next_r3 false) (.seq (.reg k_kit_Dice_next_r4 false) (.seq (.reg k_kit_Dice_next_r5 false) .ret)))))), res := [.tmp 2] }
theorem k_kit_Dice_next_ok : cfun Tryd.prog Tryd.f54 = k_kit_Dice_next := by kernel_rfl

def k_gauge_checkMeter_r0 : List AOper := [
  ⟨(some (2)), .box (.tmp 0), none, []⟩, 
  ⟨(some (4)), .move (.const (.int .i64 0)), none, []⟩]
def k_gauge_checkMeter_r1 : List AOper := [
  ⟨(some (6)), .load (some (7)) (.tmp 2), none, []⟩, 
  ⟨(some (7)), .call (.const (.fn (.func 62) [] [])) [.tmp 6], none, []⟩, 
  ⟨(some (5)), .move (.tmp 7), none, []⟩]
def k_gauge_checkMeter_r2 : List AOper := [
  ⟨(some (8)), .move (.tmp 5), none, []⟩, 
  ⟨(some (9)), .bin .plain .neq (.tmp 8) (.const (.int .i64 0)), none, []⟩]
def k_gauge_checkMeter_r3 : List AOper := [
  ⟨(some (10)), .move (.tmp 5), none, []⟩, 
  ⟨(some (4)), .move (.tmp 10), none, []⟩]
def k_gauge_checkMeter_r4 : List AOper := [
  ⟨(some (11)), .fieldAddr 4 (.tmp 2), none, []⟩, 
  ⟨(some (12)), .load none (.tmp 11), none, []⟩, 
  ⟨(some (13)), .call (.const (.fn (.func 83) [] [])) [.tmp 12, .const (.int .i64 1), .const (.int .i64 1000000)], none, []⟩, 
  ⟨(some (14)), .not (.tmp 13), none, []⟩, 
  ⟨(some (15)), .move (.tmp 14), none, []⟩, 
  ⟨(some (16)), .fieldAddr 6 (.tmp 2), (some (15, false)), []⟩, 
  ⟨(some (17)), .load none (.tmp 16), (some (15, false)), []⟩, 
  ⟨(some (18)), .call (.const (.fn (.func 83) [] [])) [.tmp 17, .const (.int .i64 0), .const (.int .i64 1000000000)], (some (15, false)), []⟩, 
  ⟨(some (19)), .not (.tmp 18), (some (15, false)), []⟩, 
  ⟨(some (20)), .pick (.tmp 15) (.const (.bool true)) (.tmp 19), none, []⟩, 
  ⟨(some (21)), .move (.tmp 20), none, []⟩, 
  ⟨(some (22)), .fieldAddr 5 (.tmp 2), (some (21, false)), []⟩, 
  ⟨(some (23)), .load none (.tmp 22), (some (21, false)), []⟩, 
  ⟨(some (24)), .move (.tmp 1), (some (21, false)), []⟩, 
  ⟨(some (25)), .bin .plain .sub (.tmp 24) (.const (.int .i64 1)), (some (21, false)), []⟩, 
  ⟨(some (26)), .call (.const (.fn (.func 83) [] [])) [.tmp 23, .const (.int .i64 (-1)), .tmp 25], (some (21, false)), []⟩, 
  ⟨(some (27)), .not (.tmp 26), (some (21, false)), []⟩, 
  ⟨(some (28)), .pick (.tmp 21) (.const (.bool true)) (.tmp 27), none, []⟩]
def k_gauge_checkMeter_r5 : List AOper := [
  ⟨(some (4)), .move (.const (.int .i64 2)), none, []⟩]
def k_gauge_checkMeter_r6 : List AOper := [
  ⟨(some (4)), .move (.const (.int .i64 0)), none, []⟩]
def k_gauge_checkMeter : AFun := { params := 2, ntmps := 29, body := (.seq (.reg k_gauge_checkMeter_r0 false) (.seq (.seq (.reg k_gauge_checkMeter_r1 false) (.seq (.reg k_gauge_checkMeter_r2 false) (.cond (.tmp 9) (.seq (.reg k_gauge_checkMeter_r3 false) .ret) .skip))) (.seq (.seq (.reg k_gauge_checkMeter_r4 false) (.cond (.tmp 28) (.seq (.reg k_gauge_checkMeter_r5 false) .ret) .skip)) (.seq (.reg k_gauge_checkMeter_r6 false) .ret)))), res := [.tmp 4] }
theorem k_gauge_checkMeter_ok : cfun Tryd.prog Tryd.f55 = k_gauge_checkMeter := by kernel_rfl

def k_gauge_isLoose_r0 : List AOper := [
  ⟨(some (2)), .box (.tmp 0), none, []⟩, 
  ⟨(some (4)), .box (.const (.bool false)), none, []⟩]
def k_gauge_isLoose_r1 : List AOper := [
  ⟨(some (5)), .box (.const (.int .i64 0)), none, []⟩, 
  ⟨none, .store 1 (.tmp 5) (.const (.int .i64 0)), none, []⟩]
def k_gauge_isLoose_r2 : List AOper := [
  ⟨(some (6)), .load none (.tmp 2), none, []⟩, 
  ⟨(some (7)), .move (.tmp 1), none, []⟩, 
  ⟨(some (8)), .call (.const (.fn (.func 61) [] [])) [.tmp 6, .tmp 7], none, []⟩]
def k_gauge_isLoose_r3 : List AOper := [
  ⟨(some (11)), .load none (.tmp 5), none, []⟩, 
  ⟨(some (12)), .bin .plain .add (.tmp 11) (.const (.int .i64 1)), none, []⟩, 
  ⟨none, .store 1 (.tmp 5) (.tmp 12), none, []⟩]
def k_gauge_isLoose_r4 : List AOper := [
  ⟨(some (13)), .load none (.tmp 5), none, []⟩, 
  ⟨(some (14)), .load none (.tmp 2), none, []⟩, 
  ⟨(some (15)), .len false (.tmp 14), none, []⟩, 
  ⟨(some (16)), .bin .plain .gtr (.tmp 13) (.tmp 15), none, []⟩]
def k_gauge_isLoose_r5 : List AOper := [
  ⟨none, .store 1 (.tmp 4) (.const (.bool true)), none, []⟩]
def k_gauge_isLoose_r6 : ACode := .skip
def k_gauge_isLoose_r7 : ACode := (.block 1 (.seq (.reg k_gauge_isLoose_r3 false) (.seq (.reg k_gauge_isLoose_r4 false) (.cond (.tmp 16) (.seq (.reg k_gauge_isLoose_r5 false) .ret) .skip))))
def k_gauge_isLoose_r8 : List AOper := [
  ⟨none, .store 1 (.tmp 4) (.const (.bool false)), none, []⟩]
def k_gauge_isLoose : AFun := { params := 2, ntmps := 17, body := (.seq (.reg k_gauge_isLoose_r0 false) (.seq (.reg k_gauge_isLoose_r1 false) (.seq (.seq (.reg k_gauge_isLoose_r2 false) (.block 0 (.rng (.tmp 8) [9, 10] k_gauge_isLoose_r6 k_gauge_isLoose_r7))) (.seq (.reg k_gauge_isLoose_r8 false) .ret)))), res := [.cell 4 (some (none))] }
theorem k_gauge_isLoose_ok : cfun Tryd.prog Tryd.f56 = k_gauge_isLoose := by kernel_rfl

def k_ref07_checkMaking_r0 : List AOper := [
  ⟨(some (1)), .box (.tmp 0), none, []⟩, 
  ⟨(some (2)), .move (.const (.int .i64 0)), none, []⟩]
def k_ref07_checkMaking_r1 : List AOper := [
  ⟨(some (4)), .fieldAddr 0 (.tmp 1), none, []⟩, 
  ⟨(some (5)), .load (some (2)) (.tmp 4), none, []⟩, 
  ⟨(some (6)), .call (.const (.fn (.func 92) [] [])) [.tmp 5, .const (.int .i64 500000), .const (.int .i64 2000000)], none, []⟩, 
  ⟨(some (3)), .move (.tmp 6), none, []⟩]
def k_ref07_checkMaking_r2 : List AOper := [
  ⟨(some (7)), .move (.tmp 3), none, []⟩, 
  ⟨(some (8)), .bin .plain .neq (.tmp 7) (.const (.int .i64 0)), none, []⟩]
def k_ref07_checkMaking_r3 : List AOper := [
  ⟨(some (9)), .move (.tmp 3), none, []⟩, 
  ⟨(some (2)), .move (.tmp 9), none, []⟩]
def k_ref07_checkMaking_r4 : List AOper := [
  ⟨(some (10)), .fieldAddr 2 (.tmp 1), none, []⟩, 
  ⟨(some (11)), .load (some (2)) (.tmp 10), none, []⟩, 
  ⟨(some (12)), .call (.const (.fn (.func 92) [] [])) [.tmp 11, .const (.int .i64 (-1000000)), .const (.int .i64 1000000)], none, []⟩, 
  ⟨(some (2)), .move (.tmp 12), none, []⟩]
def k_ref07_checkMaking : AFun := { params := 1, ntmps := 13, body := (.seq (.reg k_ref07_checkMaking_r0 false) (.seq (.seq (.reg k_ref07_checkMaking_r1 false) (.seq (.reg k_ref07_checkMaking_r2 false) (.cond (.tmp 8) (.seq (.reg k_ref07_checkMaking_r3 false) .ret) .skip))) (.seq (.reg k_ref07_checkMaking_r4 false) .ret))), res := [.tmp 2] }
theorem k_ref07_checkMaking_ok : cfun Tryd.prog Tryd.f57 = k_ref07_checkMaking := by kernel_rfl

def k_ref07_beyond_r0 : List AOper := [
  ⟨(some (6)), .move (.const (.bool false)), none, []⟩]
def k_ref07_beyond_r1 : List AOper := [
  ⟨(some (7)), .move (.tmp 0), none, []⟩, 
  ⟨(some (8)), .move (.tmp 1), none, []⟩, 
  ⟨(some (9)), .bin .plain .lss (.tmp 7) (.tmp 8), none, []⟩, 
  ⟨(some (10)), .move (.tmp 9), none, []⟩, 
  ⟨(some (11)), .move (.tmp 0), (some (10, false)), []⟩, 
  ⟨(some (12)), .move (.tmp 2), (some (10, false)), []⟩, 
  ⟨(some (13)), .bin .plain .gtr (.tmp 11) (.tmp 12), (some (10, false)), []⟩, 
  ⟨(some (14)), .pick (.tmp 10) (.const (.bool true)) (.tmp 13), none, []⟩, 
  ⟨(some (6)), .move (.tmp 14), none, []⟩]
def k_ref07_beyond : AFun := { params := 3, ntmps := 15, body := (.seq (.reg k_ref07_beyond_r0 false) (.seq (.reg k_ref07_beyond_r1 false) .ret)), res := [.tmp 6] }
theorem k_ref07_beyond_ok : cfun Tryd.prog Tryd.f58 = k_ref07_beyond := by kernel_rfl

def k_ref07_chain_r0 : List AOper := [
  ⟨(some (4)), .move (.const (.nilsl)), none, []⟩, 
  ⟨(some (5)), .move (.const (.bool false)), none, []⟩]
def k_ref07_chain_r1 : List AOper := [
  ⟨(some (6)), .move (.const (.nilsl)), none, []⟩]
def k_ref07_chain_r2 : List AOper := [
  ⟨(some (7)), .move (.tmp 1), none, []⟩, 
  ⟨(some (8)), .bin .plain .geq (.tmp 7) (.const (.int .i64 0)), none, []⟩, 
  ⟨(some (9)), .move (.tmp 8), none, []⟩, 
  ⟨(some (10)), .move (.tmp 6), (some (9, true)), []⟩, 
  ⟨(some (11)), .len false (.tmp 10), (some (9, true)), []⟩, 
  ⟨(some (12)), .move (.tmp 0), (some (9, true)), []⟩, 
  ⟨(some (13)), .len false (.tmp 12), (some (9, true)), []⟩, 
  ⟨(some (14)), .bin .plain .leq (.tmp 11) (.tmp 13), (some (9, true)), []⟩, 
  ⟨(some (15)), .pick (.tmp 9) (.tmp 14) (.const (.bool false)), none, []⟩]
def k_ref07_chain_r3 : List AOper := [
  ⟨(some (16)), .move (.tmp 6), none, []⟩, 
  ⟨(some (17)), .move (.tmp 1), none, []⟩, 
  ⟨(some (18)), .buildSlice 1 [.tmp 17], none, []⟩, 
  ⟨(some (19)), .append 1 8 false (.tmp 16) (.tmp 18), none, []⟩, 
  ⟨(some (6)), .move (.tmp 19), none, []⟩]
def k_ref07_chain_r4 : List AOper := [
  ⟨(some (20)), .move (.tmp 0), none, []⟩, 
  ⟨(some (21)), .move (.tmp 1), none, []⟩, 
  ⟨(some (22)), .indexAddr 7 (.tmp 20) (.tmp 21), none, []⟩, 
  ⟨(some (23)), .fieldAddr 5 (.tmp 22), none, []⟩, 
  ⟨(some (24)), .load none (.tmp 23), none, []⟩, 
  ⟨(some (1)), .move (.tmp 24), none, []⟩]
def k_ref07_chain_r5 : ACode := (.seq (.seq (.reg k_ref07_chain_r2 false) (.cond (.tmp 15) .skip (.exit 0))) (.block 1 (.seq (.reg k_ref07_chain_r3 false) (.reg k_ref07_chain_r4 false))))
def k_ref07_chain_r6 : List AOper := [
  ⟨(some (25)), .move (.tmp 6), none, []⟩, 
  ⟨(some (26)), .move (.tmp 1), none, []⟩, 
  ⟨(some (27)), .bin .plain .lss (.tmp 26) (.const (.int .i64 0)), none, []⟩, 
  ⟨(some (4)), .move (.tmp 25), none, []⟩, 
  ⟨(some (5)), .move (.tmp 27), none, []⟩]
def k_ref07_chain : AFun := { params := 2, ntmps := 28, body := (.seq (.reg k_ref07_chain_r0 false) (.seq (.reg k_ref07_chain_r1 false) (.seq (.block 0 (.loop k_ref07_chain_r5)) (.seq (.reg k_ref07_chain_r6 false) .ret)))), res := [.tmp 4, .tmp 5] }
theorem k_ref07_chain_ok : cfun Tryd.prog Tryd.f59 = k_ref07_chain := by kernel_rfl

def k_gauge_checkOne_r0 : List AOper := [
  ⟨(some (4)), .move (.const (.int .i64 0)), none, []⟩]
def k_gauge_checkOne_r1 : List AOper := [
  ⟨(some (6)), .move (.tmp 0), none, []⟩, 
  ⟨(some (7)), .call (.const (.fn (.func 23) [] [])) [.tmp 6], none, []⟩, 
  ⟨(some (5)), .move (.tmp 7), none, []⟩]
def k_gauge_checkOne_r2 : List AOper := [
  ⟨(some (8)), .move (.tmp 5), none, []⟩, 
  ⟨(some (9)), .bin .plain .neq (.tmp 8) (.const (.int .i64 0)), none, []⟩]
def k_gauge_checkOne_r3 : List AOper := [
  ⟨(some (10)), .move (.tmp 5), none, []⟩, 
  ⟨(some (4)), .move (.tmp 10), none, []⟩]
def k_gauge_checkOne_r4 : List AOper := [
  ⟨(some (11)), .move (.tmp 0), none, []⟩, 
  ⟨(some (12)), .move (.tmp 1), none, []⟩, 
  ⟨(some (13)), .call (.const (.fn (.func 96) [] [])) [.tmp 11, .tmp 12], none, []⟩, 
  ⟨(some (14)), .not (.tmp 13), none, []⟩]
def k_gauge_checkOne_r5 : List AOper := [
  ⟨(some (4)), .move (.const (.int .i64 7)), none, []⟩]
def k_gauge_checkOne_r6 : List AOper := [
  ⟨(some (4)), .move (.const (.int .i64 0)), none, []⟩]
def k_gauge_checkOne : AFun := { params := 2, ntmps := 15, body := (.seq (.reg k_gauge_checkOne_r0 false) (.seq (.seq (.reg k_gauge_checkOne_r1 false) (.seq (.reg k_gauge_checkOne_r2 false) (.cond (.tmp 9) (.seq (.reg k_gauge_checkOne_r3 false) .ret) .skip))) (.seq (.seq (.reg k_gauge_checkOne_r4 false) (.cond (.tmp 14) (.seq (.reg k_gauge_checkOne_r5 false) .ret) .skip)) (.seq (.reg k_gauge_checkOne_r6 false) .ret)))), res := [.tmp 4] }
theorem k_gauge_checkOne_ok : cfun Tryd.prog Tryd.f60 = k_gauge_checkOne := by kernel_rfl

def k_gauge_chain_r0 : List AOper := [
  ⟨(some (2)), .box (.tmp 0), none, []⟩, 
  ⟨(some (3)), .box (.tmp 1), none, []⟩, 
  ⟨(some (4)), .move (.const (.nilfn)), none, []⟩]
def k_gauge_chain_r1 : List AOper := [
  ⟨(some (5)), .makeFunc (.func 97) [] [.tmp 3, .tmp 2], none, []⟩, 
  ⟨(some (4)), .move (.tmp 5), none, []⟩]
def k_gauge_chain : AFun := { params := 2, ntmps := 6, body := (.seq (.reg k_gauge_chain_r0 false) (.seq (.reg k_gauge_chain_r1 false) .ret)), res := [.tmp 4] }
theorem k_gauge_chain_ok : cfun Tryd.prog Tryd.f61 = k_gauge_chain := by kernel_rfl

def k_gauge_checkMaking_r0 : List AOper := [
  ⟨(some (1)), .box (.tmp 0), none, []⟩, 
  ⟨(some (2)), .move (.const (.int .i64 0)), none, []⟩]
def k_gauge_checkMaking_r1 : List AOper := [
  ⟨(some (4)), .fieldAddr 0 (.tmp 1), none, []⟩, 
  ⟨(some (5)), .load (some (2)) (.tmp 4), none, []⟩, 
  ⟨(some (6)), .call (.const (.fn (.func 87) [] [])) [.tmp 5, .const (.int .i64 500000), .const (.int .i64 2000000)], none, []⟩, 
  ⟨(some (3)), .move (.tmp 6), none, []⟩]
def k_gauge_checkMaking_r2 : List AOper := [
  ⟨(some (7)), .move (.tmp 3), none, []⟩, 
  ⟨(some (8)), .bin .plain .neq (.tmp 7) (.const (.int .i64 0)), none, []⟩]
def k_gauge_checkMaking_r3 : List AOper := [
  ⟨(some (9)), .move (.tmp 3), none, []⟩, 
  ⟨(some (2)), .move (.tmp 9), none, []⟩]
def k_gauge_checkMaking_r4 : List AOper := [
  ⟨(some (10)), .fieldAddr 2 (.tmp 1), none, []⟩, 
  ⟨(some (11)), .load (some (2)) (.tmp 10), none, []⟩, 
  ⟨(some (12)), .call (.const (.fn (.func 87) [] [])) [.tmp 11, .const (.int .i64 (-1000000)), .const (.int .i64 1000000)], none, []⟩, 
  ⟨(some (2)), .move (.tmp 12), none, []⟩]
def k_gauge_checkMaking : AFun := { params := 1, ntmps := 13, body := (.seq (.reg k_gauge_checkMaking_r0 false) (.seq (.seq (.reg k_gauge_checkMaking_r1 false) (.seq (.reg k_gauge_checkMaking_r2 false) (.cond (.tmp 8) (.seq (.reg k_gauge_checkMaking_r3 false) .ret) .skip))) (.seq (.reg k_gauge_checkMaking_r4 false) .ret))), res := [.tmp 2] }
theorem k_gauge_checkMaking_ok : cfun Tryd.prog Tryd.f62 = k_gauge_checkMaking := by kernel_rfl

def k_gauge_isIn_r0 : List AOper := [
  ⟨(some (3)), .box (.tmp 1), none, []⟩, 
  ⟨(some (4)), .move (.const (.bool false)), none, []⟩]
def k_gauge_isIn_r1 : List AOper := [
  ⟨(some (5)), .move (.tmp 0), none, []⟩, 
  ⟨(some (6)), .fieldAddr 0 (.tmp 3), none, []⟩, 
  ⟨(some (7)), .load none (.tmp 6), none, []⟩, 
  ⟨(some (8)), .fieldAddr 1 (.tmp 3), none, []⟩, 
  ⟨(some (9)), .load none (.tmp 8), none, []⟩, 
  ⟨(some (10)), .call (.const (.fn (.func 83) [] [])) [.tmp 5, .tmp 7, .tmp 9], none, []⟩, 
  ⟨(some (4)), .move (.tmp 10), none, []⟩]
def k_gauge_isIn : AFun := { params := 2, ntmps := 11, body := (.seq (.reg k_gauge_isIn_r0 false) (.seq (.reg k_gauge_isIn_r1 false) .ret)), res := [.tmp 4] }
theorem k_gauge_isIn_ok : cfun Tryd.prog Tryd.f63 = k_gauge_isIn := by kernel_rfl

def k_gauge_makes_r0 : List AOper := [
  ⟨(some (2)), .box (.tmp 0), none, []⟩, 
  ⟨(some (4)), .box (.const (.agg [.int .i64 0, .int .i64 0])), none, []⟩]
def k_gauge_makes_r1 : List AOper := [
  ⟨(some (7)), .fieldAddr 0 (.tmp 2), none, []⟩, 
  ⟨(some (8)), .fieldAddr 0 (.tmp 7), none, []⟩, 
  ⟨(some (9)), .load none (.tmp 8), none, []⟩, 
  ⟨(some (10)), .fieldAddr 0 (.tmp 2), none, [0, 1, 2]⟩, 
  ⟨(some (11)), .fieldAddr 1 (.tmp 10), none, [0, 1, 2]⟩, 
  ⟨(some (12)), .load none (.tmp 11), none, [0, 1, 2]⟩, 
  ⟨(some (5)), .move (.tmp 9), none, [3, 4, 5]⟩, 
  ⟨(some (6)), .move (.tmp 12), none, []⟩]
def k_gauge_makes_r1s : List (List AOper) := [
  [
  ⟨(some (7)), .fieldAddr 0 (.tmp 2), none, []⟩, 
  ⟨(some (8)), .fieldAddr 0 (.tmp 7), none, []⟩, 
  ⟨(some (9)), .load none (.tmp 8), none, []⟩, 
  ⟨(some (10)), .fieldAddr 0 (.tmp 2), none, [0, 1, 2]⟩, 
  ⟨(some (11)), .fieldAddr 1 (.tmp 10), none, [0, 1, 2]⟩, 
  ⟨(some (12)), .load none (.tmp 11), none, [0, 1, 2]⟩, 
  ⟨(some (5)), .move (.tmp 9), none, [3, 4, 5]⟩], 
  [
  ⟨(some (6)), .move (.tmp 12), none, []⟩]]
theorem k_gauge_makes_r1_sg : segs k_gauge_makes_r1 = k_gauge_makes_r1s := by kernel_rfl
theorem k_gauge_makes_r1_st : statOK k_gauge_makes_r1 = true := by kernel_rfl
def k_gauge_makes_r2 : List AOper := [
  ⟨(some (13)), .move (.tmp 1), none, []⟩, 
  ⟨(some (14)), .bin .plain .lss (.tmp 13) (.const (.int .i64 0)), none, []⟩]
def k_gauge_makes_r3 : List AOper := [
  ⟨(some (15)), .move (.tmp 6), none, []⟩, 
  ⟨(some (16)), .move (.tmp 5), none, []⟩, 
  ⟨(some (5)), .move (.tmp 15), none, []⟩, 
  ⟨(some (6)), .move (.tmp 16), none, []⟩]
def k_gauge_makes_r4 : List AOper := [
  ⟨(some (17)), .move (.tmp 1), none, []⟩, 
  ⟨(some (18)), .move (.tmp 5), none, [0]⟩, 
  ⟨(some (19)), .bin .plain .mul (.tmp 17) (.tmp 18), none, []⟩, 
  ⟨(some (20)), .call (.const (.fn (.func 98) [] [])) [.tmp 19, .const (.int .i64 1000000)], none, []⟩, 
  ⟨(some (21)), .fieldAddr 2 (.tmp 2), none, [0, 1, 2, 3]⟩, 
  ⟨(some (22)), .fieldAddr 0 (.tmp 21), none, [0, 1, 2, 3]⟩, 
  ⟨(some (23)), .load none (.tmp 22), none, [0, 1, 2, 3]⟩, 
  ⟨(some (24)), .bin .plain .add (.tmp 20) (.tmp 23), none, []⟩, 
  ⟨(some (25)), .move (.tmp 1), none, [0, 1, 2, 3, 4, 5, 6, 7]⟩, 
  ⟨(some (26)), .move (.tmp 6), none, [0, 1, 2, 3, 4, 5, 6, 7, 8]⟩, 
  ⟨(some (27)), .bin .plain .mul (.tmp 25) (.tmp 26), none, [0, 1, 2, 3, 4, 5, 6, 7]⟩, 
  ⟨(some (28)), .call (.const (.fn (.func 99) [] [])) [.tmp 27, .const (.int .i64 1000000)], none, [4, 5, 6, 7]⟩, 
  ⟨(some (29)), .fieldAddr 2 (.tmp 2), none, [0, 1, 2, 3, 4, 5, 6, 7, 8, 9, 10, 11]⟩, 
  ⟨(some (30)), .fieldAddr 1 (.tmp 29), none, [0, 1, 2, 3, 4, 5, 6, 7, 8, 9, 10, 11]⟩, 
  ⟨(some (31)), .load none (.tmp 30), none, [0, 1, 2, 3, 4, 5, 6, 7, 8, 9, 10, 11]⟩, 
  ⟨(some (32)), .bin .plain .add (.tmp 28) (.tmp 31), none, [4, 5, 6, 7]⟩, 
  ⟨(some (33)), .build [.int .i64 0, .int .i64 0] [(0, 1, .tmp 24), (1, 1, .tmp 32)], none, []⟩, 
  ⟨none, .store 2 (.tmp 4) (.tmp 33), none, []⟩]
def k_gauge_makes_r4s : List (List AOper) := [
  [
  ⟨(some (17)), .move (.tmp 1), none, []⟩, 
  ⟨(some (18)), .move (.tmp 5), none, [0]⟩, 
  ⟨(some (19)), .bin .plain .mul (.tmp 17) (.tmp 18), none, []⟩, 
  ⟨(some (20)), .call (.const (.fn (.func 98) [] [])) [.tmp 19, .const (.int .i64 1000000)], none, []⟩, 
  ⟨(some (21)), .fieldAddr 2 (.tmp 2), none, [0, 1, 2, 3]⟩, 
  ⟨(some (22)), .fieldAddr 0 (.tmp 21), none, [0, 1, 2, 3]⟩, 
  ⟨(some (23)), .load none (.tmp 22), none, [0, 1, 2, 3]⟩, 
  ⟨(some (24)), .bin .plain .add (.tmp 20) (.tmp 23), none, []⟩, 
  ⟨(some (25)), .move (.tmp 1), none, [0, 1, 2, 3, 4, 5, 6, 7]⟩, 
  ⟨(some (26)), .move (.tmp 6), none, [0, 1, 2, 3, 4, 5, 6, 7, 8]⟩, 
  ⟨(some (27)), .bin .plain .mul (.tmp 25) (.tmp 26), none, [0, 1, 2, 3, 4, 5, 6, 7]⟩, 
  ⟨(some (28)), .call (.const (.fn (.func 99) [] [])) [.tmp 27, .const (.int .i64 1000000)], none, [4, 5, 6, 7]⟩, 
  ⟨(some (29)), .fieldAddr 2 (.tmp 2), none, [0, 1, 2, 3, 4, 5, 6, 7, 8, 9, 10, 11]⟩, 
  ⟨(some (30)), .fieldAddr 1 (.tmp 29), none, [0, 1, 2, 3, 4, 5, 6, 7, 8, 9, 10, 11]⟩, 
  ⟨(some (31)), .load none (.tmp 30), none, [0, 1, 2, 3, 4, 5, 6, 7, 8, 9, 10, 11]⟩, 
  ⟨(some (32)), .bin .plain .add (.tmp 28) (.tmp 31), none, [4, 5, 6, 7]⟩], 
  [
  ⟨(some (33)), .build [.int .i64 0, .int .i64 0] [(0, 1, .tmp 24), (1, 1, .tmp 32)], none, []⟩], 
  [
  ⟨none, .store 2 (.tmp 4) (.tmp 33), none, []⟩]]
theorem k_gauge_makes_r4_sg : segs k_gauge_makes_r4 = k_gauge_makes_r4s := by kernel_rfl
theorem k_gauge_makes_r4_st : statOK k_gauge_makes_r4 = true := by kernel_rfl
def k_gauge_makes : AFun := { params := 2, ntmps := 34, body := (.seq (.reg k_gauge_makes_r0 false) (.seq (.reg k_gauge_makes_r1 true) (.seq (.seq (.reg k_gauge_makes_r2 false) (.cond (.tmp 14) (.reg k_gauge_makes_r3 false) .skip)) (.seq (.reg k_gauge_makes_r4 true) .ret)))), res := [.cell 4 (some ((some (2))))] }
theorem k_gauge_makes_ok : cfun Tryd.prog Tryd.f64 = k_gauge_makes := by kernel_rfl

def k_ref07_Made_r0 : List AOper := [
  ⟨(some (2)), .box (.tmp 0), none, []⟩, 
  ⟨(some (4)), .box (.const (.agg [.int .i64 0, .int .i64 0])), none, []⟩]
def k_ref07_Made_r1 : List AOper := [
  ⟨(some (7)), .fieldAddr 0 (.tmp 2), none, []⟩, 
  ⟨(some (8)), .fieldAddr 0 (.tmp 7), none, []⟩, 
  ⟨(some (9)), .load none (.tmp 8), none, []⟩, 
  ⟨(some (10)), .fieldAddr 0 (.tmp 2), none, [0, 1, 2]⟩, 
  ⟨(some (11)), .fieldAddr 1 (.tmp 10), none, [0, 1, 2]⟩, 
  ⟨(some (12)), .load none (.tmp 11), none, [0, 1, 2]⟩, 
  ⟨(some (5)), .move (.tmp 9), none, [3, 4, 5]⟩, 
  ⟨(some (6)), .move (.tmp 12), none, []⟩]
def k_ref07_Made_r1s : List (List AOper) := [
  [
  ⟨(some (7)), .fieldAddr 0 (.tmp 2), none, []⟩, 
  ⟨(some (8)), .fieldAddr 0 (.tmp 7), none, []⟩, 
  ⟨(some (9)), .load none (.tmp 8), none, []⟩, 
  ⟨(some (10)), .fieldAddr 0 (.tmp 2), none, [0, 1, 2]⟩, 
  ⟨(some (11)), .fieldAddr 1 (.tmp 10), none, [0, 1, 2]⟩, 
  ⟨(some (12)), .load none (.tmp 11), none, [0, 1, 2]⟩, 
  ⟨(some (5)), .move (.tmp 9), none, [3, 4, 5]⟩], 
  [
  ⟨(some (6)), .move (.tmp 12), none, []⟩]]
theorem k_ref07_Made_r1_sg : segs k_ref07_Made_r1 = k_ref07_Made_r1s := by kernel_rfl
theorem k_ref07_Made_r1_st : statOK k_ref07_Made_r1 = true := by kernel_rfl
def k_ref07_Made_r2 : List AOper := [
  ⟨(some (13)), .move (.tmp 1), none, []⟩, 
  ⟨(some (14)), .bin .plain .lss (.tmp 13) (.const (.int .i64 0)), none, []⟩]
def k_ref07_Made_r3 : List AOper := [
  ⟨(some (15)), .move (.tmp 6), none, []⟩, 
  ⟨(some (16)), .move (.tmp 5), none, []⟩, 
  ⟨(some (5)), .move (.tmp 15), none, []⟩, 
  ⟨(some (6)), .move (.tmp 16), none, []⟩]
def k_ref07_Made_r4 : List AOper := [
  ⟨(some (17)), .move (.tmp 1), none, []⟩, 
  ⟨(some (18)), .move (.tmp 5), none, [0]⟩, 
  ⟨(some (19)), .bin .plain .mul (.tmp 17) (.tmp 18), none, []⟩, 
  ⟨(some (20)), .call (.const (.fn (.func 67) [] [])) [.tmp 19, .const (.int .i64 1000000)], none, []⟩, 
  ⟨(some (21)), .fieldAddr 2 (.tmp 2), none, [0, 1, 2, 3]⟩, 
  ⟨(some (22)), .fieldAddr 0 (.tmp 21), none, [0, 1, 2, 3]⟩, 
  ⟨(some (23)), .load none (.tmp 22), none, [0, 1, 2, 3]⟩, 
  ⟨(some (24)), .bin .plain .add (.tmp 20) (.tmp 23), none, []⟩, 
  ⟨(some (25)), .move (.tmp 1), none, [0, 1, 2, 3, 4, 5, 6, 7]⟩, 
  ⟨(some (26)), .move (.tmp 6), none, [0, 1, 2, 3, 4, 5, 6, 7, 8]⟩, 
  ⟨(some (27)), .bin .plain .mul (.tmp 25) (.tmp 26), none, [0, 1, 2, 3, 4, 5, 6, 7]⟩, 
  ⟨(some (28)), .call (.const (.fn (.func 75) [] [])) [.tmp 27, .const (.int .i64 1000000)], none, [4, 5, 6, 7]⟩, 
  ⟨(some (29)), .fieldAddr 2 (.tmp 2), none, [0, 1, 2, 3, 4, 5, 6, 7, 8, 9, 10, 11]⟩, 
  ⟨(some (30)), .fieldAddr 1 (.tmp 29), none, [0, 1, 2, 3, 4, 5, 6, 7, 8, 9, 10, 11]⟩, 
  ⟨(some (31)), .load none (.tmp 30), none, [0, 1, 2, 3, 4, 5, 6, 7, 8, 9, 10, 11]⟩, 
  ⟨(some (32)), .bin .plain .add (.tmp 28) (.tmp 31), none, [4, 5, 6, 7]⟩, 
  ⟨(some (33)), .build [.int .i64 0, .int .i64 0] [(0, 1, .tmp 24), (1, 1, .tmp 32)], none, []⟩, 
  ⟨none, .store 2 (.tmp 4) (.tmp 33), none, []⟩]
def k_ref07_Made_r4s : List (List AOper) := [
  [
  ⟨(some (17)), .move (.tmp 1), none, []⟩, 
  ⟨(some (18)), .move (.tmp 5), none, [0]⟩, 
  ⟨(some (19)), .bin .plain .mul (.tmp 17) (.tmp 18), none, []⟩, 
  ⟨(some (20)), .call (.const (.fn (.func 67) [] [])) [.tmp 19, .const (.int .i64 1000000)], none, []⟩, 
  ⟨(some (21)), .fieldAddr 2 (.tmp 2), none, [0, 1, 2, 3]⟩, 
  ⟨(some (22)), .fieldAddr 0 (.tmp 21), none, [0, 1, 2, 3]⟩, 
  ⟨(some (23)), .load none (.tmp 22), none, [0, 1, 2, 3]⟩, 
  ⟨(some (24)), .bin .plain .add (.tmp 20) (.tmp 23), none, []⟩, 
  ⟨(some (25)), .move (.tmp 1), none, [0, 1, 2, 3, 4, 5, 6, 7]⟩, 
  ⟨(some (26)), .move (.tmp 6), none, [0, 1, 2, 3, 4, 5, 6, 7, 8]⟩, 
  ⟨(some (27)), .bin .plain .mul (.tmp 25) (.tmp 26), none, [0, 1, 2, 3, 4, 5, 6, 7]⟩, 
  ⟨(some (28)), .call (.const (.fn (.func 75) [] [])) [.tmp 27, .const (.int .i64 1000000)], none, [4, 5, 6, 7]⟩, 
  ⟨(some (29)), .fieldAddr 2 (.tmp 2), none, [0, 1, 2, 3, 4, 5, 6, 7, 8, 9, 10, 11]⟩, 
  ⟨(some (30)), .fieldAddr 1 (.tmp 29), none, [0, 1, 2, 3, 4, 5, 6, 7, 8, 9, 10, 11]⟩, 
  ⟨(some (31)), .load none (.tmp 30), none, [0, 1, 2, 3, 4, 5, 6, 7, 8, 9, 10, 11]⟩, 
  ⟨(some (32)), .bin .plain .add (.tmp 28) (.tmp 31), none, [4, 5, 6, 7]⟩], 
  [
  ⟨(some (33)), .build [.int .i64 0, .int .i64 0] [(0, 1, .tmp 24), (1, 1, .tmp 32)], none, []⟩], 
  [
  ⟨none, .store 2 (.tmp 4) (.tmp 33), none, []⟩]]
theorem k_ref07_Made_r4_sg : segs k_ref07_Made_r4 = k_ref07_Made_r4s := by kernel_rfl
theorem k_ref07_Made_r4_st : statOK k_ref07_Made_r4 = true := by kernel_rfl
def k_ref07_Made : AFun := { params := 2, ntmps := 34, body := (.seq (.reg k_ref07_Made_r0 false) (.seq (.reg k_ref07_Made_r1 true) (.seq (.seq (.reg k_ref07_Made_r2 false) (.cond (.tmp 14) (.reg k_ref07_Made_r3 false) .skip)) (.seq (.reg k_ref07_Made_r4 true) .ret)))), res := [.cell 4 (some ((some (2))))] }
theorem k_ref07_Made_ok : cfun Tryd.prog Tryd.f65 = k_ref07_Made := by kernel_rfl

def k_kit_Dice_In_r0 : List AOper := [
  ⟨(some (3)), .box (.tmp 1), none, []⟩, 
  ⟨(some (4)), .move (.const (.int .i64 0)), none, []⟩]
def k_kit_Dice_In_r1 : List AOper := [
  ⟨(some (5)), .move (.tmp 0), none, []⟩, 
  ⟨(some (6)), .fieldAddr 0 (.tmp 3), none, []⟩, 
  ⟨(some (7)), .load none (.tmp 6), none, []⟩, 
  ⟨(some (8)), .fieldAddr 0 (.tmp 3), none, []⟩, 
  ⟨(some (9)), .load none (.tmp 8), none, []⟩, 
  ⟨(some (10)), .fieldAddr 1 (.tmp 3), none, []⟩, 
  ⟨(some (11)), .load none (.tmp 10), none, []⟩, 
  ⟨(some (12)), .minmax true [.tmp 9, .tmp 11], none, []⟩, 
  ⟨(some (13)), .call (.const (.fn (.func 20) [] [])) [.tmp 5, .tmp 7, .tmp 12], none, []⟩, 
  ⟨(some (4)), .move (.tmp 13), none, []⟩]
def k_kit_Dice_In : AFun := { params := 2, ntmps := 14, body := (.seq (.reg k_kit_Dice_In_r0 false) (.seq (.reg k_kit_Dice_In_r1 false) .ret)), res := [.tmp 4] }
theorem k_kit_Dice_In_ok : cfun Tryd.prog Tryd.f66 = k_kit_Dice_In := by kernel_rfl

def k_ref07_Down_r0 : List AOper := [
  ⟨(some (4)), .move (.const (.int .i64 0)), none, []⟩]
def k_ref07_Down_r1 : List AOper := [
  ⟨(some (6)), .move (.tmp 0), none, []⟩, 
  ⟨(some (7)), .move (.tmp 1), none, []⟩, 
  ⟨(some (8)), .bin .plain .quo (.tmp 6) (.tmp 7), none, []⟩, 
  ⟨(some (5)), .move (.tmp 8), none, []⟩]
def k_ref07_Down_r2 : List AOper := [
  ⟨(some (9)), .move (.tmp 0), none, []⟩, 
  ⟨(some (10)), .move (.tmp 1), none, []⟩, 
  ⟨(some (11)), .bin .plain .rem (.tmp 9) (.tmp 10), none, []⟩, 
  ⟨(some (12)), .bin .plain .lss (.tmp 11) (.const (.int .i64 0)), none, []⟩]
def k_ref07_Down_r3 : List AOper := [
  ⟨(some (13)), .move (.tmp 5), none, []⟩, 
  ⟨(some (14)), .bin .plain .sub (.tmp 13) (.const (.int .i64 1)), none, []⟩, 
  ⟨(some (5)), .move (.tmp 14), none, []⟩]
def k_ref07_Down_r4 : List AOper := [
  ⟨(some (15)), .move (.tmp 5), none, []⟩, 
  ⟨(some (4)), .move (.tmp 15), none, []⟩]
def k_ref07_Down : AFun := { params := 2, ntmps := 16, body := (.seq (.reg k_ref07_Down_r0 false) (.seq (.reg k_ref07_Down_r1 false) (.seq (.seq (.reg k_ref07_Down_r2 false) (.cond (.tmp 12) (.reg k_ref07_Down_r3 false) .skip)) (.seq (.reg k_ref07_Down_r4 false) .ret)))), res := [.tmp 4] }
theorem k_ref07_Down_ok : cfun Tryd.prog Tryd.f67 = k_ref07_Down := by kernel_rfl

def k_gauge_trueFor_r0 : List AOper := [
  ⟨(some (6)), .box (.const (.agg [.int .i64 0, .int .i64 0])), none, []⟩, 
  ⟨(some (7)), .box (.const (.int .i64 0)), none, []⟩]
def k_gauge_trueFor_r1 : List AOper := [
  ⟨(some (11)), .move (.tmp 2), none, []⟩, 
  ⟨(some (12)), .move (.tmp 0), none, [0]⟩, 
  ⟨(some (13)), .move (.tmp 1), none, [0, 1]⟩, 
  ⟨(some (14)), .indexAddr 7 (.tmp 12) (.tmp 13), none, [0]⟩, 
  ⟨(some (15)), .load (some (7)) (.tmp 14), none, [0]⟩, 
  ⟨(some (16)), .call (.const (.fn (.func 100) [] [])) [.tmp 15], none, [0]⟩, 
  ⟨(some (17)), .bin .plain .sub (.tmp 11) (.tmp 16), none, []⟩, 
  ⟨(some (18)), .move (.tmp 2), none, [0, 1, 2, 3, 4, 5, 6]⟩, 
  ⟨(some (19)), .move (.tmp 0), none, [0, 1, 2, 3, 4, 5, 6, 7]⟩, 
  ⟨(some (20)), .move (.tmp 1), none, [0, 1, 2, 3, 4, 5, 6, 7, 8]⟩, 
  ⟨(some (21)), .indexAddr 7 (.tmp 19) (.tmp 20), none, [0, 1, 2, 3, 4, 5, 6, 7]⟩, 
  ⟨(some (22)), .load (some (7)) (.tmp 21), none, [0, 1, 2, 3, 4, 5, 6, 7]⟩, 
  ⟨(some (23)), .call (.const (.fn (.func 100) [] [])) [.tmp 22], none, [0, 6, 7]⟩, 
  ⟨(some (24)), .bin .plain .add (.tmp 18) (.tmp 23), none, [0, 6]⟩, 
  ⟨(some (25)), .build [.int .i64 0, .int .i64 0] [(0, 1, .tmp 17), (1, 1, .tmp 24)], none, []⟩, 
  ⟨(some (8)), .box (.const (.agg [.int .i64 0, .int .i64 0])), none, [0, 1, 2, 3, 4, 5, 6, 7, 8, 9, 10, 11, 12, 13, 14]⟩, 
  ⟨none, .store 2 (.tmp 8) (.tmp 25), none, []⟩]
def k_gauge_trueFor_r1s : List (List AOper) := [
  [
  ⟨(some (11)), .move (.tmp 2), none, []⟩, 
  ⟨(some (12)), .move (.tmp 0), none, [0]⟩, 
  ⟨(some (13)), .move (.tmp 1), none, [0, 1]⟩, 
  ⟨(some (14)), .indexAddr 7 (.tmp 12) (.tmp 13), none, [0]⟩, 
  ⟨(some (15)), .load (some (7)) (.tmp 14), none, [0]⟩, 
  ⟨(some (16)), .call (.const (.fn (.func 100) [] [])) [.tmp 15], none, [0]⟩, 
  ⟨(some (17)), .bin .plain .sub (.tmp 11) (.tmp 16), none, []⟩, 
  ⟨(some (18)), .move (.tmp 2), none, [0, 1, 2, 3, 4, 5, 6]⟩, 
  ⟨(some (19)), .move (.tmp 0), none, [0, 1, 2, 3, 4, 5, 6, 7]⟩, 
  ⟨(some (20)), .move (.tmp 1), none, [0, 1, 2, 3, 4, 5, 6, 7, 8]⟩, 
  ⟨(some (21)), .indexAddr 7 (.tmp 19) (.tmp 20), none, [0, 1, 2, 3, 4, 5, 6, 7]⟩, 
  ⟨(some (22)), .load (some (7)) (.tmp 21), none, [0, 1, 2, 3, 4, 5, 6, 7]⟩, 
  ⟨(some (23)), .call (.const (.fn (.func 100) [] [])) [.tmp 22], none, [0, 6, 7]⟩, 
  ⟨(some (24)), .bin .plain .add (.tmp 18) (.tmp 23), none, [0, 6]⟩, 
  ⟨(some (25)), .build [.int .i64 0, .int .i64 0] [(0, 1, .tmp 17), (1, 1, .tmp 24)], none, []⟩, 
  ⟨(some (8)), .box (.const (.agg [.int .i64 0, .int .i64 0])), none, [0, 1, 2, 3, 4, 5, 6, 7, 8, 9, 10, 11, 12, 13, 14]⟩], 
  [
  ⟨none, .store 2 (.tmp 8) (.tmp 25), none, []⟩]]
theorem k_gauge_trueFor_r1_sg : segs k_gauge_trueFor_r1 = k_gauge_trueFor_r1s := by kernel_rfl
theorem k_gauge_trueFor_r1_st : statOK k_gauge_trueFor_r1 = true := by kernel_rfl
def k_gauge_trueFor_r2 : List AOper := [
  ⟨(some (26)), .move (.tmp 0), none, []⟩, 
  ⟨(some (27)), .move (.tmp 1), none, []⟩, 
  ⟨(some (28)), .call (.const (.fn (.func 61) [] [])) [.tmp 26, .tmp 27], none, []⟩]
def k_gauge_trueFor_r3 : List AOper := [
  ⟨(some (10)), .box (.const (.agg [.int .i64 0, .int .i64 0, .int .i64 0, .int .i64 0, .int .i64 0, .int .i64 0, .int .i64 0])), none, []⟩, 
  ⟨none, .store 7 (.tmp 10) (.tmp 30), none, []⟩]
def k_gauge_trueFor_r4 : List AOper := [
  ⟨(some (31)), .load (some (7)) (.tmp 10), none, []⟩, 
  ⟨(some (32)), .fieldAddr 0 (.tmp 8), none, [0]⟩, 
  ⟨(some (33)), .load none (.tmp 32), none, [0]⟩, 
  ⟨(some (34)), .call (.const (.fn (.func 101) [] [])) [.tmp 31, .tmp 33], none, []⟩, 
  ⟨(some (35)), .load (some (7)) (.tmp 10), none, [0, 1, 2, 3]⟩, 
  ⟨(some (36)), .fieldAddr 1 (.tmp 8), none, [0, 1, 2, 3, 4]⟩, 
  ⟨(some (37)), .load none (.tmp 36), none, [0, 1, 2, 3, 4]⟩, 
  ⟨(some (38)), .call (.const (.fn (.func 102) [] [])) [.tmp 35, .tmp 37], none, []⟩, 
  ⟨(some (39)), .build [.int .i64 0, .int .i64 0] [(0, 1, .tmp 34), (1, 1, .tmp 38)], none, []⟩, 
  ⟨none, .store 2 (.tmp 8) (.tmp 39), none, []⟩]
def k_gauge_trueFor_r4s : List (List AOper) := [
  [
  ⟨(some (31)), .load (some (7)) (.tmp 10), none, []⟩, 
  ⟨(some (32)), .fieldAddr 0 (.tmp 8), none, [0]⟩, 
  ⟨(some (33)), .load none (.tmp 32), none, [0]⟩, 
  ⟨(some (34)), .call (.const (.fn (.func 101) [] [])) [.tmp 31, .tmp 33], none, []⟩, 
  ⟨(some (35)), .load (some (7)) (.tmp 10), none, [0, 1, 2, 3]⟩, 
  ⟨(some (36)), .fieldAddr 1 (.tmp 8), none, [0, 1, 2, 3, 4]⟩, 
  ⟨(some (37)), .load none (.tmp 36), none, [0, 1, 2, 3, 4]⟩], 
  [
  ⟨(some (38)), .call (.const (.fn (.func 102) [] [])) [.tmp 35, .tmp 37], none, []⟩], 
  [
  ⟨(some (39)), .build [.int .i64 0, .int .i64 0] [(0, 1, .tmp 34), (1, 1, .tmp 38)], none, []⟩], 
  [
  ⟨none, .store 2 (.tmp 8) (.tmp 39), none, []⟩]]
theorem k_gauge_trueFor_r4_sg : segs k_gauge_trueFor_r4 = k_gauge_trueFor_r4s := by kernel_rfl
theorem k_gauge_trueFor_r4_st : statOK k_gauge_trueFor_r4 = true := by kernel_rfl
def k_gauge_trueFor_r5 : List AOper := [
  ⟨(some (40)), .load (some (2)) (.tmp 8), none, []⟩, 
  ⟨(some (41)), .call (.const (.fn (.func 70) [] [])) [.tmp 40], none, []⟩]
def k_gauge_trueFor_r6 : List AOper := [
  ⟨(some (42)), .build [.int .i64 0, .int .i64 0] [], none, []⟩, 
  ⟨none, .store 2 (.tmp 6) (.tmp 42), none, []⟩, 
  ⟨none, .store 1 (.tmp 7) (.const (.int .i64 12)), none, []⟩]
def k_gauge_trueFor_r7 : ACode := (.reg k_gauge_trueFor_r3 false)
def k_gauge_trueFor_r8 : ACode := (.block 1 (.seq (.reg k_gauge_trueFor_r4 true) (.seq (.reg k_gauge_trueFor_r5 false) (.cond (.tmp 41) (.seq (.reg k_gauge_trueFor_r6 false) .ret) .skip))))
def k_gauge_trueFor_r9 : List AOper := [
  ⟨(some (43)), .load (some (2)) (.tmp 8), none, []⟩, 
  ⟨(some (44)), .load (some (2)) (.const (.rptr (.agg [.int .i64 (-1000000000), .int .i64 1000000000]) 0)), none, []⟩, 
  ⟨(some (45)), .call (.const (.fn (.func 71) [] [])) [.tmp 43, .tmp 44], none, []⟩, 
  ⟨none, .store 2 (.tmp 8) (.tmp 45), none, []⟩]
def k_gauge_trueFor_r10 : List AOper := [
  ⟨(some (46)), .load (some (2)) (.tmp 8), none, []⟩, 
  ⟨(some (47)), .call (.const (.fn (.func 70) [] [])) [.tmp 46], none, []⟩]
def k_gauge_trueFor_r11 : List AOper := [
  ⟨(some (48)), .build [.int .i64 0, .int .i64 0] [], none, []⟩, 
  ⟨none, .store 2 (.tmp 6) (.tmp 48), none, []⟩, 
  ⟨none, .store 1 (.tmp 7) (.const (.int .i64 12)), none, []⟩]
def k_gauge_trueFor_r12 : List AOper := [
  ⟨(some (49)), .load (some (2)) (.tmp 8), none, []⟩, 
  ⟨none, .store 2 (.tmp 6) (.tmp 49), none, []⟩, 
  ⟨none, .store 1 (.tmp 7) (.const (.int .i64 0)), none, []⟩]
def k_gauge_trueFor : AFun := { params := 3, ntmps := 50, body := (.seq (.reg k_gauge_trueFor_r0 false) (.seq (.reg k_gauge_trueFor_r1 true) (.seq (.seq (.reg k_gauge_trueFor_r2 false) (.block 0 (.rng (.tmp 28) [29, 30] k_gauge_trueFor_r7 k_gauge_trueFor_r8))) (.seq (.reg k_gauge_trueFor_r9 false) (.seq (.seq (.reg k_gauge_trueFor_r10 false) (.cond (.tmp 47) (.seq (.reg k_gauge_trueFor_r11 false) .ret) .skip)) (.seq (.reg k_gauge_trueFor_r12 false) .ret)))))), res := [.cell 6 (some ((some (2)))), .cell 7 (some (none))] }
theorem k_gauge_trueFor_ok : cfun Tryd.prog Tryd.f68 = k_gauge_trueFor := by kernel_rfl

def k_gauge_isEmpty_r0 : List AOper := [
  ⟨(some (1)), .box (.tmp 0), none, []⟩, 
  ⟨(some (2)), .move (.const (.bool false)), none, []⟩]
def k_gauge_isEmpty_r1 : List AOper := [
  ⟨(some (3)), .fieldAddr 0 (.tmp 1), none, []⟩, 
  ⟨(some (4)), .load none (.tmp 3), none, []⟩, 
  ⟨(some (5)), .fieldAddr 1 (.tmp 1), none, []⟩, 
  ⟨(some (6)), .load none (.tmp 5), none, []⟩, 
  ⟨(some (7)), .bin .plain .gtr (.tmp 4) (.tmp 6), none, []⟩, 
  ⟨(some (2)), .move (.tmp 7), none, []⟩]
def k_gauge_isEmpty : AFun := { params := 1, ntmps := 8, body := (.seq (.reg k_gauge_isEmpty_r0 false) (.seq (.reg k_gauge_isEmpty_r1 false) .ret)), res := [.tmp 2] }
theorem k_gauge_isEmpty_ok : cfun Tryd.prog Tryd.f70 = k_gauge_isEmpty := by kernel_rfl

def k_gauge_common_r0 : List AOper := [
  ⟨(some (2)), .box (.tmp 0), none, []⟩, 
  ⟨(some (3)), .box (.tmp 1), none, []⟩, 
  ⟨(some (4)), .box (.const (.agg [.int .i64 0, .int .i64 0])), none, []⟩]
def k_gauge_common_r1 : List AOper := [
  ⟨(some (5)), .fieldAddr 0 (.tmp 2), none, []⟩, 
  ⟨(some (6)), .load none (.tmp 5), none, []⟩, 
  ⟨(some (7)), .fieldAddr 0 (.tmp 3), none, []⟩, 
  ⟨(some (8)), .load none (.tmp 7), none, []⟩, 
  ⟨(some (9)), .minmax true [.tmp 6, .tmp 8], none, []⟩, 
  ⟨(some (10)), .fieldAddr 1 (.tmp 2), none, []⟩, 
  ⟨(some (11)), .load none (.tmp 10), none, []⟩, 
  ⟨(some (12)), .fieldAddr 1 (.tmp 3), none, []⟩, 
  ⟨(some (13)), .load none (.tmp 12), none, []⟩, 
  ⟨(some (14)), .minmax false [.tmp 11, .tmp 13], none, []⟩, 
  ⟨(some (15)), .build [.int .i64 0, .int .i64 0] [(0, 1, .tmp 9), (1, 1, .tmp 14)], none, []⟩, 
  ⟨none, .store 2 (.tmp 4) (.tmp 15), none, []⟩]
def k_gauge_common : AFun := { params := 2, ntmps := 16, body := (.seq (.reg k_gauge_common_r0 false) (.seq (.reg k_gauge_common_r1 false) .ret)), res := [.cell 4 (some ((some (2))))] }
theorem k_gauge_common_ok : cfun Tryd.prog Tryd.f71 = k_gauge_common := by kernel_rfl

def k_ref07_Up_r0 : List AOper := [
  ⟨(some (4)), .move (.const (.int .i64 0)), none, []⟩]
def k_ref07_Up_r1 : List AOper := [
  ⟨(some (5)), .move (.tmp 0), none, []⟩, 
  ⟨(some (6)), .neg (.tmp 5), none, []⟩, 
  ⟨(some (7)), .move (.tmp 1), none, []⟩, 
  ⟨(some (8)), .call (.const (.fn (.func 67) [] [])) [.tmp 6, .tmp 7], none, []⟩, 
  ⟨(some (9)), .neg (.tmp 8), none, []⟩, 
  ⟨(some (4)), .move (.tmp 9), none, []⟩]
def k_ref07_Up : AFun := { params := 2, ntmps := 10, body := (.seq (.reg k_ref07_Up_r0 false) (.seq (.reg k_ref07_Up_r1 false) .ret)), res := [.tmp 4] }
theorem k_ref07_Up_ok : cfun Tryd.prog Tryd.f75 = k_ref07_Up := by kernel_rfl

def k_gauge_checkDrift_r0 : List AOper := [
  ⟨(some (2)), .box (.tmp 0), none, []⟩, 
  ⟨(some (3)), .box (.tmp 1), none, []⟩, 
  ⟨(some (4)), .move (.const (.int .i64 0)), none, []⟩]
def k_gauge_checkDrift_r1 : List AOper := [
  ⟨(some (5)), .load (some (2)) (.tmp 2), none, []⟩, 
  ⟨(some (6)), .call (.const (.fn (.func 111) [] [])) [.tmp 5, .const (.int .i64 (-1000000000)), .const (.int .i64 1000000000)], none, []⟩, 
  ⟨(some (7)), .not (.tmp 6), none, []⟩, 
  ⟨(some (8)), .move (.tmp 7), none, []⟩, 
  ⟨(some (9)), .load (some (2)) (.tmp 3), (some (8, false)), []⟩, 
  ⟨(some (10)), .call (.const (.fn (.func 111) [] [])) [.tmp 9, .const (.int .i64 (-1000000)), .const (.int .i64 1000000)], (some (8, false)), []⟩, 
  ⟨(some (11)), .not (.tmp 10), (some (8, false)), []⟩, 
  ⟨(some (12)), .pick (.tmp 8) (.const (.bool true)) (.tmp 11), none, []⟩]
def k_gauge_checkDrift_r2 : List AOper := [
  ⟨(some (4)), .move (.const (.int .i64 2)), none, []⟩]
def k_gauge_checkDrift_r3 : List AOper := [
  ⟨(some (13)), .load (some (2)) (.tmp 2), none, []⟩, 
  ⟨(some (14)), .call (.const (.fn (.func 70) [] [])) [.tmp 13], none, []⟩, 
  ⟨(some (15)), .move (.tmp 14), none, []⟩, 
  ⟨(some (16)), .load (some (2)) (.tmp 3), (some (15, false)), []⟩, 
  ⟨(some (17)), .call (.const (.fn (.func 70) [] [])) [.tmp 16], (some (15, false)), []⟩, 
  ⟨(some (18)), .pick (.tmp 15) (.const (.bool true)) (.tmp 17), none, []⟩]
def k_gauge_checkDrift_r4 : List AOper := [
  ⟨(some (4)), .move (.const (.int .i64 11)), none, []⟩]
def k_gauge_checkDrift_r5 : List AOper := [
  ⟨(some (4)), .move (.const (.int .i64 0)), none, []⟩]
def k_gauge_checkDrift : AFun := { params := 2, ntmps := 19, body := (.seq (.reg k_gauge_checkDrift_r0 false) (.seq (.seq (.reg k_gauge_checkDrift_r1 false) (.cond (.tmp 12) (.seq (.reg k_gauge_checkDrift_r2 false) .ret) .skip)) (.seq (.seq (.reg k_gauge_checkDrift_r3 false) (.cond (.tmp 18) (.seq (.reg k_gauge_checkDrift_r4 false) .ret) .skip)) (.seq (.reg k_gauge_checkDrift_r5 false) .ret)))), res := [.tmp 4] }
theorem k_gauge_checkDrift_ok : cfun Tryd.prog Tryd.f82 = k_gauge_checkDrift := by kernel_rfl

def k_gauge_within_r0 : List AOper := [
  ⟨(some (6)), .move (.const (.bool false)), none, []⟩]
def k_gauge_within_r1 : List AOper := [
  ⟨(some (7)), .move (.tmp 1), none, []⟩, 
  ⟨(some (8)), .move (.tmp 0), none, []⟩, 
  ⟨(some (9)), .bin .plain .leq (.tmp 7) (.tmp 8), none, []⟩, 
  ⟨(some (10)), .move (.tmp 9), none, []⟩, 
  ⟨(some (11)), .move (.tmp 0), (some (10, true)), []⟩, 
  ⟨(some (12)), .move (.tmp 2), (some (10, true)), []⟩, 
  ⟨(some (13)), .bin .plain .leq (.tmp 11) (.tmp 12), (some (10, true)), []⟩, 
  ⟨(some (14)), .pick (.tmp 10) (.tmp 13) (.const (.bool false)), none, []⟩, 
  ⟨(some (6)), .move (.tmp 14), none, []⟩]
def k_gauge_within : AFun := { params := 3, ntmps := 15, body := (.seq (.reg k_gauge_within_r0 false) (.seq (.reg k_gauge_within_r1 false) .ret)), res := [.tmp 6] }
theorem k_gauge_within_ok : cfun Tryd.prog Tryd.f83 = k_gauge_within := by kernel_rfl

def k_gauge_aged_r0 : List AOper := [
  ⟨(some (3)), .box (.tmp 0), none, []⟩, 
  ⟨(some (4)), .box (.tmp 1), none, []⟩, 
  ⟨(some (6)), .box (.const (.agg [.int .i64 0, .int .i64 0])), none, []⟩]
def k_gauge_aged_r1 : List AOper := [
  ⟨(some (7)), .fieldAddr 0 (.tmp 3), none, []⟩, 
  ⟨(some (8)), .load none (.tmp 7), none, []⟩, 
  ⟨(some (9)), .move (.tmp 2), none, [0, 1]⟩, 
  ⟨(some (10)), .fieldAddr 0 (.tmp 4), none, [0, 1, 2]⟩, 
  ⟨(some (11)), .load none (.tmp 10), none, [0, 1, 2]⟩, 
  ⟨(some (12)), .bin .plain .mul (.tmp 9) (.tmp 11), none, [0, 1]⟩, 
  ⟨(some (13)), .call (.const (.fn (.func 98) [] [])) [.tmp 12, .const (.int .i64 1000)], none, [0, 1]⟩, 
  ⟨(some (14)), .bin .plain .add (.tmp 8) (.tmp 13), none, []⟩, 
  ⟨(some (15)), .fieldAddr 1 (.tmp 3), none, [0, 1, 2, 3, 4, 5, 6, 7]⟩, 
  ⟨(some (16)), .load none (.tmp 15), none, [0, 1, 2, 3, 4, 5, 6, 7]⟩, 
  ⟨(some (17)), .move (.tmp 2), none, [0, 1, 2, 3, 4, 5, 6, 7, 8, 9]⟩, 
  ⟨(some (18)), .fieldAddr 1 (.tmp 4), none, [0, 1, 2, 3, 4, 5, 6, 7, 8, 9, 10]⟩, 
  ⟨(some (19)), .load none (.tmp 18), none, [0, 1, 2, 3, 4, 5, 6, 7, 8, 9, 10]⟩, 
  ⟨(some (20)), .bin .plain .mul (.tmp 17) (.tmp 19), none, [0, 1, 2, 3, 4, 5, 6, 7, 8, 9]⟩, 
  ⟨(some (21)), .call (.const (.fn (.func 99) [] [])) [.tmp 20, .const (.int .i64 1000)], none, [0, 1, 7, 8, 9]⟩, 
  ⟨(some (22)), .bin .plain .add (.tmp 16) (.tmp 21), none, [0, 1, 7]⟩, 
  ⟨(some (23)), .build [.int .i64 0, .int .i64 0] [(0, 1, .tmp 14), (1, 1, .tmp 22)], none, []⟩, 
  ⟨none, .store 2 (.tmp 6) (.tmp 23), none, []⟩]
def k_gauge_aged_r1s : List (List AOper) := [
  [
  ⟨(some (7)), .fieldAddr 0 (.tmp 3), none, []⟩, 
  ⟨(some (8)), .load none (.tmp 7), none, []⟩, 
  ⟨(some (9)), .move (.tmp 2), none, [0, 1]⟩, 
  ⟨(some (10)), .fieldAddr 0 (.tmp 4), none, [0, 1, 2]⟩, 
  ⟨(some (11)), .load none (.tmp 10), none, [0, 1, 2]⟩, 
  ⟨(some (12)), .bin .plain .mul (.tmp 9) (.tmp 11), none, [0, 1]⟩, 
  ⟨(some (13)), .call (.const (.fn (.func 98) [] [])) [.tmp 12, .const (.int .i64 1000)], none, [0, 1]⟩, 
  ⟨(some (14)), .bin .plain .add (.tmp 8) (.tmp 13), none, []⟩, 
  ⟨(some (15)), .fieldAddr 1 (.tmp 3), none, [0, 1, 2, 3, 4, 5, 6, 7]⟩, 
  ⟨(some (16)), .load none (.tmp 15), none, [0, 1, 2, 3, 4, 5, 6, 7]⟩, 
  ⟨(some (17)), .move (.tmp 2), none, [0, 1, 2, 3, 4, 5, 6, 7, 8, 9]⟩, 
  ⟨(some (18)), .fieldAddr 1 (.tmp 4), none, [0, 1, 2, 3, 4, 5, 6, 7, 8, 9, 10]⟩, 
  ⟨(some (19)), .load none (.tmp 18), none, [0, 1, 2, 3, 4, 5, 6, 7, 8, 9, 10]⟩, 
  ⟨(some (20)), .bin .plain .mul (.tmp 17) (.tmp 19), none, [0, 1, 2, 3, 4, 5, 6, 7, 8, 9]⟩, 
  ⟨(some (21)), .call (.const (.fn (.func 99) [] [])) [.tmp 20, .const (.int .i64 1000)], none, [0, 1, 7, 8, 9]⟩, 
  ⟨(some (22)), .bin .plain .add (.tmp 16) (.tmp 21), none, [0, 1, 7]⟩], 
  [
  ⟨(some (23)), .build [.int .i64 0, .int .i64 0] [(0, 1, .tmp 14), (1, 1, .tmp 22)], none, []⟩], 
  [
  ⟨none, .store 2 (.tmp 6) (.tmp 23), none, []⟩]]
theorem k_gauge_aged_r1_sg : segs k_gauge_aged_r1 = k_gauge_aged_r1s := by kernel_rfl
theorem k_gauge_aged_r1_st : statOK k_gauge_aged_r1 = true := by kernel_rfl
def k_gauge_aged : AFun := { params := 3, ntmps := 24, body := (.seq (.reg k_gauge_aged_r0 false) (.seq (.reg k_gauge_aged_r1 true) .ret)), res := [.cell 6 (some ((some (2))))] }
theorem k_gauge_aged_ok : cfun Tryd.prog Tryd.f84 = k_gauge_aged := by kernel_rfl

def k_gauge_checkRange_r0 : List AOper := [
  ⟨(some (3)), .box (.tmp 0), none, []⟩, 
  ⟨(some (6)), .move (.const (.int .i64 0)), none, []⟩]
def k_gauge_checkRange_r1 : List AOper := [
  ⟨(some (7)), .load (some (2)) (.tmp 3), none, []⟩, 
  ⟨(some (8)), .move (.tmp 1), none, []⟩, 
  ⟨(some (9)), .move (.tmp 2), none, []⟩, 
  ⟨(some (10)), .call (.const (.fn (.func 111) [] [])) [.tmp 7, .tmp 8, .tmp 9], none, []⟩, 
  ⟨(some (11)), .not (.tmp 10), none, []⟩]
def k_gauge_checkRange_r2 : List AOper := [
  ⟨(some (6)), .move (.const (.int .i64 2)), none, []⟩]
def k_gauge_checkRange_r3 : List AOper := [
  ⟨(some (12)), .load (some (2)) (.tmp 3), none, []⟩, 
  ⟨(some (13)), .call (.const (.fn (.func 70) [] [])) [.tmp 12], none, []⟩]
def k_gauge_checkRange_r4 : List AOper := [
  ⟨(some (6)), .move (.const (.int .i64 11)), none, []⟩]
def k_gauge_checkRange_r5 : List AOper := [
  ⟨(some (6)), .move (.const (.int .i64 0)), none, []⟩]
def k_gauge_checkRange : AFun := { params := 3, ntmps := 14, body := (.seq (.reg k_gauge_checkRange_r0 false) (.seq (.seq (.reg k_gauge_checkRange_r1 false) (.cond (.tmp 11) (.seq (.reg k_gauge_checkRange_r2 false) .ret) .skip)) (.seq (.seq (.reg k_gauge_checkRange_r3 false) (.cond (.tmp 13) (.seq (.reg k_gauge_checkRange_r4 false) .ret) .skip)) (.seq (.reg k_gauge_checkRange_r5 false) .ret)))), res := [.tmp 6] }
theorem k_gauge_checkRange_ok : cfun Tryd.prog Tryd.f87 = k_gauge_checkRange := by kernel_rfl

def k_gauge_Keeps_1_r0 : List AOper := [
  ⟨(some (5)), .move (.const (.int .i64 0)), none, []⟩]
def k_gauge_Keeps_1_r1 : List AOper := [
  ⟨(some (6)), .load (some (2)) (.tmp 1), none, []⟩, 
  ⟨(some (7)), .load (some (2)) (.tmp 2), none, [0]⟩, 
  ⟨(some (8)), .move (.tmp 0), none, [0, 1]⟩, 
  ⟨(some (9)), .call (.const (.fn (.func 84) [] [])) [.tmp 6, .tmp 7, .tmp 8], none, []⟩, 
  ⟨(some (10)), .load (some (2)) (.tmp 3), none, [0, 1, 2, 3]⟩, 
  ⟨(some (11)), .call (.const (.fn (.func 34) [] [])) [.tmp 9, .tmp 10], none, []⟩, 
  ⟨(some (5)), .move (.tmp 11), none, []⟩]
def k_gauge_Keeps_1_r1s : List (List AOper) := [
  [
  ⟨(some (6)), .load (some (2)) (.tmp 1), none, []⟩, 
  ⟨(some (7)), .load (some (2)) (.tmp 2), none, [0]⟩, 
  ⟨(some (8)), .move (.tmp 0), none, [0, 1]⟩, 
  ⟨(some (9)), .call (.const (.fn (.func 84) [] [])) [.tmp 6, .tmp 7, .tmp 8], none, []⟩, 
  ⟨(some (10)), .load (some (2)) (.tmp 3), none, [0, 1, 2, 3]⟩], 
  [
  ⟨(some (11)), .call (.const (.fn (.func 34) [] [])) [.tmp 9, .tmp 10], none, []⟩], 
  [
  ⟨(some (5)), .move (.tmp 11), none, []⟩]]
theorem k_gauge_Keeps_1_r1_sg : segs k_gauge_Keeps_1_r1 = k_gauge_Keeps_1_r1s := by kernel_rfl
theorem k_gauge_Keeps_1_r1_st : statOK k_gauge_Keeps_1_r1 = true := by kernel_rfl
def k_gauge_Keeps_1 : AFun := { params := 4, ntmps := 12, body := (.seq (.reg k_gauge_Keeps_1_r0 false) (.seq (.reg k_gauge_Keeps_1_r1 true) .ret)), res := [.tmp 5] }
theorem k_gauge_Keeps_1_ok : cfun Tryd.prog Tryd.f88 = k_gauge_Keeps_1 := by kernel_rfl

def k_gauge_lastTick_r0 : List AOper := [
  ⟨(some (1)), .box (.tmp 0), none, []⟩, 
  ⟨(some (2)), .move (.const (.int .i64 0)), none, []⟩]
def k_gauge_lastTick_r1 : List AOper := [
  ⟨(some (3)), .load none (.tmp 1), none, []⟩, 
  ⟨(some (4)), .call (.tmp 3) [.const (.int .i64 0)], none, []⟩, 
  ⟨(some (5)), .not (.tmp 4), none, []⟩]
def k_gauge_lastTick_r2 : List AOper := [
  ⟨(some (2)), .move (.const (.int .i64 (-1))), none, []⟩]
def k_gauge_lastTick_r3 : List AOper := [
  ⟨(some (6)), .makeFunc (.func 113) [] [.tmp 1], none, []⟩, 
  ⟨(some (7)), .call (.const (.fn (.func 112) [] [])) [.const (.int .i64 1000000), .tmp 6], none, []⟩, 
  ⟨(some (2)), .move (.tmp 7), none, []⟩]
def k_gauge_lastTick : AFun := { params := 1, ntmps := 8, body := (.seq (.reg k_gauge_lastTick_r0 false) (.seq (.seq (.reg k_gauge_lastTick_r1 false) (.cond (.tmp 5) (.seq (.reg k_gauge_lastTick_r2 false) .ret) .skip)) (.seq (.reg k_gauge_lastTick_r3 false) .ret))), res := [.tmp 2] }
theorem k_gauge_lastTick_ok : cfun Tryd.prog Tryd.f89 = k_gauge_lastTick := by kernel_rfl

def k_gauge_Keeps_2_r0 : List AOper := [
  ⟨(some (3)), .move (.const (.bool false)), none, []⟩]
def k_gauge_Keeps_2_r1 : List AOper := [
  ⟨(some (4)), .load none (.tmp 1), none, []⟩, 
  ⟨(some (5)), .move (.tmp 0), none, []⟩, 
  ⟨(some (6)), .call (.tmp 4) [.tmp 5], none, []⟩, 
  ⟨(some (7)), .bin .plain .eql (.tmp 6) (.const (.int .i64 1)), none, []⟩, 
  ⟨(some (3)), .move (.tmp 7), none, []⟩]
def k_gauge_Keeps_2 : AFun := { params := 2, ntmps := 8, body := (.seq (.reg k_gauge_Keeps_2_r0 false) (.seq (.reg k_gauge_Keeps_2_r1 false) .ret)), res := [.tmp 3] }
theorem k_gauge_Keeps_2_ok : cfun Tryd.prog Tryd.f90 = k_gauge_Keeps_2 := by kernel_rfl

def k_gauge_Keeps_3_r0 : List AOper := [
  ⟨(some (3)), .move (.const (.bool false)), none, []⟩]
def k_gauge_Keeps_3_r1 : List AOper := [
  ⟨(some (4)), .load none (.tmp 1), none, []⟩, 
  ⟨(some (5)), .move (.tmp 0), none, []⟩, 
  ⟨(some (6)), .call (.tmp 4) [.tmp 5], none, []⟩, 
  ⟨(some (7)), .bin .plain .neq (.tmp 6) (.const (.int .i64 2)), none, []⟩, 
  ⟨(some (3)), .move (.tmp 7), none, []⟩]
def k_gauge_Keeps_3 : AFun := { params := 2, ntmps := 8, body := (.seq (.reg k_gauge_Keeps_3_r0 false) (.seq (.reg k_gauge_Keeps_3_r1 false) .ret)), res := [.tmp 3] }
theorem k_gauge_Keeps_3_ok : cfun Tryd.prog Tryd.f91 = k_gauge_Keeps_3 := by kernel_rfl

def k_ref07_checkRange_r0 : List AOper := [
  ⟨(some (3)), .box (.tmp 0), none, []⟩, 
  ⟨(some (6)), .move (.const (.int .i64 0)), none, []⟩]
def k_ref07_checkRange_r1 : List AOper := [
  ⟨(some (7)), .fieldAddr 0 (.tmp 3), none, []⟩, 
  ⟨(some (8)), .load none (.tmp 7), none, []⟩, 
  ⟨(some (9)), .move (.tmp 1), none, []⟩, 
  ⟨(some (10)), .move (.tmp 2), none, []⟩, 
  ⟨(some (11)), .call (.const (.fn (.func 58) [] [])) [.tmp 8, .tmp 9, .tmp 10], none, []⟩, 
  ⟨(some (12)), .move (.tmp 11), none, []⟩, 
  ⟨(some (13)), .fieldAddr 1 (.tmp 3), (some (12, false)), []⟩, 
  ⟨(some (14)), .load none (.tmp 13), (some (12, false)), []⟩, 
  ⟨(some (15)), .move (.tmp 1), (some (12, false)), []⟩, 
  ⟨(some (16)), .move (.tmp 2), (some (12, false)), []⟩, 
  ⟨(some (17)), .call (.const (.fn (.func 58) [] [])) [.tmp 14, .tmp 15, .tmp 16], (some (12, false)), []⟩, 
  ⟨(some (18)), .pick (.tmp 12) (.const (.bool true)) (.tmp 17), none, []⟩]
def k_ref07_checkRange_r2 : List AOper := [
  ⟨(some (6)), .move (.const (.int .i64 2)), none, []⟩]
def k_ref07_checkRange_r3 : List AOper := [
  ⟨(some (19)), .fieldAddr 0 (.tmp 3), none, []⟩, 
  ⟨(some (20)), .load none (.tmp 19), none, []⟩, 
  ⟨(some (21)), .fieldAddr 1 (.tmp 3), none, []⟩, 
  ⟨(some (22)), .load none (.tmp 21), none, []⟩, 
  ⟨(some (23)), .bin .plain .gtr (.tmp 20) (.tmp 22), none, []⟩]
def k_ref07_checkRange_r4 : List AOper := [
  ⟨(some (6)), .move (.const (.int .i64 11)), none, []⟩]
def k_ref07_checkRange_r5 : List AOper := [
  ⟨(some (6)), .move (.const (.int .i64 0)), none, []⟩]
def k_ref07_checkRange : AFun := { params := 3, ntmps := 24, body := (.seq (.reg k_ref07_checkRange_r0 false) (.seq (.seq (.reg k_ref07_checkRange_r1 false) (.cond (.tmp 18) (.seq (.reg k_ref07_checkRange_r2 false) .ret) .skip)) (.seq (.seq (.reg k_ref07_checkRange_r3 false) (.cond (.tmp 23) (.seq (.reg k_ref07_checkRange_r4 false) .ret) .skip)) (.seq (.reg k_ref07_checkRange_r5 false) .ret)))), res := [.tmp 6] }
theorem k_ref07_checkRange_ok : cfun Tryd.prog Tryd.f92 = k_ref07_checkRange := by kernel_rfl

def k_gauge_choose_r0 : List AOper := [
  ⟨(some (4)), .move (.const (.int .i64 0)), none, []⟩]
def k_gauge_choose_r1 : List AOper := [
  ⟨(some (5)), .move (.const (.int .i64 1)), none, []⟩]
def k_gauge_choose_r2 : List AOper := [
  ⟨(some (7)), .move (.tmp 1), none, []⟩, 
  ⟨(some (8)), .move (.const (.int .i64 0)), none, []⟩]
def k_gauge_choose_r3 : List AOper := [
  ⟨(some (9)), .bin .plain .lss (.tmp 8) (.tmp 7), none, []⟩]
def k_gauge_choose_r4 : List AOper := [
  ⟨(some (10)), .move (.tmp 8), none, []⟩, 
  ⟨(some (6)), .move (.tmp 10), none, []⟩]
def k_gauge_choose_r5 : List AOper := [
  ⟨(some (11)), .move (.tmp 5), none, []⟩, 
  ⟨(some (12)), .move (.tmp 0), none, []⟩, 
  ⟨(some (13)), .move (.tmp 6), none, []⟩, 
  ⟨(some (14)), .bin .plain .sub (.tmp 12) (.tmp 13), none, []⟩, 
  ⟨(some (15)), .bin .plain .mul (.tmp 11) (.tmp 14), none, []⟩, 
  ⟨(some (16)), .move (.tmp 6), none, []⟩, 
  ⟨(some (17)), .bin .plain .add (.tmp 16) (.const (.int .i64 1)), none, []⟩, 
  ⟨(some (18)), .bin .plain .quo (.tmp 15) (.tmp 17), none, []⟩, 
  ⟨(some (5)), .move (.tmp 18), none, []⟩]
def k_gauge_choose_r6 : List AOper := [
  ⟨(some (19)), .bin .plain .add (.tmp 8) (.const (.int .i64 1)), none, []⟩, 
  ⟨(some (8)), .move (.tmp 19), none, []⟩]
def k_gauge_choose_r7 : ACode := (.seq (.reg k_gauge_choose_r3 false) (.seq (.cond (.tmp 9) .skip (.exit 0)) (.seq (.block 1 (.seq (.reg k_gauge_choose_r4 false) (.reg k_gauge_choose_r5 false))) (.reg k_gauge_choose_r6 false))))
def k_gauge_choose_r8 : List AOper := [
  ⟨(some (20)), .move (.tmp 5), none, []⟩, 
  ⟨(some (4)), .move (.tmp 20), none, []⟩]
def k_gauge_choose : AFun := { params := 2, ntmps := 21, body := (.seq (.reg k_gauge_choose_r0 false) (.seq (.reg k_gauge_choose_r1 false) (.seq (.seq (.reg k_gauge_choose_r2 false) (.block 0 (.loop k_gauge_choose_r7))) (.seq (.reg k_gauge_choose_r8 false) .ret)))), res := [.tmp 4] }
theorem k_gauge_choose_ok : cfun Tryd.prog Tryd.f94 = k_gauge_choose := by kernel_rfl

def k_gauge_waysWith_r0 : List AOper := [
  ⟨(some (8)), .move (.const (.int .i64 0)), none, []⟩]
def k_gauge_waysWith_r1 : List AOper := [
  ⟨(some (9)), .move (.tmp 1), none, []⟩, 
  ⟨(some (10)), .move (.tmp 3), none, []⟩, 
  ⟨(some (11)), .call (.const (.fn (.func 94) [] [])) [.tmp 9, .tmp 10], none, []⟩, 
  ⟨(some (12)), .move (.tmp 0), none, []⟩, 
  ⟨(some (13)), .move (.tmp 1), none, []⟩, 
  ⟨(some (14)), .bin .plain .sub (.tmp 12) (.tmp 13), none, []⟩, 
  ⟨(some (15)), .move (.tmp 2), none, []⟩, 
  ⟨(some (16)), .move (.tmp 3), none, []⟩, 
  ⟨(some (17)), .bin .plain .sub (.tmp 15) (.tmp 16), none, []⟩, 
  ⟨(some (18)), .call (.const (.fn (.func 94) [] [])) [.tmp 14, .tmp 17], none, []⟩, 
  ⟨(some (19)), .bin .plain .mul (.tmp 11) (.tmp 18), none, []⟩, 
  ⟨(some (8)), .move (.tmp 19), none, []⟩]
def k_gauge_waysWith : AFun := { params := 4, ntmps := 20, body := (.seq (.reg k_gauge_waysWith_r0 false) (.seq (.reg k_gauge_waysWith_r1 false) .ret)), res := [.tmp 8] }
theorem k_gauge_waysWith_ok : cfun Tryd.prog Tryd.f95 = k_gauge_waysWith := by kernel_rfl

def k_gauge_isMeter_r0 : List AOper := [
  ⟨(some (4)), .move (.const (.bool false)), none, []⟩]
def k_gauge_isMeter_r1 : List AOper := [
  ⟨(some (5)), .move (.tmp 1), none, []⟩, 
  ⟨(some (6)), .move (.tmp 0), none, []⟩, 
  ⟨(some (7)), .len false (.tmp 6), none, []⟩, 
  ⟨(some (8)), .bin .plain .sub (.tmp 7) (.const (.int .i64 1)), none, []⟩, 
  ⟨(some (9)), .call (.const (.fn (.func 83) [] [])) [.tmp 5, .const (.int .i64 0), .tmp 8], none, []⟩, 
  ⟨(some (4)), .move (.tmp 9), none, []⟩]
def k_gauge_isMeter : AFun := { params := 2, ntmps := 10, body := (.seq (.reg k_gauge_isMeter_r0 false) (.seq (.reg k_gauge_isMeter_r1 false) .ret)), res := [.tmp 4] }
theorem k_gauge_isMeter_ok : cfun Tryd.prog Tryd.f96 = k_gauge_isMeter := by kernel_rfl

def k_gauge_chain_1_r0 : List AOper := [
  ⟨(some (4)), .load none (.tmp 1), none, []⟩, 
  ⟨(some (5)), .bin .plain .neq (.tmp 4) (.const (.int .i64 (-1))), none, []⟩]
def k_gauge_chain_1_r1 : List AOper := [
  ⟨(some (11)), .move (.tmp 0), none, []⟩, 
  ⟨(some (12)), .load none (.tmp 1), none, [0]⟩, 
  ⟨(some (13)), .load none (.tmp 2), none, [0, 1]⟩, 
  ⟨(some (14)), .load none (.tmp 1), none, [0, 1, 2]⟩, 
  ⟨(some (15)), .indexAddr 7 (.tmp 13) (.tmp 14), none, [0, 1]⟩, 
  ⟨(some (16)), .load (some (7)) (.tmp 15), none, [0, 1]⟩, 
  ⟨(some (17)), .call (.tmp 11) [.tmp 12, .tmp 16], none, []⟩, 
  ⟨(some (18)), .not (.tmp 17), none, []⟩]
def k_gauge_chain_1_r1s : List (List AOper) := [
  [
  ⟨(some (11)), .move (.tmp 0), none, []⟩, 
  ⟨(some (12)), .load none (.tmp 1), none, [0]⟩, 
  ⟨(some (13)), .load none (.tmp 2), none, [0, 1]⟩, 
  ⟨(some (14)), .load none (.tmp 1), none, [0, 1, 2]⟩, 
  ⟨(some (15)), .indexAddr 7 (.tmp 13) (.tmp 14), none, [0, 1]⟩, 
  ⟨(some (16)), .load (some (7)) (.tmp 15), none, [0, 1]⟩], 
  [
  ⟨(some (17)), .call (.tmp 11) [.tmp 12, .tmp 16], none, []⟩], 
  [
  ⟨(some (18)), .not (.tmp 17), none, []⟩]]
theorem k_gauge_chain_1_r1_sg : segs k_gauge_chain_1_r1 = k_gauge_chain_1_r1s := by kernel_rfl
theorem k_gauge_chain_1_r1_st : statOK k_gauge_chain_1_r1 = true := by kernel_rfl
def k_gauge_chain_1_r2 : List AOper := [
  ⟨(some (6)), .load none (.tmp 2), none, []⟩, 
  ⟨(some (7)), .load none (.tmp 1), none, []⟩, 
  ⟨(some (8)), .indexAddr 7 (.tmp 6) (.tmp 7), none, []⟩, 
  ⟨(some (9)), .fieldAddr 5 (.tmp 8), none, []⟩, 
  ⟨(some (10)), .load none (.tmp 9), none, []⟩, 
  ⟨none, .store 1 (.tmp 1) (.tmp 10), none, []⟩]
def k_gauge_chain_1_r3 : ACode := (.seq (.seq (.reg k_gauge_chain_1_r0 false) (.cond (.tmp 5) .skip (.exit 0))) (.seq (.block 1 (.seq (.reg k_gauge_chain_1_r1 true) (.cond (.tmp 18) .ret .skip))) (.reg k_gauge_chain_1_r2 false)))
def k_gauge_chain_1 : AFun := { params := 3, ntmps := 19, body := (.block 0 (.loop k_gauge_chain_1_r3)), res := [] }
theorem k_gauge_chain_1_ok : cfun Tryd.prog Tryd.f97 = k_gauge_chain_1 := by kernel_rfl

def k_gauge_roundDown_r0 : List AOper := [
  ⟨(some (4)), .move (.const (.int .i64 0)), none, []⟩]
def k_gauge_roundDown_r1 : List AOper := [
  ⟨(some (5)), .move (.tmp 0), none, []⟩, 
  ⟨(some (6)), .move (.tmp 1), none, []⟩, 
  ⟨(some (7)), .bin .plain .rem (.tmp 5) (.tmp 6), none, []⟩, 
  ⟨(some (8)), .bin .plain .lss (.tmp 7) (.const (.int .i64 0)), none, []⟩]
def k_gauge_roundDown_r2 : List AOper := [
  ⟨(some (9)), .move (.tmp 0), none, []⟩, 
  ⟨(some (10)), .move (.tmp 1), none, []⟩, 
  ⟨(some (11)), .bin .plain .quo (.tmp 9) (.tmp 10), none, []⟩, 
  ⟨(some (12)), .bin .plain .sub (.tmp 11) (.const (.int .i64 1)), none, []⟩, 
  ⟨(some (4)), .move (.tmp 12), none, []⟩]
def k_gauge_roundDown_r3 : List AOper := [
  ⟨(some (13)), .move (.tmp 0), none, []⟩, 
  ⟨(some (14)), .move (.tmp 1), none, []⟩, 
  ⟨(some (15)), .bin .plain .quo (.tmp 13) (.tmp 14), none, []⟩, 
  ⟨(some (4)), .move (.tmp 15), none, []⟩]
def k_gauge_roundDown : AFun := { params := 2, ntmps := 16, body := (.seq (.reg k_gauge_roundDown_r0 false) (.seq (.seq (.reg k_gauge_roundDown_r1 false) (.cond (.tmp 8) (.seq (.reg k_gauge_roundDown_r2 false) .ret) .skip)) (.seq (.reg k_gauge_roundDown_r3 false) .ret))), res := [.tmp 4] }
theorem k_gauge_roundDown_ok : cfun Tryd.prog Tryd.f98 = k_gauge_roundDown := by kernel_rfl

def k_gauge_roundUp_r0 : List AOper := [
  ⟨(some (4)), .move (.const (.int .i64 0)), none, []⟩]
def k_gauge_roundUp_r1 : List AOper := [
  ⟨(some (5)), .move (.tmp 0), none, []⟩, 
  ⟨(some (6)), .neg (.tmp 5), none, []⟩, 
  ⟨(some (7)), .move (.tmp 1), none, []⟩, 
  ⟨(some (8)), .call (.const (.fn (.func 98) [] [])) [.tmp 6, .tmp 7], none, []⟩, 
  ⟨(some (9)), .neg (.tmp 8), none, []⟩, 
  ⟨(some (4)), .move (.tmp 9), none, []⟩]
def k_gauge_roundUp : AFun := { params := 2, ntmps := 10, body := (.seq (.reg k_gauge_roundUp_r0 false) (.seq (.reg k_gauge_roundUp_r1 false) .ret)), res := [.tmp 4] }
theorem k_gauge_roundUp_ok : cfun Tryd.prog Tryd.f99 = k_gauge_roundUp := by kernel_rfl

def k_gauge_half_r0 : List AOper := [
  ⟨(some (1)), .box (.tmp 0), none, []⟩, 
  ⟨(some (2)), .move (.const (.int .i64 0)), none, []⟩]
def k_gauge_half_r1 : List AOper := [
  ⟨(some (3)), .fieldAddr 4 (.tmp 1), none, []⟩, 
  ⟨(some (4)), .load none (.tmp 3), none, []⟩, 
  ⟨(some (5)), .bin .plain .quo (.tmp 4) (.const (.int .i64 2)), none, []⟩, 
  ⟨(some (2)), .move (.tmp 5), none, []⟩]
def k_gauge_half : AFun := { params := 1, ntmps := 6, body := (.seq (.reg k_gauge_half_r0 false) (.seq (.reg k_gauge_half_r1 false) .ret)), res := [.tmp 2] }
theorem k_gauge_half_ok : cfun Tryd.prog Tryd.f100 = k_gauge_half := by kernel_rfl

def k_gauge_leastFor_r0 : List AOper := [
  ⟨(some (2)), .box (.tmp 0), none, []⟩, 
  ⟨(some (3)), .box (.tmp 1), none, []⟩, 
  ⟨(some (4)), .move (.const (.int .i64 0)), none, []⟩]
def k_gauge_leastFor_r1 : List AOper := [
  ⟨(some (5)), .makeFunc (.func 114) [] [.tmp 2, .tmp 3], none, []⟩, 
  ⟨(some (6)), .call (.const (.fn (.func 112) [] [])) [.const (.int .i64 8796093022209), .tmp 5], none, []⟩, 
  ⟨(some (7)), .bin .plain .sub (.tmp 6) (.const (.int .i64 4398046511104)), none, []⟩, 
  ⟨(some (4)), .move (.tmp 7), none, []⟩]
def k_gauge_leastFor : AFun := { params := 2, ntmps := 8, body := (.seq (.reg k_gauge_leastFor_r0 false) (.seq (.reg k_gauge_leastFor_r1 false) .ret)), res := [.tmp 4] }
theorem k_gauge_leastFor_ok : cfun Tryd.prog Tryd.f101 = k_gauge_leastFor := by kernel_rfl

def k_gauge_mostFor_r0 : List AOper := [
  ⟨(some (2)), .box (.tmp 0), none, []⟩, 
  ⟨(some (3)), .box (.tmp 1), none, []⟩, 
  ⟨(some (4)), .move (.const (.int .i64 0)), none, []⟩]
def k_gauge_mostFor_r1 : List AOper := [
  ⟨(some (5)), .makeFunc (.func 115) [] [.tmp 2, .tmp 3], none, []⟩, 
  ⟨(some (6)), .call (.const (.fn (.func 112) [] [])) [.const (.int .i64 8796093022209), .tmp 5], none, []⟩, 
  ⟨(some (7)), .bin .plain .sub (.tmp 6) (.const (.int .i64 4398046511104)), none, []⟩, 
  ⟨(some (8)), .bin .plain .sub (.tmp 7) (.const (.int .i64 1)), none, []⟩, 
  ⟨(some (4)), .move (.tmp 8), none, []⟩]
def k_gauge_mostFor : AFun := { params := 2, ntmps := 9, body := (.seq (.reg k_gauge_mostFor_r0 false) (.seq (.reg k_gauge_mostFor_r1 false) .ret)), res := [.tmp 4] }
theorem k_gauge_mostFor_ok : cfun Tryd.prog Tryd.f102 = k_gauge_mostFor := by kernel_rfl

def k_gauge_bothWithin_r0 : List AOper := [
  ⟨(some (3)), .box (.tmp 0), none, []⟩, 
  ⟨(some (6)), .move (.const (.bool false)), none, []⟩]
def k_gauge_bothWithin_r1 : List AOper := [
  ⟨(some (7)), .fieldAddr 0 (.tmp 3), none, []⟩, 
  ⟨(some (8)), .load none (.tmp 7), none, []⟩, 
  ⟨(some (9)), .move (.tmp 1), none, []⟩, 
  ⟨(some (10)), .move (.tmp 2), none, []⟩, 
  ⟨(some (11)), .call (.const (.fn (.func 83) [] [])) [.tmp 8, .tmp 9, .tmp 10], none, []⟩, 
  ⟨(some (12)), .move (.tmp 11), none, []⟩, 
  ⟨(some (13)), .fieldAddr 1 (.tmp 3), (some (12, true)), []⟩, 
  ⟨(some (14)), .load none (.tmp 13), (some (12, true)), []⟩, 
  ⟨(some (15)), .move (.tmp 1), (some (12, true)), []⟩, 
  ⟨(some (16)), .move (.tmp 2), (some (12, true)), []⟩, 
  ⟨(some (17)), .call (.const (.fn (.func 83) [] [])) [.tmp 14, .tmp 15, .tmp 16], (some (12, true)), []⟩, 
  ⟨(some (18)), .pick (.tmp 12) (.tmp 17) (.const (.bool false)), none, []⟩, 
  ⟨(some (6)), .move (.tmp 18), none, []⟩]
def k_gauge_bothWithin : AFun := { params := 3, ntmps := 19, body := (.seq (.reg k_gauge_bothWithin_r0 false) (.seq (.reg k_gauge_bothWithin_r1 false) .ret)), res := [.tmp 6] }
theorem k_gauge_bothWithin_ok : cfun Tryd.prog Tryd.f111 = k_gauge_bothWithin := by kernel_rfl

def k_sort_Search_r0 : List AOper := [
  ⟨(some (4)), .move (.const (.int .i64 0)), none, []⟩]
def k_sort_Search_r1 : List AOper := [
  ⟨(some (8)), .move (.tmp 0), none, []⟩, 
  ⟨(some (5)), .move (.const (.int .i64 0)), none, []⟩, 
  ⟨(some (6)), .move (.tmp 8), none, []⟩]
def k_sort_Search_r2 : List AOper := [
  ⟨(some (9)), .move (.tmp 5), none, []⟩, 
  ⟨(some (10)), .move (.tmp 6), none, []⟩, 
  ⟨(some (11)), .bin .plain .lss (.tmp 9) (.tmp 10), none, []⟩]
def k_sort_Search_r3 : List AOper := [
  ⟨(some (12)), .move (.tmp 5), none, []⟩, 
  ⟨(some (13)), .move (.tmp 6), none, []⟩, 
  ⟨(some (14)), .bin .plain .add (.tmp 12) (.tmp 13), none, []⟩, 
  ⟨(some (15)), .toInt .u64 (.tmp 14), none, []⟩, 
  ⟨(some (16)), .bin .plain .shr (.tmp 15) (.const (.int .u64 1)), none, []⟩, 
  ⟨(some (17)), .toInt .i64 (.tmp 16), none, []⟩, 
  ⟨(some (7)), .move (.tmp 17), none, []⟩]
def k_sort_Search_r4 : List AOper := [
  ⟨(some (18)), .move (.tmp 1), none, []⟩, 
  ⟨(some (19)), .move (.tmp 7), none, []⟩, 
  ⟨(some (20)), .call (.tmp 18) [.tmp 19], none, []⟩, 
  ⟨(some (21)), .not (.tmp 20), none, []⟩]
def k_sort_Search_r5 : List AOper := [
  ⟨(some (22)), .move (.tmp 7), none, []⟩, 
  ⟨(some (23)), .bin .plain .add (.tmp 22) (.const (.int .i64 1)), none, []⟩, 
  ⟨(some (5)), .move (.tmp 23), none, []⟩]
def k_sort_Search_r6 : List AOper := [
  ⟨(some (24)), .move (.tmp 7), none, []⟩, 
  ⟨(some (6)), .move (.tmp 24), none, []⟩]
def k_sort_Search_r7 : ACode := (.seq (.seq (.reg k_sort_Search_r2 false) (.cond (.tmp 11) .skip (.exit 0))) (.block 1 (.seq (.reg k_sort_Search_r3 false) (.seq (.reg k_sort_Search_r4 false) (.cond (.tmp 21) (.reg k_sort_Search_r5 false) (.reg k_sort_Search_r6 false))))))
def k_sort_Search_r8 : List AOper := [
  ⟨(some (25)), .move (.tmp 5), none, []⟩, 
  ⟨(some (4)), .move (.tmp 25), none, []⟩]
def k_sort_Search : AFun := { params := 2, ntmps := 26, body := (.seq (.reg k_sort_Search_r0 false) (.seq (.reg k_sort_Search_r1 false) (.seq (.block 0 (.loop k_sort_Search_r7)) (.seq (.reg k_sort_Search_r8 false) .ret)))), res := [.tmp 4] }
theorem k_sort_Search_ok : cfun Tryd.prog Tryd.f112 = k_sort_Search := by kernel_rfl

def k_gauge_lastTick_1_r0 : List AOper := [
  ⟨(some (3)), .move (.const (.bool false)), none, []⟩]
def k_gauge_lastTick_1_r1 : List AOper := [
  ⟨(some (4)), .load none (.tmp 1), none, []⟩, 
  ⟨(some (5)), .move (.tmp 0), none, []⟩, 
  ⟨(some (6)), .bin .plain .add (.tmp 5) (.const (.int .i64 1)), none, []⟩, 
  ⟨(some (7)), .call (.tmp 4) [.tmp 6], none, []⟩, 
  ⟨(some (8)), .not (.tmp 7), none, []⟩, 
  ⟨(some (3)), .move (.tmp 8), none, []⟩]
def k_gauge_lastTick_1 : AFun := { params := 2, ntmps := 9, body := (.seq (.reg k_gauge_lastTick_1_r0 false) (.seq (.reg k_gauge_lastTick_1_r1 false) .ret)), res := [.tmp 3] }
theorem k_gauge_lastTick_1_ok : cfun Tryd.prog Tryd.f113 = k_gauge_lastTick_1 := by kernel_rfl

def k_gauge_leastFor_1_r0 : List AOper := [
  ⟨(some (4)), .move (.const (.bool false)), none, []⟩]
def k_gauge_leastFor_1_r1 : List AOper := [
  ⟨(some (5)), .load (some (7)) (.tmp 1), none, []⟩, 
  ⟨(some (6)), .move (.tmp 0), none, [0]⟩, 
  ⟨(some (7)), .bin .plain .sub (.tmp 6) (.const (.int .i64 4398046511104)), none, [0]⟩, 
  ⟨(some (8)), .call (.const (.fn (.func 64) [] [])) [.tmp 5, .tmp 7], none, []⟩, 
  ⟨(some (9)), .field none 1 (.tmp 8), none, []⟩, 
  ⟨(some (10)), .load none (.tmp 2), none, [0, 1, 2, 3, 4]⟩, 
  ⟨(some (11)), .bin .plain .geq (.tmp 9) (.tmp 10), none, []⟩, 
  ⟨(some (4)), .move (.tmp 11), none, []⟩]
def k_gauge_leastFor_1_r1s : List (List AOper) := [
  [
  ⟨(some (5)), .load (some (7)) (.tmp 1), none, []⟩, 
  ⟨(some (6)), .move (.tmp 0), none, [0]⟩, 
  ⟨(some (7)), .bin .plain .sub (.tmp 6) (.const (.int .i64 4398046511104)), none, [0]⟩, 
  ⟨(some (8)), .call (.const (.fn (.func 64) [] [])) [.tmp 5, .tmp 7], none, []⟩, 
  ⟨(some (9)), .field none 1 (.tmp 8), none, []⟩, 
  ⟨(some (10)), .load none (.tmp 2), none, [0, 1, 2, 3, 4]⟩], 
  [
  ⟨(some (11)), .bin .plain .geq (.tmp 9) (.tmp 10), none, []⟩], 
  [
  ⟨(some (4)), .move (.tmp 11), none, []⟩]]
theorem k_gauge_leastFor_1_r1_sg : segs k_gauge_leastFor_1_r1 = k_gauge_leastFor_1_r1s := by kernel_rfl
theorem k_gauge_leastFor_1_r1_st : statOK k_gauge_leastFor_1_r1 = true := by kernel_rfl
def k_gauge_leastFor_1 : AFun := { params := 3, ntmps := 12, body := (.seq (.reg k_gauge_leastFor_1_r0 false) (.seq (.reg k_gauge_leastFor_1_r1 true) .ret)), res := [.tmp 4] }
theorem k_gauge_leastFor_1_ok : cfun Tryd.prog Tryd.f114 = k_gauge_leastFor_1 := by kernel_rfl

def k_gauge_mostFor_1_r0 : List AOper := [
  ⟨(some (4)), .move (.const (.bool false)), none, []⟩]
def k_gauge_mostFor_1_r1 : List AOper := [
  ⟨(some (5)), .load (some (7)) (.tmp 1), none, []⟩, 
  ⟨(some (6)), .move (.tmp 0), none, [0]⟩, 
  ⟨(some (7)), .bin .plain .sub (.tmp 6) (.const (.int .i64 4398046511104)), none, [0]⟩, 
  ⟨(some (8)), .call (.const (.fn (.func 64) [] [])) [.tmp 5, .tmp 7], none, []⟩, 
  ⟨(some (9)), .field none 0 (.tmp 8), none, []⟩, 
  ⟨(some (10)), .load none (.tmp 2), none, [0, 1, 2, 3, 4]⟩, 
  ⟨(some (11)), .bin .plain .gtr (.tmp 9) (.tmp 10), none, []⟩, 
  ⟨(some (4)), .move (.tmp 11), none, []⟩]
def k_gauge_mostFor_1_r1s : List (List AOper) := [
  [
  ⟨(some (5)), .load (some (7)) (.tmp 1), none, []⟩, 
  ⟨(some (6)), .move (.tmp 0), none, [0]⟩, 
  ⟨(some (7)), .bin .plain .sub (.tmp 6) (.const (.int .i64 4398046511104)), none, [0]⟩, 
  ⟨(some (8)), .call (.const (.fn (.func 64) [] [])) [.tmp 5, .tmp 7], none, []⟩, 
  ⟨(some (9)), .field none 0 (.tmp 8), none, []⟩, 
  ⟨(some (10)), .load none (.tmp 2), none, [0, 1, 2, 3, 4]⟩], 
  [
  ⟨(some (11)), .bin .plain .gtr (.tmp 9) (.tmp 10), none, []⟩], 
  [
  ⟨(some (4)), .move (.tmp 11), none, []⟩]]
theorem k_gauge_mostFor_1_r1_sg : segs k_gauge_mostFor_1_r1 = k_gauge_mostFor_1_r1s := by kernel_rfl
theorem k_gauge_mostFor_1_r1_st : statOK k_gauge_mostFor_1_r1 = true := by kernel_rfl
def k_gauge_mostFor_1 : AFun := { params := 3, ntmps := 12, body := (.seq (.reg k_gauge_mostFor_1_r0 false) (.seq (.reg k_gauge_mostFor_1_r1 true) .ret)), res := [.tmp 4] }
theorem k_gauge_mostFor_1_ok : cfun Tryd.prog Tryd.f115 = k_gauge_mostFor_1 := by kernel_rfl


abbrev n_law07_GaugeShows : Nat := 9
theorem e_law07_GaugeShows : EntryOK Tryd.prog n_law07_GaugeShows k_law07_GaugeShows := ⟨Tryd.f9, Tryd.func9, k_law07_GaugeShows_ok, by kernel_rfl⟩
abbrev n_law07_awake : Nat := 15
theorem e_law07_awake : EntryOK Tryd.prog n_law07_awake k_law07_awake := ⟨Tryd.f15, Tryd.func15, k_law07_awake_ok, by kernel_rfl⟩
abbrev n_kit_NewDice : Nat := 16
theorem e_kit_NewDice : EntryOK Tryd.prog n_kit_NewDice k_kit_NewDice := ⟨Tryd.f16, Tryd.func16, k_kit_NewDice_ok, by kernel_rfl⟩
abbrev n_kit_BenchOf : Nat := 17
theorem e_kit_BenchOf : EntryOK Tryd.prog n_kit_BenchOf k_kit_BenchOf := ⟨Tryd.f17, Tryd.func17, k_kit_BenchOf_ok, by kernel_rfl⟩
abbrev n_kit_Dice_One : Nat := 18
theorem e_kit_Dice_One : EntryOK Tryd.prog n_kit_Dice_One k_kit_Dice_One := ⟨Tryd.f18, Tryd.func18, k_kit_Dice_One_ok, by kernel_rfl⟩
abbrev n_kit_Dice_Upto : Nat := 19
theorem e_kit_Dice_Upto : EntryOK Tryd.prog n_kit_Dice_Upto k_kit_Dice_Upto := ⟨Tryd.f19, Tryd.func19, k_kit_Dice_Upto_ok, by kernel_rfl⟩
abbrev n_kit_Dice_Between : Nat := 20
theorem e_kit_Dice_Between : EntryOK Tryd.prog n_kit_Dice_Between k_kit_Dice_Between := ⟨Tryd.f20, Tryd.func20, k_kit_Dice_Between_ok, by kernel_rfl⟩
abbrev n_kit_Mod : Nat := 22
theorem e_kit_Mod : EntryOK Tryd.prog n_kit_Mod k_kit_Mod := ⟨Tryd.f22, Tryd.func22, k_kit_Mod_ok, by kernel_rfl⟩
abbrev n_gauge_Check : Nat := 23
theorem e_gauge_Check : EntryOK Tryd.prog n_gauge_Check k_gauge_Check := ⟨Tryd.f23, Tryd.func23, k_gauge_Check_ok, by kernel_rfl⟩
abbrev n_ref07_Check : Nat := 24
theorem e_ref07_Check : EntryOK Tryd.prog n_ref07_Check k_ref07_Check := ⟨Tryd.f24, Tryd.func24, k_ref07_Check_ok, by kernel_rfl⟩
abbrev n_ref07_Chain : Nat := 27
theorem e_ref07_Chain : EntryOK Tryd.prog n_ref07_Chain k_ref07_Chain := ⟨Tryd.f27, Tryd.func27, k_ref07_Chain_ok, by kernel_rfl⟩
abbrev n_kit_Showing : Nat := 31
theorem e_kit_Showing : EntryOK Tryd.prog n_kit_Showing k_kit_Showing := ⟨Tryd.f31, Tryd.func31, k_kit_Showing_ok, by kernel_rfl⟩
abbrev n_gauge_True : Nat := 32
theorem e_gauge_True : EntryOK Tryd.prog n_gauge_True k_gauge_True := ⟨Tryd.f32, Tryd.func32, k_gauge_True_ok, by kernel_rfl⟩
abbrev n_gauge_Verdict : Nat := 34
theorem e_gauge_Verdict : EntryOK Tryd.prog n_gauge_Verdict k_gauge_Verdict := ⟨Tryd.f34, Tryd.func34, k_gauge_Verdict_ok, by kernel_rfl⟩
abbrev n_kit_Dice_Range : Nat := 41
theorem e_kit_Dice_Range : EntryOK Tryd.prog n_kit_Dice_Range k_kit_Dice_Range := ⟨Tryd.f41, Tryd.func41, k_kit_Dice_Range_ok, by kernel_rfl⟩
abbrev n_gauge_Keeps : Nat := 46
theorem e_gauge_Keeps : EntryOK Tryd.prog n_gauge_Keeps k_gauge_Keeps := ⟨Tryd.f46, Tryd.func46, k_gauge_Keeps_ok, by kernel_rfl⟩
abbrev n_law07_span : Nat := 50
theorem e_law07_span : EntryOK Tryd.prog n_law07_span k_law07_span := ⟨Tryd.f50, Tryd.func50, k_law07_span_ok, by kernel_rfl⟩
abbrev n_law07_bench : Nat := 52
theorem e_law07_bench : EntryOK Tryd.prog n_law07_bench k_law07_bench := ⟨Tryd.f52, Tryd.func52, k_law07_bench_ok, by kernel_rfl⟩
abbrev n_gauge_Plan : Nat := 53
theorem e_gauge_Plan : EntryOK Tryd.prog n_gauge_Plan k_gauge_Plan := ⟨Tryd.f53, Tryd.func53, k_gauge_Plan_ok, by kernel_rfl⟩
abbrev n_kit_Dice_next : Nat := 54
theorem e_kit_Dice_next : EntryOK Tryd.prog n_kit_Dice_next k_kit_Dice_next := ⟨Tryd.f54, Tryd.func54, k_kit_Dice_next_ok, by kernel_rfl⟩
abbrev n_gauge_checkMeter : Nat := 55
theorem e_gauge_checkMeter : EntryOK Tryd.prog n_gauge_checkMeter k_gauge_checkMeter := ⟨Tryd.f55, Tryd.func55, k_gauge_checkMeter_ok, by kernel_rfl⟩
abbrev n_gauge_isLoose : Nat := 56
theorem e_gauge_isLoose : EntryOK Tryd.prog n_gauge_isLoose k_gauge_isLoose := ⟨Tryd.f56, Tryd.func56, k_gauge_isLoose_ok, by kernel_rfl⟩
abbrev n_ref07_checkMaking : Nat := 57
theorem e_ref07_checkMaking : EntryOK Tryd.prog n_ref07_checkMaking k_ref07_checkMaking := ⟨Tryd.f57, Tryd.func57, k_ref07_checkMaking_ok, by kernel_rfl⟩
abbrev n_ref07_beyond : Nat := 58
theorem e_ref07_beyond : EntryOK Tryd.prog n_ref07_beyond k_ref07_beyond := ⟨Tryd.f58, Tryd.func58, k_ref07_beyond_ok, by kernel_rfl⟩
abbrev n_ref07_chain : Nat := 59
theorem e_ref07_chain : EntryOK Tryd.prog n_ref07_chain k_ref07_chain := ⟨Tryd.f59, Tryd.func59, k_ref07_chain_ok, by kernel_rfl⟩
abbrev n_gauge_checkOne : Nat := 60
theorem e_gauge_checkOne : EntryOK Tryd.prog n_gauge_checkOne k_gauge_checkOne := ⟨Tryd.f60, Tryd.func60, k_gauge_checkOne_ok, by kernel_rfl⟩
abbrev n_gauge_chain : Nat := 61
theorem e_gauge_chain : EntryOK Tryd.prog n_gauge_chain k_gauge_chain := ⟨Tryd.f61, Tryd.func61, k_gauge_chain_ok, by kernel_rfl⟩
abbrev n_gauge_checkMaking : Nat := 62
theorem e_gauge_checkMaking : EntryOK Tryd.prog n_gauge_checkMaking k_gauge_checkMaking := ⟨Tryd.f62, Tryd.func62, k_gauge_checkMaking_ok, by kernel_rfl⟩
abbrev n_gauge_isIn : Nat := 63
theorem e_gauge_isIn : EntryOK Tryd.prog n_gauge_isIn k_gauge_isIn := ⟨Tryd.f63, Tryd.func63, k_gauge_isIn_ok, by kernel_rfl⟩
abbrev n_gauge_makes : Nat := 64
theorem e_gauge_makes : EntryOK Tryd.prog n_gauge_makes k_gauge_makes := ⟨Tryd.f64, Tryd.func64, k_gauge_makes_ok, by kernel_rfl⟩
abbrev n_ref07_Made : Nat := 65
theorem e_ref07_Made : EntryOK Tryd.prog n_ref07_Made k_ref07_Made := ⟨Tryd.f65, Tryd.func65, k_ref07_Made_ok, by kernel_rfl⟩
abbrev n_kit_Dice_In : Nat := 66
theorem e_kit_Dice_In : EntryOK Tryd.prog n_kit_Dice_In k_kit_Dice_In := ⟨Tryd.f66, Tryd.func66, k_kit_Dice_In_ok, by kernel_rfl⟩
abbrev n_ref07_Down : Nat := 67
theorem e_ref07_Down : EntryOK Tryd.prog n_ref07_Down k_ref07_Down := ⟨Tryd.f67, Tryd.func67, k_ref07_Down_ok, by kernel_rfl⟩
abbrev n_gauge_trueFor : Nat := 68
theorem e_gauge_trueFor : EntryOK Tryd.prog n_gauge_trueFor k_gauge_trueFor := ⟨Tryd.f68, Tryd.func68, k_gauge_trueFor_ok, by kernel_rfl⟩
abbrev n_gauge_isEmpty : Nat := 70
theorem e_gauge_isEmpty : EntryOK Tryd.prog n_gauge_isEmpty k_gauge_isEmpty := ⟨Tryd.f70, Tryd.func70, k_gauge_isEmpty_ok, by kernel_rfl⟩
abbrev n_gauge_common : Nat := 71
theorem e_gauge_common : EntryOK Tryd.prog n_gauge_common k_gauge_common := ⟨Tryd.f71, Tryd.func71, k_gauge_common_ok, by kernel_rfl⟩
abbrev n_ref07_Up : Nat := 75
theorem e_ref07_Up : EntryOK Tryd.prog n_ref07_Up k_ref07_Up := ⟨Tryd.f75, Tryd.func75, k_ref07_Up_ok, by kernel_rfl⟩
abbrev n_gauge_checkDrift : Nat := 82
theorem e_gauge_checkDrift : EntryOK Tryd.prog n_gauge_checkDrift k_gauge_checkDrift := ⟨Tryd.f82, Tryd.func82, k_gauge_checkDrift_ok, by kernel_rfl⟩
abbrev n_gauge_within : Nat := 83
theorem e_gauge_within : EntryOK Tryd.prog n_gauge_within k_gauge_within := ⟨Tryd.f83, Tryd.func83, k_gauge_within_ok, by kernel_rfl⟩
abbrev n_gauge_aged : Nat := 84
theorem e_gauge_aged : EntryOK Tryd.prog n_gauge_aged k_gauge_aged := ⟨Tryd.f84, Tryd.func84, k_gauge_aged_ok, by kernel_rfl⟩
abbrev n_gauge_checkRange : Nat := 87
theorem e_gauge_checkRange : EntryOK Tryd.prog n_gauge_checkRange k_gauge_checkRange := ⟨Tryd.f87, Tryd.func87, k_gauge_checkRange_ok, by kernel_rfl⟩
abbrev n_gauge_Keeps_1 : Nat := 88
theorem e_gauge_Keeps_1 : EntryOK Tryd.prog n_gauge_Keeps_1 k_gauge_Keeps_1 := ⟨Tryd.f88, Tryd.func88, k_gauge_Keeps_1_ok, by kernel_rfl⟩
abbrev n_gauge_lastTick : Nat := 89
theorem e_gauge_lastTick : EntryOK Tryd.prog n_gauge_lastTick k_gauge_lastTick := ⟨Tryd.f89, Tryd.func89, k_gauge_lastTick_ok, by kernel_rfl⟩
abbrev n_gauge_Keeps_2 : Nat := 90
theorem e_gauge_Keeps_2 : EntryOK Tryd.prog n_gauge_Keeps_2 k_gauge_Keeps_2 := ⟨Tryd.f90, Tryd.func90, k_gauge_Keeps_2_ok, by kernel_rfl⟩
abbrev n_gauge_Keeps_3 : Nat := 91
theorem e_gauge_Keeps_3 : EntryOK Tryd.prog n_gauge_Keeps_3 k_gauge_Keeps_3 := ⟨Tryd.f91, Tryd.func91, k_gauge_Keeps_3_ok, by kernel_rfl⟩
abbrev n_ref07_checkRange : Nat := 92
theorem e_ref07_checkRange : EntryOK Tryd.prog n_ref07_checkRange k_ref07_checkRange := ⟨Tryd.f92, Tryd.func92, k_ref07_checkRange_ok, by kernel_rfl⟩
abbrev n_gauge_choose : Nat := 94
theorem e_gauge_choose : EntryOK Tryd.prog n_gauge_choose k_gauge_choose := ⟨Tryd.f94, Tryd.func94, k_gauge_choose_ok, by kernel_rfl⟩
abbrev n_gauge_waysWith : Nat := 95
theorem e_gauge_waysWith : EntryOK Tryd.prog n_gauge_waysWith k_gauge_waysWith := ⟨Tryd.f95, Tryd.func95, k_gauge_waysWith_ok, by kernel_rfl⟩
abbrev n_gauge_isMeter : Nat := 96
theorem e_gauge_isMeter : EntryOK Tryd.prog n_gauge_isMeter k_gauge_isMeter := ⟨Tryd.f96, Tryd.func96, k_gauge_isMeter_ok, by kernel_rfl⟩
abbrev n_gauge_chain_1 : Nat := 97
theorem e_gauge_chain_1 : EntryOK Tryd.prog n_gauge_chain_1 k_gauge_chain_1 := ⟨Tryd.f97, Tryd.func97, k_gauge_chain_1_ok, by kernel_rfl⟩
abbrev n_gauge_roundDown : Nat := 98
theorem e_gauge_roundDown : EntryOK Tryd.prog n_gauge_roundDown k_gauge_roundDown := ⟨Tryd.f98, Tryd.func98, k_gauge_roundDown_ok, by kernel_rfl⟩
abbrev n_gauge_roundUp : Nat := 99
theorem e_gauge_roundUp : EntryOK Tryd.prog n_gauge_roundUp k_gauge_roundUp := ⟨Tryd.f99, Tryd.func99, k_gauge_roundUp_ok, by kernel_rfl⟩
abbrev n_gauge_half : Nat := 100
theorem e_gauge_half : EntryOK Tryd.prog n_gauge_half k_gauge_half := ⟨Tryd.f100, Tryd.func100, k_gauge_half_ok, by kernel_rfl⟩
abbrev n_gauge_leastFor : Nat := 101
theorem e_gauge_leastFor : EntryOK Tryd.prog n_gauge_leastFor k_gauge_leastFor := ⟨Tryd.f101, Tryd.func101, k_gauge_leastFor_ok, by kernel_rfl⟩
abbrev n_gauge_mostFor : Nat := 102
theorem e_gauge_mostFor : EntryOK Tryd.prog n_gauge_mostFor k_gauge_mostFor := ⟨Tryd.f102, Tryd.func102, k_gauge_mostFor_ok, by kernel_rfl⟩
abbrev n_gauge_bothWithin : Nat := 111
theorem e_gauge_bothWithin : EntryOK Tryd.prog n_gauge_bothWithin k_gauge_bothWithin := ⟨Tryd.f111, Tryd.func111, k_gauge_bothWithin_ok, by kernel_rfl⟩
abbrev n_sort_Search : Nat := 112
theorem e_sort_Search : EntryOK Tryd.prog n_sort_Search k_sort_Search := ⟨Tryd.f112, Tryd.func112, k_sort_Search_ok, by kernel_rfl⟩
abbrev n_gauge_lastTick_1 : Nat := 113
theorem e_gauge_lastTick_1 : EntryOK Tryd.prog n_gauge_lastTick_1 k_gauge_lastTick_1 := ⟨Tryd.f113, Tryd.func113, k_gauge_lastTick_1_ok, by kernel_rfl⟩
abbrev n_gauge_leastFor_1 : Nat := 114
theorem e_gauge_leastFor_1 : EntryOK Tryd.prog n_gauge_leastFor_1 k_gauge_leastFor_1 := ⟨Tryd.f114, Tryd.func114, k_gauge_leastFor_1_ok, by kernel_rfl⟩
abbrev n_gauge_mostFor_1 : Nat := 115
theorem e_gauge_mostFor_1 : EntryOK Tryd.prog n_gauge_mostFor_1 k_gauge_mostFor_1 := ⟨Tryd.f115, Tryd.func115, k_gauge_mostFor_1_ok, by kernel_rfl⟩

@[go_sem] theorem mixed : Tryd.prog.follows .mixedOrders = true := by kernel_rfl
attribute [go_sem] k_law07_GaugeShows_r0 k_law07_GaugeShows_r1 k_law07_GaugeShows_r2 k_law07_GaugeShows_r3 k_law07_GaugeShows_r4 k_law07_GaugeShows_r5 k_law07_GaugeShows_r6 k_law07_GaugeShows_r7 k_law07_GaugeShows_r8 k_law07_GaugeShows_r9 k_law07_GaugeShows_r10 k_law07_GaugeShows_r11
attribute [go_sem] k_law07_awake_r0 k_law07_awake_r1 k_law07_awake_r2 k_law07_awake_r3 k_law07_awake_r4s k_kit_NewDice_r0 k_kit_NewDice_r1 k_kit_NewDice_r2 k_kit_NewDice_r3 k_kit_NewDice_r4s k_kit_NewDice_r5 k_kit_NewDice_r6
attribute [go_sem] k_kit_NewDice_r8 k_kit_BenchOf_r0 k_kit_BenchOf_r1 k_kit_BenchOf_r2 k_kit_BenchOf_r3 k_kit_BenchOf_r4 k_kit_BenchOf_r5s k_kit_BenchOf_r6 k_kit_BenchOf_r7 k_kit_BenchOf_r9 k_kit_Dice_One_r0 k_kit_Dice_One_r1
attribute [go_sem] k_kit_Dice_Upto_r0 k_kit_Dice_Upto_r1 k_kit_Dice_Upto_r2 k_kit_Dice_Upto_r3 k_kit_Dice_Upto_r4 k_kit_Dice_Between_r0 k_kit_Dice_Between_r1 k_kit_Mod_r0 k_kit_Mod_r1 k_kit_Mod_r2 k_kit_Mod_r3 k_kit_Mod_r4
attribute [go_sem] k_kit_Mod_r5 k_kit_Mod_r6 k_gauge_Check_r0 k_gauge_Check_r1 k_gauge_Check_r2 k_gauge_Check_r3 k_gauge_Check_r4 k_gauge_Check_r5 k_gauge_Check_r6 k_gauge_Check_r7 k_gauge_Check_r8 k_gauge_Check_r9
attribute [go_sem] k_gauge_Check_r11 k_gauge_Check_r12 k_gauge_Check_r13 k_gauge_Check_r14 k_gauge_Check_r15 k_gauge_Check_r16 k_gauge_Check_r18 k_ref07_Check_r0 k_ref07_Check_r1 k_ref07_Check_r2 k_ref07_Check_r3 k_ref07_Check_r4
attribute [go_sem] k_ref07_Check_r5 k_ref07_Check_r6 k_ref07_Check_r7 k_ref07_Check_r8 k_ref07_Check_r9 k_ref07_Check_r10 k_ref07_Check_r11 k_ref07_Check_r13 k_ref07_Check_r14 k_ref07_Check_r15 k_ref07_Check_r16 k_ref07_Check_r17
attribute [go_sem] k_ref07_Check_r18 k_ref07_Check_r20 k_ref07_Chain_r0 k_ref07_Chain_r1 k_ref07_Chain_r2 k_ref07_Chain_r3 k_ref07_Chain_r4 k_kit_Showing_r0 k_kit_Showing_r1 k_kit_Showing_r2 k_kit_Showing_r3 k_kit_Showing_r4
attribute [go_sem] k_kit_Showing_r5 k_kit_Showing_r6s k_kit_Showing_r7 k_kit_Showing_r9 k_kit_Showing_r10 k_kit_Showing_r11 k_kit_Showing_r12 k_kit_Showing_r13 k_kit_Showing_r14 k_gauge_True_r0 k_gauge_True_r1 k_gauge_True_r2
attribute [go_sem] k_gauge_True_r3 k_gauge_True_r4 k_gauge_True_r5 k_gauge_True_r6 k_gauge_True_r7 k_gauge_True_r8 k_gauge_Verdict_r0 k_gauge_Verdict_r1 k_gauge_Verdict_r2 k_gauge_Verdict_r3 k_gauge_Verdict_r4 k_gauge_Verdict_r5
attribute [go_sem] k_gauge_Verdict_r6 k_gauge_Verdict_r7 k_kit_Dice_Range_r0 k_kit_Dice_Range_r1 k_kit_Dice_Range_r2 k_gauge_Keeps_r0 k_gauge_Keeps_r1 k_gauge_Keeps_r2 k_gauge_Keeps_r3 k_gauge_Keeps_r4 k_gauge_Keeps_r5 k_gauge_Keeps_r6
attribute [go_sem] k_gauge_Keeps_r7 k_gauge_Keeps_r8 k_law07_span_r0 k_law07_span_r1 k_law07_bench_r0 k_law07_bench_r1 k_gauge_Plan_r0 k_gauge_Plan_r1 k_gauge_Plan_r2 k_gauge_Plan_r3 k_gauge_Plan_r4 k_gauge_Plan_r5
attribute [go_sem] k_gauge_Plan_r6 k_gauge_Plan_r7 k_gauge_Plan_r8 k_gauge_Plan_r9 k_gauge_Plan_r10 k_gauge_Plan_r11 k_gauge_Plan_r12 k_gauge_Plan_r13 k_gauge_Plan_r14 k_gauge_Plan_r15 k_gauge_Plan_r16 k_gauge_Plan_r17
attribute [go_sem] k_gauge_Plan_r19 k_gauge_Plan_r21 k_kit_Dice_next_r0 k_kit_Dice_next_r1 k_kit_Dice_next_r2 k_kit_Dice_next_r3 k_kit_Dice_next_r4 k_kit_Dice_next_r5 k_gauge_checkMeter_r0 k_gauge_checkMeter_r1 k_gauge_checkMeter_r2 k_gauge_checkMeter_r3
attribute [go_sem] k_gauge_checkMeter_r4 k_gauge_checkMeter_r5 k_gauge_checkMeter_r6 k_gauge_isLoose_r0 k_gauge_isLoose_r1 k_gauge_isLoose_r2 k_gauge_isLoose_r3 k_gauge_isLoose_r4 k_gauge_isLoose_r5 k_gauge_isLoose_r8 k_ref07_checkMaking_r0 k_ref07_checkMaking_r1
attribute [go_sem] k_ref07_checkMaking_r2 k_ref07_checkMaking_r3 k_ref07_checkMaking_r4 k_ref07_beyond_r0 k_ref07_beyond_r1 k_ref07_chain_r0 k_ref07_chain_r1 k_ref07_chain_r2 k_ref07_chain_r3 k_ref07_chain_r4 k_ref07_chain_r6 k_gauge_checkOne_r0
attribute [go_sem] k_gauge_checkOne_r1 k_gauge_checkOne_r2 k_gauge_checkOne_r3 k_gauge_checkOne_r4 k_gauge_checkOne_r5 k_gauge_checkOne_r6 k_gauge_chain_r0 k_gauge_chain_r1 k_gauge_checkMaking_r0 k_gauge_checkMaking_r1 k_gauge_checkMaking_r2 k_gauge_checkMaking_r3
attribute [go_sem] k_gauge_checkMaking_r4 k_gauge_isIn_r0 k_gauge_isIn_r1 k_gauge_makes_r0 k_gauge_makes_r1s k_gauge_makes_r2 k_gauge_makes_r3 k_gauge_makes_r4s k_ref07_Made_r0 k_ref07_Made_r1s k_ref07_Made_r2 k_ref07_Made_r3
attribute [go_sem] k_ref07_Made_r4s k_kit_Dice_In_r0 k_kit_Dice_In_r1 k_ref07_Down_r0 k_ref07_Down_r1 k_ref07_Down_r2 k_ref07_Down_r3 k_ref07_Down_r4 k_gauge_trueFor_r0 k_gauge_trueFor_r1s k_gauge_trueFor_r2 k_gauge_trueFor_r3
attribute [go_sem] k_gauge_trueFor_r4s k_gauge_trueFor_r5 k_gauge_trueFor_r6 k_gauge_trueFor_r9 k_gauge_trueFor_r10 k_gauge_trueFor_r11 k_gauge_trueFor_r12 k_gauge_isEmpty_r0 k_gauge_isEmpty_r1 k_gauge_common_r0 k_gauge_common_r1 k_ref07_Up_r0
attribute [go_sem] k_ref07_Up_r1 k_gauge_checkDrift_r0 k_gauge_checkDrift_r1 k_gauge_checkDrift_r2 k_gauge_checkDrift_r3 k_gauge_checkDrift_r4 k_gauge_checkDrift_r5 k_gauge_within_r0 k_gauge_within_r1 k_gauge_aged_r0 k_gauge_aged_r1s k_gauge_checkRange_r0
attribute [go_sem] k_gauge_checkRange_r1 k_gauge_checkRange_r2 k_gauge_checkRange_r3 k_gauge_checkRange_r4 k_gauge_checkRange_r5 k_gauge_Keeps_1_r0 k_gauge_Keeps_1_r1s k_gauge_lastTick_r0 k_gauge_lastTick_r1 k_gauge_lastTick_r2 k_gauge_lastTick_r3 k_gauge_Keeps_2_r0
attribute [go_sem] k_gauge_Keeps_2_r1 k_gauge_Keeps_3_r0 k_gauge_Keeps_3_r1 k_ref07_checkRange_r0 k_ref07_checkRange_r1 k_ref07_checkRange_r2 k_ref07_checkRange_r3 k_ref07_checkRange_r4 k_ref07_checkRange_r5 k_gauge_choose_r0 k_gauge_choose_r1 k_gauge_choose_r2
attribute [go_sem] k_gauge_choose_r3 k_gauge_choose_r4 k_gauge_choose_r5 k_gauge_choose_r6 k_gauge_choose_r8 k_gauge_waysWith_r0 k_gauge_waysWith_r1 k_gauge_isMeter_r0 k_gauge_isMeter_r1 k_gauge_chain_1_r0 k_gauge_chain_1_r1s k_gauge_chain_1_r2
attribute [go_sem] k_gauge_roundDown_r0 k_gauge_roundDown_r1 k_gauge_roundDown_r2 k_gauge_roundDown_r3 k_gauge_roundUp_r0 k_gauge_roundUp_r1 k_gauge_half_r0 k_gauge_half_r1 k_gauge_leastFor_r0 k_gauge_leastFor_r1 k_gauge_mostFor_r0 k_gauge_mostFor_r1
attribute [go_sem] k_gauge_bothWithin_r0 k_gauge_bothWithin_r1 k_sort_Search_r0 k_sort_Search_r1 k_sort_Search_r2 k_sort_Search_r3 k_sort_Search_r4 k_sort_Search_r5 k_sort_Search_r6 k_sort_Search_r8 k_gauge_lastTick_1_r0 k_gauge_lastTick_1_r1
attribute [go_sem] k_gauge_leastFor_1_r0 k_gauge_leastFor_1_r1s k_gauge_mostFor_1_r0 k_gauge_mostFor_1_r1s k_gauge_trueFor_r4_sg k_gauge_chain_1_r1_sg k_gauge_makes_r4_sg k_ref07_Made_r1_sg k_gauge_mostFor_1_r1_sg k_gauge_Keeps_1_r1_sg k_ref07_Made_r4_sg k_law07_awake_r4_sg
attribute [go_sem] k_gauge_trueFor_r1_sg k_gauge_leastFor_1_r1_sg k_kit_Showing_r6_sg k_kit_BenchOf_r5_sg k_gauge_aged_r1_sg k_kit_NewDice_r4_sg k_gauge_makes_r1_sg k_gauge_trueFor_r4_st k_gauge_chain_1_r1_st k_gauge_makes_r4_st k_ref07_Made_r1_st k_gauge_mostFor_1_r1_st
attribute [go_sem] k_gauge_Keeps_1_r1_st k_ref07_Made_r4_st k_law07_awake_r4_st k_gauge_trueFor_r1_st k_gauge_leastFor_1_r1_st k_kit_Showing_r6_st k_kit_BenchOf_r5_st k_gauge_aged_r1_st k_kit_NewDice_r4_st k_gauge_makes_r1_st k_law07_GaugeShows k_law07_awake
attribute [go_sem] k_kit_NewDice k_kit_BenchOf k_kit_Dice_One k_kit_Dice_Upto k_kit_Dice_Between k_kit_Mod k_gauge_Check k_ref07_Check k_ref07_Chain k_kit_Showing k_gauge_True k_gauge_Verdict
attribute [go_sem] k_kit_Dice_Range k_gauge_Keeps k_law07_span k_law07_bench k_gauge_Plan k_kit_Dice_next k_gauge_checkMeter k_gauge_isLoose k_ref07_checkMaking k_ref07_beyond k_ref07_chain k_gauge_checkOne
attribute [go_sem] k_gauge_chain k_gauge_checkMaking k_gauge_isIn k_gauge_makes k_ref07_Made k_kit_Dice_In k_ref07_Down k_gauge_trueFor k_gauge_isEmpty k_gauge_common k_ref07_Up k_gauge_checkDrift
attribute [go_sem] k_gauge_within k_gauge_aged k_gauge_checkRange k_gauge_Keeps_1 k_gauge_lastTick k_gauge_Keeps_2 k_gauge_Keeps_3 k_ref07_checkRange k_gauge_choose k_gauge_waysWith k_gauge_isMeter k_gauge_chain_1
attribute [go_sem] k_gauge_roundDown k_gauge_roundUp k_gauge_half k_gauge_leastFor k_gauge_mostFor k_gauge_bothWithin k_sort_Search k_gauge_lastTick_1 k_gauge_leastFor_1 k_gauge_mostFor_1
def tabL : List (Nat × AFun) := [(9, k_law07_GaugeShows), (15, k_law07_awake), (16, k_kit_NewDice), (17, k_kit_BenchOf), (18, k_kit_Dice_One), (19, k_kit_Dice_Upto), (20, k_kit_Dice_Between), (22, k_kit_Mod), (23, k_gauge_Check), (24, k_ref07_Check), (27, k_ref07_Chain), (31, k_kit_Showing), (32, k_gauge_True), (34, k_gauge_Verdict), (41, k_kit_Dice_Range), (46, k_gauge_Keeps), (50, k_law07_span), (52, k_law07_bench), (53, k_gauge_Plan), (54, k_kit_Dice_next), (55, k_gauge_checkMeter), (56, k_gauge_isLoose), (57, k_ref07_checkMaking), (58, k_ref07_beyond), (59, k_ref07_chain), (60, k_gauge_checkOne), (61, k_gauge_chain), (62, k_gauge_checkMaking), (63, k_gauge_isIn), (64, k_gauge_makes), (65, k_ref07_Made), (66, k_kit_Dice_In), (67, k_ref07_Down), (68, k_gauge_trueFor), (70, k_gauge_isEmpty), (71, k_gauge_common), (75, k_ref07_Up), (82, k_gauge_checkDrift), (83, k_gauge_within), (84, k_gauge_aged), (87, k_gauge_checkRange), (88, k_gauge_Keeps_1), (89, k_gauge_lastTick), (90, k_gauge_Keeps_2), (91, k_gauge_Keeps_3), (92, k_ref07_checkRange), (94, k_gauge_choose), (95, k_gauge_waysWith), (96, k_gauge_isMeter), (97, k_gauge_chain_1), (98, k_gauge_roundDown), (99, k_gauge_roundUp), (100, k_gauge_half), (101, k_gauge_leastFor), (102, k_gauge_mostFor), (111, k_gauge_bothWithin), (112, k_sort_Search), (113, k_gauge_lastTick_1), (114, k_gauge_leastFor_1), (115, k_gauge_mostFor_1)]
def tabGet : List (Nat × AFun) → Nat → Option AFun
  | [], _ => none
  | (n, c) :: l, g => if Nat.beq n g = true then some c else tabGet l g
def tab (g : Nat) : Option AFun := tabGet tabL g
def AllOK : List (Nat × AFun) → Prop
  | [] => True
  | p :: l => EntryOK Tryd.prog p.1 p.2 ∧ AllOK l
theorem AllOK.get : ∀ {l : List (Nat × AFun)}, AllOK l → ∀ p ∈ l, EntryOK Tryd.prog p.1 p.2
  | [], _, p, h => by simp at h
  | q :: l, h, p, hp => by
    rcases List.mem_cons.1 hp with rfl | hp
    · exact h.1
    · exact AllOK.get h.2 p hp
theorem tab_all : ∀ p ∈ tabL, EntryOK Tryd.prog p.1 p.2 := AllOK.get (l := tabL) (⟨e_law07_GaugeShows, ⟨e_law07_awake, ⟨e_kit_NewDice, ⟨e_kit_BenchOf, ⟨e_kit_Dice_One, ⟨e_kit_Dice_Upto, ⟨e_kit_Dice_Between, ⟨e_kit_Mod, ⟨e_gauge_Check, ⟨e_ref07_Check, ⟨e_ref07_Chain, ⟨e_kit_Showing, ⟨e_gauge_True, ⟨e_gauge_Verdict, ⟨e_kit_Dice_Range, ⟨e_gauge_Keeps, ⟨e_law07_span, ⟨e_law07_bench, ⟨e_gauge_Plan, ⟨e_kit_Dice_next, ⟨e_gauge_checkMeter, ⟨e_gauge_isLoose, ⟨e_ref07_checkMaking, ⟨e_ref07_beyond, ⟨e_ref07_chain, ⟨e_gauge_checkOne, ⟨e_gauge_chain, ⟨e_gauge_checkMaking, ⟨e_gauge_isIn, ⟨e_gauge_makes, ⟨e_ref07_Made, ⟨e_kit_Dice_In, ⟨e_ref07_Down, ⟨e_gauge_trueFor, ⟨e_gauge_isEmpty, ⟨e_gauge_common, ⟨e_ref07_Up, ⟨e_gauge_checkDrift, ⟨e_gauge_within, ⟨e_gauge_aged, ⟨e_gauge_checkRange, ⟨e_gauge_Keeps_1, ⟨e_gauge_lastTick, ⟨e_gauge_Keeps_2, ⟨e_gauge_Keeps_3, ⟨e_ref07_checkRange, ⟨e_gauge_choose, ⟨e_gauge_waysWith, ⟨e_gauge_isMeter, ⟨e_gauge_chain_1, ⟨e_gauge_roundDown, ⟨e_gauge_roundUp, ⟨e_gauge_half, ⟨e_gauge_leastFor, ⟨e_gauge_mostFor, ⟨e_gauge_bothWithin, ⟨e_sort_Search, ⟨e_gauge_lastTick_1, ⟨e_gauge_leastFor_1, ⟨e_gauge_mostFor_1, trivial⟩⟩⟩⟩⟩⟩⟩⟩⟩⟩⟩⟩⟩⟩⟩⟩⟩⟩⟩⟩⟩⟩⟩⟩⟩⟩⟩⟩⟩⟩⟩⟩⟩⟩⟩⟩⟩⟩⟩⟩⟩⟩⟩⟩⟩⟩⟩⟩⟩⟩⟩⟩⟩⟩⟩⟩⟩⟩⟩⟩)
theorem tabGet_mem : ∀ (l : List (Nat × AFun)) (g : Nat) (c : AFun), tabGet l g = some c → (g, c) ∈ l
  | [], _, _, h => by cases h
  | (n, c') :: l, g, c, h => by
    simp only [tabGet] at h
    split at h
    · rename_i hn
      cases h
      rw [Nat.eq_of_beq_eq_true hn]; exact List.mem_cons_self
    · exact List.mem_cons_of_mem _ (tabGet_mem l g c h)
theorem tab_ok (g : Nat) (af : AFun) (h : tab g = some af) : EntryOK Tryd.prog g af := by
  have h2 := tab_all _ (tabGet_mem _ _ _ h)
  exact h2
end Go.Proofs

