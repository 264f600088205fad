/- A part of the proof. -/
import Derived.Test.YtigaafcllfjniaaSxG
import Derived.Test.YtigaafcllfjniaaProg
import Derived.KernelRfl
set_option linter.unusedSimpArgs false
set_option linter.unusedVariables false
namespace Go.Proofs
open Go Go.Sx

def k_law03_awake_r0 : List AOper := [
  ⟨(some (0)), .move (.const (.bool false)), none, []⟩]
def k_law03_awake_r1 : List AOper := [
  ⟨(some (7)), .call (.const (.fn (.func 51) [] [])) [], none, []⟩, 
  ⟨(some (8)), .call (.const (.fn (.func 53) [] [])) [], none, []⟩, 
  ⟨(some (9)), .call (.const (.fn (.func 53) [] [])) [], none, []⟩, 
  ⟨(some (10)), .buildSlice 3 [.tmp 8, .tmp 9], none, []⟩, 
  ⟨(some (11)), .call (.const (.fn (.func 39) [] [])) [.tmp 7, .tmp 10], none, []⟩, 
  ⟨(some (6)), .move (.tmp 11), none, []⟩, 
  ⟨(some (12)), .extract (.tmp 6) 0, none, []⟩, 
  ⟨(some (13)), .extract (.tmp 6) 1, none, []⟩, 
  ⟨(some (1)), .move (.tmp 12), none, []⟩, 
  ⟨(some (2)), .move (.tmp 13), none, []⟩]
def k_law03_awake_r2 : List AOper := [
  ⟨(some (15)), .call (.const (.fn (.func 51) [] [])) [], none, []⟩, 
  ⟨(some (16)), .build [.int .i64 0, .int .i64 0, .int .i64 0, .int .i64 0, .int .i64 0] [(0, 1, .const (.int .i64 99)), (1, 1, .const (.int .i64 2)), (3, 1, .const (.int .i64 900))], none, []⟩, 
  ⟨(some (17)), .call (.const (.fn (.func 53) [] [])) [], none, []⟩, 
  ⟨(some (18)), .buildSlice 3 [.tmp 17], none, []⟩, 
  ⟨(some (19)), .call (.const (.fn (.func 46) [] [])) [.tmp 15, .tmp 16, .tmp 18], none, []⟩, 
  ⟨(some (14)), .move (.tmp 19), none, []⟩, 
  ⟨(some (20)), .extract (.tmp 14) 0, none, []⟩, 
  ⟨(some (21)), .extract (.tmp 14) 1, none, []⟩, 
  ⟨(some (22)), .extract (.tmp 14) 2, none, []⟩, 
  ⟨(some (3)), .move (.tmp 20), none, []⟩, 
  ⟨(some (4)), .move (.tmp 21), none, []⟩, 
  ⟨(some (5)), .move (.tmp 22), none, []⟩]
def k_law03_awake_r3 : List AOper := [
  ⟨(some (23)), .move (.tmp 2), none, []⟩, 
  ⟨(some (24)), .bin .plain .eql (.tmp 23) (.const (.int .i64 0)), none, []⟩, 
  ⟨(some (25)), .move (.tmp 24), none, []⟩, 
  ⟨(some (26)), .move (.tmp 5), (some (25, true)), []⟩, 
  ⟨(some (27)), .bin .plain .eql (.tmp 26) (.const (.int .i64 0)), (some (25, true)), []⟩, 
  ⟨(some (28)), .pick (.tmp 25) (.tmp 27) (.const (.bool false)), none, []⟩, 
  ⟨(some (29)), .move (.tmp 28), none, []⟩, 
  ⟨(some (30)), .move (.tmp 1), (some (29, true)), []⟩, 
  ⟨(some (31)), .len false (.tmp 30), (some (29, true)), []⟩, 
  ⟨(some (32)), .bin .plain .eql (.tmp 31) (.const (.int .i64 2)), (some (29, true)), []⟩, 
  ⟨(some (33)), .pick (.tmp 29) (.tmp 32) (.const (.bool false)), none, []⟩, 
  ⟨(some (34)), .move (.tmp 33), none, []⟩, 
  ⟨(some (35)), .move (.tmp 1), (some (34, true)), []⟩, 
  ⟨(some (36)), .indexAddr 13 (.tmp 35) (.const (.int .i64 0)), (some (34, true)), []⟩, 
  ⟨(some (37)), .load (some (13)) (.tmp 36), (some (34, true)), []⟩, 
  ⟨(some (38)), .call (.const (.fn (.func 52) [] [])) [.const (.int .i64 800), .const (.int .i64 900)], (some (34, true)), [12, 13, 14]⟩, 
  ⟨(some (39)), .call (.const (.fn (.func 52) [] [])) [.const (.int .i64 100), .const (.int .i64 200)], (some (34, true)), [12, 13, 14]⟩, 
  ⟨(some (40)), .call (.const (.fn (.func 52) [] [])) [.const (.int .i64 100), .const (.int .i64 200)], (some (34, true)), [12, 13, 14]⟩, 
  ⟨(some (41)), .call (.const (.fn (.func 52) [] [])) [.const (.int .i64 1), .const (.int .i64 2)], (some (34, true)), [12, 13, 14]⟩, 
  ⟨(some (42)), .build [.int .i64 0, .int .i64 0, .int .i64 0, .int .i64 0, .int .i64 0, .int .i64 0, .int .i64 0, .int .i64 0, .int .i64 0, .int .i64 0, .int .i64 0, .int .i64 0, .int .i64 0] [(0, 2, .tmp 38), (2, 2, .tmp 39), (8, 2, .tmp 40), (10, 2, .tmp 41), (12, 1, .const (.int .i64 1100))], (some (34, true)), [12, 13, 14]⟩, 
  ⟨(some (43)), .eqAgg false [.int, .int, .int, .int, .int, .int, .int, .int, .int, .int, .int, .int, .int] (.tmp 37) (.tmp 42), (some (34, true)), []⟩, 
  ⟨(some (44)), .pick (.tmp 34) (.tmp 43) (.const (.bool false)), none, []⟩, 
  ⟨(some (45)), .move (.tmp 44), none, []⟩, 
  ⟨(some (46)), .move (.tmp 3), (some (45, true)), []⟩, 
  ⟨(some (47)), .bin .plain .eql (.tmp 46) (.const (.int .i64 2)), (some (45, true)), []⟩, 
  ⟨(some (48)), .pick (.tmp 45) (.tmp 47) (.const (.bool false)), none, []⟩, 
  ⟨(some (49)), .move (.tmp 48), none, []⟩, 
  ⟨(some (50)), .move (.tmp 4), (some (49, true)), []⟩, 
  ⟨(some (51)), .bin .plain .eql (.tmp 50) (.const (.int .i64 2)), (some (49, true)), []⟩, 
  ⟨(some (52)), .pick (.tmp 49) (.tmp 51) (.const (.bool false)), none, []⟩, 
  ⟨(some (53)), .move (.tmp 52), none, []⟩, 
  ⟨(some (54)), .build [.int .i64 0, .int .i64 0, .int .i64 0, .int .i64 0, .int .i64 0, .int .i64 0, .nilsl] [], (some (53, true)), []⟩, 
  ⟨(some (55)), .call (.const (.fn (.func 25) [] [])) [.tmp 54], (some (53, true)), []⟩, 
  ⟨(some (56)), .bin .plain .eql (.tmp 55) (.const (.int .i64 2)), (some (53, true)), []⟩, 
  ⟨(some (57)), .pick (.tmp 53) (.tmp 56) (.const (.bool false)), none, []⟩, 
  ⟨(some (0)), .move (.tmp 57), none, []⟩]
def k_law03_awake_r3s : List (List AOper) := [
  [
  ⟨(some (23)), .move (.tmp 2), none, []⟩], 
  [
  ⟨(some (24)), .bin .plain .eql (.tmp 23) (.const (.int .i64 0)), none, []⟩], 
  [
  ⟨(some (25)), .move (.tmp 24), none, []⟩], 
  [
  ⟨(some (26)), .move (.tmp 5), (some (25, true)), []⟩], 
  [
  ⟨(some (27)), .bin .plain .eql (.tmp 26) (.const (.int .i64 0)), (some (25, true)), []⟩], 
  [
  ⟨(some (28)), .pick (.tmp 25) (.tmp 27) (.const (.bool false)), none, []⟩], 
  [
  ⟨(some (29)), .move (.tmp 28), none, []⟩], 
  [
  ⟨(some (30)), .move (.tmp 1), (some (29, true)), []⟩], 
  [
  ⟨(some (31)), .len false (.tmp 30), (some (29, true)), []⟩], 
  [
  ⟨(some (32)), .bin .plain .eql (.tmp 31) (.const (.int .i64 2)), (some (29, true)), []⟩], 
  [
  ⟨(some (33)), .pick (.tmp 29) (.tmp 32) (.const (.bool false)), none, []⟩], 
  [
  ⟨(some (34)), .move (.tmp 33), none, []⟩], 
  [
  ⟨(some (35)), .move (.tmp 1), (some (34, true)), []⟩, 
  ⟨(some (36)), .indexAddr 13 (.tmp 35) (.const (.int .i64 0)), (some (34, true)), []⟩, 
  ⟨(some (37)), .load (some (13)) (.tmp 36), (some (34, true)), []⟩, 
  ⟨(some (38)), .call (.const (.fn (.func 52) [] [])) [.const (.int .i64 800), .const (.int .i64 900)], (some (34, true)), [12, 13, 14]⟩, 
  ⟨(some (39)), .call (.const (.fn (.func 52) [] [])) [.const (.int .i64 100), .const (.int .i64 200)], (some (34, true)), [12, 13, 14]⟩, 
  ⟨(some (40)), .call (.const (.fn (.func 52) [] [])) [.const (.int .i64 100), .const (.int .i64 200)], (some (34, true)), [12, 13, 14]⟩, 
  ⟨(some (41)), .call (.const (.fn (.func 52) [] [])) [.const (.int .i64 1), .const (.int .i64 2)], (some (34, true)), [12, 13, 14]⟩, 
  ⟨(some (42)), .build [.int .i64 0, .int .i64 0, .int .i64 0, .int .i64 0, .int .i64 0, .int .i64 0, .int .i64 0, .int .i64 0, .int .i64 0, .int .i64 0, .int .i64 0, .int .i64 0, .int .i64 0] [(0, 2, .tmp 38), (2, 2, .tmp 39), (8, 2, .tmp 40), (10, 2, .tmp 41), (12, 1, .const (.int .i64 1100))], (some (34, true)), [12, 13, 14]⟩], 
  [
  ⟨(some (43)), .eqAgg false [.int, .int, .int, .int, .int, .int, .int, .int, .int, .int, .int, .int, .int] (.tmp 37) (.tmp 42), (some (34, true)), []⟩], 
  [
  ⟨(some (44)), .pick (.tmp 34) (.tmp 43) (.const (.bool false)), none, []⟩], 
  [
  ⟨(some (45)), .move (.tmp 44), none, []⟩], 
  [
  ⟨(some (46)), .move (.tmp 3), (some (45, true)), []⟩], 
  [
  ⟨(some (47)), .bin .plain .eql (.tmp 46) (.const (.int .i64 2)), (some (45, true)), []⟩], 
  [
  ⟨(some (48)), .pick (.tmp 45) (.tmp 47) (.const (.bool false)), none, []⟩], 
  [
  ⟨(some (49)), .move (.tmp 48), none, []⟩], 
  [
  ⟨(some (50)), .move (.tmp 4), (some (49, true)), []⟩], 
  [
  ⟨(some (51)), .bin .plain .eql (.tmp 50) (.const (.int .i64 2)), (some (49, true)), []⟩], 
  [
  ⟨(some (52)), .pick (.tmp 49) (.tmp 51) (.const (.bool false)), none, []⟩], 
  [
  ⟨(some (53)), .move (.tmp 52), none, []⟩], 
  [
  ⟨(some (54)), .build [.int .i64 0, .int .i64 0, .int .i64 0, .int .i64 0, .int .i64 0, .int .i64 0, .nilsl] [], (some (53, true)), []⟩], 
  [
  ⟨(some (55)), .call (.const (.fn (.func 25) [] [])) [.tmp 54], (some (53, true)), []⟩], 
  [
  ⟨(some (56)), .bin .plain .eql (.tmp 55) (.const (.int .i64 2)), (some (53, true)), []⟩], 
  [
  ⟨(some (57)), .pick (.tmp 53) (.tmp 56) (.const (.bool false)), none, []⟩], 
  [
  ⟨(some (0)), .move (.tmp 57), none, []⟩]]
theorem k_law03_awake_r3_sg : segs k_law03_awake_r3 = k_law03_awake_r3s := by kernel_rfl
theorem k_law03_awake_r3_st : statOK k_law03_awake_r3 = true := by kernel_rfl
def k_law03_awake : AFun := { params := 0, ntmps := 58, body := (.seq (.reg k_law03_awake_r0 false) (.seq (.reg k_law03_awake_r1 false) (.seq (.reg k_law03_awake_r2 false) (.seq (.reg k_law03_awake_r3 true) .ret)))), res := [.tmp 0] }
theorem k_law03_awake_ok : cfun Try.prog Try.f18 = k_law03_awake := by kernel_rfl

def k_kit_NewDice_r0 : List AOper := [
  ⟨(some (2)), .move (.const (.nilptr)), none, []⟩]
def k_kit_NewDice_r1 : List AOper := [
  ⟨(some (5)), .move (.tmp 0), none, []⟩, 
  ⟨(some (6)), .len false (.tmp 5), none, []⟩, 
  ⟨(some (7)), .toInt .u64 (.tmp 6), none, []⟩, 
  ⟨(some (8)), .bin .plain .add (.tmp 7) (.const (.int .u64 1374496523)), none, []⟩, 
  ⟨(some (9)), .build [.int .u64 0] [(0, 1, .tmp 8)], none, []⟩, 
  ⟨(some (10)), .box (.tmp 9), none, []⟩, 
  ⟨(some (3)), .move (.tmp 10), none, []⟩]
def k_kit_NewDice_r2 : List AOper := [
  ⟨(some (4)), .move (.const (.int .i64 0)), none, []⟩]
def k_kit_NewDice_r3 : List AOper := [
  ⟨(some (11)), .move (.tmp 4), none, []⟩, 
  ⟨(some (12)), .move (.tmp 0), none, []⟩, 
  ⟨(some (13)), .len false (.tmp 12), none, []⟩, 
  ⟨(some (14)), .bin .plain .lss (.tmp 11) (.tmp 13), none, []⟩]
def k_kit_NewDice_r4 : List AOper := [
  ⟨(some (17)), .move (.tmp 3), none, []⟩, 
  ⟨(some (18)), .move (.tmp 3), none, [0]⟩, 
  ⟨(some (19)), .nilCheck (.tmp 18), none, [0]⟩, 
  ⟨(some (20)), .fieldAddr 0 (.tmp 19), none, [0]⟩, 
  ⟨(some (21)), .load none (.tmp 20), none, [0]⟩, 
  ⟨(some (22)), .move (.tmp 0), none, [0, 1, 2, 3, 4]⟩, 
  ⟨(some (23)), .move (.tmp 4), none, [0, 1, 2, 3, 4, 5]⟩, 
  ⟨(some (24)), .indexAddr 1 (.tmp 22) (.tmp 23), none, [0, 1, 2, 3, 4]⟩, 
  ⟨(some (25)), .load none (.tmp 24), none, [0, 1, 2, 3, 4]⟩, 
  ⟨(some (26)), .toInt .u64 (.tmp 25), none, [0, 1, 2, 3, 4]⟩, 
  ⟨(some (27)), .bin .plain .xor (.tmp 21) (.tmp 26), none, [0]⟩, 
  ⟨(some (28)), .nilCheck (.tmp 17), none, []⟩, 
  ⟨(some (29)), .fieldAddr 0 (.tmp 28), none, []⟩, 
  ⟨none, .store 1 (.tmp 29) (.tmp 27), none, []⟩]
def k_kit_NewDice_r4s : List (List AOper) := [
  [
  ⟨(some (17)), .move (.tmp 3), none, []⟩, 
  ⟨(some (18)), .move (.tmp 3), none, [0]⟩, 
  ⟨(some (19)), .nilCheck (.tmp 18), none, [0]⟩, 
  ⟨(some (20)), .fieldAddr 0 (.tmp 19), none, [0]⟩, 
  ⟨(some (21)), .load none (.tmp 20), none, [0]⟩, 
  ⟨(some (22)), .move (.tmp 0), none, [0, 1, 2, 3, 4]⟩, 
  ⟨(some (23)), .move (.tmp 4), none, [0, 1, 2, 3, 4, 5]⟩, 
  ⟨(some (24)), .indexAddr 1 (.tmp 22) (.tmp 23), none, [0, 1, 2, 3, 4]⟩, 
  ⟨(some (25)), .load none (.tmp 24), none, [0, 1, 2, 3, 4]⟩, 
  ⟨(some (26)), .toInt .u64 (.tmp 25), none, [0, 1, 2, 3, 4]⟩, 
  ⟨(some (27)), .bin .plain .xor (.tmp 21) (.tmp 26), none, [0]⟩], 
  [
  ⟨(some (28)), .nilCheck (.tmp 17), none, []⟩], 
  [
  ⟨(some (29)), .fieldAddr 0 (.tmp 28), none, []⟩], 
  [
  ⟨none, .store 1 (.tmp 29) (.tmp 27), none, []⟩]]
theorem k_kit_NewDice_r4_sg : segs k_kit_NewDice_r4 = k_kit_NewDice_r4s := by kernel_rfl
theorem k_kit_NewDice_r4_st : statOK k_kit_NewDice_r4 = true := by kernel_rfl
def k_kit_NewDice_r5 : List AOper := [
  ⟨(some (30)), .move (.tmp 3), none, []⟩, 
  ⟨(some (31)), .call (.const (.fn (.func 65) [] [])) [.tmp 30], none, []⟩]
def k_kit_NewDice_r6 : List AOper := [
  ⟨(some (15)), .move (.tmp 4), none, []⟩, 
  ⟨(some (16)), .bin .plain .add (.tmp 15) (.const (.int .i64 1)), none, []⟩, 
  ⟨(some (4)), .move (.tmp 16), none, []⟩]
def k_kit_NewDice_r7 : ACode := (.seq (.seq (.reg k_kit_NewDice_r3 false) (.cond (.tmp 14) .skip (.exit 0))) (.seq (.block 1 (.seq (.reg k_kit_NewDice_r4 true) (.reg k_kit_NewDice_r5 false))) (.reg k_kit_NewDice_r6 false)))
def k_kit_NewDice_r8 : List AOper := [
  ⟨(some (32)), .move (.tmp 3), none, []⟩, 
  ⟨(some (2)), .move (.tmp 32), none, []⟩]
def k_kit_NewDice : AFun := { params := 1, ntmps := 33, body := (.seq (.reg k_kit_NewDice_r0 false) (.seq (.reg k_kit_NewDice_r1 false) (.seq (.seq (.reg k_kit_NewDice_r2 false) (.block 0 (.loop k_kit_NewDice_r7))) (.seq (.reg k_kit_NewDice_r8 false) .ret)))), res := [.tmp 2] }
theorem k_kit_NewDice_ok : cfun Try.prog Try.f19 = k_kit_NewDice := by kernel_rfl

def k_kit_CoatOf_r0 : List AOper := [
  ⟨(some (2)), .box (.const (.agg [.int .i64 0, .int .i64 0, .int .i64 0, .int .i64 0, .int .i64 0, .int .i64 0, .nilsl])), none, []⟩]
def k_kit_CoatOf_r1 : List AOper := [
  ⟨(some (7)), .move (.tmp 0), none, []⟩, 
  ⟨(some (8)), .call (.const (.fn (.func 64) [] [])) [.tmp 7, .const (.int .i64 1), .const (.int .i64 20)], none, []⟩, 
  ⟨(some (9)), .move (.tmp 0), none, [0, 1]⟩, 
  ⟨(some (10)), .call (.const (.fn (.func 64) [] [])) [.tmp 9, .const (.int .i64 1), .const (.int .i64 2000)], none, []⟩, 
  ⟨(some (11)), .move (.tmp 0), none, [0, 1, 2, 3]⟩, 
  ⟨(some (12)), .call (.const (.fn (.func 64) [] [])) [.tmp 11, .const (.int .i64 1), .const (.int .i64 1000000)], none, []⟩, 
  ⟨(some (13)), .buildSlice 1 [.tmp 8, .tmp 10, .tmp 12], none, []⟩, 
  ⟨(some (14)), .move (.tmp 0), none, [0, 1, 2, 3, 4, 5, 6]⟩, 
  ⟨(some (15)), .call (.const (.fn (.func 23) [] [])) [.tmp 14, .const (.int .i64 3)], none, [6]⟩, 
  ⟨(some (16)), .indexAddr 1 (.tmp 13) (.tmp 15), none, []⟩, 
  ⟨(some (17)), .load none (.tmp 16), none, []⟩, 
  ⟨(some (18)), .move (.tmp 0), none, [0, 1, 2, 3, 4, 5, 6, 7, 8, 9, 10]⟩, 
  ⟨(some (19)), .call (.const (.fn (.func 64) [] [])) [.tmp 18, .const (.int .i64 1), .const (.int .i64 300)], none, [6, 9, 10]⟩, 
  ⟨(some (20)), .buildSlice 1 [.tmp 19, .const (.int .i64 2000)], none, [6, 9, 10]⟩, 
  ⟨(some (21)), .move (.tmp 0), none, [0, 1, 2, 3, 4, 5, 6, 7, 8, 9, 10, 11, 12, 13]⟩, 
  ⟨(some (22)), .call (.const (.fn (.func 23) [] [])) [.tmp 21, .const (.int .i64 2)], none, [6, 9, 10, 13]⟩, 
  ⟨(some (23)), .indexAddr 1 (.tmp 20) (.tmp 22), none, [6, 9, 10]⟩, 
  ⟨(some (24)), .load none (.tmp 23), none, [6, 9, 10]⟩, 
  ⟨(some (25)), .move (.tmp 0), none, [0, 1, 2, 3, 4, 5, 6, 7, 8, 9, 10, 11, 12, 13, 14, 15, 16, 17]⟩, 
  ⟨(some (26)), .call (.const (.fn (.func 66) [] [])) [.tmp 25, .const (.int .i64 500)], none, [6, 9, 10, 13, 16, 17]⟩, 
  ⟨(some (27)), .move (.tmp 0), none, [0, 1, 2, 3, 4, 5, 6, 7, 8, 9, 10, 11, 12, 13, 14, 15, 16, 17, 18, 19]⟩, 
  ⟨(some (28)), .call (.const (.fn (.func 66) [] [])) [.tmp 27, .const (.int .i64 1000000)], none, [6, 9, 10, 13, 16, 17]⟩, 
  ⟨(some (29)), .build [.int .i64 0, .int .i64 0, .int .i64 0, .int .i64 0, .int .i64 0, .int .i64 0, .nilsl] [(0, 1, .tmp 17), (1, 1, .tmp 24), (2, 2, .tmp 26), (4, 2, .tmp 28)], none, []⟩, 
  ⟨(some (3)), .box (.const (.agg [.int .i64 0, .int .i64 0, .int .i64 0, .int .i64 0, .int .i64 0, .int .i64 0, .nilsl])), none, [0, 1, 2, 3, 4, 5, 6, 7, 8, 9, 10, 11, 12, 13, 14, 15, 16, 17, 18, 19, 20, 21, 22]⟩, 
  ⟨none, .store 7 (.tmp 3) (.tmp 29), none, []⟩]
def k_kit_CoatOf_r1s : List (List AOper) := [
  [
  ⟨(some (7)), .move (.tmp 0), none, []⟩, 
  ⟨(some (8)), .call (.const (.fn (.func 64) [] [])) [.tmp 7, .const (.int .i64 1), .const (.int .i64 20)], none, []⟩, 
  ⟨(some (9)), .move (.tmp 0), none, [0, 1]⟩, 
  ⟨(some (10)), .call (.const (.fn (.func 64) [] [])) [.tmp 9, .const (.int .i64 1), .const (.int .i64 2000)], none, []⟩, 
  ⟨(some (11)), .move (.tmp 0), none, [0, 1, 2, 3]⟩, 
  ⟨(some (12)), .call (.const (.fn (.func 64) [] [])) [.tmp 11, .const (.int .i64 1), .const (.int .i64 1000000)], none, []⟩, 
  ⟨(some (13)), .buildSlice 1 [.tmp 8, .tmp 10, .tmp 12], none, []⟩, 
  ⟨(some (14)), .move (.tmp 0), none, [0, 1, 2, 3, 4, 5, 6]⟩, 
  ⟨(some (15)), .call (.const (.fn (.func 23) [] [])) [.tmp 14, .const (.int .i64 3)], none, [6]⟩, 
  ⟨(some (16)), .indexAddr 1 (.tmp 13) (.tmp 15), none, []⟩, 
  ⟨(some (17)), .load none (.tmp 16), none, []⟩, 
  ⟨(some (18)), .move (.tmp 0), none, [0, 1, 2, 3, 4, 5, 6, 7, 8, 9, 10]⟩, 
  ⟨(some (19)), .call (.const (.fn (.func 64) [] [])) [.tmp 18, .const (.int .i64 1), .const (.int .i64 300)], none, [6, 9, 10]⟩, 
  ⟨(some (20)), .buildSlice 1 [.tmp 19, .const (.int .i64 2000)], none, [6, 9, 10]⟩, 
  ⟨(some (21)), .move (.tmp 0), none, [0, 1, 2, 3, 4, 5, 6, 7, 8, 9, 10, 11, 12, 13]⟩, 
  ⟨(some (22)), .call (.const (.fn (.func 23) [] [])) [.tmp 21, .const (.int .i64 2)], none, [6, 9, 10, 13]⟩, 
  ⟨(some (23)), .indexAddr 1 (.tmp 20) (.tmp 22), none, [6, 9, 10]⟩, 
  ⟨(some (24)), .load none (.tmp 23), none, [6, 9, 10]⟩, 
  ⟨(some (25)), .move (.tmp 0), none, [0, 1, 2, 3, 4, 5, 6, 7, 8, 9, 10, 11, 12, 13, 14, 15, 16, 17]⟩, 
  ⟨(some (26)), .call (.const (.fn (.func 66) [] [])) [.tmp 25, .const (.int .i64 500)], none, [6, 9, 10, 13, 16, 17]⟩, 
  ⟨(some (27)), .move (.tmp 0), none, [0, 1, 2, 3, 4, 5, 6, 7, 8, 9, 10, 11, 12, 13, 14, 15, 16, 17, 18, 19]⟩, 
  ⟨(some (28)), .call (.const (.fn (.func 66) [] [])) [.tmp 27, .const (.int .i64 1000000)], none, [6, 9, 10, 13, 16, 17]⟩, 
  ⟨(some (29)), .build [.int .i64 0, .int .i64 0, .int .i64 0, .int .i64 0, .int .i64 0, .int .i64 0, .nilsl] [(0, 1, .tmp 17), (1, 1, .tmp 24), (2, 2, .tmp 26), (4, 2, .tmp 28)], none, []⟩, 
  ⟨(some (3)), .box (.const (.agg [.int .i64 0, .int .i64 0, .int .i64 0, .int .i64 0, .int .i64 0, .int .i64 0, .nilsl])), none, [0, 1, 2, 3, 4, 5, 6, 7, 8, 9, 10, 11, 12, 13, 14, 15, 16, 17, 18, 19, 20, 21, 22]⟩], 
  [
  ⟨none, .store 7 (.tmp 3) (.tmp 29), none, []⟩]]
theorem k_kit_CoatOf_r1_sg : segs k_kit_CoatOf_r1 = k_kit_CoatOf_r1s := by kernel_rfl
theorem k_kit_CoatOf_r1_st : statOK k_kit_CoatOf_r1 = true := by kernel_rfl
def k_kit_CoatOf_r2 : List AOper := [
  ⟨(some (4)), .move (.const (.int .i64 0)), none, []⟩]
def k_kit_CoatOf_r3 : List AOper := [
  ⟨(some (30)), .move (.tmp 0), none, []⟩, 
  ⟨(some (31)), .call (.const (.fn (.func 64) [] [])) [.tmp 30, .const (.int .i64 1), .const (.int .i64 4)], none, []⟩, 
  ⟨(some (5)), .move (.tmp 31), none, []⟩]
def k_kit_CoatOf_r4 : List AOper := [
  ⟨(some (32)), .move (.tmp 5), none, []⟩, 
  ⟨(some (33)), .bin .plain .gtr (.tmp 32) (.const (.int .i64 0)), none, []⟩, 
  ⟨(some (34)), .move (.tmp 33), none, []⟩, 
  ⟨(some (35)), .move (.tmp 4), (some (34, true)), []⟩, 
  ⟨(some (36)), .bin .plain .leq (.tmp 35) (.const (.int .i64 2000)), (some (34, true)), []⟩, 
  ⟨(some (37)), .pick (.tmp 34) (.tmp 36) (.const (.bool false)), none, []⟩]
def k_kit_CoatOf_r5 : List AOper := [
  ⟨(some (40)), .buildSlice 1 [.const (.int .i64 1000), .const (.int .i64 100000), .const (.int .i64 1000000)], none, []⟩, 
  ⟨(some (41)), .move (.tmp 0), none, []⟩, 
  ⟨(some (42)), .call (.const (.fn (.func 23) [] [])) [.tmp 41, .const (.int .i64 3)], none, []⟩, 
  ⟨(some (43)), .indexAddr 1 (.tmp 40) (.tmp 42), none, []⟩, 
  ⟨(some (44)), .load none (.tmp 43), none, []⟩, 
  ⟨(some (6)), .move (.tmp 44), none, []⟩]
def k_kit_CoatOf_r6 : List AOper := [
  ⟨(some (45)), .fieldAddr 6 (.tmp 3), none, []⟩, 
  ⟨(some (46)), .load none (.tmp 45), none, []⟩, 
  ⟨(some (47)), .move (.tmp 4), none, [0, 1]⟩, 
  ⟨(some (48)), .move (.tmp 0), none, [0, 1, 2]⟩, 
  ⟨(some (49)), .move (.tmp 6), none, [0, 1, 2, 3]⟩, 
  ⟨(some (50)), .call (.const (.fn (.func 66) [] [])) [.tmp 48, .tmp 49], none, [0, 1, 2]⟩, 
  ⟨(some (51)), .move (.tmp 0), none, [0, 1, 2, 3, 4, 5]⟩, 
  ⟨(some (52)), .move (.tmp 6), none, [0, 1, 2, 3, 4, 5, 6]⟩, 
  ⟨(some (53)), .call (.const (.fn (.func 66) [] [])) [.tmp 51, .tmp 52], none, [0, 1, 2]⟩, 
  ⟨(some (54)), .move (.tmp 0), none, [0, 1, 2, 3, 4, 5, 6, 7, 8]⟩, 
  ⟨(some (55)), .move (.tmp 6), none, [0, 1, 2, 3, 4, 5, 6, 7, 8, 9]⟩, 
  ⟨(some (56)), .bin .plain .quo (.tmp 55) (.const (.int .i64 4)), none, [0, 1, 2, 3, 4, 5, 6, 7, 8, 9]⟩, 
  ⟨(some (57)), .call (.const (.fn (.func 66) [] [])) [.tmp 54, .tmp 56], none, [0, 1, 2]⟩, 
  ⟨(some (58)), .move (.tmp 0), none, [0, 1, 2, 3, 4, 5, 6, 7, 8, 9, 10, 11, 12]⟩, 
  ⟨(some (59)), .call (.const (.fn (.func 66) [] [])) [.tmp 58, .const (.int .i64 9)], none, [0, 1, 2]⟩, 
  ⟨(some (60)), .build [.int .i64 0, .int .i64 0, .int .i64 0, .int .i64 0, .int .i64 0, .int .i64 0, .int .i64 0, .int .i64 0, .int .i64 0] [(0, 1, .tmp 47), (1, 2, .tmp 50), (3, 2, .tmp 53), (5, 2, .tmp 57), (7, 2, .tmp 59)], none, [0, 1]⟩, 
  ⟨(some (61)), .buildSlice 9 [.tmp 60], none, [0, 1]⟩, 
  ⟨(some (62)), .append 9 72 true (.tmp 46) (.tmp 61), none, []⟩, 
  ⟨(some (63)), .fieldAddr 6 (.tmp 3), none, []⟩, 
  ⟨none, .store 1 (.tmp 63) (.tmp 62), none, []⟩]
def k_kit_CoatOf_r6s : List (List AOper) := [
  [
  ⟨(some (45)), .fieldAddr 6 (.tmp 3), none, []⟩, 
  ⟨(some (46)), .load none (.tmp 45), none, []⟩, 
  ⟨(some (47)), .move (.tmp 4), none, [0, 1]⟩, 
  ⟨(some (48)), .move (.tmp 0), none, [0, 1, 2]⟩, 
  ⟨(some (49)), .move (.tmp 6), none, [0, 1, 2, 3]⟩, 
  ⟨(some (50)), .call (.const (.fn (.func 66) [] [])) [.tmp 48, .tmp 49], none, [0, 1, 2]⟩, 
  ⟨(some (51)), .move (.tmp 0), none, [0, 1, 2, 3, 4, 5]⟩, 
  ⟨(some (52)), .move (.tmp 6), none, [0, 1, 2, 3, 4, 5, 6]⟩, 
  ⟨(some (53)), .call (.const (.fn (.func 66) [] [])) [.tmp 51, .tmp 52], none, [0, 1, 2]⟩, 
  ⟨(some (54)), .move (.tmp 0), none, [0, 1, 2, 3, 4, 5, 6, 7, 8]⟩, 
  ⟨(some (55)), .move (.tmp 6), none, [0, 1, 2, 3, 4, 5, 6, 7, 8, 9]⟩, 
  ⟨(some (56)), .bin .plain .quo (.tmp 55) (.const (.int .i64 4)), none, [0, 1, 2, 3, 4, 5, 6, 7, 8, 9]⟩, 
  ⟨(some (57)), .call (.const (.fn (.func 66) [] [])) [.tmp 54, .tmp 56], none, [0, 1, 2]⟩, 
  ⟨(some (58)), .move (.tmp 0), none, [0, 1, 2, 3, 4, 5, 6, 7, 8, 9, 10, 11, 12]⟩, 
  ⟨(some (59)), .call (.const (.fn (.func 66) [] [])) [.tmp 58, .const (.int .i64 9)], none, [0, 1, 2]⟩, 
  ⟨(some (60)), .build [.int .i64 0, .int .i64 0, .int .i64 0, .int .i64 0, .int .i64 0, .int .i64 0, .int .i64 0, .int .i64 0, .int .i64 0] [(0, 1, .tmp 47), (1, 2, .tmp 50), (3, 2, .tmp 53), (5, 2, .tmp 57), (7, 2, .tmp 59)], none, [0, 1]⟩, 
  ⟨(some (61)), .buildSlice 9 [.tmp 60], none, [0, 1]⟩], 
  [
  ⟨(some (62)), .append 9 72 true (.tmp 46) (.tmp 61), none, []⟩], 
  [
  ⟨(some (63)), .fieldAddr 6 (.tmp 3), none, []⟩], 
  [
  ⟨none, .store 1 (.tmp 63) (.tmp 62), none, []⟩]]
theorem k_kit_CoatOf_r6_sg : segs k_kit_CoatOf_r6 = k_kit_CoatOf_r6s := by kernel_rfl
theorem k_kit_CoatOf_r6_st : statOK k_kit_CoatOf_r6 = true := by kernel_rfl
def k_kit_CoatOf_r7 : List AOper := [
  ⟨(some (64)), .move (.tmp 4), none, []⟩, 
  ⟨(some (65)), .move (.tmp 0), none, []⟩, 
  ⟨(some (66)), .call (.const (.fn (.func 64) [] [])) [.tmp 65, .const (.int .i64 1), .const (.int .i64 700)], none, []⟩, 
  ⟨(some (67)), .bin .plain .add (.tmp 64) (.tmp 66), none, []⟩, 
  ⟨(some (4)), .move (.tmp 67), none, []⟩]
def k_kit_CoatOf_r8 : List AOper := [
  ⟨(some (38)), .move (.tmp 5), none, []⟩, 
  ⟨(some (39)), .bin .plain .sub (.tmp 38) (.const (.int .i64 1)), none, []⟩, 
  ⟨(some (5)), .move (.tmp 39), none, []⟩]
def k_kit_CoatOf_r9 : ACode := (.seq (.seq (.reg k_kit_CoatOf_r4 false) (.cond (.tmp 37) .skip (.exit 0))) (.seq (.block 1 (.seq (.reg k_kit_CoatOf_r5 false) (.seq (.reg k_kit_CoatOf_r6 true) (.reg k_kit_CoatOf_r7 false)))) (.reg k_kit_CoatOf_r8 false)))
def k_kit_CoatOf_r10 : List AOper := [
  ⟨(some (68)), .load (some (7)) (.tmp 3), none, []⟩, 
  ⟨none, .store 7 (.tmp 2) (.tmp 68), none, []⟩]
def k_kit_CoatOf : AFun := { params := 1, ntmps := 69, body := (.seq (.reg k_kit_CoatOf_r0 false) (.seq (.reg k_kit_CoatOf_r1 true) (.seq (.reg k_kit_CoatOf_r2 false) (.seq (.seq (.reg k_kit_CoatOf_r3 false) (.block 0 (.loop k_kit_CoatOf_r9))) (.seq (.reg k_kit_CoatOf_r10 false) .ret))))), res := [.cell 2 (some ((some (7))))] }
theorem k_kit_CoatOf_ok : cfun Try.prog Try.f20 = k_kit_CoatOf := by kernel_rfl

def k_kit_ScheduleOf_r0 : List AOper := [
  ⟨(some (6)), .move (.const (.nilsl)), none, []⟩]
def k_kit_ScheduleOf_r1 : List AOper := [
  ⟨(some (7)), .move (.const (.nilsl)), none, []⟩]
def k_kit_ScheduleOf_r2 : List AOper := [
  ⟨(some (9)), .move (.tmp 0), none, []⟩, 
  ⟨(some (10)), .move (.tmp 1), none, []⟩, 
  ⟨(some (11)), .bin .plain .add (.tmp 10) (.const (.int .i64 1)), none, []⟩, 
  ⟨(some (12)), .call (.const (.fn (.func 23) [] [])) [.tmp 9, .tmp 11], none, []⟩, 
  ⟨(some (8)), .move (.tmp 12), none, []⟩]
def k_kit_ScheduleOf_r3 : List AOper := [
  ⟨(some (13)), .move (.tmp 8), none, []⟩, 
  ⟨(some (14)), .bin .plain .gtr (.tmp 13) (.const (.int .i64 0)), none, []⟩]
def k_kit_ScheduleOf_r4 : List AOper := [
  ⟨(some (17)), .move (.tmp 7), none, []⟩, 
  ⟨(some (18)), .move (.tmp 0), none, [0]⟩, 
  ⟨(some (19)), .move (.tmp 2), none, [0, 1]⟩, 
  ⟨(some (20)), .call (.const (.fn (.func 64) [] [])) [.tmp 18, .const (.int .i64 1), .tmp 19], none, [0]⟩, 
  ⟨(some (21)), .move (.tmp 0), none, [0, 1, 2, 3]⟩, 
  ⟨(some (22)), .call (.const (.fn (.func 64) [] [])) [.tmp 21, .const (.int .i64 0), .const (.int .i64 800)], none, [0]⟩, 
  ⟨(some (23)), .move (.tmp 0), none, [0, 1, 2, 3, 4, 5]⟩, 
  ⟨(some (24)), .call (.const (.fn (.func 64) [] [])) [.tmp 23, .const (.int .i64 600), .const (.int .i64 2000)], none, [0]⟩, 
  ⟨(some (25)), .buildSlice 1 [.tmp 22, .tmp 24, .const (.int .i64 300)], none, [0]⟩, 
  ⟨(some (26)), .move (.tmp 0), none, [0, 1, 2, 3, 4, 5, 6, 7, 8]⟩, 
  ⟨(some (27)), .call (.const (.fn (.func 23) [] [])) [.tmp 26, .const (.int .i64 3)], none, [0, 8]⟩, 
  ⟨(some (28)), .indexAddr 1 (.tmp 25) (.tmp 27), none, [0]⟩, 
  ⟨(some (29)), .load none (.tmp 28), none, [0]⟩, 
  ⟨(some (30)), .move (.tmp 0), none, [0, 1, 2, 3, 4, 5, 6, 7, 8, 9, 10, 11, 12]⟩, 
  ⟨(some (31)), .call (.const (.fn (.func 23) [] [])) [.tmp 30, .const (.int .i64 50)], none, [0, 8, 11, 12]⟩, 
  ⟨(some (32)), .move (.tmp 0), none, [0, 1, 2, 3, 4, 5, 6, 7, 8, 9, 10, 11, 12, 13, 14]⟩, 
  ⟨(some (33)), .call (.const (.fn (.func 23) [] [])) [.tmp 32, .const (.int .i64 1001)], none, [0, 8, 11, 12]⟩, 
  ⟨(some (34)), .buildSlice 1 [.const (.int .i64 0), .tmp 31, .tmp 33], none, [0, 8, 11, 12]⟩, 
  ⟨(some (35)), .move (.tmp 0), none, [0, 1, 2, 3, 4, 5, 6, 7, 8, 9, 10, 11, 12, 13, 14, 15, 16, 17]⟩, 
  ⟨(some (36)), .call (.const (.fn (.func 23) [] [])) [.tmp 35, .const (.int .i64 3)], none, [0, 8, 11, 12, 17]⟩, 
  ⟨(some (37)), .indexAddr 1 (.tmp 34) (.tmp 36), none, [0, 8, 11, 12]⟩, 
  ⟨(some (38)), .load none (.tmp 37), none, [0, 8, 11, 12]⟩, 
  ⟨(some (39)), .build [.int .i64 0, .int .i64 0, .int .i64 0] [(0, 1, .tmp 20), (1, 1, .tmp 29), (2, 1, .tmp 38)], none, [0]⟩, 
  ⟨(some (40)), .buildSlice 3 [.tmp 39], none, [0]⟩, 
  ⟨(some (41)), .append 3 24 true (.tmp 17) (.tmp 40), none, []⟩, 
  ⟨(some (7)), .move (.tmp 41), none, []⟩]
def k_kit_ScheduleOf_r4s : List (List AOper) := [
  [
  ⟨(some (17)), .move (.tmp 7), none, []⟩, 
  ⟨(some (18)), .move (.tmp 0), none, [0]⟩, 
  ⟨(some (19)), .move (.tmp 2), none, [0, 1]⟩, 
  ⟨(some (20)), .call (.const (.fn (.func 64) [] [])) [.tmp 18, .const (.int .i64 1), .tmp 19], none, [0]⟩, 
  ⟨(some (21)), .move (.tmp 0), none, [0, 1, 2, 3]⟩, 
  ⟨(some (22)), .call (.const (.fn (.func 64) [] [])) [.tmp 21, .const (.int .i64 0), .const (.int .i64 800)], none, [0]⟩, 
  ⟨(some (23)), .move (.tmp 0), none, [0, 1, 2, 3, 4, 5]⟩, 
  ⟨(some (24)), .call (.const (.fn (.func 64) [] [])) [.tmp 23, .const (.int .i64 600), .const (.int .i64 2000)], none, [0]⟩, 
  ⟨(some (25)), .buildSlice 1 [.tmp 22, .tmp 24, .const (.int .i64 300)], none, [0]⟩, 
  ⟨(some (26)), .move (.tmp 0), none, [0, 1, 2, 3, 4, 5, 6, 7, 8]⟩, 
  ⟨(some (27)), .call (.const (.fn (.func 23) [] [])) [.tmp 26, .const (.int .i64 3)], none, [0, 8]⟩, 
  ⟨(some (28)), .indexAddr 1 (.tmp 25) (.tmp 27), none, [0]⟩, 
  ⟨(some (29)), .load none (.tmp 28), none, [0]⟩, 
  ⟨(some (30)), .move (.tmp 0), none, [0, 1, 2, 3, 4, 5, 6, 7, 8, 9, 10, 11, 12]⟩, 
  ⟨(some (31)), .call (.const (.fn (.func 23) [] [])) [.tmp 30, .const (.int .i64 50)], none, [0, 8, 11, 12]⟩, 
  ⟨(some (32)), .move (.tmp 0), none, [0, 1, 2, 3, 4, 5, 6, 7, 8, 9, 10, 11, 12, 13, 14]⟩, 
  ⟨(some (33)), .call (.const (.fn (.func 23) [] [])) [.tmp 32, .const (.int .i64 1001)], none, [0, 8, 11, 12]⟩, 
  ⟨(some (34)), .buildSlice 1 [.const (.int .i64 0), .tmp 31, .tmp 33], none, [0, 8, 11, 12]⟩, 
  ⟨(some (35)), .move (.tmp 0), none, [0, 1, 2, 3, 4, 5, 6, 7, 8, 9, 10, 11, 12, 13, 14, 15, 16, 17]⟩, 
  ⟨(some (36)), .call (.const (.fn (.func 23) [] [])) [.tmp 35, .const (.int .i64 3)], none, [0, 8, 11, 12, 17]⟩, 
  ⟨(some (37)), .indexAddr 1 (.tmp 34) (.tmp 36), none, [0, 8, 11, 12]⟩, 
  ⟨(some (38)), .load none (.tmp 37), none, [0, 8, 11, 12]⟩, 
  ⟨(some (39)), .build [.int .i64 0, .int .i64 0, .int .i64 0] [(0, 1, .tmp 20), (1, 1, .tmp 29), (2, 1, .tmp 38)], none, [0]⟩, 
  ⟨(some (40)), .buildSlice 3 [.tmp 39], none, [0]⟩], 
  [
  ⟨(some (41)), .append 3 24 true (.tmp 17) (.tmp 40), none, []⟩], 
  [
  ⟨(some (7)), .move (.tmp 41), none, []⟩]]
theorem k_kit_ScheduleOf_r4_sg : segs k_kit_ScheduleOf_r4 = k_kit_ScheduleOf_r4s := by kernel_rfl
theorem k_kit_ScheduleOf_r4_st : statOK k_kit_ScheduleOf_r4 = true := by kernel_rfl
def k_kit_ScheduleOf_r5 : List AOper := [
  ⟨(some (15)), .move (.tmp 8), none, []⟩, 
  ⟨(some (16)), .bin .plain .sub (.tmp 15) (.const (.int .i64 1)), none, []⟩, 
  ⟨(some (8)), .move (.tmp 16), none, []⟩]
def k_kit_ScheduleOf_r6 : ACode := (.seq (.seq (.reg k_kit_ScheduleOf_r3 false) (.cond (.tmp 14) .skip (.exit 0))) (.seq (.block 1 (.reg k_kit_ScheduleOf_r4 true)) (.reg k_kit_ScheduleOf_r5 false)))
def k_kit_ScheduleOf_r7 : List AOper := [
  ⟨(some (42)), .move (.tmp 7), none, []⟩, 
  ⟨(some (6)), .move (.tmp 42), none, []⟩]
def k_kit_ScheduleOf : AFun := { params := 3, ntmps := 43, body := (.seq (.reg k_kit_ScheduleOf_r0 false) (.seq (.reg k_kit_ScheduleOf_r1 false) (.seq (.seq (.reg k_kit_ScheduleOf_r2 false) (.block 0 (.loop k_kit_ScheduleOf_r6))) (.seq (.reg k_kit_ScheduleOf_r7 false) .ret)))), res := [.tmp 6] }
theorem k_kit_ScheduleOf_ok : cfun Try.prog Try.f21 = k_kit_ScheduleOf := by kernel_rfl

def k_kit_Dice_One_r0 : List AOper := [
  ⟨(some (4)), .move (.const (.bool false)), none, []⟩]
def k_kit_Dice_One_r1 : List AOper := [
  ⟨(some (5)), .move (.tmp 0), none, []⟩, 
  ⟨(some (6)), .move (.tmp 1), none, []⟩, 
  ⟨(some (7)), .call (.const (.fn (.func 23) [] [])) [.tmp 5, .tmp 6], none, []⟩, 
  ⟨(some (8)), .bin .plain .eql (.tmp 7) (.const (.int .i64 0)), none, []⟩, 
  ⟨(some (4)), .move (.tmp 8), none, []⟩]
def k_kit_Dice_One : AFun := { params := 2, ntmps := 9, body := (.seq (.reg k_kit_Dice_One_r0 false) (.seq (.reg k_kit_Dice_One_r1 false) .ret)), res := [.tmp 4] }
theorem k_kit_Dice_One_ok : cfun Try.prog Try.f22 = k_kit_Dice_One := by kernel_rfl

def k_kit_Dice_Upto_r0 : List AOper := [
  ⟨(some (4)), .move (.const (.int .i64 0)), none, []⟩]
def k_kit_Dice_Upto_r1 : List AOper := [
  ⟨(some (6)), .move (.tmp 0), none, []⟩, 
  ⟨(some (7)), .call (.const (.fn (.func 65) [] [])) [.tmp 6], none, []⟩, 
  ⟨(some (5)), .move (.tmp 7), none, []⟩]
def k_kit_Dice_Upto_r2 : List AOper := [
  ⟨(some (8)), .move (.tmp 1), none, []⟩, 
  ⟨(some (9)), .bin .plain .lss (.tmp 8) (.const (.int .i64 1)), none, []⟩]
def k_kit_Dice_Upto_r3 : List AOper := [
  ⟨(some (4)), .move (.const (.int .i64 0)), none, []⟩]
def k_kit_Dice_Upto_r4 : List AOper := [
  ⟨(some (10)), .move (.tmp 5), none, []⟩, 
  ⟨(some (11)), .move (.tmp 1), none, []⟩, 
  ⟨(some (12)), .toInt .u64 (.tmp 11), none, []⟩, 
  ⟨(some (13)), .bin .plain .rem (.tmp 10) (.tmp 12), none, []⟩, 
  ⟨(some (14)), .toInt .i64 (.tmp 13), none, []⟩, 
  ⟨(some (4)), .move (.tmp 14), none, []⟩]
def k_kit_Dice_Upto : AFun := { params := 2, ntmps := 15, body := (.seq (.reg k_kit_Dice_Upto_r0 false) (.seq (.reg k_kit_Dice_Upto_r1 false) (.seq (.seq (.reg k_kit_Dice_Upto_r2 false) (.cond (.tmp 9) (.seq (.reg k_kit_Dice_Upto_r3 false) .ret) .skip)) (.seq (.reg k_kit_Dice_Upto_r4 false) .ret)))), res := [.tmp 4] }
theorem k_kit_Dice_Upto_ok : cfun Try.prog Try.f23 = k_kit_Dice_Upto := by kernel_rfl

def k_ref03_Copy_r0 : List AOper := [
  ⟨(some (1)), .box (.tmp 0), none, []⟩, 
  ⟨(some (2)), .box (.const (.agg [.int .i64 0, .int .i64 0, .int .i64 0, .int .i64 0, .int .i64 0, .int .i64 0, .nilsl])), none, []⟩]
def k_ref03_Copy_r1 : List AOper := [
  ⟨(some (3)), .buildSlice 9 [], none, []⟩, 
  ⟨(some (4)), .fieldAddr 6 (.tmp 1), none, []⟩, 
  ⟨(some (5)), .load none (.tmp 4), none, []⟩, 
  ⟨(some (6)), .append 9 72 true (.tmp 3) (.tmp 5), none, []⟩, 
  ⟨(some (7)), .fieldAddr 6 (.tmp 1), none, []⟩, 
  ⟨none, .store 1 (.tmp 7) (.tmp 6), none, []⟩]
def k_ref03_Copy_r2 : List AOper := [
  ⟨(some (8)), .load (some (7)) (.tmp 1), none, []⟩, 
  ⟨none, .store 7 (.tmp 2) (.tmp 8), none, []⟩]
def k_ref03_Copy : AFun := { params := 1, ntmps := 9, body := (.seq (.reg k_ref03_Copy_r0 false) (.seq (.reg k_ref03_Copy_r1 false) (.seq (.reg k_ref03_Copy_r2 false) .ret))), res := [.cell 2 (some ((some (7))))] }
theorem k_ref03_Copy_ok : cfun Try.prog Try.f24 = k_ref03_Copy := by kernel_rfl

def k_cathode_Check_r0 : List AOper := [
  ⟨(some (1)), .box (.tmp 0), none, []⟩, 
  ⟨(some (2)), .move (.const (.int .i64 0)), none, []⟩]
def k_cathode_Check_r1 : List AOper := [
  ⟨(some (7)), .fieldAddr 0 (.tmp 1), none, []⟩, 
  ⟨(some (8)), .load none (.tmp 7), none, []⟩, 
  ⟨(some (9)), .call (.const (.fn (.func 67) [] [])) [.tmp 8, .const (.int .i64 1), .const (.int .i64 1000000)], none, []⟩, 
  ⟨(some (10)), .not (.tmp 9), none, []⟩, 
  ⟨(some (11)), .move (.tmp 10), none, []⟩, 
  ⟨(some (12)), .fieldAddr 1 (.tmp 1), (some (11, false)), []⟩, 
  ⟨(some (13)), .load none (.tmp 12), (some (11, false)), []⟩, 
  ⟨(some (14)), .call (.const (.fn (.func 67) [] [])) [.tmp 13, .const (.int .i64 1), .const (.int .i64 2000)], (some (11, false)), []⟩, 
  ⟨(some (15)), .not (.tmp 14), (some (11, false)), []⟩, 
  ⟨(some (16)), .pick (.tmp 11) (.const (.bool true)) (.tmp 15), none, []⟩]
def k_cathode_Check_r2 : List AOper := [
  ⟨(some (2)), .move (.const (.int .i64 2)), none, []⟩]
def k_cathode_Check_r3 : List AOper := [
  ⟨(some (17)), .fieldAddr 2 (.tmp 1), none, []⟩, 
  ⟨(some (18)), .load (some (2)) (.tmp 17), none, []⟩, 
  ⟨(some (19)), .fieldAddr 4 (.tmp 1), none, []⟩, 
  ⟨(some (20)), .load (some (2)) (.tmp 19), none, []⟩, 
  ⟨(some (21)), .buildSlice 2 [.tmp 18, .tmp 20], none, []⟩, 
  ⟨(some (22)), .call (.const (.fn (.func 68) [] [])) [.const (.int .i64 1000000), .tmp 21], none, []⟩, 
  ⟨(some (3)), .move (.tmp 22), none, []⟩]
def k_cathode_Check_r4 : List AOper := [
  ⟨(some (23)), .move (.tmp 3), none, []⟩, 
  ⟨(some (24)), .bin .plain .neq (.tmp 23) (.const (.int .i64 0)), none, []⟩]
def k_cathode_Check_r5 : List AOper := [
  ⟨(some (25)), .move (.tmp 3), none, []⟩, 
  ⟨(some (2)), .move (.tmp 25), none, []⟩]
def k_cathode_Check_r6 : List AOper := [
  ⟨(some (26)), .fieldAddr 6 (.tmp 1), none, []⟩, 
  ⟨(some (27)), .load none (.tmp 26), none, []⟩, 
  ⟨(some (28)), .len false (.tmp 27), none, []⟩, 
  ⟨(some (29)), .bin .plain .eql (.tmp 28) (.const (.int .i64 0)), none, []⟩]
def k_cathode_Check_r7 : List AOper := [
  ⟨(some (2)), .move (.const (.int .i64 6)), none, []⟩]
def k_cathode_Check_r8 : List AOper := [
  ⟨(some (30)), .fieldAddr 6 (.tmp 1), none, []⟩, 
  ⟨(some (31)), .load none (.tmp 30), none, []⟩, 
  ⟨(some (32)), .len false (.tmp 31), none, []⟩, 
  ⟨(some (33)), .bin .plain .gtr (.tmp 32) (.const (.int .i64 16)), none, []⟩]
def k_cathode_Check_r9 : List AOper := [
  ⟨(some (2)), .move (.const (.int .i64 8)), none, []⟩]
def k_cathode_Check_r10 : List AOper := [
  ⟨(some (34)), .fieldAddr 6 (.tmp 1), none, []⟩, 
  ⟨(some (35)), .load none (.tmp 34), none, []⟩, 
  ⟨(some (36)), .len false (.tmp 35), none, []⟩, 
  ⟨(some (37)), .move (.const (.int .i64 0)), none, []⟩]
def k_cathode_Check_r11 : List AOper := [
  ⟨(some (38)), .bin .plain .lss (.tmp 37) (.tmp 36), none, []⟩]
def k_cathode_Check_r12 : List AOper := [
  ⟨(some (39)), .move (.tmp 37), none, []⟩, 
  ⟨(some (40)), .indexAddr 9 (.tmp 35) (.tmp 37), none, []⟩, 
  ⟨(some (41)), .load (some (9)) (.tmp 40), none, []⟩, 
  ⟨(some (5)), .box (.const (.agg [.int .i64 0, .int .i64 0, .int .i64 0, .int .i64 0, .int .i64 0, .int .i64 0, .int .i64 0, .int .i64 0, .int .i64 0])), none, []⟩, 
  ⟨(some (4)), .move (.tmp 39), none, []⟩, 
  ⟨none, .store 9 (.tmp 5) (.tmp 41), none, []⟩]
def k_cathode_Check_r13 : List AOper := [
  ⟨(some (42)), .fieldAddr 0 (.tmp 5), none, []⟩, 
  ⟨(some (43)), .load none (.tmp 42), none, []⟩, 
  ⟨(some (44)), .call (.const (.fn (.func 67) [] [])) [.tmp 43, .const (.int .i64 0), .const (.int .i64 2000)], none, []⟩, 
  ⟨(some (45)), .not (.tmp 44), none, []⟩]
def k_cathode_Check_r14 : List AOper := [
  ⟨(some (2)), .move (.const (.int .i64 2)), none, []⟩]
def k_cathode_Check_r15 : List AOper := [
  ⟨(some (46)), .move (.tmp 4), none, []⟩, 
  ⟨(some (47)), .bin .plain .eql (.tmp 46) (.const (.int .i64 0)), none, []⟩, 
  ⟨(some (48)), .move (.tmp 47), none, []⟩, 
  ⟨(some (49)), .fieldAddr 0 (.tmp 5), (some (48, true)), []⟩, 
  ⟨(some (50)), .load none (.tmp 49), (some (48, true)), []⟩, 
  ⟨(some (51)), .bin .plain .neq (.tmp 50) (.const (.int .i64 0)), (some (48, true)), []⟩, 
  ⟨(some (52)), .pick (.tmp 48) (.tmp 51) (.const (.bool false)), none, []⟩, 
  ⟨(some (53)), .move (.tmp 52), none, []⟩, 
  ⟨(some (54)), .move (.tmp 4), (some (53, false)), []⟩, 
  ⟨(some (55)), .bin .plain .gtr (.tmp 54) (.const (.int .i64 0)), (some (53, false)), []⟩, 
  ⟨(some (56)), .move (.tmp 55), (some (53, false)), []⟩, 
  ⟨(some (57)), .fieldAddr 0 (.tmp 5), (some (56, true)), []⟩, 
  ⟨(some (58)), .load none (.tmp 57), (some (56, true)), []⟩, 
  ⟨(some (59)), .fieldAddr 6 (.tmp 1), (some (56, true)), [11, 12]⟩, 
  ⟨(some (60)), .load none (.tmp 59), (some (56, true)), [11, 12]⟩, 
  ⟨(some (61)), .move (.tmp 4), (some (56, true)), [11, 12, 13, 14]⟩, 
  ⟨(some (62)), .bin .plain .sub (.tmp 61) (.const (.int .i64 1)), (some (56, true)), [11, 12, 13, 14]⟩, 
  ⟨(some (63)), .indexAddr 9 (.tmp 60) (.tmp 62), (some (56, true)), [11, 12]⟩, 
  ⟨(some (64)), .fieldAddr 0 (.tmp 63), (some (56, true)), [11, 12]⟩, 
  ⟨(some (65)), .load none (.tmp 64), (some (56, true)), [11, 12]⟩, 
  ⟨(some (66)), .bin .plain .leq (.tmp 58) (.tmp 65), (some (56, true)), []⟩, 
  ⟨(some (67)), .pick (.tmp 56) (.tmp 66) (.const (.bool false)), (some (53, false)), []⟩, 
  ⟨(some (68)), .pick (.tmp 53) (.const (.bool true)) (.tmp 67), none, []⟩]
def k_cathode_Check_r15s : List (List AOper) := [
  [
  ⟨(some (46)), .move (.tmp 4), none, []⟩], 
  [
  ⟨(some (47)), .bin .plain .eql (.tmp 46) (.const (.int .i64 0)), none, []⟩], 
  [
  ⟨(some (48)), .move (.tmp 47), none, []⟩], 
  [
  ⟨(some (49)), .fieldAddr 0 (.tmp 5), (some (48, true)), []⟩], 
  [
  ⟨(some (50)), .load none (.tmp 49), (some (48, true)), []⟩], 
  [
  ⟨(some (51)), .bin .plain .neq (.tmp 50) (.const (.int .i64 0)), (some (48, true)), []⟩], 
  [
  ⟨(some (52)), .pick (.tmp 48) (.tmp 51) (.const (.bool false)), none, []⟩], 
  [
  ⟨(some (53)), .move (.tmp 52), none, []⟩], 
  [
  ⟨(some (54)), .move (.tmp 4), (some (53, false)), []⟩], 
  [
  ⟨(some (55)), .bin .plain .gtr (.tmp 54) (.const (.int .i64 0)), (some (53, false)), []⟩], 
  [
  ⟨(some (56)), .move (.tmp 55), (some (53, false)), []⟩], 
  [
  ⟨(some (57)), .fieldAddr 0 (.tmp 5), (some (56, true)), []⟩, 
  ⟨(some (58)), .load none (.tmp 57), (some (56, true)), []⟩, 
  ⟨(some (59)), .fieldAddr 6 (.tmp 1), (some (56, true)), [11, 12]⟩, 
  ⟨(some (60)), .load none (.tmp 59), (some (56, true)), [11, 12]⟩, 
  ⟨(some (61)), .move (.tmp 4), (some (56, true)), [11, 12, 13, 14]⟩, 
  ⟨(some (62)), .bin .plain .sub (.tmp 61) (.const (.int .i64 1)), (some (56, true)), [11, 12, 13, 14]⟩, 
  ⟨(some (63)), .indexAddr 9 (.tmp 60) (.tmp 62), (some (56, true)), [11, 12]⟩, 
  ⟨(some (64)), .fieldAddr 0 (.tmp 63), (some (56, true)), [11, 12]⟩, 
  ⟨(some (65)), .load none (.tmp 64), (some (56, true)), [11, 12]⟩], 
  [
  ⟨(some (66)), .bin .plain .leq (.tmp 58) (.tmp 65), (some (56, true)), []⟩], 
  [
  ⟨(some (67)), .pick (.tmp 56) (.tmp 66) (.const (.bool false)), (some (53, false)), []⟩], 
  [
  ⟨(some (68)), .pick (.tmp 53) (.const (.bool true)) (.tmp 67), none, []⟩]]
theorem k_cathode_Check_r15_sg : segs k_cathode_Check_r15 = k_cathode_Check_r15s := by kernel_rfl
theorem k_cathode_Check_r15_st : statOK k_cathode_Check_r15 = true := by kernel_rfl
def k_cathode_Check_r16 : List AOper := [
  ⟨(some (2)), .move (.const (.int .i64 11)), none, []⟩]
def k_cathode_Check_r17 : List AOper := [
  ⟨(some (69)), .fieldAddr 1 (.tmp 5), none, []⟩, 
  ⟨(some (70)), .load (some (2)) (.tmp 69), none, []⟩, 
  ⟨(some (71)), .fieldAddr 3 (.tmp 5), none, []⟩, 
  ⟨(some (72)), .load (some (2)) (.tmp 71), none, []⟩, 
  ⟨(some (73)), .fieldAddr 5 (.tmp 5), none, []⟩, 
  ⟨(some (74)), .load (some (2)) (.tmp 73), none, []⟩, 
  ⟨(some (75)), .fieldAddr 7 (.tmp 5), none, []⟩, 
  ⟨(some (76)), .load (some (2)) (.tmp 75), none, []⟩, 
  ⟨(some (77)), .buildSlice 2 [.tmp 70, .tmp 72, .tmp 74, .tmp 76], none, []⟩, 
  ⟨(some (78)), .call (.const (.fn (.func 68) [] [])) [.const (.int .i64 1000000), .tmp 77], none, []⟩, 
  ⟨(some (6)), .move (.tmp 78), none, []⟩]
def k_cathode_Check_r18 : List AOper := [
  ⟨(some (79)), .move (.tmp 6), none, []⟩, 
  ⟨(some (80)), .bin .plain .neq (.tmp 79) (.const (.int .i64 0)), none, []⟩]
def k_cathode_Check_r19 : List AOper := [
  ⟨(some (81)), .move (.tmp 6), none, []⟩, 
  ⟨(some (2)), .move (.tmp 81), none, []⟩]
def k_cathode_Check_r20 : List AOper := [
  ⟨(some (82)), .bin .plain .add (.tmp 37) (.const (.int .i64 1)), none, []⟩, 
  ⟨(some (37)), .move (.tmp 82), none, []⟩]
def k_cathode_Check_r21 : ACode := (.seq (.reg k_cathode_Check_r11 false) (.seq (.cond (.tmp 38) .skip (.exit 0)) (.seq (.block 1 (.seq (.reg k_cathode_Check_r12 false) (.seq (.seq (.reg k_cathode_Check_r13 false) (.cond (.tmp 45) (.seq (.reg k_cathode_Check_r14 false) .ret) .skip)) (.seq (.seq (.reg k_cathode_Check_r15 true) (.cond (.tmp 68) (.seq (.reg k_cathode_Check_r16 false) .ret) .skip)) (.seq (.reg k_cathode_Check_r17 false) (.seq (.reg k_cathode_Check_r18 false) (.cond (.tmp 80) (.seq (.reg k_cathode_Check_r19 false) .ret) .skip))))))) (.reg k_cathode_Check_r20 false))))
def k_cathode_Check_r22 : List AOper := [
  ⟨(some (2)), .move (.const (.int .i64 0)), none, []⟩]
def k_cathode_Check : AFun := { params := 1, ntmps := 83, body := (.seq (.reg k_cathode_Check_r0 false) (.seq (.seq (.reg k_cathode_Check_r1 false) (.cond (.tmp 16) (.seq (.reg k_cathode_Check_r2 false) .ret) .skip)) (.seq (.seq (.reg k_cathode_Check_r3 false) (.seq (.reg k_cathode_Check_r4 false) (.cond (.tmp 24) (.seq (.reg k_cathode_Check_r5 false) .ret) .skip))) (.seq (.seq (.reg k_cathode_Check_r6 false) (.cond (.tmp 29) (.seq (.reg k_cathode_Check_r7 false) .ret) .skip)) (.seq (.seq (.reg k_cathode_Check_r8 false) (.cond (.tmp 33) (.seq (.reg k_cathode_Check_r9 false) .ret) .skip)) (.seq (.seq (.reg k_cathode_Check_r10 false) (.block 0 (.loop k_cathode_Check_r21))) (.seq (.reg k_cathode_Check_r22 false) .ret))))))), res := [.tmp 2] }
theorem k_cathode_Check_ok : cfun Try.prog Try.f25 = k_cathode_Check := by kernel_rfl

def k_cathode_CheckCoating_r0 : List AOper := [
  ⟨(some (2)), .box (.tmp 0), none, []⟩, 
  ⟨(some (3)), .box (.tmp 1), none, []⟩, 
  ⟨(some (4)), .move (.const (.int .i64 0)), none, []⟩]
def k_cathode_CheckCoating_r1 : List AOper := [
  ⟨(some (8)), .load (some (7)) (.tmp 2), none, []⟩, 
  ⟨(some (9)), .call (.const (.fn (.func 25) [] [])) [.tmp 8], none, []⟩, 
  ⟨(some (5)), .move (.tmp 9), none, []⟩]
def k_cathode_CheckCoating_r2 : List AOper := [
  ⟨(some (10)), .move (.tmp 5), none, []⟩, 
  ⟨(some (11)), .bin .plain .neq (.tmp 10) (.const (.int .i64 0)), none, []⟩]
def k_cathode_CheckCoating_r3 : List AOper := [
  ⟨(some (12)), .move (.tmp 5), none, []⟩, 
  ⟨(some (4)), .move (.tmp 12), none, []⟩]
def k_cathode_CheckCoating_r4 : List AOper := [
  ⟨(some (13)), .fieldAddr 0 (.tmp 2), none, []⟩, 
  ⟨(some (14)), .load none (.tmp 13), none, []⟩, 
  ⟨(some (15)), .fieldAddr 0 (.tmp 3), none, []⟩, 
  ⟨(some (16)), .load (some (2)) (.tmp 15), none, []⟩, 
  ⟨(some (17)), .fieldAddr 2 (.tmp 3), none, []⟩, 
  ⟨(some (18)), .load (some (2)) (.tmp 17), none, []⟩, 
  ⟨(some (19)), .fieldAddr 4 (.tmp 3), none, []⟩, 
  ⟨(some (20)), .load (some (2)) (.tmp 19), none, []⟩, 
  ⟨(some (21)), .fieldAddr 6 (.tmp 3), none, []⟩, 
  ⟨(some (22)), .load (some (2)) (.tmp 21), none, []⟩, 
  ⟨(some (23)), .fieldAddr 8 (.tmp 3), none, []⟩, 
  ⟨(some (24)), .load (some (2)) (.tmp 23), none, []⟩, 
  ⟨(some (25)), .buildSlice 2 [.tmp 16, .tmp 18, .tmp 20, .tmp 22, .tmp 24], none, []⟩, 
  ⟨(some (26)), .call (.const (.fn (.func 68) [] [])) [.tmp 14, .tmp 25], none, []⟩, 
  ⟨(some (6)), .move (.tmp 26), none, []⟩]
def k_cathode_CheckCoating_r5 : List AOper := [
  ⟨(some (27)), .move (.tmp 6), none, []⟩, 
  ⟨(some (28)), .bin .plain .neq (.tmp 27) (.const (.int .i64 0)), none, []⟩]
def k_cathode_CheckCoating_r6 : List AOper := [
  ⟨(some (29)), .move (.tmp 6), none, []⟩, 
  ⟨(some (4)), .move (.tmp 29), none, []⟩]
def k_cathode_CheckCoating_r7 : List AOper := [
  ⟨(some (30)), .fieldAddr 10 (.tmp 3), none, []⟩, 
  ⟨(some (31)), .load (some (2)) (.tmp 30), none, []⟩, 
  ⟨(some (32)), .buildSlice 2 [.tmp 31], none, []⟩, 
  ⟨(some (33)), .call (.const (.fn (.func 68) [] [])) [.const (.int .i64 1099511627776), .tmp 32], none, []⟩, 
  ⟨(some (7)), .move (.tmp 33), none, []⟩]
def k_cathode_CheckCoating_r8 : List AOper := [
  ⟨(some (34)), .move (.tmp 7), none, []⟩, 
  ⟨(some (35)), .bin .plain .neq (.tmp 34) (.const (.int .i64 0)), none, []⟩]
def k_cathode_CheckCoating_r9 : List AOper := [
  ⟨(some (36)), .move (.tmp 7), none, []⟩, 
  ⟨(some (4)), .move (.tmp 36), none, []⟩]
def k_cathode_CheckCoating_r10 : List AOper := [
  ⟨(some (37)), .fieldAddr 12 (.tmp 3), none, []⟩, 
  ⟨(some (38)), .load none (.tmp 37), none, []⟩, 
  ⟨(some (39)), .call (.const (.fn (.func 67) [] [])) [.tmp 38, .const (.int .i64 0), .const (.int .i64 2000)], none, []⟩, 
  ⟨(some (40)), .not (.tmp 39), none, []⟩]
def k_cathode_CheckCoating_r11 : List AOper := [
  ⟨(some (4)), .move (.const (.int .i64 2)), none, []⟩]
def k_cathode_CheckCoating_r12 : List AOper := [
  ⟨(some (4)), .move (.const (.int .i64 0)), none, []⟩]
def k_cathode_CheckCoating : AFun := { params := 2, ntmps := 41, body := (.seq (.reg k_cathode_CheckCoating_r0 false) (.seq (.seq (.reg k_cathode_CheckCoating_r1 false) (.seq (.reg k_cathode_CheckCoating_r2 false) (.cond (.tmp 11) (.seq (.reg k_cathode_CheckCoating_r3 false) .ret) .skip))) (.seq (.seq (.reg k_cathode_CheckCoating_r4 false) (.seq (.reg k_cathode_CheckCoating_r5 false) (.cond (.tmp 28) (.seq (.reg k_cathode_CheckCoating_r6 false) .ret) .skip))) (.seq (.seq (.reg k_cathode_CheckCoating_r7 false) (.seq (.reg k_cathode_CheckCoating_r8 false) (.cond (.tmp 35) (.seq (.reg k_cathode_CheckCoating_r9 false) .ret) .skip))) (.seq (.seq (.reg k_cathode_CheckCoating_r10 false) (.cond (.tmp 40) (.seq (.reg k_cathode_CheckCoating_r11 false) .ret) .skip)) (.seq (.reg k_cathode_CheckCoating_r12 false) .ret)))))), res := [.tmp 4] }
theorem k_cathode_CheckCoating_ok : cfun Try.prog Try.f27 = k_cathode_CheckCoating := by kernel_rfl

def k_cathode_CheckSchedule_r0 : List AOper := [
  ⟨(some (2)), .move (.const (.int .i64 0)), none, []⟩]
def k_cathode_CheckSchedule_r1 : List AOper := [
  ⟨(some (5)), .move (.tmp 0), none, []⟩, 
  ⟨(some (6)), .len false (.tmp 5), none, []⟩, 
  ⟨(some (7)), .bin .plain .gtr (.tmp 6) (.const (.int .i64 40)), none, []⟩]
def k_cathode_CheckSchedule_r2 : List AOper := [
  ⟨(some (2)), .move (.const (.int .i64 8)), none, []⟩]
def k_cathode_CheckSchedule_r3 : List AOper := [
  ⟨(some (8)), .move (.tmp 0), none, []⟩, 
  ⟨(some (9)), .len false (.tmp 8), none, []⟩, 
  ⟨(some (10)), .move (.const (.int .i64 0)), none, []⟩]
def k_cathode_CheckSchedule_r4 : List AOper := [
  ⟨(some (11)), .bin .plain .lss (.tmp 10) (.tmp 9), none, []⟩]
def k_cathode_CheckSchedule_r5 : List AOper := [
  ⟨(some (12)), .indexAddr 3 (.tmp 8) (.tmp 10), none, []⟩, 
  ⟨(some (13)), .load (some (3)) (.tmp 12), none, []⟩, 
  ⟨(some (4)), .box (.const (.agg [.int .i64 0, .int .i64 0, .int .i64 0])), none, []⟩, 
  ⟨none, .store 3 (.tmp 4) (.tmp 13), none, []⟩]
def k_cathode_CheckSchedule_r6 : List AOper := [
  ⟨(some (14)), .fieldAddr 0 (.tmp 4), none, []⟩, 
  ⟨(some (15)), .load none (.tmp 14), none, []⟩, 
  ⟨(some (16)), .call (.const (.fn (.func 67) [] [])) [.tmp 15, .const (.int .i64 1), .const (.int .i64 2000)], none, []⟩, 
  ⟨(some (17)), .not (.tmp 16), none, []⟩, 
  ⟨(some (18)), .move (.tmp 17), none, []⟩, 
  ⟨(some (19)), .fieldAddr 1 (.tmp 4), (some (18, false)), []⟩, 
  ⟨(some (20)), .load none (.tmp 19), (some (18, false)), []⟩, 
  ⟨(some (21)), .call (.const (.fn (.func 72) [] [])) [.tmp 20], (some (18, false)), []⟩, 
  ⟨(some (22)), .not (.tmp 21), (some (18, false)), []⟩, 
  ⟨(some (23)), .pick (.tmp 18) (.const (.bool true)) (.tmp 22), none, []⟩, 
  ⟨(some (24)), .move (.tmp 23), none, []⟩, 
  ⟨(some (25)), .fieldAddr 2 (.tmp 4), (some (24, false)), []⟩, 
  ⟨(some (26)), .load none (.tmp 25), (some (24, false)), []⟩, 
  ⟨(some (27)), .call (.const (.fn (.func 73) [] [])) [.tmp 26], (some (24, false)), []⟩, 
  ⟨(some (28)), .not (.tmp 27), (some (24, false)), []⟩, 
  ⟨(some (29)), .pick (.tmp 24) (.const (.bool true)) (.tmp 28), none, []⟩]
def k_cathode_CheckSchedule_r7 : List AOper := [
  ⟨(some (2)), .move (.const (.int .i64 2)), none, []⟩]
def k_cathode_CheckSchedule_r8 : List AOper := [
  ⟨(some (30)), .bin .plain .add (.tmp 10) (.const (.int .i64 1)), none, []⟩, 
  ⟨(some (10)), .move (.tmp 30), none, []⟩]
def k_cathode_CheckSchedule_r9 : ACode := (.seq (.reg k_cathode_CheckSchedule_r4 false) (.seq (.cond (.tmp 11) .skip (.exit 0)) (.seq (.block 1 (.seq (.reg k_cathode_CheckSchedule_r5 false) (.seq (.reg k_cathode_CheckSchedule_r6 false) (.cond (.tmp 29) (.seq (.reg k_cathode_CheckSchedule_r7 false) .ret) .skip)))) (.reg k_cathode_CheckSchedule_r8 false))))
def k_cathode_CheckSchedule_r10 : List AOper := [
  ⟨(some (31)), .move (.tmp 0), none, []⟩, 
  ⟨(some (32)), .call (.const (.fn (.func 74) [] [])) [.tmp 31], none, []⟩, 
  ⟨(some (33)), .bin .plain .gtr (.tmp 32) (.const (.int .i64 20000)), none, []⟩]
def k_cathode_CheckSchedule_r11 : List AOper := [
  ⟨(some (2)), .move (.const (.int .i64 5)), none, []⟩]
def k_cathode_CheckSchedule_r12 : List AOper := [
  ⟨(some (2)), .move (.const (.int .i64 0)), none, []⟩]
def k_cathode_CheckSchedule : AFun := { params := 1, ntmps := 34, body := (.seq (.reg k_cathode_CheckSchedule_r0 false) (.seq (.seq (.reg k_cathode_CheckSchedule_r1 false) (.cond (.tmp 7) (.seq (.reg k_cathode_CheckSchedule_r2 false) .ret) .skip)) (.seq (.seq (.reg k_cathode_CheckSchedule_r3 false) (.block 0 (.loop k_cathode_CheckSchedule_r9))) (.seq (.seq (.reg k_cathode_CheckSchedule_r10 false) (.cond (.tmp 33) (.seq (.reg k_cathode_CheckSchedule_r11 false) .ret) .skip)) (.seq (.reg k_cathode_CheckSchedule_r12 false) .ret))))), res := [.tmp 2] }
theorem k_cathode_CheckSchedule_ok : cfun Try.prog Try.f29 = k_cathode_CheckSchedule := by kernel_rfl

def k_cathode_Fresh_r0 : List AOper := [
  ⟨(some (1)), .box (.tmp 0), none, []⟩, 
  ⟨(some (2)), .box (.const (.agg [.int .i64 0, .int .i64 0, .int .i64 0, .int .i64 0, .int .i64 0, .int .i64 0, .int .i64 0, .int .i64 0, .int .i64 0, .int .i64 0, .int .i64 0, .int .i64 0, .int .i64 0])), none, []⟩, 
  ⟨(some (3)), .move (.const (.int .i64 0)), none, []⟩]
def k_cathode_Fresh_r1 : List AOper := [
  ⟨(some (5)), .load (some (7)) (.tmp 1), none, []⟩, 
  ⟨(some (6)), .call (.const (.fn (.func 25) [] [])) [.tmp 5], none, []⟩, 
  ⟨(some (4)), .move (.tmp 6), none, []⟩]
def k_cathode_Fresh_r2 : List AOper := [
  ⟨(some (7)), .move (.tmp 4), none, []⟩, 
  ⟨(some (8)), .bin .plain .neq (.tmp 7) (.const (.int .i64 0)), none, []⟩]
def k_cathode_Fresh_r3 : List AOper := [
  ⟨(some (9)), .build [.int .i64 0, .int .i64 0, .int .i64 0, .int .i64 0, .int .i64 0, .int .i64 0, .int .i64 0, .int .i64 0, .int .i64 0, .int .i64 0, .int .i64 0, .int .i64 0, .int .i64 0] [], none, []⟩, 
  ⟨(some (10)), .move (.tmp 4), none, []⟩, 
  ⟨none, .store 13 (.tmp 2) (.tmp 9), none, []⟩, 
  ⟨(some (3)), .move (.tmp 10), none, []⟩]
def k_cathode_Fresh_r4 : List AOper := [
  ⟨(some (11)), .load (some (7)) (.tmp 1), none, []⟩, 
  ⟨(some (12)), .call (.const (.fn (.func 78) [] [])) [.tmp 11], none, []⟩, 
  ⟨none, .store 13 (.tmp 2) (.tmp 12), none, []⟩, 
  ⟨(some (3)), .move (.const (.int .i64 0)), none, []⟩]
def k_cathode_Fresh : AFun := { params := 1, ntmps := 13, body := (.seq (.reg k_cathode_Fresh_r0 false) (.seq (.seq (.reg k_cathode_Fresh_r1 false) (.seq (.reg k_cathode_Fresh_r2 false) (.cond (.tmp 8) (.seq (.reg k_cathode_Fresh_r3 false) .ret) .skip))) (.seq (.reg k_cathode_Fresh_r4 false) .ret))), res := [.cell 2 (some ((some (13)))), .tmp 3] }
theorem k_cathode_Fresh_ok : cfun Try.prog Try.f35 = k_cathode_Fresh := by kernel_rfl

def k_cathode_Tick_r0 : List AOper := [
  ⟨(some (4)), .box (.tmp 0), none, []⟩, 
  ⟨(some (5)), .box (.tmp 1), none, []⟩, 
  ⟨(some (8)), .box (.const (.agg [.int .i64 0, .int .i64 0, .int .i64 0, .int .i64 0, .int .i64 0, .int .i64 0, .int .i64 0, .int .i64 0, .int .i64 0, .int .i64 0, .int .i64 0, .int .i64 0, .int .i64 0])), none, []⟩, 
  ⟨(some (9)), .move (.const (.int .i64 0)), none, []⟩]
def k_cathode_Tick_r1 : List AOper := [
  ⟨(some (11)), .load (some (7)) (.tmp 4), none, []⟩, 
  ⟨(some (12)), .load (some (13)) (.tmp 5), none, []⟩, 
  ⟨(some (13)), .move (.tmp 2), none, []⟩, 
  ⟨(some (14)), .move (.tmp 3), none, []⟩, 
  ⟨(some (15)), .call (.const (.fn (.func 80) [] [])) [.tmp 11, .tmp 12, .tmp 13, .tmp 14], none, []⟩, 
  ⟨(some (10)), .move (.tmp 15), none, []⟩]
def k_cathode_Tick_r2 : List AOper := [
  ⟨(some (16)), .move (.tmp 10), none, []⟩, 
  ⟨(some (17)), .bin .plain .neq (.tmp 16) (.const (.int .i64 0)), none, []⟩]
def k_cathode_Tick_r3 : List AOper := [
  ⟨(some (18)), .build [.int .i64 0, .int .i64 0, .int .i64 0, .int .i64 0, .int .i64 0, .int .i64 0, .int .i64 0, .int .i64 0, .int .i64 0, .int .i64 0, .int .i64 0, .int .i64 0, .int .i64 0] [], none, []⟩, 
  ⟨(some (19)), .move (.tmp 10), none, []⟩, 
  ⟨none, .store 13 (.tmp 8) (.tmp 18), none, []⟩, 
  ⟨(some (9)), .move (.tmp 19), none, []⟩]
def k_cathode_Tick_r4 : List AOper := [
  ⟨(some (20)), .load (some (7)) (.tmp 4), none, []⟩, 
  ⟨(some (21)), .load (some (13)) (.tmp 5), none, []⟩, 
  ⟨(some (22)), .move (.tmp 2), none, []⟩, 
  ⟨(some (23)), .move (.tmp 3), none, []⟩, 
  ⟨(some (24)), .call (.const (.fn (.func 81) [] [])) [.tmp 20, .tmp 21, .tmp 22, .tmp 23], none, []⟩, 
  ⟨none, .store 13 (.tmp 5) (.tmp 24), none, []⟩]
def k_cathode_Tick_r5 : List AOper := [
  ⟨(some (25)), .fieldAddr 10 (.tmp 5), none, []⟩, 
  ⟨(some (26)), .fieldAddr 1 (.tmp 25), none, []⟩, 
  ⟨(some (27)), .load none (.tmp 26), none, []⟩, 
  ⟨(some (28)), .bin .plain .gtr (.tmp 27) (.const (.int .i64 1099511627776)), none, []⟩]
def k_cathode_Tick_r6 : List AOper := [
  ⟨(some (29)), .build [.int .i64 0, .int .i64 0, .int .i64 0, .int .i64 0, .int .i64 0, .int .i64 0, .int .i64 0, .int .i64 0, .int .i64 0, .int .i64 0, .int .i64 0, .int .i64 0, .int .i64 0] [], none, []⟩, 
  ⟨none, .store 13 (.tmp 8) (.tmp 29), none, []⟩, 
  ⟨(some (9)), .move (.const (.int .i64 8)), none, []⟩]
def k_cathode_Tick_r7 : List AOper := [
  ⟨(some (30)), .load (some (13)) (.tmp 5), none, []⟩, 
  ⟨none, .store 13 (.tmp 8) (.tmp 30), none, []⟩, 
  ⟨(some (9)), .move (.const (.int .i64 0)), none, []⟩]
def k_cathode_Tick : AFun := { params := 4, ntmps := 31, body := (.seq (.reg k_cathode_Tick_r0 false) (.seq (.seq (.reg k_cathode_Tick_r1 false) (.seq (.reg k_cathode_Tick_r2 false) (.cond (.tmp 17) (.seq (.reg k_cathode_Tick_r3 false) .ret) .skip))) (.seq (.reg k_cathode_Tick_r4 false) (.seq (.seq (.reg k_cathode_Tick_r5 false) (.cond (.tmp 28) (.seq (.reg k_cathode_Tick_r6 false) .ret) .skip)) (.seq (.reg k_cathode_Tick_r7 false) .ret))))), res := [.cell 8 (some ((some (13)))), .tmp 9] }
theorem k_cathode_Tick_ok : cfun Try.prog Try.f37 = k_cathode_Tick := by kernel_rfl

def k_cathode_Follow_r0 : List AOper := [
  ⟨(some (2)), .box (.tmp 0), none, []⟩, 
  ⟨(some (4)), .move (.const (.nilsl)), none, []⟩, 
  ⟨(some (5)), .move (.const (.int .i64 0)), none, []⟩]
def k_cathode_Follow_r1 : List AOper := [
  ⟨(some (12)), .load (some (7)) (.tmp 2), none, []⟩, 
  ⟨(some (13)), .call (.const (.fn (.func 25) [] [])) [.tmp 12], none, []⟩, 
  ⟨(some (6)), .move (.tmp 13), none, []⟩]
def k_cathode_Follow_r2 : List AOper := [
  ⟨(some (14)), .move (.tmp 6), none, []⟩, 
  ⟨(some (15)), .bin .plain .neq (.tmp 14) (.const (.int .i64 0)), none, []⟩]
def k_cathode_Follow_r3 : List AOper := [
  ⟨(some (16)), .move (.tmp 6), none, []⟩, 
  ⟨(some (4)), .move (.const (.nilsl)), none, []⟩, 
  ⟨(some (5)), .move (.tmp 16), none, []⟩]
def k_cathode_Follow_r4 : List AOper := [
  ⟨(some (17)), .move (.tmp 1), none, []⟩, 
  ⟨(some (18)), .call (.const (.fn (.func 29) [] [])) [.tmp 17], none, []⟩, 
  ⟨(some (7)), .move (.tmp 18), none, []⟩]
def k_cathode_Follow_r5 : List AOper := [
  ⟨(some (19)), .move (.tmp 7), none, []⟩, 
  ⟨(some (20)), .bin .plain .neq (.tmp 19) (.const (.int .i64 0)), none, []⟩]
def k_cathode_Follow_r6 : List AOper := [
  ⟨(some (21)), .move (.tmp 7), none, []⟩, 
  ⟨(some (4)), .move (.const (.nilsl)), none, []⟩, 
  ⟨(some (5)), .move (.tmp 21), none, []⟩]
def k_cathode_Follow_r7 : List AOper := [
  ⟨(some (22)), .load (some (7)) (.tmp 2), none, []⟩, 
  ⟨(some (23)), .call (.const (.fn (.func 78) [] [])) [.tmp 22], none, []⟩, 
  ⟨(some (8)), .box (.const (.agg [.int .i64 0, .int .i64 0, .int .i64 0, .int .i64 0, .int .i64 0, .int .i64 0, .int .i64 0, .int .i64 0, .int .i64 0, .int .i64 0, .int .i64 0, .int .i64 0, .int .i64 0])), none, []⟩, 
  ⟨none, .store 13 (.tmp 8) (.tmp 23), none, []⟩]
def k_cathode_Follow_r8 : List AOper := [
  ⟨(some (9)), .move (.const (.nilsl)), none, []⟩]
def k_cathode_Follow_r9 : List AOper := [
  ⟨(some (24)), .move (.tmp 1), none, []⟩, 
  ⟨(some (25)), .len false (.tmp 24), none, []⟩, 
  ⟨(some (26)), .move (.const (.int .i64 0)), none, []⟩]
def k_cathode_Follow_r10 : List AOper := [
  ⟨(some (27)), .bin .plain .lss (.tmp 26) (.tmp 25), none, []⟩]
def k_cathode_Follow_r11 : List AOper := [
  ⟨(some (28)), .indexAddr 3 (.tmp 24) (.tmp 26), none, []⟩, 
  ⟨(some (29)), .load (some (3)) (.tmp 28), none, []⟩, 
  ⟨(some (11)), .box (.const (.agg [.int .i64 0, .int .i64 0, .int .i64 0])), none, []⟩, 
  ⟨none, .store 3 (.tmp 11) (.tmp 29), none, []⟩]
def k_cathode_Follow_r12 : List AOper := [
  ⟨(some (30)), .fieldAddr 0 (.tmp 11), none, []⟩, 
  ⟨(some (31)), .load none (.tmp 30), none, []⟩, 
  ⟨(some (32)), .move (.const (.int .i64 0)), none, []⟩]
def k_cathode_Follow_r13 : List AOper := [
  ⟨(some (33)), .bin .plain .lss (.tmp 32) (.tmp 31), none, []⟩]
def k_cathode_Follow_r14 : List AOper := [
  ⟨(some (34)), .load (some (7)) (.tmp 2), none, []⟩, 
  ⟨(some (35)), .load (some (13)) (.tmp 8), none, []⟩, 
  ⟨(some (36)), .fieldAddr 1 (.tmp 11), none, []⟩, 
  ⟨(some (37)), .load none (.tmp 36), none, []⟩, 
  ⟨(some (38)), .fieldAddr 2 (.tmp 11), none, []⟩, 
  ⟨(some (39)), .load none (.tmp 38), none, []⟩, 
  ⟨(some (40)), .call (.const (.fn (.func 81) [] [])) [.tmp 34, .tmp 35, .tmp 37, .tmp 39], none, []⟩, 
  ⟨none, .store 13 (.tmp 8) (.tmp 40), none, []⟩]
def k_cathode_Follow_r15 : List AOper := [
  ⟨(some (41)), .bin .plain .add (.tmp 32) (.const (.int .i64 1)), none, []⟩, 
  ⟨(some (32)), .move (.tmp 41), none, []⟩]
def k_cathode_Follow_r16 : ACode := (.seq (.reg k_cathode_Follow_r13 false) (.seq (.cond (.tmp 33) .skip (.exit 2)) (.seq (.block 3 (.reg k_cathode_Follow_r14 false)) (.reg k_cathode_Follow_r15 false))))
def k_cathode_Follow_r17 : List AOper := [
  ⟨(some (42)), .move (.tmp 9), none, []⟩, 
  ⟨(some (43)), .load (some (13)) (.tmp 8), none, []⟩, 
  ⟨(some (44)), .buildSlice 13 [.tmp 43], none, []⟩, 
  ⟨(some (45)), .append 13 104 true (.tmp 42) (.tmp 44), none, []⟩, 
  ⟨(some (9)), .move (.tmp 45), none, []⟩]
def k_cathode_Follow_r18 : List AOper := [
  ⟨(some (46)), .bin .plain .add (.tmp 26) (.const (.int .i64 1)), none, []⟩, 
  ⟨(some (26)), .move (.tmp 46), none, []⟩]
def k_cathode_Follow_r19 : ACode := (.seq (.reg k_cathode_Follow_r10 false) (.seq (.cond (.tmp 27) .skip (.exit 0)) (.seq (.block 1 (.seq (.reg k_cathode_Follow_r11 false) (.seq (.seq (.reg k_cathode_Follow_r12 false) (.block 2 (.loop k_cathode_Follow_r16))) (.reg k_cathode_Follow_r17 false)))) (.reg k_cathode_Follow_r18 false))))
def k_cathode_Follow_r20 : List AOper := [
  ⟨(some (47)), .move (.tmp 9), none, []⟩, 
  ⟨(some (4)), .move (.tmp 47), none, []⟩, 
  ⟨(some (5)), .move (.const (.int .i64 0)), none, []⟩]
def k_cathode_Follow : AFun := { params := 2, ntmps := 48, body := (.seq (.reg k_cathode_Follow_r0 false) (.seq (.seq (.reg k_cathode_Follow_r1 false) (.seq (.reg k_cathode_Follow_r2 false) (.cond (.tmp 15) (.seq (.reg k_cathode_Follow_r3 false) .ret) .skip))) (.seq (.seq (.reg k_cathode_Follow_r4 false) (.seq (.reg k_cathode_Follow_r5 false) (.cond (.tmp 20) (.seq (.reg k_cathode_Follow_r6 false) .ret) .skip))) (.seq (.reg k_cathode_Follow_r7 false) (.seq (.reg k_cathode_Follow_r8 false) (.seq (.seq (.reg k_cathode_Follow_r9 false) (.block 0 (.loop k_cathode_Follow_r19))) (.seq (.reg k_cathode_Follow_r20 false) .ret))))))), res := [.tmp 4, .tmp 5] }
theorem k_cathode_Follow_ok : cfun Try.prog Try.f39 = k_cathode_Follow := by kernel_rfl

def k_kit_Mod_r0 : List AOper := [
  ⟨(some (4)), .move (.const (.int .i64 0)), none, []⟩]
def k_kit_Mod_r1 : List AOper := [
  ⟨(some (6)), .move (.tmp 1), none, []⟩, 
  ⟨(some (7)), .bin .plain .lss (.tmp 6) (.const (.int .i64 1)), none, []⟩]
def k_kit_Mod_r2 : List AOper := [
  ⟨(some (4)), .move (.const (.int .i64 0)), none, []⟩]
def k_kit_Mod_r3 : List AOper := [
  ⟨(some (8)), .move (.tmp 0), none, []⟩, 
  ⟨(some (9)), .move (.tmp 1), none, []⟩, 
  ⟨(some (10)), .bin .plain .rem (.tmp 8) (.tmp 9), none, []⟩, 
  ⟨(some (5)), .move (.tmp 10), none, []⟩]
def k_kit_Mod_r4 : List AOper := [
  ⟨(some (11)), .move (.tmp 5), none, []⟩, 
  ⟨(some (12)), .bin .plain .lss (.tmp 11) (.const (.int .i64 0)), none, []⟩]
def k_kit_Mod_r5 : List AOper := [
  ⟨(some (13)), .move (.tmp 5), none, []⟩, 
  ⟨(some (14)), .move (.tmp 1), none, []⟩, 
  ⟨(some (15)), .bin .plain .add (.tmp 13) (.tmp 14), none, []⟩, 
  ⟨(some (4)), .move (.tmp 15), none, []⟩]
def k_kit_Mod_r6 : List AOper := [
  ⟨(some (16)), .move (.tmp 5), none, []⟩, 
  ⟨(some (4)), .move (.tmp 16), none, []⟩]
def k_kit_Mod : AFun := { params := 2, ntmps := 17, body := (.seq (.reg k_kit_Mod_r0 false) (.seq (.seq (.reg k_kit_Mod_r1 false) (.cond (.tmp 7) (.seq (.reg k_kit_Mod_r2 false) .ret) .skip)) (.seq (.reg k_kit_Mod_r3 false) (.seq (.seq (.reg k_kit_Mod_r4 false) (.cond (.tmp 12) (.seq (.reg k_kit_Mod_r5 false) .ret) .skip)) (.seq (.reg k_kit_Mod_r6 false) .ret))))), res := [.tmp 4] }
theorem k_kit_Mod_ok : cfun Try.prog Try.f42 = k_kit_Mod := by kernel_rfl

def k_cathode_Possible_r0 : List AOper := [
  ⟨(some (3)), .box (.tmp 0), none, []⟩, 
  ⟨(some (5)), .box (.tmp 2), none, []⟩, 
  ⟨(some (6)), .box (.const (.bool false)), none, []⟩]
def k_cathode_Possible_r1 : List AOper := [
  ⟨(some (10)), .load (some (7)) (.tmp 3), none, []⟩, 
  ⟨(some (11)), .call (.const (.fn (.func 25) [] [])) [.tmp 10], none, []⟩, 
  ⟨(some (12)), .bin .plain .neq (.tmp 11) (.const (.int .i64 0)), none, []⟩, 
  ⟨(some (13)), .move (.tmp 12), none, []⟩, 
  ⟨(some (14)), .move (.tmp 1), (some (13, false)), []⟩, 
  ⟨(some (15)), .call (.const (.fn (.func 29) [] [])) [.tmp 14], (some (13, false)), []⟩, 
  ⟨(some (16)), .bin .plain .neq (.tmp 15) (.const (.int .i64 0)), (some (13, false)), []⟩, 
  ⟨(some (17)), .pick (.tmp 13) (.const (.bool true)) (.tmp 16), none, []⟩, 
  ⟨(some (18)), .move (.tmp 17), none, []⟩, 
  ⟨(some (19)), .load none (.tmp 5), (some (18, false)), []⟩, 
  ⟨(some (20)), .len false (.tmp 19), (some (18, false)), []⟩, 
  ⟨(some (21)), .move (.tmp 1), (some (18, false)), [9, 10]⟩, 
  ⟨(some (22)), .call (.const (.fn (.func 74) [] [])) [.tmp 21], (some (18, false)), [9, 10]⟩, 
  ⟨(some (23)), .bin .plain .add (.const (.int .i64 1)) (.tmp 22), (some (18, false)), [9, 10]⟩, 
  ⟨(some (24)), .bin .plain .neq (.tmp 20) (.tmp 23), (some (18, false)), []⟩, 
  ⟨(some (25)), .pick (.tmp 18) (.const (.bool true)) (.tmp 24), none, []⟩]
def k_cathode_Possible_r1s : List (List AOper) := [
  [
  ⟨(some (10)), .load (some (7)) (.tmp 3), none, []⟩], 
  [
  ⟨(some (11)), .call (.const (.fn (.func 25) [] [])) [.tmp 10], none, []⟩], 
  [
  ⟨(some (12)), .bin .plain .neq (.tmp 11) (.const (.int .i64 0)), none, []⟩], 
  [
  ⟨(some (13)), .move (.tmp 12), none, []⟩], 
  [
  ⟨(some (14)), .move (.tmp 1), (some (13, false)), []⟩], 
  [
  ⟨(some (15)), .call (.const (.fn (.func 29) [] [])) [.tmp 14], (some (13, false)), []⟩], 
  [
  ⟨(some (16)), .bin .plain .neq (.tmp 15) (.const (.int .i64 0)), (some (13, false)), []⟩], 
  [
  ⟨(some (17)), .pick (.tmp 13) (.const (.bool true)) (.tmp 16), none, []⟩], 
  [
  ⟨(some (18)), .move (.tmp 17), none, []⟩], 
  [
  ⟨(some (19)), .load none (.tmp 5), (some (18, false)), []⟩, 
  ⟨(some (20)), .len false (.tmp 19), (some (18, false)), []⟩, 
  ⟨(some (21)), .move (.tmp 1), (some (18, false)), [9, 10]⟩, 
  ⟨(some (22)), .call (.const (.fn (.func 74) [] [])) [.tmp 21], (some (18, false)), [9, 10]⟩, 
  ⟨(some (23)), .bin .plain .add (.const (.int .i64 1)) (.tmp 22), (some (18, false)), [9, 10]⟩], 
  [
  ⟨(some (24)), .bin .plain .neq (.tmp 20) (.tmp 23), (some (18, false)), []⟩], 
  [
  ⟨(some (25)), .pick (.tmp 18) (.const (.bool true)) (.tmp 24), none, []⟩]]
theorem k_cathode_Possible_r1_sg : segs k_cathode_Possible_r1 = k_cathode_Possible_r1s := by kernel_rfl
theorem k_cathode_Possible_r1_st : statOK k_cathode_Possible_r1 = true := by kernel_rfl
def k_cathode_Possible_r2 : List AOper := [
  ⟨none, .store 1 (.tmp 6) (.const (.bool false)), none, []⟩]
def k_cathode_Possible_r3 : List AOper := [
  ⟨(some (26)), .load none (.tmp 5), none, []⟩, 
  ⟨(some (27)), .indexAddr 4 (.tmp 26) (.const (.int .i64 0)), none, []⟩, 
  ⟨(some (28)), .load (some (4)) (.tmp 27), none, []⟩, 
  ⟨(some (29)), .fieldAddr 0 (.tmp 3), none, [0, 1, 2]⟩, 
  ⟨(some (30)), .load none (.tmp 29), none, [0, 1, 2]⟩, 
  ⟨(some (31)), .build [.int .i64 0, .int .i64 0, .int .i64 0, .int .i64 0] [(0, 1, .tmp 30)], none, [0, 1, 2]⟩, 
  ⟨(some (32)), .eqAgg true [.int, .int, .int, .int] (.tmp 28) (.tmp 31), none, []⟩]
def k_cathode_Possible_r3s : List (List AOper) := [
  [
  ⟨(some (26)), .load none (.tmp 5), none, []⟩, 
  ⟨(some (27)), .indexAddr 4 (.tmp 26) (.const (.int .i64 0)), none, []⟩, 
  ⟨(some (28)), .load (some (4)) (.tmp 27), none, []⟩, 
  ⟨(some (29)), .fieldAddr 0 (.tmp 3), none, [0, 1, 2]⟩, 
  ⟨(some (30)), .load none (.tmp 29), none, [0, 1, 2]⟩, 
  ⟨(some (31)), .build [.int .i64 0, .int .i64 0, .int .i64 0, .int .i64 0] [(0, 1, .tmp 30)], none, [0, 1, 2]⟩], 
  [
  ⟨(some (32)), .eqAgg true [.int, .int, .int, .int] (.tmp 28) (.tmp 31), none, []⟩]]
theorem k_cathode_Possible_r3_sg : segs k_cathode_Possible_r3 = k_cathode_Possible_r3s := by kernel_rfl
theorem k_cathode_Possible_r3_st : statOK k_cathode_Possible_r3 = true := by kernel_rfl
def k_cathode_Possible_r4 : List AOper := [
  ⟨none, .store 1 (.tmp 6) (.const (.bool false)), none, []⟩]
def k_cathode_Possible_r5 : List AOper := [
  ⟨(some (7)), .box (.const (.int .i64 0)), none, []⟩, 
  ⟨none, .store 1 (.tmp 7) (.const (.int .i64 300)), none, []⟩]
def k_cathode_Possible_r6 : List AOper := [
  ⟨(some (33)), .move (.tmp 1), none, []⟩, 
  ⟨(some (34)), .call (.const (.fn (.func 86) [] [])) [.tmp 33], none, []⟩]
def k_cathode_Possible_r7 : List AOper := [
  ⟨(some (8)), .move (.tmp 35), none, []⟩]
def k_cathode_Possible_r8 : List AOper := [
  ⟨(some (9)), .box (.const (.agg [.int .i64 0, .int .i64 0, .int .i64 0])), none, []⟩, 
  ⟨none, .store 3 (.tmp 9) (.tmp 36), none, []⟩]
def k_cathode_Possible_r9 : List AOper := [
  ⟨(some (37)), .load none (.tmp 7), none, []⟩, 
  ⟨(some (38)), .fieldAddr 1 (.tmp 9), none, []⟩, 
  ⟨(some (39)), .load none (.tmp 38), none, []⟩, 
  ⟨(some (40)), .fieldAddr 1 (.tmp 3), none, []⟩, 
  ⟨(some (41)), .load none (.tmp 40), none, []⟩, 
  ⟨(some (42)), .call (.const (.fn (.func 87) [] [])) [.tmp 37, .tmp 39, .tmp 41], none, []⟩, 
  ⟨none, .store 1 (.tmp 7) (.tmp 42), none, []⟩]
def k_cathode_Possible_r10 : List AOper := [
  ⟨(some (43)), .load none (.tmp 5), none, []⟩, 
  ⟨(some (44)), .move (.tmp 8), none, [0]⟩, 
  ⟨(some (45)), .bin .plain .sub (.tmp 44) (.const (.int .i64 1)), none, [0]⟩, 
  ⟨(some (46)), .indexAddr 4 (.tmp 43) (.tmp 45), none, []⟩, 
  ⟨(some (47)), .load (some (4)) (.tmp 46), none, []⟩, 
  ⟨(some (48)), .load none (.tmp 5), none, [0, 1, 2, 3, 4]⟩, 
  ⟨(some (49)), .move (.tmp 8), none, [0, 1, 2, 3, 4, 5]⟩, 
  ⟨(some (50)), .indexAddr 4 (.tmp 48) (.tmp 49), none, [0, 1, 2, 3, 4]⟩, 
  ⟨(some (51)), .load (some (4)) (.tmp 50), none, [0, 1, 2, 3, 4]⟩, 
  ⟨(some (52)), .load (some (7)) (.tmp 3), none, [0, 1, 2, 3, 4, 5, 6, 7, 8]⟩, 
  ⟨(some (53)), .load none (.tmp 7), none, [0, 1, 2, 3, 4, 5, 6, 7, 8, 9]⟩, 
  ⟨(some (54)), .fieldAddr 2 (.tmp 9), none, [0, 1, 2, 3, 4, 5, 6, 7, 8, 9, 10]⟩, 
  ⟨(some (55)), .load none (.tmp 54), none, [0, 1, 2, 3, 4, 5, 6, 7, 8, 9, 10]⟩, 
  ⟨(some (56)), .call (.const (.fn (.func 89) [] [])) [.tmp 52, .tmp 53, .tmp 55], none, [0, 1, 2, 3, 4, 5, 6, 7, 8]⟩, 
  ⟨(some (57)), .call (.const (.fn (.func 88) [] [])) [.tmp 47, .tmp 51, .tmp 56], none, []⟩, 
  ⟨(some (58)), .not (.tmp 57), none, []⟩]
def k_cathode_Possible_r10s : List (List AOper) := [
  [
  ⟨(some (43)), .load none (.tmp 5), none, []⟩, 
  ⟨(some (44)), .move (.tmp 8), none, [0]⟩, 
  ⟨(some (45)), .bin .plain .sub (.tmp 44) (.const (.int .i64 1)), none, [0]⟩, 
  ⟨(some (46)), .indexAddr 4 (.tmp 43) (.tmp 45), none, []⟩, 
  ⟨(some (47)), .load (some (4)) (.tmp 46), none, []⟩, 
  ⟨(some (48)), .load none (.tmp 5), none, [0, 1, 2, 3, 4]⟩, 
  ⟨(some (49)), .move (.tmp 8), none, [0, 1, 2, 3, 4, 5]⟩, 
  ⟨(some (50)), .indexAddr 4 (.tmp 48) (.tmp 49), none, [0, 1, 2, 3, 4]⟩, 
  ⟨(some (51)), .load (some (4)) (.tmp 50), none, [0, 1, 2, 3, 4]⟩, 
  ⟨(some (52)), .load (some (7)) (.tmp 3), none, [0, 1, 2, 3, 4, 5, 6, 7, 8]⟩, 
  ⟨(some (53)), .load none (.tmp 7), none, [0, 1, 2, 3, 4, 5, 6, 7, 8, 9]⟩, 
  ⟨(some (54)), .fieldAddr 2 (.tmp 9), none, [0, 1, 2, 3, 4, 5, 6, 7, 8, 9, 10]⟩, 
  ⟨(some (55)), .load none (.tmp 54), none, [0, 1, 2, 3, 4, 5, 6, 7, 8, 9, 10]⟩, 
  ⟨(some (56)), .call (.const (.fn (.func 89) [] [])) [.tmp 52, .tmp 53, .tmp 55], none, [0, 1, 2, 3, 4, 5, 6, 7, 8]⟩], 
  [
  ⟨(some (57)), .call (.const (.fn (.func 88) [] [])) [.tmp 47, .tmp 51, .tmp 56], none, []⟩], 
  [
  ⟨(some (58)), .not (.tmp 57), none, []⟩]]
theorem k_cathode_Possible_r10_sg : segs k_cathode_Possible_r10 = k_cathode_Possible_r10s := by kernel_rfl
theorem k_cathode_Possible_r10_st : statOK k_cathode_Possible_r10 = true := by kernel_rfl
def k_cathode_Possible_r11 : List AOper := [
  ⟨none, .store 1 (.tmp 6) (.const (.bool false)), none, []⟩]
def k_cathode_Possible_r12 : ACode := (.seq (.reg k_cathode_Possible_r7 false) (.reg k_cathode_Possible_r8 false))
def k_cathode_Possible_r13 : ACode := (.block 1 (.seq (.reg k_cathode_Possible_r9 false) (.seq (.reg k_cathode_Possible_r10 true) (.cond (.tmp 58) (.seq (.reg k_cathode_Possible_r11 false) .ret) .skip))))
def k_cathode_Possible_r14 : List AOper := [
  ⟨none, .store 1 (.tmp 6) (.const (.bool true)), none, []⟩]
def k_cathode_Possible : AFun := { params := 3, ntmps := 59, body := (.seq (.reg k_cathode_Possible_r0 false) (.seq (.seq (.reg k_cathode_Possible_r1 true) (.cond (.tmp 25) (.seq (.reg k_cathode_Possible_r2 false) .ret) .skip)) (.seq (.seq (.reg k_cathode_Possible_r3 true) (.cond (.tmp 32) (.seq (.reg k_cathode_Possible_r4 false) .ret) .skip)) (.seq (.reg k_cathode_Possible_r5 false) (.seq (.seq (.reg k_cathode_Possible_r6 false) (.block 0 (.rng (.tmp 34) [35, 36] k_cathode_Possible_r12 k_cathode_Possible_r13))) (.seq (.reg k_cathode_Possible_r14 false) .ret)))))), res := [.cell 6 (some (none))] }
theorem k_cathode_Possible_ok : cfun Try.prog Try.f43 = k_cathode_Possible := by kernel_rfl

def k_cathode_Judge_r0 : List AOper := [
  ⟨(some (3)), .box (.tmp 0), none, []⟩, 
  ⟨(some (4)), .box (.tmp 1), none, []⟩, 
  ⟨(some (6)), .move (.const (.int .i64 0)), none, []⟩, 
  ⟨(some (7)), .move (.const (.int .i64 0)), none, []⟩, 
  ⟨(some (8)), .move (.const (.int .i64 0)), none, []⟩]
def k_cathode_Judge_r1 : List AOper := [
  ⟨(some (11)), .load (some (7)) (.tmp 3), none, []⟩, 
  ⟨(some (12)), .load (some (5)) (.tmp 4), none, []⟩, 
  ⟨(some (13)), .call (.const (.fn (.func 93) [] [])) [.tmp 11, .tmp 12], none, []⟩, 
  ⟨(some (9)), .move (.tmp 13), none, []⟩]
def k_cathode_Judge_r2 : List AOper := [
  ⟨(some (14)), .move (.tmp 9), none, []⟩, 
  ⟨(some (15)), .bin .plain .neq (.tmp 14) (.const (.int .i64 0)), none, []⟩]
def k_cathode_Judge_r3 : List AOper := [
  ⟨(some (16)), .move (.tmp 9), none, []⟩, 
  ⟨(some (6)), .move (.const (.int .i64 0)), none, []⟩, 
  ⟨(some (7)), .move (.const (.int .i64 0)), none, []⟩, 
  ⟨(some (8)), .move (.tmp 16), none, []⟩]
def k_cathode_Judge_r4 : List AOper := [
  ⟨(some (17)), .move (.tmp 2), none, []⟩, 
  ⟨(some (18)), .call (.const (.fn (.func 29) [] [])) [.tmp 17], none, []⟩, 
  ⟨(some (10)), .move (.tmp 18), none, []⟩]
def k_cathode_Judge_r5 : List AOper := [
  ⟨(some (19)), .move (.tmp 10), none, []⟩, 
  ⟨(some (20)), .bin .plain .neq (.tmp 19) (.const (.int .i64 0)), none, []⟩]
def k_cathode_Judge_r6 : List AOper := [
  ⟨(some (21)), .move (.tmp 10), none, []⟩, 
  ⟨(some (6)), .move (.const (.int .i64 0)), none, []⟩, 
  ⟨(some (7)), .move (.const (.int .i64 0)), none, []⟩, 
  ⟨(some (8)), .move (.tmp 21), none, []⟩]
def k_cathode_Judge_r7 : List AOper := [
  ⟨(some (23)), .load (some (7)) (.tmp 3), none, []⟩, 
  ⟨(some (24)), .load (some (5)) (.tmp 4), none, []⟩, 
  ⟨(some (25)), .move (.tmp 2), none, []⟩, 
  ⟨(some (26)), .call (.const (.fn (.func 94) [] [])) [.tmp 23, .tmp 24, .tmp 25], none, []⟩, 
  ⟨(some (22)), .move (.tmp 26), none, []⟩, 
  ⟨(some (27)), .extract (.tmp 22) 0, none, []⟩, 
  ⟨(some (28)), .extract (.tmp 22) 1, none, []⟩, 
  ⟨(some (6)), .move (.tmp 27), none, []⟩, 
  ⟨(some (7)), .move (.tmp 28), none, []⟩]
def k_cathode_Judge_r8 : List AOper := [
  ⟨(some (29)), .move (.tmp 6), none, []⟩, 
  ⟨(some (30)), .move (.tmp 7), none, []⟩, 
  ⟨(some (6)), .move (.tmp 29), none, []⟩, 
  ⟨(some (7)), .move (.tmp 30), none, []⟩, 
  ⟨(some (8)), .move (.const (.int .i64 0)), none, []⟩]
def k_cathode_Judge : AFun := { params := 3, ntmps := 31, body := (.seq (.reg k_cathode_Judge_r0 false) (.seq (.seq (.reg k_cathode_Judge_r1 false) (.seq (.reg k_cathode_Judge_r2 false) (.cond (.tmp 15) (.seq (.reg k_cathode_Judge_r3 false) .ret) .skip))) (.seq (.seq (.reg k_cathode_Judge_r4 false) (.seq (.reg k_cathode_Judge_r5 false) (.cond (.tmp 20) (.seq (.reg k_cathode_Judge_r6 false) .ret) .skip))) (.seq (.reg k_cathode_Judge_r7 false) (.seq (.reg k_cathode_Judge_r8 false) .ret))))), res := [.tmp 6, .tmp 7, .tmp 8] }
theorem k_cathode_Judge_ok : cfun Try.prog Try.f46 = k_cathode_Judge := by kernel_rfl

def k_law03_sample_r0 : List AOper := [
  ⟨(some (0)), .box (.const (.agg [.int .i64 0, .int .i64 0, .int .i64 0, .int .i64 0, .int .i64 0, .int .i64 0, .nilsl])), none, []⟩]
def k_law03_sample_r1 : List AOper := [
  ⟨(some (1)), .build [.int .i64 0, .int .i64 0] [(0, 1, .const (.int .i64 500000)), (1, 1, .const (.int .i64 500000))], none, []⟩, 
  ⟨(some (2)), .build [.int .i64 0, .int .i64 0, .int .i64 0, .int .i64 0, .int .i64 0, .int .i64 0, .int .i64 0, .int .i64 0, .int .i64 0] [], none, []⟩, 
  ⟨(some (3)), .build [.int .i64 0, .int .i64 0] [(0, 1, .const (.int .i64 100000)), (1, 1, .const (.int .i64 200000))], none, []⟩, 
  ⟨(some (4)), .build [.int .i64 0, .int .i64 0] [(0, 1, .const (.int .i64 100000)), (1, 1, .const (.int .i64 100000))], none, []⟩, 
  ⟨(some (5)), .build [.int .i64 0, .int .i64 0] [(1, 1, .const (.int .i64 10000))], none, []⟩, 
  ⟨(some (6)), .build [.int .i64 0, .int .i64 0] [(0, 1, .const (.int .i64 1)), (1, 1, .const (.int .i64 2))], none, []⟩, 
  ⟨(some (7)), .build [.int .i64 0, .int .i64 0, .int .i64 0, .int .i64 0, .int .i64 0, .int .i64 0, .int .i64 0, .int .i64 0, .int .i64 0] [(0, 1, .const (.int .i64 1000)), (1, 2, .tmp 3), (3, 2, .tmp 4), (5, 2, .tmp 5), (7, 2, .tmp 6)], none, []⟩, 
  ⟨(some (8)), .buildSlice 9 [.tmp 2, .tmp 7], none, []⟩, 
  ⟨(some (9)), .build [.int .i64 0, .int .i64 0, .int .i64 0, .int .i64 0, .int .i64 0, .int .i64 0, .nilsl] [(0, 1, .const (.int .i64 1000)), (1, 1, .const (.int .i64 400)), (4, 2, .tmp 1), (6, 1, .tmp 8)], none, []⟩, 
  ⟨none, .store 7 (.tmp 0) (.tmp 9), none, []⟩]
def k_law03_sample : AFun := { params := 0, ntmps := 10, body := (.seq (.reg k_law03_sample_r0 false) (.seq (.reg k_law03_sample_r1 false) .ret)), res := [.cell 0 (some ((some (7))))] }
theorem k_law03_sample_ok : cfun Try.prog Try.f51 = k_law03_sample := by kernel_rfl

def k_law03_span_r0 : List AOper := [
  ⟨(some (4)), .box (.const (.agg [.int .i64 0, .int .i64 0])), none, []⟩]
def k_law03_span_r1 : List AOper := [
  ⟨(some (5)), .move (.tmp 0), none, []⟩, 
  ⟨(some (6)), .move (.tmp 1), none, []⟩, 
  ⟨(some (7)), .build [.int .i64 0, .int .i64 0] [(0, 1, .tmp 5), (1, 1, .tmp 6)], none, []⟩, 
  ⟨none, .store 2 (.tmp 4) (.tmp 7), none, []⟩]
def k_law03_span : AFun := { params := 2, ntmps := 8, body := (.seq (.reg k_law03_span_r0 false) (.seq (.reg k_law03_span_r1 false) .ret)), res := [.cell 4 (some ((some (2))))] }
theorem k_law03_span_ok : cfun Try.prog Try.f52 = k_law03_span := by kernel_rfl

def k_law03_hot_r0 : List AOper := [
  ⟨(some (0)), .box (.const (.agg [.int .i64 0, .int .i64 0, .int .i64 0])), none, []⟩]
def k_law03_hot_r1 : List AOper := [
  ⟨(some (1)), .build [.int .i64 0, .int .i64 0, .int .i64 0] [(0, 1, .const (.int .i64 2)), (1, 1, .const (.int .i64 1100))], none, []⟩, 
  ⟨none, .store 3 (.tmp 0) (.tmp 1), none, []⟩]
def k_law03_hot : AFun := { params := 0, ntmps := 2, body := (.seq (.reg k_law03_hot_r0 false) (.seq (.reg k_law03_hot_r1 false) .ret)), res := [.cell 0 (some ((some (3))))] }
theorem k_law03_hot_ok : cfun Try.prog Try.f53 = k_law03_hot := by kernel_rfl

def k_cathode_Emission_r0 : List AOper := [
  ⟨(some (2)), .box (.tmp 0), none, []⟩, 
  ⟨(some (3)), .box (.tmp 1), none, []⟩, 
  ⟨(some (4)), .box (.const (.agg [.int .i64 0, .int .i64 0])), none, []⟩, 
  ⟨(some (5)), .move (.const (.int .i64 0)), none, []⟩]
def k_cathode_Emission_r1 : List AOper := [
  ⟨(some (7)), .load (some (7)) (.tmp 2), none, []⟩, 
  ⟨(some (8)), .load (some (13)) (.tmp 3), none, []⟩, 
  ⟨(some (9)), .call (.const (.fn (.func 27) [] [])) [.tmp 7, .tmp 8], none, []⟩, 
  ⟨(some (6)), .move (.tmp 9), none, []⟩]
def k_cathode_Emission_r2 : List AOper := [
  ⟨(some (10)), .move (.tmp 6), none, []⟩, 
  ⟨(some (11)), .bin .plain .neq (.tmp 10) (.const (.int .i64 0)), none, []⟩]
def k_cathode_Emission_r3 : List AOper := [
  ⟨(some (12)), .build [.int .i64 0, .int .i64 0] [], none, []⟩, 
  ⟨(some (13)), .move (.tmp 6), none, []⟩, 
  ⟨none, .store 2 (.tmp 4) (.tmp 12), none, []⟩, 
  ⟨(some (5)), .move (.tmp 13), none, []⟩]
def k_cathode_Emission_r4 : List AOper := [
  ⟨(some (14)), .fieldAddr 4 (.tmp 3), none, []⟩, 
  ⟨(some (15)), .load (some (2)) (.tmp 14), none, []⟩, 
  ⟨(some (16)), .fieldAddr 4 (.tmp 2), none, []⟩, 
  ⟨(some (17)), .load (some (2)) (.tmp 16), none, []⟩, 
  ⟨(some (18)), .call (.const (.fn (.func 103) [] [])) [.tmp 15, .tmp 17], none, []⟩, 
  ⟨none, .store 2 (.tmp 4) (.tmp 18), none, []⟩, 
  ⟨(some (5)), .move (.const (.int .i64 0)), none, []⟩]
def k_cathode_Emission : AFun := { params := 2, ntmps := 19, body := (.seq (.reg k_cathode_Emission_r0 false) (.seq (.seq (.reg k_cathode_Emission_r1 false) (.seq (.reg k_cathode_Emission_r2 false) (.cond (.tmp 11) (.seq (.reg k_cathode_Emission_r3 false) .ret) .skip))) (.seq (.reg k_cathode_Emission_r4 false) .ret))), res := [.cell 4 (some ((some (2)))), .tmp 5] }
theorem k_cathode_Emission_ok : cfun Try.prog Try.f54 = k_cathode_Emission := by kernel_rfl

def k_cathode_Life_r0 : List AOper := [
  ⟨(some (5)), .box (.tmp 0), none, []⟩, 
  ⟨(some (6)), .box (.tmp 1), none, []⟩, 
  ⟨(some (10)), .box (.const (.agg [.int .i64 0, .int .i64 0])), none, []⟩, 
  ⟨(some (11)), .move (.const (.int .i64 0)), none, []⟩]
def k_cathode_Life_r1 : List AOper := [
  ⟨(some (17)), .load (some (7)) (.tmp 5), none, []⟩, 
  ⟨(some (18)), .load (some (13)) (.tmp 6), none, []⟩, 
  ⟨(some (19)), .move (.tmp 2), none, []⟩, 
  ⟨(some (20)), .move (.tmp 3), none, []⟩, 
  ⟨(some (21)), .call (.const (.fn (.func 80) [] [])) [.tmp 17, .tmp 18, .tmp 19, .tmp 20], none, []⟩, 
  ⟨(some (12)), .move (.tmp 21), none, []⟩]
def k_cathode_Life_r2 : List AOper := [
  ⟨(some (22)), .move (.tmp 12), none, []⟩, 
  ⟨(some (23)), .bin .plain .neq (.tmp 22) (.const (.int .i64 0)), none, []⟩]
def k_cathode_Life_r3 : List AOper := [
  ⟨(some (24)), .build [.int .i64 0, .int .i64 0] [], none, []⟩, 
  ⟨(some (25)), .move (.tmp 12), none, []⟩, 
  ⟨none, .store 2 (.tmp 10) (.tmp 24), none, []⟩, 
  ⟨(some (11)), .move (.tmp 25), none, []⟩]
def k_cathode_Life_r4 : List AOper := [
  ⟨(some (26)), .move (.tmp 4), none, []⟩, 
  ⟨(some (27)), .fieldAddr 0 (.tmp 5), none, []⟩, 
  ⟨(some (28)), .load none (.tmp 27), none, []⟩, 
  ⟨(some (29)), .call (.const (.fn (.func 67) [] [])) [.tmp 26, .const (.int .i64 0), .tmp 28], none, []⟩, 
  ⟨(some (30)), .not (.tmp 29), none, []⟩]
def k_cathode_Life_r5 : List AOper := [
  ⟨(some (31)), .build [.int .i64 0, .int .i64 0] [], none, []⟩, 
  ⟨none, .store 2 (.tmp 10) (.tmp 31), none, []⟩, 
  ⟨(some (11)), .move (.const (.int .i64 2)), none, []⟩]
def k_cathode_Life_r6 : List AOper := [
  ⟨(some (13)), .box (.const (.agg [.int .i64 0, .int .i64 0])), none, []⟩]
def k_cathode_Life_r7 : List AOper := [
  ⟨(some (14)), .move (.const (.bool true)), none, []⟩, 
  ⟨(some (15)), .move (.const (.bool true)), none, []⟩]
def k_cathode_Life_r8 : List AOper := [
  ⟨(some (16)), .move (.const (.int .i64 1)), none, []⟩]
def k_cathode_Life_r9 : List AOper := [
  ⟨(some (32)), .move (.tmp 16), none, []⟩, 
  ⟨(some (33)), .bin .plain .leq (.tmp 32) (.const (.int .i64 5000)), none, []⟩, 
  ⟨(some (34)), .move (.tmp 33), none, []⟩, 
  ⟨(some (35)), .move (.tmp 14), (some (34, true)), []⟩, 
  ⟨(some (36)), .move (.tmp 35), (some (34, true)), []⟩, 
  ⟨(some (37)), .move (.tmp 15), (some (36, false)), []⟩, 
  ⟨(some (38)), .pick (.tmp 36) (.const (.bool true)) (.tmp 37), (some (34, true)), []⟩, 
  ⟨(some (39)), .pick (.tmp 34) (.tmp 38) (.const (.bool false)), none, []⟩]
def k_cathode_Life_r10 : List AOper := [
  ⟨(some (42)), .load (some (7)) (.tmp 5), none, []⟩, 
  ⟨(some (43)), .load (some (13)) (.tmp 6), none, []⟩, 
  ⟨(some (44)), .move (.tmp 2), none, []⟩, 
  ⟨(some (45)), .move (.tmp 3), none, []⟩, 
  ⟨(some (46)), .call (.const (.fn (.func 81) [] [])) [.tmp 42, .tmp 43, .tmp 44, .tmp 45], none, []⟩, 
  ⟨none, .store 13 (.tmp 6) (.tmp 46), none, []⟩]
def k_cathode_Life_r11 : List AOper := [
  ⟨(some (47)), .move (.tmp 14), none, []⟩, 
  ⟨(some (48)), .move (.tmp 47), none, []⟩, 
  ⟨(some (49)), .fieldAddr 4 (.tmp 6), (some (48, true)), []⟩, 
  ⟨(some (50)), .fieldAddr 0 (.tmp 49), (some (48, true)), []⟩, 
  ⟨(some (51)), .load none (.tmp 50), (some (48, true)), []⟩, 
  ⟨(some (52)), .move (.tmp 4), (some (48, true)), []⟩, 
  ⟨(some (53)), .bin .plain .geq (.tmp 51) (.tmp 52), (some (48, true)), []⟩, 
  ⟨(some (54)), .pick (.tmp 48) (.tmp 53) (.const (.bool false)), none, []⟩, 
  ⟨(some (14)), .move (.tmp 54), none, []⟩]
def k_cathode_Life_r12 : List AOper := [
  ⟨(some (55)), .move (.tmp 14), none, []⟩]
def k_cathode_Life_r13 : List AOper := [
  ⟨(some (56)), .move (.tmp 16), none, []⟩, 
  ⟨(some (57)), .fieldAddr 0 (.tmp 13), none, []⟩, 
  ⟨none, .store 1 (.tmp 57) (.tmp 56), none, []⟩]
def k_cathode_Life_r14 : List AOper := [
  ⟨(some (58)), .move (.tmp 15), none, []⟩, 
  ⟨(some (59)), .move (.tmp 58), none, []⟩, 
  ⟨(some (60)), .fieldAddr 4 (.tmp 6), (some (59, true)), []⟩, 
  ⟨(some (61)), .fieldAddr 1 (.tmp 60), (some (59, true)), []⟩, 
  ⟨(some (62)), .load none (.tmp 61), (some (59, true)), []⟩, 
  ⟨(some (63)), .move (.tmp 4), (some (59, true)), []⟩, 
  ⟨(some (64)), .bin .plain .geq (.tmp 62) (.tmp 63), (some (59, true)), []⟩, 
  ⟨(some (65)), .pick (.tmp 59) (.tmp 64) (.const (.bool false)), none, []⟩, 
  ⟨(some (15)), .move (.tmp 65), none, []⟩]
def k_cathode_Life_r15 : List AOper := [
  ⟨(some (66)), .move (.tmp 15), none, []⟩]
def k_cathode_Life_r16 : List AOper := [
  ⟨(some (67)), .move (.tmp 16), none, []⟩, 
  ⟨(some (68)), .fieldAddr 1 (.tmp 13), none, []⟩, 
  ⟨none, .store 1 (.tmp 68) (.tmp 67), none, []⟩]
def k_cathode_Life_r17 : List AOper := [
  ⟨(some (40)), .move (.tmp 16), none, []⟩, 
  ⟨(some (41)), .bin .plain .add (.tmp 40) (.const (.int .i64 1)), none, []⟩, 
  ⟨(some (16)), .move (.tmp 41), none, []⟩]
def k_cathode_Life_r18 : ACode := (.seq (.seq (.reg k_cathode_Life_r9 false) (.cond (.tmp 39) .skip (.exit 0))) (.seq (.block 1 (.seq (.reg k_cathode_Life_r10 false) (.seq (.seq (.reg k_cathode_Life_r11 false) (.seq (.reg k_cathode_Life_r12 false) (.cond (.tmp 55) (.reg k_cathode_Life_r13 false) .skip))) (.seq (.reg k_cathode_Life_r14 false) (.seq (.reg k_cathode_Life_r15 false) (.cond (.tmp 66) (.reg k_cathode_Life_r16 false) .skip)))))) (.reg k_cathode_Life_r17 false)))
def k_cathode_Life_r19 : List AOper := [
  ⟨(some (69)), .load (some (2)) (.tmp 13), none, []⟩, 
  ⟨none, .store 2 (.tmp 10) (.tmp 69), none, []⟩, 
  ⟨(some (11)), .move (.const (.int .i64 0)), none, []⟩]
def k_cathode_Life : AFun := { params := 5, ntmps := 70, body := (.seq (.reg k_cathode_Life_r0 false) (.seq (.seq (.reg k_cathode_Life_r1 false) (.seq (.reg k_cathode_Life_r2 false) (.cond (.tmp 23) (.seq (.reg k_cathode_Life_r3 false) .ret) .skip))) (.seq (.seq (.reg k_cathode_Life_r4 false) (.cond (.tmp 30) (.seq (.reg k_cathode_Life_r5 false) .ret) .skip)) (.seq (.reg k_cathode_Life_r6 false) (.seq (.reg k_cathode_Life_r7 false) (.seq (.seq (.reg k_cathode_Life_r8 false) (.block 0 (.loop k_cathode_Life_r18))) (.seq (.reg k_cathode_Life_r19 false) .ret))))))), res := [.cell 10 (some ((some (2)))), .tmp 11] }
theorem k_cathode_Life_ok : cfun Try.prog Try.f55 = k_cathode_Life := by kernel_rfl

def k_kit_Within_r0 : List AOper := [
  ⟨(some (2)), .box (.tmp 0), none, []⟩, 
  ⟨(some (3)), .box (.tmp 1), none, []⟩, 
  ⟨(some (4)), .move (.const (.bool false)), none, []⟩]
def k_kit_Within_r1 : List AOper := [
  ⟨(some (5)), .fieldAddr 0 (.tmp 2), none, []⟩, 
  ⟨(some (6)), .load none (.tmp 5), none, []⟩, 
  ⟨(some (7)), .fieldAddr 0 (.tmp 3), none, []⟩, 
  ⟨(some (8)), .load none (.tmp 7), none, []⟩, 
  ⟨(some (9)), .bin .plain .geq (.tmp 6) (.tmp 8), none, []⟩, 
  ⟨(some (10)), .move (.tmp 9), none, []⟩, 
  ⟨(some (11)), .fieldAddr 1 (.tmp 2), (some (10, true)), []⟩, 
  ⟨(some (12)), .load none (.tmp 11), (some (10, true)), []⟩, 
  ⟨(some (13)), .fieldAddr 1 (.tmp 3), (some (10, true)), []⟩, 
  ⟨(some (14)), .load none (.tmp 13), (some (10, true)), []⟩, 
  ⟨(some (15)), .bin .plain .leq (.tmp 12) (.tmp 14), (some (10, true)), []⟩, 
  ⟨(some (16)), .pick (.tmp 10) (.tmp 15) (.const (.bool false)), none, []⟩, 
  ⟨(some (4)), .move (.tmp 16), none, []⟩]
def k_kit_Within : AFun := { params := 2, ntmps := 17, body := (.seq (.reg k_kit_Within_r0 false) (.seq (.reg k_kit_Within_r1 false) .ret)), res := [.tmp 4] }
theorem k_kit_Within_ok : cfun Try.prog Try.f61 = k_kit_Within := by kernel_rfl

def k_kit_Dice_Between_r0 : List AOper := [
  ⟨(some (6)), .move (.const (.int .i64 0)), none, []⟩]
def k_kit_Dice_Between_r1 : List AOper := [
  ⟨(some (7)), .move (.tmp 1), none, []⟩, 
  ⟨(some (8)), .move (.tmp 0), none, []⟩, 
  ⟨(some (9)), .move (.tmp 2), none, []⟩, 
  ⟨(some (10)), .move (.tmp 1), none, []⟩, 
  ⟨(some (11)), .bin .plain .sub (.tmp 9) (.tmp 10), none, []⟩, 
  ⟨(some (12)), .bin .plain .add (.tmp 11) (.const (.int .i64 1)), none, []⟩, 
  ⟨(some (13)), .call (.const (.fn (.func 23) [] [])) [.tmp 8, .tmp 12], none, []⟩, 
  ⟨(some (14)), .bin .plain .add (.tmp 7) (.tmp 13), none, []⟩, 
  ⟨(some (6)), .move (.tmp 14), none, []⟩]
def k_kit_Dice_Between : AFun := { params := 3, ntmps := 15, body := (.seq (.reg k_kit_Dice_Between_r0 false) (.seq (.reg k_kit_Dice_Between_r1 false) .ret)), res := [.tmp 6] }
theorem k_kit_Dice_Between_ok : cfun Try.prog Try.f64 = k_kit_Dice_Between := by kernel_rfl

def k_kit_Dice_next_r0 : List AOper := [
  ⟨(some (2)), .move (.const (.int .u64 0)), none, []⟩]
def k_kit_Dice_next_r1 : List AOper := [
  ⟨(some (4)), .move (.tmp 0), none, []⟩, 
  ⟨(some (5)), .move (.tmp 0), none, []⟩, 
  ⟨(some (6)), .nilCheck (.tmp 5), none, []⟩, 
  ⟨(some (7)), .fieldAddr 0 (.tmp 6), none, []⟩, 
  ⟨(some (8)), .load none (.tmp 7), none, []⟩, 
  ⟨(some (9)), .bin .plain .add (.tmp 8) (.const (.int .u64 11400714819323198485)), none, []⟩, 
  ⟨(some (10)), .nilCheck (.tmp 4), none, []⟩, 
  ⟨(some (11)), .fieldAddr 0 (.tmp 10), none, []⟩, 
  ⟨none, .store 1 (.tmp 11) (.tmp 9), none, []⟩]
def k_kit_Dice_next_r2 : List AOper := [
  ⟨(some (12)), .move (.tmp 0), none, []⟩, 
  ⟨(some (13)), .nilCheck (.tmp 12), none, []⟩, 
  ⟨(some (14)), .fieldAddr 0 (.tmp 13), none, []⟩, 
  ⟨(some (15)), .load none (.tmp 14), none, []⟩, 
  ⟨(some (3)), .move (.tmp 15), none, []⟩]
def k_kit_Dice_next_r3 : List AOper := [
  ⟨(some (16)), .move (.tmp 3), none, []⟩, 
  ⟨(some (17)), .move (.tmp 3), none, []⟩, 
  ⟨(some (18)), .bin .plain .shr (.tmp 17) (.const (.int .u64 30)), none, []⟩, 
  ⟨(some (19)), .bin .plain .xor (.tmp 16) (.tmp 18), none, []⟩, 
  ⟨(some (20)), .bin .plain .mul (.tmp 19) (.const (.int .u64 13787848793156543929)), none, []⟩, 
  ⟨(some (3)), .move (.tmp 20), none, []⟩]
def k_kit_Dice_next_r4 : List AOper := [
  ⟨(some (21)), .move (.tmp 3), none, []⟩, 
  ⟨(some (22)), .move (.tmp 3), none, []⟩, 
  ⟨(some (23)), .bin .plain .shr (.tmp 22) (.const (.int .u64 27)), none, []⟩, 
  ⟨(some (24)), .bin .plain .xor (.tmp 21) (.tmp 23), none, []⟩, 
  ⟨(some (25)), .bin .plain .mul (.tmp 24) (.const (.int .u64 10723151780598845931)), none, []⟩, 
  ⟨(some (3)), .move (.tmp 25), none, []⟩]
def k_kit_Dice_next_r5 : List AOper := [
  ⟨(some (26)), .move (.tmp 3), none, []⟩, 
  ⟨(some (27)), .move (.tmp 3), none, []⟩, 
  ⟨(some (28)), .bin .plain .shr (.tmp 27) (.const (.int .u64 31)), none, []⟩, 
  ⟨(some (29)), .bin .plain .xor (.tmp 26) (.tmp 28), none, []⟩, 
  ⟨(some (2)), .move (.tmp 29), none, []⟩]
def k_kit_Dice_next : AFun := { params := 1, ntmps := 30, body := (.seq (.reg k_kit_Dice_next_r0 false) (.seq (.reg k_kit_Dice_next_r1 false) (.seq (.reg k_kit_Dice_next_r2 false) (.seq (.reg k_kit_Dice_next_r3 false) (.seq (.reg k_kit_Dice_next_r4 false) (.seq (.reg k_kit_Dice_next_r5 false) .ret)))))), res := [.tmp 2] }
theorem k_kit_Dice_next_ok : cfun Try.prog Try.f65 = k_kit_Dice_next := by kernel_rfl

def k_kit_rate_r0 : List AOper := [
  ⟨(some (4)), .box (.const (.agg [.int .i64 0, .int .i64 0])), none, []⟩]
def k_kit_rate_r1 : List AOper := [
  ⟨(some (7)), .move (.tmp 0), none, []⟩, 
  ⟨(some (8)), .call (.const (.fn (.func 23) [] [])) [.tmp 7, .const (.int .i64 5)], none, []⟩]
def k_kit_rate_r2 : List AOper := [
  ⟨(some (10)), .bin .plain .eql (.tmp 8) (.const (.int .i64 0)), none, []⟩, 
  ⟨(some (9)), .move (.tmp 10), none, []⟩]
def k_kit_rate_r3 : List AOper := [
  ⟨(some (11)), .build [.int .i64 0, .int .i64 0] [], none, []⟩, 
  ⟨none, .store 2 (.tmp 4) (.tmp 11), none, []⟩]
def k_kit_rate_r4 : List AOper := [
  ⟨(some (13)), .bin .plain .eql (.tmp 8) (.const (.int .i64 1)), none, []⟩, 
  ⟨(some (12)), .move (.tmp 13), none, []⟩]
def k_kit_rate_r5 : List AOper := [
  ⟨(some (14)), .move (.tmp 0), none, []⟩, 
  ⟨(some (15)), .move (.tmp 1), none, []⟩, 
  ⟨(some (16)), .call (.const (.fn (.func 64) [] [])) [.tmp 14, .const (.int .i64 0), .tmp 15], none, []⟩, 
  ⟨(some (5)), .move (.tmp 16), none, []⟩]
def k_kit_rate_r6 : List AOper := [
  ⟨(some (17)), .move (.tmp 5), none, []⟩, 
  ⟨(some (18)), .move (.tmp 5), none, []⟩, 
  ⟨(some (19)), .build [.int .i64 0, .int .i64 0] [(0, 1, .tmp 17), (1, 1, .tmp 18)], none, []⟩, 
  ⟨none, .store 2 (.tmp 4) (.tmp 19), none, []⟩]
def k_kit_rate_r7 : List AOper := [
  ⟨(some (20)), .move (.tmp 0), none, []⟩, 
  ⟨(some (21)), .move (.tmp 1), none, []⟩, 
  ⟨(some (22)), .call (.const (.fn (.func 64) [] [])) [.tmp 20, .const (.int .i64 0), .tmp 21], none, []⟩, 
  ⟨(some (6)), .move (.tmp 22), none, []⟩]
def k_kit_rate_r8 : List AOper := [
  ⟨(some (23)), .move (.tmp 6), none, []⟩, 
  ⟨(some (24)), .move (.tmp 1), none, []⟩, 
  ⟨(some (25)), .move (.tmp 6), none, []⟩, 
  ⟨(some (26)), .move (.tmp 0), none, []⟩, 
  ⟨(some (27)), .move (.tmp 1), none, []⟩, 
  ⟨(some (28)), .bin .plain .quo (.tmp 27) (.const (.int .i64 4)), none, []⟩, 
  ⟨(some (29)), .bin .plain .add (.tmp 28) (.const (.int .i64 1)), none, []⟩, 
  ⟨(some (30)), .call (.const (.fn (.func 23) [] [])) [.tmp 26, .tmp 29], none, []⟩, 
  ⟨(some (31)), .bin .plain .add (.tmp 25) (.tmp 30), none, []⟩, 
  ⟨(some (32)), .minmax false [.tmp 24, .tmp 31], none, []⟩, 
  ⟨(some (33)), .build [.int .i64 0, .int .i64 0] [(0, 1, .tmp 23), (1, 1, .tmp 32)], none, []⟩, 
  ⟨none, .store 2 (.tmp 4) (.tmp 33), none, []⟩]
def k_kit_rate : AFun := { params := 2, ntmps := 34, body := (.seq (.reg k_kit_rate_r0 false) (.seq (.seq (.reg k_kit_rate_r1 false) (.block 0 (.seq (.reg k_kit_rate_r2 false) (.cond (.tmp 9) (.seq (.reg k_kit_rate_r3 false) .ret) (.seq (.reg k_kit_rate_r4 false) (.cond (.tmp 12) (.seq (.reg k_kit_rate_r5 false) (.seq (.reg k_kit_rate_r6 false) .ret)) .skip)))))) (.seq (.reg k_kit_rate_r7 false) (.seq (.reg k_kit_rate_r8 false) .ret)))), res := [.cell 4 (some ((some (2))))] }
theorem k_kit_rate_ok : cfun Try.prog Try.f66 = k_kit_rate := by kernel_rfl

def k_cathode_within_r0 : List AOper := [
  ⟨(some (6)), .move (.const (.bool false)), none, []⟩]
def k_cathode_within_r1 : List AOper := [
  ⟨(some (7)), .move (.tmp 1), none, []⟩, 
  ⟨(some (8)), .move (.tmp 0), none, []⟩, 
  ⟨(some (9)), .bin .plain .leq (.tmp 7) (.tmp 8), none, []⟩, 
  ⟨(some (10)), .move (.tmp 9), none, []⟩, 
  ⟨(some (11)), .move (.tmp 0), (some (10, true)), []⟩, 
  ⟨(some (12)), .move (.tmp 2), (some (10, true)), []⟩, 
  ⟨(some (13)), .bin .plain .leq (.tmp 11) (.tmp 12), (some (10, true)), []⟩, 
  ⟨(some (14)), .pick (.tmp 10) (.tmp 13) (.const (.bool false)), none, []⟩, 
  ⟨(some (6)), .move (.tmp 14), none, []⟩]
def k_cathode_within : AFun := { params := 3, ntmps := 15, body := (.seq (.reg k_cathode_within_r0 false) (.seq (.reg k_cathode_within_r1 false) .ret)), res := [.tmp 6] }
theorem k_cathode_within_ok : cfun Try.prog Try.f67 = k_cathode_within := by kernel_rfl

def k_cathode_checkRanges_r0 : List AOper := [
  ⟨(some (4)), .move (.const (.int .i64 0)), none, []⟩]
def k_cathode_checkRanges_r1 : List AOper := [
  ⟨(some (7)), .move (.tmp 1), none, []⟩, 
  ⟨(some (8)), .len false (.tmp 7), none, []⟩, 
  ⟨(some (9)), .move (.const (.int .i64 0)), none, []⟩]
def k_cathode_checkRanges_r2 : List AOper := [
  ⟨(some (10)), .bin .plain .lss (.tmp 9) (.tmp 8), none, []⟩]
def k_cathode_checkRanges_r3 : List AOper := [
  ⟨(some (11)), .indexAddr 2 (.tmp 7) (.tmp 9), none, []⟩, 
  ⟨(some (12)), .load (some (2)) (.tmp 11), none, []⟩, 
  ⟨(some (6)), .box (.const (.agg [.int .i64 0, .int .i64 0])), none, []⟩, 
  ⟨none, .store 2 (.tmp 6) (.tmp 12), none, []⟩]
def k_cathode_checkRanges_r4 : List AOper := [
  ⟨(some (13)), .fieldAddr 0 (.tmp 6), none, []⟩, 
  ⟨(some (14)), .load none (.tmp 13), none, []⟩, 
  ⟨(some (15)), .move (.tmp 0), none, []⟩, 
  ⟨(some (16)), .call (.const (.fn (.func 67) [] [])) [.tmp 14, .const (.int .i64 0), .tmp 15], none, []⟩, 
  ⟨(some (17)), .not (.tmp 16), none, []⟩, 
  ⟨(some (18)), .move (.tmp 17), none, []⟩, 
  ⟨(some (19)), .fieldAddr 1 (.tmp 6), (some (18, false)), []⟩, 
  ⟨(some (20)), .load none (.tmp 19), (some (18, false)), []⟩, 
  ⟨(some (21)), .move (.tmp 0), (some (18, false)), []⟩, 
  ⟨(some (22)), .call (.const (.fn (.func 67) [] [])) [.tmp 20, .const (.int .i64 0), .tmp 21], (some (18, false)), []⟩, 
  ⟨(some (23)), .not (.tmp 22), (some (18, false)), []⟩, 
  ⟨(some (24)), .pick (.tmp 18) (.const (.bool true)) (.tmp 23), none, []⟩]
def k_cathode_checkRanges_r5 : List AOper := [
  ⟨(some (4)), .move (.const (.int .i64 2)), none, []⟩]
def k_cathode_checkRanges_r6 : List AOper := [
  ⟨(some (25)), .fieldAddr 0 (.tmp 6), none, []⟩, 
  ⟨(some (26)), .load none (.tmp 25), none, []⟩, 
  ⟨(some (27)), .fieldAddr 1 (.tmp 6), none, []⟩, 
  ⟨(some (28)), .load none (.tmp 27), none, []⟩, 
  ⟨(some (29)), .bin .plain .gtr (.tmp 26) (.tmp 28), none, []⟩]
def k_cathode_checkRanges_r7 : List AOper := [
  ⟨(some (4)), .move (.const (.int .i64 11)), none, []⟩]
def k_cathode_checkRanges_r8 : List AOper := [
  ⟨(some (30)), .bin .plain .add (.tmp 9) (.const (.int .i64 1)), none, []⟩, 
  ⟨(some (9)), .move (.tmp 30), none, []⟩]
def k_cathode_checkRanges_r9 : ACode := (.seq (.reg k_cathode_checkRanges_r2 false) (.seq (.cond (.tmp 10) .skip (.exit 0)) (.seq (.block 1 (.seq (.reg k_cathode_checkRanges_r3 false) (.seq (.seq (.reg k_cathode_checkRanges_r4 false) (.cond (.tmp 24) (.seq (.reg k_cathode_checkRanges_r5 false) .ret) .skip)) (.seq (.reg k_cathode_checkRanges_r6 false) (.cond (.tmp 29) (.seq (.reg k_cathode_checkRanges_r7 false) .ret) .skip))))) (.reg k_cathode_checkRanges_r8 false))))
def k_cathode_checkRanges_r10 : List AOper := [
  ⟨(some (4)), .move (.const (.int .i64 0)), none, []⟩]
def k_cathode_checkRanges : AFun := { params := 2, ntmps := 31, body := (.seq (.reg k_cathode_checkRanges_r0 false) (.seq (.seq (.reg k_cathode_checkRanges_r1 false) (.block 0 (.loop k_cathode_checkRanges_r9))) (.seq (.reg k_cathode_checkRanges_r10 false) .ret))), res := [.tmp 4] }
theorem k_cathode_checkRanges_ok : cfun Try.prog Try.f68 = k_cathode_checkRanges := by kernel_rfl

def k_cathode_rightHeat_r0 : List AOper := [
  ⟨(some (2)), .move (.const (.bool false)), none, []⟩]
def k_cathode_rightHeat_r1 : List AOper := [
  ⟨(some (3)), .move (.tmp 0), none, []⟩, 
  ⟨(some (4)), .call (.const (.fn (.func 67) [] [])) [.tmp 3, .const (.int .i64 0), .const (.int .i64 2000)], none, []⟩, 
  ⟨(some (2)), .move (.tmp 4), none, []⟩]
def k_cathode_rightHeat : AFun := { params := 1, ntmps := 5, body := (.seq (.reg k_cathode_rightHeat_r0 false) (.seq (.reg k_cathode_rightHeat_r1 false) .ret)), res := [.tmp 2] }
theorem k_cathode_rightHeat_ok : cfun Try.prog Try.f72 = k_cathode_rightHeat := by kernel_rfl

def k_cathode_rightCurrent_r0 : List AOper := [
  ⟨(some (2)), .move (.const (.bool false)), none, []⟩]
def k_cathode_rightCurrent_r1 : List AOper := [
  ⟨(some (3)), .move (.tmp 0), none, []⟩, 
  ⟨(some (4)), .call (.const (.fn (.func 67) [] [])) [.tmp 3, .const (.int .i64 0), .const (.int .i64 1000)], none, []⟩, 
  ⟨(some (2)), .move (.tmp 4), none, []⟩]
def k_cathode_rightCurrent : AFun := { params := 1, ntmps := 5, body := (.seq (.reg k_cathode_rightCurrent_r0 false) (.seq (.reg k_cathode_rightCurrent_r1 false) .ret)), res := [.tmp 2] }
theorem k_cathode_rightCurrent_ok : cfun Try.prog Try.f73 = k_cathode_rightCurrent := by kernel_rfl

def k_cathode_length_r0 : List AOper := [
  ⟨(some (2)), .move (.const (.int .i64 0)), none, []⟩]
def k_cathode_length_r1 : List AOper := [
  ⟨(some (3)), .move (.const (.int .i64 0)), none, []⟩]
def k_cathode_length_r2 : List AOper := [
  ⟨(some (6)), .move (.tmp 0), none, []⟩, 
  ⟨(some (7)), .len false (.tmp 6), none, []⟩, 
  ⟨(some (8)), .move (.const (.int .i64 0)), none, []⟩]
def k_cathode_length_r3 : List AOper := [
  ⟨(some (9)), .bin .plain .lss (.tmp 8) (.tmp 7), none, []⟩]
def k_cathode_length_r4 : List AOper := [
  ⟨(some (10)), .indexAddr 3 (.tmp 6) (.tmp 8), none, []⟩, 
  ⟨(some (11)), .load (some (3)) (.tmp 10), none, []⟩, 
  ⟨(some (5)), .box (.const (.agg [.int .i64 0, .int .i64 0, .int .i64 0])), none, []⟩, 
  ⟨none, .store 3 (.tmp 5) (.tmp 11), none, []⟩]
def k_cathode_length_r5 : List AOper := [
  ⟨(some (12)), .move (.tmp 3), none, []⟩, 
  ⟨(some (13)), .fieldAddr 0 (.tmp 5), none, []⟩, 
  ⟨(some (14)), .load none (.tmp 13), none, []⟩, 
  ⟨(some (15)), .bin .plain .add (.tmp 12) (.tmp 14), none, []⟩, 
  ⟨(some (3)), .move (.tmp 15), none, []⟩]
def k_cathode_length_r6 : List AOper := [
  ⟨(some (16)), .bin .plain .add (.tmp 8) (.const (.int .i64 1)), none, []⟩, 
  ⟨(some (8)), .move (.tmp 16), none, []⟩]
def k_cathode_length_r7 : ACode := (.seq (.reg k_cathode_length_r3 false) (.seq (.cond (.tmp 9) .skip (.exit 0)) (.seq (.block 1 (.seq (.reg k_cathode_length_r4 false) (.reg k_cathode_length_r5 false))) (.reg k_cathode_length_r6 false))))
def k_cathode_length_r8 : List AOper := [
  ⟨(some (17)), .move (.tmp 3), none, []⟩, 
  ⟨(some (2)), .move (.tmp 17), none, []⟩]
def k_cathode_length : AFun := { params := 1, ntmps := 18, body := (.seq (.reg k_cathode_length_r0 false) (.seq (.reg k_cathode_length_r1 false) (.seq (.seq (.reg k_cathode_length_r2 false) (.block 0 (.loop k_cathode_length_r7))) (.seq (.reg k_cathode_length_r8 false) .ret)))), res := [.tmp 2] }
theorem k_cathode_length_ok : cfun Try.prog Try.f74 = k_cathode_length := by kernel_rfl

def k_cathode_fresh_r0 : List AOper := [
  ⟨(some (1)), .box (.tmp 0), none, []⟩, 
  ⟨(some (2)), .box (.const (.agg [.int .i64 0, .int .i64 0, .int .i64 0, .int .i64 0, .int .i64 0, .int .i64 0, .int .i64 0, .int .i64 0, .int .i64 0, .int .i64 0, .int .i64 0, .int .i64 0, .int .i64 0])), none, []⟩]
def k_cathode_fresh_r1 : List AOper := [
  ⟨(some (3)), .fieldAddr 0 (.tmp 1), none, []⟩, 
  ⟨(some (4)), .load none (.tmp 3), none, []⟩, 
  ⟨(some (5)), .fieldAddr 0 (.tmp 1), none, []⟩, 
  ⟨(some (6)), .load none (.tmp 5), none, []⟩, 
  ⟨(some (7)), .build [.int .i64 0, .int .i64 0] [(0, 1, .tmp 4), (1, 1, .tmp 6)], none, []⟩, 
  ⟨(some (8)), .build [.int .i64 0, .int .i64 0, .int .i64 0, .int .i64 0, .int .i64 0, .int .i64 0, .int .i64 0, .int .i64 0, .int .i64 0, .int .i64 0, .int .i64 0, .int .i64 0, .int .i64 0] [(0, 2, .tmp 7), (12, 1, .const (.int .i64 300))], none, []⟩, 
  ⟨none, .store 13 (.tmp 2) (.tmp 8), none, []⟩]
def k_cathode_fresh : AFun := { params := 1, ntmps := 9, body := (.seq (.reg k_cathode_fresh_r0 false) (.seq (.reg k_cathode_fresh_r1 false) .ret)), res := [.cell 2 (some ((some (13))))] }
theorem k_cathode_fresh_ok : cfun Try.prog Try.f78 = k_cathode_fresh := by kernel_rfl

def k_cathode_checkTick_r0 : List AOper := [
  ⟨(some (4)), .box (.tmp 0), none, []⟩, 
  ⟨(some (5)), .box (.tmp 1), none, []⟩, 
  ⟨(some (8)), .move (.const (.int .i64 0)), none, []⟩]
def k_cathode_checkTick_r1 : List AOper := [
  ⟨(some (10)), .load (some (7)) (.tmp 4), none, []⟩, 
  ⟨(some (11)), .load (some (13)) (.tmp 5), none, []⟩, 
  ⟨(some (12)), .call (.const (.fn (.func 27) [] [])) [.tmp 10, .tmp 11], none, []⟩, 
  ⟨(some (9)), .move (.tmp 12), none, []⟩]
def k_cathode_checkTick_r2 : List AOper := [
  ⟨(some (13)), .move (.tmp 9), none, []⟩, 
  ⟨(some (14)), .bin .plain .neq (.tmp 13) (.const (.int .i64 0)), none, []⟩]
def k_cathode_checkTick_r3 : List AOper := [
  ⟨(some (15)), .move (.tmp 9), none, []⟩, 
  ⟨(some (8)), .move (.tmp 15), none, []⟩]
def k_cathode_checkTick_r4 : List AOper := [
  ⟨(some (16)), .move (.tmp 2), none, []⟩, 
  ⟨(some (17)), .call (.const (.fn (.func 72) [] [])) [.tmp 16], none, []⟩, 
  ⟨(some (18)), .not (.tmp 17), none, []⟩, 
  ⟨(some (19)), .move (.tmp 18), none, []⟩, 
  ⟨(some (20)), .move (.tmp 3), (some (19, false)), []⟩, 
  ⟨(some (21)), .call (.const (.fn (.func 73) [] [])) [.tmp 20], (some (19, false)), []⟩, 
  ⟨(some (22)), .not (.tmp 21), (some (19, false)), []⟩, 
  ⟨(some (23)), .pick (.tmp 19) (.const (.bool true)) (.tmp 22), none, []⟩]
def k_cathode_checkTick_r5 : List AOper := [
  ⟨(some (8)), .move (.const (.int .i64 2)), none, []⟩]
def k_cathode_checkTick_r6 : List AOper := [
  ⟨(some (8)), .move (.const (.int .i64 0)), none, []⟩]
def k_cathode_checkTick : AFun := { params := 4, ntmps := 24, body := (.seq (.reg k_cathode_checkTick_r0 false) (.seq (.seq (.reg k_cathode_checkTick_r1 false) (.seq (.reg k_cathode_checkTick_r2 false) (.cond (.tmp 14) (.seq (.reg k_cathode_checkTick_r3 false) .ret) .skip))) (.seq (.seq (.reg k_cathode_checkTick_r4 false) (.cond (.tmp 23) (.seq (.reg k_cathode_checkTick_r5 false) .ret) .skip)) (.seq (.reg k_cathode_checkTick_r6 false) .ret)))), res := [.tmp 8] }
theorem k_cathode_checkTick_ok : cfun Try.prog Try.f80 = k_cathode_checkTick := by kernel_rfl

def k_cathode_after_r0 : List AOper := [
  ⟨(some (4)), .box (.tmp 0), none, []⟩, 
  ⟨(some (5)), .box (.tmp 1), none, []⟩, 
  ⟨(some (8)), .box (.const (.agg [.int .i64 0, .int .i64 0, .int .i64 0, .int .i64 0, .int .i64 0, .int .i64 0, .int .i64 0, .int .i64 0, .int .i64 0, .int .i64 0, .int .i64 0, .int .i64 0, .int .i64 0])), none, []⟩]
def k_cathode_after_r1 : List AOper := [
  ⟨(some (14)), .load (some (13)) (.tmp 5), none, []⟩, 
  ⟨(some (15)), .build [.int .i64 0, .int .i64 0, .int .i64 0, .int .i64 0, .int .i64 0, .int .i64 0, .int .i64 0, .int .i64 0, .int .i64 0, .int .i64 0, .int .i64 0, .int .i64 0, .int .i64 0, .int .i64 0, .int .i64 0, .int .i64 0, .int .i64 0, .int .i64 0, .int .i64 0, .int .i64 0, .int .i64 0, .int .i64 0, .int .i64 0, .int .i64 0, .int .i64 0, .int .i64 0, .int .i64 0, .int .i64 0, .int .i64 0, .int .i64 0, .int .i64 0, .int .i64 0, .int .i64 0, .int .i64 0, .int .i64 0] [(9, 13, .tmp 14)], none, []⟩, 
  ⟨(some (9)), .box (.const (.agg [.int .i64 0, .int .i64 0, .int .i64 0, .int .i64 0, .int .i64 0, .int .i64 0, .int .i64 0, .int .i64 0, .int .i64 0, .int .i64 0, .int .i64 0, .int .i64 0, .int .i64 0, .int .i64 0, .int .i64 0, .int .i64 0, .int .i64 0, .int .i64 0, .int .i64 0, .int .i64 0, .int .i64 0, .int .i64 0, .int .i64 0, .int .i64 0, .int .i64 0, .int .i64 0, .int .i64 0, .int .i64 0, .int .i64 0, .int .i64 0, .int .i64 0, .int .i64 0, .int .i64 0, .int .i64 0, .int .i64 0])), none, []⟩, 
  ⟨none, .store 35 (.tmp 9) (.tmp 15), none, []⟩]
def k_cathode_after_r2 : List AOper := [
  ⟨(some (16)), .fieldAddr 12 (.tmp 5), none, []⟩, 
  ⟨(some (17)), .load none (.tmp 16), none, []⟩, 
  ⟨(some (18)), .move (.tmp 2), none, []⟩, 
  ⟨(some (19)), .fieldAddr 1 (.tmp 4), none, []⟩, 
  ⟨(some (20)), .load none (.tmp 19), none, []⟩, 
  ⟨(some (21)), .call (.const (.fn (.func 87) [] [])) [.tmp 17, .tmp 18, .tmp 20], none, []⟩, 
  ⟨(some (22)), .fieldAddr 22 (.tmp 9), none, []⟩, 
  ⟨(some (23)), .fieldAddr 12 (.tmp 22), none, []⟩, 
  ⟨none, .store 1 (.tmp 23) (.tmp 21), none, []⟩]
def k_cathode_after_r3 : List AOper := [
  ⟨(some (24)), .load (some (7)) (.tmp 4), none, []⟩, 
  ⟨(some (25)), .fieldAddr 22 (.tmp 9), none, []⟩, 
  ⟨(some (26)), .fieldAddr 12 (.tmp 25), none, []⟩, 
  ⟨(some (27)), .load none (.tmp 26), none, []⟩, 
  ⟨(some (28)), .move (.tmp 3), none, []⟩, 
  ⟨(some (29)), .call (.const (.fn (.func 89) [] [])) [.tmp 24, .tmp 27, .tmp 28], none, []⟩, 
  ⟨(some (30)), .fieldAddr 0 (.tmp 9), none, []⟩, 
  ⟨none, .store 9 (.tmp 30) (.tmp 29), none, []⟩]
def k_cathode_after_r4 : List AOper := [
  ⟨(some (31)), .makeFunc (.func 105) [.tmp 9] [], none, []⟩, 
  ⟨(some (32)), .makeFunc (.func 106) [.tmp 9] [], none, []⟩, 
  ⟨(some (33)), .makeFunc (.func 107) [.tmp 9] [], none, []⟩, 
  ⟨(some (34)), .makeFunc (.func 108) [.tmp 9] [], none, []⟩, 
  ⟨(some (35)), .makeFunc (.func 109) [.tmp 9] [], none, []⟩, 
  ⟨(some (36)), .makeFunc (.func 110) [.tmp 9] [], none, []⟩, 
  ⟨(some (37)), .build [.nilfn, .nilfn, .nilfn, .nilfn, .nilfn, .nilfn] [(0, 1, .tmp 31), (1, 1, .tmp 32), (2, 1, .tmp 33), (3, 1, .tmp 34), (4, 1, .tmp 35), (5, 1, .tmp 36)], none, []⟩, 
  ⟨(some (38)), .move (.const (.int .i64 0)), none, []⟩]
def k_cathode_after_r5 : List AOper := [
  ⟨(some (39)), .bin .plain .lss (.tmp 38) (.const (.int .i64 6)), none, []⟩]
def k_cathode_after_r6 : List AOper := [
  ⟨(some (40)), .indexAgg 6 1 false (.tmp 37) (.tmp 38), none, []⟩, 
  ⟨(some (11)), .move (.tmp 40), none, []⟩]
def k_cathode_after_r7 : List AOper := [
  ⟨(some (41)), .move (.tmp 11), none, []⟩, 
  ⟨(some (42)), .call (.tmp 41) [], none, []⟩]
def k_cathode_after_r8 : List AOper := [
  ⟨(some (43)), .bin .plain .add (.tmp 38) (.const (.int .i64 1)), none, []⟩, 
  ⟨(some (38)), .move (.tmp 43), none, []⟩]
def k_cathode_after_r9 : ACode := (.seq (.reg k_cathode_after_r5 false) (.seq (.cond (.tmp 39) .skip (.exit 0)) (.seq (.block 1 (.seq (.reg k_cathode_after_r6 false) (.reg k_cathode_after_r7 false))) (.reg k_cathode_after_r8 false))))
def k_cathode_after_r10 : List AOper := [
  ⟨(some (44)), .fieldAddr 22 (.tmp 9), none, []⟩, 
  ⟨(some (45)), .fieldAddr 0 (.tmp 44), none, []⟩, 
  ⟨(some (46)), .fieldAddr 22 (.tmp 9), none, []⟩, 
  ⟨(some (47)), .fieldAddr 2 (.tmp 46), none, []⟩, 
  ⟨(some (48)), .fieldAddr 22 (.tmp 9), none, []⟩, 
  ⟨(some (49)), .fieldAddr 4 (.tmp 48), none, []⟩, 
  ⟨(some (50)), .fieldAddr 22 (.tmp 9), none, []⟩, 
  ⟨(some (51)), .fieldAddr 6 (.tmp 50), none, []⟩, 
  ⟨(some (52)), .fieldAddr 22 (.tmp 9), none, []⟩, 
  ⟨(some (53)), .fieldAddr 8 (.tmp 52), none, []⟩, 
  ⟨(some (54)), .build [.nilptr, .nilptr, .nilptr, .nilptr, .nilptr] [(0, 1, .tmp 45), (1, 1, .tmp 47), (2, 1, .tmp 49), (3, 1, .tmp 51), (4, 1, .tmp 53)], none, []⟩, 
  ⟨(some (55)), .move (.const (.int .i64 0)), none, []⟩]
def k_cathode_after_r11 : List AOper := [
  ⟨(some (56)), .bin .plain .lss (.tmp 55) (.const (.int .i64 5)), none, []⟩]
def k_cathode_after_r12 : List AOper := [
  ⟨(some (57)), .indexAgg 5 1 false (.tmp 54) (.tmp 55), none, []⟩, 
  ⟨(some (13)), .move (.tmp 57), none, []⟩]
def k_cathode_after_r13 : List AOper := [
  ⟨(some (58)), .move (.tmp 13), none, []⟩, 
  ⟨(some (59)), .move (.tmp 13), none, [0]⟩, 
  ⟨(some (60)), .nilCheck (.tmp 59), none, [0]⟩, 
  ⟨(some (61)), .fieldAddr 1 (.tmp 60), none, [0]⟩, 
  ⟨(some (62)), .load none (.tmp 61), none, [0]⟩, 
  ⟨(some (63)), .fieldAddr 0 (.tmp 4), none, [0, 1, 2, 3, 4]⟩, 
  ⟨(some (64)), .load none (.tmp 63), none, [0, 1, 2, 3, 4]⟩, 
  ⟨(some (65)), .minmax false [.tmp 62, .tmp 64], none, [0]⟩, 
  ⟨(some (66)), .nilCheck (.tmp 58), none, []⟩, 
  ⟨(some (67)), .fieldAddr 1 (.tmp 66), none, []⟩, 
  ⟨none, .store 1 (.tmp 67) (.tmp 65), none, []⟩]
def k_cathode_after_r13s : List (List AOper) := [
  [
  ⟨(some (58)), .move (.tmp 13), none, []⟩, 
  ⟨(some (59)), .move (.tmp 13), none, [0]⟩, 
  ⟨(some (60)), .nilCheck (.tmp 59), none, [0]⟩, 
  ⟨(some (61)), .fieldAddr 1 (.tmp 60), none, [0]⟩, 
  ⟨(some (62)), .load none (.tmp 61), none, [0]⟩, 
  ⟨(some (63)), .fieldAddr 0 (.tmp 4), none, [0, 1, 2, 3, 4]⟩, 
  ⟨(some (64)), .load none (.tmp 63), none, [0, 1, 2, 3, 4]⟩, 
  ⟨(some (65)), .minmax false [.tmp 62, .tmp 64], none, [0]⟩], 
  [
  ⟨(some (66)), .nilCheck (.tmp 58), none, []⟩], 
  [
  ⟨(some (67)), .fieldAddr 1 (.tmp 66), none, []⟩], 
  [
  ⟨none, .store 1 (.tmp 67) (.tmp 65), none, []⟩]]
theorem k_cathode_after_r13_sg : segs k_cathode_after_r13 = k_cathode_after_r13s := by kernel_rfl
theorem k_cathode_after_r13_st : statOK k_cathode_after_r13 = true := by kernel_rfl
def k_cathode_after_r14 : List AOper := [
  ⟨(some (68)), .bin .plain .add (.tmp 55) (.const (.int .i64 1)), none, []⟩, 
  ⟨(some (55)), .move (.tmp 68), none, []⟩]
def k_cathode_after_r15 : ACode := (.seq (.reg k_cathode_after_r11 false) (.seq (.cond (.tmp 56) .skip (.exit 2)) (.seq (.block 3 (.seq (.reg k_cathode_after_r12 false) (.reg k_cathode_after_r13 true))) (.reg k_cathode_after_r14 false))))
def k_cathode_after_r16 : List AOper := [
  ⟨(some (69)), .fieldAddr 22 (.tmp 9), none, []⟩, 
  ⟨(some (70)), .load (some (13)) (.tmp 69), none, []⟩, 
  ⟨none, .store 13 (.tmp 8) (.tmp 70), none, []⟩]
def k_cathode_after : AFun := { params := 4, ntmps := 71, body := (.seq (.reg k_cathode_after_r0 false) (.seq (.reg k_cathode_after_r1 false) (.seq (.reg k_cathode_after_r2 false) (.seq (.reg k_cathode_after_r3 false) (.seq (.seq (.reg k_cathode_after_r4 false) (.block 0 (.loop k_cathode_after_r9))) (.seq (.seq (.reg k_cathode_after_r10 false) (.block 2 (.loop k_cathode_after_r15))) (.seq (.reg k_cathode_after_r16 false) .ret))))))), res := [.cell 8 (some ((some (13))))] }
theorem k_cathode_after_ok : cfun Try.prog Try.f81 = k_cathode_after := by kernel_rfl

def k_cathode_ticks_r0 : List AOper := [
  ⟨(some (1)), .box (.tmp 0), none, []⟩, 
  ⟨(some (2)), .move (.const (.nilfn)), none, []⟩]
def k_cathode_ticks_r1 : List AOper := [
  ⟨(some (3)), .makeFunc (.func 113) [] [.tmp 1], none, []⟩, 
  ⟨(some (2)), .move (.tmp 3), none, []⟩]
def k_cathode_ticks : AFun := { params := 1, ntmps := 4, body := (.seq (.reg k_cathode_ticks_r0 false) (.seq (.reg k_cathode_ticks_r1 false) .ret)), res := [.tmp 2] }
theorem k_cathode_ticks_ok : cfun Try.prog Try.f86 = k_cathode_ticks := by kernel_rfl

def k_cathode_moved_r0 : List AOper := [
  ⟨(some (6)), .move (.const (.int .i64 0)), none, []⟩]
def k_cathode_moved_r1 : List AOper := [
  ⟨(some (7)), .move (.tmp 1), none, []⟩, 
  ⟨(some (8)), .move (.tmp 0), none, []⟩, 
  ⟨(some (9)), .move (.tmp 2), none, []⟩, 
  ⟨(some (10)), .bin .plain .sub (.tmp 8) (.tmp 9), none, []⟩, 
  ⟨(some (11)), .minmax true [.tmp 7, .tmp 10], none, []⟩, 
  ⟨(some (12)), .move (.tmp 0), none, []⟩, 
  ⟨(some (13)), .move (.tmp 2), none, []⟩, 
  ⟨(some (14)), .bin .plain .add (.tmp 12) (.tmp 13), none, []⟩, 
  ⟨(some (15)), .minmax false [.tmp 11, .tmp 14], none, []⟩, 
  ⟨(some (6)), .move (.tmp 15), none, []⟩]
def k_cathode_moved : AFun := { params := 3, ntmps := 16, body := (.seq (.reg k_cathode_moved_r0 false) (.seq (.reg k_cathode_moved_r1 false) .ret)), res := [.tmp 6] }
theorem k_cathode_moved_ok : cfun Try.prog Try.f87 = k_cathode_moved := by kernel_rfl

def k_cathode_follows_r0 : List AOper := [
  ⟨(some (3)), .box (.tmp 0), none, []⟩, 
  ⟨(some (4)), .box (.tmp 1), none, []⟩, 
  ⟨(some (5)), .box (.tmp 2), none, []⟩, 
  ⟨(some (6)), .move (.const (.bool false)), none, []⟩]
def k_cathode_follows_r1 : List AOper := [
  ⟨(some (10)), .fieldAddr 0 (.tmp 4), none, []⟩, 
  ⟨(some (11)), .load none (.tmp 10), none, []⟩, 
  ⟨(some (12)), .fieldAddr 0 (.tmp 3), none, [0, 1]⟩, 
  ⟨(some (13)), .load none (.tmp 12), none, [0, 1]⟩, 
  ⟨(some (14)), .call (.const (.fn (.func 116) [] [])) [.tmp 13], none, [0, 1]⟩, 
  ⟨(some (15)), .fieldAddr 1 (.tmp 5), none, [0, 1, 2, 3, 4]⟩, 
  ⟨(some (16)), .load (some (2)) (.tmp 15), none, [0, 1, 2, 3, 4]⟩, 
  ⟨(some (17)), .call (.const (.fn (.func 115) [] [])) [.tmp 14, .tmp 16], none, [0, 1]⟩, 
  ⟨(some (18)), .call (.const (.fn (.func 114) [] [])) [.tmp 11, .tmp 17], none, []⟩, 
  ⟨(some (19)), .not (.tmp 18), none, []⟩]
def k_cathode_follows_r1s : List (List AOper) := [
  [
  ⟨(some (10)), .fieldAddr 0 (.tmp 4), none, []⟩, 
  ⟨(some (11)), .load none (.tmp 10), none, []⟩, 
  ⟨(some (12)), .fieldAddr 0 (.tmp 3), none, [0, 1]⟩, 
  ⟨(some (13)), .load none (.tmp 12), none, [0, 1]⟩, 
  ⟨(some (14)), .call (.const (.fn (.func 116) [] [])) [.tmp 13], none, [0, 1]⟩, 
  ⟨(some (15)), .fieldAddr 1 (.tmp 5), none, [0, 1, 2, 3, 4]⟩, 
  ⟨(some (16)), .load (some (2)) (.tmp 15), none, [0, 1, 2, 3, 4]⟩, 
  ⟨(some (17)), .call (.const (.fn (.func 115) [] [])) [.tmp 14, .tmp 16], none, [0, 1]⟩], 
  [
  ⟨(some (18)), .call (.const (.fn (.func 114) [] [])) [.tmp 11, .tmp 17], none, []⟩], 
  [
  ⟨(some (19)), .not (.tmp 18), none, []⟩]]
theorem k_cathode_follows_r1_sg : segs k_cathode_follows_r1 = k_cathode_follows_r1s := by kernel_rfl
theorem k_cathode_follows_r1_st : statOK k_cathode_follows_r1 = true := by kernel_rfl
def k_cathode_follows_r2 : List AOper := [
  ⟨(some (6)), .move (.const (.bool false)), none, []⟩]
def k_cathode_follows_r3 : List AOper := [
  ⟨(some (20)), .fieldAddr 0 (.tmp 3), none, []⟩, 
  ⟨(some (21)), .load none (.tmp 20), none, []⟩, 
  ⟨(some (22)), .fieldAddr 0 (.tmp 4), none, []⟩, 
  ⟨(some (23)), .load none (.tmp 22), none, []⟩, 
  ⟨(some (24)), .bin .plain .sub (.tmp 21) (.tmp 23), none, []⟩, 
  ⟨(some (7)), .move (.tmp 24), none, []⟩]
def k_cathode_follows_r4 : List AOper := [
  ⟨(some (25)), .fieldAddr 1 (.tmp 4), none, []⟩, 
  ⟨(some (26)), .load none (.tmp 25), none, []⟩, 
  ⟨(some (27)), .fieldAddr 1 (.tmp 3), none, [0, 1]⟩, 
  ⟨(some (28)), .load none (.tmp 27), none, [0, 1]⟩, 
  ⟨(some (29)), .call (.const (.fn (.func 116) [] [])) [.tmp 28], none, [0, 1]⟩, 
  ⟨(some (30)), .fieldAddr 3 (.tmp 5), none, [0, 1, 2, 3, 4]⟩, 
  ⟨(some (31)), .load (some (2)) (.tmp 30), none, [0, 1, 2, 3, 4]⟩, 
  ⟨(some (32)), .call (.const (.fn (.func 115) [] [])) [.tmp 29, .tmp 31], none, [0, 1]⟩, 
  ⟨(some (33)), .move (.tmp 7), none, [0, 1, 2, 3, 4, 5, 6, 7]⟩, 
  ⟨(some (34)), .call (.const (.fn (.func 116) [] [])) [.tmp 33], none, [0, 1]⟩, 
  ⟨(some (35)), .call (.const (.fn (.func 117) [] [])) [.tmp 32, .tmp 34], none, [0, 1]⟩, 
  ⟨(some (36)), .call (.const (.fn (.func 114) [] [])) [.tmp 26, .tmp 35], none, []⟩, 
  ⟨(some (37)), .not (.tmp 36), none, []⟩]
def k_cathode_follows_r4s : List (List AOper) := [
  [
  ⟨(some (25)), .fieldAddr 1 (.tmp 4), none, []⟩, 
  ⟨(some (26)), .load none (.tmp 25), none, []⟩, 
  ⟨(some (27)), .fieldAddr 1 (.tmp 3), none, [0, 1]⟩, 
  ⟨(some (28)), .load none (.tmp 27), none, [0, 1]⟩, 
  ⟨(some (29)), .call (.const (.fn (.func 116) [] [])) [.tmp 28], none, [0, 1]⟩, 
  ⟨(some (30)), .fieldAddr 3 (.tmp 5), none, [0, 1, 2, 3, 4]⟩, 
  ⟨(some (31)), .load (some (2)) (.tmp 30), none, [0, 1, 2, 3, 4]⟩, 
  ⟨(some (32)), .call (.const (.fn (.func 115) [] [])) [.tmp 29, .tmp 31], none, [0, 1]⟩, 
  ⟨(some (33)), .move (.tmp 7), none, [0, 1, 2, 3, 4, 5, 6, 7]⟩, 
  ⟨(some (34)), .call (.const (.fn (.func 116) [] [])) [.tmp 33], none, [0, 1]⟩, 
  ⟨(some (35)), .call (.const (.fn (.func 117) [] [])) [.tmp 32, .tmp 34], none, [0, 1]⟩], 
  [
  ⟨(some (36)), .call (.const (.fn (.func 114) [] [])) [.tmp 26, .tmp 35], none, []⟩], 
  [
  ⟨(some (37)), .not (.tmp 36), none, []⟩]]
theorem k_cathode_follows_r4_sg : segs k_cathode_follows_r4 = k_cathode_follows_r4s := by kernel_rfl
theorem k_cathode_follows_r4_st : statOK k_cathode_follows_r4 = true := by kernel_rfl
def k_cathode_follows_r5 : List AOper := [
  ⟨(some (6)), .move (.const (.bool false)), none, []⟩]
def k_cathode_follows_r6 : List AOper := [
  ⟨(some (38)), .fieldAddr 1 (.tmp 3), none, []⟩, 
  ⟨(some (39)), .load none (.tmp 38), none, []⟩, 
  ⟨(some (40)), .move (.tmp 7), none, []⟩, 
  ⟨(some (41)), .bin .plain .add (.tmp 39) (.tmp 40), none, []⟩, 
  ⟨(some (42)), .fieldAddr 1 (.tmp 4), none, []⟩, 
  ⟨(some (43)), .load none (.tmp 42), none, []⟩, 
  ⟨(some (44)), .bin .plain .sub (.tmp 41) (.tmp 43), none, []⟩, 
  ⟨(some (8)), .move (.tmp 44), none, []⟩]
def k_cathode_follows_r7 : List AOper := [
  ⟨(some (45)), .fieldAddr 2 (.tmp 4), none, []⟩, 
  ⟨(some (46)), .load none (.tmp 45), none, []⟩, 
  ⟨(some (47)), .fieldAddr 2 (.tmp 3), none, [0, 1]⟩, 
  ⟨(some (48)), .load none (.tmp 47), none, [0, 1]⟩, 
  ⟨(some (49)), .call (.const (.fn (.func 116) [] [])) [.tmp 48], none, [0, 1]⟩, 
  ⟨(some (50)), .fieldAddr 5 (.tmp 5), none, [0, 1, 2, 3, 4]⟩, 
  ⟨(some (51)), .load (some (2)) (.tmp 50), none, [0, 1, 2, 3, 4]⟩, 
  ⟨(some (52)), .call (.const (.fn (.func 115) [] [])) [.tmp 49, .tmp 51], none, [0, 1]⟩, 
  ⟨(some (53)), .move (.tmp 8), none, [0, 1, 2, 3, 4, 5, 6, 7]⟩, 
  ⟨(some (54)), .call (.const (.fn (.func 116) [] [])) [.tmp 53], none, [0, 1]⟩, 
  ⟨(some (55)), .call (.const (.fn (.func 117) [] [])) [.tmp 52, .tmp 54], none, [0, 1]⟩, 
  ⟨(some (56)), .call (.const (.fn (.func 114) [] [])) [.tmp 46, .tmp 55], none, []⟩, 
  ⟨(some (57)), .not (.tmp 56), none, []⟩]
def k_cathode_follows_r7s : List (List AOper) := [
  [
  ⟨(some (45)), .fieldAddr 2 (.tmp 4), none, []⟩, 
  ⟨(some (46)), .load none (.tmp 45), none, []⟩, 
  ⟨(some (47)), .fieldAddr 2 (.tmp 3), none, [0, 1]⟩, 
  ⟨(some (48)), .load none (.tmp 47), none, [0, 1]⟩, 
  ⟨(some (49)), .call (.const (.fn (.func 116) [] [])) [.tmp 48], none, [0, 1]⟩, 
  ⟨(some (50)), .fieldAddr 5 (.tmp 5), none, [0, 1, 2, 3, 4]⟩, 
  ⟨(some (51)), .load (some (2)) (.tmp 50), none, [0, 1, 2, 3, 4]⟩, 
  ⟨(some (52)), .call (.const (.fn (.func 115) [] [])) [.tmp 49, .tmp 51], none, [0, 1]⟩, 
  ⟨(some (53)), .move (.tmp 8), none, [0, 1, 2, 3, 4, 5, 6, 7]⟩, 
  ⟨(some (54)), .call (.const (.fn (.func 116) [] [])) [.tmp 53], none, [0, 1]⟩, 
  ⟨(some (55)), .call (.const (.fn (.func 117) [] [])) [.tmp 52, .tmp 54], none, [0, 1]⟩], 
  [
  ⟨(some (56)), .call (.const (.fn (.func 114) [] [])) [.tmp 46, .tmp 55], none, []⟩], 
  [
  ⟨(some (57)), .not (.tmp 56), none, []⟩]]
theorem k_cathode_follows_r7_sg : segs k_cathode_follows_r7 = k_cathode_follows_r7s := by kernel_rfl
theorem k_cathode_follows_r7_st : statOK k_cathode_follows_r7 = true := by kernel_rfl
def k_cathode_follows_r8 : List AOper := [
  ⟨(some (6)), .move (.const (.bool false)), none, []⟩]
def k_cathode_follows_r9 : List AOper := [
  ⟨(some (58)), .fieldAddr 2 (.tmp 3), none, []⟩, 
  ⟨(some (59)), .load none (.tmp 58), none, []⟩, 
  ⟨(some (60)), .move (.tmp 8), none, []⟩, 
  ⟨(some (61)), .bin .plain .add (.tmp 59) (.tmp 60), none, []⟩, 
  ⟨(some (62)), .fieldAddr 2 (.tmp 4), none, []⟩, 
  ⟨(some (63)), .load none (.tmp 62), none, []⟩, 
  ⟨(some (64)), .bin .plain .sub (.tmp 61) (.tmp 63), none, []⟩, 
  ⟨(some (9)), .move (.tmp 64), none, []⟩]
def k_cathode_follows_r10 : List AOper := [
  ⟨(some (65)), .fieldAddr 3 (.tmp 4), none, []⟩, 
  ⟨(some (66)), .load none (.tmp 65), none, []⟩, 
  ⟨(some (67)), .fieldAddr 3 (.tmp 3), none, []⟩, 
  ⟨(some (68)), .load none (.tmp 67), none, []⟩, 
  ⟨(some (69)), .move (.tmp 9), none, []⟩, 
  ⟨(some (70)), .bin .plain .add (.tmp 68) (.tmp 69), none, []⟩, 
  ⟨(some (71)), .bin .plain .eql (.tmp 66) (.tmp 70), none, []⟩, 
  ⟨(some (6)), .move (.tmp 71), none, []⟩]
def k_cathode_follows : AFun := { params := 3, ntmps := 72, body := (.seq (.reg k_cathode_follows_r0 false) (.seq (.seq (.reg k_cathode_follows_r1 true) (.cond (.tmp 19) (.seq (.reg k_cathode_follows_r2 false) .ret) .skip)) (.seq (.reg k_cathode_follows_r3 false) (.seq (.seq (.reg k_cathode_follows_r4 true) (.cond (.tmp 37) (.seq (.reg k_cathode_follows_r5 false) .ret) .skip)) (.seq (.reg k_cathode_follows_r6 false) (.seq (.seq (.reg k_cathode_follows_r7 true) (.cond (.tmp 57) (.seq (.reg k_cathode_follows_r8 false) .ret) .skip)) (.seq (.reg k_cathode_follows_r9 false) (.seq (.reg k_cathode_follows_r10 false) .ret)))))))), res := [.tmp 6] }
theorem k_cathode_follows_ok : cfun Try.prog Try.f88 = k_cathode_follows := by kernel_rfl

def k_cathode_ratesAt_r0 : List AOper := [
  ⟨(some (3)), .box (.tmp 0), none, []⟩, 
  ⟨(some (4)), .box (.tmp 1), none, []⟩, 
  ⟨(some (6)), .box (.const (.agg [.int .i64 0, .int .i64 0, .int .i64 0, .int .i64 0, .int .i64 0, .int .i64 0, .int .i64 0, .int .i64 0, .int .i64 0])), none, []⟩]
def k_cathode_ratesAt_r1 : List AOper := [
  ⟨(some (9)), .fieldAddr 6 (.tmp 3), none, []⟩, 
  ⟨(some (10)), .load none (.tmp 9), none, []⟩, 
  ⟨(some (11)), .len false (.tmp 10), none, []⟩, 
  ⟨(some (12)), .makeFunc (.func 119) [] [.tmp 3, .tmp 4], none, []⟩, 
  ⟨(some (13)), .call (.const (.fn (.func 118) [] [])) [.tmp 11, .tmp 12], none, []⟩, 
  ⟨(some (7)), .move (.tmp 13), none, []⟩]
def k_cathode_ratesAt_r2 : List AOper := [
  ⟨(some (14)), .fieldAddr 6 (.tmp 3), none, []⟩, 
  ⟨(some (15)), .load none (.tmp 14), none, []⟩, 
  ⟨(some (16)), .move (.tmp 7), none, []⟩, 
  ⟨(some (17)), .bin .plain .sub (.tmp 16) (.const (.int .i64 1)), none, []⟩, 
  ⟨(some (18)), .indexAddr 9 (.tmp 15) (.tmp 17), none, []⟩, 
  ⟨(some (19)), .load (some (9)) (.tmp 18), none, []⟩, 
  ⟨(some (8)), .box (.const (.agg [.int .i64 0, .int .i64 0, .int .i64 0, .int .i64 0, .int .i64 0, .int .i64 0, .int .i64 0, .int .i64 0, .int .i64 0])), none, []⟩, 
  ⟨none, .store 9 (.tmp 8) (.tmp 19), none, []⟩]
def k_cathode_ratesAt_r3 : List AOper := [
  ⟨(some (20)), .fieldAddr 3 (.tmp 8), none, []⟩, 
  ⟨(some (21)), .fieldAddr 0 (.tmp 20), none, []⟩, 
  ⟨(some (22)), .load none (.tmp 21), none, []⟩, 
  ⟨(some (23)), .move (.tmp 2), none, []⟩, 
  ⟨(some (24)), .fieldAddr 2 (.tmp 3), none, []⟩, 
  ⟨(some (25)), .fieldAddr 0 (.tmp 24), none, []⟩, 
  ⟨(some (26)), .load none (.tmp 25), none, []⟩, 
  ⟨(some (27)), .bin .plain .mul (.tmp 23) (.tmp 26), none, []⟩, 
  ⟨(some (28)), .bin .plain .add (.tmp 22) (.tmp 27), none, []⟩, 
  ⟨(some (29)), .minmax false [.tmp 28, .const (.int .i64 1000000)], none, []⟩, 
  ⟨(some (30)), .fieldAddr 3 (.tmp 8), none, []⟩, 
  ⟨(some (31)), .fieldAddr 0 (.tmp 30), none, []⟩, 
  ⟨none, .store 1 (.tmp 31) (.tmp 29), none, []⟩]
def k_cathode_ratesAt_r4 : List AOper := [
  ⟨(some (32)), .fieldAddr 3 (.tmp 8), none, []⟩, 
  ⟨(some (33)), .fieldAddr 1 (.tmp 32), none, []⟩, 
  ⟨(some (34)), .load none (.tmp 33), none, []⟩, 
  ⟨(some (35)), .move (.tmp 2), none, []⟩, 
  ⟨(some (36)), .fieldAddr 2 (.tmp 3), none, []⟩, 
  ⟨(some (37)), .fieldAddr 1 (.tmp 36), none, []⟩, 
  ⟨(some (38)), .load none (.tmp 37), none, []⟩, 
  ⟨(some (39)), .bin .plain .mul (.tmp 35) (.tmp 38), none, []⟩, 
  ⟨(some (40)), .bin .plain .add (.tmp 34) (.tmp 39), none, []⟩, 
  ⟨(some (41)), .minmax false [.tmp 40, .const (.int .i64 1000000)], none, []⟩, 
  ⟨(some (42)), .fieldAddr 3 (.tmp 8), none, []⟩, 
  ⟨(some (43)), .fieldAddr 1 (.tmp 42), none, []⟩, 
  ⟨none, .store 1 (.tmp 43) (.tmp 41), none, []⟩]
def k_cathode_ratesAt_r5 : List AOper := [
  ⟨(some (44)), .load (some (9)) (.tmp 8), none, []⟩, 
  ⟨none, .store 9 (.tmp 6) (.tmp 44), none, []⟩]
def k_cathode_ratesAt : AFun := { params := 3, ntmps := 45, body := (.seq (.reg k_cathode_ratesAt_r0 false) (.seq (.reg k_cathode_ratesAt_r1 false) (.seq (.reg k_cathode_ratesAt_r2 false) (.seq (.reg k_cathode_ratesAt_r3 false) (.seq (.reg k_cathode_ratesAt_r4 false) (.seq (.reg k_cathode_ratesAt_r5 false) .ret)))))), res := [.cell 6 (some ((some (9))))] }
theorem k_cathode_ratesAt_ok : cfun Try.prog Try.f89 = k_cathode_ratesAt := by kernel_rfl

def k_cathode_checkDemand_r0 : List AOper := [
  ⟨(some (2)), .box (.tmp 0), none, []⟩, 
  ⟨(some (3)), .box (.tmp 1), none, []⟩, 
  ⟨(some (4)), .move (.const (.int .i64 0)), none, []⟩]
def k_cathode_checkDemand_r1 : List AOper := [
  ⟨(some (8)), .load (some (7)) (.tmp 2), none, []⟩, 
  ⟨(some (9)), .call (.const (.fn (.func 25) [] [])) [.tmp 8], none, []⟩, 
  ⟨(some (5)), .move (.tmp 9), none, []⟩]
def k_cathode_checkDemand_r2 : List AOper := [
  ⟨(some (10)), .move (.tmp 5), none, []⟩, 
  ⟨(some (11)), .bin .plain .neq (.tmp 10) (.const (.int .i64 0)), none, []⟩]
def k_cathode_checkDemand_r3 : List AOper := [
  ⟨(some (12)), .move (.tmp 5), none, []⟩, 
  ⟨(some (4)), .move (.tmp 12), none, []⟩]
def k_cathode_checkDemand_r4 : List AOper := [
  ⟨(some (13)), .fieldAddr 0 (.tmp 3), none, []⟩, 
  ⟨(some (14)), .load none (.tmp 13), none, []⟩, 
  ⟨(some (15)), .fieldAddr 1 (.tmp 3), none, []⟩, 
  ⟨(some (16)), .load none (.tmp 15), none, []⟩, 
  ⟨(some (17)), .fieldAddr 2 (.tmp 3), none, []⟩, 
  ⟨(some (18)), .load none (.tmp 17), none, []⟩, 
  ⟨(some (19)), .fieldAddr 3 (.tmp 3), none, []⟩, 
  ⟨(some (20)), .load none (.tmp 19), none, []⟩, 
  ⟨(some (21)), .fieldAddr 4 (.tmp 3), none, []⟩, 
  ⟨(some (22)), .load none (.tmp 21), none, []⟩, 
  ⟨(some (23)), .build [.int .i64 0, .int .i64 0, .int .i64 0, .int .i64 0, .int .i64 0] [(0, 1, .tmp 14), (1, 1, .tmp 16), (2, 1, .tmp 18), (3, 1, .tmp 20), (4, 1, .tmp 22)], none, []⟩, 
  ⟨(some (24)), .move (.const (.int .i64 0)), none, []⟩]
def k_cathode_checkDemand_r5 : List AOper := [
  ⟨(some (25)), .bin .plain .lss (.tmp 24) (.const (.int .i64 5)), none, []⟩]
def k_cathode_checkDemand_r6 : List AOper := [
  ⟨(some (26)), .indexAgg 5 1 false (.tmp 23) (.tmp 24), none, []⟩, 
  ⟨(some (7)), .move (.tmp 26), none, []⟩]
def k_cathode_checkDemand_r7 : List AOper := [
  ⟨(some (27)), .move (.tmp 7), none, []⟩, 
  ⟨(some (28)), .call (.const (.fn (.func 67) [] [])) [.tmp 27, .const (.int .i64 0), .const (.int .i64 1099511627776)], none, []⟩, 
  ⟨(some (29)), .not (.tmp 28), none, []⟩]
def k_cathode_checkDemand_r8 : List AOper := [
  ⟨(some (4)), .move (.const (.int .i64 2)), none, []⟩]
def k_cathode_checkDemand_r9 : List AOper := [
  ⟨(some (30)), .bin .plain .add (.tmp 24) (.const (.int .i64 1)), none, []⟩, 
  ⟨(some (24)), .move (.tmp 30), none, []⟩]
def k_cathode_checkDemand_r10 : ACode := (.seq (.reg k_cathode_checkDemand_r5 false) (.seq (.cond (.tmp 25) .skip (.exit 0)) (.seq (.block 1 (.seq (.reg k_cathode_checkDemand_r6 false) (.seq (.reg k_cathode_checkDemand_r7 false) (.cond (.tmp 29) (.seq (.reg k_cathode_checkDemand_r8 false) .ret) .skip)))) (.reg k_cathode_checkDemand_r9 false))))
def k_cathode_checkDemand_r11 : List AOper := [
  ⟨(some (4)), .move (.const (.int .i64 0)), none, []⟩]
def k_cathode_checkDemand : AFun := { params := 2, ntmps := 31, body := (.seq (.reg k_cathode_checkDemand_r0 false) (.seq (.seq (.reg k_cathode_checkDemand_r1 false) (.seq (.reg k_cathode_checkDemand_r2 false) (.cond (.tmp 11) (.seq (.reg k_cathode_checkDemand_r3 false) .ret) .skip))) (.seq (.seq (.reg k_cathode_checkDemand_r4 false) (.block 0 (.loop k_cathode_checkDemand_r10))) (.seq (.reg k_cathode_checkDemand_r11 false) .ret)))), res := [.tmp 4] }
theorem k_cathode_checkDemand_ok : cfun Try.prog Try.f93 = k_cathode_checkDemand := by kernel_rfl

def k_cathode_judge_r0 : List AOper := [
  ⟨(some (3)), .box (.tmp 0), none, []⟩, 
  ⟨(some (4)), .box (.tmp 1), none, []⟩, 
  ⟨(some (6)), .box (.const (.int .i64 0)), none, []⟩, 
  ⟨(some (7)), .box (.const (.int .i64 0)), none, []⟩]
def k_cathode_judge_r1 : List AOper := [
  ⟨(some (16)), .load (some (5)) (.tmp 4), none, []⟩, 
  ⟨(some (17)), .call (.const (.fn (.func 120) [] [])) [.tmp 16], none, []⟩, 
  ⟨(some (15)), .move (.tmp 17), none, []⟩, 
  ⟨(some (18)), .extract (.tmp 15) 0, none, []⟩, 
  ⟨(some (19)), .extract (.tmp 15) 1, none, []⟩, 
  ⟨(some (8)), .box (.const (.nilsl)), none, []⟩, 
  ⟨none, .store 1 (.tmp 8) (.tmp 18), none, []⟩, 
  ⟨(some (9)), .move (.tmp 19), none, []⟩]
def k_cathode_judge_r2 : List AOper := [
  ⟨none, .store 1 (.tmp 6) (.const (.int .i64 1)), none, []⟩]
def k_cathode_judge_r3 : List AOper := [
  ⟨(some (20)), .makeFunc (.func 121) [] [.tmp 6, .tmp 7], none, []⟩, 
  ⟨(some (10)), .box (.const (.nilfn)), none, []⟩, 
  ⟨none, .store 1 (.tmp 10) (.tmp 20), none, []⟩]
def k_cathode_judge_r4 : List AOper := [
  ⟨(some (21)), .load (some (7)) (.tmp 3), none, []⟩, 
  ⟨(some (22)), .call (.const (.fn (.func 78) [] [])) [.tmp 21], none, []⟩, 
  ⟨(some (11)), .box (.const (.agg [.int .i64 0, .int .i64 0, .int .i64 0, .int .i64 0, .int .i64 0, .int .i64 0, .int .i64 0, .int .i64 0, .int .i64 0, .int .i64 0, .int .i64 0, .int .i64 0, .int .i64 0])), none, []⟩, 
  ⟨(some (12)), .box (.const (.int .i64 0)), none, []⟩, 
  ⟨none, .store 13 (.tmp 11) (.tmp 22), none, []⟩, 
  ⟨none, .store 1 (.tmp 12) (.const (.int .i64 0)), none, []⟩]
def k_cathode_judge_r5 : List AOper := [
  ⟨(some (23)), .move (.tmp 2), none, []⟩, 
  ⟨(some (24)), .call (.const (.fn (.func 86) [] [])) [.tmp 23], none, []⟩]
def k_cathode_judge_r6 : List AOper := [
  ⟨(some (13)), .move (.tmp 25), none, []⟩]
def k_cathode_judge_r7 : List AOper := [
  ⟨(some (14)), .box (.const (.agg [.int .i64 0, .int .i64 0, .int .i64 0])), none, []⟩, 
  ⟨none, .store 3 (.tmp 14) (.tmp 26), none, []⟩]
def k_cathode_judge_r8 : List AOper := [
  ⟨(some (27)), .load (some (7)) (.tmp 3), none, []⟩, 
  ⟨(some (28)), .load (some (13)) (.tmp 11), none, []⟩, 
  ⟨(some (29)), .fieldAddr 1 (.tmp 14), none, []⟩, 
  ⟨(some (30)), .load none (.tmp 29), none, []⟩, 
  ⟨(some (31)), .fieldAddr 2 (.tmp 14), none, []⟩, 
  ⟨(some (32)), .load none (.tmp 31), none, []⟩, 
  ⟨(some (33)), .call (.const (.fn (.func 81) [] [])) [.tmp 27, .tmp 28, .tmp 30, .tmp 32], none, []⟩, 
  ⟨(some (34)), .move (.tmp 13), none, []⟩, 
  ⟨none, .store 13 (.tmp 11) (.tmp 33), none, []⟩, 
  ⟨none, .store 1 (.tmp 12) (.tmp 34), none, []⟩]
def k_cathode_judge_r9 : List AOper := [
  ⟨(some (35)), .load none (.tmp 10), none, []⟩, 
  ⟨(some (36)), .load none (.tmp 8), none, [0]⟩, 
  ⟨(some (37)), .load (some (13)) (.tmp 11), none, [0, 1]⟩, 
  ⟨(some (38)), .call (.const (.fn (.func 122) [] [])) [.tmp 36, .tmp 37], none, [0]⟩, 
  ⟨(some (39)), .load none (.tmp 12), none, [0, 1, 2, 3]⟩, 
  ⟨(some (40)), .call (.tmp 35) [.tmp 38, .tmp 39], none, []⟩]
def k_cathode_judge_r9s : List (List AOper) := [
  [
  ⟨(some (35)), .load none (.tmp 10), none, []⟩, 
  ⟨(some (36)), .load none (.tmp 8), none, [0]⟩, 
  ⟨(some (37)), .load (some (13)) (.tmp 11), none, [0, 1]⟩, 
  ⟨(some (38)), .call (.const (.fn (.func 122) [] [])) [.tmp 36, .tmp 37], none, [0]⟩, 
  ⟨(some (39)), .load none (.tmp 12), none, [0, 1, 2, 3]⟩], 
  [
  ⟨(some (40)), .call (.tmp 35) [.tmp 38, .tmp 39], none, []⟩]]
theorem k_cathode_judge_r9_sg : segs k_cathode_judge_r9 = k_cathode_judge_r9s := by kernel_rfl
theorem k_cathode_judge_r9_st : statOK k_cathode_judge_r9 = true := by kernel_rfl
def k_cathode_judge_r10 : List AOper := [
  ⟨(some (41)), .load none (.tmp 6), none, []⟩, 
  ⟨(some (42)), .load none (.tmp 7), none, [0]⟩, 
  ⟨none, .store 1 (.tmp 6) (.tmp 41), none, [1]⟩, 
  ⟨none, .store 1 (.tmp 7) (.tmp 42), none, []⟩]
def k_cathode_judge_r10s : List (List AOper) := [
  [
  ⟨(some (41)), .load none (.tmp 6), none, []⟩, 
  ⟨(some (42)), .load none (.tmp 7), none, [0]⟩, 
  ⟨none, .store 1 (.tmp 6) (.tmp 41), none, [1]⟩], 
  [
  ⟨none, .store 1 (.tmp 7) (.tmp 42), none, []⟩]]
theorem k_cathode_judge_r10_sg : segs k_cathode_judge_r10 = k_cathode_judge_r10s := by kernel_rfl
theorem k_cathode_judge_r10_st : statOK k_cathode_judge_r10 = true := by kernel_rfl
def k_cathode_judge_r11 : ACode := (.seq (.reg k_cathode_judge_r6 false) (.reg k_cathode_judge_r7 false))
def k_cathode_judge_r12 : ACode := (.block 1 (.seq (.reg k_cathode_judge_r8 false) (.seq (.reg k_cathode_judge_r9 true) (.cond (.tmp 40) (.seq (.reg k_cathode_judge_r10 true) .ret) .skip))))
def k_cathode_judge_r13 : List AOper := [
  ⟨(some (43)), .load none (.tmp 10), none, []⟩, 
  ⟨(some (44)), .move (.tmp 9), none, [0]⟩, 
  ⟨(some (45)), .load (some (13)) (.tmp 11), none, [0, 1]⟩, 
  ⟨(some (46)), .call (.const (.fn (.func 122) [] [])) [.tmp 44, .tmp 45], none, [0]⟩, 
  ⟨(some (47)), .load none (.tmp 12), none, [0, 1, 2, 3]⟩, 
  ⟨(some (48)), .call (.tmp 43) [.tmp 46, .tmp 47], none, []⟩]
def k_cathode_judge_r13s : List (List AOper) := [
  [
  ⟨(some (43)), .load none (.tmp 10), none, []⟩, 
  ⟨(some (44)), .move (.tmp 9), none, [0]⟩, 
  ⟨(some (45)), .load (some (13)) (.tmp 11), none, [0, 1]⟩, 
  ⟨(some (46)), .call (.const (.fn (.func 122) [] [])) [.tmp 44, .tmp 45], none, [0]⟩, 
  ⟨(some (47)), .load none (.tmp 12), none, [0, 1, 2, 3]⟩], 
  [
  ⟨(some (48)), .call (.tmp 43) [.tmp 46, .tmp 47], none, []⟩]]
theorem k_cathode_judge_r13_sg : segs k_cathode_judge_r13 = k_cathode_judge_r13s := by kernel_rfl
theorem k_cathode_judge_r13_st : statOK k_cathode_judge_r13 = true := by kernel_rfl
def k_cathode_judge_r14 : List AOper := [
  ⟨(some (49)), .load none (.tmp 6), none, []⟩, 
  ⟨(some (50)), .load none (.tmp 7), none, [0]⟩, 
  ⟨none, .store 1 (.tmp 6) (.tmp 49), none, [1]⟩, 
  ⟨none, .store 1 (.tmp 7) (.tmp 50), none, []⟩]
def k_cathode_judge_r14s : List (List AOper) := [
  [
  ⟨(some (49)), .load none (.tmp 6), none, []⟩, 
  ⟨(some (50)), .load none (.tmp 7), none, [0]⟩, 
  ⟨none, .store 1 (.tmp 6) (.tmp 49), none, [1]⟩], 
  [
  ⟨none, .store 1 (.tmp 7) (.tmp 50), none, []⟩]]
theorem k_cathode_judge_r14_sg : segs k_cathode_judge_r14 = k_cathode_judge_r14s := by kernel_rfl
theorem k_cathode_judge_r14_st : statOK k_cathode_judge_r14 = true := by kernel_rfl
def k_cathode_judge : AFun := { params := 3, ntmps := 51, body := (.seq (.reg k_cathode_judge_r0 false) (.seq (.reg k_cathode_judge_r1 false) (.seq (.reg k_cathode_judge_r2 false) (.seq (.reg k_cathode_judge_r3 false) (.seq (.reg k_cathode_judge_r4 false) (.seq (.seq (.reg k_cathode_judge_r5 false) (.block 0 (.rng (.tmp 24) [25, 26] k_cathode_judge_r11 k_cathode_judge_r12))) (.seq (.reg k_cathode_judge_r13 true) (.seq (.reg k_cathode_judge_r14 true) .ret)))))))), res := [.cell 6 (some (none)), .cell 7 (some (none))] }
theorem k_cathode_judge_ok : cfun Try.prog Try.f94 = k_cathode_judge := by kernel_rfl

def k_cathode_parts_r0 : List AOper := [
  ⟨(some (2)), .box (.tmp 0), none, []⟩, 
  ⟨(some (3)), .box (.tmp 1), none, []⟩, 
  ⟨(some (4)), .box (.const (.agg [.int .i64 0, .int .i64 0])), none, []⟩]
def k_cathode_parts_r1 : List AOper := [
  ⟨(some (5)), .fieldAddr 0 (.tmp 2), none, []⟩, 
  ⟨(some (6)), .load none (.tmp 5), none, []⟩, 
  ⟨(some (7)), .fieldAddr 0 (.tmp 3), none, [0, 1]⟩, 
  ⟨(some (8)), .load none (.tmp 7), none, [0, 1]⟩, 
  ⟨(some (9)), .call (.const (.fn (.func 128) [] [])) [.tmp 6, .tmp 8], none, []⟩, 
  ⟨(some (10)), .fieldAddr 1 (.tmp 2), none, [0, 1, 2, 3, 4]⟩, 
  ⟨(some (11)), .load none (.tmp 10), none, [0, 1, 2, 3, 4]⟩, 
  ⟨(some (12)), .fieldAddr 1 (.tmp 3), none, [0, 1, 2, 3, 4, 5, 6]⟩, 
  ⟨(some (13)), .load none (.tmp 12), none, [0, 1, 2, 3, 4, 5, 6]⟩, 
  ⟨(some (14)), .call (.const (.fn (.func 129) [] [])) [.tmp 11, .tmp 13], none, []⟩, 
  ⟨(some (15)), .build [.int .i64 0, .int .i64 0] [(0, 1, .tmp 9), (1, 1, .tmp 14)], none, []⟩, 
  ⟨none, .store 2 (.tmp 4) (.tmp 15), none, []⟩]
def k_cathode_parts_r1s : List (List AOper) := [
  [
  ⟨(some (5)), .fieldAddr 0 (.tmp 2), none, []⟩, 
  ⟨(some (6)), .load none (.tmp 5), none, []⟩, 
  ⟨(some (7)), .fieldAddr 0 (.tmp 3), none, [0, 1]⟩, 
  ⟨(some (8)), .load none (.tmp 7), none, [0, 1]⟩, 
  ⟨(some (9)), .call (.const (.fn (.func 128) [] [])) [.tmp 6, .tmp 8], none, []⟩, 
  ⟨(some (10)), .fieldAddr 1 (.tmp 2), none, [0, 1, 2, 3, 4]⟩, 
  ⟨(some (11)), .load none (.tmp 10), none, [0, 1, 2, 3, 4]⟩, 
  ⟨(some (12)), .fieldAddr 1 (.tmp 3), none, [0, 1, 2, 3, 4, 5, 6]⟩, 
  ⟨(some (13)), .load none (.tmp 12), none, [0, 1, 2, 3, 4, 5, 6]⟩], 
  [
  ⟨(some (14)), .call (.const (.fn (.func 129) [] [])) [.tmp 11, .tmp 13], none, []⟩], 
  [
  ⟨(some (15)), .build [.int .i64 0, .int .i64 0] [(0, 1, .tmp 9), (1, 1, .tmp 14)], none, []⟩], 
  [
  ⟨none, .store 2 (.tmp 4) (.tmp 15), none, []⟩]]
theorem k_cathode_parts_r1_sg : segs k_cathode_parts_r1 = k_cathode_parts_r1s := by kernel_rfl
theorem k_cathode_parts_r1_st : statOK k_cathode_parts_r1 = true := by kernel_rfl
def k_cathode_parts : AFun := { params := 2, ntmps := 16, body := (.seq (.reg k_cathode_parts_r0 false) (.seq (.reg k_cathode_parts_r1 true) .ret)), res := [.cell 4 (some ((some (2))))] }
theorem k_cathode_parts_ok : cfun Try.prog Try.f103 = k_cathode_parts := by kernel_rfl

def k_kit_Dice_Range_r0 : List AOper := [
  ⟨(some (6)), .box (.const (.agg [.int .i64 0, .int .i64 0])), none, []⟩]
def k_kit_Dice_Range_r1 : List AOper := [
  ⟨(some (9)), .move (.tmp 0), none, []⟩, 
  ⟨(some (10)), .move (.tmp 1), none, []⟩, 
  ⟨(some (11)), .move (.tmp 2), none, []⟩, 
  ⟨(some (12)), .call (.const (.fn (.func 64) [] [])) [.tmp 9, .tmp 10, .tmp 11], none, []⟩, 
  ⟨(some (13)), .move (.tmp 0), none, []⟩, 
  ⟨(some (14)), .move (.tmp 1), none, []⟩, 
  ⟨(some (15)), .move (.tmp 2), none, []⟩, 
  ⟨(some (16)), .call (.const (.fn (.func 64) [] [])) [.tmp 13, .tmp 14, .tmp 15], none, []⟩, 
  ⟨(some (7)), .move (.tmp 12), none, []⟩, 
  ⟨(some (8)), .move (.tmp 16), none, []⟩]
def k_kit_Dice_Range_r2 : List AOper := [
  ⟨(some (17)), .move (.tmp 7), none, []⟩, 
  ⟨(some (18)), .move (.tmp 8), none, []⟩, 
  ⟨(some (19)), .minmax false [.tmp 17, .tmp 18], none, []⟩, 
  ⟨(some (20)), .move (.tmp 7), none, []⟩, 
  ⟨(some (21)), .move (.tmp 8), none, []⟩, 
  ⟨(some (22)), .minmax true [.tmp 20, .tmp 21], none, []⟩, 
  ⟨(some (23)), .build [.int .i64 0, .int .i64 0] [(0, 1, .tmp 19), (1, 1, .tmp 22)], none, []⟩, 
  ⟨none, .store 2 (.tmp 6) (.tmp 23), none, []⟩]
def k_kit_Dice_Range : AFun := { params := 3, ntmps := 24, body := (.seq (.reg k_kit_Dice_Range_r0 false) (.seq (.reg k_kit_Dice_Range_r1 false) (.seq (.reg k_kit_Dice_Range_r2 false) .ret))), res := [.cell 6 (some ((some (2))))] }
theorem k_kit_Dice_Range_ok : cfun Try.prog Try.f104 = k_kit_Dice_Range := by kernel_rfl

def k_cathode_tick_gas_r0 : List AOper := [
  ⟨(some (2)), .move (.tmp 0), none, []⟩, 
  ⟨(some (3)), .move (.tmp 0), none, [0]⟩, 
  ⟨(some (4)), .nilCheck (.tmp 3), none, [0]⟩, 
  ⟨(some (5)), .fieldAddr 9 (.tmp 4), none, [0]⟩, 
  ⟨(some (6)), .fieldAddr 0 (.tmp 5), none, [0]⟩, 
  ⟨(some (7)), .load (some (2)) (.tmp 6), none, [0]⟩, 
  ⟨(some (8)), .move (.tmp 0), none, [0, 1, 2, 3, 4, 5]⟩, 
  ⟨(some (9)), .nilCheck (.tmp 8), none, [0, 1, 2, 3, 4, 5]⟩, 
  ⟨(some (10)), .fieldAddr 0 (.tmp 9), none, [0, 1, 2, 3, 4, 5]⟩, 
  ⟨(some (11)), .fieldAddr 1 (.tmp 10), none, [0, 1, 2, 3, 4, 5]⟩, 
  ⟨(some (12)), .load (some (2)) (.tmp 11), none, [0, 1, 2, 3, 4, 5]⟩, 
  ⟨(some (13)), .call (.const (.fn (.func 103) [] [])) [.tmp 7, .tmp 12], none, [0]⟩, 
  ⟨(some (14)), .nilCheck (.tmp 2), none, []⟩, 
  ⟨(some (15)), .fieldAddr 22 (.tmp 14), none, []⟩, 
  ⟨(some (16)), .fieldAddr 8 (.tmp 15), none, []⟩, 
  ⟨none, .store 2 (.tmp 16) (.tmp 13), none, []⟩]
def k_cathode_tick_gas_r0s : List (List AOper) := [
  [
  ⟨(some (2)), .move (.tmp 0), none, []⟩, 
  ⟨(some (3)), .move (.tmp 0), none, [0]⟩, 
  ⟨(some (4)), .nilCheck (.tmp 3), none, [0]⟩, 
  ⟨(some (5)), .fieldAddr 9 (.tmp 4), none, [0]⟩, 
  ⟨(some (6)), .fieldAddr 0 (.tmp 5), none, [0]⟩, 
  ⟨(some (7)), .load (some (2)) (.tmp 6), none, [0]⟩, 
  ⟨(some (8)), .move (.tmp 0), none, [0, 1, 2, 3, 4, 5]⟩, 
  ⟨(some (9)), .nilCheck (.tmp 8), none, [0, 1, 2, 3, 4, 5]⟩, 
  ⟨(some (10)), .fieldAddr 0 (.tmp 9), none, [0, 1, 2, 3, 4, 5]⟩, 
  ⟨(some (11)), .fieldAddr 1 (.tmp 10), none, [0, 1, 2, 3, 4, 5]⟩, 
  ⟨(some (12)), .load (some (2)) (.tmp 11), none, [0, 1, 2, 3, 4, 5]⟩, 
  ⟨(some (13)), .call (.const (.fn (.func 103) [] [])) [.tmp 7, .tmp 12], none, [0]⟩], 
  [
  ⟨(some (14)), .nilCheck (.tmp 2), none, []⟩], 
  [
  ⟨(some (15)), .fieldAddr 22 (.tmp 14), none, []⟩], 
  [
  ⟨(some (16)), .fieldAddr 8 (.tmp 15), none, []⟩], 
  [
  ⟨none, .store 2 (.tmp 16) (.tmp 13), none, []⟩]]
theorem k_cathode_tick_gas_r0_sg : segs k_cathode_tick_gas_r0 = k_cathode_tick_gas_r0s := by kernel_rfl
theorem k_cathode_tick_gas_r0_st : statOK k_cathode_tick_gas_r0 = true := by kernel_rfl
def k_cathode_tick_gas : AFun := { params := 1, ntmps := 17, body := (.reg k_cathode_tick_gas_r0 true), res := [] }
theorem k_cathode_tick_gas_ok : cfun Try.prog Try.f105 = k_cathode_tick_gas := by kernel_rfl

def k_cathode_tick_carbonate_r0 : List AOper := [
  ⟨(some (2)), .move (.tmp 0), none, []⟩, 
  ⟨(some (3)), .move (.tmp 0), none, [0]⟩, 
  ⟨(some (4)), .nilCheck (.tmp 3), none, [0]⟩, 
  ⟨(some (5)), .fieldAddr 9 (.tmp 4), none, [0]⟩, 
  ⟨(some (6)), .fieldAddr 0 (.tmp 5), none, [0]⟩, 
  ⟨(some (7)), .load (some (2)) (.tmp 6), none, [0]⟩, 
  ⟨(some (8)), .move (.tmp 0), none, [0, 1, 2, 3, 4, 5]⟩, 
  ⟨(some (9)), .nilCheck (.tmp 8), none, [0, 1, 2, 3, 4, 5]⟩, 
  ⟨(some (10)), .fieldAddr 0 (.tmp 9), none, [0, 1, 2, 3, 4, 5]⟩, 
  ⟨(some (11)), .fieldAddr 1 (.tmp 10), none, [0, 1, 2, 3, 4, 5]⟩, 
  ⟨(some (12)), .load (some (2)) (.tmp 11), none, [0, 1, 2, 3, 4, 5]⟩, 
  ⟨(some (13)), .call (.const (.fn (.func 115) [] [])) [.tmp 7, .tmp 12], none, [0]⟩, 
  ⟨(some (14)), .nilCheck (.tmp 2), none, []⟩, 
  ⟨(some (15)), .fieldAddr 22 (.tmp 14), none, []⟩, 
  ⟨(some (16)), .fieldAddr 0 (.tmp 15), none, []⟩, 
  ⟨none, .store 2 (.tmp 16) (.tmp 13), none, []⟩]
def k_cathode_tick_carbonate_r0s : List (List AOper) := [
  [
  ⟨(some (2)), .move (.tmp 0), none, []⟩, 
  ⟨(some (3)), .move (.tmp 0), none, [0]⟩, 
  ⟨(some (4)), .nilCheck (.tmp 3), none, [0]⟩, 
  ⟨(some (5)), .fieldAddr 9 (.tmp 4), none, [0]⟩, 
  ⟨(some (6)), .fieldAddr 0 (.tmp 5), none, [0]⟩, 
  ⟨(some (7)), .load (some (2)) (.tmp 6), none, [0]⟩, 
  ⟨(some (8)), .move (.tmp 0), none, [0, 1, 2, 3, 4, 5]⟩, 
  ⟨(some (9)), .nilCheck (.tmp 8), none, [0, 1, 2, 3, 4, 5]⟩, 
  ⟨(some (10)), .fieldAddr 0 (.tmp 9), none, [0, 1, 2, 3, 4, 5]⟩, 
  ⟨(some (11)), .fieldAddr 1 (.tmp 10), none, [0, 1, 2, 3, 4, 5]⟩, 
  ⟨(some (12)), .load (some (2)) (.tmp 11), none, [0, 1, 2, 3, 4, 5]⟩, 
  ⟨(some (13)), .call (.const (.fn (.func 115) [] [])) [.tmp 7, .tmp 12], none, [0]⟩], 
  [
  ⟨(some (14)), .nilCheck (.tmp 2), none, []⟩], 
  [
  ⟨(some (15)), .fieldAddr 22 (.tmp 14), none, []⟩], 
  [
  ⟨(some (16)), .fieldAddr 0 (.tmp 15), none, []⟩], 
  [
  ⟨none, .store 2 (.tmp 16) (.tmp 13), none, []⟩]]
theorem k_cathode_tick_carbonate_r0_sg : segs k_cathode_tick_carbonate_r0 = k_cathode_tick_carbonate_r0s := by kernel_rfl
theorem k_cathode_tick_carbonate_r0_st : statOK k_cathode_tick_carbonate_r0 = true := by kernel_rfl
def k_cathode_tick_carbonate : AFun := { params := 1, ntmps := 17, body := (.reg k_cathode_tick_carbonate_r0 true), res := [] }
theorem k_cathode_tick_carbonate_ok : cfun Try.prog Try.f106 = k_cathode_tick_carbonate := by kernel_rfl

def k_cathode_tick_oxide_r0 : List AOper := [
  ⟨(some (2)), .move (.tmp 0), none, []⟩, 
  ⟨(some (3)), .move (.tmp 0), none, [0]⟩, 
  ⟨(some (4)), .nilCheck (.tmp 3), none, [0]⟩, 
  ⟨(some (5)), .fieldAddr 9 (.tmp 4), none, [0]⟩, 
  ⟨(some (6)), .fieldAddr 2 (.tmp 5), none, [0]⟩, 
  ⟨(some (7)), .load (some (2)) (.tmp 6), none, [0]⟩, 
  ⟨(some (8)), .move (.tmp 0), none, [0, 1, 2, 3, 4, 5]⟩, 
  ⟨(some (9)), .nilCheck (.tmp 8), none, [0, 1, 2, 3, 4, 5]⟩, 
  ⟨(some (10)), .fieldAddr 0 (.tmp 9), none, [0, 1, 2, 3, 4, 5]⟩, 
  ⟨(some (11)), .fieldAddr 3 (.tmp 10), none, [0, 1, 2, 3, 4, 5]⟩, 
  ⟨(some (12)), .load (some (2)) (.tmp 11), none, [0, 1, 2, 3, 4, 5]⟩, 
  ⟨(some (13)), .call (.const (.fn (.func 115) [] [])) [.tmp 7, .tmp 12], none, [0]⟩, 
  ⟨(some (14)), .move (.tmp 0), none, [0, 1, 2, 3, 4, 5, 6, 7, 8, 9, 10, 11]⟩, 
  ⟨(some (15)), .nilCheck (.tmp 14), none, [0, 1, 2, 3, 4, 5, 6, 7, 8, 9, 10, 11]⟩, 
  ⟨(some (16)), .fieldAddr 22 (.tmp 15), none, [0, 1, 2, 3, 4, 5, 6, 7, 8, 9, 10, 11]⟩, 
  ⟨(some (17)), .fieldAddr 8 (.tmp 16), none, [0, 1, 2, 3, 4, 5, 6, 7, 8, 9, 10, 11]⟩, 
  ⟨(some (18)), .load (some (2)) (.tmp 17), none, [0, 1, 2, 3, 4, 5, 6, 7, 8, 9, 10, 11]⟩, 
  ⟨(some (19)), .call (.const (.fn (.func 117) [] [])) [.tmp 13, .tmp 18], none, [0]⟩, 
  ⟨(some (20)), .nilCheck (.tmp 2), none, []⟩, 
  ⟨(some (21)), .fieldAddr 22 (.tmp 20), none, []⟩, 
  ⟨(some (22)), .fieldAddr 2 (.tmp 21), none, []⟩, 
  ⟨none, .store 2 (.tmp 22) (.tmp 19), none, []⟩]
def k_cathode_tick_oxide_r0s : List (List AOper) := [
  [
  ⟨(some (2)), .move (.tmp 0), none, []⟩, 
  ⟨(some (3)), .move (.tmp 0), none, [0]⟩, 
  ⟨(some (4)), .nilCheck (.tmp 3), none, [0]⟩, 
  ⟨(some (5)), .fieldAddr 9 (.tmp 4), none, [0]⟩, 
  ⟨(some (6)), .fieldAddr 2 (.tmp 5), none, [0]⟩, 
  ⟨(some (7)), .load (some (2)) (.tmp 6), none, [0]⟩, 
  ⟨(some (8)), .move (.tmp 0), none, [0, 1, 2, 3, 4, 5]⟩, 
  ⟨(some (9)), .nilCheck (.tmp 8), none, [0, 1, 2, 3, 4, 5]⟩, 
  ⟨(some (10)), .fieldAddr 0 (.tmp 9), none, [0, 1, 2, 3, 4, 5]⟩, 
  ⟨(some (11)), .fieldAddr 3 (.tmp 10), none, [0, 1, 2, 3, 4, 5]⟩, 
  ⟨(some (12)), .load (some (2)) (.tmp 11), none, [0, 1, 2, 3, 4, 5]⟩, 
  ⟨(some (13)), .call (.const (.fn (.func 115) [] [])) [.tmp 7, .tmp 12], none, [0]⟩, 
  ⟨(some (14)), .move (.tmp 0), none, [0, 1, 2, 3, 4, 5, 6, 7, 8, 9, 10, 11]⟩, 
  ⟨(some (15)), .nilCheck (.tmp 14), none, [0, 1, 2, 3, 4, 5, 6, 7, 8, 9, 10, 11]⟩, 
  ⟨(some (16)), .fieldAddr 22 (.tmp 15), none, [0, 1, 2, 3, 4, 5, 6, 7, 8, 9, 10, 11]⟩, 
  ⟨(some (17)), .fieldAddr 8 (.tmp 16), none, [0, 1, 2, 3, 4, 5, 6, 7, 8, 9, 10, 11]⟩, 
  ⟨(some (18)), .load (some (2)) (.tmp 17), none, [0, 1, 2, 3, 4, 5, 6, 7, 8, 9, 10, 11]⟩, 
  ⟨(some (19)), .call (.const (.fn (.func 117) [] [])) [.tmp 13, .tmp 18], none, [0]⟩], 
  [
  ⟨(some (20)), .nilCheck (.tmp 2), none, []⟩], 
  [
  ⟨(some (21)), .fieldAddr 22 (.tmp 20), none, []⟩], 
  [
  ⟨(some (22)), .fieldAddr 2 (.tmp 21), none, []⟩], 
  [
  ⟨none, .store 2 (.tmp 22) (.tmp 19), none, []⟩]]
theorem k_cathode_tick_oxide_r0_sg : segs k_cathode_tick_oxide_r0 = k_cathode_tick_oxide_r0s := by kernel_rfl
theorem k_cathode_tick_oxide_r0_st : statOK k_cathode_tick_oxide_r0 = true := by kernel_rfl
def k_cathode_tick_oxide : AFun := { params := 1, ntmps := 23, body := (.reg k_cathode_tick_oxide_r0 true), res := [] }
theorem k_cathode_tick_oxide_ok : cfun Try.prog Try.f107 = k_cathode_tick_oxide := by kernel_rfl

def k_cathode_tick_barium_r0 : List AOper := [
  ⟨(some (2)), .move (.tmp 0), none, []⟩, 
  ⟨(some (3)), .move (.tmp 0), none, [0]⟩, 
  ⟨(some (4)), .nilCheck (.tmp 3), none, [0]⟩, 
  ⟨(some (5)), .fieldAddr 9 (.tmp 4), none, [0]⟩, 
  ⟨(some (6)), .fieldAddr 4 (.tmp 5), none, [0]⟩, 
  ⟨(some (7)), .load (some (2)) (.tmp 6), none, [0]⟩, 
  ⟨(some (8)), .move (.tmp 0), none, [0, 1, 2, 3, 4, 5]⟩, 
  ⟨(some (9)), .nilCheck (.tmp 8), none, [0, 1, 2, 3, 4, 5]⟩, 
  ⟨(some (10)), .fieldAddr 0 (.tmp 9), none, [0, 1, 2, 3, 4, 5]⟩, 
  ⟨(some (11)), .fieldAddr 5 (.tmp 10), none, [0, 1, 2, 3, 4, 5]⟩, 
  ⟨(some (12)), .load (some (2)) (.tmp 11), none, [0, 1, 2, 3, 4, 5]⟩, 
  ⟨(some (13)), .call (.const (.fn (.func 115) [] [])) [.tmp 7, .tmp 12], none, [0]⟩, 
  ⟨(some (14)), .move (.tmp 0), none, [0, 1, 2, 3, 4, 5, 6, 7, 8, 9, 10, 11]⟩, 
  ⟨(some (15)), .nilCheck (.tmp 14), none, [0, 1, 2, 3, 4, 5, 6, 7, 8, 9, 10, 11]⟩, 
  ⟨(some (16)), .fieldAddr 9 (.tmp 15), none, [0, 1, 2, 3, 4, 5, 6, 7, 8, 9, 10, 11]⟩, 
  ⟨(some (17)), .fieldAddr 2 (.tmp 16), none, [0, 1, 2, 3, 4, 5, 6, 7, 8, 9, 10, 11]⟩, 
  ⟨(some (18)), .load (some (2)) (.tmp 17), none, [0, 1, 2, 3, 4, 5, 6, 7, 8, 9, 10, 11]⟩, 
  ⟨(some (19)), .move (.tmp 0), none, [0, 1, 2, 3, 4, 5, 6, 7, 8, 9, 10, 11, 12, 13, 14, 15, 16]⟩, 
  ⟨(some (20)), .nilCheck (.tmp 19), none, [0, 1, 2, 3, 4, 5, 6, 7, 8, 9, 10, 11, 12, 13, 14, 15, 16]⟩, 
  ⟨(some (21)), .fieldAddr 0 (.tmp 20), none, [0, 1, 2, 3, 4, 5, 6, 7, 8, 9, 10, 11, 12, 13, 14, 15, 16]⟩, 
  ⟨(some (22)), .fieldAddr 3 (.tmp 21), none, [0, 1, 2, 3, 4, 5, 6, 7, 8, 9, 10, 11, 12, 13, 14, 15, 16]⟩, 
  ⟨(some (23)), .load (some (2)) (.tmp 22), none, [0, 1, 2, 3, 4, 5, 6, 7, 8, 9, 10, 11, 12, 13, 14, 15, 16]⟩, 
  ⟨(some (24)), .call (.const (.fn (.func 103) [] [])) [.tmp 18, .tmp 23], none, [0]⟩, 
  ⟨(some (25)), .call (.const (.fn (.func 117) [] [])) [.tmp 13, .tmp 24], none, [0]⟩, 
  ⟨(some (26)), .nilCheck (.tmp 2), none, []⟩, 
  ⟨(some (27)), .fieldAddr 22 (.tmp 26), none, []⟩, 
  ⟨(some (28)), .fieldAddr 4 (.tmp 27), none, []⟩, 
  ⟨none, .store 2 (.tmp 28) (.tmp 25), none, []⟩]
def k_cathode_tick_barium_r0s : List (List AOper) := [
  [
  ⟨(some (2)), .move (.tmp 0), none, []⟩, 
  ⟨(some (3)), .move (.tmp 0), none, [0]⟩, 
  ⟨(some (4)), .nilCheck (.tmp 3), none, [0]⟩, 
  ⟨(some (5)), .fieldAddr 9 (.tmp 4), none, [0]⟩, 
  ⟨(some (6)), .fieldAddr 4 (.tmp 5), none, [0]⟩, 
  ⟨(some (7)), .load (some (2)) (.tmp 6), none, [0]⟩, 
  ⟨(some (8)), .move (.tmp 0), none, [0, 1, 2, 3, 4, 5]⟩, 
  ⟨(some (9)), .nilCheck (.tmp 8), none, [0, 1, 2, 3, 4, 5]⟩, 
  ⟨(some (10)), .fieldAddr 0 (.tmp 9), none, [0, 1, 2, 3, 4, 5]⟩, 
  ⟨(some (11)), .fieldAddr 5 (.tmp 10), none, [0, 1, 2, 3, 4, 5]⟩, 
  ⟨(some (12)), .load (some (2)) (.tmp 11), none, [0, 1, 2, 3, 4, 5]⟩, 
  ⟨(some (13)), .call (.const (.fn (.func 115) [] [])) [.tmp 7, .tmp 12], none, [0]⟩, 
  ⟨(some (14)), .move (.tmp 0), none, [0, 1, 2, 3, 4, 5, 6, 7, 8, 9, 10, 11]⟩, 
  ⟨(some (15)), .nilCheck (.tmp 14), none, [0, 1, 2, 3, 4, 5, 6, 7, 8, 9, 10, 11]⟩, 
  ⟨(some (16)), .fieldAddr 9 (.tmp 15), none, [0, 1, 2, 3, 4, 5, 6, 7, 8, 9, 10, 11]⟩, 
  ⟨(some (17)), .fieldAddr 2 (.tmp 16), none, [0, 1, 2, 3, 4, 5, 6, 7, 8, 9, 10, 11]⟩, 
  ⟨(some (18)), .load (some (2)) (.tmp 17), none, [0, 1, 2, 3, 4, 5, 6, 7, 8, 9, 10, 11]⟩, 
  ⟨(some (19)), .move (.tmp 0), none, [0, 1, 2, 3, 4, 5, 6, 7, 8, 9, 10, 11, 12, 13, 14, 15, 16]⟩, 
  ⟨(some (20)), .nilCheck (.tmp 19), none, [0, 1, 2, 3, 4, 5, 6, 7, 8, 9, 10, 11, 12, 13, 14, 15, 16]⟩, 
  ⟨(some (21)), .fieldAddr 0 (.tmp 20), none, [0, 1, 2, 3, 4, 5, 6, 7, 8, 9, 10, 11, 12, 13, 14, 15, 16]⟩, 
  ⟨(some (22)), .fieldAddr 3 (.tmp 21), none, [0, 1, 2, 3, 4, 5, 6, 7, 8, 9, 10, 11, 12, 13, 14, 15, 16]⟩, 
  ⟨(some (23)), .load (some (2)) (.tmp 22), none, [0, 1, 2, 3, 4, 5, 6, 7, 8, 9, 10, 11, 12, 13, 14, 15, 16]⟩, 
  ⟨(some (24)), .call (.const (.fn (.func 103) [] [])) [.tmp 18, .tmp 23], none, [0]⟩, 
  ⟨(some (25)), .call (.const (.fn (.func 117) [] [])) [.tmp 13, .tmp 24], none, [0]⟩], 
  [
  ⟨(some (26)), .nilCheck (.tmp 2), none, []⟩], 
  [
  ⟨(some (27)), .fieldAddr 22 (.tmp 26), none, []⟩], 
  [
  ⟨(some (28)), .fieldAddr 4 (.tmp 27), none, []⟩], 
  [
  ⟨none, .store 2 (.tmp 28) (.tmp 25), none, []⟩]]
theorem k_cathode_tick_barium_r0_sg : segs k_cathode_tick_barium_r0 = k_cathode_tick_barium_r0s := by kernel_rfl
theorem k_cathode_tick_barium_r0_st : statOK k_cathode_tick_barium_r0 = true := by kernel_rfl
def k_cathode_tick_barium : AFun := { params := 1, ntmps := 29, body := (.reg k_cathode_tick_barium_r0 true), res := [] }
theorem k_cathode_tick_barium_ok : cfun Try.prog Try.f108 = k_cathode_tick_barium := by kernel_rfl

def k_cathode_tick_lost_r0 : List AOper := [
  ⟨(some (2)), .move (.tmp 0), none, []⟩, 
  ⟨(some (3)), .move (.tmp 0), none, [0]⟩, 
  ⟨(some (4)), .nilCheck (.tmp 3), none, [0]⟩, 
  ⟨(some (5)), .fieldAddr 9 (.tmp 4), none, [0]⟩, 
  ⟨(some (6)), .fieldAddr 6 (.tmp 5), none, [0]⟩, 
  ⟨(some (7)), .load (some (2)) (.tmp 6), none, [0]⟩, 
  ⟨(some (8)), .move (.tmp 0), none, [0, 1, 2, 3, 4, 5]⟩, 
  ⟨(some (9)), .nilCheck (.tmp 8), none, [0, 1, 2, 3, 4, 5]⟩, 
  ⟨(some (10)), .fieldAddr 9 (.tmp 9), none, [0, 1, 2, 3, 4, 5]⟩, 
  ⟨(some (11)), .fieldAddr 4 (.tmp 10), none, [0, 1, 2, 3, 4, 5]⟩, 
  ⟨(some (12)), .load (some (2)) (.tmp 11), none, [0, 1, 2, 3, 4, 5]⟩, 
  ⟨(some (13)), .move (.tmp 0), none, [0, 1, 2, 3, 4, 5, 6, 7, 8, 9, 10]⟩, 
  ⟨(some (14)), .nilCheck (.tmp 13), none, [0, 1, 2, 3, 4, 5, 6, 7, 8, 9, 10]⟩, 
  ⟨(some (15)), .fieldAddr 0 (.tmp 14), none, [0, 1, 2, 3, 4, 5, 6, 7, 8, 9, 10]⟩, 
  ⟨(some (16)), .fieldAddr 5 (.tmp 15), none, [0, 1, 2, 3, 4, 5, 6, 7, 8, 9, 10]⟩, 
  ⟨(some (17)), .load (some (2)) (.tmp 16), none, [0, 1, 2, 3, 4, 5, 6, 7, 8, 9, 10]⟩, 
  ⟨(some (18)), .call (.const (.fn (.func 103) [] [])) [.tmp 12, .tmp 17], none, [0, 1, 2, 3, 4, 5]⟩, 
  ⟨(some (19)), .call (.const (.fn (.func 117) [] [])) [.tmp 7, .tmp 18], none, [0]⟩, 
  ⟨(some (20)), .nilCheck (.tmp 2), none, []⟩, 
  ⟨(some (21)), .fieldAddr 22 (.tmp 20), none, []⟩, 
  ⟨(some (22)), .fieldAddr 6 (.tmp 21), none, []⟩, 
  ⟨none, .store 2 (.tmp 22) (.tmp 19), none, []⟩]
def k_cathode_tick_lost_r0s : List (List AOper) := [
  [
  ⟨(some (2)), .move (.tmp 0), none, []⟩, 
  ⟨(some (3)), .move (.tmp 0), none, [0]⟩, 
  ⟨(some (4)), .nilCheck (.tmp 3), none, [0]⟩, 
  ⟨(some (5)), .fieldAddr 9 (.tmp 4), none, [0]⟩, 
  ⟨(some (6)), .fieldAddr 6 (.tmp 5), none, [0]⟩, 
  ⟨(some (7)), .load (some (2)) (.tmp 6), none, [0]⟩, 
  ⟨(some (8)), .move (.tmp 0), none, [0, 1, 2, 3, 4, 5]⟩, 
  ⟨(some (9)), .nilCheck (.tmp 8), none, [0, 1, 2, 3, 4, 5]⟩, 
  ⟨(some (10)), .fieldAddr 9 (.tmp 9), none, [0, 1, 2, 3, 4, 5]⟩, 
  ⟨(some (11)), .fieldAddr 4 (.tmp 10), none, [0, 1, 2, 3, 4, 5]⟩, 
  ⟨(some (12)), .load (some (2)) (.tmp 11), none, [0, 1, 2, 3, 4, 5]⟩, 
  ⟨(some (13)), .move (.tmp 0), none, [0, 1, 2, 3, 4, 5, 6, 7, 8, 9, 10]⟩, 
  ⟨(some (14)), .nilCheck (.tmp 13), none, [0, 1, 2, 3, 4, 5, 6, 7, 8, 9, 10]⟩, 
  ⟨(some (15)), .fieldAddr 0 (.tmp 14), none, [0, 1, 2, 3, 4, 5, 6, 7, 8, 9, 10]⟩, 
  ⟨(some (16)), .fieldAddr 5 (.tmp 15), none, [0, 1, 2, 3, 4, 5, 6, 7, 8, 9, 10]⟩, 
  ⟨(some (17)), .load (some (2)) (.tmp 16), none, [0, 1, 2, 3, 4, 5, 6, 7, 8, 9, 10]⟩, 
  ⟨(some (18)), .call (.const (.fn (.func 103) [] [])) [.tmp 12, .tmp 17], none, [0, 1, 2, 3, 4, 5]⟩, 
  ⟨(some (19)), .call (.const (.fn (.func 117) [] [])) [.tmp 7, .tmp 18], none, [0]⟩], 
  [
  ⟨(some (20)), .nilCheck (.tmp 2), none, []⟩], 
  [
  ⟨(some (21)), .fieldAddr 22 (.tmp 20), none, []⟩], 
  [
  ⟨(some (22)), .fieldAddr 6 (.tmp 21), none, []⟩], 
  [
  ⟨none, .store 2 (.tmp 22) (.tmp 19), none, []⟩]]
theorem k_cathode_tick_lost_r0_sg : segs k_cathode_tick_lost_r0 = k_cathode_tick_lost_r0s := by kernel_rfl
theorem k_cathode_tick_lost_r0_st : statOK k_cathode_tick_lost_r0 = true := by kernel_rfl
def k_cathode_tick_lost : AFun := { params := 1, ntmps := 23, body := (.reg k_cathode_tick_lost_r0 true), res := [] }
theorem k_cathode_tick_lost_ok : cfun Try.prog Try.f109 = k_cathode_tick_lost := by kernel_rfl

def k_cathode_tick_wear_r0 : List AOper := [
  ⟨(some (2)), .move (.tmp 0), none, []⟩, 
  ⟨(some (3)), .move (.tmp 0), none, [0]⟩, 
  ⟨(some (4)), .nilCheck (.tmp 3), none, [0]⟩, 
  ⟨(some (5)), .fieldAddr 9 (.tmp 4), none, [0]⟩, 
  ⟨(some (6)), .fieldAddr 10 (.tmp 5), none, [0]⟩, 
  ⟨(some (7)), .load (some (2)) (.tmp 6), none, [0]⟩, 
  ⟨(some (8)), .move (.tmp 0), none, [0, 1, 2, 3, 4, 5]⟩, 
  ⟨(some (9)), .nilCheck (.tmp 8), none, [0, 1, 2, 3, 4, 5]⟩, 
  ⟨(some (10)), .fieldAddr 0 (.tmp 9), none, [0, 1, 2, 3, 4, 5]⟩, 
  ⟨(some (11)), .fieldAddr 7 (.tmp 10), none, [0, 1, 2, 3, 4, 5]⟩, 
  ⟨(some (12)), .load (some (2)) (.tmp 11), none, [0, 1, 2, 3, 4, 5]⟩, 
  ⟨(some (13)), .call (.const (.fn (.func 117) [] [])) [.tmp 7, .tmp 12], none, [0]⟩, 
  ⟨(some (14)), .nilCheck (.tmp 2), none, []⟩, 
  ⟨(some (15)), .fieldAddr 22 (.tmp 14), none, []⟩, 
  ⟨(some (16)), .fieldAddr 10 (.tmp 15), none, []⟩, 
  ⟨none, .store 2 (.tmp 16) (.tmp 13), none, []⟩]
def k_cathode_tick_wear_r0s : List (List AOper) := [
  [
  ⟨(some (2)), .move (.tmp 0), none, []⟩, 
  ⟨(some (3)), .move (.tmp 0), none, [0]⟩, 
  ⟨(some (4)), .nilCheck (.tmp 3), none, [0]⟩, 
  ⟨(some (5)), .fieldAddr 9 (.tmp 4), none, [0]⟩, 
  ⟨(some (6)), .fieldAddr 10 (.tmp 5), none, [0]⟩, 
  ⟨(some (7)), .load (some (2)) (.tmp 6), none, [0]⟩, 
  ⟨(some (8)), .move (.tmp 0), none, [0, 1, 2, 3, 4, 5]⟩, 
  ⟨(some (9)), .nilCheck (.tmp 8), none, [0, 1, 2, 3, 4, 5]⟩, 
  ⟨(some (10)), .fieldAddr 0 (.tmp 9), none, [0, 1, 2, 3, 4, 5]⟩, 
  ⟨(some (11)), .fieldAddr 7 (.tmp 10), none, [0, 1, 2, 3, 4, 5]⟩, 
  ⟨(some (12)), .load (some (2)) (.tmp 11), none, [0, 1, 2, 3, 4, 5]⟩, 
  ⟨(some (13)), .call (.const (.fn (.func 117) [] [])) [.tmp 7, .tmp 12], none, [0]⟩], 
  [
  ⟨(some (14)), .nilCheck (.tmp 2), none, []⟩], 
  [
  ⟨(some (15)), .fieldAddr 22 (.tmp 14), none, []⟩], 
  [
  ⟨(some (16)), .fieldAddr 10 (.tmp 15), none, []⟩], 
  [
  ⟨none, .store 2 (.tmp 16) (.tmp 13), none, []⟩]]
theorem k_cathode_tick_wear_r0_sg : segs k_cathode_tick_wear_r0 = k_cathode_tick_wear_r0s := by kernel_rfl
theorem k_cathode_tick_wear_r0_st : statOK k_cathode_tick_wear_r0 = true := by kernel_rfl
def k_cathode_tick_wear : AFun := { params := 1, ntmps := 17, body := (.reg k_cathode_tick_wear_r0 true), res := [] }
theorem k_cathode_tick_wear_ok : cfun Try.prog Try.f110 = k_cathode_tick_wear := by kernel_rfl

def k_cathode_ticks_1_r0 : List AOper := [
  ⟨(some (3)), .move (.const (.int .i64 0)), none, []⟩]
def k_cathode_ticks_1_r1 : List AOper := [
  ⟨(some (6)), .load none (.tmp 1), none, []⟩, 
  ⟨(some (7)), .len false (.tmp 6), none, []⟩, 
  ⟨(some (8)), .move (.const (.int .i64 0)), none, []⟩]
def k_cathode_ticks_1_r2 : List AOper := [
  ⟨(some (9)), .bin .plain .lss (.tmp 8) (.tmp 7), none, []⟩]
def k_cathode_ticks_1_r3 : List AOper := [
  ⟨(some (10)), .indexAddr 3 (.tmp 6) (.tmp 8), none, []⟩, 
  ⟨(some (11)), .load (some (3)) (.tmp 10), none, []⟩, 
  ⟨(some (5)), .box (.const (.agg [.int .i64 0, .int .i64 0, .int .i64 0])), none, []⟩, 
  ⟨none, .store 3 (.tmp 5) (.tmp 11), none, []⟩]
def k_cathode_ticks_1_r4 : List AOper := [
  ⟨(some (12)), .fieldAddr 0 (.tmp 5), none, []⟩, 
  ⟨(some (13)), .load none (.tmp 12), none, []⟩, 
  ⟨(some (14)), .move (.const (.int .i64 0)), none, []⟩]
def k_cathode_ticks_1_r5 : List AOper := [
  ⟨(some (15)), .bin .plain .lss (.tmp 14) (.tmp 13), none, []⟩]
def k_cathode_ticks_1_r6 : List AOper := [
  ⟨(some (16)), .move (.tmp 3), none, []⟩, 
  ⟨(some (17)), .bin .plain .add (.tmp 16) (.const (.int .i64 1)), none, []⟩, 
  ⟨(some (3)), .move (.tmp 17), none, []⟩]
def k_cathode_ticks_1_r7 : List AOper := [
  ⟨(some (18)), .move (.tmp 0), none, []⟩, 
  ⟨(some (19)), .move (.tmp 3), none, []⟩, 
  ⟨(some (20)), .load (some (3)) (.tmp 5), none, []⟩, 
  ⟨(some (21)), .call (.tmp 18) [.tmp 19, .tmp 20], none, []⟩, 
  ⟨(some (22)), .not (.tmp 21), none, []⟩]
def k_cathode_ticks_1_r8 : List AOper := [
  ⟨(some (23)), .bin .plain .add (.tmp 14) (.const (.int .i64 1)), none, []⟩, 
  ⟨(some (14)), .move (.tmp 23), none, []⟩]
def k_cathode_ticks_1_r9 : ACode := (.seq (.reg k_cathode_ticks_1_r5 false) (.seq (.cond (.tmp 15) .skip (.exit 2)) (.seq (.block 3 (.seq (.reg k_cathode_ticks_1_r6 false) (.seq (.reg k_cathode_ticks_1_r7 false) (.cond (.tmp 22) .ret .skip)))) (.reg k_cathode_ticks_1_r8 false))))
def k_cathode_ticks_1_r10 : List AOper := [
  ⟨(some (24)), .bin .plain .add (.tmp 8) (.const (.int .i64 1)), none, []⟩, 
  ⟨(some (8)), .move (.tmp 24), none, []⟩]
def k_cathode_ticks_1_r11 : ACode := (.seq (.reg k_cathode_ticks_1_r2 false) (.seq (.cond (.tmp 9) .skip (.exit 0)) (.seq (.block 1 (.seq (.reg k_cathode_ticks_1_r3 false) (.seq (.reg k_cathode_ticks_1_r4 false) (.block 2 (.loop k_cathode_ticks_1_r9))))) (.reg k_cathode_ticks_1_r10 false))))
def k_cathode_ticks_1 : AFun := { params := 2, ntmps := 25, body := (.seq (.reg k_cathode_ticks_1_r0 false) (.seq (.reg k_cathode_ticks_1_r1 false) (.block 0 (.loop k_cathode_ticks_1_r11)))), res := [] }
theorem k_cathode_ticks_1_ok : cfun Try.prog Try.f113 = k_cathode_ticks_1 := by kernel_rfl

def k_cathode_isIn_r0 : List AOper := [
  ⟨(some (3)), .box (.tmp 1), none, []⟩, 
  ⟨(some (4)), .move (.const (.bool false)), none, []⟩]
def k_cathode_isIn_r1 : List AOper := [
  ⟨(some (5)), .move (.tmp 0), none, []⟩, 
  ⟨(some (6)), .fieldAddr 0 (.tmp 3), none, []⟩, 
  ⟨(some (7)), .load none (.tmp 6), none, []⟩, 
  ⟨(some (8)), .fieldAddr 1 (.tmp 3), none, []⟩, 
  ⟨(some (9)), .load none (.tmp 8), none, []⟩, 
  ⟨(some (10)), .call (.const (.fn (.func 67) [] [])) [.tmp 5, .tmp 7, .tmp 9], none, []⟩, 
  ⟨(some (4)), .move (.tmp 10), none, []⟩]
def k_cathode_isIn : AFun := { params := 2, ntmps := 11, body := (.seq (.reg k_cathode_isIn_r0 false) (.seq (.reg k_cathode_isIn_r1 false) .ret)), res := [.tmp 4] }
theorem k_cathode_isIn_ok : cfun Try.prog Try.f114 = k_cathode_isIn := by kernel_rfl

def k_cathode_remains_r0 : List AOper := [
  ⟨(some (2)), .box (.tmp 0), none, []⟩, 
  ⟨(some (3)), .box (.tmp 1), none, []⟩, 
  ⟨(some (4)), .box (.const (.agg [.int .i64 0, .int .i64 0])), none, []⟩]
def k_cathode_remains_r1 : List AOper := [
  ⟨(some (5)), .fieldAddr 0 (.tmp 2), none, []⟩, 
  ⟨(some (6)), .load none (.tmp 5), none, []⟩, 
  ⟨(some (7)), .fieldAddr 0 (.tmp 2), none, [0, 1]⟩, 
  ⟨(some (8)), .load none (.tmp 7), none, [0, 1]⟩, 
  ⟨(some (9)), .fieldAddr 1 (.tmp 3), none, [0, 1, 2, 3]⟩, 
  ⟨(some (10)), .load none (.tmp 9), none, [0, 1, 2, 3]⟩, 
  ⟨(some (11)), .call (.const (.fn (.func 129) [] [])) [.tmp 8, .tmp 10], none, [0, 1]⟩, 
  ⟨(some (12)), .bin .plain .sub (.tmp 6) (.tmp 11), none, []⟩, 
  ⟨(some (13)), .fieldAddr 1 (.tmp 2), none, [0, 1, 2, 3, 4, 5, 6, 7]⟩, 
  ⟨(some (14)), .load none (.tmp 13), none, [0, 1, 2, 3, 4, 5, 6, 7]⟩, 
  ⟨(some (15)), .fieldAddr 1 (.tmp 2), none, [0, 1, 2, 3, 4, 5, 6, 7, 8, 9]⟩, 
  ⟨(some (16)), .load none (.tmp 15), none, [0, 1, 2, 3, 4, 5, 6, 7, 8, 9]⟩, 
  ⟨(some (17)), .fieldAddr 0 (.tmp 3), none, [0, 1, 2, 3, 4, 5, 6, 7, 8, 9, 10, 11]⟩, 
  ⟨(some (18)), .load none (.tmp 17), none, [0, 1, 2, 3, 4, 5, 6, 7, 8, 9, 10, 11]⟩, 
  ⟨(some (19)), .call (.const (.fn (.func 128) [] [])) [.tmp 16, .tmp 18], none, [0, 1, 7, 8, 9]⟩, 
  ⟨(some (20)), .bin .plain .sub (.tmp 14) (.tmp 19), none, [0, 1, 7]⟩, 
  ⟨(some (21)), .build [.int .i64 0, .int .i64 0] [(0, 1, .tmp 12), (1, 1, .tmp 20)], none, []⟩, 
  ⟨none, .store 2 (.tmp 4) (.tmp 21), none, []⟩]
def k_cathode_remains_r1s : List (List AOper) := [
  [
  ⟨(some (5)), .fieldAddr 0 (.tmp 2), none, []⟩, 
  ⟨(some (6)), .load none (.tmp 5), none, []⟩, 
  ⟨(some (7)), .fieldAddr 0 (.tmp 2), none, [0, 1]⟩, 
  ⟨(some (8)), .load none (.tmp 7), none, [0, 1]⟩, 
  ⟨(some (9)), .fieldAddr 1 (.tmp 3), none, [0, 1, 2, 3]⟩, 
  ⟨(some (10)), .load none (.tmp 9), none, [0, 1, 2, 3]⟩, 
  ⟨(some (11)), .call (.const (.fn (.func 129) [] [])) [.tmp 8, .tmp 10], none, [0, 1]⟩, 
  ⟨(some (12)), .bin .plain .sub (.tmp 6) (.tmp 11), none, []⟩, 
  ⟨(some (13)), .fieldAddr 1 (.tmp 2), none, [0, 1, 2, 3, 4, 5, 6, 7]⟩, 
  ⟨(some (14)), .load none (.tmp 13), none, [0, 1, 2, 3, 4, 5, 6, 7]⟩, 
  ⟨(some (15)), .fieldAddr 1 (.tmp 2), none, [0, 1, 2, 3, 4, 5, 6, 7, 8, 9]⟩, 
  ⟨(some (16)), .load none (.tmp 15), none, [0, 1, 2, 3, 4, 5, 6, 7, 8, 9]⟩, 
  ⟨(some (17)), .fieldAddr 0 (.tmp 3), none, [0, 1, 2, 3, 4, 5, 6, 7, 8, 9, 10, 11]⟩, 
  ⟨(some (18)), .load none (.tmp 17), none, [0, 1, 2, 3, 4, 5, 6, 7, 8, 9, 10, 11]⟩, 
  ⟨(some (19)), .call (.const (.fn (.func 128) [] [])) [.tmp 16, .tmp 18], none, [0, 1, 7, 8, 9]⟩, 
  ⟨(some (20)), .bin .plain .sub (.tmp 14) (.tmp 19), none, [0, 1, 7]⟩], 
  [
  ⟨(some (21)), .build [.int .i64 0, .int .i64 0] [(0, 1, .tmp 12), (1, 1, .tmp 20)], none, []⟩], 
  [
  ⟨none, .store 2 (.tmp 4) (.tmp 21), none, []⟩]]
theorem k_cathode_remains_r1_sg : segs k_cathode_remains_r1 = k_cathode_remains_r1s := by kernel_rfl
theorem k_cathode_remains_r1_st : statOK k_cathode_remains_r1 = true := by kernel_rfl
def k_cathode_remains : AFun := { params := 2, ntmps := 22, body := (.seq (.reg k_cathode_remains_r0 false) (.seq (.reg k_cathode_remains_r1 true) .ret)), res := [.cell 4 (some ((some (2))))] }
theorem k_cathode_remains_ok : cfun Try.prog Try.f115 = k_cathode_remains := by kernel_rfl

def k_cathode_alone_r0 : List AOper := [
  ⟨(some (2)), .box (.const (.agg [.int .i64 0, .int .i64 0])), none, []⟩]
def k_cathode_alone_r1 : List AOper := [
  ⟨(some (3)), .move (.tmp 0), none, []⟩, 
  ⟨(some (4)), .move (.tmp 0), none, []⟩, 
  ⟨(some (5)), .build [.int .i64 0, .int .i64 0] [(0, 1, .tmp 3), (1, 1, .tmp 4)], none, []⟩, 
  ⟨none, .store 2 (.tmp 2) (.tmp 5), none, []⟩]
def k_cathode_alone : AFun := { params := 1, ntmps := 6, body := (.seq (.reg k_cathode_alone_r0 false) (.seq (.reg k_cathode_alone_r1 false) .ret)), res := [.cell 2 (some ((some (2))))] }
theorem k_cathode_alone_ok : cfun Try.prog Try.f116 = k_cathode_alone := by kernel_rfl

def k_cathode_sum_r0 : List AOper := [
  ⟨(some (2)), .box (.tmp 0), none, []⟩, 
  ⟨(some (3)), .box (.tmp 1), none, []⟩, 
  ⟨(some (4)), .box (.const (.agg [.int .i64 0, .int .i64 0])), none, []⟩]
def k_cathode_sum_r1 : List AOper := [
  ⟨(some (5)), .fieldAddr 0 (.tmp 2), none, []⟩, 
  ⟨(some (6)), .load none (.tmp 5), none, []⟩, 
  ⟨(some (7)), .fieldAddr 0 (.tmp 3), none, []⟩, 
  ⟨(some (8)), .load none (.tmp 7), none, []⟩, 
  ⟨(some (9)), .bin .plain .add (.tmp 6) (.tmp 8), none, []⟩, 
  ⟨(some (10)), .fieldAddr 1 (.tmp 2), none, []⟩, 
  ⟨(some (11)), .load none (.tmp 10), none, []⟩, 
  ⟨(some (12)), .fieldAddr 1 (.tmp 3), none, []⟩, 
  ⟨(some (13)), .load none (.tmp 12), none, []⟩, 
  ⟨(some (14)), .bin .plain .add (.tmp 11) (.tmp 13), none, []⟩, 
  ⟨(some (15)), .build [.int .i64 0, .int .i64 0] [(0, 1, .tmp 9), (1, 1, .tmp 14)], none, []⟩, 
  ⟨none, .store 2 (.tmp 4) (.tmp 15), none, []⟩]
def k_cathode_sum : AFun := { params := 2, ntmps := 16, body := (.seq (.reg k_cathode_sum_r0 false) (.seq (.reg k_cathode_sum_r1 false) .ret)), res := [.cell 4 (some ((some (2))))] }
theorem k_cathode_sum_ok : cfun Try.prog Try.f117 = k_cathode_sum := by kernel_rfl

def k_sort_Search_r0 : List AOper := [
  ⟨(some (4)), .move (.const (.int .i64 0)), none, []⟩]
def k_sort_Search_r1 : List AOper := [
  ⟨(some (8)), .move (.tmp 0), none, []⟩, 
  ⟨(some (5)), .move (.const (.int .i64 0)), none, []⟩, 
  ⟨(some (6)), .move (.tmp 8), none, []⟩]
def k_sort_Search_r2 : List AOper := [
  ⟨(some (9)), .move (.tmp 5), none, []⟩, 
  ⟨(some (10)), .move (.tmp 6), none, []⟩, 
  ⟨(some (11)), .bin .plain .lss (.tmp 9) (.tmp 10), none, []⟩]
def k_sort_Search_r3 : List AOper := [
  ⟨(some (12)), .move (.tmp 5), none, []⟩, 
  ⟨(some (13)), .move (.tmp 6), none, []⟩, 
  ⟨(some (14)), .bin .plain .add (.tmp 12) (.tmp 13), none, []⟩, 
  ⟨(some (15)), .toInt .u64 (.tmp 14), none, []⟩, 
  ⟨(some (16)), .bin .plain .shr (.tmp 15) (.const (.int .u64 1)), none, []⟩, 
  ⟨(some (17)), .toInt .i64 (.tmp 16), none, []⟩, 
  ⟨(some (7)), .move (.tmp 17), none, []⟩]
def k_sort_Search_r4 : List AOper := [
  ⟨(some (18)), .move (.tmp 1), none, []⟩, 
  ⟨(some (19)), .move (.tmp 7), none, []⟩, 
  ⟨(some (20)), .call (.tmp 18) [.tmp 19], none, []⟩, 
  ⟨(some (21)), .not (.tmp 20), none, []⟩]
def k_sort_Search_r5 : List AOper := [
  ⟨(some (22)), .move (.tmp 7), none, []⟩, 
  ⟨(some (23)), .bin .plain .add (.tmp 22) (.const (.int .i64 1)), none, []⟩, 
  ⟨(some (5)), .move (.tmp 23), none, []⟩]
def k_sort_Search_r6 : List AOper := [
  ⟨(some (24)), .move (.tmp 7), none, []⟩, 
  ⟨(some (6)), .move (.tmp 24), none, []⟩]
def k_sort_Search_r7 : ACode := (.seq (.seq (.reg k_sort_Search_r2 false) (.cond (.tmp 11) .skip (.exit 0))) (.block 1 (.seq (.reg k_sort_Search_r3 false) (.seq (.reg k_sort_Search_r4 false) (.cond (.tmp 21) (.reg k_sort_Search_r5 false) (.reg k_sort_Search_r6 false))))))
def k_sort_Search_r8 : List AOper := [
  ⟨(some (25)), .move (.tmp 5), none, []⟩, 
  ⟨(some (4)), .move (.tmp 25), none, []⟩]
def k_sort_Search : AFun := { params := 2, ntmps := 26, body := (.seq (.reg k_sort_Search_r0 false) (.seq (.reg k_sort_Search_r1 false) (.seq (.block 0 (.loop k_sort_Search_r7)) (.seq (.reg k_sort_Search_r8 false) .ret)))), res := [.tmp 4] }
theorem k_sort_Search_ok : cfun Try.prog Try.f118 = k_sort_Search := by kernel_rfl

def k_cathode_ratesAt_1_r0 : List AOper := [
  ⟨(some (4)), .move (.const (.bool false)), none, []⟩]
def k_cathode_ratesAt_1_r1 : List AOper := [
  ⟨(some (5)), .fieldAddr 6 (.tmp 1), none, []⟩, 
  ⟨(some (6)), .load none (.tmp 5), none, []⟩, 
  ⟨(some (7)), .move (.tmp 0), none, [0, 1]⟩, 
  ⟨(some (8)), .indexAddr 9 (.tmp 6) (.tmp 7), none, []⟩, 
  ⟨(some (9)), .fieldAddr 0 (.tmp 8), none, []⟩, 
  ⟨(some (10)), .load none (.tmp 9), none, []⟩, 
  ⟨(some (11)), .load none (.tmp 2), none, [0, 1, 2, 3, 4, 5]⟩, 
  ⟨(some (12)), .bin .plain .gtr (.tmp 10) (.tmp 11), none, []⟩, 
  ⟨(some (4)), .move (.tmp 12), none, []⟩]
def k_cathode_ratesAt_1_r1s : List (List AOper) := [
  [
  ⟨(some (5)), .fieldAddr 6 (.tmp 1), none, []⟩, 
  ⟨(some (6)), .load none (.tmp 5), none, []⟩, 
  ⟨(some (7)), .move (.tmp 0), none, [0, 1]⟩, 
  ⟨(some (8)), .indexAddr 9 (.tmp 6) (.tmp 7), none, []⟩, 
  ⟨(some (9)), .fieldAddr 0 (.tmp 8), none, []⟩, 
  ⟨(some (10)), .load none (.tmp 9), none, []⟩, 
  ⟨(some (11)), .load none (.tmp 2), none, [0, 1, 2, 3, 4, 5]⟩], 
  [
  ⟨(some (12)), .bin .plain .gtr (.tmp 10) (.tmp 11), none, []⟩], 
  [
  ⟨(some (4)), .move (.tmp 12), none, []⟩]]
theorem k_cathode_ratesAt_1_r1_sg : segs k_cathode_ratesAt_1_r1 = k_cathode_ratesAt_1_r1s := by kernel_rfl
theorem k_cathode_ratesAt_1_r1_st : statOK k_cathode_ratesAt_1_r1 = true := by kernel_rfl
def k_cathode_ratesAt_1 : AFun := { params := 3, ntmps := 13, body := (.seq (.reg k_cathode_ratesAt_1_r0 false) (.seq (.reg k_cathode_ratesAt_1_r1 true) .ret)), res := [.tmp 4] }
theorem k_cathode_ratesAt_1_ok : cfun Try.prog Try.f119 = k_cathode_ratesAt_1 := by kernel_rfl

def k_cathode_looksOf_r0 : List AOper := [
  ⟨(some (1)), .box (.tmp 0), none, []⟩, 
  ⟨(some (2)), .move (.const (.nilsl)), none, []⟩, 
  ⟨(some (3)), .move (.const (.nilsl)), none, []⟩]
def k_cathode_looksOf_r1 : List AOper := [
  ⟨(some (4)), .makeFunc (.func 130) [] [.tmp 1], none, []⟩, 
  ⟨(some (5)), .makeFunc (.func 132) [] [.tmp 1], none, []⟩, 
  ⟨(some (6)), .makeFunc (.func 133) [] [.tmp 1], none, []⟩, 
  ⟨(some (7)), .buildSlice 1 [.tmp 4, .tmp 5, .tmp 6], none, []⟩, 
  ⟨(some (2)), .move (.tmp 7), none, []⟩]
def k_cathode_looksOf_r2 : List AOper := [
  ⟨(some (8)), .makeFunc (.func 134) [] [.tmp 1], none, []⟩, 
  ⟨(some (9)), .makeFunc (.func 135) [] [.tmp 1], none, []⟩, 
  ⟨(some (10)), .buildSlice 1 [.tmp 8, .tmp 9], none, []⟩, 
  ⟨(some (3)), .move (.tmp 10), none, []⟩]
def k_cathode_looksOf_r3 : List AOper := [
  ⟨(some (11)), .move (.tmp 2), none, []⟩, 
  ⟨(some (12)), .move (.tmp 3), none, []⟩, 
  ⟨(some (2)), .move (.tmp 11), none, []⟩, 
  ⟨(some (3)), .move (.tmp 12), none, []⟩]
def k_cathode_looksOf : AFun := { params := 1, ntmps := 13, body := (.seq (.reg k_cathode_looksOf_r0 false) (.seq (.reg k_cathode_looksOf_r1 false) (.seq (.reg k_cathode_looksOf_r2 false) (.seq (.reg k_cathode_looksOf_r3 false) .ret)))), res := [.tmp 2, .tmp 3] }
theorem k_cathode_looksOf_ok : cfun Try.prog Try.f120 = k_cathode_looksOf := by kernel_rfl

def k_cathode_judge_1_r0 : List AOper := [
  ⟨(some (6)), .move (.const (.bool false)), none, []⟩]
def k_cathode_judge_1_r1 : List AOper := [
  ⟨(some (7)), .move (.tmp 0), none, []⟩, 
  ⟨(some (8)), .bin .plain .eql (.tmp 7) (.const (.int .i64 2)), none, []⟩, 
  ⟨(some (9)), .move (.tmp 8), none, []⟩, 
  ⟨(some (10)), .move (.tmp 0), (some (9, false)), []⟩, 
  ⟨(some (11)), .bin .plain .eql (.tmp 10) (.const (.int .i64 3)), (some (9, false)), []⟩, 
  ⟨(some (12)), .move (.tmp 11), (some (9, false)), []⟩, 
  ⟨(some (13)), .load none (.tmp 2), (some (12, true)), []⟩, 
  ⟨(some (14)), .bin .plain .eql (.tmp 13) (.const (.int .i64 1)), (some (12, true)), []⟩, 
  ⟨(some (15)), .pick (.tmp 12) (.tmp 14) (.const (.bool false)), (some (9, false)), []⟩, 
  ⟨(some (16)), .pick (.tmp 9) (.const (.bool true)) (.tmp 15), none, []⟩]
def k_cathode_judge_1_r2 : List AOper := [
  ⟨(some (17)), .move (.tmp 0), none, []⟩, 
  ⟨(some (18)), .move (.tmp 1), none, []⟩, 
  ⟨none, .store 1 (.tmp 2) (.tmp 17), none, []⟩, 
  ⟨none, .store 1 (.tmp 3) (.tmp 18), none, []⟩]
def k_cathode_judge_1_r3 : List AOper := [
  ⟨(some (19)), .move (.tmp 0), none, []⟩, 
  ⟨(some (20)), .bin .plain .eql (.tmp 19) (.const (.int .i64 2)), none, []⟩, 
  ⟨(some (6)), .move (.tmp 20), none, []⟩]
def k_cathode_judge_1 : AFun := { params := 4, ntmps := 21, body := (.seq (.reg k_cathode_judge_1_r0 false) (.seq (.seq (.reg k_cathode_judge_1_r1 false) (.cond (.tmp 16) (.reg k_cathode_judge_1_r2 false) .skip)) (.seq (.reg k_cathode_judge_1_r3 false) .ret))), res := [.tmp 6] }
theorem k_cathode_judge_1_ok : cfun Try.prog Try.f121 = k_cathode_judge_1 := by kernel_rfl

def k_cathode_looks_all_r0 : List AOper := [
  ⟨(some (3)), .box (.tmp 1), none, []⟩, 
  ⟨(some (4)), .move (.const (.int .i64 0)), none, []⟩]
def k_cathode_looks_all_r1 : List AOper := [
  ⟨(some (5)), .move (.const (.int .i64 1)), none, []⟩]
def k_cathode_looks_all_r2 : List AOper := [
  ⟨(some (8)), .move (.tmp 0), none, []⟩, 
  ⟨(some (9)), .len false (.tmp 8), none, []⟩, 
  ⟨(some (10)), .move (.const (.int .i64 0)), none, []⟩]
def k_cathode_looks_all_r3 : List AOper := [
  ⟨(some (11)), .bin .plain .lss (.tmp 10) (.tmp 9), none, []⟩]
def k_cathode_looks_all_r4 : List AOper := [
  ⟨(some (12)), .indexAddr 1 (.tmp 8) (.tmp 10), none, []⟩, 
  ⟨(some (13)), .load none (.tmp 12), none, []⟩, 
  ⟨(some (7)), .move (.tmp 13), none, []⟩]
def k_cathode_looks_all_r5 : List AOper := [
  ⟨(some (14)), .move (.tmp 7), none, []⟩, 
  ⟨(some (15)), .load (some (13)) (.tmp 3), none, []⟩, 
  ⟨(some (16)), .call (.tmp 14) [.tmp 15], none, []⟩]
def k_cathode_looks_all_r6 : List AOper := [
  ⟨(some (18)), .bin .plain .eql (.tmp 16) (.const (.int .i64 2)), none, []⟩, 
  ⟨(some (17)), .move (.tmp 18), none, []⟩]
def k_cathode_looks_all_r7 : List AOper := [
  ⟨(some (5)), .move (.const (.int .i64 2)), none, []⟩]
def k_cathode_looks_all_r8 : List AOper := [
  ⟨(some (20)), .bin .plain .eql (.tmp 16) (.const (.int .i64 3)), none, []⟩, 
  ⟨(some (19)), .move (.tmp 20), none, []⟩]
def k_cathode_looks_all_r9 : List AOper := [
  ⟨(some (5)), .move (.const (.int .i64 3)), none, []⟩]
def k_cathode_looks_all_r10 : List AOper := [
  ⟨(some (21)), .bin .plain .add (.tmp 10) (.const (.int .i64 1)), none, []⟩, 
  ⟨(some (10)), .move (.tmp 21), none, []⟩]
def k_cathode_looks_all_r11 : ACode := (.seq (.reg k_cathode_looks_all_r3 false) (.seq (.cond (.tmp 11) .skip (.exit 0)) (.seq (.block 1 (.seq (.reg k_cathode_looks_all_r4 false) (.seq (.reg k_cathode_looks_all_r5 false) (.block 2 (.seq (.reg k_cathode_looks_all_r6 false) (.cond (.tmp 17) (.seq (.reg k_cathode_looks_all_r7 false) (.exit 0)) (.seq (.reg k_cathode_looks_all_r8 false) (.cond (.tmp 19) (.reg k_cathode_looks_all_r9 false) .skip)))))))) (.reg k_cathode_looks_all_r10 false))))
def k_cathode_looks_all_r12 : List AOper := [
  ⟨(some (22)), .move (.tmp 5), none, []⟩, 
  ⟨(some (4)), .move (.tmp 22), none, []⟩]
def k_cathode_looks_all : AFun := { params := 2, ntmps := 23, body := (.seq (.reg k_cathode_looks_all_r0 false) (.scope (.seq (.reg k_cathode_looks_all_r1 false) (.seq (.label 0) (.seq (.seq (.reg k_cathode_looks_all_r2 false) (.block 0 (.loop k_cathode_looks_all_r11))) (.seq (.reg k_cathode_looks_all_r12 false) .ret)))))), res := [.tmp 4] }
theorem k_cathode_looks_all_ok : cfun Try.prog Try.f122 = k_cathode_looks_all := by kernel_rfl

def k_cathode_partDown_r0 : List AOper := [
  ⟨(some (4)), .move (.const (.int .i64 0)), none, []⟩]
def k_cathode_partDown_r1 : List AOper := [
  ⟨(some (5)), .move (.tmp 0), none, []⟩, 
  ⟨(some (6)), .move (.tmp 1), none, []⟩, 
  ⟨(some (7)), .bin .plain .mul (.tmp 5) (.tmp 6), none, []⟩, 
  ⟨(some (8)), .bin .plain .quo (.tmp 7) (.const (.int .i64 1000000)), none, []⟩, 
  ⟨(some (4)), .move (.tmp 8), none, []⟩]
def k_cathode_partDown : AFun := { params := 2, ntmps := 9, body := (.seq (.reg k_cathode_partDown_r0 false) (.seq (.reg k_cathode_partDown_r1 false) .ret)), res := [.tmp 4] }
theorem k_cathode_partDown_ok : cfun Try.prog Try.f128 = k_cathode_partDown := by kernel_rfl

def k_cathode_partUp_r0 : List AOper := [
  ⟨(some (4)), .move (.const (.int .i64 0)), none, []⟩]
def k_cathode_partUp_r1 : List AOper := [
  ⟨(some (5)), .move (.tmp 0), none, []⟩, 
  ⟨(some (6)), .move (.tmp 1), none, []⟩, 
  ⟨(some (7)), .bin .plain .mul (.tmp 5) (.tmp 6), none, []⟩, 
  ⟨(some (8)), .bin .plain .add (.tmp 7) (.const (.int .i64 1000000)), none, []⟩, 
  ⟨(some (9)), .bin .plain .sub (.tmp 8) (.const (.int .i64 1)), none, []⟩, 
  ⟨(some (10)), .bin .plain .quo (.tmp 9) (.const (.int .i64 1000000)), none, []⟩, 
  ⟨(some (4)), .move (.tmp 10), none, []⟩]
def k_cathode_partUp : AFun := { params := 2, ntmps := 11, body := (.seq (.reg k_cathode_partUp_r0 false) (.seq (.reg k_cathode_partUp_r1 false) .ret)), res := [.tmp 4] }
theorem k_cathode_partUp_ok : cfun Try.prog Try.f129 = k_cathode_partUp := by kernel_rfl

def k_cathode_looksOf_1_r0 : List AOper := [
  ⟨(some (2)), .box (.tmp 0), none, []⟩, 
  ⟨(some (3)), .move (.const (.int .i64 0)), none, []⟩]
def k_cathode_looksOf_1_r1 : List AOper := [
  ⟨(some (4)), .fieldAddr 8 (.tmp 2), none, []⟩, 
  ⟨(some (5)), .load (some (2)) (.tmp 4), none, []⟩, 
  ⟨(some (6)), .fieldAddr 0 (.tmp 1), none, []⟩, 
  ⟨(some (7)), .load none (.tmp 6), none, []⟩, 
  ⟨(some (8)), .call (.const (.fn (.func 131) [] [])) [.tmp 5, .tmp 7], none, []⟩, 
  ⟨(some (3)), .move (.tmp 8), none, []⟩]
def k_cathode_looksOf_1 : AFun := { params := 2, ntmps := 9, body := (.seq (.reg k_cathode_looksOf_1_r0 false) (.seq (.reg k_cathode_looksOf_1_r1 false) .ret)), res := [.tmp 3] }
theorem k_cathode_looksOf_1_ok : cfun Try.prog Try.f130 = k_cathode_looksOf_1 := by kernel_rfl

def k_cathode_atMost_r0 : List AOper := [
  ⟨(some (2)), .box (.tmp 0), none, []⟩, 
  ⟨(some (4)), .move (.const (.int .i64 0)), none, []⟩]
def k_cathode_atMost_r1 : List AOper := [
  ⟨(some (6)), .fieldAddr 1 (.tmp 2), none, []⟩, 
  ⟨(some (7)), .load none (.tmp 6), none, []⟩, 
  ⟨(some (8)), .move (.tmp 1), none, []⟩, 
  ⟨(some (9)), .bin .plain .leq (.tmp 7) (.tmp 8), none, []⟩, 
  ⟨(some (5)), .move (.tmp 9), none, []⟩]
def k_cathode_atMost_r2 : List AOper := [
  ⟨(some (4)), .move (.const (.int .i64 1)), none, []⟩]
def k_cathode_atMost_r3 : List AOper := [
  ⟨(some (11)), .fieldAddr 0 (.tmp 2), none, []⟩, 
  ⟨(some (12)), .load none (.tmp 11), none, []⟩, 
  ⟨(some (13)), .move (.tmp 1), none, []⟩, 
  ⟨(some (14)), .bin .plain .gtr (.tmp 12) (.tmp 13), none, []⟩, 
  ⟨(some (10)), .move (.tmp 14), none, []⟩]
def k_cathode_atMost_r4 : List AOper := [
  ⟨(some (4)), .move (.const (.int .i64 2)), none, []⟩]
def k_cathode_atMost_r5 : List AOper := [
  ⟨(some (4)), .move (.const (.int .i64 3)), none, []⟩]
def k_cathode_atMost : AFun := { params := 2, ntmps := 15, body := (.seq (.reg k_cathode_atMost_r0 false) (.seq (.block 0 (.seq (.reg k_cathode_atMost_r1 false) (.cond (.tmp 5) (.seq (.reg k_cathode_atMost_r2 false) .ret) (.seq (.reg k_cathode_atMost_r3 false) (.cond (.tmp 10) (.seq (.reg k_cathode_atMost_r4 false) .ret) .skip))))) (.seq (.reg k_cathode_atMost_r5 false) .ret))), res := [.tmp 4] }
theorem k_cathode_atMost_ok : cfun Try.prog Try.f131 = k_cathode_atMost := by kernel_rfl

def k_cathode_looksOf_2_r0 : List AOper := [
  ⟨(some (2)), .box (.tmp 0), none, []⟩, 
  ⟨(some (3)), .move (.const (.int .i64 0)), none, []⟩]
def k_cathode_looksOf_2_r1 : List AOper := [
  ⟨(some (4)), .fieldAddr 10 (.tmp 2), none, []⟩, 
  ⟨(some (5)), .load (some (2)) (.tmp 4), none, []⟩, 
  ⟨(some (6)), .fieldAddr 1 (.tmp 1), none, []⟩, 
  ⟨(some (7)), .load none (.tmp 6), none, []⟩, 
  ⟨(some (8)), .call (.const (.fn (.func 131) [] [])) [.tmp 5, .tmp 7], none, []⟩, 
  ⟨(some (3)), .move (.tmp 8), none, []⟩]
def k_cathode_looksOf_2 : AFun := { params := 2, ntmps := 9, body := (.seq (.reg k_cathode_looksOf_2_r0 false) (.seq (.reg k_cathode_looksOf_2_r1 false) .ret)), res := [.tmp 3] }
theorem k_cathode_looksOf_2_ok : cfun Try.prog Try.f132 = k_cathode_looksOf_2 := by kernel_rfl

def k_cathode_looksOf_3_r0 : List AOper := [
  ⟨(some (2)), .box (.tmp 0), none, []⟩, 
  ⟨(some (3)), .move (.const (.int .i64 0)), none, []⟩]
def k_cathode_looksOf_3_r1 : List AOper := [
  ⟨(some (4)), .fieldAddr 6 (.tmp 2), none, []⟩, 
  ⟨(some (5)), .load (some (2)) (.tmp 4), none, []⟩, 
  ⟨(some (6)), .fieldAddr 2 (.tmp 1), none, []⟩, 
  ⟨(some (7)), .load none (.tmp 6), none, []⟩, 
  ⟨(some (8)), .call (.const (.fn (.func 131) [] [])) [.tmp 5, .tmp 7], none, []⟩, 
  ⟨(some (3)), .move (.tmp 8), none, []⟩]
def k_cathode_looksOf_3 : AFun := { params := 2, ntmps := 9, body := (.seq (.reg k_cathode_looksOf_3_r0 false) (.seq (.reg k_cathode_looksOf_3_r1 false) .ret)), res := [.tmp 3] }
theorem k_cathode_looksOf_3_ok : cfun Try.prog Try.f133 = k_cathode_looksOf_3 := by kernel_rfl

def k_cathode_looksOf_4_r0 : List AOper := [
  ⟨(some (2)), .box (.tmp 0), none, []⟩, 
  ⟨(some (3)), .move (.const (.int .i64 0)), none, []⟩]
def k_cathode_looksOf_4_r1 : List AOper := [
  ⟨(some (4)), .fieldAddr 0 (.tmp 2), none, []⟩, 
  ⟨(some (5)), .load (some (2)) (.tmp 4), none, []⟩, 
  ⟨(some (6)), .fieldAddr 3 (.tmp 1), none, []⟩, 
  ⟨(some (7)), .load none (.tmp 6), none, []⟩, 
  ⟨(some (8)), .call (.const (.fn (.func 131) [] [])) [.tmp 5, .tmp 7], none, []⟩, 
  ⟨(some (3)), .move (.tmp 8), none, []⟩]
def k_cathode_looksOf_4 : AFun := { params := 2, ntmps := 9, body := (.seq (.reg k_cathode_looksOf_4_r0 false) (.seq (.reg k_cathode_looksOf_4_r1 false) .ret)), res := [.tmp 3] }
theorem k_cathode_looksOf_4_ok : cfun Try.prog Try.f134 = k_cathode_looksOf_4 := by kernel_rfl

def k_cathode_looksOf_5_r0 : List AOper := [
  ⟨(some (2)), .box (.tmp 0), none, []⟩, 
  ⟨(some (3)), .move (.const (.int .i64 0)), none, []⟩]
def k_cathode_looksOf_5_r1 : List AOper := [
  ⟨(some (4)), .fieldAddr 4 (.tmp 2), none, []⟩, 
  ⟨(some (5)), .load (some (2)) (.tmp 4), none, []⟩, 
  ⟨(some (6)), .fieldAddr 4 (.tmp 1), none, []⟩, 
  ⟨(some (7)), .load none (.tmp 6), none, []⟩, 
  ⟨(some (8)), .call (.const (.fn (.func 136) [] [])) [.tmp 5, .tmp 7], none, []⟩, 
  ⟨(some (3)), .move (.tmp 8), none, []⟩]
def k_cathode_looksOf_5 : AFun := { params := 2, ntmps := 9, body := (.seq (.reg k_cathode_looksOf_5_r0 false) (.seq (.reg k_cathode_looksOf_5_r1 false) .ret)), res := [.tmp 3] }
theorem k_cathode_looksOf_5_ok : cfun Try.prog Try.f135 = k_cathode_looksOf_5 := by kernel_rfl

def k_cathode_atLeast_r0 : List AOper := [
  ⟨(some (2)), .box (.tmp 0), none, []⟩, 
  ⟨(some (4)), .move (.const (.int .i64 0)), none, []⟩]
def k_cathode_atLeast_r1 : List AOper := [
  ⟨(some (6)), .fieldAddr 0 (.tmp 2), none, []⟩, 
  ⟨(some (7)), .load none (.tmp 6), none, []⟩, 
  ⟨(some (8)), .move (.tmp 1), none, []⟩, 
  ⟨(some (9)), .bin .plain .geq (.tmp 7) (.tmp 8), none, []⟩, 
  ⟨(some (5)), .move (.tmp 9), none, []⟩]
def k_cathode_atLeast_r2 : List AOper := [
  ⟨(some (4)), .move (.const (.int .i64 1)), none, []⟩]
def k_cathode_atLeast_r3 : List AOper := [
  ⟨(some (11)), .fieldAddr 1 (.tmp 2), none, []⟩, 
  ⟨(some (12)), .load none (.tmp 11), none, []⟩, 
  ⟨(some (13)), .move (.tmp 1), none, []⟩, 
  ⟨(some (14)), .bin .plain .lss (.tmp 12) (.tmp 13), none, []⟩, 
  ⟨(some (10)), .move (.tmp 14), none, []⟩]
def k_cathode_atLeast_r4 : List AOper := [
  ⟨(some (4)), .move (.const (.int .i64 2)), none, []⟩]
def k_cathode_atLeast_r5 : List AOper := [
  ⟨(some (4)), .move (.const (.int .i64 3)), none, []⟩]
def k_cathode_atLeast : AFun := { params := 2, ntmps := 15, body := (.seq (.reg k_cathode_atLeast_r0 false) (.seq (.block 0 (.seq (.reg k_cathode_atLeast_r1 false) (.cond (.tmp 5) (.seq (.reg k_cathode_atLeast_r2 false) .ret) (.seq (.reg k_cathode_atLeast_r3 false) (.cond (.tmp 10) (.seq (.reg k_cathode_atLeast_r4 false) .ret) .skip))))) (.seq (.reg k_cathode_atLeast_r5 false) .ret))), res := [.tmp 4] }
theorem k_cathode_atLeast_ok : cfun Try.prog Try.f136 = k_cathode_atLeast := by kernel_rfl


abbrev n_law03_awake : Nat := 18
theorem e_law03_awake : EntryOK Try.prog n_law03_awake k_law03_awake := ⟨Try.f18, Try.func18, k_law03_awake_ok, by kernel_rfl⟩
abbrev n_kit_NewDice : Nat := 19
theorem e_kit_NewDice : EntryOK Try.prog n_kit_NewDice k_kit_NewDice := ⟨Try.f19, Try.func19, k_kit_NewDice_ok, by kernel_rfl⟩
abbrev n_kit_CoatOf : Nat := 20
theorem e_kit_CoatOf : EntryOK Try.prog n_kit_CoatOf k_kit_CoatOf := ⟨Try.f20, Try.func20, k_kit_CoatOf_ok, by kernel_rfl⟩
abbrev n_kit_ScheduleOf : Nat := 21
theorem e_kit_ScheduleOf : EntryOK Try.prog n_kit_ScheduleOf k_kit_ScheduleOf := ⟨Try.f21, Try.func21, k_kit_ScheduleOf_ok, by kernel_rfl⟩
abbrev n_kit_Dice_One : Nat := 22
theorem e_kit_Dice_One : EntryOK Try.prog n_kit_Dice_One k_kit_Dice_One := ⟨Try.f22, Try.func22, k_kit_Dice_One_ok, by kernel_rfl⟩
abbrev n_kit_Dice_Upto : Nat := 23
theorem e_kit_Dice_Upto : EntryOK Try.prog n_kit_Dice_Upto k_kit_Dice_Upto := ⟨Try.f23, Try.func23, k_kit_Dice_Upto_ok, by kernel_rfl⟩
abbrev n_ref03_Copy : Nat := 24
theorem e_ref03_Copy : EntryOK Try.prog n_ref03_Copy k_ref03_Copy := ⟨Try.f24, Try.func24, k_ref03_Copy_ok, by kernel_rfl⟩
abbrev n_cathode_Check : Nat := 25
theorem e_cathode_Check : EntryOK Try.prog n_cathode_Check k_cathode_Check := ⟨Try.f25, Try.func25, k_cathode_Check_ok, by kernel_rfl⟩
abbrev n_cathode_CheckCoating : Nat := 27
theorem e_cathode_CheckCoating : EntryOK Try.prog n_cathode_CheckCoating k_cathode_CheckCoating := ⟨Try.f27, Try.func27, k_cathode_CheckCoating_ok, by kernel_rfl⟩
abbrev n_cathode_CheckSchedule : Nat := 29
theorem e_cathode_CheckSchedule : EntryOK Try.prog n_cathode_CheckSchedule k_cathode_CheckSchedule := ⟨Try.f29, Try.func29, k_cathode_CheckSchedule_ok, by kernel_rfl⟩
abbrev n_cathode_Fresh : Nat := 35
theorem e_cathode_Fresh : EntryOK Try.prog n_cathode_Fresh k_cathode_Fresh := ⟨Try.f35, Try.func35, k_cathode_Fresh_ok, by kernel_rfl⟩
abbrev n_cathode_Tick : Nat := 37
theorem e_cathode_Tick : EntryOK Try.prog n_cathode_Tick k_cathode_Tick := ⟨Try.f37, Try.func37, k_cathode_Tick_ok, by kernel_rfl⟩
abbrev n_cathode_Follow : Nat := 39
theorem e_cathode_Follow : EntryOK Try.prog n_cathode_Follow k_cathode_Follow := ⟨Try.f39, Try.func39, k_cathode_Follow_ok, by kernel_rfl⟩
abbrev n_kit_Mod : Nat := 42
theorem e_kit_Mod : EntryOK Try.prog n_kit_Mod k_kit_Mod := ⟨Try.f42, Try.func42, k_kit_Mod_ok, by kernel_rfl⟩
abbrev n_cathode_Possible : Nat := 43
theorem e_cathode_Possible : EntryOK Try.prog n_cathode_Possible k_cathode_Possible := ⟨Try.f43, Try.func43, k_cathode_Possible_ok, by kernel_rfl⟩
abbrev n_cathode_Judge : Nat := 46
theorem e_cathode_Judge : EntryOK Try.prog n_cathode_Judge k_cathode_Judge := ⟨Try.f46, Try.func46, k_cathode_Judge_ok, by kernel_rfl⟩
abbrev n_law03_sample : Nat := 51
theorem e_law03_sample : EntryOK Try.prog n_law03_sample k_law03_sample := ⟨Try.f51, Try.func51, k_law03_sample_ok, by kernel_rfl⟩
abbrev n_law03_span : Nat := 52
theorem e_law03_span : EntryOK Try.prog n_law03_span k_law03_span := ⟨Try.f52, Try.func52, k_law03_span_ok, by kernel_rfl⟩
abbrev n_law03_hot : Nat := 53
theorem e_law03_hot : EntryOK Try.prog n_law03_hot k_law03_hot := ⟨Try.f53, Try.func53, k_law03_hot_ok, by kernel_rfl⟩
abbrev n_cathode_Emission : Nat := 54
theorem e_cathode_Emission : EntryOK Try.prog n_cathode_Emission k_cathode_Emission := ⟨Try.f54, Try.func54, k_cathode_Emission_ok, by kernel_rfl⟩
abbrev n_cathode_Life : Nat := 55
theorem e_cathode_Life : EntryOK Try.prog n_cathode_Life k_cathode_Life := ⟨Try.f55, Try.func55, k_cathode_Life_ok, by kernel_rfl⟩
abbrev n_kit_Within : Nat := 61
theorem e_kit_Within : EntryOK Try.prog n_kit_Within k_kit_Within := ⟨Try.f61, Try.func61, k_kit_Within_ok, by kernel_rfl⟩
abbrev n_kit_Dice_Between : Nat := 64
theorem e_kit_Dice_Between : EntryOK Try.prog n_kit_Dice_Between k_kit_Dice_Between := ⟨Try.f64, Try.func64, k_kit_Dice_Between_ok, by kernel_rfl⟩
abbrev n_kit_Dice_next : Nat := 65
theorem e_kit_Dice_next : EntryOK Try.prog n_kit_Dice_next k_kit_Dice_next := ⟨Try.f65, Try.func65, k_kit_Dice_next_ok, by kernel_rfl⟩
abbrev n_kit_rate : Nat := 66
theorem e_kit_rate : EntryOK Try.prog n_kit_rate k_kit_rate := ⟨Try.f66, Try.func66, k_kit_rate_ok, by kernel_rfl⟩
abbrev n_cathode_within : Nat := 67
theorem e_cathode_within : EntryOK Try.prog n_cathode_within k_cathode_within := ⟨Try.f67, Try.func67, k_cathode_within_ok, by kernel_rfl⟩
abbrev n_cathode_checkRanges : Nat := 68
theorem e_cathode_checkRanges : EntryOK Try.prog n_cathode_checkRanges k_cathode_checkRanges := ⟨Try.f68, Try.func68, k_cathode_checkRanges_ok, by kernel_rfl⟩
abbrev n_cathode_rightHeat : Nat := 72
theorem e_cathode_rightHeat : EntryOK Try.prog n_cathode_rightHeat k_cathode_rightHeat := ⟨Try.f72, Try.func72, k_cathode_rightHeat_ok, by kernel_rfl⟩
abbrev n_cathode_rightCurrent : Nat := 73
theorem e_cathode_rightCurrent : EntryOK Try.prog n_cathode_rightCurrent k_cathode_rightCurrent := ⟨Try.f73, Try.func73, k_cathode_rightCurrent_ok, by kernel_rfl⟩
abbrev n_cathode_length : Nat := 74
theorem e_cathode_length : EntryOK Try.prog n_cathode_length k_cathode_length := ⟨Try.f74, Try.func74, k_cathode_length_ok, by kernel_rfl⟩
abbrev n_cathode_fresh : Nat := 78
theorem e_cathode_fresh : EntryOK Try.prog n_cathode_fresh k_cathode_fresh := ⟨Try.f78, Try.func78, k_cathode_fresh_ok, by kernel_rfl⟩
abbrev n_cathode_checkTick : Nat := 80
theorem e_cathode_checkTick : EntryOK Try.prog n_cathode_checkTick k_cathode_checkTick := ⟨Try.f80, Try.func80, k_cathode_checkTick_ok, by kernel_rfl⟩
abbrev n_cathode_after : Nat := 81
theorem e_cathode_after : EntryOK Try.prog n_cathode_after k_cathode_after := ⟨Try.f81, Try.func81, k_cathode_after_ok, by kernel_rfl⟩
abbrev n_cathode_ticks : Nat := 86
theorem e_cathode_ticks : EntryOK Try.prog n_cathode_ticks k_cathode_ticks := ⟨Try.f86, Try.func86, k_cathode_ticks_ok, by kernel_rfl⟩
abbrev n_cathode_moved : Nat := 87
theorem e_cathode_moved : EntryOK Try.prog n_cathode_moved k_cathode_moved := ⟨Try.f87, Try.func87, k_cathode_moved_ok, by kernel_rfl⟩
abbrev n_cathode_follows : Nat := 88
theorem e_cathode_follows : EntryOK Try.prog n_cathode_follows k_cathode_follows := ⟨Try.f88, Try.func88, k_cathode_follows_ok, by kernel_rfl⟩
abbrev n_cathode_ratesAt : Nat := 89
theorem e_cathode_ratesAt : EntryOK Try.prog n_cathode_ratesAt k_cathode_ratesAt := ⟨Try.f89, Try.func89, k_cathode_ratesAt_ok, by kernel_rfl⟩
abbrev n_cathode_checkDemand : Nat := 93
theorem e_cathode_checkDemand : EntryOK Try.prog n_cathode_checkDemand k_cathode_checkDemand := ⟨Try.f93, Try.func93, k_cathode_checkDemand_ok, by kernel_rfl⟩
abbrev n_cathode_judge : Nat := 94
theorem e_cathode_judge : EntryOK Try.prog n_cathode_judge k_cathode_judge := ⟨Try.f94, Try.func94, k_cathode_judge_ok, by kernel_rfl⟩
abbrev n_cathode_parts : Nat := 103
theorem e_cathode_parts : EntryOK Try.prog n_cathode_parts k_cathode_parts := ⟨Try.f103, Try.func103, k_cathode_parts_ok, by kernel_rfl⟩
abbrev n_kit_Dice_Range : Nat := 104
theorem e_kit_Dice_Range : EntryOK Try.prog n_kit_Dice_Range k_kit_Dice_Range := ⟨Try.f104, Try.func104, k_kit_Dice_Range_ok, by kernel_rfl⟩
abbrev n_cathode_tick_gas : Nat := 105
theorem e_cathode_tick_gas : EntryOK Try.prog n_cathode_tick_gas k_cathode_tick_gas := ⟨Try.f105, Try.func105, k_cathode_tick_gas_ok, by kernel_rfl⟩
abbrev n_cathode_tick_carbonate : Nat := 106
theorem e_cathode_tick_carbonate : EntryOK Try.prog n_cathode_tick_carbonate k_cathode_tick_carbonate := ⟨Try.f106, Try.func106, k_cathode_tick_carbonate_ok, by kernel_rfl⟩
abbrev n_cathode_tick_oxide : Nat := 107
theorem e_cathode_tick_oxide : EntryOK Try.prog n_cathode_tick_oxide k_cathode_tick_oxide := ⟨Try.f107, Try.func107, k_cathode_tick_oxide_ok, by kernel_rfl⟩
abbrev n_cathode_tick_barium : Nat := 108
theorem e_cathode_tick_barium : EntryOK Try.prog n_cathode_tick_barium k_cathode_tick_barium := ⟨Try.f108, Try.func108, k_cathode_tick_barium_ok, by kernel_rfl⟩
abbrev n_cathode_tick_lost : Nat := 109
theorem e_cathode_tick_lost : EntryOK Try.prog n_cathode_tick_lost k_cathode_tick_lost := ⟨Try.f109, Try.func109, k_cathode_tick_lost_ok, by kernel_rfl⟩
abbrev n_cathode_tick_wear : Nat := 110
theorem e_cathode_tick_wear : EntryOK Try.prog n_cathode_tick_wear k_cathode_tick_wear := ⟨Try.f110, Try.func110, k_cathode_tick_wear_ok, by kernel_rfl⟩
abbrev n_cathode_ticks_1 : Nat := 113
theorem e_cathode_ticks_1 : EntryOK Try.prog n_cathode_ticks_1 k_cathode_ticks_1 := ⟨Try.f113, Try.func113, k_cathode_ticks_1_ok, by kernel_rfl⟩
abbrev n_cathode_isIn : Nat := 114
theorem e_cathode_isIn : EntryOK Try.prog n_cathode_isIn k_cathode_isIn := ⟨Try.f114, Try.func114, k_cathode_isIn_ok, by kernel_rfl⟩
abbrev n_cathode_remains : Nat := 115
theorem e_cathode_remains : EntryOK Try.prog n_cathode_remains k_cathode_remains := ⟨Try.f115, Try.func115, k_cathode_remains_ok, by kernel_rfl⟩
abbrev n_cathode_alone : Nat := 116
theorem e_cathode_alone : EntryOK Try.prog n_cathode_alone k_cathode_alone := ⟨Try.f116, Try.func116, k_cathode_alone_ok, by kernel_rfl⟩
abbrev n_cathode_sum : Nat := 117
theorem e_cathode_sum : EntryOK Try.prog n_cathode_sum k_cathode_sum := ⟨Try.f117, Try.func117, k_cathode_sum_ok, by kernel_rfl⟩
abbrev n_sort_Search : Nat := 118
theorem e_sort_Search : EntryOK Try.prog n_sort_Search k_sort_Search := ⟨Try.f118, Try.func118, k_sort_Search_ok, by kernel_rfl⟩
abbrev n_cathode_ratesAt_1 : Nat := 119
theorem e_cathode_ratesAt_1 : EntryOK Try.prog n_cathode_ratesAt_1 k_cathode_ratesAt_1 := ⟨Try.f119, Try.func119, k_cathode_ratesAt_1_ok, by kernel_rfl⟩
abbrev n_cathode_looksOf : Nat := 120
theorem e_cathode_looksOf : EntryOK Try.prog n_cathode_looksOf k_cathode_looksOf := ⟨Try.f120, Try.func120, k_cathode_looksOf_ok, by kernel_rfl⟩
abbrev n_cathode_judge_1 : Nat := 121
theorem e_cathode_judge_1 : EntryOK Try.prog n_cathode_judge_1 k_cathode_judge_1 := ⟨Try.f121, Try.func121, k_cathode_judge_1_ok, by kernel_rfl⟩
abbrev n_cathode_looks_all : Nat := 122
theorem e_cathode_looks_all : EntryOK Try.prog n_cathode_looks_all k_cathode_looks_all := ⟨Try.f122, Try.func122, k_cathode_looks_all_ok, by kernel_rfl⟩
abbrev n_cathode_partDown : Nat := 128
theorem e_cathode_partDown : EntryOK Try.prog n_cathode_partDown k_cathode_partDown := ⟨Try.f128, Try.func128, k_cathode_partDown_ok, by kernel_rfl⟩
abbrev n_cathode_partUp : Nat := 129
theorem e_cathode_partUp : EntryOK Try.prog n_cathode_partUp k_cathode_partUp := ⟨Try.f129, Try.func129, k_cathode_partUp_ok, by kernel_rfl⟩
abbrev n_cathode_looksOf_1 : Nat := 130
theorem e_cathode_looksOf_1 : EntryOK Try.prog n_cathode_looksOf_1 k_cathode_looksOf_1 := ⟨Try.f130, Try.func130, k_cathode_looksOf_1_ok, by kernel_rfl⟩
abbrev n_cathode_atMost : Nat := 131
theorem e_cathode_atMost : EntryOK Try.prog n_cathode_atMost k_cathode_atMost := ⟨Try.f131, Try.func131, k_cathode_atMost_ok, by kernel_rfl⟩
abbrev n_cathode_looksOf_2 : Nat := 132
theorem e_cathode_looksOf_2 : EntryOK Try.prog n_cathode_looksOf_2 k_cathode_looksOf_2 := ⟨Try.f132, Try.func132, k_cathode_looksOf_2_ok, by kernel_rfl⟩
abbrev n_cathode_looksOf_3 : Nat := 133
theorem e_cathode_looksOf_3 : EntryOK Try.prog n_cathode_looksOf_3 k_cathode_looksOf_3 := ⟨Try.f133, Try.func133, k_cathode_looksOf_3_ok, by kernel_rfl⟩
abbrev n_cathode_looksOf_4 : Nat := 134
theorem e_cathode_looksOf_4 : EntryOK Try.prog n_cathode_looksOf_4 k_cathode_looksOf_4 := ⟨Try.f134, Try.func134, k_cathode_looksOf_4_ok, by kernel_rfl⟩
abbrev n_cathode_looksOf_5 : Nat := 135
theorem e_cathode_looksOf_5 : EntryOK Try.prog n_cathode_looksOf_5 k_cathode_looksOf_5 := ⟨Try.f135, Try.func135, k_cathode_looksOf_5_ok, by kernel_rfl⟩
abbrev n_cathode_atLeast : Nat := 136
theorem e_cathode_atLeast : EntryOK Try.prog n_cathode_atLeast k_cathode_atLeast := ⟨Try.f136, Try.func136, k_cathode_atLeast_ok, by kernel_rfl⟩

@[go_sem] theorem mixed : Try.prog.follows .mixedOrders = true := by kernel_rfl
attribute [go_sem] k_law03_awake_r0 k_law03_awake_r1 k_law03_awake_r2 k_law03_awake_r3s k_kit_NewDice_r0 k_kit_NewDice_r1 k_kit_NewDice_r2 k_kit_NewDice_r3 k_kit_NewDice_r4s k_kit_NewDice_r5 k_kit_NewDice_r6 k_kit_NewDice_r8
attribute [go_sem] k_kit_CoatOf_r0 k_kit_CoatOf_r1s k_kit_CoatOf_r2 k_kit_CoatOf_r3 k_kit_CoatOf_r4 k_kit_CoatOf_r5 k_kit_CoatOf_r6s k_kit_CoatOf_r7 k_kit_CoatOf_r8 k_kit_CoatOf_r10 k_kit_ScheduleOf_r0 k_kit_ScheduleOf_r1
attribute [go_sem] k_kit_ScheduleOf_r2 k_kit_ScheduleOf_r3 k_kit_ScheduleOf_r4s k_kit_ScheduleOf_r5 k_kit_ScheduleOf_r7 k_kit_Dice_One_r0 k_kit_Dice_One_r1 k_kit_Dice_Upto_r0 k_kit_Dice_Upto_r1 k_kit_Dice_Upto_r2 k_kit_Dice_Upto_r3 k_kit_Dice_Upto_r4
attribute [go_sem] k_ref03_Copy_r0 k_ref03_Copy_r1 k_ref03_Copy_r2 k_cathode_Check_r0 k_cathode_Check_r1 k_cathode_Check_r2 k_cathode_Check_r3 k_cathode_Check_r4 k_cathode_Check_r5 k_cathode_Check_r6 k_cathode_Check_r7 k_cathode_Check_r8
attribute [go_sem] k_cathode_Check_r9 k_cathode_Check_r10 k_cathode_Check_r11 k_cathode_Check_r12 k_cathode_Check_r13 k_cathode_Check_r14 k_cathode_Check_r15s k_cathode_Check_r16 k_cathode_Check_r17 k_cathode_Check_r18 k_cathode_Check_r19 k_cathode_Check_r20
attribute [go_sem] k_cathode_Check_r22 k_cathode_CheckCoating_r0 k_cathode_CheckCoating_r1 k_cathode_CheckCoating_r2 k_cathode_CheckCoating_r3 k_cathode_CheckCoating_r4 k_cathode_CheckCoating_r5 k_cathode_CheckCoating_r6 k_cathode_CheckCoating_r7 k_cathode_CheckCoating_r8 k_cathode_CheckCoating_r9 k_cathode_CheckCoating_r10
attribute [go_sem] k_cathode_CheckCoating_r11 k_cathode_CheckCoating_r12 k_cathode_CheckSchedule_r0 k_cathode_CheckSchedule_r1 k_cathode_CheckSchedule_r2 k_cathode_CheckSchedule_r3 k_cathode_CheckSchedule_r4 k_cathode_CheckSchedule_r5 k_cathode_CheckSchedule_r6 k_cathode_CheckSchedule_r7 k_cathode_CheckSchedule_r8 k_cathode_CheckSchedule_r10
attribute [go_sem] k_cathode_CheckSchedule_r11 k_cathode_CheckSchedule_r12 k_cathode_Fresh_r0 k_cathode_Fresh_r1 k_cathode_Fresh_r2 k_cathode_Fresh_r3 k_cathode_Fresh_r4 k_cathode_Tick_r0 k_cathode_Tick_r1 k_cathode_Tick_r2 k_cathode_Tick_r3 k_cathode_Tick_r4
attribute [go_sem] k_cathode_Tick_r5 k_cathode_Tick_r6 k_cathode_Tick_r7 k_cathode_Follow_r0 k_cathode_Follow_r1 k_cathode_Follow_r2 k_cathode_Follow_r3 k_cathode_Follow_r4 k_cathode_Follow_r5 k_cathode_Follow_r6 k_cathode_Follow_r7 k_cathode_Follow_r8
attribute [go_sem] k_cathode_Follow_r9 k_cathode_Follow_r10 k_cathode_Follow_r11 k_cathode_Follow_r12 k_cathode_Follow_r13 k_cathode_Follow_r14 k_cathode_Follow_r15 k_cathode_Follow_r17 k_cathode_Follow_r18 k_cathode_Follow_r20 k_kit_Mod_r0 k_kit_Mod_r1
attribute [go_sem] k_kit_Mod_r2 k_kit_Mod_r3 k_kit_Mod_r4 k_kit_Mod_r5 k_kit_Mod_r6 k_cathode_Possible_r0 k_cathode_Possible_r1s k_cathode_Possible_r2 k_cathode_Possible_r3s k_cathode_Possible_r4 k_cathode_Possible_r5 k_cathode_Possible_r6
attribute [go_sem] k_cathode_Possible_r7 k_cathode_Possible_r8 k_cathode_Possible_r9 k_cathode_Possible_r10s k_cathode_Possible_r11 k_cathode_Possible_r14 k_cathode_Judge_r0 k_cathode_Judge_r1 k_cathode_Judge_r2 k_cathode_Judge_r3 k_cathode_Judge_r4 k_cathode_Judge_r5
attribute [go_sem] k_cathode_Judge_r6 k_cathode_Judge_r7 k_cathode_Judge_r8 k_law03_sample_r0 k_law03_sample_r1 k_law03_span_r0 k_law03_span_r1 k_law03_hot_r0 k_law03_hot_r1 k_cathode_Emission_r0 k_cathode_Emission_r1 k_cathode_Emission_r2
attribute [go_sem] k_cathode_Emission_r3 k_cathode_Emission_r4 k_cathode_Life_r0 k_cathode_Life_r1 k_cathode_Life_r2 k_cathode_Life_r3 k_cathode_Life_r4 k_cathode_Life_r5 k_cathode_Life_r6 k_cathode_Life_r7 k_cathode_Life_r8 k_cathode_Life_r9
attribute [go_sem] k_cathode_Life_r10 k_cathode_Life_r11 k_cathode_Life_r12 k_cathode_Life_r13 k_cathode_Life_r14 k_cathode_Life_r15 k_cathode_Life_r16 k_cathode_Life_r17 k_cathode_Life_r19 k_kit_Within_r0 k_kit_Within_r1 k_kit_Dice_Between_r0
attribute [go_sem] k_kit_Dice_Between_r1 k_kit_Dice_next_r0 k_kit_Dice_next_r1 k_kit_Dice_next_r2 k_kit_Dice_next_r3 k_kit_Dice_next_r4 k_kit_Dice_next_r5 k_kit_rate_r0 k_kit_rate_r1 k_kit_rate_r2 k_kit_rate_r3 k_kit_rate_r4
attribute [go_sem] k_kit_rate_r5 k_kit_rate_r6 k_kit_rate_r7 k_kit_rate_r8 k_cathode_within_r0 k_cathode_within_r1 k_cathode_checkRanges_r0 k_cathode_checkRanges_r1 k_cathode_checkRanges_r2 k_cathode_checkRanges_r3 k_cathode_checkRanges_r4 k_cathode_checkRanges_r5
attribute [go_sem] k_cathode_checkRanges_r6 k_cathode_checkRanges_r7 k_cathode_checkRanges_r8 k_cathode_checkRanges_r10 k_cathode_rightHeat_r0 k_cathode_rightHeat_r1 k_cathode_rightCurrent_r0 k_cathode_rightCurrent_r1 k_cathode_length_r0 k_cathode_length_r1 k_cathode_length_r2 k_cathode_length_r3
attribute [go_sem] k_cathode_length_r4 k_cathode_length_r5 k_cathode_length_r6 k_cathode_length_r8 k_cathode_fresh_r0 k_cathode_fresh_r1 k_cathode_checkTick_r0 k_cathode_checkTick_r1 k_cathode_checkTick_r2 k_cathode_checkTick_r3 k_cathode_checkTick_r4 k_cathode_checkTick_r5
attribute [go_sem] k_cathode_checkTick_r6 k_cathode_after_r0 k_cathode_after_r1 k_cathode_after_r2 k_cathode_after_r3 k_cathode_after_r4 k_cathode_after_r5 k_cathode_after_r6 k_cathode_after_r7 k_cathode_after_r8 k_cathode_after_r10 k_cathode_after_r11
attribute [go_sem] k_cathode_after_r12 k_cathode_after_r13s k_cathode_after_r14 k_cathode_after_r16 k_cathode_ticks_r0 k_cathode_ticks_r1 k_cathode_moved_r0 k_cathode_moved_r1 k_cathode_follows_r0 k_cathode_follows_r1s k_cathode_follows_r2 k_cathode_follows_r3
attribute [go_sem] k_cathode_follows_r4s k_cathode_follows_r5 k_cathode_follows_r6 k_cathode_follows_r7s k_cathode_follows_r8 k_cathode_follows_r9 k_cathode_follows_r10 k_cathode_ratesAt_r0 k_cathode_ratesAt_r1 k_cathode_ratesAt_r2 k_cathode_ratesAt_r3 k_cathode_ratesAt_r4
attribute [go_sem] k_cathode_ratesAt_r5 k_cathode_checkDemand_r0 k_cathode_checkDemand_r1 k_cathode_checkDemand_r2 k_cathode_checkDemand_r3 k_cathode_checkDemand_r4 k_cathode_checkDemand_r5 k_cathode_checkDemand_r6 k_cathode_checkDemand_r7 k_cathode_checkDemand_r8 k_cathode_checkDemand_r9 k_cathode_checkDemand_r11
attribute [go_sem] k_cathode_judge_r0 k_cathode_judge_r1 k_cathode_judge_r2 k_cathode_judge_r3 k_cathode_judge_r4 k_cathode_judge_r5 k_cathode_judge_r6 k_cathode_judge_r7 k_cathode_judge_r8 k_cathode_judge_r9s k_cathode_judge_r10s k_cathode_judge_r13s
attribute [go_sem] k_cathode_judge_r14s k_cathode_parts_r0 k_cathode_parts_r1s k_kit_Dice_Range_r0 k_kit_Dice_Range_r1 k_kit_Dice_Range_r2 k_cathode_tick_gas_r0s k_cathode_tick_carbonate_r0s k_cathode_tick_oxide_r0s k_cathode_tick_barium_r0s k_cathode_tick_lost_r0s k_cathode_tick_wear_r0s
attribute [go_sem] k_cathode_ticks_1_r0 k_cathode_ticks_1_r1 k_cathode_ticks_1_r2 k_cathode_ticks_1_r3 k_cathode_ticks_1_r4 k_cathode_ticks_1_r5 k_cathode_ticks_1_r6 k_cathode_ticks_1_r7 k_cathode_ticks_1_r8 k_cathode_ticks_1_r10 k_cathode_isIn_r0 k_cathode_isIn_r1
attribute [go_sem] k_cathode_remains_r0 k_cathode_remains_r1s k_cathode_alone_r0 k_cathode_alone_r1 k_cathode_sum_r0 k_cathode_sum_r1 k_sort_Search_r0 k_sort_Search_r1 k_sort_Search_r2 k_sort_Search_r3 k_sort_Search_r4 k_sort_Search_r5
attribute [go_sem] k_sort_Search_r6 k_sort_Search_r8 k_cathode_ratesAt_1_r0 k_cathode_ratesAt_1_r1s k_cathode_looksOf_r0 k_cathode_looksOf_r1 k_cathode_looksOf_r2 k_cathode_looksOf_r3 k_cathode_judge_1_r0 k_cathode_judge_1_r1 k_cathode_judge_1_r2 k_cathode_judge_1_r3
attribute [go_sem] k_cathode_looks_all_r0 k_cathode_looks_all_r1 k_cathode_looks_all_r2 k_cathode_looks_all_r3 k_cathode_looks_all_r4 k_cathode_looks_all_r5 k_cathode_looks_all_r6 k_cathode_looks_all_r7 k_cathode_looks_all_r8 k_cathode_looks_all_r9 k_cathode_looks_all_r10 k_cathode_looks_all_r12
attribute [go_sem] k_cathode_partDown_r0 k_cathode_partDown_r1 k_cathode_partUp_r0 k_cathode_partUp_r1 k_cathode_looksOf_1_r0 k_cathode_looksOf_1_r1 k_cathode_atMost_r0 k_cathode_atMost_r1 k_cathode_atMost_r2 k_cathode_atMost_r3 k_cathode_atMost_r4 k_cathode_atMost_r5
attribute [go_sem] k_cathode_looksOf_2_r0 k_cathode_looksOf_2_r1 k_cathode_looksOf_3_r0 k_cathode_looksOf_3_r1 k_cathode_looksOf_4_r0 k_cathode_looksOf_4_r1 k_cathode_looksOf_5_r0 k_cathode_looksOf_5_r1 k_cathode_atLeast_r0 k_cathode_atLeast_r1 k_cathode_atLeast_r2 k_cathode_atLeast_r3
attribute [go_sem] k_cathode_atLeast_r4 k_cathode_atLeast_r5 k_kit_NewDice_r4_sg k_cathode_tick_gas_r0_sg k_cathode_remains_r1_sg k_cathode_ratesAt_1_r1_sg k_cathode_judge_r9_sg k_cathode_tick_barium_r0_sg k_cathode_tick_lost_r0_sg k_cathode_follows_r1_sg k_cathode_Check_r15_sg k_cathode_judge_r13_sg
attribute [go_sem] k_cathode_follows_r4_sg k_kit_CoatOf_r1_sg k_cathode_judge_r10_sg k_kit_CoatOf_r6_sg k_kit_ScheduleOf_r4_sg k_cathode_tick_wear_r0_sg k_cathode_parts_r1_sg k_cathode_Possible_r10_sg k_cathode_after_r13_sg k_law03_awake_r3_sg k_cathode_follows_r7_sg k_cathode_Possible_r3_sg
attribute [go_sem] k_cathode_tick_carbonate_r0_sg k_cathode_tick_oxide_r0_sg k_cathode_Possible_r1_sg k_cathode_judge_r14_sg k_kit_NewDice_r4_st k_cathode_tick_gas_r0_st k_cathode_remains_r1_st k_cathode_ratesAt_1_r1_st k_cathode_judge_r9_st k_cathode_tick_barium_r0_st k_cathode_tick_lost_r0_st k_cathode_follows_r1_st
attribute [go_sem] k_cathode_Check_r15_st k_cathode_judge_r13_st k_cathode_follows_r4_st k_kit_CoatOf_r1_st k_cathode_judge_r10_st k_kit_CoatOf_r6_st k_kit_ScheduleOf_r4_st k_cathode_tick_wear_r0_st k_cathode_parts_r1_st k_cathode_Possible_r10_st k_cathode_after_r13_st k_law03_awake_r3_st
attribute [go_sem] k_cathode_follows_r7_st k_cathode_Possible_r3_st k_cathode_tick_carbonate_r0_st k_cathode_tick_oxide_r0_st k_cathode_Possible_r1_st k_cathode_judge_r14_st k_law03_awake k_kit_NewDice k_kit_CoatOf k_kit_ScheduleOf k_kit_Dice_One k_kit_Dice_Upto
attribute [go_sem] k_ref03_Copy k_cathode_Check k_cathode_CheckCoating k_cathode_CheckSchedule k_cathode_Fresh k_cathode_Tick k_cathode_Follow k_kit_Mod k_cathode_Possible k_cathode_Judge k_law03_sample k_law03_span
attribute [go_sem] k_law03_hot k_cathode_Emission k_cathode_Life k_kit_Within k_kit_Dice_Between k_kit_Dice_next k_kit_rate k_cathode_within k_cathode_checkRanges k_cathode_rightHeat k_cathode_rightCurrent k_cathode_length
attribute [go_sem] k_cathode_fresh k_cathode_checkTick k_cathode_after k_cathode_ticks k_cathode_moved k_cathode_follows k_cathode_ratesAt k_cathode_checkDemand k_cathode_judge k_cathode_parts k_kit_Dice_Range k_cathode_tick_gas
attribute [go_sem] k_cathode_tick_carbonate k_cathode_tick_oxide k_cathode_tick_barium k_cathode_tick_lost k_cathode_tick_wear k_cathode_ticks_1 k_cathode_isIn k_cathode_remains k_cathode_alone k_cathode_sum k_sort_Search k_cathode_ratesAt_1
attribute [go_sem] k_cathode_looksOf k_cathode_judge_1 k_cathode_looks_all k_cathode_partDown k_cathode_partUp k_cathode_looksOf_1 k_cathode_atMost k_cathode_looksOf_2 k_cathode_looksOf_3 k_cathode_looksOf_4 k_cathode_looksOf_5 k_cathode_atLeast
def tabL : List (Nat × AFun) := [(18, k_law03_awake), (19, k_kit_NewDice), (20, k_kit_CoatOf), (21, k_kit_ScheduleOf), (22, k_kit_Dice_One), (23, k_kit_Dice_Upto), (24, k_ref03_Copy), (25, k_cathode_Check), (27, k_cathode_CheckCoating), (29, k_cathode_CheckSchedule), (35, k_cathode_Fresh), (37, k_cathode_Tick), (39, k_cathode_Follow), (42, k_kit_Mod), (43, k_cathode_Possible), (46, k_cathode_Judge), (51, k_law03_sample), (52, k_law03_span), (53, k_law03_hot), (54, k_cathode_Emission), (55, k_cathode_Life), (61, k_kit_Within), (64, k_kit_Dice_Between), (65, k_kit_Dice_next), (66, k_kit_rate), (67, k_cathode_within), (68, k_cathode_checkRanges), (72, k_cathode_rightHeat), (73, k_cathode_rightCurrent), (74, k_cathode_length), (78, k_cathode_fresh), (80, k_cathode_checkTick), (81, k_cathode_after), (86, k_cathode_ticks), (87, k_cathode_moved), (88, k_cathode_follows), (89, k_cathode_ratesAt), (93, k_cathode_checkDemand), (94, k_cathode_judge), (103, k_cathode_parts), (104, k_kit_Dice_Range), (105, k_cathode_tick_gas), (106, k_cathode_tick_carbonate), (107, k_cathode_tick_oxide), (108, k_cathode_tick_barium), (109, k_cathode_tick_lost), (110, k_cathode_tick_wear), (113, k_cathode_ticks_1), (114, k_cathode_isIn), (115, k_cathode_remains), (116, k_cathode_alone), (117, k_cathode_sum), (118, k_sort_Search), (119, k_cathode_ratesAt_1), (120, k_cathode_looksOf), (121, k_cathode_judge_1), (122, k_cathode_looks_all), (128, k_cathode_partDown), (129, k_cathode_partUp), (130, k_cathode_looksOf_1), (131, k_cathode_atMost), (132, k_cathode_looksOf_2), (133, k_cathode_looksOf_3), (134, k_cathode_looksOf_4), (135, k_cathode_looksOf_5), (136, k_cathode_atLeast)]
def tabGet : List (Nat × AFun) → Nat → Option AFun
  | [], _ => none
  | (n, c) :: l, g => if Nat.beq n g = true then some c else tabGet l g
def tab (g : Nat) : Option AFun := tabGet tabL g
def AllOK : List (Nat × AFun) → Prop
  | [] => True
  | p :: l => EntryOK Try.prog p.1 p.2 ∧ AllOK l
theorem AllOK.get : ∀ {l : List (Nat × AFun)}, AllOK l → ∀ p ∈ l, EntryOK Try.prog p.1 p.2
  | [], _, p, h => by simp at h
  | q :: l, h, p, hp => by
    rcases List.mem_cons.1 hp with rfl | hp
    · exact h.1
    · exact AllOK.get h.2 p hp
theorem tab_all : ∀ p ∈ tabL, EntryOK Try.prog p.1 p.2 := AllOK.get (l := tabL) (⟨e_law03_awake, ⟨e_kit_NewDice, ⟨e_kit_CoatOf, ⟨e_kit_ScheduleOf, ⟨e_kit_Dice_One, ⟨e_kit_Dice_Upto, ⟨e_ref03_Copy, ⟨e_cathode_Check, ⟨e_cathode_CheckCoating, ⟨e_cathode_CheckSchedule, ⟨e_cathode_Fresh, ⟨e_cathode_Tick, ⟨e_cathode_Follow, ⟨e_kit_Mod, ⟨e_cathode_Possible, ⟨e_cathode_Judge, ⟨e_law03_sample, ⟨e_law03_span, ⟨e_law03_hot, ⟨e_cathode_Emission, ⟨e_cathode_Life, ⟨e_kit_Within, ⟨e_kit_Dice_Between, ⟨e_kit_Dice_next, ⟨e_kit_rate, ⟨e_cathode_within, ⟨e_cathode_checkRanges, ⟨e_cathode_rightHeat, ⟨e_cathode_rightCurrent, ⟨e_cathode_length, ⟨e_cathode_fresh, ⟨e_cathode_checkTick, ⟨e_cathode_after, ⟨e_cathode_ticks, ⟨e_cathode_moved, ⟨e_cathode_follows, ⟨e_cathode_ratesAt, ⟨e_cathode_checkDemand, ⟨e_cathode_judge, ⟨e_cathode_parts, ⟨e_kit_Dice_Range, ⟨e_cathode_tick_gas, ⟨e_cathode_tick_carbonate, ⟨e_cathode_tick_oxide, ⟨e_cathode_tick_barium, ⟨e_cathode_tick_lost, ⟨e_cathode_tick_wear, ⟨e_cathode_ticks_1, ⟨e_cathode_isIn, ⟨e_cathode_remains, ⟨e_cathode_alone, ⟨e_cathode_sum, ⟨e_sort_Search, ⟨e_cathode_ratesAt_1, ⟨e_cathode_looksOf, ⟨e_cathode_judge_1, ⟨e_cathode_looks_all, ⟨e_cathode_partDown, ⟨e_cathode_partUp, ⟨e_cathode_looksOf_1, ⟨e_cathode_atMost, ⟨e_cathode_looksOf_2, ⟨e_cathode_looksOf_3, ⟨e_cathode_looksOf_4, ⟨e_cathode_looksOf_5, ⟨e_cathode_atLeast, trivial⟩⟩⟩⟩⟩⟩⟩⟩⟩⟩⟩⟩⟩⟩⟩⟩⟩⟩⟩⟩⟩⟩⟩⟩⟩⟩⟩⟩⟩⟩⟩⟩⟩⟩⟩⟩⟩⟩⟩⟩⟩⟩⟩⟩⟩⟩⟩⟩⟩⟩⟩⟩⟩⟩⟩⟩⟩⟩⟩⟩⟩⟩⟩⟩⟩⟩)
theorem tabGet_mem : ∀ (l : List (Nat × AFun)) (g : Nat) (c : AFun), tabGet l g = some c → (g, c) ∈ l
  | [], _, _, h => by cases h
  | (n, c') :: l, g, c, h => by
    simp only [tabGet] at h
    split at h
    · rename_i hn
      cases h
      rw [Nat.eq_of_beq_eq_true hn]; exact List.mem_cons_self
    · exact List.mem_cons_of_mem _ (tabGet_mem l g c h)
theorem tab_ok (g : Nat) (af : AFun) (h : tab g = some af) : EntryOK Try.prog g af := by
  have h2 := tab_all _ (tabGet_mem _ _ _ h)
  exact h2
end Go.Proofs

