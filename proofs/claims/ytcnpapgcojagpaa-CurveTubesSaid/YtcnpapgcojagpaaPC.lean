/- A part of the proof. -/
import Derived.Test.YtcnpapgcojagpaaPB
set_option linter.unusedSimpArgs false
set_option linter.unusedVariables false
namespace Go.Proofs
open Go Go.Sx

end Go.Proofs

namespace Go.Proofs
open Go Go.Sx

end Go.Proofs

namespace Go.Proofs
open Go Go.Sx

def k_curve_Slope_r0 : List AOper := [
  ⟨(some (3)), .box (.tmp 0), none, []⟩, 
  ⟨(some (6)), .box (.const (.agg [.int .i64 0, .int .i64 0])), none, []⟩, 
  ⟨(some (7)), .move (.const (.int .i64 0)), none, []⟩]
def k_curve_Slope_r1 : List AOper := [
  ⟨(some (9)), .load (some (4)) (.tmp 3), none, []⟩, 
  ⟨(some (10)), .call (.const (.fn (.func 27) [] [])) [.tmp 9], none, []⟩, 
  ⟨(some (8)), .move (.tmp 10), none, []⟩]
def k_curve_Slope_r2 : List AOper := [
  ⟨(some (11)), .move (.tmp 8), none, []⟩, 
  ⟨(some (12)), .bin .plain .neq (.tmp 11) (.const (.int .i64 0)), none, []⟩]
def k_curve_Slope_r3 : List AOper := [
  ⟨(some (13)), .build [.int .i64 0, .int .i64 0] [], none, []⟩, 
  ⟨(some (14)), .move (.tmp 8), none, []⟩, 
  ⟨none, .store 2 (.tmp 6) (.tmp 13), none, []⟩, 
  ⟨(some (7)), .move (.tmp 14), none, []⟩]
def k_curve_Slope_r4 : List AOper := [
  ⟨(some (15)), .fieldAddr 0 (.tmp 3), none, []⟩, 
  ⟨(some (16)), .load none (.tmp 15), none, []⟩, 
  ⟨(some (17)), .move (.tmp 1), none, []⟩, 
  ⟨(some (18)), .call (.const (.fn (.func 93) [] [])) [.tmp 16, .tmp 17], none, []⟩, 
  ⟨(some (19)), .not (.tmp 18), none, []⟩]
def k_curve_Slope_r5 : List AOper := [
  ⟨(some (20)), .build [.int .i64 0, .int .i64 0] [], none, []⟩, 
  ⟨none, .store 2 (.tmp 6) (.tmp 20), none, []⟩, 
  ⟨(some (7)), .move (.const (.int .i64 7)), none, []⟩]
def k_curve_Slope_r6 : List AOper := [
  ⟨(some (21)), .move (.tmp 2), none, []⟩, 
  ⟨(some (22)), .call (.const (.fn (.func 82) [] [])) [.tmp 21], none, []⟩, 
  ⟨(some (23)), .not (.tmp 22), none, []⟩]
def k_curve_Slope_r7 : List AOper := [
  ⟨(some (24)), .build [.int .i64 0, .int .i64 0] [], none, []⟩, 
  ⟨none, .store 2 (.tmp 6) (.tmp 24), none, []⟩, 
  ⟨(some (7)), .move (.const (.int .i64 2)), none, []⟩]
def k_curve_Slope_r8 : List AOper := [
  ⟨(some (25)), .load (some (4)) (.tmp 3), none, []⟩, 
  ⟨(some (26)), .move (.tmp 1), none, []⟩, 
  ⟨(some (27)), .move (.tmp 2), none, []⟩, 
  ⟨(some (28)), .call (.const (.fn (.func 94) [] [])) [.tmp 25, .tmp 26, .tmp 27], none, []⟩, 
  ⟨none, .store 2 (.tmp 6) (.tmp 28), none, []⟩, 
  ⟨(some (7)), .move (.const (.int .i64 0)), none, []⟩]
def k_curve_Slope : AFun := { params := 3, ntmps := 29, body := (.seq (.reg k_curve_Slope_r0 false) (.seq (.seq (.reg k_curve_Slope_r1 false) (.seq (.reg k_curve_Slope_r2 false) (.cond (.tmp 12) (.seq (.reg k_curve_Slope_r3 false) .ret) .skip))) (.seq (.seq (.reg k_curve_Slope_r4 false) (.cond (.tmp 19) (.seq (.reg k_curve_Slope_r5 false) .ret) .skip)) (.seq (.seq (.reg k_curve_Slope_r6 false) (.cond (.tmp 23) (.seq (.reg k_curve_Slope_r7 false) .ret) .skip)) (.seq (.reg k_curve_Slope_r8 false) .ret))))), res := [.cell 6 (some ((some (2)))), .tmp 7] }
theorem k_curve_Slope_ok : cfun Try.prog Try.f41 = k_curve_Slope := by kernel_rfl

def k_curve_Yield_r0 : List AOper := [
  ⟨(some (3)), .box (.tmp 0), none, []⟩, 
  ⟨(some (6)), .box (.const (.agg [.int .i64 0, .int .i64 0])), none, []⟩, 
  ⟨(some (7)), .move (.const (.int .i64 0)), none, []⟩]
def k_curve_Yield_r1 : List AOper := [
  ⟨(some (9)), .load (some (4)) (.tmp 3), none, []⟩, 
  ⟨(some (10)), .call (.const (.fn (.func 27) [] [])) [.tmp 9], none, []⟩, 
  ⟨(some (8)), .move (.tmp 10), none, []⟩]
def k_curve_Yield_r2 : List AOper := [
  ⟨(some (11)), .move (.tmp 8), none, []⟩, 
  ⟨(some (12)), .bin .plain .neq (.tmp 11) (.const (.int .i64 0)), none, []⟩]
def k_curve_Yield_r3 : List AOper := [
  ⟨(some (13)), .build [.int .i64 0, .int .i64 0] [], none, []⟩, 
  ⟨(some (14)), .move (.tmp 8), none, []⟩, 
  ⟨none, .store 2 (.tmp 6) (.tmp 13), none, []⟩, 
  ⟨(some (7)), .move (.tmp 14), none, []⟩]
def k_curve_Yield_r4 : List AOper := [
  ⟨(some (15)), .move (.tmp 1), none, []⟩, 
  ⟨(some (16)), .call (.const (.fn (.func 81) [] [])) [.tmp 15], none, []⟩, 
  ⟨(some (17)), .not (.tmp 16), none, []⟩]
def k_curve_Yield_r5 : List AOper := [
  ⟨(some (18)), .build [.int .i64 0, .int .i64 0] [], none, []⟩, 
  ⟨none, .store 2 (.tmp 6) (.tmp 18), none, []⟩, 
  ⟨(some (7)), .move (.const (.int .i64 2)), none, []⟩]
def k_curve_Yield_r6 : List AOper := [
  ⟨(some (19)), .fieldAddr 1 (.tmp 3), none, []⟩, 
  ⟨(some (20)), .load none (.tmp 19), none, []⟩, 
  ⟨(some (21)), .move (.tmp 2), none, []⟩, 
  ⟨(some (22)), .call (.const (.fn (.func 93) [] [])) [.tmp 20, .tmp 21], none, []⟩, 
  ⟨(some (23)), .not (.tmp 22), none, []⟩]
def k_curve_Yield_r7 : List AOper := [
  ⟨(some (24)), .build [.int .i64 0, .int .i64 0] [], none, []⟩, 
  ⟨none, .store 2 (.tmp 6) (.tmp 24), none, []⟩, 
  ⟨(some (7)), .move (.const (.int .i64 7)), none, []⟩]
def k_curve_Yield_r8 : List AOper := [
  ⟨(some (25)), .load (some (4)) (.tmp 3), none, []⟩, 
  ⟨(some (26)), .move (.tmp 1), none, []⟩, 
  ⟨(some (27)), .move (.tmp 2), none, []⟩, 
  ⟨(some (28)), .call (.const (.fn (.func 96) [] [])) [.tmp 25, .tmp 26, .tmp 27], none, []⟩, 
  ⟨none, .store 2 (.tmp 6) (.tmp 28), none, []⟩, 
  ⟨(some (7)), .move (.const (.int .i64 0)), none, []⟩]
def k_curve_Yield : AFun := { params := 3, ntmps := 29, body := (.seq (.reg k_curve_Yield_r0 false) (.seq (.seq (.reg k_curve_Yield_r1 false) (.seq (.reg k_curve_Yield_r2 false) (.cond (.tmp 12) (.seq (.reg k_curve_Yield_r3 false) .ret) .skip))) (.seq (.seq (.reg k_curve_Yield_r4 false) (.cond (.tmp 17) (.seq (.reg k_curve_Yield_r5 false) .ret) .skip)) (.seq (.seq (.reg k_curve_Yield_r6 false) (.cond (.tmp 23) (.seq (.reg k_curve_Yield_r7 false) .ret) .skip)) (.seq (.reg k_curve_Yield_r8 false) .ret))))), res := [.cell 6 (some ((some (2)))), .tmp 7] }
theorem k_curve_Yield_ok : cfun Try.prog Try.f43 = k_curve_Yield := by kernel_rfl

def k_curve_Gain_r0 : List AOper := [
  ⟨(some (3)), .box (.tmp 0), none, []⟩, 
  ⟨(some (6)), .box (.const (.agg [.int .i64 0, .int .i64 0])), none, []⟩, 
  ⟨(some (7)), .move (.const (.int .i64 0)), none, []⟩]
def k_curve_Gain_r1 : List AOper := [
  ⟨(some (11)), .load (some (4)) (.tmp 3), none, []⟩, 
  ⟨(some (12)), .call (.const (.fn (.func 27) [] [])) [.tmp 11], none, []⟩, 
  ⟨(some (8)), .move (.tmp 12), none, []⟩]
def k_curve_Gain_r2 : List AOper := [
  ⟨(some (13)), .move (.tmp 8), none, []⟩, 
  ⟨(some (14)), .bin .plain .neq (.tmp 13) (.const (.int .i64 0)), none, []⟩]
def k_curve_Gain_r3 : List AOper := [
  ⟨(some (15)), .build [.int .i64 0, .int .i64 0] [], none, []⟩, 
  ⟨(some (16)), .move (.tmp 8), none, []⟩, 
  ⟨none, .store 2 (.tmp 6) (.tmp 15), none, []⟩, 
  ⟨(some (7)), .move (.tmp 16), none, []⟩]
def k_curve_Gain_r4 : List AOper := [
  ⟨(some (17)), .fieldAddr 0 (.tmp 3), none, []⟩, 
  ⟨(some (18)), .load none (.tmp 17), none, []⟩, 
  ⟨(some (19)), .move (.tmp 1), none, []⟩, 
  ⟨(some (20)), .call (.const (.fn (.func 93) [] [])) [.tmp 18, .tmp 19], none, []⟩, 
  ⟨(some (21)), .not (.tmp 20), none, []⟩, 
  ⟨(some (22)), .move (.tmp 21), none, []⟩, 
  ⟨(some (23)), .fieldAddr 1 (.tmp 3), (some (22, false)), []⟩, 
  ⟨(some (24)), .load none (.tmp 23), (some (22, false)), []⟩, 
  ⟨(some (25)), .move (.tmp 2), (some (22, false)), []⟩, 
  ⟨(some (26)), .call (.const (.fn (.func 93) [] [])) [.tmp 24, .tmp 25], (some (22, false)), []⟩, 
  ⟨(some (27)), .not (.tmp 26), (some (22, false)), []⟩, 
  ⟨(some (28)), .pick (.tmp 22) (.const (.bool true)) (.tmp 27), none, []⟩]
def k_curve_Gain_r5 : List AOper := [
  ⟨(some (29)), .build [.int .i64 0, .int .i64 0] [], none, []⟩, 
  ⟨none, .store 2 (.tmp 6) (.tmp 29), none, []⟩, 
  ⟨(some (7)), .move (.const (.int .i64 7)), none, []⟩]
def k_curve_Gain_r6 : List AOper := [
  ⟨(some (30)), .load (some (4)) (.tmp 3), none, []⟩, 
  ⟨(some (31)), .move (.tmp 1), none, [0]⟩, 
  ⟨(some (32)), .fieldAddr 1 (.tmp 3), none, [0, 1]⟩, 
  ⟨(some (33)), .load none (.tmp 32), none, [0, 1]⟩, 
  ⟨(some (34)), .move (.tmp 2), none, [0, 1, 2, 3]⟩, 
  ⟨(some (35)), .indexAddr 1 (.tmp 33) (.tmp 34), none, [0, 1]⟩, 
  ⟨(some (36)), .load none (.tmp 35), none, [0, 1]⟩, 
  ⟨(some (37)), .call (.const (.fn (.func 94) [] [])) [.tmp 30, .tmp 31, .tmp 36], none, []⟩, 
  ⟨(some (38)), .load (some (4)) (.tmp 3), none, [0, 1, 2, 3, 4, 5, 6, 7]⟩, 
  ⟨(some (39)), .move (.tmp 1), none, [0, 1, 2, 3, 4, 5, 6, 7, 8]⟩, 
  ⟨(some (40)), .fieldAddr 1 (.tmp 3), none, [0, 1, 2, 3, 4, 5, 6, 7, 8, 9]⟩, 
  ⟨(some (41)), .load none (.tmp 40), none, [0, 1, 2, 3, 4, 5, 6, 7, 8, 9]⟩, 
  ⟨(some (42)), .move (.tmp 2), none, [0, 1, 2, 3, 4, 5, 6, 7, 8, 9, 10, 11]⟩, 
  ⟨(some (43)), .bin .plain .add (.tmp 42) (.const (.int .i64 1)), none, [0, 1, 2, 3, 4, 5, 6, 7, 8, 9, 10, 11]⟩, 
  ⟨(some (44)), .indexAddr 1 (.tmp 41) (.tmp 43), none, [0, 1, 2, 3, 4, 5, 6, 7, 8, 9]⟩, 
  ⟨(some (45)), .load none (.tmp 44), none, [0, 1, 2, 3, 4, 5, 6, 7, 8, 9]⟩, 
  ⟨(some (46)), .call (.const (.fn (.func 94) [] [])) [.tmp 38, .tmp 39, .tmp 45], none, []⟩, 
  ⟨(some (47)), .call (.const (.fn (.func 98) [] [])) [.tmp 37, .tmp 46], none, []⟩, 
  ⟨(some (9)), .box (.const (.agg [.int .i64 0, .int .i64 0])), none, [0, 1, 2, 3, 4, 5, 6, 7, 8, 9, 10, 11, 12, 13, 14, 15, 16, 17]⟩, 
  ⟨none, .store 2 (.tmp 9) (.tmp 47), none, []⟩]
def k_curve_Gain_r6s : List (List AOper) := [
  [
  ⟨(some (30)), .load (some (4)) (.tmp 3), none, []⟩, 
  ⟨(some (31)), .move (.tmp 1), none, [0]⟩, 
  ⟨(some (32)), .fieldAddr 1 (.tmp 3), none, [0, 1]⟩, 
  ⟨(some (33)), .load none (.tmp 32), none, [0, 1]⟩, 
  ⟨(some (34)), .move (.tmp 2), none, [0, 1, 2, 3]⟩, 
  ⟨(some (35)), .indexAddr 1 (.tmp 33) (.tmp 34), none, [0, 1]⟩, 
  ⟨(some (36)), .load none (.tmp 35), none, [0, 1]⟩, 
  ⟨(some (37)), .call (.const (.fn (.func 94) [] [])) [.tmp 30, .tmp 31, .tmp 36], none, []⟩, 
  ⟨(some (38)), .load (some (4)) (.tmp 3), none, [0, 1, 2, 3, 4, 5, 6, 7]⟩, 
  ⟨(some (39)), .move (.tmp 1), none, [0, 1, 2, 3, 4, 5, 6, 7, 8]⟩, 
  ⟨(some (40)), .fieldAddr 1 (.tmp 3), none, [0, 1, 2, 3, 4, 5, 6, 7, 8, 9]⟩, 
  ⟨(some (41)), .load none (.tmp 40), none, [0, 1, 2, 3, 4, 5, 6, 7, 8, 9]⟩, 
  ⟨(some (42)), .move (.tmp 2), none, [0, 1, 2, 3, 4, 5, 6, 7, 8, 9, 10, 11]⟩, 
  ⟨(some (43)), .bin .plain .add (.tmp 42) (.const (.int .i64 1)), none, [0, 1, 2, 3, 4, 5, 6, 7, 8, 9, 10, 11]⟩, 
  ⟨(some (44)), .indexAddr 1 (.tmp 41) (.tmp 43), none, [0, 1, 2, 3, 4, 5, 6, 7, 8, 9]⟩, 
  ⟨(some (45)), .load none (.tmp 44), none, [0, 1, 2, 3, 4, 5, 6, 7, 8, 9]⟩, 
  ⟨(some (46)), .call (.const (.fn (.func 94) [] [])) [.tmp 38, .tmp 39, .tmp 45], none, []⟩, 
  ⟨(some (47)), .call (.const (.fn (.func 98) [] [])) [.tmp 37, .tmp 46], none, []⟩, 
  ⟨(some (9)), .box (.const (.agg [.int .i64 0, .int .i64 0])), none, [0, 1, 2, 3, 4, 5, 6, 7, 8, 9, 10, 11, 12, 13, 14, 15, 16, 17]⟩], 
  [
  ⟨none, .store 2 (.tmp 9) (.tmp 47), none, []⟩]]
theorem k_curve_Gain_r6_sg : segs k_curve_Gain_r6 = k_curve_Gain_r6s := by kernel_rfl
theorem k_curve_Gain_r6_st : statOK k_curve_Gain_r6 = true := by kernel_rfl
def k_curve_Gain_r7 : List AOper := [
  ⟨(some (48)), .load (some (4)) (.tmp 3), none, []⟩, 
  ⟨(some (49)), .fieldAddr 0 (.tmp 3), none, [0]⟩, 
  ⟨(some (50)), .load none (.tmp 49), none, [0]⟩, 
  ⟨(some (51)), .move (.tmp 1), none, [0, 1, 2]⟩, 
  ⟨(some (52)), .indexAddr 1 (.tmp 50) (.tmp 51), none, [0]⟩, 
  ⟨(some (53)), .load none (.tmp 52), none, [0]⟩, 
  ⟨(some (54)), .move (.tmp 2), none, [0, 1, 2, 3, 4, 5]⟩, 
  ⟨(some (55)), .call (.const (.fn (.func 96) [] [])) [.tmp 48, .tmp 53, .tmp 54], none, []⟩, 
  ⟨(some (56)), .load (some (4)) (.tmp 3), none, [0, 1, 2, 3, 4, 5, 6, 7]⟩, 
  ⟨(some (57)), .fieldAddr 0 (.tmp 3), none, [0, 1, 2, 3, 4, 5, 6, 7, 8]⟩, 
  ⟨(some (58)), .load none (.tmp 57), none, [0, 1, 2, 3, 4, 5, 6, 7, 8]⟩, 
  ⟨(some (59)), .move (.tmp 1), none, [0, 1, 2, 3, 4, 5, 6, 7, 8, 9, 10]⟩, 
  ⟨(some (60)), .bin .plain .add (.tmp 59) (.const (.int .i64 1)), none, [0, 1, 2, 3, 4, 5, 6, 7, 8, 9, 10]⟩, 
  ⟨(some (61)), .indexAddr 1 (.tmp 58) (.tmp 60), none, [0, 1, 2, 3, 4, 5, 6, 7, 8]⟩, 
  ⟨(some (62)), .load none (.tmp 61), none, [0, 1, 2, 3, 4, 5, 6, 7, 8]⟩, 
  ⟨(some (63)), .move (.tmp 2), none, [0, 1, 2, 3, 4, 5, 6, 7, 8, 9, 10, 11, 12, 13, 14]⟩, 
  ⟨(some (64)), .call (.const (.fn (.func 96) [] [])) [.tmp 56, .tmp 62, .tmp 63], none, []⟩, 
  ⟨(some (65)), .call (.const (.fn (.func 98) [] [])) [.tmp 55, .tmp 64], none, []⟩, 
  ⟨(some (10)), .box (.const (.agg [.int .i64 0, .int .i64 0])), none, [0, 1, 2, 3, 4, 5, 6, 7, 8, 9, 10, 11, 12, 13, 14, 15, 16, 17]⟩, 
  ⟨none, .store 2 (.tmp 10) (.tmp 65), none, []⟩]
def k_curve_Gain_r7s : List (List AOper) := [
  [
  ⟨(some (48)), .load (some (4)) (.tmp 3), none, []⟩, 
  ⟨(some (49)), .fieldAddr 0 (.tmp 3), none, [0]⟩, 
  ⟨(some (50)), .load none (.tmp 49), none, [0]⟩, 
  ⟨(some (51)), .move (.tmp 1), none, [0, 1, 2]⟩, 
  ⟨(some (52)), .indexAddr 1 (.tmp 50) (.tmp 51), none, [0]⟩, 
  ⟨(some (53)), .load none (.tmp 52), none, [0]⟩, 
  ⟨(some (54)), .move (.tmp 2), none, [0, 1, 2, 3, 4, 5]⟩, 
  ⟨(some (55)), .call (.const (.fn (.func 96) [] [])) [.tmp 48, .tmp 53, .tmp 54], none, []⟩, 
  ⟨(some (56)), .load (some (4)) (.tmp 3), none, [0, 1, 2, 3, 4, 5, 6, 7]⟩, 
  ⟨(some (57)), .fieldAddr 0 (.tmp 3), none, [0, 1, 2, 3, 4, 5, 6, 7, 8]⟩, 
  ⟨(some (58)), .load none (.tmp 57), none, [0, 1, 2, 3, 4, 5, 6, 7, 8]⟩, 
  ⟨(some (59)), .move (.tmp 1), none, [0, 1, 2, 3, 4, 5, 6, 7, 8, 9, 10]⟩, 
  ⟨(some (60)), .bin .plain .add (.tmp 59) (.const (.int .i64 1)), none, [0, 1, 2, 3, 4, 5, 6, 7, 8, 9, 10]⟩, 
  ⟨(some (61)), .indexAddr 1 (.tmp 58) (.tmp 60), none, [0, 1, 2, 3, 4, 5, 6, 7, 8]⟩, 
  ⟨(some (62)), .load none (.tmp 61), none, [0, 1, 2, 3, 4, 5, 6, 7, 8]⟩, 
  ⟨(some (63)), .move (.tmp 2), none, [0, 1, 2, 3, 4, 5, 6, 7, 8, 9, 10, 11, 12, 13, 14]⟩, 
  ⟨(some (64)), .call (.const (.fn (.func 96) [] [])) [.tmp 56, .tmp 62, .tmp 63], none, []⟩, 
  ⟨(some (65)), .call (.const (.fn (.func 98) [] [])) [.tmp 55, .tmp 64], none, []⟩, 
  ⟨(some (10)), .box (.const (.agg [.int .i64 0, .int .i64 0])), none, [0, 1, 2, 3, 4, 5, 6, 7, 8, 9, 10, 11, 12, 13, 14, 15, 16, 17]⟩], 
  [
  ⟨none, .store 2 (.tmp 10) (.tmp 65), none, []⟩]]
theorem k_curve_Gain_r7_sg : segs k_curve_Gain_r7 = k_curve_Gain_r7s := by kernel_rfl
theorem k_curve_Gain_r7_st : statOK k_curve_Gain_r7 = true := by kernel_rfl
def k_curve_Gain_r8 : List AOper := [
  ⟨(some (66)), .fieldAddr 0 (.tmp 10), none, []⟩, 
  ⟨(some (67)), .load none (.tmp 66), none, []⟩, 
  ⟨(some (68)), .bin .plain .eql (.tmp 67) (.const (.int .i64 0)), none, []⟩]
def k_curve_Gain_r9 : List AOper := [
  ⟨(some (69)), .build [.int .i64 0, .int .i64 0] [], none, []⟩, 
  ⟨none, .store 2 (.tmp 6) (.tmp 69), none, []⟩, 
  ⟨(some (7)), .move (.const (.int .i64 15)), none, []⟩]
def k_curve_Gain_r10 : List AOper := [
  ⟨(some (70)), .fieldAddr 0 (.tmp 9), none, []⟩, 
  ⟨(some (71)), .load none (.tmp 70), none, []⟩, 
  ⟨(some (72)), .bin .plain .mul (.const (.int .i64 1000000)) (.tmp 71), none, []⟩, 
  ⟨(some (73)), .fieldAddr 1 (.tmp 10), none, [0, 1, 2]⟩, 
  ⟨(some (74)), .load none (.tmp 73), none, [0, 1, 2]⟩, 
  ⟨(some (75)), .bin .plain .quo (.tmp 72) (.tmp 74), none, []⟩, 
  ⟨(some (76)), .fieldAddr 1 (.tmp 9), none, [0, 1, 2, 3, 4, 5]⟩, 
  ⟨(some (77)), .load none (.tmp 76), none, [0, 1, 2, 3, 4, 5]⟩, 
  ⟨(some (78)), .bin .plain .mul (.const (.int .i64 1000000)) (.tmp 77), none, [0, 1, 2, 3, 4, 5]⟩, 
  ⟨(some (79)), .fieldAddr 0 (.tmp 10), none, [0, 1, 2, 3, 4, 5, 6, 7, 8]⟩, 
  ⟨(some (80)), .load none (.tmp 79), none, [0, 1, 2, 3, 4, 5, 6, 7, 8]⟩, 
  ⟨(some (81)), .call (.const (.fn (.func 85) [] [])) [.tmp 78, .tmp 80], none, [0, 1, 2, 3, 4, 5]⟩, 
  ⟨(some (82)), .build [.int .i64 0, .int .i64 0] [(0, 1, .tmp 75), (1, 1, .tmp 81)], none, []⟩, 
  ⟨none, .store 2 (.tmp 6) (.tmp 82), none, []⟩, 
  ⟨(some (7)), .move (.const (.int .i64 0)), none, []⟩]
def k_curve_Gain_r10s : List (List AOper) := [
  [
  ⟨(some (70)), .fieldAddr 0 (.tmp 9), none, []⟩, 
  ⟨(some (71)), .load none (.tmp 70), none, []⟩, 
  ⟨(some (72)), .bin .plain .mul (.const (.int .i64 1000000)) (.tmp 71), none, []⟩, 
  ⟨(some (73)), .fieldAddr 1 (.tmp 10), none, [0, 1, 2]⟩, 
  ⟨(some (74)), .load none (.tmp 73), none, [0, 1, 2]⟩, 
  ⟨(some (75)), .bin .plain .quo (.tmp 72) (.tmp 74), none, []⟩, 
  ⟨(some (76)), .fieldAddr 1 (.tmp 9), none, [0, 1, 2, 3, 4, 5]⟩, 
  ⟨(some (77)), .load none (.tmp 76), none, [0, 1, 2, 3, 4, 5]⟩, 
  ⟨(some (78)), .bin .plain .mul (.const (.int .i64 1000000)) (.tmp 77), none, [0, 1, 2, 3, 4, 5]⟩, 
  ⟨(some (79)), .fieldAddr 0 (.tmp 10), none, [0, 1, 2, 3, 4, 5, 6, 7, 8]⟩, 
  ⟨(some (80)), .load none (.tmp 79), none, [0, 1, 2, 3, 4, 5, 6, 7, 8]⟩, 
  ⟨(some (81)), .call (.const (.fn (.func 85) [] [])) [.tmp 78, .tmp 80], none, [0, 1, 2, 3, 4, 5]⟩], 
  [
  ⟨(some (82)), .build [.int .i64 0, .int .i64 0] [(0, 1, .tmp 75), (1, 1, .tmp 81)], none, []⟩], 
  [
  ⟨none, .store 2 (.tmp 6) (.tmp 82), none, []⟩], 
  [
  ⟨(some (7)), .move (.const (.int .i64 0)), none, []⟩]]
theorem k_curve_Gain_r10_sg : segs k_curve_Gain_r10 = k_curve_Gain_r10s := by kernel_rfl
theorem k_curve_Gain_r10_st : statOK k_curve_Gain_r10 = true := by kernel_rfl
def k_curve_Gain : AFun := { params := 3, ntmps := 83, body := (.seq (.reg k_curve_Gain_r0 false) (.seq (.seq (.reg k_curve_Gain_r1 false) (.seq (.reg k_curve_Gain_r2 false) (.cond (.tmp 14) (.seq (.reg k_curve_Gain_r3 false) .ret) .skip))) (.seq (.seq (.reg k_curve_Gain_r4 false) (.cond (.tmp 28) (.seq (.reg k_curve_Gain_r5 false) .ret) .skip)) (.seq (.reg k_curve_Gain_r6 true) (.seq (.reg k_curve_Gain_r7 true) (.seq (.seq (.reg k_curve_Gain_r8 false) (.cond (.tmp 68) (.seq (.reg k_curve_Gain_r9 false) .ret) .skip)) (.seq (.reg k_curve_Gain_r10 true) .ret))))))), res := [.cell 6 (some ((some (2)))), .tmp 7] }
theorem k_curve_Gain_ok : cfun Try.prog Try.f45 = k_curve_Gain := by kernel_rfl

def k_curve_isCell_r0 : List AOper := [
  ⟨(some (4)), .move (.const (.bool false)), none, []⟩]
def k_curve_isCell_r1 : List AOper := [
  ⟨(some (5)), .move (.tmp 1), none, []⟩, 
  ⟨(some (6)), .move (.tmp 0), none, []⟩, 
  ⟨(some (7)), .len false (.tmp 6), none, []⟩, 
  ⟨(some (8)), .bin .plain .sub (.tmp 7) (.const (.int .i64 2)), none, []⟩, 
  ⟨(some (9)), .call (.const (.fn (.func 111) [] [])) [.tmp 5, .const (.int .i64 0), .tmp 8], none, []⟩, 
  ⟨(some (4)), .move (.tmp 9), none, []⟩]
def k_curve_isCell : AFun := { params := 2, ntmps := 10, body := (.seq (.reg k_curve_isCell_r0 false) (.seq (.reg k_curve_isCell_r1 false) .ret)), res := [.tmp 4] }
theorem k_curve_isCell_ok : cfun Try.prog Try.f93 = k_curve_isCell := by kernel_rfl

def k_curve_slope_r0 : List AOper := [
  ⟨(some (3)), .box (.tmp 0), none, []⟩, 
  ⟨(some (6)), .box (.const (.agg [.int .i64 0, .int .i64 0])), none, []⟩]
def k_curve_slope_r1 : List AOper := [
  ⟨(some (7)), .fieldAddr 2 (.tmp 3), none, []⟩, 
  ⟨(some (8)), .load none (.tmp 7), none, []⟩, 
  ⟨(some (9)), .fieldAddr 3 (.tmp 3), none, []⟩, 
  ⟨(some (10)), .load none (.tmp 9), none, []⟩, 
  ⟨(some (11)), .fieldAddr 0 (.tmp 3), none, []⟩, 
  ⟨(some (12)), .load none (.tmp 11), none, []⟩, 
  ⟨(some (13)), .fieldAddr 1 (.tmp 3), none, []⟩, 
  ⟨(some (14)), .load none (.tmp 13), none, []⟩, 
  ⟨(some (15)), .move (.tmp 1), none, []⟩, 
  ⟨(some (16)), .move (.tmp 2), none, []⟩, 
  ⟨(some (17)), .call (.const (.fn (.func 118) [] [])) [.tmp 8, .tmp 10, .tmp 12, .tmp 14, .tmp 15, .tmp 16, .const (.int .i64 1000)], none, []⟩, 
  ⟨none, .store 2 (.tmp 6) (.tmp 17), none, []⟩]
def k_curve_slope : AFun := { params := 3, ntmps := 18, body := (.seq (.reg k_curve_slope_r0 false) (.seq (.reg k_curve_slope_r1 false) .ret)), res := [.cell 6 (some ((some (2))))] }
theorem k_curve_slope_ok : cfun Try.prog Try.f94 = k_curve_slope := by kernel_rfl

def k_curve_yield_r0 : List AOper := [
  ⟨(some (3)), .box (.tmp 0), none, []⟩, 
  ⟨(some (6)), .box (.const (.agg [.int .i64 0, .int .i64 0])), none, []⟩]
def k_curve_yield_r1 : List AOper := [
  ⟨(some (7)), .fieldAddr 2 (.tmp 3), none, []⟩, 
  ⟨(some (8)), .load none (.tmp 7), none, []⟩, 
  ⟨(some (9)), .fieldAddr 3 (.tmp 3), none, []⟩, 
  ⟨(some (10)), .load none (.tmp 9), none, []⟩, 
  ⟨(some (11)), .fieldAddr 1 (.tmp 3), none, []⟩, 
  ⟨(some (12)), .load none (.tmp 11), none, []⟩, 
  ⟨(some (13)), .fieldAddr 0 (.tmp 3), none, []⟩, 
  ⟨(some (14)), .load none (.tmp 13), none, []⟩, 
  ⟨(some (15)), .move (.tmp 2), none, []⟩, 
  ⟨(some (16)), .move (.tmp 1), none, []⟩, 
  ⟨(some (17)), .call (.const (.fn (.func 119) [] [])) [.tmp 8, .tmp 10, .tmp 12, .tmp 14, .tmp 15, .tmp 16, .const (.int .i64 1000000)], none, []⟩, 
  ⟨none, .store 2 (.tmp 6) (.tmp 17), none, []⟩]
def k_curve_yield : AFun := { params := 3, ntmps := 18, body := (.seq (.reg k_curve_yield_r0 false) (.seq (.reg k_curve_yield_r1 false) .ret)), res := [.cell 6 (some ((some (2))))] }
theorem k_curve_yield_ok : cfun Try.prog Try.f96 = k_curve_yield := by kernel_rfl

def k_curve_hull_r0 : List AOper := [
  ⟨(some (2)), .box (.tmp 0), none, []⟩, 
  ⟨(some (3)), .box (.tmp 1), none, []⟩, 
  ⟨(some (4)), .box (.const (.agg [.int .i64 0, .int .i64 0])), none, []⟩]
def k_curve_hull_r1 : List AOper := [
  ⟨(some (5)), .fieldAddr 0 (.tmp 2), none, []⟩, 
  ⟨(some (6)), .load none (.tmp 5), none, []⟩, 
  ⟨(some (7)), .fieldAddr 0 (.tmp 3), none, []⟩, 
  ⟨(some (8)), .load none (.tmp 7), none, []⟩, 
  ⟨(some (9)), .minmax false [.tmp 6, .tmp 8], none, []⟩, 
  ⟨(some (10)), .fieldAddr 1 (.tmp 2), none, []⟩, 
  ⟨(some (11)), .load none (.tmp 10), none, []⟩, 
  ⟨(some (12)), .fieldAddr 1 (.tmp 3), none, []⟩, 
  ⟨(some (13)), .load none (.tmp 12), none, []⟩, 
  ⟨(some (14)), .minmax true [.tmp 11, .tmp 13], none, []⟩, 
  ⟨(some (15)), .build [.int .i64 0, .int .i64 0] [(0, 1, .tmp 9), (1, 1, .tmp 14)], none, []⟩, 
  ⟨none, .store 2 (.tmp 4) (.tmp 15), none, []⟩]
def k_curve_hull : AFun := { params := 2, ntmps := 16, body := (.seq (.reg k_curve_hull_r0 false) (.seq (.reg k_curve_hull_r1 false) .ret)), res := [.cell 4 (some ((some (2))))] }
theorem k_curve_hull_ok : cfun Try.prog Try.f98 = k_curve_hull := by kernel_rfl

def k_curve_steepness_curve_byGrid_r0 : List AOper := [
  ⟨(some (14)), .box (.const (.agg [.int .i64 0, .int .i64 0])), none, []⟩]
def k_curve_steepness_curve_byGrid_r1 : List AOper := [
  ⟨(some (21)), .move (.tmp 3), none, []⟩, 
  ⟨(some (22)), .move (.tmp 5), none, []⟩, 
  ⟨(some (23)), .call (.const (.fn (.func 83) [] [])) [.tmp 21, .tmp 22], none, []⟩, 
  ⟨(some (15)), .box (.const (.agg [.int .i64 0, .int .i64 0, .int .i64 0])), none, []⟩, 
  ⟨none, .store 3 (.tmp 15) (.tmp 23), none, []⟩]
def k_curve_steepness_curve_byGrid_r2 : List AOper := [
  ⟨(some (16)), .box (.const (.agg [.int .i64 0, .int .i64 0])), none, []⟩]
def k_curve_steepness_curve_byGrid_r3 : List AOper := [
  ⟨(some (24)), .load (some (3)) (.tmp 15), none, []⟩, 
  ⟨(some (25)), .call (.const (.fn (.func 115) [] [])) [.tmp 24], none, []⟩, 
  ⟨(some (26)), .move (.const (.int .i64 0)), none, []⟩]
def k_curve_steepness_curve_byGrid_r4 : List AOper := [
  ⟨(some (27)), .bin .plain .lss (.tmp 26) (.const (.int .i64 2)), none, []⟩]
def k_curve_steepness_curve_byGrid_r5 : List AOper := [
  ⟨(some (28)), .move (.tmp 26), none, []⟩, 
  ⟨(some (29)), .indexAgg 2 1 false (.tmp 25) (.tmp 26), none, []⟩, 
  ⟨(some (17)), .move (.tmp 28), none, []⟩, 
  ⟨(some (18)), .move (.tmp 29), none, []⟩]
def k_curve_steepness_curve_byGrid_r6 : List AOper := [
  ⟨(some (30)), .move (.tmp 18), none, []⟩, 
  ⟨(some (31)), .bin .plain .eql (.tmp 30) (.const (.int .i64 0)), none, []⟩]
def k_curve_steepness_curve_byGrid_r7 : List AOper := [
  ⟨(some (32)), .fieldAddr 0 (.tmp 15), none, []⟩, 
  ⟨(some (33)), .load none (.tmp 32), none, []⟩, 
  ⟨(some (34)), .move (.tmp 17), none, []⟩, 
  ⟨(some (35)), .bin .plain .add (.tmp 33) (.tmp 34), none, []⟩, 
  ⟨(some (19)), .move (.tmp 35), none, []⟩]
def k_curve_steepness_curve_byGrid_r8 : List AOper := [
  ⟨(some (36)), .fieldAddr 0 (.tmp 16), none, []⟩, 
  ⟨(some (37)), .load none (.tmp 36), none, []⟩, 
  ⟨(some (38)), .move (.tmp 18), none, [0, 1]⟩, 
  ⟨(some (39)), .move (.tmp 0), none, [0, 1, 2]⟩, 
  ⟨(some (40)), .makeIface 122 (.tmp 39), none, [0, 1, 2]⟩, 
  ⟨(some (41)), .move (.tmp 4), none, [0, 1, 2, 3, 4]⟩, 
  ⟨(some (42)), .bin .plain .add (.tmp 41) (.const (.int .i64 1)), none, [0, 1, 2, 3, 4]⟩, 
  ⟨(some (43)), .move (.tmp 19), none, [0, 1, 2, 3, 4, 5, 6]⟩, 
  ⟨(some (44)), .callM [(122, 142), (124, 143)] (.tmp 40) [.tmp 42, .tmp 43], none, [0, 1, 2]⟩, 
  ⟨(some (45)), .move (.tmp 1), none, [0, 1, 2, 3, 4, 5, 6, 7, 8]⟩, 
  ⟨(some (46)), .makeIface 122 (.tmp 45), none, [0, 1, 2, 3, 4, 5, 6, 7, 8]⟩, 
  ⟨(some (47)), .move (.tmp 4), none, [0, 1, 2, 3, 4, 5, 6, 7, 8, 9, 10]⟩, 
  ⟨(some (48)), .move (.tmp 19), none, [0, 1, 2, 3, 4, 5, 6, 7, 8, 9, 10, 11]⟩, 
  ⟨(some (49)), .callM [(122, 142), (124, 143)] (.tmp 46) [.tmp 47, .tmp 48], none, [0, 1, 2]⟩, 
  ⟨(some (50)), .bin .plain .sub (.tmp 44) (.tmp 49), none, [0, 1, 2]⟩, 
  ⟨(some (51)), .minmax true [.const (.int .i64 0), .tmp 50], none, [0, 1, 2]⟩, 
  ⟨(some (52)), .bin .plain .mul (.tmp 38) (.tmp 51), none, [0, 1]⟩, 
  ⟨(some (53)), .bin .plain .add (.tmp 37) (.tmp 52), none, []⟩, 
  ⟨(some (54)), .fieldAddr 0 (.tmp 16), none, []⟩, 
  ⟨none, .store 1 (.tmp 54) (.tmp 53), none, []⟩]
def k_curve_steepness_curve_byGrid_r8s : List (List AOper) := [
  [
  ⟨(some (36)), .fieldAddr 0 (.tmp 16), none, []⟩, 
  ⟨(some (37)), .load none (.tmp 36), none, []⟩, 
  ⟨(some (38)), .move (.tmp 18), none, [0, 1]⟩, 
  ⟨(some (39)), .move (.tmp 0), none, [0, 1, 2]⟩, 
  ⟨(some (40)), .makeIface 122 (.tmp 39), none, [0, 1, 2]⟩, 
  ⟨(some (41)), .move (.tmp 4), none, [0, 1, 2, 3, 4]⟩, 
  ⟨(some (42)), .bin .plain .add (.tmp 41) (.const (.int .i64 1)), none, [0, 1, 2, 3, 4]⟩, 
  ⟨(some (43)), .move (.tmp 19), none, [0, 1, 2, 3, 4, 5, 6]⟩, 
  ⟨(some (44)), .callM [(122, 142), (124, 143)] (.tmp 40) [.tmp 42, .tmp 43], none, [0, 1, 2]⟩, 
  ⟨(some (45)), .move (.tmp 1), none, [0, 1, 2, 3, 4, 5, 6, 7, 8]⟩, 
  ⟨(some (46)), .makeIface 122 (.tmp 45), none, [0, 1, 2, 3, 4, 5, 6, 7, 8]⟩, 
  ⟨(some (47)), .move (.tmp 4), none, [0, 1, 2, 3, 4, 5, 6, 7, 8, 9, 10]⟩, 
  ⟨(some (48)), .move (.tmp 19), none, [0, 1, 2, 3, 4, 5, 6, 7, 8, 9, 10, 11]⟩, 
  ⟨(some (49)), .callM [(122, 142), (124, 143)] (.tmp 46) [.tmp 47, .tmp 48], none, [0, 1, 2]⟩, 
  ⟨(some (50)), .bin .plain .sub (.tmp 44) (.tmp 49), none, [0, 1, 2]⟩, 
  ⟨(some (51)), .minmax true [.const (.int .i64 0), .tmp 50], none, [0, 1, 2]⟩, 
  ⟨(some (52)), .bin .plain .mul (.tmp 38) (.tmp 51), none, [0, 1]⟩], 
  [
  ⟨(some (53)), .bin .plain .add (.tmp 37) (.tmp 52), none, []⟩], 
  [
  ⟨(some (54)), .fieldAddr 0 (.tmp 16), none, []⟩], 
  [
  ⟨none, .store 1 (.tmp 54) (.tmp 53), none, []⟩]]
theorem k_curve_steepness_curve_byGrid_r8_sg : segs k_curve_steepness_curve_byGrid_r8 = k_curve_steepness_curve_byGrid_r8s := by kernel_rfl
theorem k_curve_steepness_curve_byGrid_r8_st : statOK k_curve_steepness_curve_byGrid_r8 = true := by kernel_rfl
def k_curve_steepness_curve_byGrid_r9 : List AOper := [
  ⟨(some (55)), .fieldAddr 1 (.tmp 16), none, []⟩, 
  ⟨(some (56)), .load none (.tmp 55), none, []⟩, 
  ⟨(some (57)), .move (.tmp 18), none, [0, 1]⟩, 
  ⟨(some (58)), .move (.tmp 1), none, [0, 1, 2]⟩, 
  ⟨(some (59)), .makeIface 122 (.tmp 58), none, [0, 1, 2]⟩, 
  ⟨(some (60)), .move (.tmp 4), none, [0, 1, 2, 3, 4]⟩, 
  ⟨(some (61)), .bin .plain .add (.tmp 60) (.const (.int .i64 1)), none, [0, 1, 2, 3, 4]⟩, 
  ⟨(some (62)), .move (.tmp 19), none, [0, 1, 2, 3, 4, 5, 6]⟩, 
  ⟨(some (63)), .callM [(122, 142), (124, 143)] (.tmp 59) [.tmp 61, .tmp 62], none, [0, 1, 2]⟩, 
  ⟨(some (64)), .move (.tmp 0), none, [0, 1, 2, 3, 4, 5, 6, 7, 8]⟩, 
  ⟨(some (65)), .makeIface 122 (.tmp 64), none, [0, 1, 2, 3, 4, 5, 6, 7, 8]⟩, 
  ⟨(some (66)), .move (.tmp 4), none, [0, 1, 2, 3, 4, 5, 6, 7, 8, 9, 10]⟩, 
  ⟨(some (67)), .move (.tmp 19), none, [0, 1, 2, 3, 4, 5, 6, 7, 8, 9, 10, 11]⟩, 
  ⟨(some (68)), .callM [(122, 142), (124, 143)] (.tmp 65) [.tmp 66, .tmp 67], none, [0, 1, 2]⟩, 
  ⟨(some (69)), .bin .plain .sub (.tmp 63) (.tmp 68), none, [0, 1, 2]⟩, 
  ⟨(some (70)), .bin .plain .mul (.tmp 57) (.tmp 69), none, [0, 1]⟩, 
  ⟨(some (71)), .bin .plain .add (.tmp 56) (.tmp 70), none, []⟩, 
  ⟨(some (72)), .fieldAddr 1 (.tmp 16), none, []⟩, 
  ⟨none, .store 1 (.tmp 72) (.tmp 71), none, []⟩]
def k_curve_steepness_curve_byGrid_r9s : List (List AOper) := [
  [
  ⟨(some (55)), .fieldAddr 1 (.tmp 16), none, []⟩, 
  ⟨(some (56)), .load none (.tmp 55), none, []⟩, 
  ⟨(some (57)), .move (.tmp 18), none, [0, 1]⟩, 
  ⟨(some (58)), .move (.tmp 1), none, [0, 1, 2]⟩, 
  ⟨(some (59)), .makeIface 122 (.tmp 58), none, [0, 1, 2]⟩, 
  ⟨(some (60)), .move (.tmp 4), none, [0, 1, 2, 3, 4]⟩, 
  ⟨(some (61)), .bin .plain .add (.tmp 60) (.const (.int .i64 1)), none, [0, 1, 2, 3, 4]⟩, 
  ⟨(some (62)), .move (.tmp 19), none, [0, 1, 2, 3, 4, 5, 6]⟩, 
  ⟨(some (63)), .callM [(122, 142), (124, 143)] (.tmp 59) [.tmp 61, .tmp 62], none, [0, 1, 2]⟩, 
  ⟨(some (64)), .move (.tmp 0), none, [0, 1, 2, 3, 4, 5, 6, 7, 8]⟩, 
  ⟨(some (65)), .makeIface 122 (.tmp 64), none, [0, 1, 2, 3, 4, 5, 6, 7, 8]⟩, 
  ⟨(some (66)), .move (.tmp 4), none, [0, 1, 2, 3, 4, 5, 6, 7, 8, 9, 10]⟩, 
  ⟨(some (67)), .move (.tmp 19), none, [0, 1, 2, 3, 4, 5, 6, 7, 8, 9, 10, 11]⟩, 
  ⟨(some (68)), .callM [(122, 142), (124, 143)] (.tmp 65) [.tmp 66, .tmp 67], none, [0, 1, 2]⟩, 
  ⟨(some (69)), .bin .plain .sub (.tmp 63) (.tmp 68), none, [0, 1, 2]⟩, 
  ⟨(some (70)), .bin .plain .mul (.tmp 57) (.tmp 69), none, [0, 1]⟩], 
  [
  ⟨(some (71)), .bin .plain .add (.tmp 56) (.tmp 70), none, []⟩], 
  [
  ⟨(some (72)), .fieldAddr 1 (.tmp 16), none, []⟩], 
  [
  ⟨none, .store 1 (.tmp 72) (.tmp 71), none, []⟩]]
theorem k_curve_steepness_curve_byGrid_r9_sg : segs k_curve_steepness_curve_byGrid_r9 = k_curve_steepness_curve_byGrid_r9s := by kernel_rfl
theorem k_curve_steepness_curve_byGrid_r9_st : statOK k_curve_steepness_curve_byGrid_r9 = true := by kernel_rfl
def k_curve_steepness_curve_byGrid_r10 : List AOper := [
  ⟨(some (73)), .bin .plain .add (.tmp 26) (.const (.int .i64 1)), none, []⟩, 
  ⟨(some (26)), .move (.tmp 73), none, []⟩]
def k_curve_steepness_curve_byGrid_r11 : ACode := (.seq (.reg k_curve_steepness_curve_byGrid_r4 false) (.seq (.cond (.tmp 27) .skip (.exit 0)) (.seq (.block 1 (.seq (.reg k_curve_steepness_curve_byGrid_r5 false) (.seq (.seq (.reg k_curve_steepness_curve_byGrid_r6 false) (.cond (.tmp 31) (.exit 1) .skip)) (.seq (.reg k_curve_steepness_curve_byGrid_r7 false) (.seq (.reg k_curve_steepness_curve_byGrid_r8 true) (.reg k_curve_steepness_curve_byGrid_r9 true)))))) (.reg k_curve_steepness_curve_byGrid_r10 false))))
def k_curve_steepness_curve_byGrid_r12 : List AOper := [
  ⟨(some (74)), .move (.tmp 2), none, []⟩, 
  ⟨(some (75)), .move (.tmp 4), none, [0]⟩, 
  ⟨(some (76)), .bin .plain .add (.tmp 75) (.const (.int .i64 1)), none, [0]⟩, 
  ⟨(some (77)), .indexAddr 1 (.tmp 74) (.tmp 76), none, []⟩, 
  ⟨(some (78)), .load none (.tmp 77), none, []⟩, 
  ⟨(some (79)), .move (.tmp 2), none, [0, 1, 2, 3, 4]⟩, 
  ⟨(some (80)), .move (.tmp 4), none, [0, 1, 2, 3, 4, 5]⟩, 
  ⟨(some (81)), .indexAddr 1 (.tmp 79) (.tmp 80), none, [0, 1, 2, 3, 4]⟩, 
  ⟨(some (82)), .load none (.tmp 81), none, [0, 1, 2, 3, 4]⟩, 
  ⟨(some (83)), .bin .plain .sub (.tmp 78) (.tmp 82), none, []⟩, 
  ⟨(some (84)), .fieldAddr 2 (.tmp 15), none, [0, 1, 2, 3, 4, 5, 6, 7, 8, 9]⟩, 
  ⟨(some (85)), .load none (.tmp 84), none, [0, 1, 2, 3, 4, 5, 6, 7, 8, 9]⟩, 
  ⟨(some (86)), .bin .plain .mul (.tmp 83) (.tmp 85), none, []⟩, 
  ⟨(some (20)), .move (.tmp 86), none, []⟩]
def k_curve_steepness_curve_byGrid_r12s : List (List AOper) := [
  [
  ⟨(some (74)), .move (.tmp 2), none, []⟩, 
  ⟨(some (75)), .move (.tmp 4), none, [0]⟩, 
  ⟨(some (76)), .bin .plain .add (.tmp 75) (.const (.int .i64 1)), none, [0]⟩, 
  ⟨(some (77)), .indexAddr 1 (.tmp 74) (.tmp 76), none, []⟩, 
  ⟨(some (78)), .load none (.tmp 77), none, []⟩, 
  ⟨(some (79)), .move (.tmp 2), none, [0, 1, 2, 3, 4]⟩, 
  ⟨(some (80)), .move (.tmp 4), none, [0, 1, 2, 3, 4, 5]⟩, 
  ⟨(some (81)), .indexAddr 1 (.tmp 79) (.tmp 80), none, [0, 1, 2, 3, 4]⟩, 
  ⟨(some (82)), .load none (.tmp 81), none, [0, 1, 2, 3, 4]⟩, 
  ⟨(some (83)), .bin .plain .sub (.tmp 78) (.tmp 82), none, []⟩, 
  ⟨(some (84)), .fieldAddr 2 (.tmp 15), none, [0, 1, 2, 3, 4, 5, 6, 7, 8, 9]⟩, 
  ⟨(some (85)), .load none (.tmp 84), none, [0, 1, 2, 3, 4, 5, 6, 7, 8, 9]⟩], 
  [
  ⟨(some (86)), .bin .plain .mul (.tmp 83) (.tmp 85), none, []⟩], 
  [
  ⟨(some (20)), .move (.tmp 86), none, []⟩]]
theorem k_curve_steepness_curve_byGrid_r12_sg : segs k_curve_steepness_curve_byGrid_r12 = k_curve_steepness_curve_byGrid_r12s := by kernel_rfl
theorem k_curve_steepness_curve_byGrid_r12_st : statOK k_curve_steepness_curve_byGrid_r12 = true := by kernel_rfl
def k_curve_steepness_curve_byGrid_r13 : List AOper := [
  ⟨(some (87)), .move (.tmp 6), none, []⟩, 
  ⟨(some (88)), .fieldAddr 0 (.tmp 16), none, [0]⟩, 
  ⟨(some (89)), .load none (.tmp 88), none, [0]⟩, 
  ⟨(some (90)), .bin .plain .mul (.tmp 87) (.tmp 89), none, []⟩, 
  ⟨(some (91)), .move (.tmp 20), none, [0, 1, 2, 3]⟩, 
  ⟨(some (92)), .bin .plain .quo (.tmp 90) (.tmp 91), none, []⟩, 
  ⟨(some (93)), .move (.tmp 6), none, [0, 1, 2, 3, 4, 5]⟩, 
  ⟨(some (94)), .fieldAddr 1 (.tmp 16), none, [0, 1, 2, 3, 4, 5, 6]⟩, 
  ⟨(some (95)), .load none (.tmp 94), none, [0, 1, 2, 3, 4, 5, 6]⟩, 
  ⟨(some (96)), .bin .plain .mul (.tmp 93) (.tmp 95), none, [0, 1, 2, 3, 4, 5]⟩, 
  ⟨(some (97)), .move (.tmp 20), none, [0, 1, 2, 3, 4, 5, 6, 7, 8, 9]⟩, 
  ⟨(some (98)), .call (.const (.fn (.func 85) [] [])) [.tmp 96, .tmp 97], none, [0, 1, 2, 3, 4, 5]⟩, 
  ⟨(some (99)), .build [.int .i64 0, .int .i64 0] [(0, 1, .tmp 92), (1, 1, .tmp 98)], none, []⟩, 
  ⟨none, .store 2 (.tmp 14) (.tmp 99), none, []⟩]
def k_curve_steepness_curve_byGrid_r13s : List (List AOper) := [
  [
  ⟨(some (87)), .move (.tmp 6), none, []⟩, 
  ⟨(some (88)), .fieldAddr 0 (.tmp 16), none, [0]⟩, 
  ⟨(some (89)), .load none (.tmp 88), none, [0]⟩, 
  ⟨(some (90)), .bin .plain .mul (.tmp 87) (.tmp 89), none, []⟩, 
  ⟨(some (91)), .move (.tmp 20), none, [0, 1, 2, 3]⟩, 
  ⟨(some (92)), .bin .plain .quo (.tmp 90) (.tmp 91), none, []⟩, 
  ⟨(some (93)), .move (.tmp 6), none, [0, 1, 2, 3, 4, 5]⟩, 
  ⟨(some (94)), .fieldAddr 1 (.tmp 16), none, [0, 1, 2, 3, 4, 5, 6]⟩, 
  ⟨(some (95)), .load none (.tmp 94), none, [0, 1, 2, 3, 4, 5, 6]⟩, 
  ⟨(some (96)), .bin .plain .mul (.tmp 93) (.tmp 95), none, [0, 1, 2, 3, 4, 5]⟩, 
  ⟨(some (97)), .move (.tmp 20), none, [0, 1, 2, 3, 4, 5, 6, 7, 8, 9]⟩, 
  ⟨(some (98)), .call (.const (.fn (.func 85) [] [])) [.tmp 96, .tmp 97], none, [0, 1, 2, 3, 4, 5]⟩], 
  [
  ⟨(some (99)), .build [.int .i64 0, .int .i64 0] [(0, 1, .tmp 92), (1, 1, .tmp 98)], none, []⟩], 
  [
  ⟨none, .store 2 (.tmp 14) (.tmp 99), none, []⟩]]
theorem k_curve_steepness_curve_byGrid_r13_sg : segs k_curve_steepness_curve_byGrid_r13 = k_curve_steepness_curve_byGrid_r13s := by kernel_rfl
theorem k_curve_steepness_curve_byGrid_r13_st : statOK k_curve_steepness_curve_byGrid_r13 = true := by kernel_rfl
def k_curve_steepness_curve_byGrid : AFun := { params := 7, ntmps := 100, body := (.seq (.reg k_curve_steepness_curve_byGrid_r0 false) (.seq (.reg k_curve_steepness_curve_byGrid_r1 false) (.seq (.reg k_curve_steepness_curve_byGrid_r2 false) (.seq (.seq (.reg k_curve_steepness_curve_byGrid_r3 false) (.block 0 (.loop k_curve_steepness_curve_byGrid_r11))) (.seq (.reg k_curve_steepness_curve_byGrid_r12 true) (.seq (.reg k_curve_steepness_curve_byGrid_r13 true) .ret)))))), res := [.cell 14 (some ((some (2))))] }
theorem k_curve_steepness_curve_byGrid_ok : cfun Try.prog Try.f118 = k_curve_steepness_curve_byGrid := by kernel_rfl

def k_curve_steepness_curve_byPlate_r0 : List AOper := [
  ⟨(some (14)), .box (.const (.agg [.int .i64 0, .int .i64 0])), none, []⟩]
def k_curve_steepness_curve_byPlate_r1 : List AOper := [
  ⟨(some (21)), .move (.tmp 3), none, []⟩, 
  ⟨(some (22)), .move (.tmp 5), none, []⟩, 
  ⟨(some (23)), .call (.const (.fn (.func 83) [] [])) [.tmp 21, .tmp 22], none, []⟩, 
  ⟨(some (15)), .box (.const (.agg [.int .i64 0, .int .i64 0, .int .i64 0])), none, []⟩, 
  ⟨none, .store 3 (.tmp 15) (.tmp 23), none, []⟩]
def k_curve_steepness_curve_byPlate_r2 : List AOper := [
  ⟨(some (16)), .box (.const (.agg [.int .i64 0, .int .i64 0])), none, []⟩]
def k_curve_steepness_curve_byPlate_r3 : List AOper := [
  ⟨(some (24)), .load (some (3)) (.tmp 15), none, []⟩, 
  ⟨(some (25)), .call (.const (.fn (.func 115) [] [])) [.tmp 24], none, []⟩, 
  ⟨(some (26)), .move (.const (.int .i64 0)), none, []⟩]
def k_curve_steepness_curve_byPlate_r4 : List AOper := [
  ⟨(some (27)), .bin .plain .lss (.tmp 26) (.const (.int .i64 2)), none, []⟩]
def k_curve_steepness_curve_byPlate_r5 : List AOper := [
  ⟨(some (28)), .move (.tmp 26), none, []⟩, 
  ⟨(some (29)), .indexAgg 2 1 false (.tmp 25) (.tmp 26), none, []⟩, 
  ⟨(some (17)), .move (.tmp 28), none, []⟩, 
  ⟨(some (18)), .move (.tmp 29), none, []⟩]
def k_curve_steepness_curve_byPlate_r6 : List AOper := [
  ⟨(some (30)), .move (.tmp 18), none, []⟩, 
  ⟨(some (31)), .bin .plain .eql (.tmp 30) (.const (.int .i64 0)), none, []⟩]
def k_curve_steepness_curve_byPlate_r7 : List AOper := [
  ⟨(some (32)), .fieldAddr 0 (.tmp 15), none, []⟩, 
  ⟨(some (33)), .load none (.tmp 32), none, []⟩, 
  ⟨(some (34)), .move (.tmp 17), none, []⟩, 
  ⟨(some (35)), .bin .plain .add (.tmp 33) (.tmp 34), none, []⟩, 
  ⟨(some (19)), .move (.tmp 35), none, []⟩]
def k_curve_steepness_curve_byPlate_r8 : List AOper := [
  ⟨(some (36)), .fieldAddr 0 (.tmp 16), none, []⟩, 
  ⟨(some (37)), .load none (.tmp 36), none, []⟩, 
  ⟨(some (38)), .move (.tmp 18), none, [0, 1]⟩, 
  ⟨(some (39)), .move (.tmp 0), none, [0, 1, 2]⟩, 
  ⟨(some (40)), .makeIface 124 (.tmp 39), none, [0, 1, 2]⟩, 
  ⟨(some (41)), .move (.tmp 4), none, [0, 1, 2, 3, 4]⟩, 
  ⟨(some (42)), .bin .plain .add (.tmp 41) (.const (.int .i64 1)), none, [0, 1, 2, 3, 4]⟩, 
  ⟨(some (43)), .move (.tmp 19), none, [0, 1, 2, 3, 4, 5, 6]⟩, 
  ⟨(some (44)), .callM [(122, 142), (124, 143)] (.tmp 40) [.tmp 42, .tmp 43], none, [0, 1, 2]⟩, 
  ⟨(some (45)), .move (.tmp 1), none, [0, 1, 2, 3, 4, 5, 6, 7, 8]⟩, 
  ⟨(some (46)), .makeIface 124 (.tmp 45), none, [0, 1, 2, 3, 4, 5, 6, 7, 8]⟩, 
  ⟨(some (47)), .move (.tmp 4), none, [0, 1, 2, 3, 4, 5, 6, 7, 8, 9, 10]⟩, 
  ⟨(some (48)), .move (.tmp 19), none, [0, 1, 2, 3, 4, 5, 6, 7, 8, 9, 10, 11]⟩, 
  ⟨(some (49)), .callM [(122, 142), (124, 143)] (.tmp 46) [.tmp 47, .tmp 48], none, [0, 1, 2]⟩, 
  ⟨(some (50)), .bin .plain .sub (.tmp 44) (.tmp 49), none, [0, 1, 2]⟩, 
  ⟨(some (51)), .minmax true [.const (.int .i64 0), .tmp 50], none, [0, 1, 2]⟩, 
  ⟨(some (52)), .bin .plain .mul (.tmp 38) (.tmp 51), none, [0, 1]⟩, 
  ⟨(some (53)), .bin .plain .add (.tmp 37) (.tmp 52), none, []⟩, 
  ⟨(some (54)), .fieldAddr 0 (.tmp 16), none, []⟩, 
  ⟨none, .store 1 (.tmp 54) (.tmp 53), none, []⟩]
def k_curve_steepness_curve_byPlate_r8s : List (List AOper) := [
  [
  ⟨(some (36)), .fieldAddr 0 (.tmp 16), none, []⟩, 
  ⟨(some (37)), .load none (.tmp 36), none, []⟩, 
  ⟨(some (38)), .move (.tmp 18), none, [0, 1]⟩, 
  ⟨(some (39)), .move (.tmp 0), none, [0, 1, 2]⟩, 
  ⟨(some (40)), .makeIface 124 (.tmp 39), none, [0, 1, 2]⟩, 
  ⟨(some (41)), .move (.tmp 4), none, [0, 1, 2, 3, 4]⟩, 
  ⟨(some (42)), .bin .plain .add (.tmp 41) (.const (.int .i64 1)), none, [0, 1, 2, 3, 4]⟩, 
  ⟨(some (43)), .move (.tmp 19), none, [0, 1, 2, 3, 4, 5, 6]⟩, 
  ⟨(some (44)), .callM [(122, 142), (124, 143)] (.tmp 40) [.tmp 42, .tmp 43], none, [0, 1, 2]⟩, 
  ⟨(some (45)), .move (.tmp 1), none, [0, 1, 2, 3, 4, 5, 6, 7, 8]⟩, 
  ⟨(some (46)), .makeIface 124 (.tmp 45), none, [0, 1, 2, 3, 4, 5, 6, 7, 8]⟩, 
  ⟨(some (47)), .move (.tmp 4), none, [0, 1, 2, 3, 4, 5, 6, 7, 8, 9, 10]⟩, 
  ⟨(some (48)), .move (.tmp 19), none, [0, 1, 2, 3, 4, 5, 6, 7, 8, 9, 10, 11]⟩, 
  ⟨(some (49)), .callM [(122, 142), (124, 143)] (.tmp 46) [.tmp 47, .tmp 48], none, [0, 1, 2]⟩, 
  ⟨(some (50)), .bin .plain .sub (.tmp 44) (.tmp 49), none, [0, 1, 2]⟩, 
  ⟨(some (51)), .minmax true [.const (.int .i64 0), .tmp 50], none, [0, 1, 2]⟩, 
  ⟨(some (52)), .bin .plain .mul (.tmp 38) (.tmp 51), none, [0, 1]⟩], 
  [
  ⟨(some (53)), .bin .plain .add (.tmp 37) (.tmp 52), none, []⟩], 
  [
  ⟨(some (54)), .fieldAddr 0 (.tmp 16), none, []⟩], 
  [
  ⟨none, .store 1 (.tmp 54) (.tmp 53), none, []⟩]]
theorem k_curve_steepness_curve_byPlate_r8_sg : segs k_curve_steepness_curve_byPlate_r8 = k_curve_steepness_curve_byPlate_r8s := by kernel_rfl
theorem k_curve_steepness_curve_byPlate_r8_st : statOK k_curve_steepness_curve_byPlate_r8 = true := by kernel_rfl
def k_curve_steepness_curve_byPlate_r9 : List AOper := [
  ⟨(some (55)), .fieldAddr 1 (.tmp 16), none, []⟩, 
  ⟨(some (56)), .load none (.tmp 55), none, []⟩, 
  ⟨(some (57)), .move (.tmp 18), none, [0, 1]⟩, 
  ⟨(some (58)), .move (.tmp 1), none, [0, 1, 2]⟩, 
  ⟨(some (59)), .makeIface 124 (.tmp 58), none, [0, 1, 2]⟩, 
  ⟨(some (60)), .move (.tmp 4), none, [0, 1, 2, 3, 4]⟩, 
  ⟨(some (61)), .bin .plain .add (.tmp 60) (.const (.int .i64 1)), none, [0, 1, 2, 3, 4]⟩, 
  ⟨(some (62)), .move (.tmp 19), none, [0, 1, 2, 3, 4, 5, 6]⟩, 
  ⟨(some (63)), .callM [(122, 142), (124, 143)] (.tmp 59) [.tmp 61, .tmp 62], none, [0, 1, 2]⟩, 
  ⟨(some (64)), .move (.tmp 0), none, [0, 1, 2, 3, 4, 5, 6, 7, 8]⟩, 
  ⟨(some (65)), .makeIface 124 (.tmp 64), none, [0, 1, 2, 3, 4, 5, 6, 7, 8]⟩, 
  ⟨(some (66)), .move (.tmp 4), none, [0, 1, 2, 3, 4, 5, 6, 7, 8, 9, 10]⟩, 
  ⟨(some (67)), .move (.tmp 19), none, [0, 1, 2, 3, 4, 5, 6, 7, 8, 9, 10, 11]⟩, 
  ⟨(some (68)), .callM [(122, 142), (124, 143)] (.tmp 65) [.tmp 66, .tmp 67], none, [0, 1, 2]⟩, 
  ⟨(some (69)), .bin .plain .sub (.tmp 63) (.tmp 68), none, [0, 1, 2]⟩, 
  ⟨(some (70)), .bin .plain .mul (.tmp 57) (.tmp 69), none, [0, 1]⟩, 
  ⟨(some (71)), .bin .plain .add (.tmp 56) (.tmp 70), none, []⟩, 
  ⟨(some (72)), .fieldAddr 1 (.tmp 16), none, []⟩, 
  ⟨none, .store 1 (.tmp 72) (.tmp 71), none, []⟩]
def k_curve_steepness_curve_byPlate_r9s : List (List AOper) := [
  [
  ⟨(some (55)), .fieldAddr 1 (.tmp 16), none, []⟩, 
  ⟨(some (56)), .load none (.tmp 55), none, []⟩, 
  ⟨(some (57)), .move (.tmp 18), none, [0, 1]⟩, 
  ⟨(some (58)), .move (.tmp 1), none, [0, 1, 2]⟩, 
  ⟨(some (59)), .makeIface 124 (.tmp 58), none, [0, 1, 2]⟩, 
  ⟨(some (60)), .move (.tmp 4), none, [0, 1, 2, 3, 4]⟩, 
  ⟨(some (61)), .bin .plain .add (.tmp 60) (.const (.int .i64 1)), none, [0, 1, 2, 3, 4]⟩, 
  ⟨(some (62)), .move (.tmp 19), none, [0, 1, 2, 3, 4, 5, 6]⟩, 
  ⟨(some (63)), .callM [(122, 142), (124, 143)] (.tmp 59) [.tmp 61, .tmp 62], none, [0, 1, 2]⟩, 
  ⟨(some (64)), .move (.tmp 0), none, [0, 1, 2, 3, 4, 5, 6, 7, 8]⟩, 
  ⟨(some (65)), .makeIface 124 (.tmp 64), none, [0, 1, 2, 3, 4, 5, 6, 7, 8]⟩, 
  ⟨(some (66)), .move (.tmp 4), none, [0, 1, 2, 3, 4, 5, 6, 7, 8, 9, 10]⟩, 
  ⟨(some (67)), .move (.tmp 19), none, [0, 1, 2, 3, 4, 5, 6, 7, 8, 9, 10, 11]⟩, 
  ⟨(some (68)), .callM [(122, 142), (124, 143)] (.tmp 65) [.tmp 66, .tmp 67], none, [0, 1, 2]⟩, 
  ⟨(some (69)), .bin .plain .sub (.tmp 63) (.tmp 68), none, [0, 1, 2]⟩, 
  ⟨(some (70)), .bin .plain .mul (.tmp 57) (.tmp 69), none, [0, 1]⟩], 
  [
  ⟨(some (71)), .bin .plain .add (.tmp 56) (.tmp 70), none, []⟩], 
  [
  ⟨(some (72)), .fieldAddr 1 (.tmp 16), none, []⟩], 
  [
  ⟨none, .store 1 (.tmp 72) (.tmp 71), none, []⟩]]
theorem k_curve_steepness_curve_byPlate_r9_sg : segs k_curve_steepness_curve_byPlate_r9 = k_curve_steepness_curve_byPlate_r9s := by kernel_rfl
theorem k_curve_steepness_curve_byPlate_r9_st : statOK k_curve_steepness_curve_byPlate_r9 = true := by kernel_rfl
def k_curve_steepness_curve_byPlate_r10 : List AOper := [
  ⟨(some (73)), .bin .plain .add (.tmp 26) (.const (.int .i64 1)), none, []⟩, 
  ⟨(some (26)), .move (.tmp 73), none, []⟩]
def k_curve_steepness_curve_byPlate_r11 : ACode := (.seq (.reg k_curve_steepness_curve_byPlate_r4 false) (.seq (.cond (.tmp 27) .skip (.exit 0)) (.seq (.block 1 (.seq (.reg k_curve_steepness_curve_byPlate_r5 false) (.seq (.seq (.reg k_curve_steepness_curve_byPlate_r6 false) (.cond (.tmp 31) (.exit 1) .skip)) (.seq (.reg k_curve_steepness_curve_byPlate_r7 false) (.seq (.reg k_curve_steepness_curve_byPlate_r8 true) (.reg k_curve_steepness_curve_byPlate_r9 true)))))) (.reg k_curve_steepness_curve_byPlate_r10 false))))
def k_curve_steepness_curve_byPlate_r12 : List AOper := [
  ⟨(some (74)), .move (.tmp 2), none, []⟩, 
  ⟨(some (75)), .move (.tmp 4), none, [0]⟩, 
  ⟨(some (76)), .bin .plain .add (.tmp 75) (.const (.int .i64 1)), none, [0]⟩, 
  ⟨(some (77)), .indexAddr 1 (.tmp 74) (.tmp 76), none, []⟩, 
  ⟨(some (78)), .load none (.tmp 77), none, []⟩, 
  ⟨(some (79)), .move (.tmp 2), none, [0, 1, 2, 3, 4]⟩, 
  ⟨(some (80)), .move (.tmp 4), none, [0, 1, 2, 3, 4, 5]⟩, 
  ⟨(some (81)), .indexAddr 1 (.tmp 79) (.tmp 80), none, [0, 1, 2, 3, 4]⟩, 
  ⟨(some (82)), .load none (.tmp 81), none, [0, 1, 2, 3, 4]⟩, 
  ⟨(some (83)), .bin .plain .sub (.tmp 78) (.tmp 82), none, []⟩, 
  ⟨(some (84)), .fieldAddr 2 (.tmp 15), none, [0, 1, 2, 3, 4, 5, 6, 7, 8, 9]⟩, 
  ⟨(some (85)), .load none (.tmp 84), none, [0, 1, 2, 3, 4, 5, 6, 7, 8, 9]⟩, 
  ⟨(some (86)), .bin .plain .mul (.tmp 83) (.tmp 85), none, []⟩, 
  ⟨(some (20)), .move (.tmp 86), none, []⟩]
def k_curve_steepness_curve_byPlate_r12s : List (List AOper) := [
  [
  ⟨(some (74)), .move (.tmp 2), none, []⟩, 
  ⟨(some (75)), .move (.tmp 4), none, [0]⟩, 
  ⟨(some (76)), .bin .plain .add (.tmp 75) (.const (.int .i64 1)), none, [0]⟩, 
  ⟨(some (77)), .indexAddr 1 (.tmp 74) (.tmp 76), none, []⟩, 
  ⟨(some (78)), .load none (.tmp 77), none, []⟩, 
  ⟨(some (79)), .move (.tmp 2), none, [0, 1, 2, 3, 4]⟩, 
  ⟨(some (80)), .move (.tmp 4), none, [0, 1, 2, 3, 4, 5]⟩, 
  ⟨(some (81)), .indexAddr 1 (.tmp 79) (.tmp 80), none, [0, 1, 2, 3, 4]⟩, 
  ⟨(some (82)), .load none (.tmp 81), none, [0, 1, 2, 3, 4]⟩, 
  ⟨(some (83)), .bin .plain .sub (.tmp 78) (.tmp 82), none, []⟩, 
  ⟨(some (84)), .fieldAddr 2 (.tmp 15), none, [0, 1, 2, 3, 4, 5, 6, 7, 8, 9]⟩, 
  ⟨(some (85)), .load none (.tmp 84), none, [0, 1, 2, 3, 4, 5, 6, 7, 8, 9]⟩], 
  [
  ⟨(some (86)), .bin .plain .mul (.tmp 83) (.tmp 85), none, []⟩], 
  [
  ⟨(some (20)), .move (.tmp 86), none, []⟩]]
theorem k_curve_steepness_curve_byPlate_r12_sg : segs k_curve_steepness_curve_byPlate_r12 = k_curve_steepness_curve_byPlate_r12s := by kernel_rfl
theorem k_curve_steepness_curve_byPlate_r12_st : statOK k_curve_steepness_curve_byPlate_r12 = true := by kernel_rfl
def k_curve_steepness_curve_byPlate_r13 : List AOper := [
  ⟨(some (87)), .move (.tmp 6), none, []⟩, 
  ⟨(some (88)), .fieldAddr 0 (.tmp 16), none, [0]⟩, 
  ⟨(some (89)), .load none (.tmp 88), none, [0]⟩, 
  ⟨(some (90)), .bin .plain .mul (.tmp 87) (.tmp 89), none, []⟩, 
  ⟨(some (91)), .move (.tmp 20), none, [0, 1, 2, 3]⟩, 
  ⟨(some (92)), .bin .plain .quo (.tmp 90) (.tmp 91), none, []⟩, 
  ⟨(some (93)), .move (.tmp 6), none, [0, 1, 2, 3, 4, 5]⟩, 
  ⟨(some (94)), .fieldAddr 1 (.tmp 16), none, [0, 1, 2, 3, 4, 5, 6]⟩, 
  ⟨(some (95)), .load none (.tmp 94), none, [0, 1, 2, 3, 4, 5, 6]⟩, 
  ⟨(some (96)), .bin .plain .mul (.tmp 93) (.tmp 95), none, [0, 1, 2, 3, 4, 5]⟩, 
  ⟨(some (97)), .move (.tmp 20), none, [0, 1, 2, 3, 4, 5, 6, 7, 8, 9]⟩, 
  ⟨(some (98)), .call (.const (.fn (.func 85) [] [])) [.tmp 96, .tmp 97], none, [0, 1, 2, 3, 4, 5]⟩, 
  ⟨(some (99)), .build [.int .i64 0, .int .i64 0] [(0, 1, .tmp 92), (1, 1, .tmp 98)], none, []⟩, 
  ⟨none, .store 2 (.tmp 14) (.tmp 99), none, []⟩]
def k_curve_steepness_curve_byPlate_r13s : List (List AOper) := [
  [
  ⟨(some (87)), .move (.tmp 6), none, []⟩, 
  ⟨(some (88)), .fieldAddr 0 (.tmp 16), none, [0]⟩, 
  ⟨(some (89)), .load none (.tmp 88), none, [0]⟩, 
  ⟨(some (90)), .bin .plain .mul (.tmp 87) (.tmp 89), none, []⟩, 
  ⟨(some (91)), .move (.tmp 20), none, [0, 1, 2, 3]⟩, 
  ⟨(some (92)), .bin .plain .quo (.tmp 90) (.tmp 91), none, []⟩, 
  ⟨(some (93)), .move (.tmp 6), none, [0, 1, 2, 3, 4, 5]⟩, 
  ⟨(some (94)), .fieldAddr 1 (.tmp 16), none, [0, 1, 2, 3, 4, 5, 6]⟩, 
  ⟨(some (95)), .load none (.tmp 94), none, [0, 1, 2, 3, 4, 5, 6]⟩, 
  ⟨(some (96)), .bin .plain .mul (.tmp 93) (.tmp 95), none, [0, 1, 2, 3, 4, 5]⟩, 
  ⟨(some (97)), .move (.tmp 20), none, [0, 1, 2, 3, 4, 5, 6, 7, 8, 9]⟩, 
  ⟨(some (98)), .call (.const (.fn (.func 85) [] [])) [.tmp 96, .tmp 97], none, [0, 1, 2, 3, 4, 5]⟩], 
  [
  ⟨(some (99)), .build [.int .i64 0, .int .i64 0] [(0, 1, .tmp 92), (1, 1, .tmp 98)], none, []⟩], 
  [
  ⟨none, .store 2 (.tmp 14) (.tmp 99), none, []⟩]]
theorem k_curve_steepness_curve_byPlate_r13_sg : segs k_curve_steepness_curve_byPlate_r13 = k_curve_steepness_curve_byPlate_r13s := by kernel_rfl
theorem k_curve_steepness_curve_byPlate_r13_st : statOK k_curve_steepness_curve_byPlate_r13 = true := by kernel_rfl
def k_curve_steepness_curve_byPlate : AFun := { params := 7, ntmps := 100, body := (.seq (.reg k_curve_steepness_curve_byPlate_r0 false) (.seq (.reg k_curve_steepness_curve_byPlate_r1 false) (.seq (.reg k_curve_steepness_curve_byPlate_r2 false) (.seq (.seq (.reg k_curve_steepness_curve_byPlate_r3 false) (.block 0 (.loop k_curve_steepness_curve_byPlate_r11))) (.seq (.reg k_curve_steepness_curve_byPlate_r12 true) (.seq (.reg k_curve_steepness_curve_byPlate_r13 true) .ret)))))), res := [.cell 14 (some ((some (2))))] }
theorem k_curve_steepness_curve_byPlate_ok : cfun Try.prog Try.f119 = k_curve_steepness_curve_byPlate := by kernel_rfl

def k_curve_byGrid_at_r0 : List AOper := [
  ⟨(some (6)), .move (.const (.int .i64 0)), none, []⟩]
def k_curve_byGrid_at_r1 : List AOper := [
  ⟨(some (7)), .move (.tmp 0), none, []⟩, 
  ⟨(some (8)), .move (.tmp 1), none, []⟩, 
  ⟨(some (9)), .indexAddr 1 (.tmp 7) (.tmp 8), none, []⟩, 
  ⟨(some (10)), .load none (.tmp 9), none, []⟩, 
  ⟨(some (11)), .move (.tmp 2), none, []⟩, 
  ⟨(some (12)), .indexAddr 1 (.tmp 10) (.tmp 11), none, []⟩, 
  ⟨(some (13)), .load none (.tmp 12), none, []⟩, 
  ⟨(some (6)), .move (.tmp 13), none, []⟩]
def k_curve_byGrid_at : AFun := { params := 3, ntmps := 14, body := (.seq (.reg k_curve_byGrid_at_r0 false) (.seq (.reg k_curve_byGrid_at_r1 false) .ret)), res := [.tmp 6] }
theorem k_curve_byGrid_at_ok : cfun Try.prog Try.f142 = k_curve_byGrid_at := by kernel_rfl

def k_curve_byPlate_at_r0 : List AOper := [
  ⟨(some (6)), .move (.const (.int .i64 0)), none, []⟩]
def k_curve_byPlate_at_r1 : List AOper := [
  ⟨(some (7)), .move (.tmp 0), none, []⟩, 
  ⟨(some (8)), .move (.tmp 2), none, []⟩, 
  ⟨(some (9)), .indexAddr 1 (.tmp 7) (.tmp 8), none, []⟩, 
  ⟨(some (10)), .load none (.tmp 9), none, []⟩, 
  ⟨(some (11)), .move (.tmp 1), none, []⟩, 
  ⟨(some (12)), .indexAddr 1 (.tmp 10) (.tmp 11), none, []⟩, 
  ⟨(some (13)), .load none (.tmp 12), none, []⟩, 
  ⟨(some (6)), .move (.tmp 13), none, []⟩]
def k_curve_byPlate_at : AFun := { params := 3, ntmps := 14, body := (.seq (.reg k_curve_byPlate_at_r0 false) (.seq (.reg k_curve_byPlate_at_r1 false) .ret)), res := [.tmp 6] }
theorem k_curve_byPlate_at_ok : cfun Try.prog Try.f143 = k_curve_byPlate_at := by kernel_rfl


abbrev n_curve_Slope : Nat := 41
theorem e_curve_Slope : EntryOK Try.prog n_curve_Slope k_curve_Slope := ⟨Try.f41, Try.func41, k_curve_Slope_ok, by kernel_rfl⟩
abbrev n_curve_Yield : Nat := 43
theorem e_curve_Yield : EntryOK Try.prog n_curve_Yield k_curve_Yield := ⟨Try.f43, Try.func43, k_curve_Yield_ok, by kernel_rfl⟩
abbrev n_curve_Gain : Nat := 45
theorem e_curve_Gain : EntryOK Try.prog n_curve_Gain k_curve_Gain := ⟨Try.f45, Try.func45, k_curve_Gain_ok, by kernel_rfl⟩
abbrev n_curve_isCell : Nat := 93
theorem e_curve_isCell : EntryOK Try.prog n_curve_isCell k_curve_isCell := ⟨Try.f93, Try.func93, k_curve_isCell_ok, by kernel_rfl⟩
abbrev n_curve_slope : Nat := 94
theorem e_curve_slope : EntryOK Try.prog n_curve_slope k_curve_slope := ⟨Try.f94, Try.func94, k_curve_slope_ok, by kernel_rfl⟩
abbrev n_curve_yield : Nat := 96
theorem e_curve_yield : EntryOK Try.prog n_curve_yield k_curve_yield := ⟨Try.f96, Try.func96, k_curve_yield_ok, by kernel_rfl⟩
abbrev n_curve_hull : Nat := 98
theorem e_curve_hull : EntryOK Try.prog n_curve_hull k_curve_hull := ⟨Try.f98, Try.func98, k_curve_hull_ok, by kernel_rfl⟩
abbrev n_curve_steepness_curve_byGrid : Nat := 118
theorem e_curve_steepness_curve_byGrid : EntryOK Try.prog n_curve_steepness_curve_byGrid k_curve_steepness_curve_byGrid := ⟨Try.f118, Try.func118, k_curve_steepness_curve_byGrid_ok, by kernel_rfl⟩
abbrev n_curve_steepness_curve_byPlate : Nat := 119
theorem e_curve_steepness_curve_byPlate : EntryOK Try.prog n_curve_steepness_curve_byPlate k_curve_steepness_curve_byPlate := ⟨Try.f119, Try.func119, k_curve_steepness_curve_byPlate_ok, by kernel_rfl⟩
abbrev n_curve_byGrid_at : Nat := 142
theorem e_curve_byGrid_at : EntryOK Try.prog n_curve_byGrid_at k_curve_byGrid_at := ⟨Try.f142, Try.func142, k_curve_byGrid_at_ok, by kernel_rfl⟩
abbrev n_curve_byPlate_at : Nat := 143
theorem e_curve_byPlate_at : EntryOK Try.prog n_curve_byPlate_at k_curve_byPlate_at := ⟨Try.f143, Try.func143, k_curve_byPlate_at_ok, by kernel_rfl⟩

attribute [go_sem] k_curve_Slope_r0 k_curve_Slope_r1 k_curve_Slope_r2 k_curve_Slope_r3 k_curve_Slope_r4 k_curve_Slope_r5
attribute [go_sem] k_curve_Slope_r6 k_curve_Slope_r7 k_curve_Slope_r8
attribute [go_sem] k_curve_Yield_r0 k_curve_Yield_r1 k_curve_Yield_r2 k_curve_Yield_r3 k_curve_Yield_r4 k_curve_Yield_r5 k_curve_Yield_r6 k_curve_Yield_r7 k_curve_Yield_r8
attribute [go_sem] k_curve_Gain_r0 k_curve_Gain_r1 k_curve_Gain_r2 k_curve_Gain_r3 k_curve_Gain_r4 k_curve_Gain_r5
attribute [go_sem] k_curve_Gain_r6s k_curve_Gain_r7s k_curve_Gain_r8 k_curve_Gain_r9 k_curve_Gain_r10s
attribute [go_sem] k_curve_isCell_r0 k_curve_isCell_r1 k_curve_slope_r0 k_curve_slope_r1
attribute [go_sem] k_curve_yield_r0 k_curve_yield_r1
attribute [go_sem] k_curve_hull_r0 k_curve_hull_r1
attribute [go_sem] k_curve_steepness_curve_byGrid_r0 k_curve_steepness_curve_byGrid_r1 k_curve_steepness_curve_byGrid_r2 k_curve_steepness_curve_byGrid_r3 k_curve_steepness_curve_byGrid_r4 k_curve_steepness_curve_byGrid_r5 k_curve_steepness_curve_byGrid_r6 k_curve_steepness_curve_byGrid_r7 k_curve_steepness_curve_byGrid_r8s k_curve_steepness_curve_byGrid_r9s k_curve_steepness_curve_byGrid_r10 k_curve_steepness_curve_byGrid_r12s
attribute [go_sem] k_curve_steepness_curve_byGrid_r13s k_curve_steepness_curve_byPlate_r0 k_curve_steepness_curve_byPlate_r1 k_curve_steepness_curve_byPlate_r2 k_curve_steepness_curve_byPlate_r3 k_curve_steepness_curve_byPlate_r4 k_curve_steepness_curve_byPlate_r5 k_curve_steepness_curve_byPlate_r6 k_curve_steepness_curve_byPlate_r7 k_curve_steepness_curve_byPlate_r8s k_curve_steepness_curve_byPlate_r9s k_curve_steepness_curve_byPlate_r10
attribute [go_sem] k_curve_steepness_curve_byPlate_r12s k_curve_steepness_curve_byPlate_r13s k_curve_byGrid_at_r0 k_curve_byGrid_at_r1 k_curve_byPlate_at_r0 k_curve_byPlate_at_r1 k_curve_steepness_curve_byPlate_r13_sg k_curve_steepness_curve_byGrid_r9_sg k_curve_steepness_curve_byPlate_r8_sg
attribute [go_sem] k_curve_Gain_r6_sg k_curve_steepness_curve_byPlate_r9_sg k_curve_steepness_curve_byGrid_r13_sg
attribute [go_sem] k_curve_steepness_curve_byGrid_r8_sg k_curve_Gain_r7_sg k_curve_Gain_r10_sg k_curve_steepness_curve_byGrid_r12_sg k_curve_steepness_curve_byPlate_r12_sg
attribute [go_sem] k_curve_steepness_curve_byPlate_r13_st k_curve_steepness_curve_byGrid_r9_st k_curve_steepness_curve_byPlate_r8_st k_curve_Gain_r6_st k_curve_steepness_curve_byPlate_r9_st k_curve_steepness_curve_byGrid_r13_st
attribute [go_sem] k_curve_steepness_curve_byGrid_r8_st k_curve_Gain_r7_st
attribute [go_sem] k_curve_Gain_r10_st k_curve_steepness_curve_byGrid_r12_st k_curve_steepness_curve_byPlate_r12_st k_curve_Slope k_curve_Yield k_curve_Gain
attribute [go_sem] k_curve_isCell k_curve_slope k_curve_yield k_curve_hull k_curve_steepness_curve_byGrid k_curve_steepness_curve_byPlate k_curve_byGrid_at k_curve_byPlate_at
end Go.Proofs

namespace Go.Proofs
open Go Go.Sx

def k_law02_CurveTubes_r0 : List AOper := [
  ⟨(some (10)), .move (.const (.bool false)), none, []⟩]
def k_law02_CurveTubes_r1 : List AOper := [
  ⟨(some (26)), .move (.tmp 0), none, []⟩, 
  ⟨(some (27)), .call (.const (.fn (.func 12) [] [])) [.tmp 26], none, []⟩, 
  ⟨(some (11)), .move (.tmp 27), none, []⟩]
def k_law02_CurveTubes_r2 : List AOper := [
  ⟨(some (28)), .move (.tmp 11), none, []⟩, 
  ⟨(some (29)), .call (.const (.fn (.func 25) [] [])) [.tmp 28], none, []⟩, 
  ⟨(some (12)), .box (.const (.agg [.nilsl, .nilsl, .nilsl, .nilsl])), none, []⟩, 
  ⟨none, .store 4 (.tmp 12) (.tmp 29), none, []⟩]
def k_law02_CurveTubes_r3 : List AOper := [
  ⟨(some (30)), .move (.tmp 11), none, []⟩, 
  ⟨(some (31)), .load (some (4)) (.tmp 12), none, []⟩, 
  ⟨(some (32)), .call (.const (.fn (.func 35) [] [])) [.tmp 30, .tmp 31, .const (.bool true)], none, []⟩, 
  ⟨(some (13)), .box (.const (.agg [.nilsl, .nilsl, .nilsl, .nilsl])), none, []⟩, 
  ⟨none, .store 4 (.tmp 13) (.tmp 32), none, []⟩]
def k_law02_CurveTubes_r4 : List AOper := [
  ⟨(some (33)), .fieldAddr 0 (.tmp 12), none, []⟩, 
  ⟨(some (34)), .load none (.tmp 33), none, []⟩, 
  ⟨(some (35)), .len false (.tmp 34), none, []⟩, 
  ⟨(some (36)), .bin .plain .lss (.tmp 35) (.const (.int .i64 2)), none, []⟩, 
  ⟨(some (37)), .move (.tmp 36), none, []⟩, 
  ⟨(some (38)), .fieldAddr 1 (.tmp 12), (some (37, false)), []⟩, 
  ⟨(some (39)), .load none (.tmp 38), (some (37, false)), []⟩, 
  ⟨(some (40)), .len false (.tmp 39), (some (37, false)), []⟩, 
  ⟨(some (41)), .bin .plain .lss (.tmp 40) (.const (.int .i64 2)), (some (37, false)), []⟩, 
  ⟨(some (42)), .pick (.tmp 37) (.const (.bool true)) (.tmp 41), none, []⟩]
def k_law02_CurveTubes_r5 : List AOper := [
  ⟨(some (43)), .call (.const (.fn (.func 23) [] [])) [], none, []⟩, 
  ⟨(some (10)), .move (.tmp 43), none, []⟩]
def k_law02_CurveTubes_r6 : List AOper := [
  ⟨(some (44)), .move (.tmp 1), none, []⟩, 
  ⟨(some (45)), .fieldAddr 0 (.tmp 12), none, [0]⟩, 
  ⟨(some (46)), .load none (.tmp 45), none, [0]⟩, 
  ⟨(some (47)), .len false (.tmp 46), none, [0]⟩, 
  ⟨(some (48)), .bin .plain .sub (.tmp 47) (.const (.int .i64 1)), none, [0]⟩, 
  ⟨(some (49)), .call (.const (.fn (.func 50) [] [])) [.tmp 44, .tmp 48], none, []⟩, 
  ⟨(some (50)), .move (.tmp 2), none, [0, 1, 2, 3, 4, 5]⟩, 
  ⟨(some (51)), .fieldAddr 1 (.tmp 12), none, [0, 1, 2, 3, 4, 5, 6]⟩, 
  ⟨(some (52)), .load none (.tmp 51), none, [0, 1, 2, 3, 4, 5, 6]⟩, 
  ⟨(some (53)), .len false (.tmp 52), none, [0, 1, 2, 3, 4, 5, 6]⟩, 
  ⟨(some (54)), .bin .plain .sub (.tmp 53) (.const (.int .i64 1)), none, [0, 1, 2, 3, 4, 5, 6]⟩, 
  ⟨(some (55)), .call (.const (.fn (.func 50) [] [])) [.tmp 50, .tmp 54], none, []⟩, 
  ⟨(some (1)), .move (.tmp 49), none, []⟩, 
  ⟨(some (2)), .move (.tmp 55), none, []⟩]
def k_law02_CurveTubes_r6s : List (List AOper) := [
  [
  ⟨(some (44)), .move (.tmp 1), none, []⟩, 
  ⟨(some (45)), .fieldAddr 0 (.tmp 12), none, [0]⟩, 
  ⟨(some (46)), .load none (.tmp 45), none, [0]⟩, 
  ⟨(some (47)), .len false (.tmp 46), none, [0]⟩, 
  ⟨(some (48)), .bin .plain .sub (.tmp 47) (.const (.int .i64 1)), none, [0]⟩, 
  ⟨(some (49)), .call (.const (.fn (.func 50) [] [])) [.tmp 44, .tmp 48], none, []⟩, 
  ⟨(some (50)), .move (.tmp 2), none, [0, 1, 2, 3, 4, 5]⟩, 
  ⟨(some (51)), .fieldAddr 1 (.tmp 12), none, [0, 1, 2, 3, 4, 5, 6]⟩, 
  ⟨(some (52)), .load none (.tmp 51), none, [0, 1, 2, 3, 4, 5, 6]⟩, 
  ⟨(some (53)), .len false (.tmp 52), none, [0, 1, 2, 3, 4, 5, 6]⟩, 
  ⟨(some (54)), .bin .plain .sub (.tmp 53) (.const (.int .i64 1)), none, [0, 1, 2, 3, 4, 5, 6]⟩], 
  [
  ⟨(some (55)), .call (.const (.fn (.func 50) [] [])) [.tmp 50, .tmp 54], none, []⟩], 
  [
  ⟨(some (1)), .move (.tmp 49), none, []⟩], 
  [
  ⟨(some (2)), .move (.tmp 55), none, []⟩]]
theorem k_law02_CurveTubes_r6_sg : segs k_law02_CurveTubes_r6 = k_law02_CurveTubes_r6s := by kernel_rfl
theorem k_law02_CurveTubes_r6_st : statOK k_law02_CurveTubes_r6 = true := by kernel_rfl
def k_law02_CurveTubes_r7 : List AOper := [
  ⟨(some (56)), .move (.tmp 3), none, []⟩, 
  ⟨(some (57)), .call (.const (.fn (.func 50) [] [])) [.tmp 56, .const (.int .i64 16000)], none, []⟩, 
  ⟨(some (58)), .bin .plain .sub (.tmp 57) (.const (.int .i64 11000)), none, []⟩, 
  ⟨(some (59)), .move (.tmp 4), none, []⟩, 
  ⟨(some (60)), .call (.const (.fn (.func 50) [] [])) [.tmp 59, .const (.int .i64 350000)], none, []⟩, 
  ⟨(some (3)), .move (.tmp 58), none, []⟩, 
  ⟨(some (4)), .move (.tmp 60), none, []⟩]
def k_law02_CurveTubes_r8 : List AOper := [
  ⟨(some (62)), .load (some (4)) (.tmp 12), none, []⟩, 
  ⟨(some (63)), .move (.tmp 1), none, []⟩, 
  ⟨(some (64)), .move (.tmp 4), none, []⟩, 
  ⟨(some (65)), .call (.const (.fn (.func 41) [] [])) [.tmp 62, .tmp 63, .tmp 64], none, []⟩, 
  ⟨(some (61)), .move (.tmp 65), none, []⟩, 
  ⟨(some (66)), .extract (.tmp 61) 0, none, []⟩, 
  ⟨(some (67)), .extract (.tmp 61) 1, none, []⟩, 
  ⟨(some (14)), .box (.const (.agg [.int .i64 0, .int .i64 0])), none, []⟩, 
  ⟨none, .store 2 (.tmp 14) (.tmp 66), none, []⟩, 
  ⟨(some (15)), .move (.tmp 67), none, []⟩]
def k_law02_CurveTubes_r9 : List AOper := [
  ⟨(some (69)), .load (some (4)) (.tmp 13), none, []⟩, 
  ⟨(some (70)), .move (.tmp 1), none, []⟩, 
  ⟨(some (71)), .move (.tmp 4), none, []⟩, 
  ⟨(some (72)), .call (.const (.fn (.func 41) [] [])) [.tmp 69, .tmp 70, .tmp 71], none, []⟩, 
  ⟨(some (68)), .move (.tmp 72), none, []⟩, 
  ⟨(some (73)), .extract (.tmp 68) 0, none, []⟩, 
  ⟨(some (74)), .extract (.tmp 68) 1, none, []⟩, 
  ⟨(some (16)), .box (.const (.agg [.int .i64 0, .int .i64 0])), none, []⟩, 
  ⟨none, .store 2 (.tmp 16) (.tmp 73), none, []⟩, 
  ⟨(some (17)), .move (.tmp 74), none, []⟩]
def k_law02_CurveTubes_r10 : List AOper := [
  ⟨(some (76)), .load (some (4)) (.tmp 12), none, []⟩, 
  ⟨(some (77)), .move (.tmp 3), none, []⟩, 
  ⟨(some (78)), .move (.tmp 2), none, []⟩, 
  ⟨(some (79)), .call (.const (.fn (.func 43) [] [])) [.tmp 76, .tmp 77, .tmp 78], none, []⟩, 
  ⟨(some (75)), .move (.tmp 79), none, []⟩, 
  ⟨(some (80)), .extract (.tmp 75) 0, none, []⟩, 
  ⟨(some (81)), .extract (.tmp 75) 1, none, []⟩, 
  ⟨(some (18)), .box (.const (.agg [.int .i64 0, .int .i64 0])), none, []⟩, 
  ⟨none, .store 2 (.tmp 18) (.tmp 80), none, []⟩, 
  ⟨(some (19)), .move (.tmp 81), none, []⟩]
def k_law02_CurveTubes_r11 : List AOper := [
  ⟨(some (83)), .load (some (4)) (.tmp 13), none, []⟩, 
  ⟨(some (84)), .move (.tmp 3), none, []⟩, 
  ⟨(some (85)), .move (.tmp 2), none, []⟩, 
  ⟨(some (86)), .call (.const (.fn (.func 43) [] [])) [.tmp 83, .tmp 84, .tmp 85], none, []⟩, 
  ⟨(some (82)), .move (.tmp 86), none, []⟩, 
  ⟨(some (87)), .extract (.tmp 82) 0, none, []⟩, 
  ⟨(some (88)), .extract (.tmp 82) 1, none, []⟩, 
  ⟨(some (20)), .box (.const (.agg [.int .i64 0, .int .i64 0])), none, []⟩, 
  ⟨none, .store 2 (.tmp 20) (.tmp 87), none, []⟩, 
  ⟨(some (21)), .move (.tmp 88), none, []⟩]
def k_law02_CurveTubes_r12 : List AOper := [
  ⟨(some (89)), .move (.tmp 15), none, []⟩, 
  ⟨(some (90)), .bin .plain .neq (.tmp 89) (.const (.int .i64 0)), none, []⟩, 
  ⟨(some (91)), .move (.tmp 90), none, []⟩, 
  ⟨(some (92)), .move (.tmp 17), (some (91, false)), []⟩, 
  ⟨(some (93)), .bin .plain .neq (.tmp 92) (.const (.int .i64 0)), (some (91, false)), []⟩, 
  ⟨(some (94)), .pick (.tmp 91) (.const (.bool true)) (.tmp 93), none, []⟩, 
  ⟨(some (95)), .move (.tmp 94), none, []⟩, 
  ⟨(some (96)), .move (.tmp 19), (some (95, false)), []⟩, 
  ⟨(some (97)), .bin .plain .neq (.tmp 96) (.const (.int .i64 0)), (some (95, false)), []⟩, 
  ⟨(some (98)), .pick (.tmp 95) (.const (.bool true)) (.tmp 97), none, []⟩, 
  ⟨(some (99)), .move (.tmp 98), none, []⟩, 
  ⟨(some (100)), .move (.tmp 21), (some (99, false)), []⟩, 
  ⟨(some (101)), .bin .plain .neq (.tmp 100) (.const (.int .i64 0)), (some (99, false)), []⟩, 
  ⟨(some (102)), .pick (.tmp 99) (.const (.bool true)) (.tmp 101), none, []⟩, 
  ⟨(some (103)), .move (.tmp 102), none, []⟩, 
  ⟨(some (104)), .load (some (2)) (.tmp 16), (some (103, false)), []⟩, 
  ⟨(some (105)), .load (some (2)) (.tmp 14), (some (103, false)), []⟩, 
  ⟨(some (106)), .call (.const (.fn (.func 51) [] [])) [.tmp 104, .tmp 105], (some (103, false)), []⟩, 
  ⟨(some (107)), .not (.tmp 106), (some (103, false)), []⟩, 
  ⟨(some (108)), .pick (.tmp 103) (.const (.bool true)) (.tmp 107), none, []⟩, 
  ⟨(some (109)), .move (.tmp 108), none, []⟩, 
  ⟨(some (110)), .load (some (2)) (.tmp 20), (some (109, false)), []⟩, 
  ⟨(some (111)), .load (some (2)) (.tmp 18), (some (109, false)), []⟩, 
  ⟨(some (112)), .call (.const (.fn (.func 51) [] [])) [.tmp 110, .tmp 111], (some (109, false)), []⟩, 
  ⟨(some (113)), .not (.tmp 112), (some (109, false)), []⟩, 
  ⟨(some (114)), .pick (.tmp 109) (.const (.bool true)) (.tmp 113), none, []⟩, 
  ⟨(some (115)), .move (.tmp 114), none, []⟩, 
  ⟨(some (116)), .fieldAddr 0 (.tmp 14), (some (115, false)), []⟩, 
  ⟨(some (117)), .load none (.tmp 116), (some (115, false)), []⟩, 
  ⟨(some (118)), .bin .plain .lss (.tmp 117) (.const (.int .i64 0)), (some (115, false)), []⟩, 
  ⟨(some (119)), .pick (.tmp 115) (.const (.bool true)) (.tmp 118), none, []⟩, 
  ⟨(some (120)), .move (.tmp 119), none, []⟩, 
  ⟨(some (121)), .fieldAddr 0 (.tmp 18), (some (120, false)), []⟩, 
  ⟨(some (122)), .load none (.tmp 121), (some (120, false)), []⟩, 
  ⟨(some (123)), .bin .plain .lss (.tmp 122) (.const (.int .i64 0)), (some (120, false)), []⟩, 
  ⟨(some (124)), .pick (.tmp 120) (.const (.bool true)) (.tmp 123), none, []⟩]
def k_law02_CurveTubes_r13 : List AOper := [
  ⟨(some (10)), .move (.const (.bool false)), none, []⟩]
def k_law02_CurveTubes_r14 : List AOper := [
  ⟨(some (126)), .load (some (4)) (.tmp 12), none, []⟩, 
  ⟨(some (127)), .move (.tmp 1), none, []⟩, 
  ⟨(some (128)), .move (.tmp 2), none, []⟩, 
  ⟨(some (129)), .call (.const (.fn (.func 45) [] [])) [.tmp 126, .tmp 127, .tmp 128], none, []⟩, 
  ⟨(some (125)), .move (.tmp 129), none, []⟩, 
  ⟨(some (130)), .extract (.tmp 125) 0, none, []⟩, 
  ⟨(some (131)), .extract (.tmp 125) 1, none, []⟩, 
  ⟨(some (22)), .box (.const (.agg [.int .i64 0, .int .i64 0])), none, []⟩, 
  ⟨none, .store 2 (.tmp 22) (.tmp 130), none, []⟩, 
  ⟨(some (23)), .move (.tmp 131), none, []⟩]
def k_law02_CurveTubes_r15 : List AOper := [
  ⟨(some (133)), .load (some (4)) (.tmp 13), none, []⟩, 
  ⟨(some (134)), .move (.tmp 1), none, []⟩, 
  ⟨(some (135)), .move (.tmp 2), none, []⟩, 
  ⟨(some (136)), .call (.const (.fn (.func 45) [] [])) [.tmp 133, .tmp 134, .tmp 135], none, []⟩, 
  ⟨(some (132)), .move (.tmp 136), none, []⟩, 
  ⟨(some (137)), .extract (.tmp 132) 0, none, []⟩, 
  ⟨(some (138)), .extract (.tmp 132) 1, none, []⟩, 
  ⟨(some (24)), .box (.const (.agg [.int .i64 0, .int .i64 0])), none, []⟩, 
  ⟨none, .store 2 (.tmp 24) (.tmp 137), none, []⟩, 
  ⟨(some (25)), .move (.tmp 138), none, []⟩]
def k_law02_CurveTubes_r16 : List AOper := [
  ⟨(some (139)), .move (.tmp 23), none, []⟩, 
  ⟨(some (140)), .bin .plain .neq (.tmp 139) (.const (.int .i64 0)), none, []⟩]
def k_law02_CurveTubes_r17 : List AOper := [
  ⟨(some (141)), .move (.tmp 23), none, []⟩, 
  ⟨(some (142)), .bin .plain .eql (.tmp 141) (.const (.int .i64 15)), none, []⟩, 
  ⟨(some (143)), .move (.tmp 142), none, []⟩, 
  ⟨(some (144)), .call (.const (.fn (.func 23) [] [])) [], (some (143, true)), []⟩, 
  ⟨(some (145)), .pick (.tmp 143) (.tmp 144) (.const (.bool false)), none, []⟩, 
  ⟨(some (10)), .move (.tmp 145), none, []⟩]
def k_law02_CurveTubes_r18 : List AOper := [
  ⟨(some (146)), .move (.tmp 25), none, []⟩, 
  ⟨(some (147)), .bin .plain .eql (.tmp 146) (.const (.int .i64 0)), none, []⟩, 
  ⟨(some (148)), .move (.tmp 147), none, []⟩, 
  ⟨(some (149)), .load (some (2)) (.tmp 24), (some (148, true)), []⟩, 
  ⟨(some (150)), .load (some (2)) (.tmp 22), (some (148, true)), []⟩, 
  ⟨(some (151)), .call (.const (.fn (.func 51) [] [])) [.tmp 149, .tmp 150], (some (148, true)), []⟩, 
  ⟨(some (152)), .pick (.tmp 148) (.tmp 151) (.const (.bool false)), none, []⟩, 
  ⟨(some (153)), .move (.tmp 152), none, []⟩, 
  ⟨(some (154)), .call (.const (.fn (.func 23) [] [])) [], (some (153, true)), []⟩, 
  ⟨(some (155)), .pick (.tmp 153) (.tmp 154) (.const (.bool false)), none, []⟩, 
  ⟨(some (10)), .move (.tmp 155), none, []⟩]
def k_law02_CurveTubes : AFun := { params := 5, ntmps := 156, body := (.seq (.reg k_law02_CurveTubes_r0 false) (.seq (.reg k_law02_CurveTubes_r1 false) (.seq (.reg k_law02_CurveTubes_r2 false) (.seq (.reg k_law02_CurveTubes_r3 false) (.seq (.seq (.reg k_law02_CurveTubes_r4 false) (.cond (.tmp 42) (.seq (.reg k_law02_CurveTubes_r5 false) .ret) .skip)) (.seq (.reg k_law02_CurveTubes_r6 true) (.seq (.reg k_law02_CurveTubes_r7 false) (.seq (.reg k_law02_CurveTubes_r8 false) (.seq (.reg k_law02_CurveTubes_r9 false) (.seq (.reg k_law02_CurveTubes_r10 false) (.seq (.reg k_law02_CurveTubes_r11 false) (.seq (.seq (.reg k_law02_CurveTubes_r12 false) (.cond (.tmp 124) (.seq (.reg k_law02_CurveTubes_r13 false) .ret) .skip)) (.seq (.reg k_law02_CurveTubes_r14 false) (.seq (.reg k_law02_CurveTubes_r15 false) (.seq (.seq (.reg k_law02_CurveTubes_r16 false) (.cond (.tmp 140) (.seq (.reg k_law02_CurveTubes_r17 false) .ret) .skip)) (.seq (.reg k_law02_CurveTubes_r18 false) .ret)))))))))))))))), res := [.tmp 10] }
theorem k_law02_CurveTubes_ok : cfun Try.prog Try.f11 = k_law02_CurveTubes := by kernel_rfl

def k_kit_WithinFamily_r0 : List AOper := [
  ⟨(some (4)), .box (.tmp 1), none, []⟩, 
  ⟨(some (6)), .box (.const (.agg [.nilsl, .nilsl, .nilsl, .nilsl])), none, []⟩]
def k_kit_WithinFamily_r1 : List AOper := [
  ⟨(some (14)), .fieldAddr 0 (.tmp 4), none, []⟩, 
  ⟨(some (15)), .load none (.tmp 14), none, []⟩, 
  ⟨(some (16)), .call (.const (.fn (.func 62) [] [])) [.tmp 15], none, []⟩, 
  ⟨(some (17)), .fieldAddr 1 (.tmp 4), none, [0, 1, 2]⟩, 
  ⟨(some (18)), .load none (.tmp 17), none, [0, 1, 2]⟩, 
  ⟨(some (19)), .call (.const (.fn (.func 62) [] [])) [.tmp 18], none, []⟩, 
  ⟨(some (20)), .build [.nilsl, .nilsl, .nilsl, .nilsl] [(0, 1, .tmp 16), (1, 1, .tmp 19)], none, []⟩, 
  ⟨(some (7)), .box (.const (.agg [.nilsl, .nilsl, .nilsl, .nilsl])), none, [0, 1, 2, 3, 4, 5, 6]⟩, 
  ⟨none, .store 4 (.tmp 7) (.tmp 20), none, []⟩]
def k_kit_WithinFamily_r1s : List (List AOper) := [
  [
  ⟨(some (14)), .fieldAddr 0 (.tmp 4), none, []⟩, 
  ⟨(some (15)), .load none (.tmp 14), none, []⟩, 
  ⟨(some (16)), .call (.const (.fn (.func 62) [] [])) [.tmp 15], none, []⟩, 
  ⟨(some (17)), .fieldAddr 1 (.tmp 4), none, [0, 1, 2]⟩, 
  ⟨(some (18)), .load none (.tmp 17), none, [0, 1, 2]⟩, 
  ⟨(some (19)), .call (.const (.fn (.func 62) [] [])) [.tmp 18], none, []⟩, 
  ⟨(some (20)), .build [.nilsl, .nilsl, .nilsl, .nilsl] [(0, 1, .tmp 16), (1, 1, .tmp 19)], none, []⟩, 
  ⟨(some (7)), .box (.const (.agg [.nilsl, .nilsl, .nilsl, .nilsl])), none, [0, 1, 2, 3, 4, 5, 6]⟩], 
  [
  ⟨none, .store 4 (.tmp 7) (.tmp 20), none, []⟩]]
theorem k_kit_WithinFamily_r1_sg : segs k_kit_WithinFamily_r1 = k_kit_WithinFamily_r1s := by kernel_rfl
theorem k_kit_WithinFamily_r1_st : statOK k_kit_WithinFamily_r1 = true := by kernel_rfl
def k_kit_WithinFamily_r2 : List AOper := [
  ⟨(some (8)), .move (.const (.int .i64 0)), none, []⟩]
def k_kit_WithinFamily_r3 : List AOper := [
  ⟨(some (21)), .move (.tmp 8), none, []⟩, 
  ⟨(some (22)), .fieldAddr 0 (.tmp 4), none, []⟩, 
  ⟨(some (23)), .load none (.tmp 22), none, []⟩, 
  ⟨(some (24)), .len false (.tmp 23), none, []⟩, 
  ⟨(some (25)), .bin .plain .lss (.tmp 21) (.tmp 24), none, []⟩]
def k_kit_WithinFamily_r4 : List AOper := [
  ⟨(some (9)), .move (.const (.nilsl)), none, []⟩, 
  ⟨(some (10)), .move (.const (.nilsl)), none, []⟩]
def k_kit_WithinFamily_r5 : List AOper := [
  ⟨(some (11)), .move (.const (.int .i64 0)), none, []⟩]
def k_kit_WithinFamily_r6 : List AOper := [
  ⟨(some (28)), .move (.tmp 11), none, []⟩, 
  ⟨(some (29)), .fieldAddr 1 (.tmp 4), none, []⟩, 
  ⟨(some (30)), .load none (.tmp 29), none, []⟩, 
  ⟨(some (31)), .len false (.tmp 30), none, []⟩, 
  ⟨(some (32)), .bin .plain .lss (.tmp 28) (.tmp 31), none, []⟩]
def k_kit_WithinFamily_r7 : List AOper := [
  ⟨(some (35)), .move (.tmp 0), none, []⟩, 
  ⟨(some (36)), .fieldAddr 2 (.tmp 4), none, [0]⟩, 
  ⟨(some (37)), .load none (.tmp 36), none, [0]⟩, 
  ⟨(some (38)), .move (.tmp 8), none, [0, 1, 2]⟩, 
  ⟨(some (39)), .indexAddr 1 (.tmp 37) (.tmp 38), none, [0]⟩, 
  ⟨(some (40)), .load none (.tmp 39), none, [0]⟩, 
  ⟨(some (41)), .move (.tmp 11), none, [0, 1, 2, 3, 4, 5]⟩, 
  ⟨(some (42)), .indexAddr 1 (.tmp 40) (.tmp 41), none, [0]⟩, 
  ⟨(some (43)), .load none (.tmp 42), none, [0]⟩, 
  ⟨(some (44)), .fieldAddr 3 (.tmp 4), none, [0, 1, 2, 3, 4, 5, 6, 7, 8]⟩, 
  ⟨(some (45)), .load none (.tmp 44), none, [0, 1, 2, 3, 4, 5, 6, 7, 8]⟩, 
  ⟨(some (46)), .move (.tmp 8), none, [0, 1, 2, 3, 4, 5, 6, 7, 8, 9, 10]⟩, 
  ⟨(some (47)), .indexAddr 1 (.tmp 45) (.tmp 46), none, [0, 1, 2, 3, 4, 5, 6, 7, 8]⟩, 
  ⟨(some (48)), .load none (.tmp 47), none, [0, 1, 2, 3, 4, 5, 6, 7, 8]⟩, 
  ⟨(some (49)), .move (.tmp 11), none, [0, 1, 2, 3, 4, 5, 6, 7, 8, 9, 10, 11, 12, 13]⟩, 
  ⟨(some (50)), .indexAddr 1 (.tmp 48) (.tmp 49), none, [0, 1, 2, 3, 4, 5, 6, 7, 8]⟩, 
  ⟨(some (51)), .load none (.tmp 50), none, [0, 1, 2, 3, 4, 5, 6, 7, 8]⟩, 
  ⟨(some (52)), .call (.const (.fn (.func 14) [] [])) [.tmp 35, .tmp 43, .tmp 51], none, []⟩, 
  ⟨(some (12)), .move (.tmp 52), none, []⟩]
def k_kit_WithinFamily_r7s : List (List AOper) := [
  [
  ⟨(some (35)), .move (.tmp 0), none, []⟩, 
  ⟨(some (36)), .fieldAddr 2 (.tmp 4), none, [0]⟩, 
  ⟨(some (37)), .load none (.tmp 36), none, [0]⟩, 
  ⟨(some (38)), .move (.tmp 8), none, [0, 1, 2]⟩, 
  ⟨(some (39)), .indexAddr 1 (.tmp 37) (.tmp 38), none, [0]⟩, 
  ⟨(some (40)), .load none (.tmp 39), none, [0]⟩, 
  ⟨(some (41)), .move (.tmp 11), none, [0, 1, 2, 3, 4, 5]⟩, 
  ⟨(some (42)), .indexAddr 1 (.tmp 40) (.tmp 41), none, [0]⟩, 
  ⟨(some (43)), .load none (.tmp 42), none, [0]⟩, 
  ⟨(some (44)), .fieldAddr 3 (.tmp 4), none, [0, 1, 2, 3, 4, 5, 6, 7, 8]⟩, 
  ⟨(some (45)), .load none (.tmp 44), none, [0, 1, 2, 3, 4, 5, 6, 7, 8]⟩, 
  ⟨(some (46)), .move (.tmp 8), none, [0, 1, 2, 3, 4, 5, 6, 7, 8, 9, 10]⟩, 
  ⟨(some (47)), .indexAddr 1 (.tmp 45) (.tmp 46), none, [0, 1, 2, 3, 4, 5, 6, 7, 8]⟩, 
  ⟨(some (48)), .load none (.tmp 47), none, [0, 1, 2, 3, 4, 5, 6, 7, 8]⟩, 
  ⟨(some (49)), .move (.tmp 11), none, [0, 1, 2, 3, 4, 5, 6, 7, 8, 9, 10, 11, 12, 13]⟩, 
  ⟨(some (50)), .indexAddr 1 (.tmp 48) (.tmp 49), none, [0, 1, 2, 3, 4, 5, 6, 7, 8]⟩, 
  ⟨(some (51)), .load none (.tmp 50), none, [0, 1, 2, 3, 4, 5, 6, 7, 8]⟩], 
  [
  ⟨(some (52)), .call (.const (.fn (.func 14) [] [])) [.tmp 35, .tmp 43, .tmp 51], none, []⟩], 
  [
  ⟨(some (12)), .move (.tmp 52), none, []⟩]]
theorem k_kit_WithinFamily_r7_sg : segs k_kit_WithinFamily_r7 = k_kit_WithinFamily_r7s := by kernel_rfl
theorem k_kit_WithinFamily_r7_st : statOK k_kit_WithinFamily_r7 = true := by kernel_rfl
def k_kit_WithinFamily_r8 : List AOper := [
  ⟨(some (53)), .move (.tmp 8), none, []⟩, 
  ⟨(some (54)), .bin .plain .gtr (.tmp 53) (.const (.int .i64 0)), none, []⟩]
def k_kit_WithinFamily_r9 : List AOper := [
  ⟨(some (55)), .move (.tmp 12), none, []⟩, 
  ⟨(some (56)), .fieldAddr 2 (.tmp 7), none, []⟩, 
  ⟨(some (57)), .load none (.tmp 56), none, []⟩, 
  ⟨(some (58)), .move (.tmp 8), none, []⟩, 
  ⟨(some (59)), .bin .plain .sub (.tmp 58) (.const (.int .i64 1)), none, []⟩, 
  ⟨(some (60)), .indexAddr 1 (.tmp 57) (.tmp 59), none, []⟩, 
  ⟨(some (61)), .load none (.tmp 60), none, []⟩, 
  ⟨(some (62)), .move (.tmp 11), none, []⟩, 
  ⟨(some (63)), .indexAddr 1 (.tmp 61) (.tmp 62), none, []⟩, 
  ⟨(some (64)), .load none (.tmp 63), none, []⟩, 
  ⟨(some (65)), .minmax true [.tmp 55, .tmp 64], none, []⟩, 
  ⟨(some (12)), .move (.tmp 65), none, []⟩]
def k_kit_WithinFamily_r10 : List AOper := [
  ⟨(some (66)), .move (.tmp 11), none, []⟩, 
  ⟨(some (67)), .bin .plain .gtr (.tmp 66) (.const (.int .i64 0)), none, []⟩]
def k_kit_WithinFamily_r11 : List AOper := [
  ⟨(some (68)), .move (.tmp 12), none, []⟩, 
  ⟨(some (69)), .move (.tmp 9), none, []⟩, 
  ⟨(some (70)), .move (.tmp 11), none, []⟩, 
  ⟨(some (71)), .bin .plain .sub (.tmp 70) (.const (.int .i64 1)), none, []⟩, 
  ⟨(some (72)), .indexAddr 1 (.tmp 69) (.tmp 71), none, []⟩, 
  ⟨(some (73)), .load none (.tmp 72), none, []⟩, 
  ⟨(some (74)), .minmax true [.tmp 68, .tmp 73], none, []⟩, 
  ⟨(some (12)), .move (.tmp 74), none, []⟩]
def k_kit_WithinFamily_r12 : List AOper := [
  ⟨(some (75)), .move (.tmp 12), none, []⟩, 
  ⟨(some (13)), .move (.tmp 75), none, []⟩]
def k_kit_WithinFamily_r13 : List AOper := [
  ⟨(some (76)), .move (.tmp 2), none, []⟩, 
  ⟨(some (77)), .not (.tmp 76), none, []⟩]
def k_kit_WithinFamily_r14 : List AOper := [
  ⟨(some (78)), .move (.tmp 0), none, []⟩, 
  ⟨(some (79)), .move (.tmp 12), none, []⟩, 
  ⟨(some (80)), .fieldAddr 3 (.tmp 4), none, []⟩, 
  ⟨(some (81)), .load none (.tmp 80), none, []⟩, 
  ⟨(some (82)), .move (.tmp 8), none, []⟩, 
  ⟨(some (83)), .indexAddr 1 (.tmp 81) (.tmp 82), none, []⟩, 
  ⟨(some (84)), .load none (.tmp 83), none, []⟩, 
  ⟨(some (85)), .move (.tmp 11), none, []⟩, 
  ⟨(some (86)), .indexAddr 1 (.tmp 84) (.tmp 85), none, []⟩, 
  ⟨(some (87)), .load none (.tmp 86), none, []⟩, 
  ⟨(some (88)), .call (.const (.fn (.func 14) [] [])) [.tmp 78, .tmp 79, .tmp 87], none, []⟩, 
  ⟨(some (13)), .move (.tmp 88), none, []⟩]
def k_kit_WithinFamily_r15 : List AOper := [
  ⟨(some (89)), .move (.tmp 8), none, []⟩, 
  ⟨(some (90)), .bin .plain .gtr (.tmp 89) (.const (.int .i64 0)), none, []⟩]
def k_kit_WithinFamily_r16 : List AOper := [
  ⟨(some (91)), .move (.tmp 13), none, []⟩, 
  ⟨(some (92)), .fieldAddr 3 (.tmp 7), none, []⟩, 
  ⟨(some (93)), .load none (.tmp 92), none, []⟩, 
  ⟨(some (94)), .move (.tmp 8), none, []⟩, 
  ⟨(some (95)), .bin .plain .sub (.tmp 94) (.const (.int .i64 1)), none, []⟩, 
  ⟨(some (96)), .indexAddr 1 (.tmp 93) (.tmp 95), none, []⟩, 
  ⟨(some (97)), .load none (.tmp 96), none, []⟩, 
  ⟨(some (98)), .move (.tmp 11), none, []⟩, 
  ⟨(some (99)), .indexAddr 1 (.tmp 97) (.tmp 98), none, []⟩, 
  ⟨(some (100)), .load none (.tmp 99), none, []⟩, 
  ⟨(some (101)), .minmax true [.tmp 91, .tmp 100], none, []⟩, 
  ⟨(some (13)), .move (.tmp 101), none, []⟩]
def k_kit_WithinFamily_r17 : List AOper := [
  ⟨(some (102)), .move (.tmp 11), none, []⟩, 
  ⟨(some (103)), .bin .plain .gtr (.tmp 102) (.const (.int .i64 0)), none, []⟩]
def k_kit_WithinFamily_r18 : List AOper := [
  ⟨(some (104)), .move (.tmp 13), none, []⟩, 
  ⟨(some (105)), .move (.tmp 10), none, []⟩, 
  ⟨(some (106)), .move (.tmp 11), none, []⟩, 
  ⟨(some (107)), .bin .plain .sub (.tmp 106) (.const (.int .i64 1)), none, []⟩, 
  ⟨(some (108)), .indexAddr 1 (.tmp 105) (.tmp 107), none, []⟩, 
  ⟨(some (109)), .load none (.tmp 108), none, []⟩, 
  ⟨(some (110)), .minmax true [.tmp 104, .tmp 109], none, []⟩, 
  ⟨(some (13)), .move (.tmp 110), none, []⟩]
def k_kit_WithinFamily_r19 : List AOper := [
  ⟨(some (111)), .move (.tmp 9), none, []⟩, 
  ⟨(some (112)), .move (.tmp 12), none, []⟩, 
  ⟨(some (113)), .buildSlice 1 [.tmp 112], none, []⟩, 
  ⟨(some (114)), .append 1 8 false (.tmp 111) (.tmp 113), none, []⟩, 
  ⟨(some (115)), .move (.tmp 10), none, []⟩, 
  ⟨(some (116)), .move (.tmp 13), none, []⟩, 
  ⟨(some (117)), .buildSlice 1 [.tmp 116], none, []⟩, 
  ⟨(some (118)), .append 1 8 false (.tmp 115) (.tmp 117), none, []⟩, 
  ⟨(some (9)), .move (.tmp 114), none, []⟩, 
  ⟨(some (10)), .move (.tmp 118), none, []⟩]
def k_kit_WithinFamily_r20 : List AOper := [
  ⟨(some (33)), .move (.tmp 11), none, []⟩, 
  ⟨(some (34)), .bin .plain .add (.tmp 33) (.const (.int .i64 1)), none, []⟩, 
  ⟨(some (11)), .move (.tmp 34), none, []⟩]
def k_kit_WithinFamily_r21 : ACode := (.seq (.seq (.reg k_kit_WithinFamily_r6 false) (.cond (.tmp 32) .skip (.exit 2))) (.seq (.block 3 (.seq (.reg k_kit_WithinFamily_r7 true) (.seq (.seq (.reg k_kit_WithinFamily_r8 false) (.cond (.tmp 54) (.reg k_kit_WithinFamily_r9 false) .skip)) (.seq (.seq (.reg k_kit_WithinFamily_r10 false) (.cond (.tmp 67) (.reg k_kit_WithinFamily_r11 false) .skip)) (.seq (.reg k_kit_WithinFamily_r12 false) (.seq (.seq (.reg k_kit_WithinFamily_r13 false) (.cond (.tmp 77) (.seq (.reg k_kit_WithinFamily_r14 false) (.seq (.seq (.reg k_kit_WithinFamily_r15 false) (.cond (.tmp 90) (.reg k_kit_WithinFamily_r16 false) .skip)) (.seq (.reg k_kit_WithinFamily_r17 false) (.cond (.tmp 103) (.reg k_kit_WithinFamily_r18 false) .skip)))) .skip)) (.reg k_kit_WithinFamily_r19 false))))))) (.reg k_kit_WithinFamily_r20 false)))
def k_kit_WithinFamily_r22 : List AOper := [
  ⟨(some (119)), .fieldAddr 2 (.tmp 7), none, []⟩, 
  ⟨(some (120)), .load none (.tmp 119), none, []⟩, 
  ⟨(some (121)), .move (.tmp 9), none, [0, 1]⟩, 
  ⟨(some (122)), .buildSlice 1 [.tmp 121], none, [0, 1]⟩, 
  ⟨(some (123)), .append 1 24 false (.tmp 120) (.tmp 122), none, []⟩, 
  ⟨(some (124)), .fieldAddr 3 (.tmp 7), none, [0, 1, 2, 3, 4]⟩, 
  ⟨(some (125)), .load none (.tmp 124), none, [0, 1, 2, 3, 4]⟩, 
  ⟨(some (126)), .move (.tmp 10), none, [0, 1, 2, 3, 4, 5, 6]⟩, 
  ⟨(some (127)), .buildSlice 1 [.tmp 126], none, [0, 1, 2, 3, 4, 5, 6]⟩, 
  ⟨(some (128)), .append 1 24 false (.tmp 125) (.tmp 127), none, []⟩, 
  ⟨(some (129)), .fieldAddr 2 (.tmp 7), none, [7, 8, 9]⟩, 
  ⟨none, .store 1 (.tmp 129) (.tmp 123), none, []⟩, 
  ⟨(some (130)), .fieldAddr 3 (.tmp 7), none, []⟩, 
  ⟨none, .store 1 (.tmp 130) (.tmp 128), none, []⟩]
def k_kit_WithinFamily_r22s : List (List AOper) := [
  [
  ⟨(some (119)), .fieldAddr 2 (.tmp 7), none, []⟩, 
  ⟨(some (120)), .load none (.tmp 119), none, []⟩, 
  ⟨(some (121)), .move (.tmp 9), none, [0, 1]⟩, 
  ⟨(some (122)), .buildSlice 1 [.tmp 121], none, [0, 1]⟩, 
  ⟨(some (123)), .append 1 24 false (.tmp 120) (.tmp 122), none, []⟩, 
  ⟨(some (124)), .fieldAddr 3 (.tmp 7), none, [0, 1, 2, 3, 4]⟩, 
  ⟨(some (125)), .load none (.tmp 124), none, [0, 1, 2, 3, 4]⟩, 
  ⟨(some (126)), .move (.tmp 10), none, [0, 1, 2, 3, 4, 5, 6]⟩, 
  ⟨(some (127)), .buildSlice 1 [.tmp 126], none, [0, 1, 2, 3, 4, 5, 6]⟩, 
  ⟨(some (128)), .append 1 24 false (.tmp 125) (.tmp 127), none, []⟩, 
  ⟨(some (129)), .fieldAddr 2 (.tmp 7), none, [7, 8, 9]⟩], 
  [
  ⟨none, .store 1 (.tmp 129) (.tmp 123), none, []⟩], 
  [
  ⟨(some (130)), .fieldAddr 3 (.tmp 7), none, []⟩], 
  [
  ⟨none, .store 1 (.tmp 130) (.tmp 128), none, []⟩]]
theorem k_kit_WithinFamily_r22_sg : segs k_kit_WithinFamily_r22 = k_kit_WithinFamily_r22s := by kernel_rfl
theorem k_kit_WithinFamily_r22_st : statOK k_kit_WithinFamily_r22 = true := by kernel_rfl
def k_kit_WithinFamily_r23 : List AOper := [
  ⟨(some (26)), .move (.tmp 8), none, []⟩, 
  ⟨(some (27)), .bin .plain .add (.tmp 26) (.const (.int .i64 1)), none, []⟩, 
  ⟨(some (8)), .move (.tmp 27), none, []⟩]
def k_kit_WithinFamily_r24 : ACode := (.seq (.seq (.reg k_kit_WithinFamily_r3 false) (.cond (.tmp 25) .skip (.exit 0))) (.seq (.block 1 (.seq (.reg k_kit_WithinFamily_r4 false) (.seq (.seq (.reg k_kit_WithinFamily_r5 false) (.block 2 (.loop k_kit_WithinFamily_r21))) (.reg k_kit_WithinFamily_r22 true)))) (.reg k_kit_WithinFamily_r23 false)))
def k_kit_WithinFamily_r25 : List AOper := [
  ⟨(some (131)), .load (some (4)) (.tmp 7), none, []⟩, 
  ⟨none, .store 4 (.tmp 6) (.tmp 131), none, []⟩]
def k_kit_WithinFamily : AFun := { params := 3, ntmps := 132, body := (.seq (.reg k_kit_WithinFamily_r0 false) (.seq (.reg k_kit_WithinFamily_r1 true) (.seq (.seq (.reg k_kit_WithinFamily_r2 false) (.block 0 (.loop k_kit_WithinFamily_r24))) (.seq (.reg k_kit_WithinFamily_r25 false) .ret)))), res := [.cell 6 (some ((some (4))))] }
theorem k_kit_WithinFamily_ok : cfun Try.prog Try.f35 = k_kit_WithinFamily := by kernel_rfl


abbrev n_law02_CurveTubes : Nat := 11
theorem e_law02_CurveTubes : EntryOK Try.prog n_law02_CurveTubes k_law02_CurveTubes := ⟨Try.f11, Try.func11, k_law02_CurveTubes_ok, by kernel_rfl⟩
abbrev n_kit_WithinFamily : Nat := 35
theorem e_kit_WithinFamily : EntryOK Try.prog n_kit_WithinFamily k_kit_WithinFamily := ⟨Try.f35, Try.func35, k_kit_WithinFamily_ok, by kernel_rfl⟩

attribute [go_sem] k_law02_CurveTubes_r0 k_law02_CurveTubes_r1 k_law02_CurveTubes_r2 k_law02_CurveTubes_r3 k_law02_CurveTubes_r4 k_law02_CurveTubes_r5 k_law02_CurveTubes_r6s k_law02_CurveTubes_r7 k_law02_CurveTubes_r8 k_law02_CurveTubes_r9 k_law02_CurveTubes_r10 k_law02_CurveTubes_r11
attribute [go_sem] k_law02_CurveTubes_r12 k_law02_CurveTubes_r13 k_law02_CurveTubes_r14 k_law02_CurveTubes_r15 k_law02_CurveTubes_r16 k_law02_CurveTubes_r17 k_law02_CurveTubes_r18 k_kit_WithinFamily_r0 k_kit_WithinFamily_r1s k_kit_WithinFamily_r2 k_kit_WithinFamily_r3 k_kit_WithinFamily_r4
attribute [go_sem] k_kit_WithinFamily_r5 k_kit_WithinFamily_r6 k_kit_WithinFamily_r7s k_kit_WithinFamily_r8 k_kit_WithinFamily_r9 k_kit_WithinFamily_r10 k_kit_WithinFamily_r11 k_kit_WithinFamily_r12 k_kit_WithinFamily_r13 k_kit_WithinFamily_r14 k_kit_WithinFamily_r15 k_kit_WithinFamily_r16
attribute [go_sem] k_kit_WithinFamily_r17 k_kit_WithinFamily_r18 k_kit_WithinFamily_r19 k_kit_WithinFamily_r20 k_kit_WithinFamily_r22s k_kit_WithinFamily_r23 k_kit_WithinFamily_r25 k_kit_WithinFamily_r1_sg k_law02_CurveTubes_r6_sg k_kit_WithinFamily_r7_sg k_kit_WithinFamily_r22_sg k_kit_WithinFamily_r1_st
attribute [go_sem] k_law02_CurveTubes_r6_st k_kit_WithinFamily_r7_st k_kit_WithinFamily_r22_st k_law02_CurveTubes k_kit_WithinFamily
end Go.Proofs

