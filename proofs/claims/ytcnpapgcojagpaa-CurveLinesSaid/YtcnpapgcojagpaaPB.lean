/- A part of the proof. -/
import Derived.Test.YtcnpapgcojagpaaPA
import Derived.IntWalk
set_option linter.unusedSimpArgs false
set_option linter.unusedVariables false
namespace Go.Proofs
open Go Go.Sx

def k_kit_Lines_r0 : List AOper := [
  ⟨(some (8)), .move (.const (.nilsl)), none, []⟩]
def k_kit_Lines_r1 : List AOper := [
  ⟨(some (9)), .move (.const (.nilsl)), none, []⟩]
def k_kit_Lines_r2 : List AOper := [
  ⟨(some (13)), .move (.tmp 0), none, []⟩, 
  ⟨(some (14)), .move (.tmp 3), none, []⟩, 
  ⟨(some (15)), .call (.const (.fn (.func 14) [] [])) [.tmp 13, .const (.int .i64 1), .tmp 14], none, []⟩, 
  ⟨(some (10)), .move (.tmp 15), none, []⟩]
def k_kit_Lines_r3 : List AOper := [
  ⟨(some (16)), .move (.tmp 10), none, []⟩, 
  ⟨(some (17)), .bin .plain .gtr (.tmp 16) (.const (.int .i64 0)), none, []⟩]
def k_kit_Lines_r4 : List AOper := [
  ⟨(some (20)), .move (.tmp 0), none, []⟩, 
  ⟨(some (21)), .move (.tmp 1), none, []⟩, 
  ⟨(some (22)), .move (.tmp 2), none, []⟩, 
  ⟨(some (23)), .call (.const (.fn (.func 14) [] [])) [.tmp 20, .tmp 21, .tmp 22], none, []⟩, 
  ⟨(some (11)), .move (.tmp 23), none, []⟩]
def k_kit_Lines_r5 : List AOper := [
  ⟨(some (12)), .move (.const (.int .i64 0)), none, []⟩]
def k_kit_Lines_r6 : List AOper := [
  ⟨(some (24)), .move (.tmp 12), none, []⟩, 
  ⟨(some (25)), .move (.tmp 9), none, []⟩, 
  ⟨(some (26)), .len false (.tmp 25), none, []⟩, 
  ⟨(some (27)), .bin .plain .lss (.tmp 24) (.tmp 26), none, []⟩, 
  ⟨(some (28)), .move (.tmp 27), none, []⟩, 
  ⟨(some (29)), .move (.tmp 9), (some (28, true)), []⟩, 
  ⟨(some (30)), .move (.tmp 12), (some (28, true)), []⟩, 
  ⟨(some (31)), .indexAddr 1 (.tmp 29) (.tmp 30), (some (28, true)), []⟩, 
  ⟨(some (32)), .load none (.tmp 31), (some (28, true)), []⟩, 
  ⟨(some (33)), .move (.tmp 11), (some (28, true)), []⟩, 
  ⟨(some (34)), .bin .plain .lss (.tmp 32) (.tmp 33), (some (28, true)), []⟩, 
  ⟨(some (35)), .pick (.tmp 28) (.tmp 34) (.const (.bool false)), none, []⟩]
def k_kit_Lines_r7 : List AOper := [
  ⟨(some (36)), .move (.tmp 12), none, []⟩, 
  ⟨(some (37)), .bin .plain .add (.tmp 36) (.const (.int .i64 1)), none, []⟩, 
  ⟨(some (12)), .move (.tmp 37), none, []⟩]
def k_kit_Lines_r8 : ACode := (.seq (.seq (.reg k_kit_Lines_r6 false) (.cond (.tmp 35) .skip (.exit 2))) (.block 3 (.reg k_kit_Lines_r7 false)))
def k_kit_Lines_r9 : List AOper := [
  ⟨(some (38)), .move (.tmp 12), none, []⟩, 
  ⟨(some (39)), .move (.tmp 9), none, []⟩, 
  ⟨(some (40)), .len false (.tmp 39), none, []⟩, 
  ⟨(some (41)), .bin .plain .eql (.tmp 38) (.tmp 40), none, []⟩, 
  ⟨(some (42)), .move (.tmp 41), none, []⟩, 
  ⟨(some (43)), .move (.tmp 9), (some (42, false)), []⟩, 
  ⟨(some (44)), .move (.tmp 12), (some (42, false)), []⟩, 
  ⟨(some (45)), .indexAddr 1 (.tmp 43) (.tmp 44), (some (42, false)), []⟩, 
  ⟨(some (46)), .load none (.tmp 45), (some (42, false)), []⟩, 
  ⟨(some (47)), .move (.tmp 11), (some (42, false)), []⟩, 
  ⟨(some (48)), .bin .plain .neq (.tmp 46) (.tmp 47), (some (42, false)), []⟩, 
  ⟨(some (49)), .pick (.tmp 42) (.const (.bool true)) (.tmp 48), none, []⟩]
def k_kit_Lines_r10 : List AOper := [
  ⟨(some (50)), .move (.tmp 9), none, []⟩, 
  ⟨(some (51)), .move (.tmp 12), none, [0]⟩, 
  ⟨(some (52)), .slice false 1 (.tmp 50) none (some (.tmp 51)), none, []⟩, 
  ⟨(some (53)), .call (.const (.fn (.func 62) [] [])) [.tmp 52], none, []⟩, 
  ⟨(some (54)), .move (.tmp 11), none, [0, 1, 2, 3]⟩, 
  ⟨(some (55)), .buildSlice 1 [.tmp 54], none, [0, 1, 2, 3]⟩, 
  ⟨(some (56)), .append 1 8 false (.tmp 53) (.tmp 55), none, []⟩, 
  ⟨(some (57)), .move (.tmp 9), none, [0, 1, 2, 3, 4, 5, 6]⟩, 
  ⟨(some (58)), .move (.tmp 12), none, [0, 1, 2, 3, 4, 5, 6, 7]⟩, 
  ⟨(some (59)), .slice false 1 (.tmp 57) (some (.tmp 58)) none, none, [0, 1, 2, 3, 4, 5, 6]⟩, 
  ⟨(some (60)), .append 1 8 false (.tmp 56) (.tmp 59), none, []⟩, 
  ⟨(some (9)), .move (.tmp 60), none, []⟩]
def k_kit_Lines_r10s : List (List AOper) := [
  [
  ⟨(some (50)), .move (.tmp 9), none, []⟩, 
  ⟨(some (51)), .move (.tmp 12), none, [0]⟩, 
  ⟨(some (52)), .slice false 1 (.tmp 50) none (some (.tmp 51)), none, []⟩, 
  ⟨(some (53)), .call (.const (.fn (.func 62) [] [])) [.tmp 52], none, []⟩, 
  ⟨(some (54)), .move (.tmp 11), none, [0, 1, 2, 3]⟩, 
  ⟨(some (55)), .buildSlice 1 [.tmp 54], none, [0, 1, 2, 3]⟩, 
  ⟨(some (56)), .append 1 8 false (.tmp 53) (.tmp 55), none, []⟩, 
  ⟨(some (57)), .move (.tmp 9), none, [0, 1, 2, 3, 4, 5, 6]⟩, 
  ⟨(some (58)), .move (.tmp 12), none, [0, 1, 2, 3, 4, 5, 6, 7]⟩, 
  ⟨(some (59)), .slice false 1 (.tmp 57) (some (.tmp 58)) none, none, [0, 1, 2, 3, 4, 5, 6]⟩], 
  [
  ⟨(some (60)), .append 1 8 false (.tmp 56) (.tmp 59), none, []⟩], 
  [
  ⟨(some (9)), .move (.tmp 60), none, []⟩]]
theorem k_kit_Lines_r10_sg : segs k_kit_Lines_r10 = k_kit_Lines_r10s := by kernel_rfl
theorem k_kit_Lines_r10_st : statOK k_kit_Lines_r10 = true := by kernel_rfl
def k_kit_Lines_r11 : List AOper := [
  ⟨(some (18)), .move (.tmp 10), none, []⟩, 
  ⟨(some (19)), .bin .plain .sub (.tmp 18) (.const (.int .i64 1)), none, []⟩, 
  ⟨(some (10)), .move (.tmp 19), none, []⟩]
def k_kit_Lines_r12 : ACode := (.seq (.seq (.reg k_kit_Lines_r3 false) (.cond (.tmp 17) .skip (.exit 0))) (.seq (.block 1 (.seq (.reg k_kit_Lines_r4 false) (.seq (.reg k_kit_Lines_r5 false) (.seq (.block 2 (.loop k_kit_Lines_r8)) (.seq (.reg k_kit_Lines_r9 false) (.cond (.tmp 49) (.reg k_kit_Lines_r10 true) .skip)))))) (.reg k_kit_Lines_r11 false)))
def k_kit_Lines_r13 : List AOper := [
  ⟨(some (61)), .move (.tmp 9), none, []⟩, 
  ⟨(some (8)), .move (.tmp 61), none, []⟩]
def k_kit_Lines : AFun := { params := 4, ntmps := 62, body := (.seq (.reg k_kit_Lines_r0 false) (.seq (.reg k_kit_Lines_r1 false) (.seq (.seq (.reg k_kit_Lines_r2 false) (.block 0 (.loop k_kit_Lines_r12))) (.seq (.reg k_kit_Lines_r13 false) .ret)))), res := [.tmp 8] }
theorem k_kit_Lines_ok : cfun Try.prog Try.f48 = k_kit_Lines := by kernel_rfl

def k_kit_Own_r0 : List AOper := [
  ⟨(some (2)), .move (.const (.nilsl)), none, []⟩]
def k_kit_Own_r1 : List AOper := [
  ⟨(some (3)), .buildSlice 1 [], none, []⟩, 
  ⟨(some (4)), .move (.tmp 0), none, []⟩, 
  ⟨(some (5)), .append 1 8 false (.tmp 3) (.tmp 4), none, []⟩, 
  ⟨(some (2)), .move (.tmp 5), none, []⟩]
def k_kit_Own : AFun := { params := 1, ntmps := 6, body := (.seq (.reg k_kit_Own_r0 false) (.seq (.reg k_kit_Own_r1 false) .ret)), res := [.tmp 2] }
theorem k_kit_Own_ok : cfun Try.prog Try.f62 = k_kit_Own := by kernel_rfl

abbrev n_kit_Lines : Nat := 48
theorem e_kit_Lines : EntryOK Try.prog n_kit_Lines k_kit_Lines := ⟨Try.f48, Try.func48, k_kit_Lines_ok, by kernel_rfl⟩
abbrev n_kit_Own : Nat := 62
theorem e_kit_Own : EntryOK Try.prog n_kit_Own k_kit_Own := ⟨Try.f62, Try.func62, k_kit_Own_ok, by kernel_rfl⟩
attribute [go_sem] k_kit_Lines_r0 k_kit_Lines_r1 k_kit_Lines_r2 k_kit_Lines_r3 k_kit_Lines_r4 k_kit_Lines_r5 k_kit_Lines_r6 k_kit_Lines_r7 k_kit_Lines_r9 k_kit_Lines_r10s
attribute [go_sem] k_kit_Lines_r11 k_kit_Lines_r13
attribute [go_sem] k_kit_Own_r0 k_kit_Own_r1
attribute [go_sem] k_kit_Lines_r10_sg
attribute [go_sem] k_kit_Lines_r10_st
attribute [go_sem] k_kit_Lines k_kit_Own
end Go.Proofs

namespace Go.Proofs
open Go Go.Sx

end Go.Proofs

namespace Go.Proofs
open Go Go.Sx

def k_curve_Of_r0 : List AOper := [
  ⟨(some (3)), .box (.tmp 0), none, []⟩, 
  ⟨(some (6)), .box (.const (.agg [.nilsl, .nilsl, .nilsl, .nilsl])), none, []⟩, 
  ⟨(some (7)), .move (.const (.int .i64 0)), none, []⟩]
def k_curve_Of_r1 : List AOper := [
  ⟨(some (16)), .load (some (10)) (.tmp 3), none, []⟩, 
  ⟨(some (17)), .call (.const (.fn (.func 20) [] [])) [.tmp 16], none, []⟩, 
  ⟨(some (8)), .move (.tmp 17), none, []⟩]
def k_curve_Of_r2 : List AOper := [
  ⟨(some (18)), .move (.tmp 8), none, []⟩, 
  ⟨(some (19)), .bin .plain .neq (.tmp 18) (.const (.int .i64 0)), none, []⟩]
def k_curve_Of_r3 : List AOper := [
  ⟨(some (20)), .build [.nilsl, .nilsl, .nilsl, .nilsl] [], none, []⟩, 
  ⟨(some (21)), .move (.tmp 8), none, []⟩, 
  ⟨none, .store 4 (.tmp 6) (.tmp 20), none, []⟩, 
  ⟨(some (7)), .move (.tmp 21), none, []⟩]
def k_curve_Of_r4 : List AOper := [
  ⟨(some (22)), .move (.tmp 1), none, []⟩, 
  ⟨(some (23)), .move (.tmp 2), none, []⟩, 
  ⟨(some (24)), .call (.const (.fn (.func 69) [] [])) [.tmp 22, .tmp 23], none, []⟩, 
  ⟨(some (9)), .move (.tmp 24), none, []⟩]
def k_curve_Of_r5 : List AOper := [
  ⟨(some (25)), .move (.tmp 9), none, []⟩, 
  ⟨(some (26)), .bin .plain .neq (.tmp 25) (.const (.int .i64 0)), none, []⟩]
def k_curve_Of_r6 : List AOper := [
  ⟨(some (27)), .build [.nilsl, .nilsl, .nilsl, .nilsl] [], none, []⟩, 
  ⟨(some (28)), .move (.tmp 9), none, []⟩, 
  ⟨none, .store 4 (.tmp 6) (.tmp 27), none, []⟩, 
  ⟨(some (7)), .move (.tmp 28), none, []⟩]
def k_curve_Of_r7 : List AOper := [
  ⟨(some (29)), .move (.tmp 1), none, []⟩, 
  ⟨(some (30)), .move (.tmp 2), none, []⟩, 
  ⟨(some (31)), .call (.const (.fn (.func 102) [] [])) [.tmp 29, .tmp 30], none, []⟩, 
  ⟨(some (10)), .box (.const (.agg [.nilsl, .nilsl, .nilsl, .nilsl])), none, []⟩, 
  ⟨none, .store 4 (.tmp 10) (.tmp 31), none, []⟩]
def k_curve_Of_r8 : List AOper := [
  ⟨(some (32)), .move (.tmp 1), none, []⟩, 
  ⟨(some (33)), .len false (.tmp 32), none, []⟩, 
  ⟨(some (34)), .move (.const (.int .i64 0)), none, []⟩]
def k_curve_Of_r9 : List AOper := [
  ⟨(some (35)), .bin .plain .lss (.tmp 34) (.tmp 33), none, []⟩]
def k_curve_Of_r10 : List AOper := [
  ⟨(some (36)), .move (.tmp 34), none, []⟩, 
  ⟨(some (37)), .indexAddr 1 (.tmp 32) (.tmp 34), none, []⟩, 
  ⟨(some (38)), .load none (.tmp 37), none, []⟩, 
  ⟨(some (11)), .move (.tmp 36), none, []⟩, 
  ⟨(some (12)), .move (.tmp 38), none, []⟩]
def k_curve_Of_r11 : List AOper := [
  ⟨(some (39)), .move (.tmp 2), none, []⟩, 
  ⟨(some (40)), .len false (.tmp 39), none, []⟩, 
  ⟨(some (41)), .move (.const (.int .i64 0)), none, []⟩]
def k_curve_Of_r12 : List AOper := [
  ⟨(some (42)), .bin .plain .lss (.tmp 41) (.tmp 40), none, []⟩]
def k_curve_Of_r13 : List AOper := [
  ⟨(some (43)), .move (.tmp 41), none, []⟩, 
  ⟨(some (44)), .indexAddr 1 (.tmp 39) (.tmp 41), none, []⟩, 
  ⟨(some (45)), .load none (.tmp 44), none, []⟩, 
  ⟨(some (13)), .move (.tmp 43), none, []⟩, 
  ⟨(some (14)), .move (.tmp 45), none, []⟩]
def k_curve_Of_r14 : List AOper := [
  ⟨(some (46)), .load (some (10)) (.tmp 3), none, []⟩, 
  ⟨(some (47)), .move (.tmp 12), none, []⟩, 
  ⟨(some (48)), .move (.tmp 14), none, []⟩, 
  ⟨(some (49)), .call (.const (.fn (.func 58) [] [])) [.tmp 46, .tmp 47, .tmp 48], none, []⟩, 
  ⟨(some (15)), .box (.const (.agg [.int .i64 0, .int .i64 0])), none, []⟩, 
  ⟨none, .store 2 (.tmp 15) (.tmp 49), none, []⟩]
def k_curve_Of_r15 : List AOper := [
  ⟨(some (50)), .fieldAddr 2 (.tmp 10), none, []⟩, 
  ⟨(some (51)), .load none (.tmp 50), none, []⟩, 
  ⟨(some (52)), .move (.tmp 11), none, [0, 1]⟩, 
  ⟨(some (53)), .indexAddr 1 (.tmp 51) (.tmp 52), none, []⟩, 
  ⟨(some (54)), .load none (.tmp 53), none, []⟩, 
  ⟨(some (55)), .move (.tmp 13), none, [0, 1, 2, 3, 4]⟩, 
  ⟨(some (56)), .fieldAddr 3 (.tmp 10), none, [0, 1, 2, 3, 4, 5]⟩, 
  ⟨(some (57)), .load none (.tmp 56), none, [0, 1, 2, 3, 4, 5]⟩, 
  ⟨(some (58)), .move (.tmp 11), none, [0, 1, 2, 3, 4, 5, 6, 7]⟩, 
  ⟨(some (59)), .indexAddr 1 (.tmp 57) (.tmp 58), none, [0, 1, 2, 3, 4, 5]⟩, 
  ⟨(some (60)), .load none (.tmp 59), none, [0, 1, 2, 3, 4, 5]⟩, 
  ⟨(some (61)), .move (.tmp 13), none, [0, 1, 2, 3, 4, 5, 6, 7, 8, 9, 10]⟩, 
  ⟨(some (62)), .fieldAddr 0 (.tmp 15), none, [0, 1, 2, 3, 4, 5, 6, 7, 8, 9, 10, 11]⟩, 
  ⟨(some (63)), .load none (.tmp 62), none, [0, 1, 2, 3, 4, 5, 6, 7, 8, 9, 10, 11]⟩, 
  ⟨(some (64)), .fieldAddr 1 (.tmp 15), none, [0, 1, 2, 3, 4, 5, 6, 7, 8, 9, 10, 11, 12, 13]⟩, 
  ⟨(some (65)), .load none (.tmp 64), none, [0, 1, 2, 3, 4, 5, 6, 7, 8, 9, 10, 11, 12, 13]⟩, 
  ⟨(some (66)), .indexAddr 1 (.tmp 54) (.tmp 55), none, [11, 14, 15]⟩, 
  ⟨none, .store 1 (.tmp 66) (.tmp 63), none, [11, 14, 15]⟩, 
  ⟨(some (67)), .indexAddr 1 (.tmp 60) (.tmp 61), none, []⟩, 
  ⟨none, .store 1 (.tmp 67) (.tmp 65), none, []⟩]
def k_curve_Of_r15s : List (List AOper) := [
  [
  ⟨(some (50)), .fieldAddr 2 (.tmp 10), none, []⟩, 
  ⟨(some (51)), .load none (.tmp 50), none, []⟩, 
  ⟨(some (52)), .move (.tmp 11), none, [0, 1]⟩, 
  ⟨(some (53)), .indexAddr 1 (.tmp 51) (.tmp 52), none, []⟩, 
  ⟨(some (54)), .load none (.tmp 53), none, []⟩, 
  ⟨(some (55)), .move (.tmp 13), none, [0, 1, 2, 3, 4]⟩, 
  ⟨(some (56)), .fieldAddr 3 (.tmp 10), none, [0, 1, 2, 3, 4, 5]⟩, 
  ⟨(some (57)), .load none (.tmp 56), none, [0, 1, 2, 3, 4, 5]⟩, 
  ⟨(some (58)), .move (.tmp 11), none, [0, 1, 2, 3, 4, 5, 6, 7]⟩, 
  ⟨(some (59)), .indexAddr 1 (.tmp 57) (.tmp 58), none, [0, 1, 2, 3, 4, 5]⟩, 
  ⟨(some (60)), .load none (.tmp 59), none, [0, 1, 2, 3, 4, 5]⟩, 
  ⟨(some (61)), .move (.tmp 13), none, [0, 1, 2, 3, 4, 5, 6, 7, 8, 9, 10]⟩, 
  ⟨(some (62)), .fieldAddr 0 (.tmp 15), none, [0, 1, 2, 3, 4, 5, 6, 7, 8, 9, 10, 11]⟩, 
  ⟨(some (63)), .load none (.tmp 62), none, [0, 1, 2, 3, 4, 5, 6, 7, 8, 9, 10, 11]⟩, 
  ⟨(some (64)), .fieldAddr 1 (.tmp 15), none, [0, 1, 2, 3, 4, 5, 6, 7, 8, 9, 10, 11, 12, 13]⟩, 
  ⟨(some (65)), .load none (.tmp 64), none, [0, 1, 2, 3, 4, 5, 6, 7, 8, 9, 10, 11, 12, 13]⟩, 
  ⟨(some (66)), .indexAddr 1 (.tmp 54) (.tmp 55), none, [11, 14, 15]⟩, 
  ⟨none, .store 1 (.tmp 66) (.tmp 63), none, [11, 14, 15]⟩], 
  [
  ⟨(some (67)), .indexAddr 1 (.tmp 60) (.tmp 61), none, []⟩], 
  [
  ⟨none, .store 1 (.tmp 67) (.tmp 65), none, []⟩]]
theorem k_curve_Of_r15_sg : segs k_curve_Of_r15 = k_curve_Of_r15s := by kernel_rfl
theorem k_curve_Of_r15_st : statOK k_curve_Of_r15 = true := by kernel_rfl
def k_curve_Of_r16 : List AOper := [
  ⟨(some (68)), .bin .plain .add (.tmp 41) (.const (.int .i64 1)), none, []⟩, 
  ⟨(some (41)), .move (.tmp 68), none, []⟩]
def k_curve_Of_r17 : ACode := (.seq (.reg k_curve_Of_r12 false) (.seq (.cond (.tmp 42) .skip (.exit 2)) (.seq (.block 3 (.seq (.reg k_curve_Of_r13 false) (.seq (.reg k_curve_Of_r14 false) (.reg k_curve_Of_r15 true)))) (.reg k_curve_Of_r16 false))))
def k_curve_Of_r18 : List AOper := [
  ⟨(some (69)), .bin .plain .add (.tmp 34) (.const (.int .i64 1)), none, []⟩, 
  ⟨(some (34)), .move (.tmp 69), none, []⟩]
def k_curve_Of_r19 : ACode := (.seq (.reg k_curve_Of_r9 false) (.seq (.cond (.tmp 35) .skip (.exit 0)) (.seq (.block 1 (.seq (.reg k_curve_Of_r10 false) (.seq (.reg k_curve_Of_r11 false) (.block 2 (.loop k_curve_Of_r17))))) (.reg k_curve_Of_r18 false))))
def k_curve_Of_r20 : List AOper := [
  ⟨(some (70)), .load (some (4)) (.tmp 10), none, []⟩, 
  ⟨none, .store 4 (.tmp 6) (.tmp 70), none, []⟩, 
  ⟨(some (7)), .move (.const (.int .i64 0)), none, []⟩]
def k_curve_Of : AFun := { params := 3, ntmps := 71, body := (.seq (.reg k_curve_Of_r0 false) (.seq (.seq (.reg k_curve_Of_r1 false) (.seq (.reg k_curve_Of_r2 false) (.cond (.tmp 19) (.seq (.reg k_curve_Of_r3 false) .ret) .skip))) (.seq (.seq (.reg k_curve_Of_r4 false) (.seq (.reg k_curve_Of_r5 false) (.cond (.tmp 26) (.seq (.reg k_curve_Of_r6 false) .ret) .skip))) (.seq (.reg k_curve_Of_r7 false) (.seq (.seq (.reg k_curve_Of_r8 false) (.block 0 (.loop k_curve_Of_r19))) (.seq (.reg k_curve_Of_r20 false) .ret)))))), res := [.cell 6 (some ((some (4)))), .tmp 7] }
theorem k_curve_Of_ok : cfun Try.prog Try.f49 = k_curve_Of := by kernel_rfl

def k_curve_copied_r0 : List AOper := [
  ⟨(some (2)), .move (.const (.nilsl)), none, []⟩]
def k_curve_copied_r1 : List AOper := [
  ⟨(some (3)), .move (.tmp 0), none, []⟩, 
  ⟨(some (4)), .append 1 8 false (.const (.nilsl)) (.tmp 3), none, []⟩, 
  ⟨(some (2)), .move (.tmp 4), none, []⟩]
def k_curve_copied : AFun := { params := 1, ntmps := 5, body := (.seq (.reg k_curve_copied_r0 false) (.seq (.reg k_curve_copied_r1 false) .ret)), res := [.tmp 2] }
theorem k_curve_copied_ok : cfun Try.prog Try.f79 = k_curve_copied := by kernel_rfl

def k_curve_linesOf_r0 : List AOper := [
  ⟨(some (4)), .box (.const (.agg [.nilsl, .nilsl, .nilsl, .nilsl])), none, []⟩]
def k_curve_linesOf_r1 : List AOper := [
  ⟨(some (6)), .move (.tmp 0), none, []⟩, 
  ⟨(some (7)), .call (.const (.fn (.func 79) [] [])) [.tmp 6], none, []⟩, 
  ⟨(some (8)), .move (.tmp 1), none, []⟩, 
  ⟨(some (9)), .call (.const (.fn (.func 79) [] [])) [.tmp 8], none, []⟩, 
  ⟨(some (10)), .build [.nilsl, .nilsl, .nilsl, .nilsl] [(0, 1, .tmp 7), (1, 1, .tmp 9)], none, []⟩, 
  ⟨(some (5)), .box (.const (.agg [.nilsl, .nilsl, .nilsl, .nilsl])), none, []⟩, 
  ⟨none, .store 4 (.tmp 5) (.tmp 10), none, []⟩]
def k_curve_linesOf_r2 : List AOper := [
  ⟨(some (11)), .move (.tmp 0), none, []⟩, 
  ⟨(some (12)), .len false (.tmp 11), none, []⟩, 
  ⟨(some (13)), .move (.const (.int .i64 0)), none, []⟩]
def k_curve_linesOf_r3 : List AOper := [
  ⟨(some (14)), .bin .plain .lss (.tmp 13) (.tmp 12), none, []⟩]
def k_curve_linesOf_r4 : List AOper := [
  ⟨(some (15)), .fieldAddr 2 (.tmp 5), none, []⟩, 
  ⟨(some (16)), .load none (.tmp 15), none, []⟩, 
  ⟨(some (17)), .move (.tmp 1), none, [0, 1]⟩, 
  ⟨(some (18)), .len false (.tmp 17), none, [0, 1]⟩, 
  ⟨(some (19)), .makeSlice (.int .i64 0) 8 (.tmp 18) (.tmp 18), none, [0, 1]⟩, 
  ⟨(some (20)), .buildSlice 1 [.tmp 19], none, [0, 1]⟩, 
  ⟨(some (21)), .append 1 24 false (.tmp 16) (.tmp 20), none, []⟩, 
  ⟨(some (22)), .fieldAddr 2 (.tmp 5), none, []⟩, 
  ⟨none, .store 1 (.tmp 22) (.tmp 21), none, []⟩]
def k_curve_linesOf_r4s : List (List AOper) := [
  [
  ⟨(some (15)), .fieldAddr 2 (.tmp 5), none, []⟩, 
  ⟨(some (16)), .load none (.tmp 15), none, []⟩, 
  ⟨(some (17)), .move (.tmp 1), none, [0, 1]⟩, 
  ⟨(some (18)), .len false (.tmp 17), none, [0, 1]⟩, 
  ⟨(some (19)), .makeSlice (.int .i64 0) 8 (.tmp 18) (.tmp 18), none, [0, 1]⟩, 
  ⟨(some (20)), .buildSlice 1 [.tmp 19], none, [0, 1]⟩], 
  [
  ⟨(some (21)), .append 1 24 false (.tmp 16) (.tmp 20), none, []⟩], 
  [
  ⟨(some (22)), .fieldAddr 2 (.tmp 5), none, []⟩], 
  [
  ⟨none, .store 1 (.tmp 22) (.tmp 21), none, []⟩]]
theorem k_curve_linesOf_r4_sg : segs k_curve_linesOf_r4 = k_curve_linesOf_r4s := by kernel_rfl
theorem k_curve_linesOf_r4_st : statOK k_curve_linesOf_r4 = true := by kernel_rfl
def k_curve_linesOf_r5 : List AOper := [
  ⟨(some (23)), .fieldAddr 3 (.tmp 5), none, []⟩, 
  ⟨(some (24)), .load none (.tmp 23), none, []⟩, 
  ⟨(some (25)), .move (.tmp 1), none, [0, 1]⟩, 
  ⟨(some (26)), .len false (.tmp 25), none, [0, 1]⟩, 
  ⟨(some (27)), .makeSlice (.int .i64 0) 8 (.tmp 26) (.tmp 26), none, [0, 1]⟩, 
  ⟨(some (28)), .buildSlice 1 [.tmp 27], none, [0, 1]⟩, 
  ⟨(some (29)), .append 1 24 false (.tmp 24) (.tmp 28), none, []⟩, 
  ⟨(some (30)), .fieldAddr 3 (.tmp 5), none, []⟩, 
  ⟨none, .store 1 (.tmp 30) (.tmp 29), none, []⟩]
def k_curve_linesOf_r5s : List (List AOper) := [
  [
  ⟨(some (23)), .fieldAddr 3 (.tmp 5), none, []⟩, 
  ⟨(some (24)), .load none (.tmp 23), none, []⟩, 
  ⟨(some (25)), .move (.tmp 1), none, [0, 1]⟩, 
  ⟨(some (26)), .len false (.tmp 25), none, [0, 1]⟩, 
  ⟨(some (27)), .makeSlice (.int .i64 0) 8 (.tmp 26) (.tmp 26), none, [0, 1]⟩, 
  ⟨(some (28)), .buildSlice 1 [.tmp 27], none, [0, 1]⟩], 
  [
  ⟨(some (29)), .append 1 24 false (.tmp 24) (.tmp 28), none, []⟩], 
  [
  ⟨(some (30)), .fieldAddr 3 (.tmp 5), none, []⟩], 
  [
  ⟨none, .store 1 (.tmp 30) (.tmp 29), none, []⟩]]
theorem k_curve_linesOf_r5_sg : segs k_curve_linesOf_r5 = k_curve_linesOf_r5s := by kernel_rfl
theorem k_curve_linesOf_r5_st : statOK k_curve_linesOf_r5 = true := by kernel_rfl
def k_curve_linesOf_r6 : List AOper := [
  ⟨(some (31)), .bin .plain .add (.tmp 13) (.const (.int .i64 1)), none, []⟩, 
  ⟨(some (13)), .move (.tmp 31), none, []⟩]
def k_curve_linesOf_r7 : ACode := (.seq (.reg k_curve_linesOf_r3 false) (.seq (.cond (.tmp 14) .skip (.exit 0)) (.seq (.block 1 (.seq (.reg k_curve_linesOf_r4 true) (.reg k_curve_linesOf_r5 true))) (.reg k_curve_linesOf_r6 false))))
def k_curve_linesOf_r8 : List AOper := [
  ⟨(some (32)), .load (some (4)) (.tmp 5), none, []⟩, 
  ⟨none, .store 4 (.tmp 4) (.tmp 32), none, []⟩]
def k_curve_linesOf : AFun := { params := 2, ntmps := 33, body := (.seq (.reg k_curve_linesOf_r0 false) (.seq (.reg k_curve_linesOf_r1 false) (.seq (.seq (.reg k_curve_linesOf_r2 false) (.block 0 (.loop k_curve_linesOf_r7))) (.seq (.reg k_curve_linesOf_r8 false) .ret)))), res := [.cell 4 (some ((some (4))))] }
theorem k_curve_linesOf_ok : cfun Try.prog Try.f102 = k_curve_linesOf := by kernel_rfl


abbrev n_curve_Of : Nat := 49
theorem e_curve_Of : EntryOK Try.prog n_curve_Of k_curve_Of := ⟨Try.f49, Try.func49, k_curve_Of_ok, by kernel_rfl⟩
abbrev n_curve_copied : Nat := 79
theorem e_curve_copied : EntryOK Try.prog n_curve_copied k_curve_copied := ⟨Try.f79, Try.func79, k_curve_copied_ok, by kernel_rfl⟩
abbrev n_curve_linesOf : Nat := 102
theorem e_curve_linesOf : EntryOK Try.prog n_curve_linesOf k_curve_linesOf := ⟨Try.f102, Try.func102, k_curve_linesOf_ok, by kernel_rfl⟩

attribute [go_sem] k_curve_Of_r0 k_curve_Of_r1 k_curve_Of_r2 k_curve_Of_r3 k_curve_Of_r4
attribute [go_sem] k_curve_Of_r5 k_curve_Of_r6 k_curve_Of_r7 k_curve_Of_r8 k_curve_Of_r9 k_curve_Of_r10 k_curve_Of_r11 k_curve_Of_r12 k_curve_Of_r13 k_curve_Of_r14 k_curve_Of_r15s k_curve_Of_r16
attribute [go_sem] k_curve_Of_r18 k_curve_Of_r20
attribute [go_sem] k_curve_copied_r0 k_curve_copied_r1 k_curve_linesOf_r0 k_curve_linesOf_r1 k_curve_linesOf_r2 k_curve_linesOf_r3 k_curve_linesOf_r4s
attribute [go_sem] k_curve_linesOf_r5s k_curve_linesOf_r6 k_curve_linesOf_r8 k_curve_linesOf_r5_sg k_curve_Of_r15_sg
attribute [go_sem] k_curve_linesOf_r4_sg k_curve_linesOf_r5_st k_curve_Of_r15_st
attribute [go_sem] k_curve_linesOf_r4_st
attribute [go_sem] k_curve_Of k_curve_copied k_curve_linesOf
end Go.Proofs

namespace Go.Proofs
open Go Go.Sx

end Go.Proofs

namespace Go.Proofs
open Go Go.Sx

end Go.Proofs

namespace Go.Proofs
open Go Go.Sx

def k_curve_Inside_r0 : List AOper := [
  ⟨(some (2)), .box (.tmp 0), none, []⟩, 
  ⟨(some (3)), .box (.tmp 1), none, []⟩, 
  ⟨(some (4)), .move (.const (.bool false)), none, []⟩]
def k_curve_Inside_r1 : List AOper := [
  ⟨(some (9)), .load (some (4)) (.tmp 2), none, []⟩, 
  ⟨(some (10)), .call (.const (.fn (.func 27) [] [])) [.tmp 9], none, []⟩, 
  ⟨(some (11)), .bin .plain .neq (.tmp 10) (.const (.int .i64 0)), none, []⟩, 
  ⟨(some (12)), .move (.tmp 11), none, []⟩, 
  ⟨(some (13)), .load (some (4)) (.tmp 3), (some (12, false)), []⟩, 
  ⟨(some (14)), .call (.const (.fn (.func 27) [] [])) [.tmp 13], (some (12, false)), []⟩, 
  ⟨(some (15)), .bin .plain .neq (.tmp 14) (.const (.int .i64 0)), (some (12, false)), []⟩, 
  ⟨(some (16)), .pick (.tmp 12) (.const (.bool true)) (.tmp 15), none, []⟩]
def k_curve_Inside_r2 : List AOper := [
  ⟨(some (4)), .move (.const (.bool false)), none, []⟩]
def k_curve_Inside_r3 : List AOper := [
  ⟨(some (17)), .fieldAddr 0 (.tmp 2), none, []⟩, 
  ⟨(some (18)), .load none (.tmp 17), none, []⟩, 
  ⟨(some (19)), .fieldAddr 0 (.tmp 3), none, []⟩, 
  ⟨(some (20)), .load none (.tmp 19), none, []⟩, 
  ⟨(some (21)), .buildSlice 1 [.tmp 18, .tmp 20], none, []⟩, 
  ⟨(some (22)), .call (.const (.fn (.func 90) [] [])) [.tmp 21], none, []⟩, 
  ⟨(some (23)), .len false (.tmp 22), none, []⟩, 
  ⟨(some (24)), .move (.const (.int .i64 0)), none, []⟩]
def k_curve_Inside_r4 : List AOper := [
  ⟨(some (25)), .bin .plain .lss (.tmp 24) (.tmp 23), none, []⟩]
def k_curve_Inside_r5 : List AOper := [
  ⟨(some (26)), .indexAddr 1 (.tmp 22) (.tmp 24), none, []⟩, 
  ⟨(some (27)), .load none (.tmp 26), none, []⟩, 
  ⟨(some (6)), .move (.tmp 27), none, []⟩]
def k_curve_Inside_r6 : List AOper := [
  ⟨(some (28)), .fieldAddr 1 (.tmp 2), none, []⟩, 
  ⟨(some (29)), .load none (.tmp 28), none, []⟩, 
  ⟨(some (30)), .fieldAddr 1 (.tmp 3), none, []⟩, 
  ⟨(some (31)), .load none (.tmp 30), none, []⟩, 
  ⟨(some (32)), .buildSlice 1 [.tmp 29, .tmp 31], none, []⟩, 
  ⟨(some (33)), .call (.const (.fn (.func 90) [] [])) [.tmp 32], none, []⟩, 
  ⟨(some (34)), .len false (.tmp 33), none, []⟩, 
  ⟨(some (35)), .move (.const (.int .i64 0)), none, []⟩]
def k_curve_Inside_r7 : List AOper := [
  ⟨(some (36)), .bin .plain .lss (.tmp 35) (.tmp 34), none, []⟩]
def k_curve_Inside_r8 : List AOper := [
  ⟨(some (37)), .indexAddr 1 (.tmp 33) (.tmp 35), none, []⟩, 
  ⟨(some (38)), .load none (.tmp 37), none, []⟩, 
  ⟨(some (8)), .move (.tmp 38), none, []⟩]
def k_curve_Inside_r9 : List AOper := [
  ⟨(some (39)), .load (some (4)) (.tmp 2), none, []⟩, 
  ⟨(some (40)), .load (some (4)) (.tmp 3), none, []⟩, 
  ⟨(some (41)), .move (.tmp 6), none, []⟩, 
  ⟨(some (42)), .move (.tmp 8), none, []⟩, 
  ⟨(some (43)), .call (.const (.fn (.func 91) [] [])) [.tmp 39, .tmp 40, .tmp 41, .tmp 42], none, []⟩, 
  ⟨(some (44)), .not (.tmp 43), none, []⟩]
def k_curve_Inside_r10 : List AOper := [
  ⟨(some (4)), .move (.const (.bool false)), none, []⟩]
def k_curve_Inside_r11 : List AOper := [
  ⟨(some (45)), .bin .plain .add (.tmp 35) (.const (.int .i64 1)), none, []⟩, 
  ⟨(some (35)), .move (.tmp 45), none, []⟩]
def k_curve_Inside_r12 : ACode := (.seq (.reg k_curve_Inside_r7 false) (.seq (.cond (.tmp 36) .skip (.exit 2)) (.seq (.block 3 (.seq (.reg k_curve_Inside_r8 false) (.seq (.reg k_curve_Inside_r9 false) (.cond (.tmp 44) (.seq (.reg k_curve_Inside_r10 false) .ret) .skip)))) (.reg k_curve_Inside_r11 false))))
def k_curve_Inside_r13 : List AOper := [
  ⟨(some (46)), .bin .plain .add (.tmp 24) (.const (.int .i64 1)), none, []⟩, 
  ⟨(some (24)), .move (.tmp 46), none, []⟩]
def k_curve_Inside_r14 : ACode := (.seq (.reg k_curve_Inside_r4 false) (.seq (.cond (.tmp 25) .skip (.exit 0)) (.seq (.block 1 (.seq (.reg k_curve_Inside_r5 false) (.seq (.reg k_curve_Inside_r6 false) (.block 2 (.loop k_curve_Inside_r12))))) (.reg k_curve_Inside_r13 false))))
def k_curve_Inside_r15 : List AOper := [
  ⟨(some (4)), .move (.const (.bool true)), none, []⟩]
def k_curve_Inside : AFun := { params := 2, ntmps := 47, body := (.seq (.reg k_curve_Inside_r0 false) (.seq (.seq (.reg k_curve_Inside_r1 false) (.cond (.tmp 16) (.seq (.reg k_curve_Inside_r2 false) .ret) .skip)) (.seq (.seq (.reg k_curve_Inside_r3 false) (.block 0 (.loop k_curve_Inside_r14))) (.seq (.reg k_curve_Inside_r15 false) .ret)))), res := [.tmp 4] }
theorem k_curve_Inside_ok : cfun Try.prog Try.f37 = k_curve_Inside := by kernel_rfl

def k_slices_Concat_int_int_r0 : List AOper := [
  ⟨(some (2)), .move (.const (.nilsl)), none, []⟩]
def k_slices_Concat_int_int_r1 : List AOper := [
  ⟨(some (3)), .move (.const (.int .i64 0)), none, []⟩]
def k_slices_Concat_int_int_r2 : List AOper := [
  ⟨(some (9)), .move (.tmp 0), none, []⟩, 
  ⟨(some (10)), .len false (.tmp 9), none, []⟩, 
  ⟨(some (11)), .move (.const (.int .i64 0)), none, []⟩]
def k_slices_Concat_int_int_r3 : List AOper := [
  ⟨(some (12)), .bin .plain .lss (.tmp 11) (.tmp 10), none, []⟩]
def k_slices_Concat_int_int_r4 : List AOper := [
  ⟨(some (13)), .indexAddr 1 (.tmp 9) (.tmp 11), none, []⟩, 
  ⟨(some (14)), .load none (.tmp 13), none, []⟩, 
  ⟨(some (5)), .move (.tmp 14), none, []⟩]
def k_slices_Concat_int_int_r5 : List AOper := [
  ⟨(some (15)), .move (.tmp 3), none, []⟩, 
  ⟨(some (16)), .move (.tmp 5), none, []⟩, 
  ⟨(some (17)), .len false (.tmp 16), none, []⟩, 
  ⟨(some (18)), .bin .plain .add (.tmp 15) (.tmp 17), none, []⟩, 
  ⟨(some (3)), .move (.tmp 18), none, []⟩]
def k_slices_Concat_int_int_r6 : List AOper := [
  ⟨(some (19)), .move (.tmp 3), none, []⟩, 
  ⟨(some (20)), .bin .plain .lss (.tmp 19) (.const (.int .i64 0)), none, []⟩]
def k_slices_Concat_int_int_r7 : List AOper := [
  ⟨(some (21)), .makeIface 9 (.const (.str [108, 101, 110, 32, 111, 117, 116, 32, 111, 102, 32, 114, 97, 110, 103, 101])), none, []⟩, 
  ⟨none, .bad, none, []⟩]
def k_slices_Concat_int_int_r8 : List AOper := [
  ⟨(some (22)), .bin .plain .add (.tmp 11) (.const (.int .i64 1)), none, []⟩, 
  ⟨(some (11)), .move (.tmp 22), none, []⟩]
def k_slices_Concat_int_int_r9 : ACode := (.seq (.reg k_slices_Concat_int_int_r3 false) (.seq (.cond (.tmp 12) .skip (.exit 0)) (.seq (.block 1 (.seq (.reg k_slices_Concat_int_int_r4 false) (.seq (.reg k_slices_Concat_int_int_r5 false) (.seq (.reg k_slices_Concat_int_int_r6 false) (.cond (.tmp 20) (.reg k_slices_Concat_int_int_r7 false) .skip))))) (.reg k_slices_Concat_int_int_r8 false))))
def k_slices_Concat_int_int_r10 : List AOper := [
  ⟨(some (23)), .move (.tmp 3), none, []⟩, 
  ⟨(some (24)), .call (.const (.fn (.func 116) [] [])) [.const (.nilsl), .tmp 23], none, []⟩, 
  ⟨(some (6)), .move (.tmp 24), none, []⟩]
def k_slices_Concat_int_int_r11 : List AOper := [
  ⟨(some (25)), .move (.tmp 0), none, []⟩, 
  ⟨(some (26)), .len false (.tmp 25), none, []⟩, 
  ⟨(some (27)), .move (.const (.int .i64 0)), none, []⟩]
def k_slices_Concat_int_int_r12 : List AOper := [
  ⟨(some (28)), .bin .plain .lss (.tmp 27) (.tmp 26), none, []⟩]
def k_slices_Concat_int_int_r13 : List AOper := [
  ⟨(some (29)), .indexAddr 1 (.tmp 25) (.tmp 27), none, []⟩, 
  ⟨(some (30)), .load none (.tmp 29), none, []⟩, 
  ⟨(some (8)), .move (.tmp 30), none, []⟩]
def k_slices_Concat_int_int_r14 : List AOper := [
  ⟨(some (31)), .move (.tmp 6), none, []⟩, 
  ⟨(some (32)), .move (.tmp 8), none, []⟩, 
  ⟨(some (33)), .append 1 8 false (.tmp 31) (.tmp 32), none, []⟩, 
  ⟨(some (6)), .move (.tmp 33), none, []⟩]
def k_slices_Concat_int_int_r15 : List AOper := [
  ⟨(some (34)), .bin .plain .add (.tmp 27) (.const (.int .i64 1)), none, []⟩, 
  ⟨(some (27)), .move (.tmp 34), none, []⟩]
def k_slices_Concat_int_int_r16 : ACode := (.seq (.reg k_slices_Concat_int_int_r12 false) (.seq (.cond (.tmp 28) .skip (.exit 2)) (.seq (.block 3 (.seq (.reg k_slices_Concat_int_int_r13 false) (.reg k_slices_Concat_int_int_r14 false))) (.reg k_slices_Concat_int_int_r15 false))))
def k_slices_Concat_int_int_r17 : List AOper := [
  ⟨(some (35)), .move (.tmp 6), none, []⟩, 
  ⟨(some (2)), .move (.tmp 35), none, []⟩]
def k_slices_Concat_int_int : AFun := { params := 1, ntmps := 36, body := (.seq (.reg k_slices_Concat_int_int_r0 false) (.seq (.reg k_slices_Concat_int_int_r1 false) (.seq (.seq (.reg k_slices_Concat_int_int_r2 false) (.block 0 (.loop k_slices_Concat_int_int_r9))) (.seq (.reg k_slices_Concat_int_int_r10 false) (.seq (.seq (.reg k_slices_Concat_int_int_r11 false) (.block 2 (.loop k_slices_Concat_int_int_r16))) (.seq (.reg k_slices_Concat_int_int_r17 false) .ret)))))), res := [.tmp 2] }
theorem k_slices_Concat_int_int_ok : cfun Try.prog Try.f90 = k_slices_Concat_int_int := by kernel_rfl

def k_curve_insideAt_r0 : List AOper := [
  ⟨(some (4)), .box (.tmp 0), none, []⟩, 
  ⟨(some (5)), .box (.tmp 1), none, []⟩, 
  ⟨(some (8)), .move (.const (.bool false)), none, []⟩]
def k_curve_insideAt_r1 : List AOper := [
  ⟨(some (13)), .fieldAddr 0 (.tmp 4), none, []⟩, 
  ⟨(some (14)), .load none (.tmp 13), none, []⟩, 
  ⟨(some (15)), .move (.tmp 2), none, [0, 1]⟩, 
  ⟨(some (16)), .call (.const (.fn (.func 83) [] [])) [.tmp 14, .tmp 15], none, []⟩, 
  ⟨(some (17)), .fieldAddr 1 (.tmp 4), none, [0, 1, 2, 3]⟩, 
  ⟨(some (18)), .load none (.tmp 17), none, [0, 1, 2, 3]⟩, 
  ⟨(some (19)), .move (.tmp 3), none, [0, 1, 2, 3, 4, 5]⟩, 
  ⟨(some (20)), .call (.const (.fn (.func 83) [] [])) [.tmp 18, .tmp 19], none, []⟩, 
  ⟨(some (9)), .box (.const (.agg [.int .i64 0, .int .i64 0, .int .i64 0])), none, [0, 1, 2, 3, 4, 5, 6, 7]⟩, 
  ⟨(some (10)), .box (.const (.agg [.int .i64 0, .int .i64 0, .int .i64 0])), none, [0, 1, 2, 3, 4, 5, 6, 7, 8]⟩, 
  ⟨none, .store 3 (.tmp 9) (.tmp 16), none, []⟩, 
  ⟨none, .store 3 (.tmp 10) (.tmp 20), none, []⟩]
def k_curve_insideAt_r1s : List (List AOper) := [
  [
  ⟨(some (13)), .fieldAddr 0 (.tmp 4), none, []⟩, 
  ⟨(some (14)), .load none (.tmp 13), none, []⟩, 
  ⟨(some (15)), .move (.tmp 2), none, [0, 1]⟩, 
  ⟨(some (16)), .call (.const (.fn (.func 83) [] [])) [.tmp 14, .tmp 15], none, []⟩, 
  ⟨(some (17)), .fieldAddr 1 (.tmp 4), none, [0, 1, 2, 3]⟩, 
  ⟨(some (18)), .load none (.tmp 17), none, [0, 1, 2, 3]⟩, 
  ⟨(some (19)), .move (.tmp 3), none, [0, 1, 2, 3, 4, 5]⟩, 
  ⟨(some (20)), .call (.const (.fn (.func 83) [] [])) [.tmp 18, .tmp 19], none, []⟩, 
  ⟨(some (9)), .box (.const (.agg [.int .i64 0, .int .i64 0, .int .i64 0])), none, [0, 1, 2, 3, 4, 5, 6, 7]⟩, 
  ⟨(some (10)), .box (.const (.agg [.int .i64 0, .int .i64 0, .int .i64 0])), none, [0, 1, 2, 3, 4, 5, 6, 7, 8]⟩], 
  [
  ⟨none, .store 3 (.tmp 9) (.tmp 16), none, []⟩], 
  [
  ⟨none, .store 3 (.tmp 10) (.tmp 20), none, []⟩]]
theorem k_curve_insideAt_r1_sg : segs k_curve_insideAt_r1 = k_curve_insideAt_r1s := by kernel_rfl
theorem k_curve_insideAt_r1_st : statOK k_curve_insideAt_r1 = true := by kernel_rfl
def k_curve_insideAt_r2 : List AOper := [
  ⟨(some (21)), .fieldAddr 0 (.tmp 5), none, []⟩, 
  ⟨(some (22)), .load none (.tmp 21), none, []⟩, 
  ⟨(some (23)), .move (.tmp 2), none, [0, 1]⟩, 
  ⟨(some (24)), .call (.const (.fn (.func 83) [] [])) [.tmp 22, .tmp 23], none, []⟩, 
  ⟨(some (25)), .fieldAddr 1 (.tmp 5), none, [0, 1, 2, 3]⟩, 
  ⟨(some (26)), .load none (.tmp 25), none, [0, 1, 2, 3]⟩, 
  ⟨(some (27)), .move (.tmp 3), none, [0, 1, 2, 3, 4, 5]⟩, 
  ⟨(some (28)), .call (.const (.fn (.func 83) [] [])) [.tmp 26, .tmp 27], none, []⟩, 
  ⟨(some (11)), .box (.const (.agg [.int .i64 0, .int .i64 0, .int .i64 0])), none, [0, 1, 2, 3, 4, 5, 6, 7]⟩, 
  ⟨(some (12)), .box (.const (.agg [.int .i64 0, .int .i64 0, .int .i64 0])), none, [0, 1, 2, 3, 4, 5, 6, 7, 8]⟩, 
  ⟨none, .store 3 (.tmp 11) (.tmp 24), none, []⟩, 
  ⟨none, .store 3 (.tmp 12) (.tmp 28), none, []⟩]
def k_curve_insideAt_r2s : List (List AOper) := [
  [
  ⟨(some (21)), .fieldAddr 0 (.tmp 5), none, []⟩, 
  ⟨(some (22)), .load none (.tmp 21), none, []⟩, 
  ⟨(some (23)), .move (.tmp 2), none, [0, 1]⟩, 
  ⟨(some (24)), .call (.const (.fn (.func 83) [] [])) [.tmp 22, .tmp 23], none, []⟩, 
  ⟨(some (25)), .fieldAddr 1 (.tmp 5), none, [0, 1, 2, 3]⟩, 
  ⟨(some (26)), .load none (.tmp 25), none, [0, 1, 2, 3]⟩, 
  ⟨(some (27)), .move (.tmp 3), none, [0, 1, 2, 3, 4, 5]⟩, 
  ⟨(some (28)), .call (.const (.fn (.func 83) [] [])) [.tmp 26, .tmp 27], none, []⟩, 
  ⟨(some (11)), .box (.const (.agg [.int .i64 0, .int .i64 0, .int .i64 0])), none, [0, 1, 2, 3, 4, 5, 6, 7]⟩, 
  ⟨(some (12)), .box (.const (.agg [.int .i64 0, .int .i64 0, .int .i64 0])), none, [0, 1, 2, 3, 4, 5, 6, 7, 8]⟩], 
  [
  ⟨none, .store 3 (.tmp 11) (.tmp 24), none, []⟩], 
  [
  ⟨none, .store 3 (.tmp 12) (.tmp 28), none, []⟩]]
theorem k_curve_insideAt_r2_sg : segs k_curve_insideAt_r2 = k_curve_insideAt_r2s := by kernel_rfl
theorem k_curve_insideAt_r2_st : statOK k_curve_insideAt_r2 = true := by kernel_rfl
def k_curve_insideAt_r3 : List AOper := [
  ⟨(some (29)), .fieldAddr 2 (.tmp 5), none, []⟩, 
  ⟨(some (30)), .load none (.tmp 29), none, []⟩, 
  ⟨(some (31)), .load (some (3)) (.tmp 11), none, [0, 1]⟩, 
  ⟨(some (32)), .load (some (3)) (.tmp 12), none, [0, 1, 2]⟩, 
  ⟨(some (33)), .call (.const (.fn (.func 84) [] [])) [.tmp 30, .tmp 31, .tmp 32], none, []⟩, 
  ⟨(some (34)), .fieldAddr 2 (.tmp 4), none, [0, 1, 2, 3, 4]⟩, 
  ⟨(some (35)), .load none (.tmp 34), none, [0, 1, 2, 3, 4]⟩, 
  ⟨(some (36)), .load (some (3)) (.tmp 9), none, [0, 1, 2, 3, 4, 5, 6]⟩, 
  ⟨(some (37)), .load (some (3)) (.tmp 10), none, [0, 1, 2, 3, 4, 5, 6, 7]⟩, 
  ⟨(some (38)), .call (.const (.fn (.func 84) [] [])) [.tmp 35, .tmp 36, .tmp 37], none, []⟩, 
  ⟨(some (39)), .call (.const (.fn (.func 117) [] [])) [.tmp 33, .tmp 38], none, []⟩, 
  ⟨(some (40)), .not (.tmp 39), none, []⟩, 
  ⟨(some (41)), .move (.tmp 40), none, []⟩, 
  ⟨(some (42)), .fieldAddr 3 (.tmp 4), (some (41, true)), []⟩, 
  ⟨(some (43)), .load none (.tmp 42), (some (41, true)), []⟩, 
  ⟨(some (44)), .load (some (3)) (.tmp 9), (some (41, true)), [13, 14]⟩, 
  ⟨(some (45)), .load (some (3)) (.tmp 10), (some (41, true)), [13, 14, 15]⟩, 
  ⟨(some (46)), .call (.const (.fn (.func 84) [] [])) [.tmp 43, .tmp 44, .tmp 45], (some (41, true)), []⟩, 
  ⟨(some (47)), .fieldAddr 3 (.tmp 5), (some (41, true)), [13, 14, 15, 16, 17]⟩, 
  ⟨(some (48)), .load none (.tmp 47), (some (41, true)), [13, 14, 15, 16, 17]⟩, 
  ⟨(some (49)), .load (some (3)) (.tmp 11), (some (41, true)), [13, 14, 15, 16, 17, 18, 19]⟩, 
  ⟨(some (50)), .load (some (3)) (.tmp 12), (some (41, true)), [13, 14, 15, 16, 17, 18, 19, 20]⟩, 
  ⟨(some (51)), .call (.const (.fn (.func 84) [] [])) [.tmp 48, .tmp 49, .tmp 50], (some (41, true)), []⟩, 
  ⟨(some (52)), .call (.const (.fn (.func 117) [] [])) [.tmp 46, .tmp 51], (some (41, true)), []⟩, 
  ⟨(some (53)), .not (.tmp 52), (some (41, true)), []⟩, 
  ⟨(some (54)), .pick (.tmp 41) (.tmp 53) (.const (.bool false)), none, []⟩, 
  ⟨(some (8)), .move (.tmp 54), none, []⟩]
def k_curve_insideAt_r3s : List (List AOper) := [
  [
  ⟨(some (29)), .fieldAddr 2 (.tmp 5), none, []⟩, 
  ⟨(some (30)), .load none (.tmp 29), none, []⟩, 
  ⟨(some (31)), .load (some (3)) (.tmp 11), none, [0, 1]⟩, 
  ⟨(some (32)), .load (some (3)) (.tmp 12), none, [0, 1, 2]⟩, 
  ⟨(some (33)), .call (.const (.fn (.func 84) [] [])) [.tmp 30, .tmp 31, .tmp 32], none, []⟩, 
  ⟨(some (34)), .fieldAddr 2 (.tmp 4), none, [0, 1, 2, 3, 4]⟩, 
  ⟨(some (35)), .load none (.tmp 34), none, [0, 1, 2, 3, 4]⟩, 
  ⟨(some (36)), .load (some (3)) (.tmp 9), none, [0, 1, 2, 3, 4, 5, 6]⟩, 
  ⟨(some (37)), .load (some (3)) (.tmp 10), none, [0, 1, 2, 3, 4, 5, 6, 7]⟩], 
  [
  ⟨(some (38)), .call (.const (.fn (.func 84) [] [])) [.tmp 35, .tmp 36, .tmp 37], none, []⟩], 
  [
  ⟨(some (39)), .call (.const (.fn (.func 117) [] [])) [.tmp 33, .tmp 38], none, []⟩], 
  [
  ⟨(some (40)), .not (.tmp 39), none, []⟩], 
  [
  ⟨(some (41)), .move (.tmp 40), none, []⟩], 
  [
  ⟨(some (42)), .fieldAddr 3 (.tmp 4), (some (41, true)), []⟩, 
  ⟨(some (43)), .load none (.tmp 42), (some (41, true)), []⟩, 
  ⟨(some (44)), .load (some (3)) (.tmp 9), (some (41, true)), [13, 14]⟩, 
  ⟨(some (45)), .load (some (3)) (.tmp 10), (some (41, true)), [13, 14, 15]⟩, 
  ⟨(some (46)), .call (.const (.fn (.func 84) [] [])) [.tmp 43, .tmp 44, .tmp 45], (some (41, true)), []⟩, 
  ⟨(some (47)), .fieldAddr 3 (.tmp 5), (some (41, true)), [13, 14, 15, 16, 17]⟩, 
  ⟨(some (48)), .load none (.tmp 47), (some (41, true)), [13, 14, 15, 16, 17]⟩, 
  ⟨(some (49)), .load (some (3)) (.tmp 11), (some (41, true)), [13, 14, 15, 16, 17, 18, 19]⟩, 
  ⟨(some (50)), .load (some (3)) (.tmp 12), (some (41, true)), [13, 14, 15, 16, 17, 18, 19, 20]⟩], 
  [
  ⟨(some (51)), .call (.const (.fn (.func 84) [] [])) [.tmp 48, .tmp 49, .tmp 50], (some (41, true)), []⟩], 
  [
  ⟨(some (52)), .call (.const (.fn (.func 117) [] [])) [.tmp 46, .tmp 51], (some (41, true)), []⟩], 
  [
  ⟨(some (53)), .not (.tmp 52), (some (41, true)), []⟩], 
  [
  ⟨(some (54)), .pick (.tmp 41) (.tmp 53) (.const (.bool false)), none, []⟩], 
  [
  ⟨(some (8)), .move (.tmp 54), none, []⟩]]
theorem k_curve_insideAt_r3_sg : segs k_curve_insideAt_r3 = k_curve_insideAt_r3s := by kernel_rfl
theorem k_curve_insideAt_r3_st : statOK k_curve_insideAt_r3 = true := by kernel_rfl
def k_curve_insideAt : AFun := { params := 4, ntmps := 55, body := (.seq (.reg k_curve_insideAt_r0 false) (.seq (.reg k_curve_insideAt_r1 true) (.seq (.reg k_curve_insideAt_r2 true) (.seq (.reg k_curve_insideAt_r3 true) .ret)))), res := [.tmp 8] }
theorem k_curve_insideAt_ok : cfun Try.prog Try.f91 = k_curve_insideAt := by kernel_rfl

def k_slices_Grow_int_int_r0 : List AOper := [
  ⟨(some (4)), .move (.const (.nilsl)), none, []⟩]
def k_slices_Grow_int_int_r1 : List AOper := [
  ⟨(some (5)), .move (.tmp 1), none, []⟩, 
  ⟨(some (6)), .bin .plain .lss (.tmp 5) (.const (.int .i64 0)), none, []⟩]
def k_slices_Grow_int_int_r2 : List AOper := [
  ⟨(some (7)), .makeIface 9 (.const (.str [99, 97, 110, 110, 111, 116, 32, 98, 101, 32, 110, 101, 103, 97, 116, 105, 118, 101])), none, []⟩, 
  ⟨none, .bad, none, []⟩]
def k_slices_Grow_int_int_r3 : List AOper := [
  ⟨(some (8)), .move (.tmp 1), none, []⟩, 
  ⟨(some (9)), .move (.tmp 0), none, []⟩, 
  ⟨(some (10)), .cap (.tmp 9), none, []⟩, 
  ⟨(some (11)), .move (.tmp 0), none, []⟩, 
  ⟨(some (12)), .len false (.tmp 11), none, []⟩, 
  ⟨(some (13)), .bin .plain .sub (.tmp 10) (.tmp 12), none, []⟩, 
  ⟨(some (14)), .bin .plain .sub (.tmp 8) (.tmp 13), none, []⟩, 
  ⟨(some (1)), .move (.tmp 14), none, []⟩]
def k_slices_Grow_int_int_r4 : List AOper := [
  ⟨(some (15)), .move (.tmp 1), none, []⟩, 
  ⟨(some (16)), .bin .plain .gtr (.tmp 15) (.const (.int .i64 0)), none, []⟩]
def k_slices_Grow_int_int_r5 : List AOper := [
  ⟨(some (17)), .move (.tmp 0), none, []⟩, 
  ⟨(some (18)), .move (.tmp 0), none, []⟩, 
  ⟨(some (19)), .cap (.tmp 18), none, []⟩, 
  ⟨(some (20)), .slice false 1 (.tmp 17) none (some (.tmp 19)), none, []⟩, 
  ⟨(some (21)), .move (.tmp 1), none, []⟩, 
  ⟨(some (22)), .appendN 1 8 (.int .i64 0) (.tmp 20) (.tmp 21), none, []⟩, 
  ⟨(some (23)), .move (.tmp 0), none, []⟩, 
  ⟨(some (24)), .len false (.tmp 23), none, []⟩, 
  ⟨(some (25)), .slice false 1 (.tmp 22) none (some (.tmp 24)), none, []⟩, 
  ⟨(some (0)), .move (.tmp 25), none, []⟩]
def k_slices_Grow_int_int_r6 : List AOper := [
  ⟨(some (26)), .move (.tmp 0), none, []⟩, 
  ⟨(some (4)), .move (.tmp 26), none, []⟩]
def k_slices_Grow_int_int : AFun := { params := 2, ntmps := 27, body := (.seq (.reg k_slices_Grow_int_int_r0 false) (.seq (.seq (.reg k_slices_Grow_int_int_r1 false) (.cond (.tmp 6) (.reg k_slices_Grow_int_int_r2 false) .skip)) (.seq (.seq (.reg k_slices_Grow_int_int_r3 false) (.seq (.reg k_slices_Grow_int_int_r4 false) (.cond (.tmp 16) (.reg k_slices_Grow_int_int_r5 false) .skip))) (.seq (.reg k_slices_Grow_int_int_r6 false) .ret)))), res := [.tmp 4] }
theorem k_slices_Grow_int_int_ok : cfun Try.prog Try.f116 = k_slices_Grow_int_int := by kernel_rfl

def k_curve_fraction_less_r0 : List AOper := [
  ⟨(some (2)), .box (.tmp 0), none, []⟩, 
  ⟨(some (3)), .box (.tmp 1), none, []⟩, 
  ⟨(some (4)), .move (.const (.bool false)), none, []⟩]
def k_curve_fraction_less_r1 : List AOper := [
  ⟨(some (10)), .fieldAddr 0 (.tmp 2), none, []⟩, 
  ⟨(some (11)), .load none (.tmp 10), none, []⟩, 
  ⟨(some (12)), .toInt .u64 (.tmp 11), none, []⟩, 
  ⟨(some (13)), .fieldAddr 1 (.tmp 3), none, []⟩, 
  ⟨(some (14)), .load none (.tmp 13), none, []⟩, 
  ⟨(some (15)), .toInt .u64 (.tmp 14), none, []⟩, 
  ⟨(some (16)), .call (.const (.fn (.func 123) [] [])) [.tmp 12, .tmp 15], none, []⟩, 
  ⟨(some (9)), .move (.tmp 16), none, []⟩, 
  ⟨(some (17)), .extract (.tmp 9) 0, none, []⟩, 
  ⟨(some (18)), .extract (.tmp 9) 1, none, []⟩, 
  ⟨(some (5)), .move (.tmp 17), none, []⟩, 
  ⟨(some (6)), .move (.tmp 18), none, []⟩]
def k_curve_fraction_less_r2 : List AOper := [
  ⟨(some (20)), .fieldAddr 0 (.tmp 3), none, []⟩, 
  ⟨(some (21)), .load none (.tmp 20), none, []⟩, 
  ⟨(some (22)), .toInt .u64 (.tmp 21), none, []⟩, 
  ⟨(some (23)), .fieldAddr 1 (.tmp 2), none, []⟩, 
  ⟨(some (24)), .load none (.tmp 23), none, []⟩, 
  ⟨(some (25)), .toInt .u64 (.tmp 24), none, []⟩, 
  ⟨(some (26)), .call (.const (.fn (.func 123) [] [])) [.tmp 22, .tmp 25], none, []⟩, 
  ⟨(some (19)), .move (.tmp 26), none, []⟩, 
  ⟨(some (27)), .extract (.tmp 19) 0, none, []⟩, 
  ⟨(some (28)), .extract (.tmp 19) 1, none, []⟩, 
  ⟨(some (7)), .move (.tmp 27), none, []⟩, 
  ⟨(some (8)), .move (.tmp 28), none, []⟩]
def k_curve_fraction_less_r3 : List AOper := [
  ⟨(some (29)), .move (.tmp 5), none, []⟩, 
  ⟨(some (30)), .move (.tmp 7), none, []⟩, 
  ⟨(some (31)), .bin .plain .lss (.tmp 29) (.tmp 30), none, []⟩, 
  ⟨(some (32)), .move (.tmp 31), none, []⟩, 
  ⟨(some (33)), .move (.tmp 5), (some (32, false)), []⟩, 
  ⟨(some (34)), .move (.tmp 7), (some (32, false)), []⟩, 
  ⟨(some (35)), .bin .plain .eql (.tmp 33) (.tmp 34), (some (32, false)), []⟩, 
  ⟨(some (36)), .move (.tmp 35), (some (32, false)), []⟩, 
  ⟨(some (37)), .move (.tmp 6), (some (36, true)), []⟩, 
  ⟨(some (38)), .move (.tmp 8), (some (36, true)), []⟩, 
  ⟨(some (39)), .bin .plain .lss (.tmp 37) (.tmp 38), (some (36, true)), []⟩, 
  ⟨(some (40)), .pick (.tmp 36) (.tmp 39) (.const (.bool false)), (some (32, false)), []⟩, 
  ⟨(some (41)), .pick (.tmp 32) (.const (.bool true)) (.tmp 40), none, []⟩, 
  ⟨(some (4)), .move (.tmp 41), none, []⟩]
def k_curve_fraction_less : AFun := { params := 2, ntmps := 42, body := (.seq (.reg k_curve_fraction_less_r0 false) (.seq (.reg k_curve_fraction_less_r1 false) (.seq (.reg k_curve_fraction_less_r2 false) (.seq (.reg k_curve_fraction_less_r3 false) .ret)))), res := [.tmp 4] }
theorem k_curve_fraction_less_ok : cfun Try.prog Try.f117 = k_curve_fraction_less := by kernel_rfl

def k_bits_Mul64_r0 : List AOper := [
  ⟨(some (4)), .move (.const (.int .u64 0)), none, []⟩, 
  ⟨(some (5)), .move (.const (.int .u64 0)), none, []⟩]
def k_bits_Mul64_r1 : List AOper := [
  ⟨(some (14)), .move (.tmp 0), none, []⟩, 
  ⟨(some (15)), .bin .plain .and (.tmp 14) (.const (.int .u64 4294967295)), none, []⟩, 
  ⟨(some (6)), .move (.tmp 15), none, []⟩]
def k_bits_Mul64_r2 : List AOper := [
  ⟨(some (16)), .move (.tmp 0), none, []⟩, 
  ⟨(some (17)), .bin .plain .shr (.tmp 16) (.const (.int .u64 32)), none, []⟩, 
  ⟨(some (7)), .move (.tmp 17), none, []⟩]
def k_bits_Mul64_r3 : List AOper := [
  ⟨(some (18)), .move (.tmp 1), none, []⟩, 
  ⟨(some (19)), .bin .plain .and (.tmp 18) (.const (.int .u64 4294967295)), none, []⟩, 
  ⟨(some (8)), .move (.tmp 19), none, []⟩]
def k_bits_Mul64_r4 : List AOper := [
  ⟨(some (20)), .move (.tmp 1), none, []⟩, 
  ⟨(some (21)), .bin .plain .shr (.tmp 20) (.const (.int .u64 32)), none, []⟩, 
  ⟨(some (9)), .move (.tmp 21), none, []⟩]
def k_bits_Mul64_r5 : List AOper := [
  ⟨(some (22)), .move (.tmp 6), none, []⟩, 
  ⟨(some (23)), .move (.tmp 8), none, []⟩, 
  ⟨(some (24)), .bin .plain .mul (.tmp 22) (.tmp 23), none, []⟩, 
  ⟨(some (10)), .move (.tmp 24), none, []⟩]
def k_bits_Mul64_r6 : List AOper := [
  ⟨(some (25)), .move (.tmp 7), none, []⟩, 
  ⟨(some (26)), .move (.tmp 8), none, []⟩, 
  ⟨(some (27)), .bin .plain .mul (.tmp 25) (.tmp 26), none, []⟩, 
  ⟨(some (28)), .move (.tmp 10), none, []⟩, 
  ⟨(some (29)), .bin .plain .shr (.tmp 28) (.const (.int .u64 32)), none, []⟩, 
  ⟨(some (30)), .bin .plain .add (.tmp 27) (.tmp 29), none, []⟩, 
  ⟨(some (11)), .move (.tmp 30), none, []⟩]
def k_bits_Mul64_r7 : List AOper := [
  ⟨(some (31)), .move (.tmp 11), none, []⟩, 
  ⟨(some (32)), .bin .plain .and (.tmp 31) (.const (.int .u64 4294967295)), none, []⟩, 
  ⟨(some (12)), .move (.tmp 32), none, []⟩]
def k_bits_Mul64_r8 : List AOper := [
  ⟨(some (33)), .move (.tmp 11), none, []⟩, 
  ⟨(some (34)), .bin .plain .shr (.tmp 33) (.const (.int .u64 32)), none, []⟩, 
  ⟨(some (13)), .move (.tmp 34), none, []⟩]
def k_bits_Mul64_r9 : List AOper := [
  ⟨(some (35)), .move (.tmp 12), none, []⟩, 
  ⟨(some (36)), .move (.tmp 6), none, []⟩, 
  ⟨(some (37)), .move (.tmp 9), none, []⟩, 
  ⟨(some (38)), .bin .plain .mul (.tmp 36) (.tmp 37), none, []⟩, 
  ⟨(some (39)), .bin .plain .add (.tmp 35) (.tmp 38), none, []⟩, 
  ⟨(some (12)), .move (.tmp 39), none, []⟩]
def k_bits_Mul64_r10 : List AOper := [
  ⟨(some (40)), .move (.tmp 7), none, []⟩, 
  ⟨(some (41)), .move (.tmp 9), none, []⟩, 
  ⟨(some (42)), .bin .plain .mul (.tmp 40) (.tmp 41), none, []⟩, 
  ⟨(some (43)), .move (.tmp 13), none, []⟩, 
  ⟨(some (44)), .bin .plain .add (.tmp 42) (.tmp 43), none, []⟩, 
  ⟨(some (45)), .move (.tmp 12), none, []⟩, 
  ⟨(some (46)), .bin .plain .shr (.tmp 45) (.const (.int .u64 32)), none, []⟩, 
  ⟨(some (47)), .bin .plain .add (.tmp 44) (.tmp 46), none, []⟩, 
  ⟨(some (4)), .move (.tmp 47), none, []⟩]
def k_bits_Mul64_r11 : List AOper := [
  ⟨(some (48)), .move (.tmp 0), none, []⟩, 
  ⟨(some (49)), .move (.tmp 1), none, []⟩, 
  ⟨(some (50)), .bin .plain .mul (.tmp 48) (.tmp 49), none, []⟩, 
  ⟨(some (5)), .move (.tmp 50), none, []⟩]
def k_bits_Mul64 : AFun := { params := 2, ntmps := 51, body := (.seq (.reg k_bits_Mul64_r0 false) (.seq (.reg k_bits_Mul64_r1 false) (.seq (.reg k_bits_Mul64_r2 false) (.seq (.reg k_bits_Mul64_r3 false) (.seq (.reg k_bits_Mul64_r4 false) (.seq (.reg k_bits_Mul64_r5 false) (.seq (.reg k_bits_Mul64_r6 false) (.seq (.reg k_bits_Mul64_r7 false) (.seq (.reg k_bits_Mul64_r8 false) (.seq (.reg k_bits_Mul64_r9 false) (.seq (.reg k_bits_Mul64_r10 false) (.seq (.reg k_bits_Mul64_r11 false) .ret)))))))))))), res := [.tmp 4, .tmp 5] }
theorem k_bits_Mul64_ok : cfun Try.prog Try.f123 = k_bits_Mul64 := by kernel_rfl


abbrev n_curve_Inside : Nat := 37
theorem e_curve_Inside : EntryOK Try.prog n_curve_Inside k_curve_Inside := ⟨Try.f37, Try.func37, k_curve_Inside_ok, by kernel_rfl⟩
abbrev n_slices_Concat_int_int : Nat := 90
theorem e_slices_Concat_int_int : EntryOK Try.prog n_slices_Concat_int_int k_slices_Concat_int_int := ⟨Try.f90, Try.func90, k_slices_Concat_int_int_ok, by kernel_rfl⟩
abbrev n_curve_insideAt : Nat := 91
theorem e_curve_insideAt : EntryOK Try.prog n_curve_insideAt k_curve_insideAt := ⟨Try.f91, Try.func91, k_curve_insideAt_ok, by kernel_rfl⟩
abbrev n_slices_Grow_int_int : Nat := 116
theorem e_slices_Grow_int_int : EntryOK Try.prog n_slices_Grow_int_int k_slices_Grow_int_int := ⟨Try.f116, Try.func116, k_slices_Grow_int_int_ok, by kernel_rfl⟩
abbrev n_curve_fraction_less : Nat := 117
theorem e_curve_fraction_less : EntryOK Try.prog n_curve_fraction_less k_curve_fraction_less := ⟨Try.f117, Try.func117, k_curve_fraction_less_ok, by kernel_rfl⟩
abbrev n_bits_Mul64 : Nat := 123
theorem e_bits_Mul64 : EntryOK Try.prog n_bits_Mul64 k_bits_Mul64 := ⟨Try.f123, Try.func123, k_bits_Mul64_ok, by kernel_rfl⟩

attribute [go_sem] k_curve_Inside_r0 k_curve_Inside_r1 k_curve_Inside_r2 k_curve_Inside_r3 k_curve_Inside_r4 k_curve_Inside_r5 k_curve_Inside_r6 k_curve_Inside_r7 k_curve_Inside_r8 k_curve_Inside_r9 k_curve_Inside_r10 k_curve_Inside_r11
attribute [go_sem] k_curve_Inside_r13 k_curve_Inside_r15 k_slices_Concat_int_int_r0 k_slices_Concat_int_int_r1 k_slices_Concat_int_int_r2 k_slices_Concat_int_int_r3 k_slices_Concat_int_int_r4 k_slices_Concat_int_int_r5 k_slices_Concat_int_int_r6 k_slices_Concat_int_int_r7 k_slices_Concat_int_int_r8 k_slices_Concat_int_int_r10
attribute [go_sem] k_slices_Concat_int_int_r11 k_slices_Concat_int_int_r12 k_slices_Concat_int_int_r13 k_slices_Concat_int_int_r14 k_slices_Concat_int_int_r15 k_slices_Concat_int_int_r17 k_curve_insideAt_r0 k_curve_insideAt_r1s k_curve_insideAt_r2s k_curve_insideAt_r3s k_slices_Grow_int_int_r0 k_slices_Grow_int_int_r1
attribute [go_sem] k_slices_Grow_int_int_r2 k_slices_Grow_int_int_r3 k_slices_Grow_int_int_r4 k_slices_Grow_int_int_r5 k_slices_Grow_int_int_r6 k_curve_fraction_less_r0 k_curve_fraction_less_r1 k_curve_fraction_less_r2 k_curve_fraction_less_r3 k_bits_Mul64_r0 k_bits_Mul64_r1 k_bits_Mul64_r2
attribute [go_sem] k_bits_Mul64_r3 k_bits_Mul64_r4 k_bits_Mul64_r5 k_bits_Mul64_r6 k_bits_Mul64_r7 k_bits_Mul64_r8 k_bits_Mul64_r9 k_bits_Mul64_r10 k_bits_Mul64_r11 k_curve_insideAt_r1_sg k_curve_insideAt_r2_sg k_curve_insideAt_r3_sg
attribute [go_sem] k_curve_insideAt_r1_st k_curve_insideAt_r2_st k_curve_insideAt_r3_st k_curve_Inside k_slices_Concat_int_int k_curve_insideAt k_slices_Grow_int_int k_curve_fraction_less k_bits_Mul64
end Go.Proofs

namespace Go.Proofs
open Go Go.Sx

def Dr (w : Int) : Row := .cells false 1 [.agg [.int .u64 w]]
def dstep (w : Int) : Int := IntKind.u64.wrap (w + 11400714819323198485)
def dmix (w : Int) : Int :=
  let z := IntKind.u64.wrap (bitW .xor .u64 w (shrW .u64 w 30) * 13787848793156543929)
  let z := IntKind.u64.wrap (bitW .xor .u64 z (shrW .u64 z 27) * 10723151780598845931)
  bitW .xor .u64 z (shrW .u64 z 31)

theorem dr_bel (w : Int) (S : Nat → Prop) : (Dr w).bel S := by unfold Dr; rw [row_bel_cells]; simp only [go_sem]

theorem bitW_u64 (op : BinOp) (a b : Int) : 0 ≤ bitW op .u64 a b ∧ bitW op .u64 a b ≤ 18446744073709551615 := by
  have hw : ∀ n : Int, 0 ≤ IntKind.u64.wrap n ∧ IntKind.u64.wrap n ≤ 18446744073709551615 := fun n => by simp only [IntKind.wrap, IntKind.bits, IntKind.signed, Bool.false_and, Bool.false_eq_true, if_false]; omega
  unfold bitW bitsOf
  cases op <;> simp only [Option.getD_some, Option.getD_none] <;> first
    | exact hw _
    | omega

def upto (w n : Int) : Int := if n < 1 then 0 else (dmix (dstep w)) % n
theorem upto_in {w n : Int} (h : 1 ≤ n) : 0 ≤ upto w n ∧ upto w n < n := by
  unfold upto
  rw [if_neg (by omega)]
  exact ⟨Int.emod_nonneg _ (by omega), Int.emod_lt_of_pos _ (by omega)⟩
def btw (w lo hi : Int) : Int := lo + upto w (hi - lo + 1)
theorem btw_in {w lo hi : Int} (h : lo ≤ hi) : lo ≤ btw w lo hi ∧ btw w lo hi ≤ hi := by
  have := upto_in (w := w) (n := hi - lo + 1) (by omega)
  unfold btw; omega

def feed (w : Int) : List Int → Int
  | [] => w
  | x :: xs => feed (dstep (bitW .xor .u64 w (IntKind.u64.wrap x))) xs
structure Rg where
  lo : Int
  hi : Int
  deriving Inhabited, DecidableEq

def Rg.v (r : Rg) : AVal := .agg [.int .i64 r.lo, .int .i64 r.hi]
@[go_sem] theorem rg_bel_eq (r : Rg) (S : Nat → Prop) : Bel S r.v = True := by unfold Rg.v; simp only [go_sem]
@[go_sem] theorem rg_nv (r : Rg) : NV r.v = True := by unfold Rg.v; simp only [go_sem]
@[go_sem] theorem dr_bel_eq (w : Int) (S : Nat → Prop) : (Dr w).bel S = True := eq_true (dr_bel w S)
theorem rg_bel (r : Rg) (S : Nat → Prop) : Bel S r.v := by unfold Rg.v; simp only [go_sem]

def hullR (a b : Int) : Rg := ⟨if b < a then b else a, if b > a then b else a⟩
def rngR (w lo hi : Int) : Rg := hullR (btw w lo hi) (btw (dstep w) lo hi)
theorem rngR_in {w lo hi : Int} (h : lo ≤ hi) : lo ≤ (rngR w lo hi).lo ∧ (rngR w lo hi).lo ≤ (rngR w lo hi).hi ∧ (rngR w lo hi).hi ≤ hi := by
  have := btw_in (w := w) h
  have := btw_in (w := dstep w) h
  unfold rngR hullR; simp only; constructor
  · split <;> (try dsimp only) <;> omega
  · constructor <;> (repeat' split) <;> omega

theorem w64 {n : Int} (h : -9223372036854775808 ≤ n ∧ n ≤ 9223372036854775807) : IntKind.i64.wrap n = n := IntWalk.i64_in _ h
end Go.Proofs

namespace Go.Proofs
open Go Go.Sx

theorem next_ok (w : Int) : Ans Try.prog n_kit_Dice_next [.ptr 0 0 0 1] [some (Dr w)] (.int .u64 (dmix (dstep w))) [some (Dr (dstep w))] := by
  refine spec_run e_kit_Dice_next fun G => ?_
  simp only [go_sem, Dr, dmix, dstep]
  exact ⟨_, rfl⟩

theorem upto_ok (w n : Int) (hn : n ≤ 9223372036854775807) : Ans Try.prog n_kit_Dice_Upto [.ptr 0 0 0 1, .int .i64 n] [some (Dr w)] (.int .i64 (upto w n)) [some (Dr (dstep w))] := by
  refine spec_run e_kit_Dice_Upto fun G => ?_
  simp only [go_sem]
  refine callD (next_ok w) rfl trivial (.int _ _) (dr_bel _ _) (dr_bel _ _) (by simp) (by simp) ?_
  simp only [go_sem]
  refine ⟨fun h => ⟨by simp [upto, h], by simp⟩, fun h => ?_⟩
  have hm : 0 ≤ dmix (dstep w) := (bitW_u64 _ _ _).1
  have h1 : IntKind.u64.wrap n = n := IntWalk.u64_in n (by omega)
  have h2 : (dmix (dstep w)).tmod n = dmix (dstep w) % n := Int.tmod_eq_emod_of_nonneg hm
  have h3 := Int.emod_nonneg (dmix (dstep w)) (show n ≠ 0 by omega)
  have h4 := Int.emod_lt_of_pos (dmix (dstep w)) (show 0 < n by omega)
  rw [h1, h2, IntWalk.i64_in _ (by omega)]
  refine ⟨by omega, by rw [upto, if_neg h], _, rfl⟩

theorem between_ok (w lo hi : Int) (h1 : -1152921504606846976 ≤ lo) (h2 : lo ≤ hi) (h3 : hi ≤ 1152921504606846976) : Ans Try.prog n_kit_Dice_Between [.ptr 0 0 0 1, .int .i64 lo, .int .i64 hi] [some (Dr w)] (.int .i64 (btw w lo hi)) [some (Dr (dstep w))] := by
  refine spec_run e_kit_Dice_Between fun G => ?_
  simp only [go_sem]
  rw [IntWalk.i64_in (hi - lo) (by omega), IntWalk.i64_in (hi - lo + 1) (by omega)]
  refine callD (upto_ok w _ (by omega)) rfl ⟨.int _ _, trivial⟩ (.int _ _) (dr_bel _ _) (dr_bel _ _) (by simp) (by simp) ?_
  have := btw_in (w := w) h2
  unfold btw at this
  simp only [go_sem]
  rw [IntWalk.i64_in _ (by omega)]
  exact ⟨rfl, _, rfl⟩

theorem one_ok (w n : Int) (hn : n ≤ 9223372036854775807) : Ans Try.prog n_kit_Dice_One [.ptr 0 0 0 1, .int .i64 n] [some (Dr w)] (.bool (upto w n == 0)) [some (Dr (dstep w))] := by
  refine spec_run e_kit_Dice_One fun G => ?_
  simp only [go_sem]
  refine callD (upto_ok w _ hn) rfl ⟨.int _ _, trivial⟩ (.int _ _) (dr_bel _ _) (dr_bel _ _) (by simp) (by simp) ?_
  simp only [go_sem]
  exact ⟨_, rfl⟩

theorem range_ok (w lo hi : Int) (h1 : -1152921504606846976 ≤ lo) (h2 : lo ≤ hi) (h3 : hi ≤ 1152921504606846976) : Ans Try.prog n_kit_Dice_Range [.ptr 0 0 0 1, .int .i64 lo, .int .i64 hi] [some (Dr w)] (rngR w lo hi).v [some (Dr (dstep (dstep w)))] := by
  refine spec_run e_kit_Dice_Range fun G => ?_
  simp only [go_sem]
  refine callD (between_ok w lo hi h1 h2 h3) rfl ⟨.int _ _, .int _ _, trivial⟩ (.int _ _) (dr_bel _ _) (dr_bel _ _) (by simp) (by simp) ?_
  simp only [go_sem]
  refine callD (between_ok (dstep w) lo hi h1 h2 h3) rfl ⟨.int _ _, .int _ _, trivial⟩ (.int _ _) (dr_bel _ _) (dr_bel _ _) (by simp) (by simp) ?_
  simp only [go_sem]
  exact ⟨rfl, _, rfl⟩

structure Lw where
  perv : Rg
  gain : Rg
  shift : Rg
  full : Rg
  part : Rg
def Lw.cs (l : Lw) : List AVal := [.int .i64 l.perv.lo, .int .i64 l.perv.hi, .int .i64 l.gain.lo, .int .i64 l.gain.hi, .int .i64 l.shift.lo, .int .i64 l.shift.hi, .int .i64 l.full.lo, .int .i64 l.full.hi, .int .i64 l.part.lo, .int .i64 l.part.hi]
def Lw.v (l : Lw) : AVal := .agg l.cs
theorem lw_bel (l : Lw) (S : Nat → Prop) : Bel S l.v := by unfold Lw.v Lw.cs; simp only [go_sem]

def d2 (w : Int) : Int := dstep (dstep w)
def w10 (w : Int) : Int := d2 (d2 (d2 (d2 (d2 w))))
def lawOf (w : Int) : Lw :=
  ⟨rngR w 1000 90000, if upto (d2 (w10 w)) 8 = 0 then ⟨1, btw (dstep (d2 (w10 w))) 1 400⟩ else rngR (d2 w) 5000 60000, rngR (d2 (d2 w)) (-800) 800,
   if upto (w10 w) 3 = 0 then ⟨1000000, 1000000⟩ else rngR (d2 (d2 (d2 w))) 2000 60000, if upto (dstep (w10 w)) 2 = 0 then ⟨1000000, 1000000⟩ else rngR (d2 (d2 (d2 (d2 w)))) 500000 1000000⟩
def lawEnd (w : Int) : Int := if upto (d2 (w10 w)) 8 = 0 then d2 (d2 (w10 w)) else dstep (d2 (w10 w))

structure LwOK (l : Lw) : Prop where
  perv : 0 ≤ l.perv.lo ∧ l.perv.lo ≤ l.perv.hi ∧ l.perv.hi ≤ 1000000
  gain : 1 ≤ l.gain.lo ∧ l.gain.lo ≤ l.gain.hi ∧ l.gain.hi ≤ 1000000
  shift : -1000000 ≤ l.shift.lo ∧ l.shift.lo ≤ l.shift.hi ∧ l.shift.hi ≤ 1000000
  full : 0 ≤ l.full.lo ∧ l.full.lo ≤ l.full.hi ∧ l.full.hi ≤ 1000000
  part : 0 ≤ l.part.lo ∧ l.part.lo ≤ l.part.hi ∧ l.part.hi ≤ 1000000

theorem lawOf_in (w : Int) : LwOK (lawOf w) := by
  have h1 := rngR_in (w := w) (lo := 1000) (hi := 90000) (by decide)
  have h2 := rngR_in (w := d2 w) (lo := 5000) (hi := 60000) (by decide)
  have h3 := rngR_in (w := d2 (d2 w)) (lo := -800) (hi := 800) (by decide)
  have h4 := rngR_in (w := d2 (d2 (d2 w))) (lo := 2000) (hi := 60000) (by decide)
  have h5 := rngR_in (w := d2 (d2 (d2 (d2 w)))) (lo := 500000) (hi := 1000000) (by decide)
  have h6 := btw_in (w := dstep (d2 (w10 w))) (lo := 1) (hi := 400) (by decide)
  constructor <;> unfold lawOf <;> dsimp only
  · omega
  · split <;> (try dsimp only) <;> omega
  · omega
  · split <;> (try dsimp only) <;> omega
  · split <;> (try dsimp only) <;> omega

theorem lawof_ok (w : Int) : Ans Try.prog n_kit_LawOf [.ptr 0 0 0 1] [some (Dr w)] (lawOf w).v [some (Dr (lawEnd w))] := by
  refine spec_run e_kit_LawOf fun G => ?_
  simp only [go_sem]
  refine callD (range_ok w 1000 90000 (by decide) (by decide) (by decide)) rfl ⟨.int _ _, .int _ _, trivial⟩ (rg_bel _ _) (dr_bel _ _) (dr_bel _ _) (by simp) (by simp) ?_
  simp only [go_sem]
  refine callD (range_ok _ 5000 60000 (by decide) (by decide) (by decide)) rfl ⟨.int _ _, .int _ _, trivial⟩ (rg_bel _ _) (dr_bel _ _) (dr_bel _ _) (by simp) (by simp) ?_
  simp only [go_sem]
  refine callD (range_ok _ (-800) 800 (by decide) (by decide) (by decide)) rfl ⟨.int _ _, .int _ _, trivial⟩ (rg_bel _ _) (dr_bel _ _) (dr_bel _ _) (by simp) (by simp) ?_
  simp only [go_sem]
  refine callD (range_ok _ 2000 60000 (by decide) (by decide) (by decide)) rfl ⟨.int _ _, .int _ _, trivial⟩ (rg_bel _ _) (dr_bel _ _) (dr_bel _ _) (by simp) (by simp) ?_
  simp only [go_sem]
  refine callD (range_ok _ 500000 1000000 (by decide) (by decide) (by decide)) rfl ⟨.int _ _, .int _ _, trivial⟩ (rg_bel _ _) (dr_bel _ _) (dr_bel _ _) (by simp) (by simp) ?_
  simp only [go_sem, Rg.v]
  refine callD (one_ok _ 3 (by decide)) rfl ⟨.int _ _, trivial⟩ (.bool _) (dr_bel _ _) (dr_bel _ _) (by simp) (by simp) ?_
  simp only [go_sem]
  refine ⟨fun h1 => ?_, fun h1 => ?_⟩ <;>
  · refine callD (one_ok _ 2 (by decide)) rfl ⟨.int _ _, trivial⟩ (.bool _) (dr_bel _ _) (dr_bel _ _) (by simp) (by simp) ?_
    simp only [go_sem]
    refine ⟨fun h2 => ?_, fun h2 => ?_⟩ <;>
    · refine callD (one_ok _ 8 (by decide)) rfl ⟨.int _ _, trivial⟩ (.bool _) (dr_bel _ _) (dr_bel _ _) (by simp) (by simp) ?_
      simp only [go_sem]
      refine ⟨fun h3 => ?_, fun h3 => ?_⟩
      · refine callD (between_ok _ 1 400 (by decide) (by decide) (by decide)) rfl ⟨.int _ _, .int _ _, trivial⟩ (.int _ _) (dr_bel _ _) (dr_bel _ _) (by simp) (by simp) ?_
        simp only [go_sem]
        exact ⟨by simp only [lawOf, Lw.v, Lw.cs, d2, w10, h1, h2, h3, if_true, if_false], _, by simp only [lawEnd, d2, w10, h3, if_true, if_false]; rfl⟩
      · exact ⟨by simp only [lawOf, Lw.v, Lw.cs, d2, w10, h1, h2, h3, if_true, if_false], _, by simp only [lawEnd, d2, w10, h3, if_true, if_false]; rfl⟩

theorem newdice_ok (xs : List Int) (hl : xs.length ≤ 9223372036854775807) : Ans Try.prog n_kit_NewDice [.view (xs.map (.int .i64))] [] (.ptr 0 0 0 1) [some (Dr (feed (IntKind.u64.wrap (IntKind.u64.wrap xs.length + 1374496523)) xs))] := by
  refine spec_run e_kit_NewDice fun G => ?_
  simp only [go_sem]
  have key : ∀ (zs : List Int) (i : Nat) (w : Int), xs.drop i = zs → i ≤ xs.length →
      Sx.Loop Try.prog G 0 none k_kit_NewDice_r7 [.blk 0, .seq (.seq (.reg k_kit_NewDice_r8 false) .ret)] ⟨[.view (xs.map (.int .i64)), .any, .nilptr, .ptr 0 0 0 1, .int .i64 i] ++ List.replicate 28 .any, [some (Dr w)], []⟩
        (RetPost [ARes.tmp 2] fun v H' => v = .ptr 0 0 0 1 ∧ ∃ X, H' = some (Dr (feed w zs)) :: X) := by
    intro zs
    induction zs with
    | nil =>
      intro i w hd hi
      have : xs.length ≤ i := by simpa using hd
      have h1 : ¬ (i : Int) < xs.length := by omega
      refine loop_body 200 k_kit_NewDice_r7.eq_1 ?_
      simp only [go_sem, h1, feed]
      exact ⟨_, rfl⟩
    | cons z zs ih =>
      intro i w hd hi
      have hx : xs[i]? = some z := by have := congrArg (·[0]?) hd; simpa using this
      have h1 : i < xs.length := (List.getElem?_eq_some_iff.1 hx).1
      have h2 : (i : Int) < xs.length := by omega
      have h3 : IntKind.i64.wrap ((i : Int) + 1) = ((i + 1 : Nat) : Int) := by rw [IntWalk.i64_in _ (by omega)]; rfl
      have hd' : xs.drop (i + 1) = zs := by have := congrArg (List.drop 1) hd; simpa [Nat.add_comm] using this
      refine loop_body 200 k_kit_NewDice_r7.eq_1 ?_
      simp only [go_sem, hx, h2, Dr]
      refine callD (next_ok _) rfl trivial (.int _ _) (dr_bel _ _) (dr_bel _ _) (by simp) (by simp) ?_
      simp only [go_sem, h3]
      refine loop_wk ?_ (ih (i + 1) _ hd' h1)
      simp [Wk]
  refine loop_wk ?_ (key xs 0 _ rfl (Nat.zero_le _))
  simp [Wk]
end Go.Proofs

namespace Go.Proofs
open Go Go.Sx

theorem within_ok (n a b : Int) : Ans Try.prog n_curve_within [.int .i64 n, .int .i64 a, .int .i64 b] [] (.bool (decide (a ≤ n) && decide (n ≤ b))) [] := by
  refine spec_run e_curve_within fun G => ?_
  simp only [go_sem]
  refine ⟨fun h => ?_, fun h => ?_⟩ <;> simp [h]

theorem rightGrid_ok (g : Int) : Ans Try.prog n_curve_rightGrid [.int .i64 g] [] (.bool (decide (-1000000 ≤ g) && decide (g ≤ 1000000))) [] := by
  refine spec_run e_curve_rightGrid fun G => ?_
  simp only [go_sem]
  refine callP (within_ok _ _ _) ⟨.int _ _, .int _ _, .int _ _, trivial⟩ (.bool _) (by simp) (by simp) ?_
  simp only [go_sem]

theorem rightPlate_ok (g : Int) : Ans Try.prog n_curve_rightPlate [.int .i64 g] [] (.bool (decide (0 ≤ g) && decide (g ≤ 1000000))) [] := by
  refine spec_run e_curve_rightPlate fun G => ?_
  simp only [go_sem]
  refine callP (within_ok _ _ _) ⟨.int _ _, .int _ _, .int _ _, trivial⟩ (.bool _) (by simp) (by simp) ?_
  simp only [go_sem]

def bnd (n : Int) : Int := if n < 0 then 0 else if 1000000 < n then 1000000 else n

theorem bounded_ok (n : Int) : Ans Try.prog n_curve_bounded [.int .i64 n, .int .i64 0, .int .i64 1000000] [] (.int .i64 (bnd n)) [] := by
  refine spec_run e_curve_bounded fun G => ?_
  simp only [go_sem]
  unfold bnd
  repeat' split
  all_goals omega

def rup (n b : Int) : Int := (n + b - 1) / b

theorem roundUp_ok (n b : Int) (h0 : 0 ≤ n) (h1 : 1 ≤ b) (h2 : n ≤ 1152921504606846976) (h3 : b ≤ 1152921504606846976) : Ans Try.prog n_curve_roundUp [.int .i64 n, .int .i64 b] [] (.int .i64 (rup n b)) [] := by
  refine spec_run e_curve_roundUp fun G => ?_
  have hq : 0 ≤ (n + b - 1) / b := Int.ediv_nonneg (by omega) (by omega)
  have hq2 : (n + b - 1) / b ≤ n + b - 1 := Int.ediv_le_self _ (by omega)
  simp only [go_sem]
  rw [IntWalk.i64_in (n + b) (by omega), IntWalk.i64_in (n + b - 1) (by omega), Int.tdiv_eq_ediv_of_nonneg (by omega), IntWalk.i64_in _ (by omega)]
  exact ⟨by omega, rfl⟩

theorem checkLaw_ok (l : Lw) (h : LwOK l) : Ans Try.prog n_curve_CheckLaw [l.v] [] (.int .i64 0) [] := by
  obtain ⟨⟨a1, a2, a3⟩, ⟨b1, b2, b3⟩, ⟨c1, c2, c3⟩, ⟨d1, d2, d3⟩, ⟨e1, e2, e3⟩⟩ := h
  have a1 := Int.not_lt.2 a1
  have a2 := Int.not_lt.2 a2
  have a3 := Int.not_lt.2 a3
  have b1 := Int.not_lt.2 b1
  have b2 := Int.not_lt.2 b2
  have b3 := Int.not_lt.2 b3
  have c1 := Int.not_lt.2 c1
  have c2 := Int.not_lt.2 c2
  have c3 := Int.not_lt.2 c3
  have d1 := Int.not_lt.2 d1
  have d2 := Int.not_lt.2 d2
  have d3 := Int.not_lt.2 d3
  have e1 := Int.not_lt.2 e1
  have e2 := Int.not_lt.2 e2
  have e3 := Int.not_lt.2 e3
  have u1 : IntKind.i64.wrap 1 = 1 := rfl
  have u2 : IntKind.i64.wrap 2 = 2 := rfl
  have u3 : IntKind.i64.wrap 3 = 3 := rfl
  have u4 : IntKind.i64.wrap 4 = 4 := rfl
  have u5 : IntKind.i64.wrap 5 = 5 := rfl
  refine spec_run e_curve_CheckLaw fun G => ?_
  simp only [go_sem, Lw.v, Lw.cs]
  refine loop_body 200 k_curve_CheckLaw_r10.eq_1 ?_
  simp only [go_sem, a1, a2, a3, u1]
  refine loop_body 200 k_curve_CheckLaw_r10.eq_1 ?_
  simp only [go_sem, b1, b2, b3, u2]
  refine loop_body 200 k_curve_CheckLaw_r10.eq_1 ?_
  simp only [go_sem, c1, c2, c3, u3]
  refine loop_body 200 k_curve_CheckLaw_r10.eq_1 ?_
  simp only [go_sem, d1, d2, d3, u4]
  refine loop_body 200 k_curve_CheckLaw_r10.eq_1 ?_
  simp only [go_sem, e1, e2, e3, u5]
  refine loop_body 200 k_curve_CheckLaw_r10.eq_1 ?_
  simp only [go_sem]

theorem checkVolts_ok (l : Lw) (h : LwOK l) (g p : Int) (h1 : -1000000 ≤ g ∧ g ≤ 1000000) (h2 : 0 ≤ p ∧ p ≤ 1000000) : Ans Try.prog n_curve_checkVolts [l.v, .int .i64 g, .int .i64 p] [] (.int .i64 0) [] := by
  refine spec_run e_curve_checkVolts fun G => ?_
  simp only [go_sem]
  refine callP (checkLaw_ok l h) ⟨lw_bel _ _, trivial⟩ (.int _ _) (by simp) (by simp) ?_
  simp only [go_sem]
  refine callP (rightGrid_ok g) ⟨.int _ _, trivial⟩ (.bool _) (by simp) (by simp) ?_
  have e1 : (decide (-1000000 ≤ g) && decide (g ≤ 1000000)) = true := by simp [h1]
  have e2 : (decide (0 ≤ p) && decide (p ≤ 1000000)) = true := by simp [h2]
  simp only [go_sem, e1]
  refine callP (rightPlate_ok p) ⟨.int _ _, trivial⟩ (.bool _) (by simp) (by simp) ?_
  simp only [go_sem, e2]

def driveOf (l : Lw) (g p : Int) : Rg := ⟨bnd (g + l.shift.lo + (1000 * p) / l.gain.hi), bnd (g + l.shift.hi + rup (1000 * p) l.gain.lo)⟩

theorem drive_ok (l : Lw) (h : LwOK l) (g p : Int) (h1 : -1000000 ≤ g ∧ g ≤ 1000000) (h2 : 0 ≤ p ∧ p ≤ 1000000) : Ans Try.prog n_curve_drive [l.v, .int .i64 g, .int .i64 p] [] (driveOf l g p).v [] := by
  obtain ⟨_, ⟨b1, b2, b3⟩, ⟨c1, c2, c3⟩, _, _⟩ := h
  have q1 : 0 ≤ 1000 * p / l.gain.hi := Int.ediv_nonneg (by omega) (by omega)
  have q2 : 1000 * p / l.gain.hi ≤ 1000 * p := Int.ediv_le_self _ (by omega)
  have q3 : 0 ≤ rup (1000 * p) l.gain.lo := Int.ediv_nonneg (by omega) (by omega)
  have q4 : rup (1000 * p) l.gain.lo ≤ 1000 * p + l.gain.lo - 1 := Int.ediv_le_self _ (by omega)
  have e1 : (1000 * p).tdiv l.gain.hi = 1000 * p / l.gain.hi := Int.tdiv_eq_ediv_of_nonneg (by omega)
  have m1 : IntKind.i64.wrap (1000 * p) = 1000 * p := IntWalk.i64_in _ (by omega)
  have m2 : IntKind.i64.wrap (1000 * p / l.gain.hi) = 1000 * p / l.gain.hi := IntWalk.i64_in _ (by omega)
  have m3 : IntKind.i64.wrap (g + l.shift.lo) = g + l.shift.lo := IntWalk.i64_in _ (by omega)
  have m4 : IntKind.i64.wrap (g + l.shift.lo + 1000 * p / l.gain.hi) = g + l.shift.lo + 1000 * p / l.gain.hi := IntWalk.i64_in _ (by omega)
  have m5 : IntKind.i64.wrap (g + l.shift.hi) = g + l.shift.hi := IntWalk.i64_in _ (by omega)
  have m6 : IntKind.i64.wrap (g + l.shift.hi + rup (1000 * p) l.gain.lo) = g + l.shift.hi + rup (1000 * p) l.gain.lo := IntWalk.i64_in _ (by omega)
  refine spec_run e_curve_drive fun G => ?_
  simp only [go_sem, Lw.v, Lw.cs, m1, e1, m2, m3, m4]
  refine ⟨by omega, dcallP (bounded_ok _) ⟨.int _ _, .int _ _, .int _ _, trivial⟩ (.int _ _) (by simp only [go_sem]) ?_⟩
  simp only [go_sem, m5, m1]
  refine dcallP (roundUp_ok _ _ (by omega) b1 (by omega) (by omega)) ⟨.int _ _, .int _ _, trivial⟩ (.int _ _) (by simp only [go_sem]) ?_
  simp only [go_sem, m6]
  refine callP (bounded_ok _) ⟨.int _ _, .int _ _, .int _ _, trivial⟩ (.int _ _) (by simp) (by simp) ?_
  simp only [go_sem, driveOf, Rg.v]

theorem shr_u64 (x n : Int) : shrW .u64 x n = x / 2 ^ (min n.toNat 64) := by
  unfold shrW; rw [Int.fdiv_eq_ediv_of_nonneg _ (by exact Int.pow_nonneg (by decide))]; rfl

def lenTab : List UInt8 := [0, 1, 2, 2, 3, 3, 3, 3, 4, 4, 4, 4, 4, 4, 4, 4, 5, 5, 5, 5, 5, 5, 5, 5, 5, 5, 5, 5, 5, 5, 5, 5, 6, 6, 6, 6, 6, 6, 6, 6, 6, 6, 6, 6, 6, 6, 6, 6, 6, 6, 6, 6, 6, 6, 6, 6, 6, 6, 6, 6, 6, 6, 6, 6, 7, 7, 7, 7, 7, 7, 7, 7, 7, 7, 7, 7, 7, 7, 7, 7, 7, 7, 7, 7, 7, 7, 7, 7, 7, 7, 7, 7, 7, 7, 7, 7, 7, 7, 7, 7, 7, 7, 7, 7, 7, 7, 7, 7, 7, 7, 7, 7, 7, 7, 7, 7, 7, 7, 7, 7, 7, 7, 7, 7, 7, 7, 7, 7, 8, 8, 8, 8, 8, 8, 8, 8, 8, 8, 8, 8, 8, 8, 8, 8, 8, 8, 8, 8, 8, 8, 8, 8, 8, 8, 8, 8, 8, 8, 8, 8, 8, 8, 8, 8, 8, 8, 8, 8, 8, 8, 8, 8, 8, 8, 8, 8, 8, 8, 8, 8, 8, 8, 8, 8, 8, 8, 8, 8, 8, 8, 8, 8, 8, 8, 8, 8, 8, 8, 8, 8, 8, 8, 8, 8, 8, 8, 8, 8, 8, 8, 8, 8, 8, 8, 8, 8, 8, 8, 8, 8, 8, 8, 8, 8, 8, 8, 8, 8, 8, 8, 8, 8, 8, 8, 8, 8, 8, 8, 8, 8, 8, 8, 8, 8, 8, 8, 8, 8, 8, 8, 8, 8, 8, 8, 8, 8]
theorem lenTab_ok : ∀ n : Fin 256, ∃ b, lenTab[n.val]? = some b ∧ n.val < 2 ^ b.toNat ∧ b.toNat ≤ 8 := by decide +kernel

theorem s32 (x : Int) : shrW .u64 x 32 = x / 4294967296 := by rw [shr_u64]; rfl
theorem s16 (x : Int) : shrW .u64 x 16 = x / 65536 := by rw [shr_u64]; rfl
theorem s8 (x : Int) : shrW .u64 x 8 = x / 256 := by rw [shr_u64]; rfl

set_option maxRecDepth 100000 in
theorem len64_ok (x : Int) (h0 : 0 ≤ x) (h1 : x ≤ 1152921504606846976) : ∃ m : Nat, m ≤ 64 ∧ x < 2 ^ m ∧ Ans Try.prog n_bits_Len64 [.int .u64 x] [] (.int .i64 m) [] := by
  obtain ⟨y, a, hy0, hy1, ha, hxy, hrun⟩ : ∃ (y : Int) (a : Nat), 0 ≤ y ∧ y < 256 ∧ a ≤ 56 ∧ x < (y + 1) * 2 ^ a ∧ ∀ b : UInt8, lenTab[y.toNat]? = some b → b.toNat ≤ 8 → Ans Try.prog n_bits_Len64 [.int .u64 x] [] (.int .i64 (a + b.toNat : Nat)) [] := by
    by_cases c1 : 4294967296 ≤ x
    · by_cases c2 : 65536 ≤ x / 4294967296
      · by_cases c3 : 256 ≤ (x / 4294967296) / 65536
        · refine ⟨((x / 4294967296) / 65536) / 256, 56, by omega, by omega, by decide, by omega, fun b hb hb8 => ?_⟩
          have hu : IntKind.u8.wrap (((x / 4294967296) / 65536) / 256) = ((x / 4294967296) / 65536) / 256 := IntWalk.u8_in _ (by omega)
          have hl : ¬ (((x / 4294967296) / 65536) / 256) < 0 := by omega
          unfold lenTab at hb
          refine spec_run e_bits_Len64 fun G => ?_
          simp only [go_sem, c1, c2, c3, s32, s16, s8, hu, hl, hb]
          simp only [IntKind.wrap_i64]
          omega
        · refine ⟨(x / 4294967296) / 65536, 48, by omega, by omega, by decide, by omega, fun b hb hb8 => ?_⟩
          have hu : IntKind.u8.wrap ((x / 4294967296) / 65536) = (x / 4294967296) / 65536 := IntWalk.u8_in _ (by omega)
          have hl : ¬ ((x / 4294967296) / 65536) < 0 := by omega
          unfold lenTab at hb
          refine spec_run e_bits_Len64 fun G => ?_
          simp only [go_sem, c1, c2, c3, s32, s16, s8, hu, hl, hb]
          simp only [IntKind.wrap_i64]
          omega
      · by_cases c3 : 256 ≤ x / 4294967296
        · refine ⟨(x / 4294967296) / 256, 40, by omega, by omega, by decide, by omega, fun b hb hb8 => ?_⟩
          have hu : IntKind.u8.wrap ((x / 4294967296) / 256) = (x / 4294967296) / 256 := IntWalk.u8_in _ (by omega)
          have hl : ¬ ((x / 4294967296) / 256) < 0 := by omega
          unfold lenTab at hb
          refine spec_run e_bits_Len64 fun G => ?_
          simp only [go_sem, c1, c2, c3, s32, s16, s8, hu, hl, hb]
          simp only [IntKind.wrap_i64]
          omega
        · refine ⟨x / 4294967296, 32, by omega, by omega, by decide, by omega, fun b hb hb8 => ?_⟩
          have hu : IntKind.u8.wrap (x / 4294967296) = x / 4294967296 := IntWalk.u8_in _ (by omega)
          have hl : ¬ (x / 4294967296) < 0 := by omega
          unfold lenTab at hb
          refine spec_run e_bits_Len64 fun G => ?_
          simp only [go_sem, c1, c2, c3, s32, s16, s8, hu, hl, hb]
          simp only [IntKind.wrap_i64]
          omega
    · by_cases c2 : 65536 ≤ x
      · by_cases c3 : 256 ≤ (x) / 65536
        · refine ⟨((x) / 65536) / 256, 24, by omega, by omega, by decide, by omega, fun b hb hb8 => ?_⟩
          have hu : IntKind.u8.wrap (((x) / 65536) / 256) = ((x) / 65536) / 256 := IntWalk.u8_in _ (by omega)
          have hl : ¬ (((x) / 65536) / 256) < 0 := by omega
          unfold lenTab at hb
          refine spec_run e_bits_Len64 fun G => ?_
          simp only [go_sem, c1, c2, c3, s32, s16, s8, hu, hl, hb]
          simp only [IntKind.wrap_i64]
          omega
        · refine ⟨(x) / 65536, 16, by omega, by omega, by decide, by omega, fun b hb hb8 => ?_⟩
          have hu : IntKind.u8.wrap ((x) / 65536) = (x) / 65536 := IntWalk.u8_in _ (by omega)
          have hl : ¬ ((x) / 65536) < 0 := by omega
          unfold lenTab at hb
          refine spec_run e_bits_Len64 fun G => ?_
          simp only [go_sem, c1, c2, c3, s32, s16, s8, hu, hl, hb]
          simp only [IntKind.wrap_i64]
          omega
      · by_cases c3 : 256 ≤ x
        · refine ⟨(x) / 256, 8, by omega, by omega, by decide, by omega, fun b hb hb8 => ?_⟩
          have hu : IntKind.u8.wrap ((x) / 256) = (x) / 256 := IntWalk.u8_in _ (by omega)
          have hl : ¬ ((x) / 256) < 0 := by omega
          unfold lenTab at hb
          refine spec_run e_bits_Len64 fun G => ?_
          simp only [go_sem, c1, c2, c3, s32, s16, s8, hu, hl, hb]
          simp only [IntKind.wrap_i64]
          omega
        · refine ⟨x, 0, by omega, by omega, by decide, by omega, fun b hb hb8 => ?_⟩
          have hu : IntKind.u8.wrap (x) = x := IntWalk.u8_in _ (by omega)
          have hl : ¬ (x) < 0 := by omega
          unfold lenTab at hb
          refine spec_run e_bits_Len64 fun G => ?_
          simp only [go_sem, c1, c2, c3, s32, s16, s8, hu, hl, hb]
          simp only [IntKind.wrap_i64]
          omega
  obtain ⟨b, hb1, hb2, hb3⟩ := lenTab_ok ⟨y.toNat, by omega⟩
  refine ⟨a + b.toNat, by omega, ?_, hrun b hb1 hb3⟩
  have h3 : y + 1 ≤ 2 ^ b.toNat := by
    have : ((y.toNat : Nat) : Int) < ((2 ^ b.toNat : Nat) : Int) := by exact_mod_cast hb2
    push_cast at this
    omega
  have h4 : (y + 1) * 2 ^ a ≤ 2 ^ b.toNat * 2 ^ a := Int.mul_le_mul_of_nonneg_right h3 (Int.pow_nonneg (by decide))
  rw [Int.pow_add, Int.mul_comm]
  omega
end Go.Proofs

