/- A part of the proof. -/
import Derived.Test.YtmpocglkfgfpbaaPF
set_option linter.unusedSimpArgs false
set_option linter.unusedVariables false
namespace Go.Proofs
open Go Go.Sx

def k_law05_GlassNarrows_r0 : List AOper := [
  ⟨some 2, .move (.const (.bool false)), none, []⟩]
def k_law05_GlassNarrows_r1 : List AOper := [
  ⟨some 29, .move (.tmp 0), none, []⟩,
 ⟨some 30, .call (.const (.fn (.func 21) [] [])) [.tmp 29], none, []⟩,
 ⟨some 3, .move (.tmp 30), none, []⟩]
def k_law05_GlassNarrows_r2 : List AOper := [
  ⟨some 31, .move (.tmp 3), none, []⟩,
 ⟨some 32, .call (.const (.fn (.func 22) [] [])) [.tmp 31], none, []⟩,
 ⟨some 33, .move (.tmp 3), none, []⟩,
 ⟨some 34, .call (.const (.fn (.func 22) [] [])) [.tmp 33], none, []⟩,
 ⟨some 4, .box (.const (.agg [.int .i64 0, .nilsl])), none, []⟩,
 ⟨some 5, .box (.const (.agg [.int .i64 0, .nilsl])), none, []⟩,
 ⟨none, .store 2 (.tmp 4) (.tmp 32), none, []⟩,
 ⟨none, .store 2 (.tmp 5) (.tmp 34), none, []⟩]
def k_law05_GlassNarrows_r3 : List AOper := [
  ⟨some 35, .move (.tmp 3), none, []⟩,
 ⟨some 36, .call (.const (.fn (.func 23) [] [])) [.tmp 35, .const (.int .i64 4), .const (.int .i64 30)], none, []⟩,
 ⟨some 6, .box (.const (.agg [.int .i64 0, .nilsl])), none, []⟩,
 ⟨none, .store 2 (.tmp 6) (.tmp 36), none, []⟩]
def k_law05_GlassNarrows_r4 : List AOper := [
  ⟨some 37, .move (.tmp 3), none, []⟩,
 ⟨some 38, .call (.const (.fn (.func 44) [] [])) [.tmp 37, .const (.int .i64 1), .const (.int .i64 50)], none, []⟩,
 ⟨some 39, .move (.tmp 3), none, []⟩,
 ⟨some 40, .call (.const (.fn (.func 44) [] [])) [.tmp 39, .const (.int .i64 300), .const (.int .i64 1200)], none, []⟩,
 ⟨some 7, .move (.tmp 38), none, []⟩,
 ⟨some 8, .move (.tmp 40), none, []⟩]
def k_law05_GlassNarrows_r5 : List AOper := [
  ⟨some 41, .move (.tmp 3), none, []⟩,
 ⟨some 42, .load (some (2)) (.tmp 4), none, []⟩,
 ⟨some 43, .move (.tmp 7), none, []⟩,
 ⟨some 44, .load (some (2)) (.tmp 6), none, []⟩,
 ⟨some 45, .call (.const (.fn (.func 50) [] [])) [.tmp 41, .tmp 42, .tmp 43, .tmp 44], none, []⟩,
 ⟨some 9, .move (.tmp 45), none, []⟩]
def k_law05_GlassNarrows_r6 : List AOper := [
  ⟨some 46, .move (.tmp 3), none, []⟩,
 ⟨some 47, .load (some (2)) (.tmp 4), none, [0]⟩,
 ⟨some 48, .call (.const (.fn (.func 69) [] [])) [.tmp 46, .tmp 47], none, []⟩,
 ⟨some 49, .move (.tmp 3), none, [0, 1, 2]⟩,
 ⟨some 50, .load (some (2)) (.tmp 5), none, [0, 1, 2, 3]⟩,
 ⟨some 51, .call (.const (.fn (.func 69) [] [])) [.tmp 49, .tmp 50], none, []⟩,
 ⟨some 10, .box (.const (.agg [.int .i64 0, .nilsl])), none, [0, 1, 2, 3, 4, 5]⟩,
 ⟨some 11, .box (.const (.agg [.int .i64 0, .nilsl])), none, [0, 1, 2, 3, 4, 5, 6]⟩,
 ⟨none, .store 2 (.tmp 10) (.tmp 48), none, []⟩,
 ⟨none, .store 2 (.tmp 11) (.tmp 51), none, []⟩]
def k_law05_GlassNarrows_r6s : List (List AOper) := [
  [
  ⟨some 46, .move (.tmp 3), none, []⟩,
 ⟨some 47, .load (some (2)) (.tmp 4), none, [0]⟩,
 ⟨some 48, .call (.const (.fn (.func 69) [] [])) [.tmp 46, .tmp 47], none, []⟩,
 ⟨some 49, .move (.tmp 3), none, [0, 1, 2]⟩,
 ⟨some 50, .load (some (2)) (.tmp 5), none, [0, 1, 2, 3]⟩,
 ⟨some 51, .call (.const (.fn (.func 69) [] [])) [.tmp 49, .tmp 50], none, []⟩,
 ⟨some 10, .box (.const (.agg [.int .i64 0, .nilsl])), none, [0, 1, 2, 3, 4, 5]⟩,
 ⟨some 11, .box (.const (.agg [.int .i64 0, .nilsl])), none, [0, 1, 2, 3, 4, 5, 6]⟩], 
  [
  ⟨none, .store 2 (.tmp 10) (.tmp 48), none, []⟩], 
  [
  ⟨none, .store 2 (.tmp 11) (.tmp 51), none, []⟩]]
theorem k_law05_GlassNarrows_r6_sg : segs k_law05_GlassNarrows_r6 = k_law05_GlassNarrows_r6s := by kernel_rfl
theorem k_law05_GlassNarrows_r6_st : statOK k_law05_GlassNarrows_r6 = true := by kernel_rfl
def k_law05_GlassNarrows_r7 : List AOper := [
  ⟨some 53, .load (some (2)) (.tmp 10), none, []⟩,
 ⟨some 54, .move (.tmp 8), none, []⟩,
 ⟨some 55, .call (.const (.fn (.func 39) [] [])) [.tmp 53, .const (.int .i64 300), .tmp 54], none, []⟩,
 ⟨some 52, .move (.tmp 55), none, []⟩,
 ⟨some 56, .extract (.tmp 52) 0, none, []⟩,
 ⟨some 57, .extract (.tmp 52) 1, none, []⟩,
 ⟨some 12, .box (.const (.agg [.int .i64 0, .int .i64 0])), none, []⟩,
 ⟨none, .store 2 (.tmp 12) (.tmp 56), none, []⟩,
 ⟨some 13, .move (.tmp 57), none, []⟩]
def k_law05_GlassNarrows_r8 : List AOper := [
  ⟨some 59, .load (some (2)) (.tmp 4), none, []⟩,
 ⟨some 60, .move (.tmp 8), none, []⟩,
 ⟨some 61, .call (.const (.fn (.func 39) [] [])) [.tmp 59, .const (.int .i64 300), .tmp 60], none, []⟩,
 ⟨some 58, .move (.tmp 61), none, []⟩,
 ⟨some 62, .extract (.tmp 58) 0, none, []⟩,
 ⟨some 63, .extract (.tmp 58) 1, none, []⟩,
 ⟨some 14, .box (.const (.agg [.int .i64 0, .int .i64 0])), none, []⟩,
 ⟨none, .store 2 (.tmp 14) (.tmp 62), none, []⟩,
 ⟨some 15, .move (.tmp 63), none, []⟩]
def k_law05_GlassNarrows_r9 : List AOper := [
  ⟨some 65, .load (some (2)) (.tmp 10), none, []⟩,
 ⟨some 66, .move (.tmp 7), none, []⟩,
 ⟨some 67, .load (some (2)) (.tmp 6), none, []⟩,
 ⟨some 68, .call (.const (.fn (.func 51) [] [])) [.tmp 65, .tmp 66, .tmp 67], none, []⟩,
 ⟨some 64, .move (.tmp 68), none, []⟩,
 ⟨some 69, .extract (.tmp 64) 0, none, []⟩,
 ⟨some 70, .extract (.tmp 64) 1, none, []⟩,
 ⟨some 16, .move (.tmp 69), none, []⟩,
 ⟨some 17, .move (.tmp 70), none, []⟩]
def k_law05_GlassNarrows_r10 : List AOper := [
  ⟨some 72, .load (some (2)) (.tmp 4), none, []⟩,
 ⟨some 73, .move (.tmp 7), none, []⟩,
 ⟨some 74, .load (some (2)) (.tmp 6), none, []⟩,
 ⟨some 75, .call (.const (.fn (.func 51) [] [])) [.tmp 72, .tmp 73, .tmp 74], none, []⟩,
 ⟨some 71, .move (.tmp 75), none, []⟩,
 ⟨some 76, .extract (.tmp 71) 0, none, []⟩,
 ⟨some 77, .extract (.tmp 71) 1, none, []⟩,
 ⟨some 18, .move (.tmp 76), none, []⟩,
 ⟨some 19, .move (.tmp 77), none, []⟩]
def k_law05_GlassNarrows_r11 : List AOper := [
  ⟨some 78, .move (.tmp 13), none, []⟩,
 ⟨some 79, .bin .plain .neq (.tmp 78) (.const (.int .i64 0)), none, []⟩,
 ⟨some 80, .move (.tmp 79), none, []⟩,
 ⟨some 81, .move (.tmp 15), (some (80, false)), []⟩,
 ⟨some 82, .bin .plain .neq (.tmp 81) (.const (.int .i64 0)), (some (80, false)), []⟩,
 ⟨some 83, .pick (.tmp 80) (.const (.bool true)) (.tmp 82), none, []⟩,
 ⟨some 84, .move (.tmp 83), none, []⟩,
 ⟨some 85, .move (.tmp 17), (some (84, false)), []⟩,
 ⟨some 86, .bin .plain .neq (.tmp 85) (.const (.int .i64 0)), (some (84, false)), []⟩,
 ⟨some 87, .pick (.tmp 84) (.const (.bool true)) (.tmp 86), none, []⟩,
 ⟨some 88, .move (.tmp 87), none, []⟩,
 ⟨some 89, .move (.tmp 19), (some (88, false)), []⟩,
 ⟨some 90, .bin .plain .neq (.tmp 89) (.const (.int .i64 0)), (some (88, false)), []⟩,
 ⟨some 91, .pick (.tmp 88) (.const (.bool true)) (.tmp 90), none, []⟩,
 ⟨some 92, .move (.tmp 91), none, []⟩,
 ⟨some 93, .load (some (2)) (.tmp 12), (some (92, false)), []⟩,
 ⟨some 94, .load (some (2)) (.tmp 14), (some (92, false)), []⟩,
 ⟨some 95, .call (.const (.fn (.func 70) [] [])) [.tmp 93, .tmp 94], (some (92, false)), []⟩,
 ⟨some 96, .not (.tmp 95), (some (92, false)), []⟩,
 ⟨some 97, .pick (.tmp 92) (.const (.bool true)) (.tmp 96), none, []⟩,
 ⟨some 98, .move (.tmp 97), none, []⟩,
 ⟨some 99, .move (.tmp 16), (some (98, false)), []⟩,
 ⟨some 100, .len false (.tmp 99), (some (98, false)), []⟩,
 ⟨some 101, .move (.tmp 18), (some (98, false)), []⟩,
 ⟨some 102, .len false (.tmp 101), (some (98, false)), []⟩,
 ⟨some 103, .bin .plain .neq (.tmp 100) (.tmp 102), (some (98, false)), []⟩,
 ⟨some 104, .pick (.tmp 98) (.const (.bool true)) (.tmp 103), none, []⟩,
 ⟨some 105, .move (.tmp 104), none, []⟩,
 ⟨some 106, .move (.tmp 16), (some (105, false)), []⟩,
 ⟨some 107, .len false (.tmp 106), (some (105, false)), []⟩,
 ⟨some 108, .fieldAddr 1 (.tmp 6), (some (105, false)), []⟩,
 ⟨some 109, .load none (.tmp 108), (some (105, false)), []⟩,
 ⟨some 110, .len false (.tmp 109), (some (105, false)), []⟩,
 ⟨some 111, .bin .plain .neq (.tmp 107) (.tmp 110), (some (105, false)), []⟩,
 ⟨some 112, .pick (.tmp 105) (.const (.bool true)) (.tmp 111), none, []⟩]
def k_law05_GlassNarrows_r12 : List AOper := [
  ⟨some 2, .move (.const (.bool false)), none, []⟩]
def k_law05_GlassNarrows_r13 : List AOper := [
  ⟨some 20, .move (.const (.int .i64 0)), none, []⟩]
def k_law05_GlassNarrows_r14 : List AOper := [
  ⟨some 113, .move (.tmp 20), none, []⟩,
 ⟨some 114, .move (.tmp 16), none, []⟩,
 ⟨some 115, .len false (.tmp 114), none, []⟩,
 ⟨some 116, .bin .plain .lss (.tmp 113) (.tmp 115), none, []⟩]
def k_law05_GlassNarrows_r15 : List AOper := [
  ⟨some 119, .move (.tmp 16), none, []⟩,
 ⟨some 120, .move (.tmp 20), none, [0]⟩,
 ⟨some 121, .indexAddr 2 (.tmp 119) (.tmp 120), none, []⟩,
 ⟨some 122, .load (some (2)) (.tmp 121), none, []⟩,
 ⟨some 123, .move (.tmp 18), none, [0, 1, 2, 3]⟩,
 ⟨some 124, .move (.tmp 20), none, [0, 1, 2, 3, 4]⟩,
 ⟨some 125, .indexAddr 2 (.tmp 123) (.tmp 124), none, [0, 1, 2, 3]⟩,
 ⟨some 126, .load (some (2)) (.tmp 125), none, [0, 1, 2, 3]⟩,
 ⟨some 127, .call (.const (.fn (.func 70) [] [])) [.tmp 122, .tmp 126], none, []⟩,
 ⟨some 128, .not (.tmp 127), none, []⟩]
def k_law05_GlassNarrows_r15s : List (List AOper) := [
  [
  ⟨some 119, .move (.tmp 16), none, []⟩,
 ⟨some 120, .move (.tmp 20), none, [0]⟩,
 ⟨some 121, .indexAddr 2 (.tmp 119) (.tmp 120), none, []⟩,
 ⟨some 122, .load (some (2)) (.tmp 121), none, []⟩,
 ⟨some 123, .move (.tmp 18), none, [0, 1, 2, 3]⟩,
 ⟨some 124, .move (.tmp 20), none, [0, 1, 2, 3, 4]⟩,
 ⟨some 125, .indexAddr 2 (.tmp 123) (.tmp 124), none, [0, 1, 2, 3]⟩,
 ⟨some 126, .load (some (2)) (.tmp 125), none, [0, 1, 2, 3]⟩], 
  [
  ⟨some 127, .call (.const (.fn (.func 70) [] [])) [.tmp 122, .tmp 126], none, []⟩], 
  [
  ⟨some 128, .not (.tmp 127), none, []⟩]]
theorem k_law05_GlassNarrows_r15_sg : segs k_law05_GlassNarrows_r15 = k_law05_GlassNarrows_r15s := by kernel_rfl
theorem k_law05_GlassNarrows_r15_st : statOK k_law05_GlassNarrows_r15 = true := by kernel_rfl
def k_law05_GlassNarrows_r16 : List AOper := [
  ⟨some 2, .move (.const (.bool false)), none, []⟩]
def k_law05_GlassNarrows_r17 : List AOper := [
  ⟨some 117, .move (.tmp 20), none, []⟩,
 ⟨some 118, .bin .plain .add (.tmp 117) (.const (.int .i64 1)), none, []⟩,
 ⟨some 20, .move (.tmp 118), none, []⟩]
def k_law05_GlassNarrows_r18 : ACode := (.seq (.seq (.reg k_law05_GlassNarrows_r14 false) (.cond (.tmp 116) .skip (.exit 0))) (.seq (.block 1 (.seq (.reg k_law05_GlassNarrows_r15 true) (.cond (.tmp 128) (.seq (.reg k_law05_GlassNarrows_r16 false) .ret) .skip))) (.reg k_law05_GlassNarrows_r17 false)))
def k_law05_GlassNarrows_r19 : List AOper := [
  ⟨some 130, .load (some (2)) (.tmp 4), none, []⟩,
 ⟨some 131, .move (.tmp 7), none, []⟩,
 ⟨some 132, .load (some (2)) (.tmp 6), none, []⟩,
 ⟨some 133, .move (.tmp 9), none, []⟩,
 ⟨some 134, .call (.const (.fn (.func 53) [] [])) [.tmp 130, .tmp 131, .tmp 132, .tmp 133], none, []⟩,
 ⟨some 129, .move (.tmp 134), none, []⟩,
 ⟨some 135, .extract (.tmp 129) 0, none, []⟩,
 ⟨some 136, .extract (.tmp 129) 1, none, []⟩,
 ⟨some 137, .extract (.tmp 129) 2, none, []⟩,
 ⟨some 21, .move (.tmp 135), none, []⟩,
 ⟨some 22, .move (.tmp 136), none, []⟩,
 ⟨some 13, .move (.tmp 137), none, []⟩]
def k_law05_GlassNarrows_r20 : List AOper := [
  ⟨some 139, .load (some (2)) (.tmp 10), none, []⟩,
 ⟨some 140, .move (.tmp 7), none, []⟩,
 ⟨some 141, .load (some (2)) (.tmp 6), none, []⟩,
 ⟨some 142, .move (.tmp 9), none, []⟩,
 ⟨some 143, .call (.const (.fn (.func 53) [] [])) [.tmp 139, .tmp 140, .tmp 141, .tmp 142], none, []⟩,
 ⟨some 138, .move (.tmp 143), none, []⟩,
 ⟨some 144, .extract (.tmp 138) 0, none, []⟩,
 ⟨some 145, .extract (.tmp 138) 1, none, []⟩,
 ⟨some 146, .extract (.tmp 138) 2, none, []⟩,
 ⟨some 23, .move (.tmp 144), none, []⟩,
 ⟨some 24, .move (.tmp 145), none, []⟩,
 ⟨some 15, .move (.tmp 146), none, []⟩]
def k_law05_GlassNarrows_r21 : List AOper := [
  ⟨some 148, .load (some (2)) (.tmp 4), none, []⟩,
 ⟨some 149, .load (some (2)) (.tmp 5), none, []⟩,
 ⟨some 150, .move (.tmp 8), none, []⟩,
 ⟨some 151, .call (.const (.fn (.func 45) [] [])) [.tmp 148, .tmp 149, .tmp 150, .const (.int .i64 300)], none, []⟩,
 ⟨some 147, .move (.tmp 151), none, []⟩,
 ⟨some 152, .extract (.tmp 147) 0, none, []⟩,
 ⟨some 153, .extract (.tmp 147) 1, none, []⟩,
 ⟨some 154, .extract (.tmp 147) 2, none, []⟩,
 ⟨some 25, .move (.tmp 152), none, []⟩,
 ⟨some 26, .move (.tmp 153), none, []⟩,
 ⟨some 17, .move (.tmp 154), none, []⟩]
def k_law05_GlassNarrows_r22 : List AOper := [
  ⟨some 156, .load (some (2)) (.tmp 10), none, []⟩,
 ⟨some 157, .load (some (2)) (.tmp 11), none, []⟩,
 ⟨some 158, .move (.tmp 8), none, []⟩,
 ⟨some 159, .call (.const (.fn (.func 45) [] [])) [.tmp 156, .tmp 157, .tmp 158, .const (.int .i64 300)], none, []⟩,
 ⟨some 155, .move (.tmp 159), none, []⟩,
 ⟨some 160, .extract (.tmp 155) 0, none, []⟩,
 ⟨some 161, .extract (.tmp 155) 1, none, []⟩,
 ⟨some 162, .extract (.tmp 155) 2, none, []⟩,
 ⟨some 27, .move (.tmp 160), none, []⟩,
 ⟨some 28, .move (.tmp 161), none, []⟩,
 ⟨some 19, .move (.tmp 162), none, []⟩]
def k_law05_GlassNarrows_r23 : List AOper := [
  ⟨some 163, .move (.tmp 13), none, []⟩,
 ⟨some 164, .bin .plain .eql (.tmp 163) (.const (.int .i64 0)), none, []⟩,
 ⟨some 165, .move (.tmp 164), none, []⟩,
 ⟨some 166, .move (.tmp 15), (some (165, true)), []⟩,
 ⟨some 167, .bin .plain .eql (.tmp 166) (.const (.int .i64 0)), (some (165, true)), []⟩,
 ⟨some 168, .pick (.tmp 165) (.tmp 167) (.const (.bool false)), none, []⟩,
 ⟨some 169, .move (.tmp 168), none, []⟩,
 ⟨some 170, .move (.tmp 17), (some (169, true)), []⟩,
 ⟨some 171, .bin .plain .eql (.tmp 170) (.const (.int .i64 0)), (some (169, true)), []⟩,
 ⟨some 172, .pick (.tmp 169) (.tmp 171) (.const (.bool false)), none, []⟩,
 ⟨some 173, .move (.tmp 172), none, []⟩,
 ⟨some 174, .move (.tmp 19), (some (173, true)), []⟩,
 ⟨some 175, .bin .plain .eql (.tmp 174) (.const (.int .i64 0)), (some (173, true)), []⟩,
 ⟨some 176, .pick (.tmp 173) (.tmp 175) (.const (.bool false)), none, []⟩,
 ⟨some 177, .move (.tmp 176), none, []⟩,
 ⟨some 178, .move (.tmp 21), (some (177, true)), []⟩,
 ⟨some 179, .move (.tmp 23), (some (177, true)), []⟩,
 ⟨some 180, .call (.const (.fn (.func 71) [] [])) [.tmp 178, .tmp 179], (some (177, true)), []⟩,
 ⟨some 181, .pick (.tmp 177) (.tmp 180) (.const (.bool false)), none, []⟩,
 ⟨some 182, .move (.tmp 181), none, []⟩,
 ⟨some 183, .move (.tmp 25), (some (182, true)), []⟩,
 ⟨some 184, .move (.tmp 27), (some (182, true)), []⟩,
 ⟨some 185, .call (.const (.fn (.func 71) [] [])) [.tmp 183, .tmp 184], (some (182, true)), []⟩,
 ⟨some 186, .pick (.tmp 182) (.tmp 185) (.const (.bool false)), none, []⟩,
 ⟨some 187, .move (.tmp 186), none, []⟩,
 ⟨some 188, .call (.const (.fn (.func 20) [] [])) [], (some (187, true)), []⟩,
 ⟨some 189, .pick (.tmp 187) (.tmp 188) (.const (.bool false)), none, []⟩,
 ⟨some 2, .move (.tmp 189), none, []⟩]
def k_law05_GlassNarrows : AFun := { params := 1, ntmps := 190, body := (.seq (.reg k_law05_GlassNarrows_r0 false) (.seq (.reg k_law05_GlassNarrows_r1 false) (.seq (.reg k_law05_GlassNarrows_r2 false) (.seq (.reg k_law05_GlassNarrows_r3 false) (.seq (.reg k_law05_GlassNarrows_r4 false) (.seq (.reg k_law05_GlassNarrows_r5 false) (.seq (.reg k_law05_GlassNarrows_r6 true) (.seq (.reg k_law05_GlassNarrows_r7 false) (.seq (.reg k_law05_GlassNarrows_r8 false) (.seq (.reg k_law05_GlassNarrows_r9 false) (.seq (.reg k_law05_GlassNarrows_r10 false) (.seq (.seq (.reg k_law05_GlassNarrows_r11 false) (.cond (.tmp 112) (.seq (.reg k_law05_GlassNarrows_r12 false) .ret) .skip)) (.seq (.seq (.reg k_law05_GlassNarrows_r13 false) (.block 0 (.loop k_law05_GlassNarrows_r18))) (.seq (.reg k_law05_GlassNarrows_r19 false) (.seq (.reg k_law05_GlassNarrows_r20 false) (.seq (.reg k_law05_GlassNarrows_r21 false) (.seq (.reg k_law05_GlassNarrows_r22 false) (.seq (.reg k_law05_GlassNarrows_r23 false) .ret)))))))))))))))))), res := [.tmp 2] }
theorem k_law05_GlassNarrows_ok : cfun Try.prog Try.f12 = k_law05_GlassNarrows := by kernel_rfl

def k_law05_narrower_r0 : List AOper := [
  ⟨some 3, .box (.tmp 1), none, []⟩,
 ⟨some 4, .box (.const (.agg [.int .i64 0, .nilsl])), none, []⟩]
def k_law05_narrower_r1 : List AOper := [
  ⟨some 8, .load (some (2)) (.tmp 3), none, []⟩,
 ⟨some 9, .call (.const (.fn (.func 27) [] [])) [.tmp 8], none, []⟩,
 ⟨some 5, .box (.const (.agg [.int .i64 0, .nilsl])), none, []⟩,
 ⟨none, .store 2 (.tmp 5) (.tmp 9), none, []⟩]
def k_law05_narrower_r2 : List AOper := [
  ⟨some 6, .move (.const (.int .i64 0)), none, []⟩]
def k_law05_narrower_r3 : List AOper := [
  ⟨some 10, .move (.tmp 6), none, []⟩,
 ⟨some 11, .fieldAddr 1 (.tmp 5), none, []⟩,
 ⟨some 12, .load none (.tmp 11), none, []⟩,
 ⟨some 13, .len false (.tmp 12), none, []⟩,
 ⟨some 14, .bin .plain .lss (.tmp 10) (.tmp 13), none, []⟩]
def k_law05_narrower_r4 : List AOper := [
  ⟨some 17, .fieldAddr 1 (.tmp 3), none, []⟩,
 ⟨some 18, .load none (.tmp 17), none, []⟩,
 ⟨some 19, .move (.tmp 6), none, []⟩,
 ⟨some 20, .indexAddr 5 (.tmp 18) (.tmp 19), none, []⟩,
 ⟨some 21, .load (some (5)) (.tmp 20), none, []⟩,
 ⟨some 7, .box (.const (.agg [.int .i64 0, .int .i64 0, .int .i64 0, .int .i64 0, .int .i64 0])), none, []⟩,
 ⟨none, .store 5 (.tmp 7) (.tmp 21), none, []⟩]
def k_law05_narrower_r5 : List AOper := [
  ⟨some 22, .fieldAddr 1 (.tmp 5), none, []⟩,
 ⟨some 23, .load none (.tmp 22), none, []⟩,
 ⟨some 24, .move (.tmp 6), none, [0, 1]⟩,
 ⟨some 25, .fieldAddr 0 (.tmp 7), none, [0, 1, 2]⟩,
 ⟨some 26, .load none (.tmp 25), none, [0, 1, 2]⟩,
 ⟨some 27, .move (.tmp 0), none, [0, 1, 2, 3, 4]⟩,
 ⟨some 28, .fieldAddr 1 (.tmp 7), none, [0, 1, 2, 3, 4, 5]⟩,
 ⟨some 29, .fieldAddr 0 (.tmp 28), none, [0, 1, 2, 3, 4, 5]⟩,
 ⟨some 30, .load none (.tmp 29), none, [0, 1, 2, 3, 4, 5]⟩,
 ⟨some 31, .fieldAddr 1 (.tmp 7), none, [0, 1, 2, 3, 4, 5, 6, 7, 8]⟩,
 ⟨some 32, .fieldAddr 1 (.tmp 31), none, [0, 1, 2, 3, 4, 5, 6, 7, 8]⟩,
 ⟨some 33, .load none (.tmp 32), none, [0, 1, 2, 3, 4, 5, 6, 7, 8]⟩,
 ⟨some 34, .call (.const (.fn (.func 73) [] [])) [.tmp 27, .tmp 30, .tmp 33], none, [0, 1, 2, 3, 4]⟩,
 ⟨some 35, .move (.tmp 0), none, [0, 1, 2, 3, 4, 5, 6, 7, 8, 9, 10, 11, 12]⟩,
 ⟨some 36, .fieldAddr 3 (.tmp 7), none, [0, 1, 2, 3, 4, 5, 6, 7, 8, 9, 10, 11, 12, 13]⟩,
 ⟨some 37, .fieldAddr 0 (.tmp 36), none, [0, 1, 2, 3, 4, 5, 6, 7, 8, 9, 10, 11, 12, 13]⟩,
 ⟨some 38, .load none (.tmp 37), none, [0, 1, 2, 3, 4, 5, 6, 7, 8, 9, 10, 11, 12, 13]⟩,
 ⟨some 39, .fieldAddr 3 (.tmp 7), none, [0, 1, 2, 3, 4, 5, 6, 7, 8, 9, 10, 11, 12, 13, 14, 15, 16]⟩,
 ⟨some 40, .fieldAddr 1 (.tmp 39), none, [0, 1, 2, 3, 4, 5, 6, 7, 8, 9, 10, 11, 12, 13, 14, 15, 16]⟩,
 ⟨some 41, .load none (.tmp 40), none, [0, 1, 2, 3, 4, 5, 6, 7, 8, 9, 10, 11, 12, 13, 14, 15, 16]⟩,
 ⟨some 42, .call (.const (.fn (.func 73) [] [])) [.tmp 35, .tmp 38, .tmp 41], none, [0, 1, 2, 3, 4]⟩,
 ⟨some 43, .build [.int .i64 0, .int .i64 0, .int .i64 0, .int .i64 0, .int .i64 0] [(0, 1, .tmp 26), (1, 2, .tmp 34), (3, 2, .tmp 42)], none, [0, 1, 2]⟩,
 ⟨some 44, .indexAddr 5 (.tmp 23) (.tmp 24), none, []⟩,
 ⟨none, .store 5 (.tmp 44) (.tmp 43), none, []⟩]
def k_law05_narrower_r5s : List (List AOper) := [
  [
  ⟨some 22, .fieldAddr 1 (.tmp 5), none, []⟩,
 ⟨some 23, .load none (.tmp 22), none, []⟩,
 ⟨some 24, .move (.tmp 6), none, [0, 1]⟩,
 ⟨some 25, .fieldAddr 0 (.tmp 7), none, [0, 1, 2]⟩,
 ⟨some 26, .load none (.tmp 25), none, [0, 1, 2]⟩,
 ⟨some 27, .move (.tmp 0), none, [0, 1, 2, 3, 4]⟩,
 ⟨some 28, .fieldAddr 1 (.tmp 7), none, [0, 1, 2, 3, 4, 5]⟩,
 ⟨some 29, .fieldAddr 0 (.tmp 28), none, [0, 1, 2, 3, 4, 5]⟩,
 ⟨some 30, .load none (.tmp 29), none, [0, 1, 2, 3, 4, 5]⟩,
 ⟨some 31, .fieldAddr 1 (.tmp 7), none, [0, 1, 2, 3, 4, 5, 6, 7, 8]⟩,
 ⟨some 32, .fieldAddr 1 (.tmp 31), none, [0, 1, 2, 3, 4, 5, 6, 7, 8]⟩,
 ⟨some 33, .load none (.tmp 32), none, [0, 1, 2, 3, 4, 5, 6, 7, 8]⟩,
 ⟨some 34, .call (.const (.fn (.func 73) [] [])) [.tmp 27, .tmp 30, .tmp 33], none, [0, 1, 2, 3, 4]⟩,
 ⟨some 35, .move (.tmp 0), none, [0, 1, 2, 3, 4, 5, 6, 7, 8, 9, 10, 11, 12]⟩,
 ⟨some 36, .fieldAddr 3 (.tmp 7), none, [0, 1, 2, 3, 4, 5, 6, 7, 8, 9, 10, 11, 12, 13]⟩,
 ⟨some 37, .fieldAddr 0 (.tmp 36), none, [0, 1, 2, 3, 4, 5, 6, 7, 8, 9, 10, 11, 12, 13]⟩,
 ⟨some 38, .load none (.tmp 37), none, [0, 1, 2, 3, 4, 5, 6, 7, 8, 9, 10, 11, 12, 13]⟩,
 ⟨some 39, .fieldAddr 3 (.tmp 7), none, [0, 1, 2, 3, 4, 5, 6, 7, 8, 9, 10, 11, 12, 13, 14, 15, 16]⟩,
 ⟨some 40, .fieldAddr 1 (.tmp 39), none, [0, 1, 2, 3, 4, 5, 6, 7, 8, 9, 10, 11, 12, 13, 14, 15, 16]⟩,
 ⟨some 41, .load none (.tmp 40), none, [0, 1, 2, 3, 4, 5, 6, 7, 8, 9, 10, 11, 12, 13, 14, 15, 16]⟩,
 ⟨some 42, .call (.const (.fn (.func 73) [] [])) [.tmp 35, .tmp 38, .tmp 41], none, [0, 1, 2, 3, 4]⟩,
 ⟨some 43, .build [.int .i64 0, .int .i64 0, .int .i64 0, .int .i64 0, .int .i64 0] [(0, 1, .tmp 26), (1, 2, .tmp 34), (3, 2, .tmp 42)], none, [0, 1, 2]⟩], 
  [
  ⟨some 44, .indexAddr 5 (.tmp 23) (.tmp 24), none, []⟩], 
  [
  ⟨none, .store 5 (.tmp 44) (.tmp 43), none, []⟩]]
theorem k_law05_narrower_r5_sg : segs k_law05_narrower_r5 = k_law05_narrower_r5s := by kernel_rfl
theorem k_law05_narrower_r5_st : statOK k_law05_narrower_r5 = true := by kernel_rfl
def k_law05_narrower_r6 : List AOper := [
  ⟨some 15, .move (.tmp 6), none, []⟩,
 ⟨some 16, .bin .plain .add (.tmp 15) (.const (.int .i64 1)), none, []⟩,
 ⟨some 6, .move (.tmp 16), none, []⟩]
def k_law05_narrower_r7 : ACode := (.seq (.seq (.reg k_law05_narrower_r3 false) (.cond (.tmp 14) .skip (.exit 0))) (.seq (.block 1 (.seq (.reg k_law05_narrower_r4 false) (.reg k_law05_narrower_r5 true))) (.reg k_law05_narrower_r6 false)))
def k_law05_narrower_r8 : List AOper := [
  ⟨some 45, .load (some (2)) (.tmp 5), none, []⟩,
 ⟨none, .store 2 (.tmp 4) (.tmp 45), none, []⟩]
def k_law05_narrower : AFun := { params := 2, ntmps := 46, body := (.seq (.reg k_law05_narrower_r0 false) (.seq (.reg k_law05_narrower_r1 false) (.seq (.seq (.reg k_law05_narrower_r2 false) (.block 0 (.loop k_law05_narrower_r7))) (.seq (.reg k_law05_narrower_r8 false) .ret)))), res := [.cell 4 (some ((some (2))))] }
theorem k_law05_narrower_ok : cfun Try.prog Try.f69 = k_law05_narrower := by kernel_rfl

def k_law05_stays_r0 : List AOper := [
  ⟨some 4, .move (.const (.bool false)), none, []⟩]
def k_law05_stays_r1 : List AOper := [
  ⟨some 5, .move (.tmp 0), none, []⟩,
 ⟨some 6, .bin .plain .eql (.tmp 5) (.const (.int .i64 3)), none, []⟩,
 ⟨some 7, .move (.tmp 6), none, []⟩,
 ⟨some 8, .move (.tmp 0), (some (7, false)), []⟩,
 ⟨some 9, .move (.tmp 1), (some (7, false)), []⟩,
 ⟨some 10, .bin .plain .eql (.tmp 8) (.tmp 9), (some (7, false)), []⟩,
 ⟨some 11, .pick (.tmp 7) (.const (.bool true)) (.tmp 10), none, []⟩,
 ⟨some 4, .move (.tmp 11), none, []⟩]
def k_law05_stays : AFun := { params := 2, ntmps := 12, body := (.seq (.reg k_law05_stays_r0 false) (.seq (.reg k_law05_stays_r1 false) .ret)), res := [.tmp 4] }
theorem k_law05_stays_ok : cfun Try.prog Try.f71 = k_law05_stays := by kernel_rfl

abbrev n_law05_GlassNarrows : Nat := 12
theorem e_law05_GlassNarrows : EntryOK Try.prog n_law05_GlassNarrows k_law05_GlassNarrows := ⟨Try.f12, Try.func12, k_law05_GlassNarrows_ok, by kernel_rfl⟩
abbrev n_law05_narrower : Nat := 69
theorem e_law05_narrower : EntryOK Try.prog n_law05_narrower k_law05_narrower := ⟨Try.f69, Try.func69, k_law05_narrower_ok, by kernel_rfl⟩
abbrev n_law05_stays : Nat := 71
theorem e_law05_stays : EntryOK Try.prog n_law05_stays k_law05_stays := ⟨Try.f71, Try.func71, k_law05_stays_ok, by kernel_rfl⟩
attribute [go_sem] k_law05_GlassNarrows_r0 k_law05_GlassNarrows_r1 k_law05_GlassNarrows_r2 k_law05_GlassNarrows_r3 k_law05_GlassNarrows_r4 k_law05_GlassNarrows_r5 k_law05_GlassNarrows_r6s k_law05_GlassNarrows_r7 k_law05_GlassNarrows_r8 k_law05_GlassNarrows_r9 k_law05_GlassNarrows_r10 k_law05_GlassNarrows_r11
attribute [go_sem] k_law05_GlassNarrows_r12 k_law05_GlassNarrows_r13 k_law05_GlassNarrows_r14 k_law05_GlassNarrows_r15s k_law05_GlassNarrows_r16 k_law05_GlassNarrows_r17 k_law05_GlassNarrows_r19 k_law05_GlassNarrows_r20 k_law05_GlassNarrows_r21 k_law05_GlassNarrows_r22 k_law05_GlassNarrows_r23
attribute [go_sem] k_law05_narrower_r0 k_law05_narrower_r1 k_law05_narrower_r2 k_law05_narrower_r3 k_law05_narrower_r4 k_law05_narrower_r5s k_law05_narrower_r6 k_law05_narrower_r8 k_law05_stays_r0 k_law05_stays_r1
attribute [go_sem] k_law05_narrower_r5_sg k_law05_GlassNarrows_r6_sg k_law05_GlassNarrows_r15_sg
attribute [go_sem] k_law05_narrower_r5_st k_law05_GlassNarrows_r6_st k_law05_GlassNarrows_r15_st k_law05_GlassNarrows k_law05_narrower
attribute [go_sem] k_law05_stays
end Go.Proofs

namespace Go.Proofs
open Go Go.Sx
attribute [local irreducible] Run

theorem tBreaks_run (a b c : Int) : Ans Try.prog n_glass_strained_surelyBreaks [m3 a b c] [] (.bool (decide (a > c))) [] := by
  refine spec_run e_glass_strained_surelyBreaks fun G => ?_
  by_cases h1 : a > c
  · simp [go_sem, m3, h1]
  · simp [go_sem, m3, h1]
theorem tHolds_run (a b c : Int) : Ans Try.prog n_glass_strained_surelyHolds [m3 a b c] [] (.bool (decide (b ≤ c))) [] := by
  refine spec_run e_glass_strained_surelyHolds fun G => ?_
  by_cases h1 : b ≤ c
  · simp [go_sem, m3, h1]
  · simp [go_sem, m3, h1]

def gV (hol : Nat → Bool) (num : Nat → Int) : Nat → Int × Int
  | 0 => (1, 0)
  | k + 1 => if (gV hol num k).1 = 1 ∧ hol k = false then (3, num k) else gV hol num k
def gFrom (brk hol : Nat → Bool) (num : Nat → Int) : Nat → Nat → Int × Int
  | 0, k => gV hol num k
  | n + 1, k => if brk k = true then (2, num k) else gFrom brk hol num n (k + 1)
section
variable {brk hol : Nat → Bool} {num : Nat → Int}
theorem gFrom_at : ∀ (k n m : Nat), (∀ i, m ≤ i → i < m + k → brk i = false) → gFrom brk hol num (n + k) m = gFrom brk hol num n (m + k)
  | 0, _, _, _ => rfl
  | k + 1, n, m, h => by
    have h1 := h m (Nat.le_refl _) (by omega)
    show (if brk m = true then _ else gFrom brk hol num (n + k) (m + 1)) = _
    rw [if_neg (by rw [h1]; simp), gFrom_at k n (m + 1) fun i h2 h3 => h i (by omega) (by omega)]
    congr 1; omega
theorem gV_one : ∀ k : Nat, ((gV hol num k).1 = 1 → ∀ i, i < k → hol i = true) ∧ (gV hol num k).1 ≠ 2 ∧ ((∀ i, i < k → hol i = true) → gV hol num k = (1, 0))
  | 0 => ⟨fun _ i hi => by omega, by show (1 : Int) ≠ 2; decide, fun _ => rfl⟩
  | k + 1 => by
    obtain ⟨h1, h2, h3⟩ := gV_one k
    rw [gV]
    by_cases c : (gV hol num k).1 = 1 ∧ hol k = false
    · rw [if_pos c]
      exact ⟨fun h => by simp at h, by simp, fun h => by rw [h k (by omega)] at c; simp at c⟩
    · rw [if_neg c]
      refine ⟨fun h i hi => ?_, h2, fun h => h3 fun i hi => h i (by omega)⟩
      by_cases e : i = k
      · subst e
        cases hh : hol i with
        | true => rfl
        | false => exact absurd ⟨h, hh⟩ c
      · exact h1 h i (by omega)
theorem gFrom_one : ∀ n k : Nat, (gFrom brk hol num n k).1 = 1 → ∀ i, i < k + n → hol i = true
  | 0, k, h, i, hi => (gV_one k).1 h i (by omega)
  | n + 1, k, h, i, hi => by
    rw [gFrom] at h
    by_cases c : brk k = true
    · rw [if_pos c] at h; simp at h
    · rw [if_neg c] at h
      exact gFrom_one n (k + 1) h i (by omega)
theorem gFrom_two : ∀ n k : Nat, (gFrom brk hol num n k).1 = 2 → ∃ i, k ≤ i ∧ i < k + n ∧ (gFrom brk hol num n k).2 = num i ∧ brk i = true
  | 0, k, h => absurd h (gV_one k).2.1
  | n + 1, k, h => by
    rw [gFrom] at h ⊢
    by_cases c : brk k = true
    · rw [if_pos c]
      exact ⟨k, Nat.le_refl _, by omega, rfl, c⟩
    · rw [if_neg c] at h ⊢
      obtain ⟨i, a1, a2, a3, a4⟩ := gFrom_two n (k + 1) h
      exact ⟨i, by omega, by omega, a3, a4⟩
theorem gFrom_is_one : ∀ n k : Nat, (∀ i, i < k + n → hol i = true ∧ brk i = false) → gFrom brk hol num n k = (1, 0)
  | 0, k, h => (gV_one k).2.2 fun i hi => (h i (by omega)).1
  | n + 1, k, h => by
    rw [gFrom, if_neg (by rw [(h k (by omega)).2]; simp)]
    exact gFrom_is_one n (k + 1) fun i hi => h i (by omega)
theorem gFrom_is_two : ∀ n k i : Nat, k ≤ i → i < k + n → brk i = true → (gFrom brk hol num n k).1 = 2
  | 0, k, i, h1, h2, _ => by omega
  | n + 1, k, i, h1, h2, h3 => by
    rw [gFrom]
    by_cases c : brk k = true
    · rw [if_pos c]
    · rw [if_neg c]
      exact gFrom_is_two n (k + 1) i (by
        rcases Nat.lt_or_ge k i with h | h
        · exact h
        · have : i = k := by omega
          subst this; exact absurd h3 c) (by omega) h3
end
def brkS (brk : Int) (zs : List Zn) (th f left : Int) (ls : List Lg) (i : Nat) : Bool := decide ((stAt zs th (allT 0 f ls) (i + 1)).1 > limA brk left (allT 0 f ls).length i)
def holS (brk : Int) (zs : List Zn) (th f left : Int) (ls : List Lg) (i : Nat) : Bool := decide ((stAt zs th (allT 0 f ls) (i + 1)).2 ≤ limA brk left (allT 0 f ls).length i)
def numS (i : Nat) : Int := ((i + 1 : Nat) : Int)
def judR (brk : Int) (zs : List Zn) (th f left : Int) (ls : List Lg) : Int × Int := gFrom (brkS brk zs th f left ls) (holS brk zs th f left ls) numS (allT 0 f ls).length 0

def jsT : List (Nat × AVal) := [(2, .ptr 3 0 0 1), (3, .ptr 4 0 0 1), (6, .fn (.func n_glass_wall_limited_1) [] [.ptr 1 0 0 1, .ptr 0 0 0 1, .ptr 2 0 0 1])]
def jsL (st : LoopState) (pe : Option ACode) : Row := .loop (tsets 24 jsT) [7, 8] k_glass_judge_glass_strained_r9 k_glass_judge_glass_strained_r10 5 st pe
def jsR (brk : Int) (zs : List Zn) (th f left : Int) (ls : List Lg) : Heap := [some (.cells false 3 [wlV brk zs th]), some (.cells false 2 [ovV f ls]), some (.cells false 1 [.int .i64 left])]
def jsH (brk : Int) (zs : List Zn) (th f left : Int) (ls : List Lg) (va : Int × Int) (x : Row) (X : Heap) : Heap :=
  [some (.cells false 3 [wlV brk zs th]), some (.cells false 2 [ovV f ls]), some (.cells false 1 [.int .i64 left]), some (.cells false 1 [.int .i64 va.1]), some (.cells false 1 [.int .i64 va.2]), some .dfr, some x] ++ X

set_option maxHeartbeats 8000000 in
set_option maxRecDepth 10000 in
theorem judgeS_run {brk : Int} {zs : List Zn} (hz : ZsOK zs) {th : Int} (hth : 1 ≤ th ∧ th ≤ 1000) {f left : Int} {ls : List Lg} (ho : OvOK f ls) :
    Ans Try.prog n_glass_judge_glass_strained [.fn (.func n_glass_wall_limited_1) [] [.ptr 1 0 0 1, .ptr 0 0 0 1, .ptr 2 0 0 1]] (jsR brk zs th f left ls)
      (.tup [.int .i64 (judR brk zs th f left ls).1, .int .i64 (judR brk zs th f left ls).2]) (jsR brk zs th f left ls) := by
  unfold judR
  obtain ⟨BK, hBK⟩ : ∃ B, brkS brk zs th f left ls = B := ⟨_, rfl⟩
  obtain ⟨HO, hHO⟩ : ∃ B, holS brk zs th f left ls = B := ⟨_, rfl⟩
  have eb : ∀ i, BK i = decide ((stAt zs th (allT 0 f ls) (i + 1)).1 > limA brk left (allT 0 f ls).length i) := fun i => by rw [← hBK]; rfl
  have eh : ∀ i, HO i = decide ((stAt zs th (allT 0 f ls) (i + 1)).2 ≤ limA brk left (allT 0 f ls).length i) := fun i => by rw [← hHO]; rfl
  rw [hBK, hHO]
  clear hBK hHO
  obtain ⟨n, hn⟩ : ∃ n : Nat, (allT 0 f ls).length = n := ⟨_, rfl⟩
  have row0 : ∀ (S : Nat → Prop) (i : Nat) (x : Row), (jsR brk zs th f left ls)[i]? = some (some x) → x.bel S := by
    intro S i x hx
    rcases i with _ | _ | _ | i
    · cases hx; rw [row_bel_cells]; simp only [go_sem, wlV]
    · cases hx; rw [row_bel_cells]; simp only [go_sem, ovV]
    · cases hx; rw [row_bel_cells]; simp only [go_sem]
    · simp [jsR] at hx
  refine Ans.keep (run_fn e_glass_judge_glass_strained fun G => ?_) (by simp [jsR]) (by simp [go_sem]) ⟨row0 _ 0 _ rfl, row0 _ 1 _ rfl, row0 _ 2 _ rfl, trivial⟩
  have hkept : ∀ (va : Int × Int) (H' : Heap), va = gFrom BK HO numS n 0 → (∀ (i : Nat) (x : Row), (jsR brk zs th f left ls)[i]? = some (some x) → H'[i]? = some (some x)) → ∃ σ, Kept (jsR brk zs th f left ls) (jsR brk zs th f left ls) (.tup [.int .i64 (gFrom BK HO numS n 0).1, .int .i64 (gFrom BK HO numS n 0).2]) (.tup [.int .i64 va.1, .int .i64 va.2]) H' σ := fun va H' e h => by
    subst e
    exact kept_id rfl (by simp only [go_sem]) fun i x hx => ⟨row0 _ i x hx, h i x hx⟩
  have hgen : ∀ k, k ≤ n → (∀ i, i < k → BK i = false) → gFrom BK HO numS n 0 = gFrom BK HO numS (n - k) k := fun k hk h => by
    have := gFrom_at (brk := BK) (hol := HO) (num := numS) k (n - k) 0 fun i _ hi => h i (by omega)
    rw [Nat.zero_add] at this
    rw [← this]; congr 1; omega
  simp only [jsR, wlV, ovV] at hkept
  rw [hn]
  simp only [go_sem, jsR, wlV, ovV]
  refine rangeF 2000 (ρ := tsets 24 jsT) (by simp [go_sem, jsT]) (by simp only [go_sem, jsT]; rfl)
    (limited_iter (r := 6) (jo := 1) (jw := 0) (jl := 2) (N := 7) (brk := brk) hz hth (left := left) ho
      (Pre := fun k H => (∀ i, i < k → BK i = false) ∧ ∃ X, H = jsH brk zs th f left ls (gV HO numS k) (jsL .ready none) X)
      (Stop := fun H => ∃ k X, k < n ∧ BK k = true ∧ (∀ i, i < k → BK i = false) ∧ H = jsH brk zs th f left ls (2, numS k) (jsL .done (some .ret)) X)
      ⟨?_, ?_, ?_, ?_, ?_⟩ ⟨fun i h => absurd h (by omega), [], rfl⟩) (by simp) ?_
  · rintro i H ⟨_, X, rfl⟩
    exact ⟨by simp [jsH], rfl, rfl, rfl⟩
  · rintro i H x ⟨h, X, rfl⟩
    exact ⟨h, X ++ [x], by simp [jsH]⟩
  · rintro i H q x hq ⟨h, X, rfl⟩
    refine ⟨h, X.set (q - 7) x, ?_⟩
    unfold jsH
    rw [List.set_append_right _ _ (by simp; omega)]; rfl
  · rintro H q x hq ⟨k, X, a1, a2, a3, rfl⟩
    refine ⟨k, X.set (q - 7) x, a1, a2, a3, ?_⟩
    unfold jsH
    rw [List.set_append_right _ _ (by simp; omega)]; rfl
  · rintro k H hk ⟨hnb, X, rfl⟩
    have ev : gV HO numS (k + 1) = if (gV HO numS k).1 = 1 ∧ HO k = false then (3, numS k) else gV HO numS k := rfl
    have hnb' : BK k = false → ∀ i, i < k + 1 → BK i = false := fun h i hi => by
      by_cases e : i = k
      · rw [e]; exact h
      · exact hnb i (by omega)
    have kb := tBreaks_run (stAt zs th (allT 0 f ls) (k + 1)).1 (stAt zs th (allT 0 f ls) (k + 1)).2 (limA brk left (allT 0 f ls).length k)
    have kh := tHolds_run (stAt zs th (allT 0 f ls) (k + 1)).1 (stAt zs th (allT 0 f ls) (k + 1)).2 (limA brk left (allT 0 f ls).length k)
    rw [← eb] at kb
    rw [← eh] at kh
    rw [hn] at hk
    obtain ⟨p, hp⟩ : ∃ p, stAt zs th (allT 0 f ls) (k + 1) = p := ⟨_, rfl⟩
    obtain ⟨lim, hlim⟩ : ∃ p, limA brk left (allT 0 f ls).length k = p := ⟨_, rfl⟩
    rw [hp, hlim] at kb kh
    rw [hp, hlim]
    obtain ⟨lo, hv⟩ := p
    dsimp only at kb kh ⊢
    generalize hbk : BK k = bk at *
    generalize hhk : HO k = hk2 at *
    rw [ev]
    have en : numS k = ((k + 1 : Nat) : Int) := rfl
    rw [en]
    generalize gV HO numS k = va at *
    obtain ⟨ve, ae⟩ := va
    have ht1 : tabAt [(121, 167), (136, 169)] 136 = some 169 := rfl
    have ht2 : tabAt [(121, 168), (136, 170)] 136 = some 170 := rfl
    simp only [m3] at kb kh ⊢
    cases bk with
    | true =>
      refine RoundW.mono (R := fun w H' => w = .bool false ∧ ∃ Y, H' = jsH brk zs th f left ls (2, ((k + 1 : Nat) : Int)) (jsL .done (some .ret)) (X ++ Y)) ?_ ?_
      rotate_left
      · rintro w H' ⟨rfl, Y, rfl⟩
        exact ⟨tail_keep rfl rfl, .inr ⟨rfl, k, _, hk, hbk, hnb, rfl⟩⟩
      generalize hR : (fun (w : AVal) (H' : Heap) => w = .bool false ∧ ∃ Y, H' = jsH brk zs th f left ls (2, ((k + 1 : Nat) : Int)) (jsL .done (some .ret)) (X ++ Y)) = R
      have hfin : ∀ Y, R (.bool false) (jsH brk zs th f left ls (2, ((k + 1 : Nat) : Int)) (jsL .done (some .ret)) (X ++ Y)) := fun Y => by rw [← hR]; exact ⟨rfl, Y, rfl⟩
      clear hR
      refine roundW_run 500 k_glass_judge_glass_strained_r9.eq_1 rfl rfl (ρ' := tsets 24 (jsT ++ [(7, .int .i64 ((k + 1 : Nat) : Int)), (8, .agg [.int .i64 lo, .int .i64 hv, .int .i64 lim])])) rfl ?_
      simp only [go_sem, jsT, jsH, wlV, ovV]
      refine roundMid_run 500 k_glass_judge_glass_strained_r10.eq_1 rfl rfl ?_
      simp only [go_sem, ht1]
      refine cP kb ?_
      simp only [go_sem]
      refine roundEnd_ret rfl ?_
      simp only [go_sem]
      simp only [jsH, jsL, jsT, wlV, ovV] at hfin
      exact hfin [_]
    | false =>
      refine RoundW.mono (R := fun w H' => w = .bool true ∧ ∃ Y, H' = jsH brk zs th f left ls (if ve = 1 ∧ hk2 = false then (3, ((k + 1 : Nat) : Int)) else (ve, ae)) (jsL .ready none) (X ++ Y)) ?_ ?_
      rotate_left
      · rintro w H' ⟨rfl, Y, rfl⟩
        exact ⟨tail_keep rfl rfl, .inl ⟨rfl, hnb' rfl, _, rfl⟩⟩
      generalize hR : (fun (w : AVal) (H' : Heap) => w = .bool true ∧ ∃ Y, H' = jsH brk zs th f left ls (if ve = 1 ∧ hk2 = false then (3, ((k + 1 : Nat) : Int)) else (ve, ae)) (jsL .ready none) (X ++ Y)) = R
      have hfin : ∀ Y, R (.bool true) (jsH brk zs th f left ls (if ve = 1 ∧ hk2 = false then (3, ((k + 1 : Nat) : Int)) else (ve, ae)) (jsL .ready none) (X ++ Y)) := fun Y => by rw [← hR]; exact ⟨rfl, Y, rfl⟩
      clear hR
      refine roundW_run 500 k_glass_judge_glass_strained_r9.eq_1 rfl rfl (ρ' := tsets 24 (jsT ++ [(7, .int .i64 ((k + 1 : Nat) : Int)), (8, .agg [.int .i64 lo, .int .i64 hv, .int .i64 lim])])) rfl ?_
      simp only [go_sem, jsT, jsH, wlV, ovV]
      refine roundMid_run 500 k_glass_judge_glass_strained_r10.eq_1 rfl rfl ?_
      simp only [go_sem, ht1]
      refine cP kb ?_
      by_cases hv1 : ve = 1
      · subst hv1
        have e1 : ((1 : Int) == 1) = true := rfl
        simp only [go_sem, e1, ht2]
        refine cP kh ?_
        cases hk2 with
        | true =>
          simp only [go_sem]
          refine roundEnd_on rfl ?_
          simp only [go_sem]
          simp only [jsH, jsL, jsT, wlV, ovV, Bool.true_eq_false, and_false, if_false] at hfin
          exact hfin [_]
        | false =>
          simp only [go_sem]
          refine roundEnd_on rfl ?_
          simp only [go_sem]
          simp only [jsH, jsL, jsT, wlV, ovV, and_self, if_true] at hfin
          exact hfin [_]
      · have e1 : (ve == 1) = false := beq_eq_false_iff_ne.2 hv1
        simp only [go_sem, e1]
        refine roundEnd_on rfl ?_
        simp only [go_sem]
        simp only [jsH, jsL, jsT, wlV, ovV, hv1, false_and, if_false] at hfin
        exact hfin [_]
  · rintro v H' ⟨rfl, ⟨hnb, X, rfl⟩ | ⟨k, X, a1, a2, a3, rfl⟩⟩
    · rw [hn] at hnb ⊢
      have hres := hgen n (Nat.le_refl _) hnb
      rw [Nat.sub_self] at hres
      have hK := fun H' => hkept (gV HO numS n) H' hres.symm
      refine ⟨fun q hq => by simp at hq; subst hq; rfl, _, _, _, _, _, _, _, rfl, by decide, ?_⟩
      generalize gV HO numS n = va at *
      simp only [go_sem, jsH, jsT, wlV, ovV]
      exact ⟨by simp, hK _ fun i x hx => by
        rcases i with _ | _ | _ | i
        · exact hx
        · exact hx
        · exact hx
        · simp at hx⟩
    · have hres := hgen k (by omega) a3
      have e9 : gFrom BK HO numS ((n - k - 1) + 1) k = (2, numS k) := by
        show (if BK k = true then _ else _) = _
        rw [if_pos a2]
      rw [show n - k = (n - k - 1) + 1 by omega, e9] at hres
      have hK := fun H' => hkept (2, numS k) H' hres.symm
      refine ⟨fun q hq => by simp at hq; subst hq; rfl, _, _, _, _, _, _, _, rfl, by decide, ?_⟩
      simp only [go_sem, jsH, jsT, wlV, ovV]
      exact ⟨by simp, hK _ fun i x hx => by
        rcases i with _ | _ | _ | i
        · exact hx
        · exact hx
        · exact hx
        · simp at hx⟩

section
variable {P : Program} {G : Ctx} {g : FuncId} {args largs : List AVal} {H : Heap} {r : AVal} {k : Nat} {R : Runner} {l : List AOper} {fs : List Sx.Frame} {ρ : List AVal} {ms : List Nat} {Q : Sx.Goal} {dst : Option Nat}
theorem cSame3 {x0 x1 x2 : Row} {j0 j1 j2 : Nat} (h : Ans P g largs [some x0, some x1, some x2] r [some x0, some x1, some x2]) (hargs : args = largs.map (ren (nth [j0, j1, j2]))) (hb : Bels (· < 3) largs)
    (h0 : H[j0]? = some (some x0)) (h1 : H[j1]? = some (some x1)) (h2 : H[j2]? = some (some x2)) (hx0 : x0.bel (fun _ => False)) (hx1 : x1.bel (fun _ => False)) (hx2 : x2.bel (fun _ => False)) (hn : [j0, j1, j2].Nodup) (hr : Bel (fun _ => False) r)
    (hk : k ≤ H.length) (hms : ∀ q ∈ ms, q ∉ [j0, j1, j2] ∧ H[q]? = some (some .dfr))
    (hK : R (.ops l) fs ⟨setD ρ dst r, H, ms⟩ Q) : CallR P G k R g args dst l fs ρ H ms Q := by
  have l0 := (List.getElem?_eq_some_iff.1 h0).1
  have l1 := (List.getElem?_eq_some_iff.1 h1).1
  have l2 := (List.getElem?_eq_some_iff.1 h2).1
  have e : outΔ (outσ [j0, j1, j2] H.length) 0 [some x0, some x1, some x2] = [(j0, x0), (j1, x1), (j2, x2)] := by
    simp only [outΔ, Row.ren_same hx0, Row.ren_same hx1, Row.ren_same hx2]
    rfl
  refine callS h [j0, j1, j2] hn ⟨by rw [Row.ren_same hx0]; exact h0, by rw [Row.ren_same hx1]; exact h1, by rw [Row.ren_same hx2]; exact h2, trivial⟩ hargs hb
    ⟨bel_mono_row hx0 fun _ h => h.elim, bel_mono_row hx1 fun _ h => h.elim, bel_mono_row hx2 fun _ h => h.elim, trivial⟩ (by simp) (hr.mono fun _ h => h.elim)
    ⟨bel_mono_row hx0 fun _ h => h.elim, bel_mono_row hx1 fun _ h => h.elim, bel_mono_row hx2 fun _ h => h.elim, trivial⟩ (by simp; omega) hk (fun q hq => ?_) ?_
  · rw [e]; exact ⟨by simpa using (hms q hq).1, (hms q hq).2⟩
  · rw [e, ren_same hr]
    simp only [Heap.puts, put_id h0, put_id h1, put_id h2]
    exact hK
end
theorem limited_run (brk : Int) (zs : List Zn) (th f left : Int) (ls : List Lg) : Ans Try.prog n_glass_wall_limited [wlV brk zs th, ovV f ls, .int .i64 left] [] (.fn (.func n_glass_wall_limited_1) [] [.ptr 1 0 0 1, .ptr 0 0 0 1, .ptr 2 0 0 1]) (jsR brk zs th f left ls) := by
  refine spec_run e_glass_wall_limited fun G => ?_
  simp only [go_sem, ovV, wlV, jsR]
  exact ⟨_, rfl⟩
theorem isStrainT {n : Int} (h : 0 ≤ n ∧ n ≤ capS) : Ans Try.prog n_glass_isStrain [.int .i64 n] [] (.bool true) [] := by
  refine spec_run e_glass_isStrain fun G => ?_
  simp only [go_sem]
  refine cP (gwithin_yes (n := n) (a := 0) (b := 1099511627776) h) ?_
  simp only [go_sem]
theorem Judge_run {brk : Int} {zs : List Zn} (h : StOK brk zs) {th : Int} (hth : 1 ≤ th ∧ th ≤ 1000) {f left : Int} {ls : List Lg} (ho : OvOK f ls) (hl : 0 ≤ left ∧ left ≤ capS) :
    Ans Try.prog n_glass_Judge [stV brk zs, .int .i64 th, ovV f ls, .int .i64 left] [] (.tup [.int .i64 (judR brk zs th f left ls).1, .int .i64 (judR brk zs th f left ls).2, .int .i64 0]) [] := by
  have k1 := checkHeated_yes h hth ho
  have k2 := limited_run brk zs th f left ls
  have k3 := judgeS_run (brk := brk) h.zs hth (left := left) ho
  have k4 := isStrainT hl
  generalize judR brk zs th f left ls = RES at *
  refine spec_run e_glass_Judge fun G => ?_
  simp only [jsR, wlV, ovV] at k1 k2 k3
  simp only [go_sem, stV, ovV]
  refine cP k1 ?_
  simp only [go_sem]
  refine cP k4 ?_
  simp only [go_sem]
  have rb : ∀ (S : Nat → Prop) b t, (Row.cells false 3 [AVal.agg [AVal.int IntKind.i64 b, AVal.view (List.map Zn.v zs), AVal.int IntKind.i64 t]]).bel S := fun S b t => by rw [row_bel_cells]; simp only [go_sem]
  have ob : ∀ (S : Nat → Prop) b, (Row.cells false 2 [AVal.agg [AVal.int IntKind.i64 b, AVal.view (List.map Lg.v ls)]]).bel S := fun S b => by rw [row_bel_cells]; simp only [go_sem]
  have ib : ∀ (S : Nat → Prop) b, (Row.cells false 1 [AVal.int IntKind.i64 b]).bel S := fun S b => by rw [row_bel_cells]; simp only [go_sem]
  refine cN3 k2 ?_
  simp only [go_sem, ren, rens]
  refine cSame3 k3 (j0 := 3) (j1 := 4) (j2 := 5) rfl (by simp [go_sem]) rfl rfl rfl (rb _ _ _) (ob _ _) (ib _ _) (by decide) (by simp only [go_sem]) (by simp) (by simp) ?_
  simp only [go_sem]
end Go.Proofs

namespace Go.Proofs
open Go Go.Sx
attribute [local irreducible] Run

theorem ediv_step (a d c : Int) : (a + c + d * 1000000) / 1000000 = (a + c) / 1000000 + d := Int.add_mul_ediv_right _ _ (by decide)
theorem left_mono {x y q q' c : Int} (h0 : 0 ≤ x) (h : x ≤ y) (hq : 0 ≤ q' ∧ q' ≤ q ∧ q ≤ 1000000) : x - (x * q + c) / 1000000 ≤ y - (y * q' + c) / 1000000 := by
  have h1 : y * q' ≤ y * q := Int.mul_le_mul_of_nonneg_left hq.2.1 (by omega)
  have h2 : (y - x) * q ≤ (y - x) * 1000000 := Int.mul_le_mul_of_nonneg_left hq.2.2 (by omega)
  have h3 : y * q = x * q + (y - x) * q := by rw [Int.sub_mul]; omega
  have h4 : (y * q' + c) / 1000000 ≤ (x * q + c + (y - x) * 1000000) / 1000000 := Int.ediv_le_ediv (by decide) (by omega)
  rw [ediv_step] at h4
  omega
theorem leastL_mono2 {x y : Int} {z z' : Zn} (hz : ZnOK z) (hr : 0 ≤ z'.rhi ∧ z'.rhi ≤ z.rhi) (h0 : 0 ≤ x) (h : x ≤ y) : leastL x z ≤ leastL y z' := by
  have := hz.r
  exact left_mono h0 h ⟨hr.1, hr.2, by omega⟩
theorem mostL_mono2 {x y : Int} {z z' : Zn} (hz : ZnOK z) (hr : 0 ≤ z'.rlo ∧ z'.rlo ≤ z.rlo) (h0 : 0 ≤ x) (h : x ≤ y) : mostL x z ≤ mostL y z' := by
  have := hz.r
  have := left_mono (c := 0) h0 h ⟨hr.1, hr.2, by omega⟩
  unfold mostL
  rw [Int.add_zero, Int.add_zero] at this
  exact this
theorem least_most2 {x : Int} {z : Zn} (hz : ZnOK z) (h0 : 0 ≤ x) : leastL x z ≤ mostL x z := by
  have hr := hz.r
  have h1 : x * z.rlo ≤ x * z.rhi := Int.mul_le_mul_of_nonneg_left hr.2.1 h0
  unfold leastL mostL; omega
theorem add_low_high {t : Tk} (ht : TkOK t) {z : Zn} (hz : ZnOK z) {th : Int} (hth : 1 ≤ th ∧ th ≤ 1000) : addL t z th ≤ addH t z th := by
  have hp := pull_in ht hth
  have hg := hz.g
  have := Int.mul_le_mul_of_nonneg_left hg.2.1 hp.1
  unfold addL addH; omega
theorem addL_mono {t : Tk} (ht : TkOK t) {z z' : Zn} (hz : ZnOK z) (hg' : z.glo ≤ z'.glo) {th th' : Int} (hth : 1 ≤ th ∧ th ≤ th') : addL t z th ≤ addL t z' th' := by
  have h1 := ht.f
  have h2 := ht.t
  have hg := hz.g
  unfold addL
  have h0 : 0 ≤ max (t.f - t.t) (t.t - t.f) := by omega
  generalize max (t.f - t.t) (t.t - t.f) = m at *
  have a1 := Int.mul_le_mul_of_nonneg_left hth.2 h0
  have a2 := Int.mul_nonneg h0 (show 0 ≤ th by omega)
  have a3 := Int.mul_le_mul_of_nonneg_left hg' a2
  have a4 := Int.mul_le_mul_of_nonneg_right a1 (show 0 ≤ z'.glo by omega)
  omega
theorem addH_mono {t : Tk} (ht : TkOK t) {z z' : Zn} (hz : 0 ≤ z.ghi) (hg' : z.ghi ≤ z'.ghi) {th th' : Int} (hth : 1 ≤ th ∧ th ≤ th') : addH t z th ≤ addH t z' th' := by
  have h1 := ht.f
  have h2 := ht.t
  unfold addH
  have h0 : 0 ≤ max (t.f - t.t) (t.t - t.f) := by omega
  generalize max (t.f - t.t) (t.t - t.f) = m at *
  have a1 := Int.mul_le_mul_of_nonneg_left hth.2 h0
  have a2 := Int.mul_nonneg h0 (show 0 ≤ th by omega)
  have a3 := Int.mul_le_mul_of_nonneg_left hg' a2
  have a4 := Int.mul_le_mul_of_nonneg_right a1 (show 0 ≤ z'.ghi by omega)
  omega
theorem stAt_none {zs : List Zn} {th : Int} {ts : List Tk} {i : Nat} (h : ts[i]? = none) : stAt zs th ts (i + 1) = stAt zs th ts i := by
  unfold stAt
  rw [List.take_add_one, h]; simp
theorem stAt_zero (zs : List Zn) (th : Int) (ts : List Tk) : stAt zs th ts 0 = (0, 0) := by simp [stAt]
theorem st_le {zs : List Zn} (hz : ZsOK zs) {th : Int} (hth : 1 ≤ th ∧ th ≤ 1000) {ts : List Tk} (h : ∀ t ∈ ts, TkOK t) : ∀ i, (stAt zs th ts i).1 ≤ (stAt zs th ts i).2
  | 0 => by rw [stAt_zero]; exact Int.le_refl _
  | i + 1 => by
    have ih := st_le hz hth h i
    cases ht : ts[i]? with
    | none => rw [stAt_none ht]; exact ih
    | some t =>
      have hto := h t (List.mem_of_getElem? ht)
      have hzo := zAt_ok hz t.t
      have hb := stAt_in hz hth h i
      rw [stAt_succ ht]
      have a1 := add_low_high hto hzo hth
      have a2 := least_most2 hzo hb.1
      have a3 := mostL_mono2 (z' := zAt zs t.t) hzo ⟨by have := hzo.r; omega, Int.le_refl _⟩ hb.1 ih
      unfold stepS; dsimp only; omega
theorem allT_split : ∀ (ls : List Lg) (n b : Int) (i : Nat), i ≤ ls.length → allT n b ls = allT n b (ls.take i) ++ allT (n + i) (begAt b ls i) (ls.drop i)
  | ls, n, b, 0, _ => by simp [allT, begAt]
  | [], n, b, i + 1, h => by simp at h
  | x :: r, n, b, i + 1, h => by
    have := allT_split r (n + 1) x.ht i (by simpa using h)
    rw [List.take_succ_cons, List.drop_succ_cons, allT, allT, this, List.append_assoc]
    congr 3
    · push_cast; omega
    · cases i with
      | zero => rfl
      | succ i => simp [begAt]
theorem leg_after {f : Int} {ls : List Lg} {j k : Nat} {t : Tk} (hj : j < ls.length) (hk : (allT 0 f (ls.take (j + 1))).length ≤ k) (ht : (allT 0 f ls)[k]? = some t) : (j : Int) < t.n := by
  rw [allT_split ls 0 f (j + 1) (by omega), List.getElem?_append_right hk] at ht
  have := (allT_n t (List.mem_of_getElem? ht)).1
  push_cast at this; omega
theorem aftS_at {zs : List Zn} {th f : Int} {ls : List Lg} (hok : ∀ l ∈ ls, LgOK l) {j : Nat} (hj : j < ls.length) : ∀ k, (allT 0 f (ls.take (j + 1))).length + k ≤ (allT 0 f ls).length → (aftS zs th (allT 0 f ls) ls.length ((allT 0 f (ls.take (j + 1))).length + k))[j]? = some (legS zs th f ls j)
  | 0, h => by
    obtain ⟨z, hz⟩ : ∃ z, ls[j]? = some z := ⟨_, List.getElem?_eq_getElem hj⟩
    have hzt := (hok z (List.mem_of_getElem? hz)).tk
    have hl := allT_len (n := 0) (b := f) hz
    have hg := allT_get (n := 0) (b := f) (t := z.tk.toNat - 1) hz (by omega)
    have e : (allT 0 f (ls.take (j + 1))).length + 0 = (allT 0 f (ls.take j)).length + (z.tk.toNat - 1) + 1 := by omega
    have e2 : legS zs th f ls j = stAt zs th (allT 0 f ls) ((allT 0 f (ls.take j)).length + (z.tk.toNat - 1) + 1) := by unfold legS; congr 1
    rw [e, aftS_succ hg, e2]
    dsimp only
    rw [show ((0 : Int) + (j : Int)).toNat = j by omega]
    exact List.getElem?_set_self (by rw [aftS_len]; exact hj)
  | k + 1, h => by
    have ih := aftS_at (zs := zs) (th := th) (f := f) hok hj k (by omega)
    obtain ⟨t, ht⟩ : ∃ t, (allT 0 f ls)[(allT 0 f (ls.take (j + 1))).length + k]? = some t := ⟨_, List.getElem?_eq_getElem (by omega)⟩
    have hn := leg_after hj (by omega) ht
    rw [← Nat.add_assoc, aftS_succ ht, List.getElem?_set_ne (by omega)]
    exact ih
theorem aftS_eq {zs : List Zn} {th f : Int} {ls : List Lg} (hok : ∀ l ∈ ls, LgOK l) : aftS zs th (allT 0 f ls) ls.length (allT 0 f ls).length = legSs zs th f ls ls.length := by
  refine List.ext_getElem? fun j => ?_
  by_cases hj : j < ls.length
  · have hle := allT_take_le 0 f ls (j + 1)
    have := aftS_at (zs := zs) (th := th) (f := f) hok hj ((allT 0 f ls).length - (allT 0 f (ls.take (j + 1))).length) (by omega)
    rw [show (allT 0 f (ls.take (j + 1))).length + ((allT 0 f ls).length - (allT 0 f (ls.take (j + 1))).length) = (allT 0 f ls).length by omega] at this
    rw [this, legSs_get hj]
  · rw [List.getElem?_eq_none (by rw [aftS_len]; omega), List.getElem?_eq_none (by rw [legSs_len]; omega)]

end Go.Proofs

namespace Go.Proofs
open Go Go.Sx
attribute [local irreducible] Run

theorem vr_nilo {G : Ctx} {μ : Mu} {a : AVal} {x : Value} (h : VR G μ (.agg [a, .nilsl]) x) : VR G μ (.agg [a, .view []]) x := by
  cases h with
  | agg _ vs hl hv =>
    refine .agg _ vs (by simpa using hl) fun i hi => ?_
    match i, hi with
    | 0, _ => exact hv 0 (by simp)
    | 1, _ =>
      have h3 := hv 1 (by simp)
      simp only [List.getD_cons_zero, List.getD_cons_succ] at h3 ⊢
      generalize vs.getD 1 undef = y at *
      cases h3
      exact .viewnil none 0
def lso : List AVal → List AVal → Prop
  | [], [] => True
  | v :: vs, u :: us => (v = u ∨ (∃ a, v = .agg [a, .nilsl] ∧ u = .agg [a, .view []])) ∧ lso vs us
  | _, _ => False
theorem lso_len : ∀ {l l' : List AVal}, lso l l' → l.length = l'.length
  | [], [], _ => rfl
  | v :: l, u :: l', h => by simp [lso_len h.2]
  | [], _ :: _, h => h.elim
  | _ :: _, [], h => h.elim
theorem lso_vr {G : Ctx} {μ : Mu} : ∀ {l l' : List AVal}, lso l l' → ∀ i c, i < l.length → VR G μ (l.getD i .any) c → VR G μ (l'.getD i .any) c
  | [], [], _, i, c, hi, _ => by simp at hi
  | v :: l, u :: l', h, i, c, hi, hv => by
    cases i with
    | zero =>
      simp only [List.getD_cons_zero] at hv ⊢
      rcases h.1 with rfl | ⟨a, rfl, rfl⟩
      · exact hv
      · exact vr_nilo hv
    | succ i =>
      simp only [List.getD_cons_succ] at hv ⊢
      exact lso_vr h.2 i c (by simpa using hi) hv
  | [], _ :: _, h, _, _, _, _ => h.elim
  | _ :: _, [], h, _, _, _, _ => h.elim
theorem Ans.lso {P : Program} {g : FuncId} {args args' : List AVal} {LH LH' : Heap} {r : AVal} (h : Ans P g args LH r LH') (hw : Go.Proofs.lso args' args) : Ans P g args' LH r LH' := h.weak (lso_len hw) fun _ _ i c hi hv => lso_vr hw i c hi hv
theorem in_ok3 (w a b : Int) (h : 0 ≤ a ∧ a ≤ b ∧ b ≤ 2000000000000) : Ans Try.prog n_kit_Dice_In [.ptr 0 0 0 1, r2 a b] [some (Dr w)] (.int .i64 (btw w a b)) [some (Dr (dstep w))] := by
  have e : (if b > a then b else a) = b := by split <;> omega
  refine spec_run e_kit_Dice_In fun G => ?_
  simp only [go_sem, r2, e]
  refine cD (between_ok _ a b (by omega) h.2.1 (by omega)) ?_
  simp only [go_sem]
  exact ⟨_, rfl⟩
theorem ov_frz {H : Heap} {f : Int} {ls : List Lg} {j n : Nat} {g : Bool} (h : H[j]? = some (some (.cells g 2 (ls.map Lg.v)))) (hn : n = ls.length) : frz 6 H (.agg [.int .i64 f, .sl j 0 n]) = ovV f ls := by
  have h1 : frz 5 H (.sl j 0 n) = .view (ls.map Lg.v) := by
    rw [frz_sl (d := 4) h (by simpa using hn), List.map_map]; rfl
  show AVal.agg [_, frz 5 H (.sl j 0 n)] = _
  rw [h1]; rfl
theorem pick5 (i a b c d e : Int) (hi : 0 ≤ i ∧ i < 5) : ∃ v, (v = a ∨ v = b ∨ v = c ∨ v = d ∨ v = e) ∧ [AVal.int .i64 a, .int .i64 b, .int .i64 c, .int .i64 d, .int .i64 e][i.toNat]? = some (.int .i64 v) := by
  obtain rfl | rfl | rfl | rfl | rfl : i = 0 ∨ i = 1 ∨ i = 2 ∨ i = 3 ∨ i = 4 := by omega
  · exact ⟨a, .inl rfl, rfl⟩
  · exact ⟨b, .inr (.inl rfl), rfl⟩
  · exact ⟨c, .inr (.inr (.inl rfl)), rfl⟩
  · exact ⟨d, .inr (.inr (.inr (.inl rfl))), rfl⟩
  · exact ⟨e, .inr (.inr (.inr (.inr rfl))), rfl⟩
theorem legS_in {zs : List Zn} (hz : ZsOK zs) {th : Int} (hth : 1 ≤ th ∧ th ≤ 1000) {f : Int} {ls : List Lg} (ho : OvOK f ls) (i : Nat) : 0 ≤ (legS zs th f ls i).1 ∧ (legS zs th f ls i).1 ≤ (legS zs th f ls i).2 ∧ (legS zs th f ls i).2 ≤ capS := by
  have htk := allT_ok (n := 0) ho.f ho.all
  have h1 := stAt_in hz hth htk (allT 0 f (ls.take (i + 1))).length
  have h2 := st_le hz hth htk (allT 0 f (ls.take (i + 1))).length
  unfold legS; omega
set_option maxHeartbeats 4000000 in
set_option maxRecDepth 10000 in
theorem leftOf_run (w : Int) {brk : Int} {zs : List Zn} (h : StOK brk zs) {th : Int} (hth : 1 ≤ th ∧ th ≤ 1000) {f : Int} {ls : List Lg} (ho : OvOK f ls) (hne : ls ≠ []) :
    AnsE Try.prog n_kit_LeftOf [.ptr 0 0 0 1, .agg [.int .i64 brk, .sl 1 0 zs.length], .int .i64 th, .agg [.int .i64 f, .sl 2 0 ls.length]] [some (Dr w), some (.cells true 5 (zs.map Zn.v)), some (.cells true 2 (ls.map Lg.v))]
      (fun a : Int × Int => 0 ≤ a.1 ∧ a.1 ≤ capS) (fun a => .int .i64 a.1) (fun a => [some (Dr a.2), some (.cells true 5 (zs.map Zn.v)), some (.cells true 2 (ls.map Lg.v))]) := by
  have zb : ∀ S : Nat → Prop, (Row.cells true 5 (zs.map Zn.v)).bel S := fun S => by rw [row_bel_cells]; simp only [go_sem]
  have lb : ∀ S : Nat → Prop, (Row.cells true 2 (ls.map Lg.v)).bel S := fun S => by rw [row_bel_cells]; simp only [go_sem]
  refine AnsE.keep (run_fn e_kit_LeftOf fun G => ?_) (fun a ha => ⟨by simp, by simp [go_sem], dr_bel _ _, zb _, lb _, trivial⟩)
  have k1 := rStrain_run h hth ho hne
  have hn : 0 < ls.length := List.length_pos_iff.2 hne
  have hlen := ho.len
  have hli := legS_in h.zs hth ho (ls.length - 1)
  have sl := legSs_len zs th f ls ls.length
  have s1 : ((legSs zs th f ls ls.length).map rv)[ls.length - 1]? = some (AVal.agg [.int .i64 (legS zs th f ls (ls.length - 1)).1, .int .i64 (legS zs th f ls (ls.length - 1)).2]) := by rw [List.getElem?_map, legSs_get (by omega)]; rfl
  obtain ⟨p, hp⟩ : ∃ p, legS zs th f ls (ls.length - 1) = p := ⟨_, rfl⟩
  rw [hp] at hli s1
  have c0 : ((ls.length : Int) == 0) = false := beq_eq_false_iff_ne.2 (by omega)
  have c1 : IntKind.i64.wrap ((ls.length : Int) - 1) = ((ls.length - 1 : Nat) : Int) := by rw [w64 (by omega)]; omega
  have c2 : ((ls.length - 1 : Nat) : Int) < ls.length := by omega
  have c3 : ls.length - 1 < ls.length := by omega
  simp only [go_sem]
  refine cFN k1 6 ⟨.inl (st_frz (g := true) rfl rfl), .inl rfl, .inl (ov_frz (g := true) rfl rfl), trivial⟩ ?_ (hx := by rw [row_bel_cells]; simp only [rvs_bel]) (hxn := row_nv_cells _ _ (nvs_map _ _ fun z => by simp only [go_sem, rv, r2]))
  simp only [go_sem, ren, rens, c0, c1, c2, c3, s1, sl, List.length_map]
  unfold capS at hli
  have kd := in_ok3 w p.1 p.2 (by omega)
  have bd := btw_in (w := w) (lo := p.1) (hi := p.2) hli.2.1
  simp only [r2] at kd
  refine dD kd ?_
  obtain ⟨b, hb⟩ : ∃ b, btw w p.1 p.2 = b := ⟨_, rfl⟩
  rw [hb] at bd ⊢
  have w2 : IntKind.i64.wrap (p.1 - 1) = p.1 - 1 := w64 (by omega)
  obtain ⟨c, hc⟩ : ∃ c, (if 0 < p.1 - 1 then p.1 - 1 else 0) = c := ⟨_, rfl⟩
  have hcb : 0 ≤ c ∧ c ≤ p.1 := by rw [← hc]; split <;> omega
  simp only [go_sem, w2, hc]
  have u5 := upto_in (w := dstep w) (n := 5) (by decide)
  refine dD (upto_ok (dstep w) 5 (by decide)) ?_
  obtain ⟨v, hv, sv⟩ := pick5 _ p.1 p.2 b c 1099511627776 u5
  have n5 : ¬ upto (dstep w) 5 < 0 := by omega
  simp only [go_sem, n5, sv]
  refine ⟨u5.2, ?_⟩
  refine ⟨(v, dstep (dstep w)), by unfold capS; dsimp only; omega, ?_⟩
  exact kept_id rfl (by simp only [go_sem]) fun i x hx => by
    rcases i with _ | _ | _ | i
    · cases hx; exact ⟨dr_bel _ _, rfl⟩
    · cases hx; exact ⟨zb _, rfl⟩
    · cases hx; exact ⟨lb _, rfl⟩
    · simp at hx
set_option maxHeartbeats 4000000 in
set_option maxRecDepth 10000 in
theorem leftOf_nil (w : Int) {brk : Int} {zs : List Zn} (h : StOK brk zs) {th : Int} (hth : 1 ≤ th ∧ th ≤ 1000) {f : Int} (hf : 0 ≤ f ∧ f ≤ 2000) :
    AnsE Try.prog n_kit_LeftOf [.ptr 0 0 0 1, .agg [.int .i64 brk, .sl 1 0 zs.length], .int .i64 th, .agg [.int .i64 f, .nilsl]] [some (Dr w), some (.cells true 5 (zs.map Zn.v))]
      (fun a : Int × Int => 0 ≤ a.1 ∧ a.1 ≤ capS) (fun a => .int .i64 a.1) (fun a => [some (Dr a.2), some (.cells true 5 (zs.map Zn.v))]) := by
  have zb : ∀ S : Nat → Prop, (Row.cells true 5 (zs.map Zn.v)).bel S := fun S => by rw [row_bel_cells]; simp only [go_sem]
  refine AnsE.keep (run_fn e_kit_LeftOf fun G => ?_) (fun a ha => ⟨by simp, by simp [go_sem], dr_bel _ _, zb _, trivial⟩)
  have k1 := Ans.lso (rStrain_nil h hth hf) (args' := [stV brk zs, .int .i64 th, .agg [.int .i64 f, .nilsl]]) ⟨.inl rfl, .inl rfl, .inr ⟨_, rfl, rfl⟩, trivial⟩
  have u9 := upto_in (w := w) (n := 9) (by decide)
  simp only [go_sem]
  refine cF k1 6 ⟨.inl (st_frz (g := true) rfl rfl), .inl rfl, .inl rfl, trivial⟩ ?_
  simp only [go_sem]
  refine cD (upto_ok w 9 (by decide)) ?_
  simp only [go_sem]
  refine ⟨(upto w 9, dstep w), by unfold capS; dsimp only; omega, ?_⟩
  exact kept_id rfl (by simp only [go_sem]) fun i x hx => by
    rcases i with _ | _ | i
    · cases hx; exact ⟨dr_bel _ _, rfl⟩
    · cases hx; exact ⟨zb _, rfl⟩
    · simp at hx
end Go.Proofs

namespace Go.Proofs
open Go Go.Sx
attribute [local irreducible] Run

theorem slr_none {P : List AVal} (h : P = []) (gr : Bool) (sz j : Nat) : slv j P = .nilsl ∧ slrG gr sz P = [] := by subst h; exact ⟨rfl, rfl⟩
theorem slr_some {P : List AVal} (h : P ≠ []) (gr : Bool) (sz j : Nat) : slv j P = .sl j 0 P.length ∧ slrG gr sz P = [some (.cells gr sz P)] := by
  unfold slv slrG; rw [if_neg h, if_neg h]; exact ⟨rfl, rfl⟩
theorem lgL_nil {ls : List Lg} (h : ls = []) : lgL ls = [] := by subst h; rfl
theorem lgL_ne {ls : List Lg} (h : ls ≠ []) : lgL ls ≠ [] := fun e => h (by unfold lgL at e; exact List.map_eq_nil_iff.1 e)
section
variable {P : Program} {G : Ctx} {g : FuncId} {largs args : List AVal} {H : Heap} {α : Type} {Φ : α → Prop} {r : α → AVal} {k : Nat} {R : Runner} {l : List AOper} {fs : List Sx.Frame} {ρ : List AVal} {ms : List Nat} {Q : Sx.Goal} {dst : Option Nat}
theorem callE3 {x0 x1 x2 : Row} {x' : α → Row} {j0 j1 j2 : Nat} (h : AnsE P g largs [some x0, some x1, some x2] Φ r fun a => [some (x' a), some x1, some x2]) (hargs : args = largs.map (ren (nth [j0, j1, j2]))) (hb : Bels (· < 3) largs)
    (h0 : H[j0]? = some (some x0)) (h1 : H[j1]? = some (some x1)) (h2 : H[j2]? = some (some x2)) (hx0 : x0.bel (fun _ => False)) (hx1 : x1.bel (fun _ => False)) (hx2 : x2.bel (fun _ => False)) (hn : [j0, j1, j2].Nodup)
    (hwf : ∀ a, Φ a → Bel (fun _ => False) (r a) ∧ (x' a).bel (fun _ => False)) (hk : k ≤ H.length) (hms : ∀ q ∈ ms, q ∉ [j0, j1, j2] ∧ H[q]? = some (some .dfr))
    (hK : ∀ a, Φ a → R (.ops l) fs ⟨setD ρ dst (r a), H.set j0 (some (x' a)), ms⟩ Q) : CallR P G k R g args dst l fs ρ H ms Q := by
  have l0 := (List.getElem?_eq_some_iff.1 h0).1
  have l1 := (List.getElem?_eq_some_iff.1 h1).1
  have l2 := (List.getElem?_eq_some_iff.1 h2).1
  have n1 : j0 ≠ j1 ∧ j0 ≠ j2 := by simp at hn; omega
  have e : ∀ a, Φ a → outΔ (outσ [j0, j1, j2] H.length) 0 [some (x' a), some x1, some x2] = [(j0, x' a), (j1, x1), (j2, x2)] := fun a ha => by
    simp only [outΔ, Row.ren_same (hwf a ha).2, Row.ren_same hx1, Row.ren_same hx2]
    rfl
  refine callE h [j0, j1, j2] hn ⟨by rw [Row.ren_same hx0]; exact h0, by rw [Row.ren_same hx1]; exact h1, by rw [Row.ren_same hx2]; exact h2, trivial⟩ hargs hb
    ⟨bel_mono_row hx0 fun _ h => h.elim, bel_mono_row hx1 fun _ h => h.elim, bel_mono_row hx2 fun _ h => h.elim, trivial⟩
    (fun a ha => ⟨by simp, (hwf a ha).1.mono fun _ h => h.elim, bel_mono_row (hwf a ha).2 fun _ h => h.elim, bel_mono_row hx1 fun _ h => h.elim, bel_mono_row hx2 fun _ h => h.elim, trivial⟩) (by simp; omega) hk (fun a ha q hq => ?_) fun a ha => ?_
  · rw [e a ha]; exact ⟨by simpa using (hms q hq).1, (hms q hq).2⟩
  · rw [e a ha, ren_same (hwf a ha).1]
    have q1 : (H.set j0 (some (x' a)))[j1]? = some (some x1) := by rw [List.getElem?_set_ne n1.1]; exact h1
    have q2 : (H.set j0 (some (x' a)))[j2]? = some (some x2) := by rw [List.getElem?_set_ne n1.2]; exact h2
    simp only [Heap.puts, put_lt l0, put_id q1, put_id q2]
    exact hK a ha
theorem callE2 {x0 x1 : Row} {x' : α → Row} {j0 j1 : Nat} (h : AnsE P g largs [some x0, some x1] Φ r fun a => [some (x' a), some x1]) (hargs : args = largs.map (ren (nth [j0, j1]))) (hb : Bels (· < 2) largs)
    (h0 : H[j0]? = some (some x0)) (h1 : H[j1]? = some (some x1)) (hx0 : x0.bel (fun _ => False)) (hx1 : x1.bel (fun _ => False)) (hn : [j0, j1].Nodup)
    (hwf : ∀ a, Φ a → Bel (fun _ => False) (r a) ∧ (x' a).bel (fun _ => False)) (hk : k ≤ H.length) (hms : ∀ q ∈ ms, q ∉ [j0, j1] ∧ H[q]? = some (some .dfr))
    (hK : ∀ a, Φ a → R (.ops l) fs ⟨setD ρ dst (r a), H.set j0 (some (x' a)), ms⟩ Q) : CallR P G k R g args dst l fs ρ H ms Q := by
  have l0 := (List.getElem?_eq_some_iff.1 h0).1
  have l1 := (List.getElem?_eq_some_iff.1 h1).1
  have n1 : j0 ≠ j1 := by simpa using hn
  have e : ∀ a, Φ a → outΔ (outσ [j0, j1] H.length) 0 [some (x' a), some x1] = [(j0, x' a), (j1, x1)] := fun a ha => by
    simp only [outΔ, Row.ren_same (hwf a ha).2, Row.ren_same hx1]
    rfl
  refine callE h [j0, j1] hn ⟨by rw [Row.ren_same hx0]; exact h0, by rw [Row.ren_same hx1]; exact h1, trivial⟩ hargs hb
    ⟨bel_mono_row hx0 fun _ h => h.elim, bel_mono_row hx1 fun _ h => h.elim, trivial⟩
    (fun a ha => ⟨by simp, (hwf a ha).1.mono fun _ h => h.elim, bel_mono_row (hwf a ha).2 fun _ h => h.elim, bel_mono_row hx1 fun _ h => h.elim, trivial⟩) (by simp; omega) hk (fun a ha q hq => ?_) fun a ha => ?_
  · rw [e a ha]; exact ⟨by simpa using (hms q hq).1, (hms q hq).2⟩
  · rw [e a ha, ren_same (hwf a ha).1]
    have q1 : (H.set j0 (some (x' a)))[j1]? = some (some x1) := by rw [List.getElem?_set_ne n1]; exact h1
    simp only [Heap.puts, put_lt l0, put_id q1]
    exact hK a ha
end
end Go.Proofs

namespace Go.Proofs
open Go Go.Sx
attribute [local irreducible] Run

structure TsOK (zs : List Zn) (th : Int) (ts : List Tk) (k : Nat) (l : List Int) : Prop where
  len : l.length = k + 1
  bd : ∀ j, j ≤ k → (stAt zs th ts j).1 ≤ l.getD j 0 ∧ l.getD j 0 ≤ (stAt zs th ts j).2
theorem TsOK.snoc {zs : List Zn} {th : Int} {ts : List Tk} {k : Nat} {l : List Int} (h : TsOK zs th ts k l) {v : Int} (hv : (stAt zs th ts (k + 1)).1 ≤ v ∧ v ≤ (stAt zs th ts (k + 1)).2) : TsOK zs th ts (k + 1) (l ++ [v]) := ⟨by rw [List.length_append, h.len]; rfl, fun j hj => by
  have hl := h.len
  rw [List.getD_eq_getElem?_getD]
  by_cases e : j = k + 1
  · subst e
    rw [List.getElem?_append_right (by omega), hl, Nat.sub_self]; exact hv
  · rw [List.getElem?_append_left (by omega), ← List.getD_eq_getElem?_getD]; exact h.bd j (by omega)⟩
section
variable {P : Program} {G : Ctx} {g : FuncId} {largs args : List AVal} {H : Heap} {α : Type} {Φ : α → Prop} {r : α → AVal} {k : Nat} {R : Runner} {l : List AOper} {fs : List Sx.Frame} {ρ : List AVal} {ms : List Nat} {Q : Sx.Goal} {dst : Option Nat}
end
end Go.Proofs

namespace Go.Proofs
open Go Go.Sx
attribute [local irreducible] Run

theorem range_okg (w lo hi : Int) (h1 : -1152921504606846976 ≤ lo) (h2 : lo ≤ hi) (h3 : hi ≤ 1152921504606846976) : Ans Try.prog n_kit_Dice_Range [.ptr 0 0 0 1, .int .i64 lo, .int .i64 hi] [some (Dr w)] (rngR w lo hi).v [some (Dr (dstep (dstep w)))] := by
  refine spec_run e_kit_Dice_Range fun G => ?_
  simp only [go_sem]
  refine callD (between_ok w lo hi h1 h2 h3) rfl ⟨.int _ _, .int _ _, trivial⟩ (.int _ _) (dr_bel _ _) (dr_bel _ _) (by simp) (by simp) ?_
  simp only [go_sem]
  refine callD (between_ok (dstep w) lo hi h1 h2 h3) rfl ⟨.int _ _, .int _ _, trivial⟩ (.int _ _) (dr_bel _ _) (dr_bel _ _) (by simp) (by simp) ?_
  simp only [go_sem]
  exact ⟨rfl, _, rfl⟩
structure NarZ (y z : Zn) : Prop where
  f : y.f = z.f
  g : z.glo ≤ y.glo ∧ y.glo ≤ y.ghi ∧ y.ghi ≤ z.ghi
  r : z.rlo ≤ y.rlo ∧ y.rlo ≤ y.rhi ∧ y.rhi ≤ z.rhi
def NarL : List Zn → List Zn → Prop
  | [], [] => True
  | y :: a, z :: b => NarZ y z ∧ NarL a b
  | _, _ => False
theorem NarL.zAt : ∀ {a b : List Zn}, NarL a b → b ≠ [] → ∀ t, NarZ (Go.Proofs.zAt a t) (Go.Proofs.zAt b t)
  | [], [], _, h, _ => absurd rfl h
  | [y], [z], h, _, t => h.1
  | y :: y2 :: a, z :: z2 :: b, h, _, t => by
    show NarZ (if y2.f ≤ t then Go.Proofs.zAt (y2 :: a) t else y) (if z2.f ≤ t then Go.Proofs.zAt (z2 :: b) t else z)
    rw [h.2.1.f]
    split
    · exact NarL.zAt h.2 (by simp) t
    · exact h.1
  | [], _ :: _, h, _, _ => h.elim
  | _ :: _, [], h, _, _ => h.elim
  | [_], _ :: _ :: _, h, _, _ => h.2.elim
  | _ :: _ :: _, [_], h, _, _ => h.2.elim
theorem NarL.get : ∀ {a b : List Zn}, NarL a b → a.length = b.length ∧ ∀ (i : Nat) (y : Zn), a[i]? = some y → ∃ z, b[i]? = some z ∧ NarZ y z
  | [], [], _ => ⟨rfl, fun i y h => by simp at h⟩
  | y :: a, z :: b, h => by
    obtain ⟨h1, h2⟩ := NarL.get h.2
    refine ⟨by simp [h1], fun i x hx => ?_⟩
    cases i with
    | zero => simp at hx; subst hx; exact ⟨z, rfl, h.1⟩
    | succ i => simpa using h2 i x (by simpa using hx)
  | [], _ :: _, h => h.elim
  | _ :: _, [], h => h.elim
theorem NarL.ok {a b : List Zn} (h : NarL a b) (hb : ZsOK b) : ZsOK a := by
  obtain ⟨h1, h2⟩ := h.get
  refine ⟨by rw [h1]; exact hb.len, fun y hy => ?_, fun y hy => ?_, fun i y x hy hx => ?_⟩
  · obtain ⟨i, hi⟩ := List.getElem?_of_mem hy
    obtain ⟨z, hz, hn⟩ := h2 i y hi
    have ho := hb.all z (List.mem_of_getElem? hz)
    have hg := hn.g
    have hr := hn.r
    exact ⟨by rw [hn.f]; exact ho.f, by have := ho.g; omega, by have := ho.r; omega⟩
  · obtain ⟨z, hz, hn⟩ := h2 0 y hy
    rw [hn.f]; exact hb.zero z hz
  · obtain ⟨z, hz, hn⟩ := h2 i y hy
    obtain ⟨u, hu, hn2⟩ := h2 (i + 1) x hx
    rw [hn.f, hn2.f]; exact hb.asc i z u hz hu
section
variable {a b : List Zn} (h : NarL a b) (hb : ZsOK b)
include h hb
theorem nar_z (t : Int) : NarZ (zAt a t) (zAt b t) := h.zAt (fun e => by have := hb.len; rw [e] at this; simp at this) t
theorem nar_g (t : Int) : gLo b t ≤ gLo a t ∧ gLo a t ≤ gHi a t ∧ gHi a t ≤ gHi b t := (nar_z h hb t).g
theorem nar_grow {f t : Int} : (groR b f t).1 ≤ (groR a f t).1 ∧ (groR a f t).2 ≤ (groR b f t).2 := by
  have m1 := fun a' n => sumD_mono (f := gLo b) (g := gLo a) a' n fun x _ _ => (nar_g h hb x).1
  have m2 := fun a' n => sumD_mono (f := gHi a) (g := gHi b) a' n fun x _ _ => (nar_g h hb x).2.2
  unfold groR
  split
  · have := m1 f (f - t).toNat; have := m2 f (f - t).toNat; dsimp only; omega
  · have := m1 t (t - f).toNat; have := m2 t (t - f).toNat; dsimp only; omega
theorem nar_st {th : Int} (hth : 1 ≤ th ∧ th ≤ 1000) {ts : List Tk} (hk : ∀ t ∈ ts, TkOK t) : ∀ i, (stAt b th ts i).1 ≤ (stAt a th ts i).1 ∧ (stAt a th ts i).2 ≤ (stAt b th ts i).2
  | 0 => by rw [stAt_zero, stAt_zero]; exact ⟨Int.le_refl _, Int.le_refl _⟩
  | i + 1 => by
    have ih := nar_st hth hk i
    cases ht : ts[i]? with
    | none => rw [stAt_none ht, stAt_none ht]; exact ih
    | some t =>
      have hto := hk t (List.mem_of_getElem? ht)
      have hz := nar_z h hb t.t
      have ho := zAt_ok hb t.t
      have ho' := zAt_ok (h.ok hb) t.t
      have hg := hz.g
      have hr := hz.r
      have hr2 := ho.r
      have hg2 := ho.g
      have b1 := stAt_in hb hth hk i
      have b2 := stAt_in (h.ok hb) hth hk i
      rw [stAt_succ ht, stAt_succ ht]
      have a1 := addL_mono hto (z := zAt b t.t) (z' := zAt a t.t) ho hg.1 (th := th) (th' := th) (by omega)
      have a2 := addH_mono hto (z := zAt a t.t) (z' := zAt b t.t) (by omega) hg.2.2 (th := th) (th' := th) (by omega)
      have a3 := leastL_mono2 (z := zAt b t.t) (z' := zAt a t.t) ho ⟨by omega, hr.2.2⟩ b1.1 ih.1
      have a4 := mostL_mono2 (z := zAt a t.t) (z' := zAt b t.t) ho' ⟨by omega, hr.1⟩ b2.2.2.1 ih.2
      unfold stepS; dsimp only; omega
theorem nar_judge {brk th f left : Int} (hth : 1 ≤ th ∧ th ≤ 1000) {ls : List Lg} (ho : OvOK f ls) : ((judR brk b th f left ls).1 = 1 → (judR brk a th f left ls).1 = 1) ∧ ((judR brk b th f left ls).1 = 2 → (judR brk a th f left ls).1 = 2) := by
  have htk := allT_ok (n := 0) ho.f ho.all
  refine ⟨fun h1 => ?_, fun h2 => ?_⟩
  · have e : judR brk a th f left ls = (1, 0) := by
      refine gFrom_is_one _ _ fun i hi => ?_
      have a1 := gFrom_one _ _ h1 i hi
      have a2 := nar_st h hb hth htk (i + 1)
      have a3 := st_le (h.ok hb) hth htk (i + 1)
      unfold holS at a1 ⊢
      unfold brkS
      rw [decide_eq_true_eq] at a1 ⊢
      rw [decide_eq_false_iff_not]
      omega
    rw [e]
  · obtain ⟨i, a1, a2, a3, a4⟩ := gFrom_two _ _ h2
    refine gFrom_is_two _ _ i a1 a2 ?_
    have a5 := nar_st h hb hth htk (i + 1)
    unfold brkS at a4 ⊢
    rw [decide_eq_true_eq] at a4 ⊢
    omega
end
theorem jV_is {z1 z2 : List Zn} {sE lim : Int} : ∀ k, (∀ i, i < k → holA z1 z2 sE lim i = true) → jV z1 z2 sE lim k = (1, 0)
  | 0, _ => rfl
  | k + 1, h => by
    rw [jV, jV_is k fun i hi => h i (by omega), if_neg (by rw [h k (by omega)]; simp)]
theorem jFrom_is_one {z1 z2 : List Zn} {sE lim : Int} : ∀ n k : Nat, (∀ i, i < k + n → holA z1 z2 sE lim i = true ∧ brkA z1 z2 sE lim i = false) → jFrom z1 z2 sE lim n k = (1, 0)
  | 0, k, h => jV_is k fun i hi => (h i (by omega)).1
  | n + 1, k, h => by
    rw [jFrom, if_neg (by rw [(h k (by omega)).2]; simp)]
    exact jFrom_is_one n (k + 1) fun i hi => h i (by omega)
theorem jFrom_is_two {z1 z2 : List Zn} {sE lim : Int} : ∀ n k i : Nat, k ≤ i → i < k + n → brkA z1 z2 sE lim i = true → (jFrom z1 z2 sE lim n k).1 = 2
  | 0, k, i, h1, h2, _ => by omega
  | n + 1, k, i, h1, h2, h3 => by
    rw [jFrom]
    by_cases c : brkA z1 z2 sE lim k = true
    · rw [if_pos c]
    · rw [if_neg c]
      exact jFrom_is_two n (k + 1) i (by
        rcases Nat.lt_or_ge k i with h | h
        · exact h
        · have : i = k := by omega
          subst this; exact absurd h3 c) (by omega) h3
theorem nar_seal {a1 b1 a2 b2 : List Zn} (h1 : NarL a1 b1) (hb1 : ZsOK b1) (h2 : NarL a2 b2) (hb2 : ZsOK b2) {k1 k2 s f : Int} :
    ((sealR k1 k2 b1 b2 s f).1 = 1 → (sealR k1 k2 a1 a2 s f).1 = 1) ∧ ((sealR k1 k2 b1 b2 s f).1 = 2 → (sealR k1 k2 a1 a2 s f).1 = 2) := by
  have m1 := fun n => sumD_mono (f := mLo b1 b2) (g := mLo a1 a2) s n fun x _ _ => by
    have := nar_g h1 hb1 x; have := nar_g h2 hb2 x; unfold mLo; omega
  have m2 := fun n => sumD_mono (f := mHi a1 a2) (g := mHi b1 b2) s n fun x _ _ => by
    have := nar_g h1 hb1 x; have := nar_g h2 hb2 x; unfold mHi; omega
  have m3 := fun n => sumD_mono (f := mLo a1 a2) (g := mHi a1 a2) s n fun x _ _ => by
    have := nar_g h1 hb1 x; have := nar_g h2 hb2 x; unfold mLo mHi; omega
  refine ⟨fun hs => ?_, fun hs => ?_⟩
  · have e : sealR k1 k2 a1 a2 s f = (1, 0) := by
      refine jFrom_is_one _ _ fun i hi => ?_
      have q := jFrom_one _ _ hs i hi
      have := m1 i; have := m2 i; have := m3 i
      unfold holA at q ⊢
      unfold brkA
      simp only [Bool.and_eq_true, decide_eq_true_eq, Bool.or_eq_false_iff, decide_eq_false_iff_not] at q ⊢
      omega
    rw [e]
  · obtain ⟨i, q1, q2, q3, q4⟩ := jFrom_two _ _ hs
    refine jFrom_is_two _ _ i q1 q2 ?_
    have := m1 i; have := m2 i
    unfold brkA at q4 ⊢
    simp only [Bool.or_eq_true, decide_eq_true_eq] at q4 ⊢
    omega
end Go.Proofs

namespace Go.Proofs
open Go Go.Sx
attribute [local irreducible] Run

def nwZ (w : Int) (z : Zn) : Zn := ⟨z.f, (rngR w z.glo z.ghi).lo, (rngR w z.glo z.ghi).hi, (rngR (dstep (dstep w)) z.rlo z.rhi).lo, (rngR (dstep (dstep w)) z.rlo z.rhi).hi⟩
def nwW (w : Int) : Int := dstep (dstep (dstep (dstep w)))
def nwI (w : Int) : Nat → Int
  | 0 => w
  | i + 1 => nwW (nwI w i)
def nwS (zs : List Zn) (w : Int) : Nat → List Zn
  | 0 => zs
  | i + 1 => (nwS zs w i).set i (nwZ (nwI w i) (zs.getD i default))
theorem nwS_len (zs : List Zn) (w : Int) : ∀ i, (nwS zs w i).length = zs.length
  | 0 => rfl
  | i + 1 => by rw [nwS, List.length_set]; exact nwS_len zs w i
theorem nwS_get (zs : List Zn) (w : Int) : ∀ (i j : Nat) (z : Zn), zs[j]? = some z → (nwS zs w i)[j]? = some (if j < i then nwZ (nwI w j) z else z)
  | 0, j, z, h => by rw [nwS, h]; simp
  | i + 1, j, z, h => by
    have ih := nwS_get zs w i j z h
    have hl := nwS_len zs w i
    have hj := (List.getElem?_eq_some_iff.1 h).1
    rw [nwS]
    by_cases e : j = i
    · subst e
      rw [List.getElem?_set_self (by omega), List.getD_eq_getElem?_getD, h, if_pos (by omega)]; rfl
    · rw [List.getElem?_set_ne (by omega), ih]
      by_cases c : j < i
      · rw [if_pos c, if_pos (by omega)]
      · rw [if_neg c, if_neg (by omega)]
theorem nwZ_nar (w : Int) {z : Zn} (h : ZnOK z) : NarZ (nwZ w z) z := by
  have h1 := rngR_in (w := w) (lo := z.glo) (hi := z.ghi) h.g.2.1
  have h2 := rngR_in (w := dstep (dstep w)) (lo := z.rlo) (hi := z.rhi) h.r.2.1
  exact ⟨rfl, h1, h2⟩
theorem NarL.of : ∀ {a b : List Zn}, a.length = b.length → (∀ (i : Nat) (y z : Zn), a[i]? = some y → b[i]? = some z → NarZ y z) → NarL a b
  | [], [], _, _ => trivial
  | y :: a, z :: b, h, hn => ⟨hn 0 y z rfl rfl, NarL.of (by simpa using h) fun i u v hu hv => hn (i + 1) u v (by simpa using hu) (by simpa using hv)⟩
  | [], _ :: _, h, _ => by simp at h
  | _ :: _, [], h, _ => by simp at h
theorem nwS_nar {zs : List Zn} (hz : ZsOK zs) (w : Int) : NarL (nwS zs w zs.length) zs := NarL.of (nwS_len _ _ _) fun i y z hy hz' => by
  have h := nwS_get zs w zs.length i z hz'
  have hi := (List.getElem?_eq_some_iff.1 hz').1
  rw [if_pos hi, hy] at h
  cases h
  exact nwZ_nar _ (hz.all z (List.mem_of_getElem? hz'))
attribute [local irreducible] nwS nwI
set_option maxHeartbeats 8000000 in
set_option maxRecDepth 10000 in
theorem narrower_det (w b : Int) {zs : List Zn} (hz : ZsOK zs) : Ans Try.prog n_law05_narrower [.ptr 0 0 0 1, .agg [.int .i64 b, .sl 1 0 zs.length]] [some (Dr w), some (.cells true 5 (zs.map Zn.v))] (.agg [.int .i64 b, .sl 2 0 zs.length])
    [some (Dr (nwI w zs.length)), some (.cells true 5 (zs.map Zn.v)), some (.cells true 5 ((nwS zs w zs.length).map Zn.v))] := by
  have zb : ∀ (l : List Zn) (S : Nat → Prop), (Row.cells true 5 (l.map Zn.v)).bel S := fun l S => by rw [row_bel_cells]; simp only [go_sem]
  refine Ans.keep (run_fn e_law05_narrower fun G => ?_) (by simp) (by simp [go_sem]) ⟨dr_bel _ _, zb _ _, zb _ _, trivial⟩
  have hlen := hz.len
  have ko := ownStuff_run b zs (by omega)
  have w0 : nwI w 0 = w := by unfold nwI; rfl
  have s0 : nwS zs w 0 = zs := by unfold nwS; rfl
  have wS : ∀ i, nwI w (i + 1) = dstep (dstep (dstep (dstep (nwI w i)))) := fun i => by rw [nwI]; rfl
  have sS : ∀ i z, zs[i]? = some z → nwS zs w (i + 1) = (nwS zs w i).set i (nwZ (nwI w i) z) := fun i z h => by rw [nwS, List.getD_eq_getElem?_getD, h]; rfl
  have sl := nwS_len zs w
  simp only [go_sem]
  refine cFN ko 6 ⟨.inl (st_frz (g := true) rfl rfl), trivial⟩ ?_ (hx := zb _ _) (hxn := row_nv_cells _ _ (nvs_map _ _ fun z => by simp only [go_sem, Zn.v, Zn.cs]))
  simp only [go_sem, ren, rens]
  refine loop_ind k_law05_narrower_r7.eq_1 (fun a : Nat × Heap => a.1 ≤ zs.length) (fun a => zs.length - a.1)
    (fun a => (tsets 46 [(0, .ptr 0 0 0 1), (3, .ptr 2 0 0 1), (4, .ptr 3 0 0 1), (5, .ptr 5 0 0 1), (6, .int .i64 a.1)],
      some (Dr (nwI w a.1)) :: some (.cells true 5 (zs.map Zn.v)) :: some (.cells false 2 [.agg [.int .i64 b, .sl 1 0 zs.length]]) :: some (.cells false 2 [.agg [.int .i64 0, .nilsl]]) :: some (.cells true 5 ((nwS zs w a.1).map Zn.v)) :: some (.cells false 2 [.agg [.int .i64 b, .sl 4 0 zs.length]]) :: a.2)) (0, []) (Nat.zero_le _) (by simp [go_sem]) (by simp [w0, s0]) ?_
  rintro ⟨i, X⟩ hi ih
  dsimp only at hi ih ⊢
  by_cases h1 : i < zs.length
  · have h2 : (i : Int) < zs.length := by omega
    have h3 : IntKind.i64.wrap ((i : Int) + 1) = ((i + 1 : Nat) : Int) := by rw [w64 (by omega)]; rfl
    obtain ⟨z, hzi⟩ : ∃ z, zs[i]? = some z := ⟨_, List.getElem?_eq_getElem h1⟩
    have hzo := hz.all z (List.mem_of_getElem? hzi)
    have hg := hzo.g
    have hr := hzo.r
    have hgt := nwS_get zs w i i z hzi
    rw [if_neg (Nat.lt_irrefl _)] at hgt
    have hsl := sl i
    have ihn := fun Y => ih (i + 1, Y) (by dsimp only; omega) h1
    clear ih
    dsimp only at ihn
    rw [wS, sS i z hzi, List.map_set] at ihn
    obtain ⟨wi, hwi⟩ : ∃ wi, nwI w i = wi := ⟨_, rfl⟩
    obtain ⟨L, hL⟩ : ∃ L, nwS zs w i = L := ⟨_, rfl⟩
    rw [hwi, hL] at ihn
    rw [hL] at hgt hsl
    rw [hwi, hL]
    have k1 := range_okg wi z.glo z.ghi (by omega) (by omega) (by omega)
    have k2 := range_okg (dstep (dstep wi)) z.rlo z.rhi (by omega) (by omega) (by omega)
    unfold nwZ at ihn
    obtain ⟨p, hp⟩ : ∃ p, rngR wi z.glo z.ghi = p := ⟨_, rfl⟩
    obtain ⟨q, hq⟩ : ∃ p, rngR (dstep (dstep wi)) z.rlo z.rhi = p := ⟨_, rfl⟩
    rw [hp] at k1 ihn
    rw [hq] at k2 ihn
    simp only [Rg.v] at k1 k2
    simp only [go_sem, h2, h1, hzi, hsl, Zn.v, Zn.cs]
    trace_state
    refine dD k1 ?_
    simp only [go_sem]
    refine dD k2 ?_
    simp only [go_sem, h2, h1, hgt, hsl, h3, List.length_map, Zn.v, Zn.cs]
    simp only [Zn.v, Zn.cs] at ihn
    exact ihn _ _ (by simp [go_sem])
  · obtain rfl : i = zs.length := by omega
    have h2 : ¬ (zs.length : Int) < zs.length := by omega
    simp only [go_sem, h2, sl]
    refine kept_new (A := [some (Dr (nwI w zs.length)), some (.cells true 5 (zs.map Zn.v))]) 2 4 rfl rfl (by omega) rfl (fun i x hx => ?_) (zb _ _) rfl
    match i, hx with
    | 0, hx => simp at hx; subst hx; exact ⟨dr_bel _ _, rfl⟩
    | 1, hx => simp at hx; subst hx; exact ⟨zb _ _, rfl⟩
end Go.Proofs

