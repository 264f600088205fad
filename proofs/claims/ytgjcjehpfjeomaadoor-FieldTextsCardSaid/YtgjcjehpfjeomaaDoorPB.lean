/- A part of the proof. -/
import Derived.Test.YtgjcjehpfjeomaaDoorPA
import Derived.IntWalk
set_option linter.unusedSimpArgs false
set_option linter.unusedVariables false
namespace Go.Proofs
open Go Go.Sx

def k_field_Text_r0 : List AOper := [
  ⟨some 1, .box (.tmp 0), none, []⟩,
 ⟨some 2, .move (.const (.str [])), none, []⟩,
 ⟨some 3, .move (.const (.int .i64 0)), none, []⟩]
def k_field_Text_r1 : List AOper := [
  ⟨some 9, .load (some (4)) (.tmp 1), none, []⟩,
 ⟨some 10, .call (.const (.fn (.func 25) [] [])) [.tmp 9], none, []⟩,
 ⟨some 4, .move (.tmp 10), none, []⟩]
def k_field_Text_r2 : List AOper := [
  ⟨some 11, .move (.tmp 4), none, []⟩,
 ⟨some 12, .bin .plain .neq (.tmp 11) (.const (.int .i64 0)), none, []⟩]
def k_field_Text_r3 : List AOper := [
  ⟨some 13, .move (.tmp 4), none, []⟩,
 ⟨some 2, .move (.const (.str [])), none, []⟩,
 ⟨some 3, .move (.tmp 13), none, []⟩]
def k_field_Text_r4 : List AOper := [
  ⟨some 14, .buildSlice 1 [.const (.int .u8 102), .const (.int .u8 108), .const (.int .u8 97), .const (.int .u8 116)], none, []⟩,
 ⟨some 15, .markStr (.tmp 14), none, []⟩,
 ⟨some 5, .box (.const (.nilsl)), none, []⟩,
 ⟨none, .store 1 (.tmp 5) (.tmp 15), none, []⟩]
def k_field_Text_r5 : List AOper := [
  ⟨some 16, .fieldAddr 2 (.tmp 1), none, []⟩,
 ⟨some 17, .load none (.tmp 16), none, []⟩]
def k_field_Text_r6 : List AOper := [
  ⟨some 18, .buildSlice 1 [.const (.int .u8 114), .const (.int .u8 111), .const (.int .u8 117), .const (.int .u8 110), .const (.int .u8 100)], none, []⟩,
 ⟨some 19, .markStr (.tmp 18), none, []⟩,
 ⟨none, .store 1 (.tmp 5) (.tmp 19), none, []⟩]
def k_field_Text_r7 : List AOper := [
  ⟨some 20, .fieldAddr 3 (.tmp 1), none, []⟩,
 ⟨some 21, .load none (.tmp 20), none, []⟩,
 ⟨some 22, .fieldAddr 0 (.tmp 1), none, []⟩,
 ⟨some 23, .load none (.tmp 22), none, []⟩,
 ⟨some 24, .call (.const (.fn (.func 26) [] [])) [.tmp 21, .tmp 23], none, []⟩]
def k_field_Text_r8 : List AOper := [
  ⟨some 6, .move (.tmp 25), none, []⟩]
def k_field_Text_r9 : List AOper := [
  ⟨some 26, .load none (.tmp 5), none, []⟩,
 ⟨some 27, .buildSlice 1 [.const (.int .u8 10)], none, []⟩,
 ⟨some 28, .append 1 1 false (.tmp 26) (.tmp 27), none, []⟩,
 ⟨none, .store 1 (.tmp 5) (.tmp 28), none, []⟩]
def k_field_Text_r10 : List AOper := [
  ⟨some 29, .move (.tmp 6), none, []⟩,
 ⟨some 30, .len false (.tmp 29), none, []⟩,
 ⟨some 31, .move (.const (.int .i64 0)), none, []⟩]
def k_field_Text_r11 : List AOper := [
  ⟨some 32, .bin .plain .lss (.tmp 31) (.tmp 30), none, []⟩]
def k_field_Text_r12 : List AOper := [
  ⟨some 33, .indexAddr 1 (.tmp 29) (.tmp 31), none, []⟩,
 ⟨some 34, .load none (.tmp 33), none, []⟩,
 ⟨some 8, .move (.tmp 34), none, []⟩]
def k_field_Text_r13 : List AOper := [
  ⟨some 35, .load none (.tmp 5), none, []⟩,
 ⟨some 36, .move (.tmp 8), none, [0]⟩,
 ⟨some 37, .call (.const (.fn (.func 27) [] [])) [.tmp 36], none, [0]⟩,
 ⟨some 38, .buildSlice 1 [.tmp 37], none, [0]⟩,
 ⟨some 39, .append 1 1 false (.tmp 35) (.tmp 38), none, []⟩,
 ⟨none, .store 1 (.tmp 5) (.tmp 39), none, []⟩]
def k_field_Text_r13s : List (List AOper) := [
  [
  ⟨some 35, .load none (.tmp 5), none, []⟩,
 ⟨some 36, .move (.tmp 8), none, [0]⟩,
 ⟨some 37, .call (.const (.fn (.func 27) [] [])) [.tmp 36], none, [0]⟩,
 ⟨some 38, .buildSlice 1 [.tmp 37], none, [0]⟩], 
  [
  ⟨some 39, .append 1 1 false (.tmp 35) (.tmp 38), none, []⟩], 
  [
  ⟨none, .store 1 (.tmp 5) (.tmp 39), none, []⟩]]
theorem k_field_Text_r13_sg : segs k_field_Text_r13 = k_field_Text_r13s := by kernel_rfl
theorem k_field_Text_r13_st : statOK k_field_Text_r13 = true := by kernel_rfl
def k_field_Text_r14 : List AOper := [
  ⟨some 40, .bin .plain .add (.tmp 31) (.const (.int .i64 1)), none, []⟩,
 ⟨some 31, .move (.tmp 40), none, []⟩]
def k_field_Text_r15 : ACode := (.seq (.reg k_field_Text_r11 false) (.seq (.cond (.tmp 32) .skip (.exit 2)) (.seq (.block 3 (.seq (.reg k_field_Text_r12 false) (.reg k_field_Text_r13 true))) (.reg k_field_Text_r14 false))))
def k_field_Text_r16 : ACode := (.reg k_field_Text_r8 false)
def k_field_Text_r17 : ACode := (.block 1 (.seq (.reg k_field_Text_r9 false) (.seq (.reg k_field_Text_r10 false) (.block 2 (.loop k_field_Text_r15)))))
def k_field_Text_r18 : List AOper := [
  ⟨some 41, .load none (.tmp 5), none, []⟩,
 ⟨some 42, .buildSlice 1 [.const (.int .u8 10)], none, []⟩,
 ⟨some 43, .append 1 1 false (.tmp 41) (.tmp 42), none, []⟩,
 ⟨some 44, .bytesToStr (.tmp 43), none, []⟩,
 ⟨some 2, .move (.tmp 44), none, []⟩,
 ⟨some 3, .move (.const (.int .i64 0)), none, []⟩]
def k_field_Text : AFun := { params := 1, ntmps := 45, body := (.seq (.reg k_field_Text_r0 false) (.seq (.seq (.reg k_field_Text_r1 false) (.seq (.reg k_field_Text_r2 false) (.cond (.tmp 12) (.seq (.reg k_field_Text_r3 false) .ret) .skip))) (.seq (.reg k_field_Text_r4 false) (.seq (.seq (.reg k_field_Text_r5 false) (.cond (.tmp 17) (.reg k_field_Text_r6 false) .skip)) (.seq (.seq (.reg k_field_Text_r7 false) (.block 0 (.rng (.tmp 24) [25] k_field_Text_r16 k_field_Text_r17))) (.seq (.reg k_field_Text_r18 false) .ret)))))), res := [.tmp 2, .tmp 3] }
theorem k_field_Text_ok : cfun Tryd.prog Tryd.f9 = k_field_Text := by kernel_rfl

def k_field_Parse_r0 : List AOper := [
  ⟨some 2, .box (.const (.agg [.int .i64 0, .int .i64 0, .bool false, .nilsl])), none, []⟩,
 ⟨some 3, .move (.const (.int .i64 0)), none, []⟩,
 ⟨some 4, .move (.const (.int .i64 0)), none, []⟩]
def k_field_Parse_r1 : List AOper := [
  ⟨some 8, .move (.tmp 0), none, []⟩,
 ⟨some 9, .len true (.tmp 8), none, []⟩,
 ⟨some 10, .bin .plain .gtr (.tmp 9) (.const (.int .i64 400)), none, []⟩]
def k_field_Parse_r2 : List AOper := [
  ⟨some 11, .build [.int .i64 0, .int .i64 0, .bool false, .nilsl] [], none, []⟩,
 ⟨none, .store 4 (.tmp 2) (.tmp 11), none, []⟩,
 ⟨some 3, .move (.const (.int .i64 0)), none, []⟩,
 ⟨some 4, .move (.const (.int .i64 5)), none, []⟩]
def k_field_Parse_r3 : List AOper := [
  ⟨some 13, .move (.tmp 0), none, []⟩,
 ⟨some 14, .call (.const (.fn (.func 29) [] [])) [.tmp 13], none, []⟩,
 ⟨some 12, .move (.tmp 14), none, []⟩,
 ⟨some 15, .extract (.tmp 12) 0, none, []⟩,
 ⟨some 16, .extract (.tmp 12) 1, none, []⟩,
 ⟨some 5, .box (.const (.agg [.int .i64 0, .int .i64 0, .bool false, .nilsl])), none, []⟩,
 ⟨none, .store 4 (.tmp 5) (.tmp 15), none, []⟩,
 ⟨some 6, .move (.tmp 16), none, []⟩]
def k_field_Parse_r4 : List AOper := [
  ⟨some 17, .move (.tmp 6), none, []⟩,
 ⟨some 18, .bin .plain .neq (.tmp 17) (.const (.int .i64 0)), none, []⟩]
def k_field_Parse_r5 : List AOper := [
  ⟨some 19, .build [.int .i64 0, .int .i64 0, .bool false, .nilsl] [], none, []⟩,
 ⟨some 20, .move (.tmp 6), none, []⟩,
 ⟨none, .store 4 (.tmp 2) (.tmp 19), none, []⟩,
 ⟨some 3, .move (.tmp 20), none, []⟩,
 ⟨some 4, .move (.const (.int .i64 3)), none, []⟩]
def k_field_Parse_r6 : List AOper := [
  ⟨some 21, .load (some (4)) (.tmp 5), none, []⟩,
 ⟨some 22, .call (.const (.fn (.func 25) [] [])) [.tmp 21], none, []⟩,
 ⟨some 7, .move (.tmp 22), none, []⟩]
def k_field_Parse_r7 : List AOper := [
  ⟨some 23, .move (.tmp 7), none, []⟩,
 ⟨some 24, .bin .plain .neq (.tmp 23) (.const (.int .i64 0)), none, []⟩]
def k_field_Parse_r8 : List AOper := [
  ⟨some 25, .build [.int .i64 0, .int .i64 0, .bool false, .nilsl] [], none, []⟩,
 ⟨some 26, .move (.tmp 7), none, []⟩,
 ⟨none, .store 4 (.tmp 2) (.tmp 25), none, []⟩,
 ⟨some 3, .move (.const (.int .i64 0)), none, []⟩,
 ⟨some 4, .move (.tmp 26), none, []⟩]
def k_field_Parse_r9 : List AOper := [
  ⟨some 27, .load (some (4)) (.tmp 5), none, []⟩,
 ⟨none, .store 4 (.tmp 2) (.tmp 27), none, []⟩,
 ⟨some 3, .move (.const (.int .i64 0)), none, []⟩,
 ⟨some 4, .move (.const (.int .i64 0)), none, []⟩]
def k_field_Parse : AFun := { params := 1, ntmps := 28, body := (.seq (.reg k_field_Parse_r0 false) (.seq (.seq (.reg k_field_Parse_r1 false) (.cond (.tmp 10) (.seq (.reg k_field_Parse_r2 false) .ret) .skip)) (.seq (.reg k_field_Parse_r3 false) (.seq (.seq (.reg k_field_Parse_r4 false) (.cond (.tmp 18) (.seq (.reg k_field_Parse_r5 false) .ret) .skip)) (.seq (.seq (.reg k_field_Parse_r6 false) (.seq (.reg k_field_Parse_r7 false) (.cond (.tmp 24) (.seq (.reg k_field_Parse_r8 false) .ret) .skip))) (.seq (.reg k_field_Parse_r9 false) .ret)))))), res := [.cell 2 (some ((some (4)))), .tmp 3, .tmp 4] }
theorem k_field_Parse_ok : cfun Tryd.prog Tryd.f12 = k_field_Parse := by kernel_rfl

def k_slices_Chunk_int_int_r0 : List AOper := [
  ⟨some 2, .box (.tmp 0), none, []⟩,
 ⟨some 3, .box (.tmp 1), none, []⟩,
 ⟨some 4, .move (.const (.nilfn)), none, []⟩]
def k_slices_Chunk_int_int_r1 : List AOper := [
  ⟨some 5, .load none (.tmp 3), none, []⟩,
 ⟨some 6, .bin .plain .lss (.tmp 5) (.const (.int .i64 1)), none, []⟩]
def k_slices_Chunk_int_int_r2 : List AOper := [
  ⟨some 7, .makeIface 9 (.const (.str [99, 97, 110, 110, 111, 116, 32, 98, 101, 32, 108, 101, 115, 115, 32, 116, 104, 97, 110, 32, 49])), none, []⟩,
 ⟨none, .bad, none, []⟩]
def k_slices_Chunk_int_int_r3 : List AOper := [
  ⟨some 8, .makeFunc (.func 43) [] [.tmp 2, .tmp 3], none, []⟩,
 ⟨some 4, .move (.tmp 8), none, []⟩]
def k_slices_Chunk_int_int : AFun := { params := 2, ntmps := 9, body := (.seq (.reg k_slices_Chunk_int_int_r0 false) (.seq (.seq (.reg k_slices_Chunk_int_int_r1 false) (.cond (.tmp 6) (.reg k_slices_Chunk_int_int_r2 false) .skip)) (.seq (.reg k_slices_Chunk_int_int_r3 false) .ret))), res := [.tmp 4] }
theorem k_slices_Chunk_int_int_ok : cfun Tryd.prog Tryd.f26 = k_slices_Chunk_int_int := by kernel_rfl

def k_field_character_r0 : List AOper := [
  ⟨some 2, .move (.const (.int .u8 0)), none, []⟩]
def k_field_character_r1 : List AOper := [
  ⟨some 3, .move (.tmp 0), none, []⟩,
 ⟨some 4, .bin .plain .eql (.tmp 3) (.const (.int .i64 0)), none, []⟩]
def k_field_character_r2 : List AOper := [
  ⟨some 2, .move (.const (.int .u8 46)), none, []⟩]
def k_field_character_r3 : List AOper := [
  ⟨some 5, .move (.tmp 0), none, []⟩,
 ⟨some 6, .bin .plain .add (.const (.int .i64 48)) (.tmp 5), none, []⟩,
 ⟨some 7, .toInt .u8 (.tmp 6), none, []⟩,
 ⟨some 2, .move (.tmp 7), none, []⟩]
def k_field_character : AFun := { params := 1, ntmps := 8, body := (.seq (.reg k_field_character_r0 false) (.seq (.seq (.reg k_field_character_r1 false) (.cond (.tmp 4) (.seq (.reg k_field_character_r2 false) .ret) .skip)) (.seq (.reg k_field_character_r3 false) .ret))), res := [.tmp 2] }
theorem k_field_character_ok : cfun Tryd.prog Tryd.f27 = k_field_character := by kernel_rfl

def k_field_read_r0 : List AOper := [
  ⟨some 2, .box (.const (.agg [.int .i64 0, .int .i64 0, .bool false, .nilsl])), none, []⟩,
 ⟨some 3, .move (.const (.int .i64 0)), none, []⟩]
def k_field_read_r1 : List AOper := [
  ⟨some 10, .move (.tmp 0), none, []⟩,
 ⟨some 11, .call (.const (.fn (.func 46) [] [])) [.tmp 10, .const (.str [10])], none, []⟩,
 ⟨some 4, .move (.tmp 11), none, []⟩]
def k_field_read_r2 : List AOper := [
  ⟨some 12, .move (.tmp 4), none, []⟩,
 ⟨some 13, .len false (.tmp 12), none, []⟩,
 ⟨some 14, .bin .plain .sub (.tmp 13) (.const (.int .i64 1)), none, []⟩,
 ⟨some 5, .move (.tmp 14), none, []⟩]
def k_field_read_r3 : List AOper := [
  ⟨some 15, .move (.tmp 5), none, []⟩,
 ⟨some 16, .bin .plain .eql (.tmp 15) (.const (.int .i64 0)), none, []⟩,
 ⟨some 17, .move (.tmp 16), none, []⟩,
 ⟨some 18, .move (.tmp 4), (some (17, false)), []⟩,
 ⟨some 19, .indexAddr 1 (.tmp 18) (.const (.int .i64 0)), (some (17, false)), []⟩,
 ⟨some 20, .load none (.tmp 19), (some (17, false)), []⟩,
 ⟨some 21, .bin .plain .neq (.tmp 20) (.const (.str [114, 111, 117, 110, 100])), (some (17, false)), []⟩,
 ⟨some 22, .move (.tmp 21), (some (17, false)), []⟩,
 ⟨some 23, .move (.tmp 4), (some (22, true)), []⟩,
 ⟨some 24, .indexAddr 1 (.tmp 23) (.const (.int .i64 0)), (some (22, true)), []⟩,
 ⟨some 25, .load none (.tmp 24), (some (22, true)), []⟩,
 ⟨some 26, .bin .plain .neq (.tmp 25) (.const (.str [102, 108, 97, 116])), (some (22, true)), []⟩,
 ⟨some 27, .pick (.tmp 22) (.tmp 26) (.const (.bool false)), (some (17, false)), []⟩,
 ⟨some 28, .pick (.tmp 17) (.const (.bool true)) (.tmp 27), none, []⟩]
def k_field_read_r4 : List AOper := [
  ⟨some 29, .load (some (4)) (.tmp 2), none, []⟩,
 ⟨none, .store 4 (.tmp 2) (.tmp 29), none, []⟩,
 ⟨some 3, .move (.const (.int .i64 1)), none, []⟩]
def k_field_read_r5 : List AOper := [
  ⟨some 30, .move (.tmp 4), none, []⟩,
 ⟨some 31, .indexAddr 1 (.tmp 30) (.const (.int .i64 0)), none, []⟩,
 ⟨some 32, .load none (.tmp 31), none, []⟩,
 ⟨some 33, .bin .plain .eql (.tmp 32) (.const (.str [114, 111, 117, 110, 100])), none, []⟩,
 ⟨some 34, .fieldAddr 2 (.tmp 2), none, []⟩,
 ⟨none, .store 1 (.tmp 34) (.tmp 33), none, []⟩]
def k_field_read_r6 : List AOper := [
  ⟨some 35, .move (.tmp 5), none, []⟩,
 ⟨some 36, .bin .plain .sub (.tmp 35) (.const (.int .i64 1)), none, []⟩,
 ⟨some 37, .fieldAddr 1 (.tmp 2), none, []⟩,
 ⟨none, .store 1 (.tmp 37) (.tmp 36), none, []⟩]
def k_field_read_r7 : List AOper := [
  ⟨some 38, .move (.tmp 4), none, []⟩,
 ⟨some 39, .move (.tmp 5), none, []⟩,
 ⟨some 40, .slice false 1 (.tmp 38) (some (.const (.int .i64 1))) (some (.tmp 39)), none, []⟩,
 ⟨some 41, .len false (.tmp 40), none, []⟩,
 ⟨some 42, .move (.const (.int .i64 0)), none, []⟩]
def k_field_read_r8 : List AOper := [
  ⟨some 43, .bin .plain .lss (.tmp 42) (.tmp 41), none, []⟩]
def k_field_read_r9 : List AOper := [
  ⟨some 44, .move (.tmp 42), none, []⟩,
 ⟨some 45, .indexAddr 1 (.tmp 40) (.tmp 42), none, []⟩,
 ⟨some 46, .load none (.tmp 45), none, []⟩,
 ⟨some 6, .move (.tmp 44), none, []⟩,
 ⟨some 7, .move (.tmp 46), none, []⟩]
def k_field_read_r10 : List AOper := [
  ⟨some 47, .move (.tmp 7), none, []⟩,
 ⟨some 48, .fieldAddr 0 (.tmp 2), none, []⟩,
 ⟨some 49, .load none (.tmp 48), none, []⟩,
 ⟨some 50, .call (.const (.fn (.func 47) [] [])) [.tmp 47, .tmp 49], none, []⟩,
 ⟨some 51, .not (.tmp 50), none, []⟩]
def k_field_read_r11 : List AOper := [
  ⟨some 52, .load (some (4)) (.tmp 2), none, []⟩,
 ⟨some 53, .move (.tmp 6), none, []⟩,
 ⟨some 54, .bin .plain .add (.tmp 53) (.const (.int .i64 2)), none, []⟩,
 ⟨none, .store 4 (.tmp 2) (.tmp 52), none, []⟩,
 ⟨some 3, .move (.tmp 54), none, []⟩]
def k_field_read_r12 : List AOper := [
  ⟨some 55, .move (.tmp 7), none, []⟩,
 ⟨some 56, .len true (.tmp 55), none, []⟩,
 ⟨some 57, .fieldAddr 0 (.tmp 2), none, []⟩,
 ⟨none, .store 1 (.tmp 57) (.tmp 56), none, []⟩]
def k_field_read_r13 : List AOper := [
  ⟨some 58, .move (.tmp 7), none, []⟩,
 ⟨some 59, .strToBytes (.tmp 58), none, []⟩,
 ⟨some 60, .len false (.tmp 59), none, []⟩,
 ⟨some 61, .move (.const (.int .i64 0)), none, []⟩]
def k_field_read_r14 : List AOper := [
  ⟨some 62, .bin .plain .lss (.tmp 61) (.tmp 60), none, []⟩]
def k_field_read_r15 : List AOper := [
  ⟨some 63, .indexAddr 1 (.tmp 59) (.tmp 61), none, []⟩,
 ⟨some 64, .load none (.tmp 63), none, []⟩,
 ⟨some 9, .move (.tmp 64), none, []⟩]
def k_field_read_r16 : List AOper := [
  ⟨some 65, .fieldAddr 3 (.tmp 2), none, []⟩,
 ⟨some 66, .load none (.tmp 65), none, []⟩,
 ⟨some 67, .move (.tmp 9), none, [0, 1]⟩,
 ⟨some 68, .call (.const (.fn (.func 48) [] [])) [.tmp 67], none, [0, 1]⟩,
 ⟨some 69, .buildSlice 1 [.tmp 68], none, [0, 1]⟩,
 ⟨some 70, .append 1 8 false (.tmp 66) (.tmp 69), none, []⟩,
 ⟨some 71, .fieldAddr 3 (.tmp 2), none, []⟩,
 ⟨none, .store 1 (.tmp 71) (.tmp 70), none, []⟩]
def k_field_read_r16s : List (List AOper) := [
  [
  ⟨some 65, .fieldAddr 3 (.tmp 2), none, []⟩,
 ⟨some 66, .load none (.tmp 65), none, []⟩,
 ⟨some 67, .move (.tmp 9), none, [0, 1]⟩,
 ⟨some 68, .call (.const (.fn (.func 48) [] [])) [.tmp 67], none, [0, 1]⟩,
 ⟨some 69, .buildSlice 1 [.tmp 68], none, [0, 1]⟩], 
  [
  ⟨some 70, .append 1 8 false (.tmp 66) (.tmp 69), none, []⟩], 
  [
  ⟨some 71, .fieldAddr 3 (.tmp 2), none, []⟩], 
  [
  ⟨none, .store 1 (.tmp 71) (.tmp 70), none, []⟩]]
theorem k_field_read_r16_sg : segs k_field_read_r16 = k_field_read_r16s := by kernel_rfl
theorem k_field_read_r16_st : statOK k_field_read_r16 = true := by kernel_rfl
def k_field_read_r17 : List AOper := [
  ⟨some 72, .bin .plain .add (.tmp 61) (.const (.int .i64 1)), none, []⟩,
 ⟨some 61, .move (.tmp 72), none, []⟩]
def k_field_read_r18 : ACode := (.seq (.reg k_field_read_r14 false) (.seq (.cond (.tmp 62) .skip (.exit 2)) (.seq (.block 3 (.seq (.reg k_field_read_r15 false) (.reg k_field_read_r16 true))) (.reg k_field_read_r17 false))))
def k_field_read_r19 : List AOper := [
  ⟨some 73, .bin .plain .add (.tmp 42) (.const (.int .i64 1)), none, []⟩,
 ⟨some 42, .move (.tmp 73), none, []⟩]
def k_field_read_r20 : ACode := (.seq (.reg k_field_read_r8 false) (.seq (.cond (.tmp 43) .skip (.exit 0)) (.seq (.block 1 (.seq (.reg k_field_read_r9 false) (.seq (.seq (.reg k_field_read_r10 false) (.cond (.tmp 51) (.seq (.reg k_field_read_r11 false) .ret) .skip)) (.seq (.reg k_field_read_r12 false) (.seq (.reg k_field_read_r13 false) (.block 2 (.loop k_field_read_r18))))))) (.reg k_field_read_r19 false))))
def k_field_read_r21 : List AOper := [
  ⟨some 74, .fieldAddr 1 (.tmp 2), none, []⟩,
 ⟨some 75, .load none (.tmp 74), none, []⟩,
 ⟨some 76, .bin .plain .eql (.tmp 75) (.const (.int .i64 0)), none, []⟩,
 ⟨some 77, .move (.tmp 76), none, []⟩,
 ⟨some 78, .move (.tmp 4), (some (77, false)), []⟩,
 ⟨some 79, .move (.tmp 5), (some (77, false)), []⟩,
 ⟨some 80, .indexAddr 1 (.tmp 78) (.tmp 79), (some (77, false)), []⟩,
 ⟨some 81, .load none (.tmp 80), (some (77, false)), []⟩,
 ⟨some 82, .bin .plain .neq (.tmp 81) (.const (.str [])), (some (77, false)), []⟩,
 ⟨some 83, .pick (.tmp 77) (.const (.bool true)) (.tmp 82), none, []⟩]
def k_field_read_r22 : List AOper := [
  ⟨some 84, .load (some (4)) (.tmp 2), none, []⟩,
 ⟨some 85, .move (.tmp 4), none, []⟩,
 ⟨some 86, .len false (.tmp 85), none, []⟩,
 ⟨none, .store 4 (.tmp 2) (.tmp 84), none, []⟩,
 ⟨some 3, .move (.tmp 86), none, []⟩]
def k_field_read_r23 : List AOper := [
  ⟨some 87, .load (some (4)) (.tmp 2), none, []⟩,
 ⟨none, .store 4 (.tmp 2) (.tmp 87), none, []⟩,
 ⟨some 3, .move (.const (.int .i64 0)), none, []⟩]
def k_field_read : AFun := { params := 1, ntmps := 88, body := (.seq (.reg k_field_read_r0 false) (.seq (.reg k_field_read_r1 false) (.seq (.reg k_field_read_r2 false) (.seq (.seq (.reg k_field_read_r3 false) (.cond (.tmp 28) (.seq (.reg k_field_read_r4 false) .ret) .skip)) (.seq (.reg k_field_read_r5 false) (.seq (.reg k_field_read_r6 false) (.seq (.seq (.reg k_field_read_r7 false) (.block 0 (.loop k_field_read_r20))) (.seq (.seq (.reg k_field_read_r21 false) (.cond (.tmp 83) (.seq (.reg k_field_read_r22 false) .ret) .skip)) (.seq (.reg k_field_read_r23 false) .ret))))))))), res := [.cell 2 (some ((some (4)))), .tmp 3] }
theorem k_field_read_ok : cfun Tryd.prog Tryd.f29 = k_field_read := by kernel_rfl

def k_slices_Chunk_int_int_1_r0 : List AOper := [
  ⟨some 4, .move (.const (.int .i64 0)), none, []⟩]
def k_slices_Chunk_int_int_1_r1 : List AOper := [
  ⟨some 6, .move (.tmp 4), none, []⟩,
 ⟨some 7, .load none (.tmp 1), none, []⟩,
 ⟨some 8, .len false (.tmp 7), none, []⟩,
 ⟨some 9, .bin .plain .lss (.tmp 6) (.tmp 8), none, []⟩]
def k_slices_Chunk_int_int_1_r2 : List AOper := [
  ⟨some 13, .load none (.tmp 2), none, []⟩,
 ⟨some 14, .load none (.tmp 1), none, [0]⟩,
 ⟨some 15, .move (.tmp 4), none, [0, 1]⟩,
 ⟨some 16, .slice false 1 (.tmp 14) (some (.tmp 15)) none, none, [0]⟩,
 ⟨some 17, .len false (.tmp 16), none, [0]⟩,
 ⟨some 18, .minmax false [.tmp 13, .tmp 17], none, []⟩,
 ⟨some 5, .move (.tmp 18), none, []⟩]
def k_slices_Chunk_int_int_1_r2s : List (List AOper) := [
  [
  ⟨some 13, .load none (.tmp 2), none, []⟩,
 ⟨some 14, .load none (.tmp 1), none, [0]⟩,
 ⟨some 15, .move (.tmp 4), none, [0, 1]⟩,
 ⟨some 16, .slice false 1 (.tmp 14) (some (.tmp 15)) none, none, [0]⟩,
 ⟨some 17, .len false (.tmp 16), none, [0]⟩], 
  [
  ⟨some 18, .minmax false [.tmp 13, .tmp 17], none, []⟩], 
  [
  ⟨some 5, .move (.tmp 18), none, []⟩]]
theorem k_slices_Chunk_int_int_1_r2_sg : segs k_slices_Chunk_int_int_1_r2 = k_slices_Chunk_int_int_1_r2s := by kernel_rfl
theorem k_slices_Chunk_int_int_1_r2_st : statOK k_slices_Chunk_int_int_1_r2 = true := by kernel_rfl
def k_slices_Chunk_int_int_1_r3 : List AOper := [
  ⟨some 19, .move (.tmp 0), none, []⟩,
 ⟨some 20, .load none (.tmp 1), none, []⟩,
 ⟨some 21, .move (.tmp 4), none, []⟩,
 ⟨some 22, .move (.tmp 4), none, []⟩,
 ⟨some 23, .move (.tmp 5), none, []⟩,
 ⟨some 24, .bin .plain .add (.tmp 22) (.tmp 23), none, []⟩,
 ⟨some 25, .move (.tmp 4), none, []⟩,
 ⟨some 26, .move (.tmp 5), none, []⟩,
 ⟨some 27, .bin .plain .add (.tmp 25) (.tmp 26), none, []⟩,
 ⟨some 28, .slice3 1 (.tmp 20) (some (.tmp 21)) (.tmp 24) (.tmp 27), none, []⟩,
 ⟨some 29, .call (.tmp 19) [.tmp 28], none, []⟩,
 ⟨some 30, .not (.tmp 29), none, []⟩]
def k_slices_Chunk_int_int_1_r4 : List AOper := [
  ⟨some 10, .move (.tmp 4), none, []⟩,
 ⟨some 11, .load none (.tmp 2), none, []⟩,
 ⟨some 12, .bin .plain .add (.tmp 10) (.tmp 11), none, []⟩,
 ⟨some 4, .move (.tmp 12), none, []⟩]
def k_slices_Chunk_int_int_1_r5 : ACode := (.seq (.seq (.reg k_slices_Chunk_int_int_1_r1 false) (.cond (.tmp 9) .skip (.exit 0))) (.seq (.block 1 (.seq (.reg k_slices_Chunk_int_int_1_r2 true) (.seq (.reg k_slices_Chunk_int_int_1_r3 false) (.cond (.tmp 30) .ret .skip)))) (.reg k_slices_Chunk_int_int_1_r4 false)))
def k_slices_Chunk_int_int_1 : AFun := { params := 3, ntmps := 31, body := (.seq (.reg k_slices_Chunk_int_int_1_r0 false) (.block 0 (.loop k_slices_Chunk_int_int_1_r5))), res := [] }
theorem k_slices_Chunk_int_int_1_ok : cfun Tryd.prog Tryd.f43 = k_slices_Chunk_int_int_1 := by kernel_rfl

def k_strings_Split_r0 : List AOper := [
  ⟨some 4, .move (.const (.nilsl)), none, []⟩]
def k_strings_Split_r1 : List AOper := [
  ⟨some 5, .move (.tmp 0), none, []⟩,
 ⟨some 6, .move (.tmp 1), none, []⟩,
 ⟨some 7, .call (.const (.fn (.func 60) [] [])) [.tmp 5, .tmp 6, .const (.int .i64 0), .const (.int .i64 (-1))], none, []⟩,
 ⟨some 4, .move (.tmp 7), none, []⟩]
def k_strings_Split : AFun := { params := 2, ntmps := 8, body := (.seq (.reg k_strings_Split_r0 false) (.seq (.reg k_strings_Split_r1 false) .ret)), res := [.tmp 4] }
theorem k_strings_Split_ok : cfun Tryd.prog Tryd.f46 = k_strings_Split := by kernel_rfl

def k_field_isRow_r0 : List AOper := [
  ⟨some 4, .move (.const (.bool false)), none, []⟩]
def k_field_isRow_r1 : List AOper := [
  ⟨some 7, .move (.tmp 0), none, []⟩,
 ⟨some 8, .strToBytes (.tmp 7), none, []⟩,
 ⟨some 9, .len false (.tmp 8), none, []⟩,
 ⟨some 10, .move (.const (.int .i64 0)), none, []⟩]
def k_field_isRow_r2 : List AOper := [
  ⟨some 11, .bin .plain .lss (.tmp 10) (.tmp 9), none, []⟩]
def k_field_isRow_r3 : List AOper := [
  ⟨some 12, .indexAddr 1 (.tmp 8) (.tmp 10), none, []⟩,
 ⟨some 13, .load none (.tmp 12), none, []⟩,
 ⟨some 6, .move (.tmp 13), none, []⟩]
def k_field_isRow_r4 : List AOper := [
  ⟨some 14, .move (.tmp 6), none, []⟩,
 ⟨some 15, .bin .plain .neq (.tmp 14) (.const (.int .u8 46)), none, []⟩,
 ⟨some 16, .move (.tmp 15), none, []⟩,
 ⟨some 17, .move (.tmp 6), (some (16, true)), []⟩,
 ⟨some 18, .bin .plain .lss (.tmp 17) (.const (.int .u8 49)), (some (16, true)), []⟩,
 ⟨some 19, .move (.tmp 18), (some (16, true)), []⟩,
 ⟨some 20, .move (.tmp 6), (some (19, false)), []⟩,
 ⟨some 21, .bin .plain .gtr (.tmp 20) (.const (.int .u8 54)), (some (19, false)), []⟩,
 ⟨some 22, .pick (.tmp 19) (.const (.bool true)) (.tmp 21), (some (16, true)), []⟩,
 ⟨some 23, .pick (.tmp 16) (.tmp 22) (.const (.bool false)), none, []⟩]
def k_field_isRow_r5 : List AOper := [
  ⟨some 4, .move (.const (.bool false)), none, []⟩]
def k_field_isRow_r6 : List AOper := [
  ⟨some 24, .bin .plain .add (.tmp 10) (.const (.int .i64 1)), none, []⟩,
 ⟨some 10, .move (.tmp 24), none, []⟩]
def k_field_isRow_r7 : ACode := (.seq (.reg k_field_isRow_r2 false) (.seq (.cond (.tmp 11) .skip (.exit 0)) (.seq (.block 1 (.seq (.reg k_field_isRow_r3 false) (.seq (.reg k_field_isRow_r4 false) (.cond (.tmp 23) (.seq (.reg k_field_isRow_r5 false) .ret) .skip)))) (.reg k_field_isRow_r6 false))))
def k_field_isRow_r8 : List AOper := [
  ⟨some 25, .move (.tmp 0), none, []⟩,
 ⟨some 26, .len true (.tmp 25), none, []⟩,
 ⟨some 27, .bin .plain .gtr (.tmp 26) (.const (.int .i64 0)), none, []⟩,
 ⟨some 28, .move (.tmp 27), none, []⟩,
 ⟨some 29, .move (.tmp 1), (some (28, true)), []⟩,
 ⟨some 30, .bin .plain .eql (.tmp 29) (.const (.int .i64 0)), (some (28, true)), []⟩,
 ⟨some 31, .move (.tmp 30), (some (28, true)), []⟩,
 ⟨some 32, .move (.tmp 0), (some (31, false)), []⟩,
 ⟨some 33, .len true (.tmp 32), (some (31, false)), []⟩,
 ⟨some 34, .move (.tmp 1), (some (31, false)), []⟩,
 ⟨some 35, .bin .plain .eql (.tmp 33) (.tmp 34), (some (31, false)), []⟩,
 ⟨some 36, .pick (.tmp 31) (.const (.bool true)) (.tmp 35), (some (28, true)), []⟩,
 ⟨some 37, .pick (.tmp 28) (.tmp 36) (.const (.bool false)), none, []⟩,
 ⟨some 4, .move (.tmp 37), none, []⟩]
def k_field_isRow : AFun := { params := 2, ntmps := 38, body := (.seq (.reg k_field_isRow_r0 false) (.seq (.seq (.reg k_field_isRow_r1 false) (.block 0 (.loop k_field_isRow_r7))) (.seq (.reg k_field_isRow_r8 false) .ret))), res := [.tmp 4] }
theorem k_field_isRow_ok : cfun Tryd.prog Tryd.f47 = k_field_isRow := by kernel_rfl

def k_field_cellOf_r0 : List AOper := [
  ⟨some 2, .move (.const (.int .i64 0)), none, []⟩]
def k_field_cellOf_r1 : List AOper := [
  ⟨some 3, .move (.tmp 0), none, []⟩,
 ⟨some 4, .bin .plain .eql (.tmp 3) (.const (.int .u8 46)), none, []⟩]
def k_field_cellOf_r2 : List AOper := [
  ⟨some 2, .move (.const (.int .i64 0)), none, []⟩]
def k_field_cellOf_r3 : List AOper := [
  ⟨some 5, .move (.tmp 0), none, []⟩,
 ⟨some 6, .bin .plain .sub (.tmp 5) (.const (.int .u8 48)), none, []⟩,
 ⟨some 7, .toInt .i64 (.tmp 6), none, []⟩,
 ⟨some 2, .move (.tmp 7), none, []⟩]
def k_field_cellOf : AFun := { params := 1, ntmps := 8, body := (.seq (.reg k_field_cellOf_r0 false) (.seq (.seq (.reg k_field_cellOf_r1 false) (.cond (.tmp 4) (.seq (.reg k_field_cellOf_r2 false) .ret) .skip)) (.seq (.reg k_field_cellOf_r3 false) .ret))), res := [.tmp 2] }
theorem k_field_cellOf_ok : cfun Tryd.prog Tryd.f48 = k_field_cellOf := by kernel_rfl

def k_strings_genSplit_r0 : List AOper := [
  ⟨some 8, .move (.const (.nilsl)), none, []⟩]
def k_strings_genSplit_r1 : List AOper := [
  ⟨some 12, .move (.tmp 3), none, []⟩,
 ⟨some 13, .bin .plain .eql (.tmp 12) (.const (.int .i64 0)), none, []⟩]
def k_strings_genSplit_r2 : List AOper := [
  ⟨some 8, .move (.const (.nilsl)), none, []⟩]
def k_strings_genSplit_r3 : List AOper := [
  ⟨some 14, .move (.tmp 1), none, []⟩,
 ⟨some 15, .bin .plain .eql (.tmp 14) (.const (.str [])), none, []⟩]
def k_strings_genSplit_r4 : List AOper := [
  ⟨some 16, .move (.tmp 0), none, []⟩,
 ⟨some 17, .move (.tmp 3), none, []⟩,
 ⟨some 18, .call (.const (.fn (.func 64) [] [])) [.tmp 16, .tmp 17], none, []⟩,
 ⟨some 8, .move (.tmp 18), none, []⟩]
def k_strings_genSplit_r5 : List AOper := [
  ⟨some 19, .move (.tmp 3), none, []⟩,
 ⟨some 20, .bin .plain .lss (.tmp 19) (.const (.int .i64 0)), none, []⟩]
def k_strings_genSplit_r6 : List AOper := [
  ⟨some 21, .move (.tmp 0), none, []⟩,
 ⟨some 22, .move (.tmp 1), none, []⟩,
 ⟨some 23, .call (.const (.fn (.func 65) [] [])) [.tmp 21, .tmp 22], none, []⟩,
 ⟨some 24, .bin .plain .add (.tmp 23) (.const (.int .i64 1)), none, []⟩,
 ⟨some 3, .move (.tmp 24), none, []⟩]
def k_strings_genSplit_r7 : List AOper := [
  ⟨some 25, .move (.tmp 3), none, []⟩,
 ⟨some 26, .move (.tmp 0), none, []⟩,
 ⟨some 27, .len true (.tmp 26), none, []⟩,
 ⟨some 28, .bin .plain .add (.tmp 27) (.const (.int .i64 1)), none, []⟩,
 ⟨some 29, .minmax false [.tmp 25, .tmp 28], none, []⟩,
 ⟨some 3, .move (.tmp 29), none, []⟩]
def k_strings_genSplit_r8 : List AOper := [
  ⟨some 30, .move (.tmp 3), none, []⟩,
 ⟨some 31, .makeSlice (.str []) 16 (.tmp 30) (.tmp 30), none, []⟩,
 ⟨some 9, .move (.tmp 31), none, []⟩]
def k_strings_genSplit_r9 : List AOper := [
  ⟨some 32, .move (.tmp 3), none, []⟩,
 ⟨some 33, .bin .plain .sub (.tmp 32) (.const (.int .i64 1)), none, []⟩,
 ⟨some 3, .move (.tmp 33), none, []⟩]
def k_strings_genSplit_r10 : List AOper := [
  ⟨some 10, .move (.const (.int .i64 0)), none, []⟩]
def k_strings_genSplit_r11 : List AOper := [
  ⟨some 34, .move (.tmp 10), none, []⟩,
 ⟨some 35, .move (.tmp 3), none, []⟩,
 ⟨some 36, .bin .plain .lss (.tmp 34) (.tmp 35), none, []⟩]
def k_strings_genSplit_r12 : List AOper := [
  ⟨some 37, .move (.tmp 0), none, []⟩,
 ⟨some 38, .move (.tmp 1), none, []⟩,
 ⟨some 39, .call (.const (.fn (.func 66) [] [])) [.tmp 37, .tmp 38], none, []⟩,
 ⟨some 11, .move (.tmp 39), none, []⟩]
def k_strings_genSplit_r13 : List AOper := [
  ⟨some 40, .move (.tmp 11), none, []⟩,
 ⟨some 41, .bin .plain .lss (.tmp 40) (.const (.int .i64 0)), none, []⟩]
def k_strings_genSplit_r14 : List AOper := [
  ⟨some 42, .move (.tmp 9), none, []⟩,
 ⟨some 43, .move (.tmp 10), none, []⟩,
 ⟨some 44, .move (.tmp 0), none, []⟩,
 ⟨some 45, .move (.tmp 11), none, []⟩,
 ⟨some 46, .move (.tmp 2), none, []⟩,
 ⟨some 47, .bin .plain .add (.tmp 45) (.tmp 46), none, []⟩,
 ⟨some 48, .slice true 1 (.tmp 44) none (some (.tmp 47)), none, []⟩,
 ⟨some 49, .indexAddr 1 (.tmp 42) (.tmp 43), none, []⟩,
 ⟨none, .store 1 (.tmp 49) (.tmp 48), none, []⟩]
def k_strings_genSplit_r15 : List AOper := [
  ⟨some 50, .move (.tmp 0), none, []⟩,
 ⟨some 51, .move (.tmp 11), none, []⟩,
 ⟨some 52, .move (.tmp 1), none, []⟩,
 ⟨some 53, .len true (.tmp 52), none, []⟩,
 ⟨some 54, .bin .plain .add (.tmp 51) (.tmp 53), none, []⟩,
 ⟨some 55, .slice true 1 (.tmp 50) (some (.tmp 54)) none, none, []⟩,
 ⟨some 0, .move (.tmp 55), none, []⟩]
def k_strings_genSplit_r16 : List AOper := [
  ⟨some 56, .move (.tmp 10), none, []⟩,
 ⟨some 57, .bin .plain .add (.tmp 56) (.const (.int .i64 1)), none, []⟩,
 ⟨some 10, .move (.tmp 57), none, []⟩]
def k_strings_genSplit_r17 : ACode := (.seq (.seq (.reg k_strings_genSplit_r11 false) (.cond (.tmp 36) .skip (.exit 0))) (.block 1 (.seq (.reg k_strings_genSplit_r12 false) (.seq (.seq (.reg k_strings_genSplit_r13 false) (.cond (.tmp 41) (.exit 0) .skip)) (.seq (.reg k_strings_genSplit_r14 false) (.seq (.reg k_strings_genSplit_r15 false) (.reg k_strings_genSplit_r16 false)))))))
def k_strings_genSplit_r18 : List AOper := [
  ⟨some 58, .move (.tmp 9), none, []⟩,
 ⟨some 59, .move (.tmp 10), none, []⟩,
 ⟨some 60, .move (.tmp 0), none, []⟩,
 ⟨some 61, .indexAddr 1 (.tmp 58) (.tmp 59), none, []⟩,
 ⟨none, .store 1 (.tmp 61) (.tmp 60), none, []⟩]
def k_strings_genSplit_r19 : List AOper := [
  ⟨some 62, .move (.tmp 9), none, []⟩,
 ⟨some 63, .move (.tmp 10), none, []⟩,
 ⟨some 64, .bin .plain .add (.tmp 63) (.const (.int .i64 1)), none, []⟩,
 ⟨some 65, .slice false 1 (.tmp 62) none (some (.tmp 64)), none, []⟩,
 ⟨some 8, .move (.tmp 65), none, []⟩]
def k_strings_genSplit : AFun := { params := 4, ntmps := 66, body := (.seq (.reg k_strings_genSplit_r0 false) (.seq (.seq (.reg k_strings_genSplit_r1 false) (.cond (.tmp 13) (.seq (.reg k_strings_genSplit_r2 false) .ret) .skip)) (.seq (.seq (.reg k_strings_genSplit_r3 false) (.cond (.tmp 15) (.seq (.reg k_strings_genSplit_r4 false) .ret) .skip)) (.seq (.seq (.reg k_strings_genSplit_r5 false) (.cond (.tmp 20) (.reg k_strings_genSplit_r6 false) .skip)) (.seq (.reg k_strings_genSplit_r7 false) (.seq (.reg k_strings_genSplit_r8 false) (.seq (.reg k_strings_genSplit_r9 false) (.seq (.reg k_strings_genSplit_r10 false) (.seq (.block 0 (.loop k_strings_genSplit_r17)) (.seq (.reg k_strings_genSplit_r18 false) (.seq (.reg k_strings_genSplit_r19 false) .ret))))))))))), res := [.tmp 8] }
theorem k_strings_genSplit_ok : cfun Tryd.prog Tryd.f60 = k_strings_genSplit := by kernel_rfl

def k_strings_Count_r0 : List AOper := [
  ⟨some 4, .move (.const (.int .i64 0)), none, []⟩]
def k_strings_Count_r1 : List AOper := [
  ⟨some 7, .move (.tmp 1), none, []⟩,
 ⟨some 8, .len true (.tmp 7), none, []⟩,
 ⟨some 9, .bin .plain .eql (.tmp 8) (.const (.int .i64 0)), none, []⟩]
def k_strings_Count_r2 : List AOper := [
  ⟨some 10, .move (.tmp 0), none, []⟩,
 ⟨some 11, .call (.const (.fn (.func 67) [] [])) [.tmp 10], none, []⟩,
 ⟨some 12, .bin .plain .add (.tmp 11) (.const (.int .i64 1)), none, []⟩,
 ⟨some 4, .move (.tmp 12), none, []⟩]
def k_strings_Count_r3 : List AOper := [
  ⟨some 13, .move (.tmp 1), none, []⟩,
 ⟨some 14, .len true (.tmp 13), none, []⟩,
 ⟨some 15, .bin .plain .eql (.tmp 14) (.const (.int .i64 1)), none, []⟩]
def k_strings_Count_r4 : List AOper := [
  ⟨some 16, .move (.tmp 0), none, []⟩,
 ⟨some 17, .move (.tmp 1), none, []⟩,
 ⟨some 18, .indexStr (.tmp 17) (.const (.int .i64 0)), none, []⟩,
 ⟨some 19, .ext .count (.tmp 16) (.tmp 18), none, []⟩,
 ⟨some 4, .move (.tmp 19), none, []⟩]
def k_strings_Count_r5 : List AOper := [
  ⟨some 5, .move (.const (.int .i64 0)), none, []⟩]
def k_strings_Count_r6 : List AOper := [
  ⟨some 20, .move (.tmp 0), none, []⟩,
 ⟨some 21, .move (.tmp 1), none, []⟩,
 ⟨some 22, .call (.const (.fn (.func 66) [] [])) [.tmp 20, .tmp 21], none, []⟩,
 ⟨some 6, .move (.tmp 22), none, []⟩]
def k_strings_Count_r7 : List AOper := [
  ⟨some 23, .move (.tmp 6), none, []⟩,
 ⟨some 24, .bin .plain .eql (.tmp 23) (.const (.int .i64 (-1))), none, []⟩]
def k_strings_Count_r8 : List AOper := [
  ⟨some 25, .move (.tmp 5), none, []⟩,
 ⟨some 4, .move (.tmp 25), none, []⟩]
def k_strings_Count_r9 : List AOper := [
  ⟨some 26, .move (.tmp 5), none, []⟩,
 ⟨some 27, .bin .plain .add (.tmp 26) (.const (.int .i64 1)), none, []⟩,
 ⟨some 5, .move (.tmp 27), none, []⟩]
def k_strings_Count_r10 : List AOper := [
  ⟨some 28, .move (.tmp 0), none, []⟩,
 ⟨some 29, .move (.tmp 6), none, []⟩,
 ⟨some 30, .move (.tmp 1), none, []⟩,
 ⟨some 31, .len true (.tmp 30), none, []⟩,
 ⟨some 32, .bin .plain .add (.tmp 29) (.tmp 31), none, []⟩,
 ⟨some 33, .slice true 1 (.tmp 28) (some (.tmp 32)) none, none, []⟩,
 ⟨some 0, .move (.tmp 33), none, []⟩]
def k_strings_Count_r11 : ACode := (.block 1 (.seq (.reg k_strings_Count_r6 false) (.seq (.seq (.reg k_strings_Count_r7 false) (.cond (.tmp 24) (.seq (.reg k_strings_Count_r8 false) .ret) .skip)) (.seq (.reg k_strings_Count_r9 false) (.reg k_strings_Count_r10 false)))))
def k_strings_Count : AFun := { params := 2, ntmps := 34, body := (.seq (.reg k_strings_Count_r0 false) (.seq (.seq (.reg k_strings_Count_r1 false) (.cond (.tmp 9) (.seq (.reg k_strings_Count_r2 false) .ret) .skip)) (.seq (.seq (.reg k_strings_Count_r3 false) (.cond (.tmp 15) (.seq (.reg k_strings_Count_r4 false) .ret) .skip)) (.seq (.reg k_strings_Count_r5 false) (.block 0 (.loop k_strings_Count_r11)))))), res := [.tmp 4] }
theorem k_strings_Count_ok : cfun Tryd.prog Tryd.f65 = k_strings_Count := by kernel_rfl

def k_strings_Index_r0 : List AOper := [
  ⟨some 4, .move (.const (.int .i64 0)), none, []⟩]
def k_strings_Index_r1 : List AOper := [
  ⟨some 5, .move (.tmp 0), none, []⟩,
 ⟨some 6, .move (.tmp 1), none, []⟩,
 ⟨some 7, .call (.const (.fn (.func 70) [] [])) [.tmp 5, .tmp 6], none, []⟩,
 ⟨some 4, .move (.tmp 7), none, []⟩]
def k_strings_Index : AFun := { params := 2, ntmps := 8, body := (.seq (.reg k_strings_Index_r0 false) (.seq (.reg k_strings_Index_r1 false) .ret)), res := [.tmp 4] }
theorem k_strings_Index_ok : cfun Tryd.prog Tryd.f66 = k_strings_Index := by kernel_rfl

def k_stringslite_Index_r0 : List AOper := [
  ⟨some 4, .move (.const (.int .i64 0)), none, []⟩]
def k_stringslite_Index_r1 : List AOper := [
  ⟨some 14, .move (.tmp 1), none, []⟩,
 ⟨some 15, .len true (.tmp 14), none, []⟩,
 ⟨some 5, .move (.tmp 15), none, []⟩]
def k_stringslite_Index_r2 : List AOper := [
  ⟨some 17, .move (.tmp 5), none, []⟩,
 ⟨some 18, .bin .plain .eql (.tmp 17) (.const (.int .i64 0)), none, []⟩,
 ⟨some 19, .move (.tmp 18), none, []⟩,
 ⟨some 20, .move (.tmp 1), (some (19, false)), []⟩,
 ⟨some 21, .move (.tmp 0), (some (19, false)), []⟩,
 ⟨some 22, .bin .plain .eql (.tmp 20) (.tmp 21), (some (19, false)), []⟩,
 ⟨some 23, .pick (.tmp 19) (.const (.bool true)) (.tmp 22), none, []⟩,
 ⟨some 16, .move (.tmp 23), none, []⟩]
def k_stringslite_Index_r3 : List AOper := [
  ⟨some 4, .move (.const (.int .i64 0)), none, []⟩]
def k_stringslite_Index_r4 : List AOper := [
  ⟨some 25, .move (.tmp 5), none, []⟩,
 ⟨some 26, .bin .plain .eql (.tmp 25) (.const (.int .i64 1)), none, []⟩,
 ⟨some 24, .move (.tmp 26), none, []⟩]
def k_stringslite_Index_r5 : List AOper := [
  ⟨some 27, .move (.tmp 0), none, []⟩,
 ⟨some 28, .move (.tmp 1), none, []⟩,
 ⟨some 29, .indexStr (.tmp 28) (.const (.int .i64 0)), none, []⟩,
 ⟨some 30, .call (.const (.fn (.func 72) [] [])) [.tmp 27, .tmp 29], none, []⟩,
 ⟨some 4, .move (.tmp 30), none, []⟩]
def k_stringslite_Index_r6 : List AOper := [
  ⟨some 32, .move (.tmp 5), none, []⟩,
 ⟨some 33, .move (.tmp 0), none, []⟩,
 ⟨some 34, .len true (.tmp 33), none, []⟩,
 ⟨some 35, .bin .plain .geq (.tmp 32) (.tmp 34), none, []⟩,
 ⟨some 31, .move (.tmp 35), none, []⟩]
def k_stringslite_Index_r7 : List AOper := [
  ⟨some 4, .move (.const (.int .i64 (-1))), none, []⟩]
def k_stringslite_Index_r8 : List AOper := [
  ⟨some 37, .move (.tmp 5), none, []⟩,
 ⟨some 38, .load none (.const (.any)), none, []⟩,
 ⟨some 39, .bin .plain .leq (.tmp 37) (.tmp 38), none, []⟩,
 ⟨some 40, .move (.tmp 39), none, []⟩,
 ⟨some 41, .move (.tmp 0), (some (40, true)), []⟩,
 ⟨some 42, .len true (.tmp 41), (some (40, true)), []⟩,
 ⟨some 43, .bin .plain .leq (.tmp 42) (.const (.int .i64 64)), (some (40, true)), []⟩,
 ⟨some 44, .pick (.tmp 40) (.tmp 43) (.const (.bool false)), none, []⟩,
 ⟨some 36, .move (.tmp 44), none, []⟩]
def k_stringslite_Index_r9 : List AOper := [
  ⟨some 45, .move (.tmp 0), none, []⟩,
 ⟨some 46, .move (.tmp 1), none, []⟩,
 ⟨some 47, .call (.const (.fn (.func 73) [] [])) [.tmp 45, .tmp 46], none, []⟩,
 ⟨some 4, .move (.tmp 47), none, []⟩]
def k_stringslite_Index_r10 : List AOper := [
  ⟨some 48, .move (.tmp 1), none, []⟩,
 ⟨some 49, .indexStr (.tmp 48) (.const (.int .i64 0)), none, []⟩,
 ⟨some 6, .move (.tmp 49), none, []⟩]
def k_stringslite_Index_r11 : List AOper := [
  ⟨some 50, .move (.tmp 1), none, []⟩,
 ⟨some 51, .indexStr (.tmp 50) (.const (.int .i64 1)), none, []⟩,
 ⟨some 7, .move (.tmp 51), none, []⟩]
def k_stringslite_Index_r12 : List AOper := [
  ⟨some 8, .move (.const (.int .i64 0)), none, []⟩]
def k_stringslite_Index_r13 : List AOper := [
  ⟨some 52, .move (.tmp 0), none, []⟩,
 ⟨some 53, .len true (.tmp 52), none, []⟩,
 ⟨some 54, .move (.tmp 5), none, []⟩,
 ⟨some 55, .bin .plain .sub (.tmp 53) (.tmp 54), none, []⟩,
 ⟨some 56, .bin .plain .add (.tmp 55) (.const (.int .i64 1)), none, []⟩,
 ⟨some 9, .move (.tmp 56), none, []⟩]
def k_stringslite_Index_r14 : List AOper := [
  ⟨some 10, .move (.const (.int .i64 0)), none, []⟩]
def k_stringslite_Index_r15 : List AOper := [
  ⟨some 57, .move (.tmp 8), none, []⟩,
 ⟨some 58, .move (.tmp 9), none, []⟩,
 ⟨some 59, .bin .plain .lss (.tmp 57) (.tmp 58), none, []⟩]
def k_stringslite_Index_r16 : List AOper := [
  ⟨some 60, .move (.tmp 0), none, []⟩,
 ⟨some 61, .move (.tmp 8), none, []⟩,
 ⟨some 62, .indexStr (.tmp 60) (.tmp 61), none, []⟩,
 ⟨some 63, .move (.tmp 6), none, []⟩,
 ⟨some 64, .bin .plain .neq (.tmp 62) (.tmp 63), none, []⟩]
def k_stringslite_Index_r17 : List AOper := [
  ⟨some 65, .move (.tmp 0), none, []⟩,
 ⟨some 66, .move (.tmp 8), none, []⟩,
 ⟨some 67, .bin .plain .add (.tmp 66) (.const (.int .i64 1)), none, []⟩,
 ⟨some 68, .move (.tmp 9), none, []⟩,
 ⟨some 69, .slice true 1 (.tmp 65) (some (.tmp 67)) (some (.tmp 68)), none, []⟩,
 ⟨some 70, .move (.tmp 6), none, []⟩,
 ⟨some 71, .call (.const (.fn (.func 72) [] [])) [.tmp 69, .tmp 70], none, []⟩,
 ⟨some 11, .move (.tmp 71), none, []⟩]
def k_stringslite_Index_r18 : List AOper := [
  ⟨some 72, .move (.tmp 11), none, []⟩,
 ⟨some 73, .bin .plain .lss (.tmp 72) (.const (.int .i64 0)), none, []⟩]
def k_stringslite_Index_r19 : List AOper := [
  ⟨some 4, .move (.const (.int .i64 (-1))), none, []⟩]
def k_stringslite_Index_r20 : List AOper := [
  ⟨some 74, .move (.tmp 8), none, []⟩,
 ⟨some 75, .move (.tmp 11), none, []⟩,
 ⟨some 76, .bin .plain .add (.tmp 75) (.const (.int .i64 1)), none, []⟩,
 ⟨some 77, .bin .plain .add (.tmp 74) (.tmp 76), none, []⟩,
 ⟨some 8, .move (.tmp 77), none, []⟩]
def k_stringslite_Index_r21 : List AOper := [
  ⟨some 78, .move (.tmp 0), none, []⟩,
 ⟨some 79, .move (.tmp 8), none, []⟩,
 ⟨some 80, .bin .plain .add (.tmp 79) (.const (.int .i64 1)), none, []⟩,
 ⟨some 81, .indexStr (.tmp 78) (.tmp 80), none, []⟩,
 ⟨some 82, .move (.tmp 7), none, []⟩,
 ⟨some 83, .bin .plain .eql (.tmp 81) (.tmp 82), none, []⟩,
 ⟨some 84, .move (.tmp 83), none, []⟩,
 ⟨some 85, .move (.tmp 0), (some (84, true)), []⟩,
 ⟨some 86, .move (.tmp 8), (some (84, true)), []⟩,
 ⟨some 87, .move (.tmp 8), (some (84, true)), []⟩,
 ⟨some 88, .move (.tmp 5), (some (84, true)), []⟩,
 ⟨some 89, .bin .plain .add (.tmp 87) (.tmp 88), (some (84, true)), []⟩,
 ⟨some 90, .slice true 1 (.tmp 85) (some (.tmp 86)) (some (.tmp 89)), (some (84, true)), []⟩,
 ⟨some 91, .move (.tmp 1), (some (84, true)), []⟩,
 ⟨some 92, .bin .plain .eql (.tmp 90) (.tmp 91), (some (84, true)), []⟩,
 ⟨some 93, .pick (.tmp 84) (.tmp 92) (.const (.bool false)), none, []⟩]
def k_stringslite_Index_r22 : List AOper := [
  ⟨some 94, .move (.tmp 8), none, []⟩,
 ⟨some 4, .move (.tmp 94), none, []⟩]
def k_stringslite_Index_r23 : List AOper := [
  ⟨some 95, .move (.tmp 8), none, []⟩,
 ⟨some 96, .bin .plain .add (.tmp 95) (.const (.int .i64 1)), none, []⟩,
 ⟨some 8, .move (.tmp 96), none, []⟩]
def k_stringslite_Index_r24 : List AOper := [
  ⟨some 97, .move (.tmp 10), none, []⟩,
 ⟨some 98, .bin .plain .add (.tmp 97) (.const (.int .i64 1)), none, []⟩,
 ⟨some 10, .move (.tmp 98), none, []⟩]
def k_stringslite_Index_r25 : List AOper := [
  ⟨some 99, .move (.tmp 5), none, []⟩,
 ⟨some 100, .load none (.const (.any)), none, []⟩,
 ⟨some 101, .bin .plain .leq (.tmp 99) (.tmp 100), none, []⟩,
 ⟨some 102, .move (.tmp 101), none, []⟩,
 ⟨some 103, .move (.tmp 10), (some (102, true)), []⟩,
 ⟨some 104, .move (.tmp 8), (some (102, true)), []⟩,
 ⟨some 105, .call (.const (.fn (.func 74) [] [])) [.tmp 104], (some (102, true)), []⟩,
 ⟨some 106, .bin .plain .gtr (.tmp 103) (.tmp 105), (some (102, true)), []⟩,
 ⟨some 107, .pick (.tmp 102) (.tmp 106) (.const (.bool false)), none, []⟩]
def k_stringslite_Index_r26 : List AOper := [
  ⟨some 108, .move (.tmp 0), none, []⟩,
 ⟨some 109, .move (.tmp 8), none, []⟩,
 ⟨some 110, .slice true 1 (.tmp 108) (some (.tmp 109)) none, none, []⟩,
 ⟨some 111, .move (.tmp 1), none, []⟩,
 ⟨some 112, .call (.const (.fn (.func 73) [] [])) [.tmp 110, .tmp 111], none, []⟩,
 ⟨some 12, .move (.tmp 112), none, []⟩]
def k_stringslite_Index_r27 : List AOper := [
  ⟨some 113, .move (.tmp 12), none, []⟩,
 ⟨some 114, .bin .plain .geq (.tmp 113) (.const (.int .i64 0)), none, []⟩]
def k_stringslite_Index_r28 : List AOper := [
  ⟨some 115, .move (.tmp 12), none, []⟩,
 ⟨some 116, .move (.tmp 8), none, []⟩,
 ⟨some 117, .bin .plain .add (.tmp 115) (.tmp 116), none, []⟩,
 ⟨some 4, .move (.tmp 117), none, []⟩]
def k_stringslite_Index_r29 : List AOper := [
  ⟨some 4, .move (.const (.int .i64 (-1))), none, []⟩]
def k_stringslite_Index_r30 : List AOper := [
  ⟨some 118, .move (.tmp 5), none, []⟩,
 ⟨some 119, .load none (.const (.any)), none, []⟩,
 ⟨some 120, .bin .plain .gtr (.tmp 118) (.tmp 119), none, []⟩,
 ⟨some 121, .move (.tmp 120), none, []⟩,
 ⟨some 122, .move (.tmp 10), (some (121, true)), []⟩,
 ⟨some 123, .move (.tmp 8), (some (121, true)), []⟩,
 ⟨some 124, .bin .plain .shr (.tmp 123) (.const (.int .u64 4)), (some (121, true)), []⟩,
 ⟨some 125, .bin .plain .add (.const (.int .i64 4)) (.tmp 124), (some (121, true)), []⟩,
 ⟨some 126, .bin .plain .geq (.tmp 122) (.tmp 125), (some (121, true)), []⟩,
 ⟨some 127, .pick (.tmp 121) (.tmp 126) (.const (.bool false)), none, []⟩,
 ⟨some 128, .move (.tmp 127), none, []⟩,
 ⟨some 129, .move (.tmp 8), (some (128, true)), []⟩,
 ⟨some 130, .move (.tmp 9), (some (128, true)), []⟩,
 ⟨some 131, .bin .plain .lss (.tmp 129) (.tmp 130), (some (128, true)), []⟩,
 ⟨some 132, .pick (.tmp 128) (.tmp 131) (.const (.bool false)), none, []⟩]
def k_stringslite_Index_r31 : List AOper := [
  ⟨some 133, .move (.tmp 0), none, []⟩,
 ⟨some 134, .move (.tmp 8), none, []⟩,
 ⟨some 135, .slice true 1 (.tmp 133) (some (.tmp 134)) none, none, []⟩,
 ⟨some 136, .move (.tmp 1), none, []⟩,
 ⟨some 137, .call (.const (.fn (.func 75) [] [])) [.tmp 135, .tmp 136], none, []⟩,
 ⟨some 13, .move (.tmp 137), none, []⟩]
def k_stringslite_Index_r32 : List AOper := [
  ⟨some 138, .move (.tmp 13), none, []⟩,
 ⟨some 139, .bin .plain .lss (.tmp 138) (.const (.int .i64 0)), none, []⟩]
def k_stringslite_Index_r33 : List AOper := [
  ⟨some 4, .move (.const (.int .i64 (-1))), none, []⟩]
def k_stringslite_Index_r34 : List AOper := [
  ⟨some 140, .move (.tmp 8), none, []⟩,
 ⟨some 141, .move (.tmp 13), none, []⟩,
 ⟨some 142, .bin .plain .add (.tmp 140) (.tmp 141), none, []⟩,
 ⟨some 4, .move (.tmp 142), none, []⟩]
def k_stringslite_Index_r35 : ACode := (.seq (.seq (.reg k_stringslite_Index_r15 false) (.cond (.tmp 59) .skip (.exit 1))) (.block 2 (.seq (.seq (.reg k_stringslite_Index_r16 false) (.cond (.tmp 64) (.seq (.reg k_stringslite_Index_r17 false) (.seq (.seq (.reg k_stringslite_Index_r18 false) (.cond (.tmp 73) (.seq (.reg k_stringslite_Index_r19 false) .ret) .skip)) (.reg k_stringslite_Index_r20 false))) .skip)) (.seq (.seq (.reg k_stringslite_Index_r21 false) (.cond (.tmp 93) (.seq (.reg k_stringslite_Index_r22 false) .ret) .skip)) (.seq (.reg k_stringslite_Index_r23 false) (.seq (.reg k_stringslite_Index_r24 false) (.seq (.reg k_stringslite_Index_r25 false) (.cond (.tmp 107) (.seq (.reg k_stringslite_Index_r26 false) (.seq (.seq (.reg k_stringslite_Index_r27 false) (.cond (.tmp 114) (.seq (.reg k_stringslite_Index_r28 false) .ret) .skip)) (.seq (.reg k_stringslite_Index_r29 false) .ret))) (.seq (.reg k_stringslite_Index_r30 false) (.cond (.tmp 132) (.seq (.reg k_stringslite_Index_r31 false) (.seq (.seq (.reg k_stringslite_Index_r32 false) (.cond (.tmp 139) (.seq (.reg k_stringslite_Index_r33 false) .ret) .skip)) (.seq (.reg k_stringslite_Index_r34 false) .ret))) .skip))))))))))
def k_stringslite_Index_r36 : List AOper := [
  ⟨some 4, .move (.const (.int .i64 (-1))), none, []⟩]
def k_stringslite_Index : AFun := { params := 2, ntmps := 143, body := (.seq (.reg k_stringslite_Index_r0 false) (.seq (.reg k_stringslite_Index_r1 false) (.seq (.block 0 (.seq (.reg k_stringslite_Index_r2 false) (.cond (.tmp 16) (.seq (.reg k_stringslite_Index_r3 false) .ret) (.seq (.reg k_stringslite_Index_r4 false) (.cond (.tmp 24) (.seq (.reg k_stringslite_Index_r5 false) .ret) (.seq (.reg k_stringslite_Index_r6 false) (.cond (.tmp 31) (.seq (.reg k_stringslite_Index_r7 false) .ret) (.seq (.reg k_stringslite_Index_r8 false) (.cond (.tmp 36) (.seq (.reg k_stringslite_Index_r9 false) .ret) .skip))))))))) (.seq (.reg k_stringslite_Index_r10 false) (.seq (.reg k_stringslite_Index_r11 false) (.seq (.reg k_stringslite_Index_r12 false) (.seq (.reg k_stringslite_Index_r13 false) (.seq (.reg k_stringslite_Index_r14 false) (.seq (.block 1 (.loop k_stringslite_Index_r35)) (.seq (.reg k_stringslite_Index_r36 false) .ret)))))))))), res := [.tmp 4] }
theorem k_stringslite_Index_ok : cfun Tryd.prog Tryd.f70 = k_stringslite_Index := by kernel_rfl

def k_stringslite_IndexByte_r0 : List AOper := [
  ⟨some 4, .move (.const (.int .i64 0)), none, []⟩]
def k_stringslite_IndexByte_r1 : List AOper := [
  ⟨some 5, .move (.tmp 0), none, []⟩,
 ⟨some 6, .move (.tmp 1), none, []⟩,
 ⟨some 7, .ext .index (.tmp 5) (.tmp 6), none, []⟩,
 ⟨some 4, .move (.tmp 7), none, []⟩]
def k_stringslite_IndexByte : AFun := { params := 2, ntmps := 8, body := (.seq (.reg k_stringslite_IndexByte_r0 false) (.seq (.reg k_stringslite_IndexByte_r1 false) .ret)), res := [.tmp 4] }
theorem k_stringslite_IndexByte_ok : cfun Tryd.prog Tryd.f72 = k_stringslite_IndexByte := by kernel_rfl

abbrev n_field_Text : Nat := 9
theorem e_field_Text : EntryOK Tryd.prog n_field_Text k_field_Text := ⟨Tryd.f9, Tryd.func9, k_field_Text_ok, by kernel_rfl⟩
abbrev n_field_Parse : Nat := 12
theorem e_field_Parse : EntryOK Tryd.prog n_field_Parse k_field_Parse := ⟨Tryd.f12, Tryd.func12, k_field_Parse_ok, by kernel_rfl⟩
abbrev n_slices_Chunk_int_int : Nat := 26
theorem e_slices_Chunk_int_int : EntryOK Tryd.prog n_slices_Chunk_int_int k_slices_Chunk_int_int := ⟨Tryd.f26, Tryd.func26, k_slices_Chunk_int_int_ok, by kernel_rfl⟩
abbrev n_field_character : Nat := 27
theorem e_field_character : EntryOK Tryd.prog n_field_character k_field_character := ⟨Tryd.f27, Tryd.func27, k_field_character_ok, by kernel_rfl⟩
abbrev n_field_read : Nat := 29
theorem e_field_read : EntryOK Tryd.prog n_field_read k_field_read := ⟨Tryd.f29, Tryd.func29, k_field_read_ok, by kernel_rfl⟩
abbrev n_slices_Chunk_int_int_1 : Nat := 43
theorem e_slices_Chunk_int_int_1 : EntryOK Tryd.prog n_slices_Chunk_int_int_1 k_slices_Chunk_int_int_1 := ⟨Tryd.f43, Tryd.func43, k_slices_Chunk_int_int_1_ok, by kernel_rfl⟩
abbrev n_strings_Split : Nat := 46
theorem e_strings_Split : EntryOK Tryd.prog n_strings_Split k_strings_Split := ⟨Tryd.f46, Tryd.func46, k_strings_Split_ok, by kernel_rfl⟩
abbrev n_field_isRow : Nat := 47
theorem e_field_isRow : EntryOK Tryd.prog n_field_isRow k_field_isRow := ⟨Tryd.f47, Tryd.func47, k_field_isRow_ok, by kernel_rfl⟩
abbrev n_field_cellOf : Nat := 48
theorem e_field_cellOf : EntryOK Tryd.prog n_field_cellOf k_field_cellOf := ⟨Tryd.f48, Tryd.func48, k_field_cellOf_ok, by kernel_rfl⟩
abbrev n_strings_genSplit : Nat := 60
theorem e_strings_genSplit : EntryOK Tryd.prog n_strings_genSplit k_strings_genSplit := ⟨Tryd.f60, Tryd.func60, k_strings_genSplit_ok, by kernel_rfl⟩
abbrev n_strings_Count : Nat := 65
theorem e_strings_Count : EntryOK Tryd.prog n_strings_Count k_strings_Count := ⟨Tryd.f65, Tryd.func65, k_strings_Count_ok, by kernel_rfl⟩
abbrev n_strings_Index : Nat := 66
theorem e_strings_Index : EntryOK Tryd.prog n_strings_Index k_strings_Index := ⟨Tryd.f66, Tryd.func66, k_strings_Index_ok, by kernel_rfl⟩
abbrev n_stringslite_Index : Nat := 70
theorem e_stringslite_Index : EntryOK Tryd.prog n_stringslite_Index k_stringslite_Index := ⟨Tryd.f70, Tryd.func70, k_stringslite_Index_ok, by kernel_rfl⟩
abbrev n_stringslite_IndexByte : Nat := 72
theorem e_stringslite_IndexByte : EntryOK Tryd.prog n_stringslite_IndexByte k_stringslite_IndexByte := ⟨Tryd.f72, Tryd.func72, k_stringslite_IndexByte_ok, by kernel_rfl⟩
attribute [go_sem] k_field_Text_r0 k_field_Text_r1 k_field_Text_r2 k_field_Text_r3 k_field_Text_r4 k_field_Text_r5 k_field_Text_r6 k_field_Text_r7 k_field_Text_r8 k_field_Text_r9 k_field_Text_r10 k_field_Text_r11
attribute [go_sem] k_field_Text_r12 k_field_Text_r13s k_field_Text_r14 k_field_Text_r18 k_field_Parse_r0 k_field_Parse_r1 k_field_Parse_r2 k_field_Parse_r3 k_field_Parse_r4 k_field_Parse_r5 k_field_Parse_r6 k_field_Parse_r7
attribute [go_sem] k_field_Parse_r8 k_field_Parse_r9 k_slices_Chunk_int_int_r0 k_slices_Chunk_int_int_r1 k_slices_Chunk_int_int_r2 k_slices_Chunk_int_int_r3 k_field_character_r0 k_field_character_r1 k_field_character_r2 k_field_character_r3 k_field_read_r0 k_field_read_r1
attribute [go_sem] k_field_read_r2 k_field_read_r3 k_field_read_r4 k_field_read_r5 k_field_read_r6 k_field_read_r7 k_field_read_r8 k_field_read_r9 k_field_read_r10 k_field_read_r11 k_field_read_r12 k_field_read_r13
attribute [go_sem] k_field_read_r14 k_field_read_r15 k_field_read_r16s k_field_read_r17 k_field_read_r19 k_field_read_r21 k_field_read_r22 k_field_read_r23 k_slices_Chunk_int_int_1_r0 k_slices_Chunk_int_int_1_r1 k_slices_Chunk_int_int_1_r2s k_slices_Chunk_int_int_1_r3
attribute [go_sem] k_slices_Chunk_int_int_1_r4 k_strings_Split_r0 k_strings_Split_r1 k_field_isRow_r0 k_field_isRow_r1 k_field_isRow_r2 k_field_isRow_r3 k_field_isRow_r4 k_field_isRow_r5 k_field_isRow_r6 k_field_isRow_r8 k_field_cellOf_r0
attribute [go_sem] k_field_cellOf_r1 k_field_cellOf_r2 k_field_cellOf_r3 k_strings_genSplit_r0 k_strings_genSplit_r1 k_strings_genSplit_r2 k_strings_genSplit_r3 k_strings_genSplit_r4 k_strings_genSplit_r5 k_strings_genSplit_r6 k_strings_genSplit_r7 k_strings_genSplit_r8
attribute [go_sem] k_strings_genSplit_r9 k_strings_genSplit_r10 k_strings_genSplit_r11 k_strings_genSplit_r12 k_strings_genSplit_r13 k_strings_genSplit_r14 k_strings_genSplit_r15 k_strings_genSplit_r16 k_strings_genSplit_r18 k_strings_genSplit_r19
attribute [go_sem] k_strings_Count_r0 k_strings_Count_r1 k_strings_Count_r2 k_strings_Count_r3 k_strings_Count_r4 k_strings_Count_r5 k_strings_Count_r6 k_strings_Count_r7 k_strings_Count_r8 k_strings_Count_r9 k_strings_Count_r10 k_strings_Index_r0
attribute [go_sem] k_strings_Index_r1 k_stringslite_Index_r0 k_stringslite_Index_r1
attribute [go_sem] k_stringslite_Index_r2 k_stringslite_Index_r3 k_stringslite_Index_r4 k_stringslite_Index_r5 k_stringslite_Index_r6 k_stringslite_Index_r7 k_stringslite_Index_r8 k_stringslite_Index_r9 k_stringslite_Index_r10 k_stringslite_Index_r11 k_stringslite_Index_r12 k_stringslite_Index_r13
attribute [go_sem] k_stringslite_Index_r14 k_stringslite_Index_r15 k_stringslite_Index_r16 k_stringslite_Index_r17 k_stringslite_Index_r18 k_stringslite_Index_r19 k_stringslite_Index_r20 k_stringslite_Index_r21 k_stringslite_Index_r22 k_stringslite_Index_r23 k_stringslite_Index_r24 k_stringslite_Index_r25
attribute [go_sem] k_stringslite_Index_r26 k_stringslite_Index_r27 k_stringslite_Index_r28 k_stringslite_Index_r29 k_stringslite_Index_r30 k_stringslite_Index_r31 k_stringslite_Index_r32 k_stringslite_Index_r33 k_stringslite_Index_r34 k_stringslite_Index_r36
attribute [go_sem] k_stringslite_IndexByte_r0 k_stringslite_IndexByte_r1
attribute [go_sem] k_field_Text_r13_sg k_field_read_r16_sg k_slices_Chunk_int_int_1_r2_sg k_field_Text_r13_st k_field_read_r16_st k_slices_Chunk_int_int_1_r2_st k_field_Text k_field_Parse k_slices_Chunk_int_int k_field_character
attribute [go_sem] k_field_read k_slices_Chunk_int_int_1 k_strings_Split k_field_isRow k_field_cellOf k_strings_genSplit k_strings_Count k_strings_Index k_stringslite_Index
attribute [go_sem] k_stringslite_IndexByte
end Go.Proofs

namespace Go.Txt
open Go.Sx (cntB idxB)

def spl (c : UInt8) : List UInt8 → List (List UInt8)
  | [] => [[]]
  | b :: l => if b = c then [] :: spl c l else match spl c l with | p :: r => (b :: p) :: r | [] => [[b]]
def cnt (c : UInt8) : List UInt8 → Nat
  | [] => 0
  | b :: l => if b = c then cnt c l + 1 else cnt c l
def fst (c : UInt8) : List UInt8 → Nat
  | [] => 0
  | b :: l => if b = c then 0 else fst c l + 1

theorem cntB_eq (c : UInt8) : ∀ (l : List UInt8) (n : Int), cntB c l n = n + cnt c l
  | [], n => by simp [cntB, cnt]
  | b :: l, n => by
    simp only [cntB, cnt]
    by_cases h : b = c
    · rw [if_pos (by simpa using h), if_pos h, cntB_eq c l]; omega
    · rw [if_neg (by simpa using h), if_neg h, cntB_eq c l]
theorem idxB_eq (c : UInt8) : ∀ (l : List UInt8) (i : Int), idxB c l i = if cnt c l = 0 then -1 else i + fst c l
  | [], i => by simp [idxB, cnt]
  | b :: l, i => by
    by_cases h : b = c
    · have e1 : cnt c (b :: l) = cnt c l + 1 := by simp [cnt, h]
      have e2 : fst c (b :: l) = 0 := by simp [fst, h]
      rw [e1, e2, if_neg (by omega)]
      simp [idxB, h]
    · have e1 : cnt c (b :: l) = cnt c l := by simp [cnt, h]
      have e2 : fst c (b :: l) = fst c l + 1 := by simp [fst, h]
      have e3 : idxB c (b :: l) i = idxB c l (i + 1) := by simp [idxB, h]
      rw [e1, e2, e3, idxB_eq c l]
      split
      · rfl
      · omega
theorem spl_len (c : UInt8) : ∀ l : List UInt8, (spl c l).length = cnt c l + 1
  | [] => rfl
  | b :: l => by
    have := spl_len c l
    simp only [spl, cnt]
    split
    · simp [this]
    · split
      · rename_i p r e; rw [e] at this; simpa using this
      · rename_i e; rw [e] at this; simp at this
theorem spl_none (c : UInt8) : ∀ l : List UInt8, cnt c l = 0 → spl c l = [l]
  | [], _ => rfl
  | b :: l, h => by
    simp only [cnt] at h
    split at h
    · omega
    · rename_i hb
      simp only [spl, if_neg hb, spl_none c l h]
theorem spl_step (c : UInt8) : ∀ l : List UInt8, cnt c l ≠ 0 → spl c l = l.take (fst c l) :: spl c (l.drop (fst c l + 1)) ∧ fst c l < l.length ∧ cnt c (l.drop (fst c l + 1)) + 1 = cnt c l
  | [], h => absurd rfl h
  | b :: l, h => by
    simp only [cnt] at h
    by_cases hb : b = c
    · simp only [spl, fst, cnt, if_pos hb]
      simp
    · rw [if_neg hb] at h
      obtain ⟨h1, h2, h3⟩ := spl_step c l h
      simp only [spl, fst, cnt, if_neg hb]
      refine ⟨?_, by simp; omega, ?_⟩
      · rw [h1]; simp
      · simpa using h3
end Go.Txt

namespace Go.Txt

def okB (b : UInt8) : Bool := b == 46 || (decide (49 ≤ b.toNat) && decide (b.toNat ≤ 54))
def celB (b : UInt8) : Int := if b = 46 then 0 else (b.toNat : Int) - 48
def chB (n : Int) : UInt8 := if n = 0 then 46 else UInt8.ofNat (48 + n.toNat)
theorem ch_cel {b : UInt8} (h : okB b = true) : chB (celB b) = b := by
  unfold okB at h; unfold chB celB
  by_cases h0 : b = 46
  · subst h0; rfl
  · have h1 : ¬ (b == 46) = true := by simpa using h0
    simp only [Bool.or_eq_true, h1, Bool.and_eq_true, decide_eq_true_eq] at h
    rcases h with h | h
    · cases h
    rw [if_neg h0, if_neg (by omega)]
    have : 48 + ((b.toNat : Int) - 48).toNat = b.toNat := by omega
    rw [this]
    exact UInt8.ofNat_toNat
theorem cel_ch {n : Int} (h : 0 ≤ n ∧ n ≤ 6) : celB (chB n) = n ∧ okB (chB n) = true ∧ chB n ≠ 10 := by
  obtain ⟨m, rfl⟩ : ∃ m : Nat, n = m := ⟨n.toNat, by omega⟩
  have hm : m ≤ 6 := by omega
  have : ∀ m : Fin 7, celB (chB (m.val : Int)) = (m.val : Int) ∧ okB (chB (m.val : Int)) = true ∧ chB (m.val : Int) ≠ 10 := by decide
  exact this ⟨m, by omega⟩
theorem ok_ne {b : UInt8} (h : okB b = true) : b ≠ 10 := by
  rintro rfl; exact absurd h (by decide)
def joinR : List (List UInt8) → List UInt8
  | [] => []
  | r :: rs => r ++ 10 :: joinR rs
theorem spl_row {r : List UInt8} (h : ∀ b ∈ r, b ≠ 10) (t : List UInt8) : spl 10 (r ++ 10 :: t) = r :: spl 10 t := by
  induction r with
  | nil => simp [spl]
  | cons b r ih =>
    have hb : b ≠ 10 := h b (List.mem_cons_self ..)
    have := ih fun x hx => h x (List.mem_cons_of_mem _ hx)
    simp only [List.cons_append, spl, if_neg hb, this]
theorem spl_join : ∀ {R : List (List UInt8)}, (∀ r ∈ R, ∀ b ∈ r, b ≠ 10) → spl 10 (joinR R) = R ++ [[]]
  | [], _ => rfl
  | r :: R, h => by
    simp only [joinR]
    rw [spl_row (h r (List.mem_cons_self ..)), spl_join fun x hx => h x (List.mem_cons_of_mem _ hx)]
    rfl
theorem join_spl : ∀ (s : List UInt8) (R : List (List UInt8)) (l : List UInt8), spl 10 s = R ++ [l] → s = joinR R ++ l
  | [], R, l, h => by
    cases R with
    | nil => simp only [spl, List.nil_append, List.cons.injEq, and_true] at h; subst h; rfl
    | cons r R => simp [spl] at h
  | b :: s, R, l, h => by
    simp only [spl] at h
    split at h
    · rename_i hb
      cases R with
      | nil =>
        simp only [List.nil_append, List.cons.injEq] at h
        have := congrArg List.length h.2
        rw [spl_len] at this; simp at this
      | cons r R =>
        simp only [List.cons_append, List.cons.injEq] at h
        obtain ⟨rfl, h2⟩ := h
        rw [join_spl s R l h2, hb]; rfl
    · split at h
      · rename_i p q e
        cases R with
        | nil =>
          simp only [List.nil_append, List.cons.injEq] at h
          obtain ⟨rfl, rfl⟩ := h
          have := join_spl s [] p (by rw [e]; rfl)
          simp only [joinR, List.nil_append] at this ⊢
          rw [this]
        | cons r R =>
          simp only [List.cons_append, List.cons.injEq] at h
          obtain ⟨rfl, h2⟩ := h
          have := join_spl s (p :: R) l (by rw [e, h2]; rfl)
          rw [this]; simp [joinR]
      · rename_i e
        have := spl_len 10 s
        rw [e] at this; simp at this

def rowB (r : List UInt8) (w : Nat) : Bool := r.all okB && (decide (0 < r.length) && (decide (w = 0) || decide (r.length = w)))
def rr : List (List UInt8) → Nat → Nat → List Int → Nat × List Int × Nat
  | [], _, w, cs => (w, cs, 0)
  | r :: R, i, w, cs => if rowB r w = true then rr R (i + 1) r.length (cs ++ r.map celB) else (w, cs, i)
theorem rr_ok : ∀ (R : List (List UInt8)) (i w : Nat) (cs : List Int), (rr R (i + 1) w cs).2.2 = 0 → 
    (∀ r ∈ R, r.all okB = true ∧ r.length = (rr R (i + 1) w cs).1 ∧ 0 < r.length) ∧ (rr R (i + 1) w cs).2.1 = cs ++ (R.map fun r => r.map celB).flatten ∧ (w ≠ 0 → (rr R (i + 1) w cs).1 = w)
  | [], _, w, cs, _ => ⟨fun r hr => (by cases hr), (by simp [rr]), fun _ => rfl⟩
  | r :: R, i, w, cs, h => by
    simp only [rr] at h ⊢
    by_cases hr : rowB r w = true
    · rw [if_pos hr] at h ⊢
      obtain ⟨h1, h2, h3⟩ := rr_ok R (i + 1) r.length _ h
      simp only [rowB, Bool.and_eq_true, Bool.or_eq_true, decide_eq_true_eq] at hr
      have hw := h3 (by omega)
      refine ⟨fun x hx => ?_, by rw [h2]; simp, fun h0 => by rw [hw]; omega⟩
      rcases List.mem_cons.1 hx with rfl | hx
      · exact ⟨hr.1, hw.symm, hr.2.1⟩
      · exact h1 x hx
    · rw [if_neg hr] at h; simp at h
theorem rr_rows {w : Nat} (hw : 0 < w) : ∀ (R : List (List UInt8)) (i v : Nat) (cs : List Int), (v = 0 ∨ v = w) → R ≠ [] → (∀ r ∈ R, r.all okB = true ∧ r.length = w) → rr R i v cs = (w, cs ++ (R.map fun r => r.map celB).flatten, 0)
  | [], _, _, _, _, h, _ => absurd rfl h
  | r :: R, i, v, cs, hv, _, h => by
    obtain ⟨h1, h2⟩ := h r (List.mem_cons_self ..)
    have hr : rowB r v = true := by
      simp only [rowB, Bool.and_eq_true, Bool.or_eq_true, decide_eq_true_eq]
      exact ⟨h1, by omega, by omega⟩
    simp only [rr, if_pos hr]
    cases R with
    | nil => simp [rr, h2]
    | cons x R =>
      rw [rr_rows hw (x :: R) (i + 1) r.length _ (.inr h2) (by simp) fun y hy => h y (List.mem_cons_of_mem _ hy)]
      simp
def chk (w : Nat) : Nat → List Int → List (List Int)
  | 0, _ => []
  | h + 1, l => l.take w :: chk w h (l.drop w)
theorem chk_flat {w : Nat} : ∀ (L : List (List Int)), (∀ r ∈ L, r.length = w) → chk w L.length L.flatten = L
  | [], _ => rfl
  | r :: L, h => by
    have hr := h r (List.mem_cons_self ..)
    simp only [List.length_cons, List.flatten_cons, chk]
    rw [show (r ++ L.flatten).take w = r by rw [← hr]; simp, show (r ++ L.flatten).drop w = L.flatten by rw [← hr]; simp, chk_flat L fun x hx => h x (List.mem_cons_of_mem _ hx)]
theorem chk_len {w : Nat} : ∀ (h : Nat) (l : List Int), (chk w h l).length = h
  | 0, _ => rfl
  | h + 1, l => by simp [chk, chk_len h]
theorem chk_rows {w : Nat} : ∀ (h : Nat) (l : List Int), l.length = h * w → (∀ r ∈ chk w h l, r.length = w ∧ ∀ x ∈ r, x ∈ l) ∧ (chk w h l).flatten = l
  | 0, l, hl => by
    have : l = [] := by simpa using hl
    subst this
    exact ⟨fun r hr => (by cases hr), rfl⟩
  | h + 1, l, hl => by
    rw [Nat.add_mul, Nat.one_mul] at hl
    obtain ⟨h1, h2⟩ := chk_rows h (l.drop w) (by rw [List.length_drop, hl, Nat.add_sub_cancel])
    refine ⟨fun r hr => ?_, by simp only [chk, List.flatten_cons]; rw [h2, List.take_append_drop]⟩
    rcases List.mem_cons.1 hr with rfl | hr
    · exact ⟨by rw [List.length_take, hl]; exact Nat.min_eq_left (Nat.le_add_left ..), fun x hx => List.mem_of_mem_take hx⟩
    · exact ⟨(h1 r hr).1, fun x hx => List.mem_of_mem_drop ((h1 r hr).2 x hx)⟩
end Go.Txt

namespace Go.Proofs
open Go Go.Sx
open Go.Txt (spl cnt spl_len spl_none spl_step)
attribute [local irreducible] Run

theorem byte_back (c : UInt8) : c.toNat.toUInt8 = c := UInt8.ofNat_toNat
theorem Count_ok (s : List UInt8) (c : UInt8) : Ans Tryd.prog n_strings_Count [.str s, .str [c]] [] (.int .i64 (cnt c s)) [] := by
  refine spec_run e_strings_Count fun G => ?_
  simp only [go_sem, List.length_singleton, extV, byte_back, Go.Txt.cntB_eq, Int.zero_add]
theorem IndexByte_ok (s : List UInt8) (c : UInt8) : Ans Tryd.prog n_stringslite_IndexByte [.str s, .int .u8 c.toNat] [] (.int .i64 (if cnt c s = 0 then -1 else (Go.Txt.fst c s : Int))) [] := by
  refine spec_run e_stringslite_IndexByte fun G => ?_
  simp only [go_sem, extV, byte_back, Go.Txt.idxB_eq, Int.zero_add]
theorem sIndex_ok (s : List UInt8) (c : UInt8) : Ans Tryd.prog n_stringslite_Index [.str s, .str [c]] [] (.int .i64 (if cnt c s = 0 then -1 else (Go.Txt.fst c s : Int))) [] := by
  have kb := IndexByte_ok s c
  refine spec_run e_stringslite_Index fun G => ?_
  by_cases h : [c] = s
  · have e : (if cnt c s = 0 then (-1 : Int) else (Go.Txt.fst c s : Int)) = 0 := by subst h; simp [cnt, Go.Txt.fst]
    rw [e]
    have hb : ([c] == s) = true := by simpa using h
    simp only [go_sem, List.length_singleton, hb]
  · have hb : ([c] == s) = false := by simpa using h
    simp only [go_sem, List.length_singleton, hb]
    refine cP kb ?_
    simp only [go_sem]
theorem Index_ok (s : List UInt8) (c : UInt8) : Ans Tryd.prog n_strings_Index [.str s, .str [c]] [] (.int .i64 (if cnt c s = 0 then -1 else (Go.Txt.fst c s : Int))) [] := by
  have k := sIndex_ok s c
  refine spec_run e_strings_Index fun G => ?_
  simp only [go_sem]
  refine cP k ?_
  simp only [go_sem]
end Go.Proofs

namespace Go.Proofs
open Go Go.Sx

def Dr (w : Int) : Row := .cells false 1 [.agg [.int .u64 w]]
def dstep (w : Int) : Int := IntKind.u64.wrap (w + 11400714819323198485)
def dmix (w : Int) : Int :=
  let z := IntKind.u64.wrap (bitW .xor .u64 w (shrW .u64 w 30) * 13787848793156543929)
  let z := IntKind.u64.wrap (bitW .xor .u64 z (shrW .u64 z 27) * 10723151780598845931)
  bitW .xor .u64 z (shrW .u64 z 31)

theorem dr_bel (w : Int) (S : Nat → Prop) : (Dr w).bel S := by unfold Dr; rw [row_bel_cells]; simp only [go_sem]

theorem bitW_u64 (op : BinOp) (a b : Int) : 0 ≤ bitW op .u64 a b ∧ bitW op .u64 a b ≤ 18446744073709551615 := by
  have hw : ∀ n : Int, 0 ≤ IntKind.u64.wrap n ∧ IntKind.u64.wrap n ≤ 18446744073709551615 := fun n => by simp only [IntKind.wrap, IntKind.bits, IntKind.signed, Bool.false_and, Bool.false_eq_true, if_false]; omega
  unfold bitW bitsOf
  cases op <;> simp only [Option.getD_some, Option.getD_none] <;> first
    | exact hw _
    | omega

def upto (w n : Int) : Int := if n < 1 then 0 else (dmix (dstep w)) % n
theorem upto_in {w n : Int} (h : 1 ≤ n) : 0 ≤ upto w n ∧ upto w n < n := by
  unfold upto
  rw [if_neg (by omega)]
  exact ⟨Int.emod_nonneg _ (by omega), Int.emod_lt_of_pos _ (by omega)⟩
def btw (w lo hi : Int) : Int := lo + upto w (hi - lo + 1)
theorem btw_in {w lo hi : Int} (h : lo ≤ hi) : lo ≤ btw w lo hi ∧ btw w lo hi ≤ hi := by
  have := upto_in (w := w) (n := hi - lo + 1) (by omega)
  unfold btw; omega

def feed (w : Int) : List Int → Int
  | [] => w
  | x :: xs => feed (dstep (bitW .xor .u64 w (IntKind.u64.wrap x))) xs
def seedW (xs : List Int) : Int := feed (IntKind.u64.wrap (IntKind.u64.wrap xs.length + 1374496523)) xs

structure Rg where
  lo : Int
  hi : Int
  deriving Inhabited, DecidableEq

def Rg.v (r : Rg) : AVal := .agg [.int .i64 r.lo, .int .i64 r.hi]
@[go_sem] theorem rg_bel_eq (r : Rg) (S : Nat → Prop) : Bel S r.v = True := by unfold Rg.v; simp only [go_sem]
@[go_sem] theorem rg_nv (r : Rg) : NV r.v = True := by unfold Rg.v; simp only [go_sem]
@[go_sem] theorem dr_bel_eq (w : Int) (S : Nat → Prop) : (Dr w).bel S = True := eq_true (dr_bel w S)
theorem w64 {n : Int} (h : -9223372036854775808 ≤ n ∧ n ≤ 9223372036854775807) : IntKind.i64.wrap n = n := IntWalk.i64_in _ h
end Go.Proofs

namespace Go.Proofs
open Go Go.Sx
open Go.Txt (spl cnt spl_len spl_none spl_step)
attribute [local irreducible] Run

theorem cntT_le (c : UInt8) : ∀ l : List UInt8, cnt c l ≤ l.length
  | [] => Nat.le_refl _
  | b :: l => by
    have := cntT_le c l
    simp only [cnt, List.length_cons]
    split <;> omega
def strs (l : List (List UInt8)) : List AVal := l.map .str
def spH (D : List (List UInt8)) (k : Nat) : Heap := [some (.cells false 1 (strs D ++ List.replicate k (.str [])))]
theorem spH_set (D : List (List UInt8)) (k : Nat) (p : List UInt8) : (strs D ++ AVal.str [] :: List.replicate k (AVal.str [])).set D.length (.str p) = strs (D ++ [p]) ++ List.replicate k (.str []) := by
  have h : (strs D).length = D.length := by simp [strs]
  rw [← h, List.set_append_right _ _ (Nat.le_refl _)]
  simp [strs]
theorem spH_get (D : List (List UInt8)) (k : Nat) : (strs D ++ AVal.str [] :: List.replicate k (AVal.str []))[D.length]? = some (.str []) := by
  have h : (strs D).length = D.length := by simp [strs]
  rw [← h, List.getElem?_append_right (Nat.le_refl _)]
  simp

set_option maxHeartbeats 1000000 in
theorem genSplit_ok (s : List UInt8) (c : UInt8) (hl : s.length ≤ 1073741824) : Ans Tryd.prog n_strings_genSplit [.str s, .str [c], .int .i64 0, .int .i64 (-1)] [] (.sl 0 0 (cnt c s + 1)) [some (.cells false 1 (strs (spl c s)))] := by
  have hc := cntT_le c s
  have kc := Count_ok s c
  obtain ⟨N, hN⟩ : ∃ N, cnt c s = N := ⟨_, rfl⟩
  rw [hN] at hc kc ⊢
  have w1 : IntKind.i64.wrap ((N : Int) + 1) = ((N + 1 : Nat) : Int) := by rw [w64 (by omega)]; rfl
  have w2 : IntKind.i64.wrap ((s.length : Int) + 1) = (s.length : Int) + 1 := w64 (by omega)
  have w3 : IntKind.i64.wrap (((N + 1 : Nat) : Int) - 1) = (N : Int) := by rw [w64 (by omega)]; omega
  have m1 : ¬ (s.length : Int) + 1 < ((N + 1 : Nat) : Int) := by omega
  have m2 : (0 : Int) ≤ ((N + 1 : Nat) : Int) := by omega
  have m3 : ((N + 1 : Nat) : Int) ≤ 2 ^ 44 := by omega
  have m4 : ((N + 1 : Nat) : Int) * 16 ≤ 2 ^ 44 := by omega
  refine spec_run e_strings_genSplit fun G => ?_
  simp only [go_sem]
  refine cP kc ?_
  simp only [go_sem, w1, w2, w3, m1, m2, m3, m4, Int.toNat_natCast]
  refine ⟨Int.le_refl _, ?_⟩
  refine loop_ind k_strings_genSplit_r17.eq_1 (fun a : List (List UInt8) × List UInt8 => spl c s = a.1 ++ spl c a.2 ∧ a.1.length + cnt c a.2 = N ∧ a.2.length ≤ s.length) (fun a => N - a.1.length)
    (fun a => (tsets 66 [(0, .str a.2), (1, .str [c]), (2, .int .i64 0), (3, .int .i64 N), (8, .nilsl), (9, .sl 0 0 (N + 1)), (10, .int .i64 a.1.length)], spH a.1 (N + 1 - a.1.length))) ([], s) ⟨rfl, by simpa using hN, Nat.le_refl _⟩ (by simp [go_sem]) (by simp [spH, strs, List.replicate_succ]) ?_
  rintro ⟨D, t⟩ ⟨hD, hc2, ht⟩ ih
  dsimp only at hD hc2 ht ih ⊢
  obtain ⟨i, hi⟩ : ∃ i, D.length = i := ⟨_, rfl⟩
  by_cases h1 : i < N
  · have hne : cnt c t ≠ 0 := by omega
    obtain ⟨e1, e2, e3⟩ := spl_step c t hne
    have ki := Index_ok t c
    rw [if_neg hne] at ki
    obtain ⟨m, hm⟩ : ∃ m, Go.Txt.fst c t = m := ⟨_, rfl⟩
    rw [hm] at ki e1 e2 e3
    have g1 : (i : Int) < N := by omega
    have n0 : ¬ (m : Int) < 0 := by omega
    have n1 : ¬ (i : Int) < 0 := by omega
    have v1 : IntKind.i64.wrap ((m : Int) + 0) = m := by rw [w64 (by omega)]; omega
    have v2 : IntKind.i64.wrap ((m : Int) + 1) = ((m + 1 : Nat) : Int) := by rw [w64 (by omega)]; rfl
    have v3 : IntKind.i64.wrap ((i : Int) + 1) = ((i + 1 : Nat) : Int) := by rw [w64 (by omega)]; rfl
    have q1 : (0 : Int) ≤ (m : Int) := by omega
    have q2 : (m : Int) ≤ (t.length : Int) := by omega
    have q3 : (0 : Int) ≤ ((m + 1 : Nat) : Int) := by omega
    have q4 : ((m + 1 : Nat) : Int) ≤ (t.length : Int) := by omega
    have q5 : (i : Int) < ((N + 1 : Nat) : Int) := by omega
    have hk : N + 1 - i = (N - i) + 1 := by omega
    have hg := spH_get D (N - i)
    have hs := spH_set D (N - i) (t.take m)
    rw [hi] at hg hs
    simp only [go_sem, hi, g1]
    refine cP ki ?_
    simp only [spH, hk]
    simp only [go_sem, n0, n1, v1, v2, v3, q1, q2, q3, q4, q5, Int.toNat_natCast, Nat.sub_zero, hg, hs]
    have hlD : (D ++ [t.take m]).length = i + 1 := by simp [hi]
    have h2 := ih (D ++ [t.take m], t.drop (m + 1)) (by dsimp only; rw [hlD]; omega) ⟨by dsimp only; rw [hD, e1]; simp, by dsimp only; rw [hlD]; omega, by dsimp only; rw [List.length_drop]; omega⟩
    have htk : List.take (t.length - (m + 1)) (List.drop (m + 1) t) = t.drop (m + 1) := List.take_of_length_le (by rw [List.length_drop]; omega)
    rw [htk]
    rw [hlD] at h2
    have hN1 : N + 1 - (i + 1) = N - i := by omega
    rw [spH, hN1] at h2
    exact ⟨Int.le_refl _, h2 _ (by simp [go_sem])⟩
  · have hiN : i = N := by omega
    subst hiN
    have h0 : cnt c t = 0 := by omega
    have e1 := spl_none c t h0
    have g1 : ¬ (i : Int) < i := by omega
    have n1 : ¬ (i : Int) < 0 := by omega
    have v3 : IntKind.i64.wrap ((i : Int) + 1) = ((i + 1 : Nat) : Int) := by rw [w64 (by omega)]; rfl
    have q5 : (i : Int) < ((i + 1 : Nat) : Int) := by omega
    have hk : i + 1 - i = 0 + 1 := by omega
    have hg := spH_get D 0
    have hs := spH_set D 0 t
    rw [hi] at hg hs
    simp only [List.replicate_zero, List.append_nil] at hg hs
    have z1 : ¬ (0 : Int) = ((i + 1 : Nat) : Int) := by omega
    have z2 : (0 : Int) ≤ ((i + 1 : Nat) : Int) := by omega
    simp only [spH, hi, hk]
    simp only [go_sem, g1, n1, v3, q5, Int.toNat_natCast, Nat.sub_zero, hg, hs, z1, z2]
    exact ⟨Int.le_refl _, [], by rw [hD, e1]⟩

@[go_sem] theorem strs_bel (g : Bool) (l : List (List UInt8)) (S : Nat → Prop) : (Row.cells g 1 (strs l)).bel S = True := by
  rw [row_bel_cells]; exact eq_true (bels_map _ _ fun p => .str p)
@[go_sem] theorem strs_nv (g : Bool) (l : List (List UInt8)) : (Row.cells g 1 (strs l)).nv = True := eq_true (row_nv_cells _ _ (by
  unfold strs
  induction l with
  | nil => trivial
  | cons p l ih => exact ⟨by simp only [go_sem], ih⟩))
theorem Split_ok (s : List UInt8) (c : UInt8) (hl : s.length ≤ 1073741824) : Ans Tryd.prog n_strings_Split [.str s, .str [c]] [] (.sl 0 0 (cnt c s + 1)) [some (.cells false 1 (strs (spl c s)))] := by
  have k := genSplit_ok s c hl
  refine spec_run e_strings_Split fun G => ?_
  simp only [go_sem]
  refine cFN k 6 ⟨.inl rfl, .inl rfl, .inl rfl, .inl rfl, trivial⟩ ?_
  simp only [go_sem, ren]
  exact ⟨[], rfl⟩
end Go.Proofs

namespace Go.Proofs
open Go Go.Sx
open Go.Txt (spl cnt spl_len spl_none spl_step okB celB chB rowB rr)
attribute [local irreducible] Run

theorem byte_get {r : List UInt8} {i : Nat} (h : i < r.length) : (r.map byteV)[i]? = some (.int .u8 (r[i].toNat : Int)) := by simp [h, byteV]
theorem wk_refl : ∀ ρ : List AVal, Wk ρ ρ
  | [] => trivial
  | _ :: ρ => ⟨.inr rfl, wk_refl ρ⟩

theorem cellOf_ok {b : UInt8} (h : okB b = true) : Ans Tryd.prog n_field_cellOf [.int .u8 b.toNat] [] (.int .i64 (celB b)) [] := by
  refine spec_run e_field_cellOf fun G => ?_
  unfold okB at h
  by_cases h0 : b = 46
  · subst h0
    have e : ((46 : UInt8).toNat : Int) = 46 := rfl
    simp only [go_sem, e]
    rfl
  · have hn : b.toNat ≠ 46 := fun e => h0 (UInt8.toNat_inj.1 e)
    have h1 : ¬ (b == 46) = true := by simpa using h0
    simp only [Bool.or_eq_true, h1, Bool.and_eq_true, decide_eq_true_eq] at h
    rcases h with h | h
    · cases h
    have e : ((b.toNat : Int) == 46) = false := by rw [beq_eq_false_iff_ne]; omega
    have w1 : IntKind.u8.wrap ((b.toNat : Int) - 48) = (b.toNat : Int) - 48 := IntWalk.u8_in _ (by omega)
    have w2 : IntKind.i64.wrap ((b.toNat : Int) - 48) = (b.toNat : Int) - 48 := w64 (by omega)
    unfold celB
    rw [if_neg h0]
    simp only [go_sem, e, w1, w2]

set_option maxHeartbeats 1000000 in
theorem isRow_ok (r : List UInt8) (w : Nat) (hl : r.length ≤ 1073741824) : Ans Tryd.prog n_field_isRow [.str r, .int .i64 w] [] (.bool (rowB r w)) [] := by
  refine spec_run e_field_isRow fun G => ?_
  simp only [go_sem]
  refine loop_ind k_field_isRow_r7.eq_1 (fun i : Nat => i ≤ r.length ∧ ∀ b ∈ r.take i, okB b = true) (fun i => r.length - i)
    (fun i => (tsets 38 [(0, .str r), (1, .int .i64 w), (4, .bool false), (8, .sl 0 0 r.length), (9, .int .i64 r.length), (10, .int .i64 i)], [some (.cells true 1 (r.map byteV))])) 0 ⟨Nat.zero_le _, fun b hb => by simp at hb⟩ (by simp [go_sem]) rfl ?_
  rintro i ⟨hi, hA⟩ ih
  dsimp only at hi hA ih ⊢
  by_cases h1 : i < r.length
  · have g1 : (i : Int) < r.length := by omega
    have n0 : ¬ (i : Int) < 0 := by omega
    have h3 : IntKind.i64.wrap ((i : Int) + 1) = ((i + 1 : Nat) : Int) := by rw [w64 (by omega)]; rfl
    have hx := byte_get h1
    have htk : r.take (i + 1) = r.take i ++ [r[i]] := by rw [List.take_add_one, List.getElem?_eq_getElem h1]; rfl
    have hmem : r[i] ∈ r := List.getElem_mem h1
    obtain ⟨b, hb⟩ : ∃ b, r[i] = b := ⟨_, rfl⟩
    rw [hb] at hx htk hmem
    have hno : okB b = false → rowB r w = false := fun h => by
      unfold rowB
      have : r.all okB = false := by
        rw [Bool.eq_false_iff]; intro hall
        have := List.all_eq_true.1 hall b hmem
        rw [h] at this; cases this
      rw [this]; rfl
    by_cases h0 : b = 46
    · have ok : okB b = true := by subst h0; rfl
      have e : ((b.toNat : Int) != 46) = false := by subst h0; rfl
      simp only [go_sem, g1, n0, hx, Int.toNat_natCast, e, h3]
      exact ih (i + 1) (by omega) ⟨h1, fun x hx => by
        rw [htk] at hx
        rcases List.mem_append.1 hx with hx | hx
        · exact hA x hx
        · rw [List.mem_singleton.1 hx]; exact ok⟩ _ (by simp [go_sem])
    · have hn : b.toNat ≠ 46 := fun e => h0 (UInt8.toNat_inj.1 e)
      have e : ((b.toNat : Int) != 46) = true := by rw [bne_iff_ne]; omega
      have h46 : (b == 46) = false := by simpa using h0
      by_cases l1 : (b.toNat : Int) < 49
      · have ok : okB b = false := by
          unfold okB; rw [h46]
          have : decide (49 ≤ b.toNat) = false := by rw [decide_eq_false_iff_not]; omega
          rw [this]; rfl
        rw [hno ok]
        simp only [go_sem, g1, n0, hx, Int.toNat_natCast, e, l1]
      · by_cases l2 : (b.toNat : Int) > 54
        · have ok : okB b = false := by
            unfold okB; rw [h46]
            have : decide (b.toNat ≤ 54) = false := by rw [decide_eq_false_iff_not]; omega
            rw [this, Bool.and_false]; rfl
          rw [hno ok]
          simp only [go_sem, g1, n0, hx, Int.toNat_natCast, e, l1, l2]
        · have ok : okB b = true := by
            unfold okB
            simp only [Bool.or_eq_true, Bool.and_eq_true, decide_eq_true_eq]
            exact .inr ⟨by omega, by omega⟩
          simp only [go_sem, g1, n0, hx, Int.toNat_natCast, e, l1, l2, h3]
          exact ih (i + 1) (by omega) ⟨h1, fun x hx => by
            rw [htk] at hx
            rcases List.mem_append.1 hx with hx | hx
            · exact hA x hx
            · rw [List.mem_singleton.1 hx]; exact ok⟩ _ (by simp [go_sem])
  · have g1 : ¬ (i : Int) < r.length := by omega
    have hall : r.take i = r := List.take_of_length_le (by omega)
    rw [hall] at hA
    have ha : r.all okB = true := List.all_eq_true.2 hA
    unfold rowB
    rw [ha]
    by_cases p0 : 0 < r.length
    · have p1 : (r.length : Int) > 0 := by omega
      by_cases w0 : w = 0
      · subst w0
        simp only [go_sem, g1, p1, p0]
      · have w1 : ((w : Int) == 0) = false := by rw [beq_eq_false_iff_ne]; omega
        by_cases wl : r.length = w
        · subst wl
          have w2 : ((r.length : Int) == (r.length : Int)) = true := by rw [beq_iff_eq]
          simp only [go_sem, g1, p1, p0, w0, w1, w2]
        · have w2 : ((r.length : Int) == (w : Int)) = false := by rw [beq_eq_false_iff_ne]; omega
          simp only [go_sem, g1, p1, p0, w0, w1, w2, wl]
    · have p1 : ¬ (r.length : Int) > 0 := by omega
      simp only [go_sem, g1, p1, p0]
end Go.Proofs

namespace Go.Proofs
open Go Go.Sx
open Go.Txt (spl cnt spl_len spl_none spl_step okB celB chB rowB rr)
attribute [local irreducible] Run

def ivl (l : List Int) : List AVal := l.map (.int .i64)
def csV (j : Nat) (cs : List Int) : AVal := if cs = [] then .nilsl else .sl j 0 cs.length
def plR (w h : Int) (rd : Bool) (sl : AVal) : Row := .cells false 4 [.agg [.int .i64 w, .int .i64 h, .bool rd, sl]]
def rdH (w h : Int) (rd : Bool) (cs : List Int) (R : List (List UInt8)) : Heap :=
  if cs = [] then [some (plR w h rd .nilsl), some (.cells false 1 (strs R))] else [some (plR w h rd (.sl 2 0 cs.length)), some (.cells false 1 (strs R)), some (.cells true 1 (ivl cs))]
@[go_sem] theorem ivr_bel (g : Bool) (l : List Int) (S : Nat → Prop) : (Row.cells g 1 (ivl l)).bel S = True := by unfold ivl; rw [row_bel_cells, bels_ints]
def rdT (N : Nat) (rsl : AVal) (i : Nat) : List (Nat × AVal) := [(2, .ptr 0 0 0 1), (3, .int .i64 0), (4, .sl 1 0 (N + 1)), (5, .int .i64 N), (40, rsl), (41, .int .i64 ((N : Int) - 1)), (42, .int .i64 i)]

set_option maxRecDepth 20000 in
theorem rp_back {P : Program} {G : Ctx} {rd : Option Nat} {c : ACode} {fs : List Sx.Frame} {Q : Goal} {ρ : List AVal} {H : Heap} {w h : Int} {b : Bool} {cs : List Int} {R : List (List UInt8)} {j N i off len : Nat} (hW : Wk ρ (tsets 88 (rdT N (.sl 1 off len) i)))
    (h0 : H[0]? = some (some (plR w h b (.sl j 0 cs.length)))) (h1 : H[1]? = some (some (.cells false 1 (strs R)))) (hj : H[j]? = some (some (.cells true 1 (ivl cs)))) (hj1 : 2 ≤ j) (hne : cs ≠ []) (h : Sx.Loop P G 0 rd c fs ⟨tsets 88 (rdT N (.sl 1 off len) i), rdH w h b cs R, []⟩ Q) : Sx.Loop P G 0 rd c fs ⟨ρ, H, []⟩ Q := by
  unfold rdH at h
  rw [if_neg hne] at h
  refine loop_wk hW (loop_gc (fun i => if i = 0 then 0 else if i = 1 then 1 else j) (fun i hi => by omega) (by simp) (fun i k hi hk e => ?_) ?_ ?_ (fun i x hx => ?_) h)
  · simp only [List.length_cons, List.length_nil] at hi hk
    by_cases a : i = 0 <;> by_cases b : k = 0 <;> by_cases a1 : i = 1 <;> by_cases b1 : k = 1 <;> simp [a, b, a1, b1] at e <;> omega
  · simp [go_sem, rdT, ren]
  · simp [go_sem, rdT]
  · have hi := (List.getElem?_eq_some_iff.1 hx).1
    simp only [List.length_cons, List.length_nil] at hi
    obtain rfl | rfl | rfl : i = 0 ∨ i = 1 ∨ i = 2 := by omega
    · simp only [List.getElem?_cons_zero, Option.some.injEq] at hx
      subst hx
      refine ⟨?_, ?_⟩
      · show H[0]? = _
        rw [h0]; rfl
      · unfold plR; rw [row_bel_cells]; simp [go_sem]
    · simp only [List.getElem?_cons_succ, List.getElem?_cons_zero, Option.some.injEq] at hx
      subst hx
      exact ⟨by rw [Row.ren_same (by simp only [go_sem])]; exact h1, by simp only [go_sem]⟩
    · simp only [List.getElem?_cons_succ, List.getElem?_cons_zero, Option.some.injEq] at hx
      subst hx
      exact ⟨by rw [Row.ren_same (by simp only [go_sem])]; exact hj, by simp only [go_sem]⟩
end Go.Proofs

