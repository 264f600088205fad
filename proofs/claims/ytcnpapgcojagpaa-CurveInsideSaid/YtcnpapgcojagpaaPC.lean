import Derived.Test.YtcnpapgcojagpaaPB
import Derived.IntWalk
set_option linter.unusedSimpArgs false
set_option linter.unusedVariables false
namespace Go.Proofs
open Go Go.Sx
def k_law02_large_r0 : List AOper := [oz 1 (.box (.tmp 0)), oz 2 (.move (.const (.bool false)))]
def k_law02_large_r1 : List AOper := [oz 3 (.fieldAddr 2 (.tmp 1)), oz 4 (.load none (.tmp 3)), oz 5 (.len false (.tmp 4)), oz 6 (.bin .plain .gtr (.tmp 5) (.const (.int .i64 50))), mz 7 6, ⟨some 8, .fieldAddr 3 (.tmp 1), (some (7, false)), []⟩, ⟨some 9, .load none (.tmp 8), (some (7, false)), []⟩, ⟨some 10, .len false (.tmp 9), (some (7, false)), []⟩, ⟨some 11, .bin .plain .gtr (.tmp 10) (.const (.int .i64 50)), (some (7, false)), []⟩, oz 12 (.pick (.tmp 7) (.const (.bool true)) (.tmp 11)), mz 13 12, ⟨some 14, .fieldAddr 0 (.tmp 1), (some (13, false)), []⟩, ⟨some 15, .load none (.tmp 14), (some (13, false)), []⟩, ⟨some 16, .fieldAddr 1 (.tmp 1), (some (13, false)), []⟩, ⟨some 17, .load none (.tmp 16), (some (13, false)), []⟩, ⟨some 18, .buildSlice 1 [.tmp 15, .tmp 17], (some (13, false)), []⟩, ⟨some 19, .call (.const (.fn (.func 61) [] [])) [.tmp 18], (some (13, false)), []⟩, oz 20 (.pick (.tmp 13) (.const (.bool true)) (.tmp 19))]
def k_law02_large_r2 : List AOper := [oz 2 (.move (.const (.bool true)))]
def k_law02_large_r3 : List AOper := [oz 21 (.fieldAddr 2 (.tmp 1)), oz 22 (.load none (.tmp 21)), oz 23 (.call (.const (.fn (.func 61) [] [])) [.tmp 22]), mz 24 23, ⟨some 25, .fieldAddr 3 (.tmp 1), (some (24, false)), []⟩, ⟨some 26, .load none (.tmp 25), (some (24, false)), []⟩, ⟨some 27, .call (.const (.fn (.func 61) [] [])) [.tmp 26], (some (24, false)), []⟩, oz 28 (.pick (.tmp 24) (.const (.bool true)) (.tmp 27)), mz 2 28]
def k_law02_large : AFun := { params := 1, ntmps := 29, body := (.seq (.reg k_law02_large_r0 false) (.seq (.seq (.reg k_law02_large_r1 false) (.cond (.tmp 20) (.seq (.reg k_law02_large_r2 false) .ret) .skip)) (.seq (.reg k_law02_large_r3 false) .ret))), res := [.tmp 2] }
theorem k_law02_large_ok : cfun Try.prog Try.f24 = k_law02_large := by kernel_rfl
def k_law02_long_r0 : List AOper := [oz 2 (.move (.const (.bool false)))]
def k_law02_long_r1 : List AOper := [oz 3 (.move (.const (.int .i64 0)))]
def k_law02_long_r2 : List AOper := [mz 4 3, mz 5 0, oz 6 (.len false (.tmp 5)), oz 7 (.bin .plain .lss (.tmp 4) (.tmp 6))]
def k_law02_long_r3 : List AOper := [mz 10 0, mz 11 3, oz 12 (.indexAddr 1 (.tmp 10) (.tmp 11)), oz 13 (.load none (.tmp 12)), oz 14 (.len false (.tmp 13)), oz 15 (.bin .plain .gtr (.tmp 14) (.const (.int .i64 50)))]
def k_law02_long_r4 : List AOper := [oz 2 (.move (.const (.bool true)))]
def k_law02_long_r5 : List AOper := [mz 8 3, oz 9 (.bin .plain .add (.tmp 8) (.const (.int .i64 1))), mz 3 9]
def k_law02_long_r6 : ACode := (.seq (.seq (.reg k_law02_long_r2 false) (.cond (.tmp 7) .skip (.exit 0))) (.seq (.block 1 (.seq (.reg k_law02_long_r3 false) (.cond (.tmp 15) (.seq (.reg k_law02_long_r4 false) .ret) .skip))) (.reg k_law02_long_r5 false)))
def k_law02_long_r7 : List AOper := [oz 2 (.move (.const (.bool false)))]
def k_law02_long : AFun := { params := 1, ntmps := 16, body := (.seq (.reg k_law02_long_r0 false) (.seq (.seq (.reg k_law02_long_r1 false) (.block 0 (.loop k_law02_long_r6))) (.seq (.reg k_law02_long_r7 false) .ret))), res := [.tmp 2] }
theorem k_law02_long_ok : cfun Try.prog Try.f61 = k_law02_long := by kernel_rfl
abbrev n_law02_large : Nat := 24
theorem e_law02_large : EntryOK Try.prog n_law02_large k_law02_large := ⟨Try.f24, Try.func24, k_law02_large_ok, by kernel_rfl⟩
abbrev n_law02_long : Nat := 61
theorem e_law02_long : EntryOK Try.prog n_law02_long k_law02_long := ⟨Try.f61, Try.func61, k_law02_long_ok, by kernel_rfl⟩
attribute [go_sem] k_law02_large_r0 k_law02_large_r1 k_law02_large_r2 k_law02_large_r3 k_law02_long_r0 k_law02_long_r1 k_law02_long_r2 k_law02_long_r3 k_law02_long_r4 k_law02_long_r5 k_law02_long_r7
attribute [go_sem] k_law02_large k_law02_long
end Go.Proofs
namespace Go.Proofs
open Go Go.Sx
def k_ref02_Same_r0 : List AOper := [oz 2 (.box (.tmp 0)), oz 3 (.box (.tmp 1)), oz 4 (.move (.const (.bool false)))]
def k_ref02_Same_r1 : List AOper := [oz 5 (.fieldAddr 0 (.tmp 2)), oz 6 (.load none (.tmp 5)), oz 7 (.fieldAddr 0 (.tmp 3)), oz 8 (.load none (.tmp 7)), oz 9 (.call (.const (.fn (.func 77) [] [])) [.tmp 6, .tmp 8]), mz 10 9, ⟨some 11, .fieldAddr 1 (.tmp 2), (some (10, true)), []⟩, ⟨some 12, .load none (.tmp 11), (some (10, true)), []⟩, ⟨some 13, .fieldAddr 1 (.tmp 3), (some (10, true)), []⟩, ⟨some 14, .load none (.tmp 13), (some (10, true)), []⟩, ⟨some 15, .call (.const (.fn (.func 77) [] [])) [.tmp 12, .tmp 14], (some (10, true)), []⟩, oz 16 (.pick (.tmp 10) (.tmp 15) (.const (.bool false))), mz 17 16, ⟨some 18, .fieldAddr 2 (.tmp 2), (some (17, true)), []⟩, ⟨some 19, .load none (.tmp 18), (some (17, true)), []⟩, ⟨some 20, .fieldAddr 2 (.tmp 3), (some (17, true)), []⟩, ⟨some 21, .load none (.tmp 20), (some (17, true)), []⟩, ⟨some 22, .call (.const (.fn (.func 78) [] [])) [.tmp 19, .tmp 21], (some (17, true)), []⟩, oz 23 (.pick (.tmp 17) (.tmp 22) (.const (.bool false))), mz 24 23, ⟨some 25, .fieldAddr 3 (.tmp 2), (some (24, true)), []⟩, ⟨some 26, .load none (.tmp 25), (some (24, true)), []⟩, ⟨some 27, .fieldAddr 3 (.tmp 3), (some (24, true)), []⟩, ⟨some 28, .load none (.tmp 27), (some (24, true)), []⟩, ⟨some 29, .call (.const (.fn (.func 78) [] [])) [.tmp 26, .tmp 28], (some (24, true)), []⟩, oz 30 (.pick (.tmp 24) (.tmp 29) (.const (.bool false))), mz 4 30]
def k_ref02_Same : AFun := { params := 2, ntmps := 31, body := (.seq (.reg k_ref02_Same_r0 false) (.seq (.reg k_ref02_Same_r1 false) .ret)), res := [.tmp 4] }
theorem k_ref02_Same_ok : cfun Try.prog Try.f30 = k_ref02_Same := by kernel_rfl
def k_ref02_sameInts_r0 : List AOper := [oz 4 (.move (.const (.bool false)))]
def k_ref02_sameInts_r1 : List AOper := [mz 6 0, oz 7 (.len false (.tmp 6)), mz 8 1, oz 9 (.len false (.tmp 8)), oz 10 (.bin .plain .neq (.tmp 7) (.tmp 9))]
def k_ref02_sameInts_r2 : List AOper := [oz 4 (.move (.const (.bool false)))]
def k_ref02_sameInts_r3 : List AOper := [oz 5 (.move (.const (.int .i64 0)))]
def k_ref02_sameInts_r4 : List AOper := [mz 11 5, mz 12 0, oz 13 (.len false (.tmp 12)), oz 14 (.bin .plain .lss (.tmp 11) (.tmp 13))]
def k_ref02_sameInts_r5s : List (List AOper) := [[mz 17 0, qz 18 (.move (.tmp 5)) [0], oz 19 (.indexAddr 1 (.tmp 17) (.tmp 18)), oz 20 (.load none (.tmp 19)), qz 21 (.move (.tmp 1)) [0, 1, 2, 3], qz 22 (.move (.tmp 5)) [0, 1, 2, 3, 4], qz 23 (.indexAddr 1 (.tmp 21) (.tmp 22)) [0, 1, 2, 3], qz 24 (.load none (.tmp 23)) [0, 1, 2, 3]], [oz 25 (.bin .plain .neq (.tmp 20) (.tmp 24))]]
def k_ref02_sameInts_r5 : List AOper := k_ref02_sameInts_r5s.flatten
theorem k_ref02_sameInts_r5_sg : segs k_ref02_sameInts_r5 = k_ref02_sameInts_r5s := by kernel_rfl
theorem k_ref02_sameInts_r5_st : statOK k_ref02_sameInts_r5 = true := by kernel_rfl
def k_ref02_sameInts_r6 : List AOper := [oz 4 (.move (.const (.bool false)))]
def k_ref02_sameInts_r7 : List AOper := [mz 15 5, oz 16 (.bin .plain .add (.tmp 15) (.const (.int .i64 1))), mz 5 16]
def k_ref02_sameInts_r8 : ACode := (.seq (.seq (.reg k_ref02_sameInts_r4 false) (.cond (.tmp 14) .skip (.exit 0))) (.seq (.block 1 (.seq (.reg k_ref02_sameInts_r5 true) (.cond (.tmp 25) (.seq (.reg k_ref02_sameInts_r6 false) .ret) .skip))) (.reg k_ref02_sameInts_r7 false)))
def k_ref02_sameInts_r9 : List AOper := [oz 4 (.move (.const (.bool true)))]
def k_ref02_sameInts : AFun := { params := 2, ntmps := 26, body := (.seq (.reg k_ref02_sameInts_r0 false) (.seq (.seq (.reg k_ref02_sameInts_r1 false) (.cond (.tmp 10) (.seq (.reg k_ref02_sameInts_r2 false) .ret) .skip)) (.seq (.seq (.reg k_ref02_sameInts_r3 false) (.block 0 (.loop k_ref02_sameInts_r8))) (.seq (.reg k_ref02_sameInts_r9 false) .ret)))), res := [.tmp 4] }
theorem k_ref02_sameInts_ok : cfun Try.prog Try.f77 = k_ref02_sameInts := by kernel_rfl
def k_ref02_sameTable_r0 : List AOper := [oz 4 (.move (.const (.bool false)))]
def k_ref02_sameTable_r1 : List AOper := [mz 6 0, oz 7 (.len false (.tmp 6)), mz 8 1, oz 9 (.len false (.tmp 8)), oz 10 (.bin .plain .neq (.tmp 7) (.tmp 9))]
def k_ref02_sameTable_r2 : List AOper := [oz 4 (.move (.const (.bool false)))]
def k_ref02_sameTable_r3 : List AOper := [oz 5 (.move (.const (.int .i64 0)))]
def k_ref02_sameTable_r4 : List AOper := [mz 11 5, mz 12 0, oz 13 (.len false (.tmp 12)), oz 14 (.bin .plain .lss (.tmp 11) (.tmp 13))]
def k_ref02_sameTable_r5s : List (List AOper) := [[mz 17 0, qz 18 (.move (.tmp 5)) [0], oz 19 (.indexAddr 1 (.tmp 17) (.tmp 18)), oz 20 (.load none (.tmp 19)), qz 21 (.move (.tmp 1)) [0, 1, 2, 3], qz 22 (.move (.tmp 5)) [0, 1, 2, 3, 4], qz 23 (.indexAddr 1 (.tmp 21) (.tmp 22)) [0, 1, 2, 3], qz 24 (.load none (.tmp 23)) [0, 1, 2, 3]], [oz 25 (.call (.const (.fn (.func 77) [] [])) [.tmp 20, .tmp 24])], [oz 26 (.not (.tmp 25))]]
def k_ref02_sameTable_r5 : List AOper := k_ref02_sameTable_r5s.flatten
theorem k_ref02_sameTable_r5_sg : segs k_ref02_sameTable_r5 = k_ref02_sameTable_r5s := by kernel_rfl
theorem k_ref02_sameTable_r5_st : statOK k_ref02_sameTable_r5 = true := by kernel_rfl
def k_ref02_sameTable_r6 : List AOper := [oz 4 (.move (.const (.bool false)))]
def k_ref02_sameTable_r7 : List AOper := [mz 15 5, oz 16 (.bin .plain .add (.tmp 15) (.const (.int .i64 1))), mz 5 16]
def k_ref02_sameTable_r8 : ACode := (.seq (.seq (.reg k_ref02_sameTable_r4 false) (.cond (.tmp 14) .skip (.exit 0))) (.seq (.block 1 (.seq (.reg k_ref02_sameTable_r5 true) (.cond (.tmp 26) (.seq (.reg k_ref02_sameTable_r6 false) .ret) .skip))) (.reg k_ref02_sameTable_r7 false)))
def k_ref02_sameTable_r9 : List AOper := [oz 4 (.move (.const (.bool true)))]
def k_ref02_sameTable : AFun := { params := 2, ntmps := 27, body := (.seq (.reg k_ref02_sameTable_r0 false) (.seq (.seq (.reg k_ref02_sameTable_r1 false) (.cond (.tmp 10) (.seq (.reg k_ref02_sameTable_r2 false) .ret) .skip)) (.seq (.seq (.reg k_ref02_sameTable_r3 false) (.block 0 (.loop k_ref02_sameTable_r8))) (.seq (.reg k_ref02_sameTable_r9 false) .ret)))), res := [.tmp 4] }
theorem k_ref02_sameTable_ok : cfun Try.prog Try.f78 = k_ref02_sameTable := by kernel_rfl
def k_curve_copied_r0 : List AOper := [oz 2 (.move (.const (.nilsl)))]
def k_curve_copied_r1 : List AOper := [mz 3 0, oz 4 (.append 1 8 false (.const (.nilsl)) (.tmp 3)), mz 2 4]
def k_curve_copied : AFun := { params := 1, ntmps := 5, body := (.seq (.reg k_curve_copied_r0 false) (.seq (.reg k_curve_copied_r1 false) .ret)), res := [.tmp 2] }
theorem k_curve_copied_ok : cfun Try.prog Try.f79 = k_curve_copied := by kernel_rfl
abbrev n_ref02_Same : Nat := 30
theorem e_ref02_Same : EntryOK Try.prog n_ref02_Same k_ref02_Same := ⟨Try.f30, Try.func30, k_ref02_Same_ok, by kernel_rfl⟩
abbrev n_ref02_sameInts : Nat := 77
theorem e_ref02_sameInts : EntryOK Try.prog n_ref02_sameInts k_ref02_sameInts := ⟨Try.f77, Try.func77, k_ref02_sameInts_ok, by kernel_rfl⟩
abbrev n_ref02_sameTable : Nat := 78
theorem e_ref02_sameTable : EntryOK Try.prog n_ref02_sameTable k_ref02_sameTable := ⟨Try.f78, Try.func78, k_ref02_sameTable_ok, by kernel_rfl⟩
abbrev n_curve_copied : Nat := 79
theorem e_curve_copied : EntryOK Try.prog n_curve_copied k_curve_copied := ⟨Try.f79, Try.func79, k_curve_copied_ok, by kernel_rfl⟩
attribute [go_sem] k_ref02_Same_r0 k_ref02_Same_r1
attribute [go_sem] k_ref02_sameInts_r0
attribute [go_sem] k_ref02_sameInts_r1 k_ref02_sameInts_r2 k_ref02_sameInts_r3 k_ref02_sameInts_r4 k_ref02_sameInts_r5s k_ref02_sameInts_r6 k_ref02_sameInts_r7 k_ref02_sameInts_r9 k_ref02_sameTable_r0 k_ref02_sameTable_r1 k_ref02_sameTable_r2 k_ref02_sameTable_r3
attribute [go_sem] k_ref02_sameTable_r4 k_ref02_sameTable_r5s k_ref02_sameTable_r6 k_ref02_sameTable_r7 k_ref02_sameTable_r9 k_curve_copied_r0 k_curve_copied_r1
attribute [go_sem] k_ref02_sameInts_r5_sg k_ref02_sameTable_r5_sg
attribute [go_sem] k_ref02_sameInts_r5_st
attribute [go_sem] k_ref02_sameTable_r5_st
attribute [go_sem] k_ref02_Same k_ref02_sameInts k_ref02_sameTable k_curve_copied
end Go.Proofs
namespace Go.Proofs
open Go Go.Sx
end Go.Proofs
namespace Go.Proofs
open Go Go.Sx
def k_kit_WithinFamily_r0 : List AOper := [oz 4 (.box (.tmp 1)), oz 6 (.box (.const (.agg [.nilsl, .nilsl, .nilsl, .nilsl])))]
def k_kit_WithinFamily_r1s : List (List AOper) := [[oz 14 (.fieldAddr 0 (.tmp 4)), oz 15 (.load none (.tmp 14)), oz 16 (.call (.const (.fn (.func 62) [] [])) [.tmp 15]), qz 17 (.fieldAddr 1 (.tmp 4)) [0, 1, 2], qz 18 (.load none (.tmp 17)) [0, 1, 2], oz 19 (.call (.const (.fn (.func 62) [] [])) [.tmp 18]), oz 20 (.build [.nilsl, .nilsl, .nilsl, .nilsl] [(0, 1, .tmp 16), (1, 1, .tmp 19)]), qz 7 (.box (.const (.agg [.nilsl, .nilsl, .nilsl, .nilsl]))) [0, 1, 2, 3, 4, 5, 6]], [⟨none, .store 4 (.tmp 7) (.tmp 20), none, []⟩]]
def k_kit_WithinFamily_r1 : List AOper := k_kit_WithinFamily_r1s.flatten
theorem k_kit_WithinFamily_r1_sg : segs k_kit_WithinFamily_r1 = k_kit_WithinFamily_r1s := by kernel_rfl
theorem k_kit_WithinFamily_r1_st : statOK k_kit_WithinFamily_r1 = true := by kernel_rfl
def k_kit_WithinFamily_r2 : List AOper := [oz 8 (.move (.const (.int .i64 0)))]
def k_kit_WithinFamily_r3 : List AOper := [mz 21 8, oz 22 (.fieldAddr 0 (.tmp 4)), oz 23 (.load none (.tmp 22)), oz 24 (.len false (.tmp 23)), oz 25 (.bin .plain .lss (.tmp 21) (.tmp 24))]
def k_kit_WithinFamily_r4 : List AOper := [oz 9 (.move (.const (.nilsl))), oz 10 (.move (.const (.nilsl)))]
def k_kit_WithinFamily_r5 : List AOper := [oz 11 (.move (.const (.int .i64 0)))]
def k_kit_WithinFamily_r6 : List AOper := [mz 28 11, oz 29 (.fieldAddr 1 (.tmp 4)), oz 30 (.load none (.tmp 29)), oz 31 (.len false (.tmp 30)), oz 32 (.bin .plain .lss (.tmp 28) (.tmp 31))]
def k_kit_WithinFamily_r7s : List (List AOper) := [[mz 35 0, qz 36 (.fieldAddr 2 (.tmp 4)) [0], qz 37 (.load none (.tmp 36)) [0], qz 38 (.move (.tmp 8)) [0, 1, 2], qz 39 (.indexAddr 1 (.tmp 37) (.tmp 38)) [0], qz 40 (.load none (.tmp 39)) [0], qz 41 (.move (.tmp 11)) [0, 1, 2, 3, 4, 5], qz 42 (.indexAddr 1 (.tmp 40) (.tmp 41)) [0], qz 43 (.load none (.tmp 42)) [0], qz 44 (.fieldAddr 3 (.tmp 4)) [0, 1, 2, 3, 4, 5, 6, 7, 8], qz 45 (.load none (.tmp 44)) [0, 1, 2, 3, 4, 5, 6, 7, 8], qz 46 (.move (.tmp 8)) [0, 1, 2, 3, 4, 5, 6, 7, 8, 9, 10], qz 47 (.indexAddr 1 (.tmp 45) (.tmp 46)) [0, 1, 2, 3, 4, 5, 6, 7, 8], qz 48 (.load none (.tmp 47)) [0, 1, 2, 3, 4, 5, 6, 7, 8], qz 49 (.move (.tmp 11)) [0, 1, 2, 3, 4, 5, 6, 7, 8, 9, 10, 11, 12, 13], qz 50 (.indexAddr 1 (.tmp 48) (.tmp 49)) [0, 1, 2, 3, 4, 5, 6, 7, 8], qz 51 (.load none (.tmp 50)) [0, 1, 2, 3, 4, 5, 6, 7, 8]], [oz 52 (.call (.const (.fn (.func 14) [] [])) [.tmp 35, .tmp 43, .tmp 51])], [mz 12 52]]
def k_kit_WithinFamily_r7 : List AOper := k_kit_WithinFamily_r7s.flatten
theorem k_kit_WithinFamily_r7_sg : segs k_kit_WithinFamily_r7 = k_kit_WithinFamily_r7s := by kernel_rfl
theorem k_kit_WithinFamily_r7_st : statOK k_kit_WithinFamily_r7 = true := by kernel_rfl
def k_kit_WithinFamily_r8 : List AOper := [mz 53 8, oz 54 (.bin .plain .gtr (.tmp 53) (.const (.int .i64 0)))]
def k_kit_WithinFamily_r9 : List AOper := [mz 55 12, oz 56 (.fieldAddr 2 (.tmp 7)), oz 57 (.load none (.tmp 56)), mz 58 8, oz 59 (.bin .plain .sub (.tmp 58) (.const (.int .i64 1))), oz 60 (.indexAddr 1 (.tmp 57) (.tmp 59)), oz 61 (.load none (.tmp 60)), mz 62 11, oz 63 (.indexAddr 1 (.tmp 61) (.tmp 62)), oz 64 (.load none (.tmp 63)), oz 65 (.minmax true [.tmp 55, .tmp 64]), mz 12 65]
def k_kit_WithinFamily_r10 : List AOper := [mz 66 11, oz 67 (.bin .plain .gtr (.tmp 66) (.const (.int .i64 0)))]
def k_kit_WithinFamily_r11 : List AOper := [mz 68 12, mz 69 9, mz 70 11, oz 71 (.bin .plain .sub (.tmp 70) (.const (.int .i64 1))), oz 72 (.indexAddr 1 (.tmp 69) (.tmp 71)), oz 73 (.load none (.tmp 72)), oz 74 (.minmax true [.tmp 68, .tmp 73]), mz 12 74]
def k_kit_WithinFamily_r12 : List AOper := [mz 75 12, mz 13 75]
def k_kit_WithinFamily_r13 : List AOper := [mz 76 2, oz 77 (.not (.tmp 76))]
def k_kit_WithinFamily_r14 : List AOper := [mz 78 0, mz 79 12, oz 80 (.fieldAddr 3 (.tmp 4)), oz 81 (.load none (.tmp 80)), mz 82 8, oz 83 (.indexAddr 1 (.tmp 81) (.tmp 82)), oz 84 (.load none (.tmp 83)), mz 85 11, oz 86 (.indexAddr 1 (.tmp 84) (.tmp 85)), oz 87 (.load none (.tmp 86)), oz 88 (.call (.const (.fn (.func 14) [] [])) [.tmp 78, .tmp 79, .tmp 87]), mz 13 88]
def k_kit_WithinFamily_r15 : List AOper := [mz 89 8, oz 90 (.bin .plain .gtr (.tmp 89) (.const (.int .i64 0)))]
def k_kit_WithinFamily_r16 : List AOper := [mz 91 13, oz 92 (.fieldAddr 3 (.tmp 7)), oz 93 (.load none (.tmp 92)), mz 94 8, oz 95 (.bin .plain .sub (.tmp 94) (.const (.int .i64 1))), oz 96 (.indexAddr 1 (.tmp 93) (.tmp 95)), oz 97 (.load none (.tmp 96)), mz 98 11, oz 99 (.indexAddr 1 (.tmp 97) (.tmp 98)), oz 100 (.load none (.tmp 99)), oz 101 (.minmax true [.tmp 91, .tmp 100]), mz 13 101]
def k_kit_WithinFamily_r17 : List AOper := [mz 102 11, oz 103 (.bin .plain .gtr (.tmp 102) (.const (.int .i64 0)))]
def k_kit_WithinFamily_r18 : List AOper := [mz 104 13, mz 105 10, mz 106 11, oz 107 (.bin .plain .sub (.tmp 106) (.const (.int .i64 1))), oz 108 (.indexAddr 1 (.tmp 105) (.tmp 107)), oz 109 (.load none (.tmp 108)), oz 110 (.minmax true [.tmp 104, .tmp 109]), mz 13 110]
def k_kit_WithinFamily_r19 : List AOper := [mz 111 9, mz 112 12, oz 113 (.buildSlice 1 [.tmp 112]), oz 114 (.append 1 8 false (.tmp 111) (.tmp 113)), mz 115 10, mz 116 13, oz 117 (.buildSlice 1 [.tmp 116]), oz 118 (.append 1 8 false (.tmp 115) (.tmp 117)), mz 9 114, mz 10 118]
def k_kit_WithinFamily_r20 : List AOper := [mz 33 11, oz 34 (.bin .plain .add (.tmp 33) (.const (.int .i64 1))), mz 11 34]
def k_kit_WithinFamily_r21 : ACode := (.seq (.seq (.reg k_kit_WithinFamily_r6 false) (.cond (.tmp 32) .skip (.exit 2))) (.seq (.block 3 (.seq (.reg k_kit_WithinFamily_r7 true) (.seq (.seq (.reg k_kit_WithinFamily_r8 false) (.cond (.tmp 54) (.reg k_kit_WithinFamily_r9 false) .skip)) (.seq (.seq (.reg k_kit_WithinFamily_r10 false) (.cond (.tmp 67) (.reg k_kit_WithinFamily_r11 false) .skip)) (.seq (.reg k_kit_WithinFamily_r12 false) (.seq (.seq (.reg k_kit_WithinFamily_r13 false) (.cond (.tmp 77) (.seq (.reg k_kit_WithinFamily_r14 false) (.seq (.seq (.reg k_kit_WithinFamily_r15 false) (.cond (.tmp 90) (.reg k_kit_WithinFamily_r16 false) .skip)) (.seq (.reg k_kit_WithinFamily_r17 false) (.cond (.tmp 103) (.reg k_kit_WithinFamily_r18 false) .skip)))) .skip)) (.reg k_kit_WithinFamily_r19 false))))))) (.reg k_kit_WithinFamily_r20 false)))
def k_kit_WithinFamily_r22s : List (List AOper) := [[oz 119 (.fieldAddr 2 (.tmp 7)), oz 120 (.load none (.tmp 119)), qz 121 (.move (.tmp 9)) [0, 1], qz 122 (.buildSlice 1 [.tmp 121]) [0, 1], oz 123 (.append 1 24 false (.tmp 120) (.tmp 122)), qz 124 (.fieldAddr 3 (.tmp 7)) [0, 1, 2, 3, 4], qz 125 (.load none (.tmp 124)) [0, 1, 2, 3, 4], qz 126 (.move (.tmp 10)) [0, 1, 2, 3, 4, 5, 6], qz 127 (.buildSlice 1 [.tmp 126]) [0, 1, 2, 3, 4, 5, 6], oz 128 (.append 1 24 false (.tmp 125) (.tmp 127)), qz 129 (.fieldAddr 2 (.tmp 7)) [7, 8, 9]], [⟨none, .store 1 (.tmp 129) (.tmp 123), none, []⟩], [oz 130 (.fieldAddr 3 (.tmp 7))], [⟨none, .store 1 (.tmp 130) (.tmp 128), none, []⟩]]
def k_kit_WithinFamily_r22 : List AOper := k_kit_WithinFamily_r22s.flatten
theorem k_kit_WithinFamily_r22_sg : segs k_kit_WithinFamily_r22 = k_kit_WithinFamily_r22s := by kernel_rfl
theorem k_kit_WithinFamily_r22_st : statOK k_kit_WithinFamily_r22 = true := by kernel_rfl
def k_kit_WithinFamily_r23 : List AOper := [mz 26 8, oz 27 (.bin .plain .add (.tmp 26) (.const (.int .i64 1))), mz 8 27]
def k_kit_WithinFamily_r24 : ACode := (.seq (.seq (.reg k_kit_WithinFamily_r3 false) (.cond (.tmp 25) .skip (.exit 0))) (.seq (.block 1 (.seq (.reg k_kit_WithinFamily_r4 false) (.seq (.seq (.reg k_kit_WithinFamily_r5 false) (.block 2 (.loop k_kit_WithinFamily_r21))) (.reg k_kit_WithinFamily_r22 true)))) (.reg k_kit_WithinFamily_r23 false)))
def k_kit_WithinFamily_r25 : List AOper := [oz 131 (.load (some (4)) (.tmp 7)), ⟨none, .store 4 (.tmp 6) (.tmp 131), none, []⟩]
def k_kit_WithinFamily : AFun := { params := 3, ntmps := 132, body := (.seq (.reg k_kit_WithinFamily_r0 false) (.seq (.reg k_kit_WithinFamily_r1 true) (.seq (.seq (.reg k_kit_WithinFamily_r2 false) (.block 0 (.loop k_kit_WithinFamily_r24))) (.seq (.reg k_kit_WithinFamily_r25 false) .ret)))), res := [.cell 6 (some ((some (4))))] }
theorem k_kit_WithinFamily_ok : cfun Try.prog Try.f35 = k_kit_WithinFamily := by kernel_rfl
abbrev n_kit_WithinFamily : Nat := 35
theorem e_kit_WithinFamily : EntryOK Try.prog n_kit_WithinFamily k_kit_WithinFamily := ⟨Try.f35, Try.func35, k_kit_WithinFamily_ok, by kernel_rfl⟩
attribute [go_sem] k_kit_WithinFamily_r0 k_kit_WithinFamily_r1s k_kit_WithinFamily_r2 k_kit_WithinFamily_r3 k_kit_WithinFamily_r4
attribute [go_sem] k_kit_WithinFamily_r5 k_kit_WithinFamily_r6 k_kit_WithinFamily_r7s k_kit_WithinFamily_r8 k_kit_WithinFamily_r9 k_kit_WithinFamily_r10 k_kit_WithinFamily_r11 k_kit_WithinFamily_r12 k_kit_WithinFamily_r13 k_kit_WithinFamily_r14 k_kit_WithinFamily_r15 k_kit_WithinFamily_r16
attribute [go_sem] k_kit_WithinFamily_r17 k_kit_WithinFamily_r18 k_kit_WithinFamily_r19 k_kit_WithinFamily_r20 k_kit_WithinFamily_r22s k_kit_WithinFamily_r23 k_kit_WithinFamily_r25 k_kit_WithinFamily_r1_sg k_kit_WithinFamily_r7_sg k_kit_WithinFamily_r22_sg k_kit_WithinFamily_r1_st
attribute [go_sem] k_kit_WithinFamily_r7_st k_kit_WithinFamily_r22_st k_kit_WithinFamily
end Go.Proofs
namespace Go.Proofs
open Go Go.Sx
def k_curve_Inside_r0 : List AOper := [oz 2 (.box (.tmp 0)), oz 3 (.box (.tmp 1)), oz 4 (.move (.const (.bool false)))]
def k_curve_Inside_r1 : List AOper := [oz 9 (.load (some (4)) (.tmp 2)), oz 10 (.call (.const (.fn (.func 27) [] [])) [.tmp 9]), oz 11 (.bin .plain .neq (.tmp 10) (.const (.int .i64 0))), mz 12 11, ⟨some 13, .load (some (4)) (.tmp 3), (some (12, false)), []⟩, ⟨some 14, .call (.const (.fn (.func 27) [] [])) [.tmp 13], (some (12, false)), []⟩, ⟨some 15, .bin .plain .neq (.tmp 14) (.const (.int .i64 0)), (some (12, false)), []⟩, oz 16 (.pick (.tmp 12) (.const (.bool true)) (.tmp 15))]
def k_curve_Inside_r2 : List AOper := [oz 4 (.move (.const (.bool false)))]
def k_curve_Inside_r3 : List AOper := [oz 17 (.fieldAddr 0 (.tmp 2)), oz 18 (.load none (.tmp 17)), oz 19 (.fieldAddr 0 (.tmp 3)), oz 20 (.load none (.tmp 19)), oz 21 (.buildSlice 1 [.tmp 18, .tmp 20]), oz 22 (.call (.const (.fn (.func 90) [] [])) [.tmp 21]), oz 23 (.len false (.tmp 22)), oz 24 (.move (.const (.int .i64 0)))]
def k_curve_Inside_r4 : List AOper := [oz 25 (.bin .plain .lss (.tmp 24) (.tmp 23))]
def k_curve_Inside_r5 : List AOper := [oz 26 (.indexAddr 1 (.tmp 22) (.tmp 24)), oz 27 (.load none (.tmp 26)), mz 6 27]
def k_curve_Inside_r6 : List AOper := [oz 28 (.fieldAddr 1 (.tmp 2)), oz 29 (.load none (.tmp 28)), oz 30 (.fieldAddr 1 (.tmp 3)), oz 31 (.load none (.tmp 30)), oz 32 (.buildSlice 1 [.tmp 29, .tmp 31]), oz 33 (.call (.const (.fn (.func 90) [] [])) [.tmp 32]), oz 34 (.len false (.tmp 33)), oz 35 (.move (.const (.int .i64 0)))]
def k_curve_Inside_r7 : List AOper := [oz 36 (.bin .plain .lss (.tmp 35) (.tmp 34))]
def k_curve_Inside_r8 : List AOper := [oz 37 (.indexAddr 1 (.tmp 33) (.tmp 35)), oz 38 (.load none (.tmp 37)), mz 8 38]
def k_curve_Inside_r9 : List AOper := [oz 39 (.load (some (4)) (.tmp 2)), oz 40 (.load (some (4)) (.tmp 3)), mz 41 6, mz 42 8, oz 43 (.call (.const (.fn (.func 91) [] [])) [.tmp 39, .tmp 40, .tmp 41, .tmp 42]), oz 44 (.not (.tmp 43))]
def k_curve_Inside_r10 : List AOper := [oz 4 (.move (.const (.bool false)))]
def k_curve_Inside_r11 : List AOper := [oz 45 (.bin .plain .add (.tmp 35) (.const (.int .i64 1))), mz 35 45]
def k_curve_Inside_r12 : ACode := (.seq (.reg k_curve_Inside_r7 false) (.seq (.cond (.tmp 36) .skip (.exit 2)) (.seq (.block 3 (.seq (.reg k_curve_Inside_r8 false) (.seq (.reg k_curve_Inside_r9 false) (.cond (.tmp 44) (.seq (.reg k_curve_Inside_r10 false) .ret) .skip)))) (.reg k_curve_Inside_r11 false))))
def k_curve_Inside_r13 : List AOper := [oz 46 (.bin .plain .add (.tmp 24) (.const (.int .i64 1))), mz 24 46]
def k_curve_Inside_r14 : ACode := (.seq (.reg k_curve_Inside_r4 false) (.seq (.cond (.tmp 25) .skip (.exit 0)) (.seq (.block 1 (.seq (.reg k_curve_Inside_r5 false) (.seq (.reg k_curve_Inside_r6 false) (.block 2 (.loop k_curve_Inside_r12))))) (.reg k_curve_Inside_r13 false))))
def k_curve_Inside_r15 : List AOper := [oz 4 (.move (.const (.bool true)))]
def k_curve_Inside : AFun := { params := 2, ntmps := 47, body := (.seq (.reg k_curve_Inside_r0 false) (.seq (.seq (.reg k_curve_Inside_r1 false) (.cond (.tmp 16) (.seq (.reg k_curve_Inside_r2 false) .ret) .skip)) (.seq (.seq (.reg k_curve_Inside_r3 false) (.block 0 (.loop k_curve_Inside_r14))) (.seq (.reg k_curve_Inside_r15 false) .ret)))), res := [.tmp 4] }
theorem k_curve_Inside_ok : cfun Try.prog Try.f37 = k_curve_Inside := by kernel_rfl
def k_slices_Concat_int_int_r0 : List AOper := [oz 2 (.move (.const (.nilsl)))]
def k_slices_Concat_int_int_r1 : List AOper := [oz 3 (.move (.const (.int .i64 0)))]
def k_slices_Concat_int_int_r2 : List AOper := [mz 9 0, oz 10 (.len false (.tmp 9)), oz 11 (.move (.const (.int .i64 0)))]
def k_slices_Concat_int_int_r3 : List AOper := [oz 12 (.bin .plain .lss (.tmp 11) (.tmp 10))]
def k_slices_Concat_int_int_r4 : List AOper := [oz 13 (.indexAddr 1 (.tmp 9) (.tmp 11)), oz 14 (.load none (.tmp 13)), mz 5 14]
def k_slices_Concat_int_int_r5 : List AOper := [mz 15 3, mz 16 5, oz 17 (.len false (.tmp 16)), oz 18 (.bin .plain .add (.tmp 15) (.tmp 17)), mz 3 18]
def k_slices_Concat_int_int_r6 : List AOper := [mz 19 3, oz 20 (.bin .plain .lss (.tmp 19) (.const (.int .i64 0)))]
def k_slices_Concat_int_int_r7 : List AOper := [oz 21 (.makeIface 9 (.const (.str [108, 101, 110, 32, 111, 117, 116, 32, 111, 102, 32, 114, 97, 110, 103, 101]))), ⟨none, .bad, none, []⟩]
def k_slices_Concat_int_int_r8 : List AOper := [oz 22 (.bin .plain .add (.tmp 11) (.const (.int .i64 1))), mz 11 22]
def k_slices_Concat_int_int_r9 : ACode := (.seq (.reg k_slices_Concat_int_int_r3 false) (.seq (.cond (.tmp 12) .skip (.exit 0)) (.seq (.block 1 (.seq (.reg k_slices_Concat_int_int_r4 false) (.seq (.reg k_slices_Concat_int_int_r5 false) (.seq (.reg k_slices_Concat_int_int_r6 false) (.cond (.tmp 20) (.reg k_slices_Concat_int_int_r7 false) .skip))))) (.reg k_slices_Concat_int_int_r8 false))))
def k_slices_Concat_int_int_r10 : List AOper := [mz 23 3, oz 24 (.call (.const (.fn (.func 116) [] [])) [.const (.nilsl), .tmp 23]), mz 6 24]
def k_slices_Concat_int_int_r11 : List AOper := [mz 25 0, oz 26 (.len false (.tmp 25)), oz 27 (.move (.const (.int .i64 0)))]
def k_slices_Concat_int_int_r12 : List AOper := [oz 28 (.bin .plain .lss (.tmp 27) (.tmp 26))]
def k_slices_Concat_int_int_r13 : List AOper := [oz 29 (.indexAddr 1 (.tmp 25) (.tmp 27)), oz 30 (.load none (.tmp 29)), mz 8 30]
def k_slices_Concat_int_int_r14 : List AOper := [mz 31 6, mz 32 8, oz 33 (.append 1 8 false (.tmp 31) (.tmp 32)), mz 6 33]
def k_slices_Concat_int_int_r15 : List AOper := [oz 34 (.bin .plain .add (.tmp 27) (.const (.int .i64 1))), mz 27 34]
def k_slices_Concat_int_int_r16 : ACode := (.seq (.reg k_slices_Concat_int_int_r12 false) (.seq (.cond (.tmp 28) .skip (.exit 2)) (.seq (.block 3 (.seq (.reg k_slices_Concat_int_int_r13 false) (.reg k_slices_Concat_int_int_r14 false))) (.reg k_slices_Concat_int_int_r15 false))))
def k_slices_Concat_int_int_r17 : List AOper := [mz 35 6, mz 2 35]
def k_slices_Concat_int_int : AFun := { params := 1, ntmps := 36, body := (.seq (.reg k_slices_Concat_int_int_r0 false) (.seq (.reg k_slices_Concat_int_int_r1 false) (.seq (.seq (.reg k_slices_Concat_int_int_r2 false) (.block 0 (.loop k_slices_Concat_int_int_r9))) (.seq (.reg k_slices_Concat_int_int_r10 false) (.seq (.seq (.reg k_slices_Concat_int_int_r11 false) (.block 2 (.loop k_slices_Concat_int_int_r16))) (.seq (.reg k_slices_Concat_int_int_r17 false) .ret)))))), res := [.tmp 2] }
theorem k_slices_Concat_int_int_ok : cfun Try.prog Try.f90 = k_slices_Concat_int_int := by kernel_rfl
def k_curve_insideAt_r0 : List AOper := [oz 4 (.box (.tmp 0)), oz 5 (.box (.tmp 1)), oz 8 (.move (.const (.bool false)))]
def k_curve_insideAt_r1s : List (List AOper) := [[oz 13 (.fieldAddr 0 (.tmp 4)), oz 14 (.load none (.tmp 13)), qz 15 (.move (.tmp 2)) [0, 1], oz 16 (.call (.const (.fn (.func 83) [] [])) [.tmp 14, .tmp 15]), qz 17 (.fieldAddr 1 (.tmp 4)) [0, 1, 2, 3], qz 18 (.load none (.tmp 17)) [0, 1, 2, 3], qz 19 (.move (.tmp 3)) [0, 1, 2, 3, 4, 5], oz 20 (.call (.const (.fn (.func 83) [] [])) [.tmp 18, .tmp 19]), qz 9 (.box (.const (.agg [.int .i64 0, .int .i64 0, .int .i64 0]))) [0, 1, 2, 3, 4, 5, 6, 7], qz 10 (.box (.const (.agg [.int .i64 0, .int .i64 0, .int .i64 0]))) [0, 1, 2, 3, 4, 5, 6, 7, 8]], [⟨none, .store 3 (.tmp 9) (.tmp 16), none, []⟩], [⟨none, .store 3 (.tmp 10) (.tmp 20), none, []⟩]]
def k_curve_insideAt_r1 : List AOper := k_curve_insideAt_r1s.flatten
theorem k_curve_insideAt_r1_sg : segs k_curve_insideAt_r1 = k_curve_insideAt_r1s := by kernel_rfl
theorem k_curve_insideAt_r1_st : statOK k_curve_insideAt_r1 = true := by kernel_rfl
def k_curve_insideAt_r2s : List (List AOper) := [[oz 21 (.fieldAddr 0 (.tmp 5)), oz 22 (.load none (.tmp 21)), qz 23 (.move (.tmp 2)) [0, 1], oz 24 (.call (.const (.fn (.func 83) [] [])) [.tmp 22, .tmp 23]), qz 25 (.fieldAddr 1 (.tmp 5)) [0, 1, 2, 3], qz 26 (.load none (.tmp 25)) [0, 1, 2, 3], qz 27 (.move (.tmp 3)) [0, 1, 2, 3, 4, 5], oz 28 (.call (.const (.fn (.func 83) [] [])) [.tmp 26, .tmp 27]), qz 11 (.box (.const (.agg [.int .i64 0, .int .i64 0, .int .i64 0]))) [0, 1, 2, 3, 4, 5, 6, 7], qz 12 (.box (.const (.agg [.int .i64 0, .int .i64 0, .int .i64 0]))) [0, 1, 2, 3, 4, 5, 6, 7, 8]], [⟨none, .store 3 (.tmp 11) (.tmp 24), none, []⟩], [⟨none, .store 3 (.tmp 12) (.tmp 28), none, []⟩]]
def k_curve_insideAt_r2 : List AOper := k_curve_insideAt_r2s.flatten
theorem k_curve_insideAt_r2_sg : segs k_curve_insideAt_r2 = k_curve_insideAt_r2s := by kernel_rfl
theorem k_curve_insideAt_r2_st : statOK k_curve_insideAt_r2 = true := by kernel_rfl
def k_curve_insideAt_r3s : List (List AOper) := [[oz 29 (.fieldAddr 2 (.tmp 5)), oz 30 (.load none (.tmp 29)), qz 31 (.load (some (3)) (.tmp 11)) [0, 1], qz 32 (.load (some (3)) (.tmp 12)) [0, 1, 2], oz 33 (.call (.const (.fn (.func 84) [] [])) [.tmp 30, .tmp 31, .tmp 32]), qz 34 (.fieldAddr 2 (.tmp 4)) [0, 1, 2, 3, 4], qz 35 (.load none (.tmp 34)) [0, 1, 2, 3, 4], qz 36 (.load (some (3)) (.tmp 9)) [0, 1, 2, 3, 4, 5, 6], qz 37 (.load (some (3)) (.tmp 10)) [0, 1, 2, 3, 4, 5, 6, 7]], [oz 38 (.call (.const (.fn (.func 84) [] [])) [.tmp 35, .tmp 36, .tmp 37])], [oz 39 (.call (.const (.fn (.func 117) [] [])) [.tmp 33, .tmp 38])], [oz 40 (.not (.tmp 39))], [mz 41 40], [⟨some 42, .fieldAddr 3 (.tmp 4), (some (41, true)), []⟩, ⟨some 43, .load none (.tmp 42), (some (41, true)), []⟩, ⟨some 44, .load (some (3)) (.tmp 9), (some (41, true)), [13, 14]⟩, ⟨some 45, .load (some (3)) (.tmp 10), (some (41, true)), [13, 14, 15]⟩, ⟨some 46, .call (.const (.fn (.func 84) [] [])) [.tmp 43, .tmp 44, .tmp 45], (some (41, true)), []⟩, ⟨some 47, .fieldAddr 3 (.tmp 5), (some (41, true)), [13, 14, 15, 16, 17]⟩, ⟨some 48, .load none (.tmp 47), (some (41, true)), [13, 14, 15, 16, 17]⟩, ⟨some 49, .load (some (3)) (.tmp 11), (some (41, true)), [13, 14, 15, 16, 17, 18, 19]⟩, ⟨some 50, .load (some (3)) (.tmp 12), (some (41, true)), [13, 14, 15, 16, 17, 18, 19, 20]⟩], [⟨some 51, .call (.const (.fn (.func 84) [] [])) [.tmp 48, .tmp 49, .tmp 50], (some (41, true)), []⟩], [⟨some 52, .call (.const (.fn (.func 117) [] [])) [.tmp 46, .tmp 51], (some (41, true)), []⟩], [⟨some 53, .not (.tmp 52), (some (41, true)), []⟩], [oz 54 (.pick (.tmp 41) (.tmp 53) (.const (.bool false)))], [mz 8 54]]
def k_curve_insideAt_r3 : List AOper := k_curve_insideAt_r3s.flatten
theorem k_curve_insideAt_r3_sg : segs k_curve_insideAt_r3 = k_curve_insideAt_r3s := by kernel_rfl
theorem k_curve_insideAt_r3_st : statOK k_curve_insideAt_r3 = true := by kernel_rfl
def k_curve_insideAt : AFun := { params := 4, ntmps := 55, body := (.seq (.reg k_curve_insideAt_r0 false) (.seq (.reg k_curve_insideAt_r1 true) (.seq (.reg k_curve_insideAt_r2 true) (.seq (.reg k_curve_insideAt_r3 true) .ret)))), res := [.tmp 8] }
theorem k_curve_insideAt_ok : cfun Try.prog Try.f91 = k_curve_insideAt := by kernel_rfl
def k_slices_Grow_int_int_r0 : List AOper := [oz 4 (.move (.const (.nilsl)))]
def k_slices_Grow_int_int_r1 : List AOper := [mz 5 1, oz 6 (.bin .plain .lss (.tmp 5) (.const (.int .i64 0)))]
def k_slices_Grow_int_int_r2 : List AOper := [oz 7 (.makeIface 9 (.const (.str [99, 97, 110, 110, 111, 116, 32, 98, 101, 32, 110, 101, 103, 97, 116, 105, 118, 101]))), ⟨none, .bad, none, []⟩]
def k_slices_Grow_int_int_r3 : List AOper := [mz 8 1, mz 9 0, oz 10 (.cap (.tmp 9)), mz 11 0, oz 12 (.len false (.tmp 11)), oz 13 (.bin .plain .sub (.tmp 10) (.tmp 12)), oz 14 (.bin .plain .sub (.tmp 8) (.tmp 13)), mz 1 14]
def k_slices_Grow_int_int_r4 : List AOper := [mz 15 1, oz 16 (.bin .plain .gtr (.tmp 15) (.const (.int .i64 0)))]
def k_slices_Grow_int_int_r5 : List AOper := [mz 17 0, mz 18 0, oz 19 (.cap (.tmp 18)), oz 20 (.slice false 1 (.tmp 17) none (some (.tmp 19))), mz 21 1, oz 22 (.appendN 1 8 (.int .i64 0) (.tmp 20) (.tmp 21)), mz 23 0, oz 24 (.len false (.tmp 23)), oz 25 (.slice false 1 (.tmp 22) none (some (.tmp 24))), mz 0 25]
def k_slices_Grow_int_int_r6 : List AOper := [mz 26 0, mz 4 26]
def k_slices_Grow_int_int : AFun := { params := 2, ntmps := 27, body := (.seq (.reg k_slices_Grow_int_int_r0 false) (.seq (.seq (.reg k_slices_Grow_int_int_r1 false) (.cond (.tmp 6) (.reg k_slices_Grow_int_int_r2 false) .skip)) (.seq (.seq (.reg k_slices_Grow_int_int_r3 false) (.seq (.reg k_slices_Grow_int_int_r4 false) (.cond (.tmp 16) (.reg k_slices_Grow_int_int_r5 false) .skip))) (.seq (.reg k_slices_Grow_int_int_r6 false) .ret)))), res := [.tmp 4] }
theorem k_slices_Grow_int_int_ok : cfun Try.prog Try.f116 = k_slices_Grow_int_int := by kernel_rfl
def k_curve_fraction_less_r0 : List AOper := [oz 2 (.box (.tmp 0)), oz 3 (.box (.tmp 1)), oz 4 (.move (.const (.bool false)))]
def k_curve_fraction_less_r1 : List AOper := [oz 10 (.fieldAddr 0 (.tmp 2)), oz 11 (.load none (.tmp 10)), oz 12 (.toInt .u64 (.tmp 11)), oz 13 (.fieldAddr 1 (.tmp 3)), oz 14 (.load none (.tmp 13)), oz 15 (.toInt .u64 (.tmp 14)), oz 16 (.call (.const (.fn (.func 123) [] [])) [.tmp 12, .tmp 15]), mz 9 16, oz 17 (.extract (.tmp 9) 0), oz 18 (.extract (.tmp 9) 1), mz 5 17, mz 6 18]
def k_curve_fraction_less_r2 : List AOper := [oz 20 (.fieldAddr 0 (.tmp 3)), oz 21 (.load none (.tmp 20)), oz 22 (.toInt .u64 (.tmp 21)), oz 23 (.fieldAddr 1 (.tmp 2)), oz 24 (.load none (.tmp 23)), oz 25 (.toInt .u64 (.tmp 24)), oz 26 (.call (.const (.fn (.func 123) [] [])) [.tmp 22, .tmp 25]), mz 19 26, oz 27 (.extract (.tmp 19) 0), oz 28 (.extract (.tmp 19) 1), mz 7 27, mz 8 28]
def k_curve_fraction_less_r3 : List AOper := [mz 29 5, mz 30 7, oz 31 (.bin .plain .lss (.tmp 29) (.tmp 30)), mz 32 31, ⟨some 33, .move (.tmp 5), (some (32, false)), []⟩, ⟨some 34, .move (.tmp 7), (some (32, false)), []⟩, ⟨some 35, .bin .plain .eql (.tmp 33) (.tmp 34), (some (32, false)), []⟩, ⟨some 36, .move (.tmp 35), (some (32, false)), []⟩, ⟨some 37, .move (.tmp 6), (some (36, true)), []⟩, ⟨some 38, .move (.tmp 8), (some (36, true)), []⟩, ⟨some 39, .bin .plain .lss (.tmp 37) (.tmp 38), (some (36, true)), []⟩, ⟨some 40, .pick (.tmp 36) (.tmp 39) (.const (.bool false)), (some (32, false)), []⟩, oz 41 (.pick (.tmp 32) (.const (.bool true)) (.tmp 40)), mz 4 41]
def k_curve_fraction_less : AFun := { params := 2, ntmps := 42, body := (.seq (.reg k_curve_fraction_less_r0 false) (.seq (.reg k_curve_fraction_less_r1 false) (.seq (.reg k_curve_fraction_less_r2 false) (.seq (.reg k_curve_fraction_less_r3 false) .ret)))), res := [.tmp 4] }
theorem k_curve_fraction_less_ok : cfun Try.prog Try.f117 = k_curve_fraction_less := by kernel_rfl
def k_bits_Mul64_r0 : List AOper := [oz 4 (.move (.const (.int .u64 0))), oz 5 (.move (.const (.int .u64 0)))]
def k_bits_Mul64_r1 : List AOper := [mz 14 0, oz 15 (.bin .plain .and (.tmp 14) (.const (.int .u64 4294967295))), mz 6 15]
def k_bits_Mul64_r2 : List AOper := [mz 16 0, oz 17 (.bin .plain .shr (.tmp 16) (.const (.int .u64 32))), mz 7 17]
def k_bits_Mul64_r3 : List AOper := [mz 18 1, oz 19 (.bin .plain .and (.tmp 18) (.const (.int .u64 4294967295))), mz 8 19]
def k_bits_Mul64_r4 : List AOper := [mz 20 1, oz 21 (.bin .plain .shr (.tmp 20) (.const (.int .u64 32))), mz 9 21]
def k_bits_Mul64_r5 : List AOper := [mz 22 6, mz 23 8, oz 24 (.bin .plain .mul (.tmp 22) (.tmp 23)), mz 10 24]
def k_bits_Mul64_r6 : List AOper := [mz 25 7, mz 26 8, oz 27 (.bin .plain .mul (.tmp 25) (.tmp 26)), mz 28 10, oz 29 (.bin .plain .shr (.tmp 28) (.const (.int .u64 32))), oz 30 (.bin .plain .add (.tmp 27) (.tmp 29)), mz 11 30]
def k_bits_Mul64_r7 : List AOper := [mz 31 11, oz 32 (.bin .plain .and (.tmp 31) (.const (.int .u64 4294967295))), mz 12 32]
def k_bits_Mul64_r8 : List AOper := [mz 33 11, oz 34 (.bin .plain .shr (.tmp 33) (.const (.int .u64 32))), mz 13 34]
def k_bits_Mul64_r9 : List AOper := [mz 35 12, mz 36 6, mz 37 9, oz 38 (.bin .plain .mul (.tmp 36) (.tmp 37)), oz 39 (.bin .plain .add (.tmp 35) (.tmp 38)), mz 12 39]
def k_bits_Mul64_r10 : List AOper := [mz 40 7, mz 41 9, oz 42 (.bin .plain .mul (.tmp 40) (.tmp 41)), mz 43 13, oz 44 (.bin .plain .add (.tmp 42) (.tmp 43)), mz 45 12, oz 46 (.bin .plain .shr (.tmp 45) (.const (.int .u64 32))), oz 47 (.bin .plain .add (.tmp 44) (.tmp 46)), mz 4 47]
def k_bits_Mul64_r11 : List AOper := [mz 48 0, mz 49 1, oz 50 (.bin .plain .mul (.tmp 48) (.tmp 49)), mz 5 50]
def k_bits_Mul64 : AFun := { params := 2, ntmps := 51, body := (.seq (.reg k_bits_Mul64_r0 false) (.seq (.reg k_bits_Mul64_r1 false) (.seq (.reg k_bits_Mul64_r2 false) (.seq (.reg k_bits_Mul64_r3 false) (.seq (.reg k_bits_Mul64_r4 false) (.seq (.reg k_bits_Mul64_r5 false) (.seq (.reg k_bits_Mul64_r6 false) (.seq (.reg k_bits_Mul64_r7 false) (.seq (.reg k_bits_Mul64_r8 false) (.seq (.reg k_bits_Mul64_r9 false) (.seq (.reg k_bits_Mul64_r10 false) (.seq (.reg k_bits_Mul64_r11 false) .ret)))))))))))), res := [.tmp 4, .tmp 5] }
theorem k_bits_Mul64_ok : cfun Try.prog Try.f123 = k_bits_Mul64 := by kernel_rfl
abbrev n_curve_Inside : Nat := 37
theorem e_curve_Inside : EntryOK Try.prog n_curve_Inside k_curve_Inside := ⟨Try.f37, Try.func37, k_curve_Inside_ok, by kernel_rfl⟩
abbrev n_slices_Concat_int_int : Nat := 90
theorem e_slices_Concat_int_int : EntryOK Try.prog n_slices_Concat_int_int k_slices_Concat_int_int := ⟨Try.f90, Try.func90, k_slices_Concat_int_int_ok, by kernel_rfl⟩
abbrev n_curve_insideAt : Nat := 91
theorem e_curve_insideAt : EntryOK Try.prog n_curve_insideAt k_curve_insideAt := ⟨Try.f91, Try.func91, k_curve_insideAt_ok, by kernel_rfl⟩
abbrev n_slices_Grow_int_int : Nat := 116
theorem e_slices_Grow_int_int : EntryOK Try.prog n_slices_Grow_int_int k_slices_Grow_int_int := ⟨Try.f116, Try.func116, k_slices_Grow_int_int_ok, by kernel_rfl⟩
abbrev n_curve_fraction_less : Nat := 117
theorem e_curve_fraction_less : EntryOK Try.prog n_curve_fraction_less k_curve_fraction_less := ⟨Try.f117, Try.func117, k_curve_fraction_less_ok, by kernel_rfl⟩
abbrev n_bits_Mul64 : Nat := 123
theorem e_bits_Mul64 : EntryOK Try.prog n_bits_Mul64 k_bits_Mul64 := ⟨Try.f123, Try.func123, k_bits_Mul64_ok, by kernel_rfl⟩
attribute [go_sem] k_curve_Inside_r0 k_curve_Inside_r1 k_curve_Inside_r2 k_curve_Inside_r3 k_curve_Inside_r4 k_curve_Inside_r5 k_curve_Inside_r6 k_curve_Inside_r7 k_curve_Inside_r8 k_curve_Inside_r9 k_curve_Inside_r10 k_curve_Inside_r11
attribute [go_sem] k_curve_Inside_r13 k_curve_Inside_r15 k_slices_Concat_int_int_r0 k_slices_Concat_int_int_r1 k_slices_Concat_int_int_r2 k_slices_Concat_int_int_r3 k_slices_Concat_int_int_r4 k_slices_Concat_int_int_r5 k_slices_Concat_int_int_r6 k_slices_Concat_int_int_r7 k_slices_Concat_int_int_r8 k_slices_Concat_int_int_r10
attribute [go_sem] k_slices_Concat_int_int_r11 k_slices_Concat_int_int_r12 k_slices_Concat_int_int_r13 k_slices_Concat_int_int_r14 k_slices_Concat_int_int_r15 k_slices_Concat_int_int_r17 k_curve_insideAt_r0 k_curve_insideAt_r1s k_curve_insideAt_r2s k_curve_insideAt_r3s k_slices_Grow_int_int_r0 k_slices_Grow_int_int_r1
attribute [go_sem] k_slices_Grow_int_int_r2 k_slices_Grow_int_int_r3 k_slices_Grow_int_int_r4 k_slices_Grow_int_int_r5 k_slices_Grow_int_int_r6 k_curve_fraction_less_r0 k_curve_fraction_less_r1 k_curve_fraction_less_r2 k_curve_fraction_less_r3 k_bits_Mul64_r0 k_bits_Mul64_r1 k_bits_Mul64_r2
attribute [go_sem] k_bits_Mul64_r3 k_bits_Mul64_r4 k_bits_Mul64_r5 k_bits_Mul64_r6 k_bits_Mul64_r7 k_bits_Mul64_r8 k_bits_Mul64_r9 k_bits_Mul64_r10 k_bits_Mul64_r11 k_curve_insideAt_r1_sg k_curve_insideAt_r2_sg k_curve_insideAt_r3_sg
attribute [go_sem] k_curve_insideAt_r1_st k_curve_insideAt_r2_st k_curve_insideAt_r3_st k_curve_Inside k_slices_Concat_int_int k_curve_insideAt k_slices_Grow_int_int k_curve_fraction_less k_bits_Mul64
end Go.Proofs
namespace Go.Proofs
open Go Go.Sx
def Dr (w : Int) : Row := .cells false 1 [.agg [.int .u64 w]]
def dstep (w : Int) : Int := IntKind.u64.wrap (w + 11400714819323198485)
def dmix (w : Int) : Int :=
  let z := IntKind.u64.wrap (bitW .xor .u64 w (shrW .u64 w 30) * 13787848793156543929)
  let z := IntKind.u64.wrap (bitW .xor .u64 z (shrW .u64 z 27) * 10723151780598845931)
  bitW .xor .u64 z (shrW .u64 z 31)
theorem dr_bel (w : Int) (S : Nat -> Prop) : (Dr w).bel S := by unfold Dr; rw [row_bel_cells]; simp only [go_sem]
theorem bitW_u64 (op : BinOp) (a b : Int) : 0 <= bitW op .u64 a b /\ bitW op .u64 a b <= 18446744073709551615 := by
  have hw : ∀ n : Int, 0 <= IntKind.u64.wrap n /\ IntKind.u64.wrap n <= 18446744073709551615 := fun n => by simp only [IntKind.wrap, IntKind.bits, IntKind.signed, Bool.false_and, Bool.false_eq_true, if_false]; omega
  unfold bitW bitsOf
  cases op <;> simp only [Option.getD_some, Option.getD_none] <;> first
    | exact hw _
    | omega
def upto (w n : Int) : Int := if n < 1 then 0 else (dmix (dstep w)) % n
theorem upto_in {w n : Int} (h : 1 <= n) : 0 <= upto w n /\ upto w n < n := by
  unfold upto
  rw [if_neg (by omega)]
  exact ⟨Int.emod_nonneg _ (by omega), Int.emod_lt_of_pos _ (by omega)⟩
def btw (w lo hi : Int) : Int := lo + upto w (hi - lo + 1)
theorem btw_in {w lo hi : Int} (h : lo <= hi) : lo <= btw w lo hi /\ btw w lo hi <= hi := by
  have := upto_in (w := w) (n := hi - lo + 1) (by omega)
  unfold btw; omega
def feed (w : Int) : List Int -> Int
  | [] => w
  | x :: xs => feed (dstep (bitW .xor .u64 w (IntKind.u64.wrap x))) xs
structure Rg where
  lo : Int
  hi : Int
  deriving Inhabited, DecidableEq
def Rg.v (r : Rg) : AVal := .agg [.int .i64 r.lo, .int .i64 r.hi]
@[go_sem] theorem rg_bel_eq (r : Rg) (S : Nat -> Prop) : Bel S r.v = True := by unfold Rg.v; simp only [go_sem]
@[go_sem] theorem rg_nv (r : Rg) : NV r.v = True := by unfold Rg.v; simp only [go_sem]
@[go_sem] theorem dr_bel_eq (w : Int) (S : Nat -> Prop) : (Dr w).bel S = True := eq_true (dr_bel w S)
theorem rg_bel (r : Rg) (S : Nat -> Prop) : Bel S r.v := by unfold Rg.v; simp only [go_sem]
def hullR (a b : Int) : Rg := ⟨if b < a then b else a, if b > a then b else a⟩
def rngR (w lo hi : Int) : Rg := hullR (btw w lo hi) (btw (dstep w) lo hi)
theorem rngR_in {w lo hi : Int} (h : lo <= hi) : lo <= (rngR w lo hi).lo /\ (rngR w lo hi).lo <= (rngR w lo hi).hi /\ (rngR w lo hi).hi <= hi := by
  have := btw_in (w := w) h
  have := btw_in (w := dstep w) h
  unfold rngR hullR; simp only; constructor
  . split <;> (try dsimp only) <;> omega
  . constructor <;> (repeat' split) <;> omega
theorem w64 {n : Int} (h : -9223372036854775808 <= n /\ n <= 9223372036854775807) : IntKind.i64.wrap n = n := IntWalk.i64_in _ h
end Go.Proofs
namespace Go.Proofs
open Go Go.Sx
theorem next_ok (w : Int) : Ans Try.prog n_kit_Dice_next [.ptr 0 0 0 1] [some (Dr w)] (.int .u64 (dmix (dstep w))) [some (Dr (dstep w))] := by
  refine spec_run e_kit_Dice_next fun G => ?_
  simp only [go_sem, Dr, dmix, dstep]
  exact ⟨_, rfl⟩
theorem upto_ok (w n : Int) (hn : n <= 9223372036854775807) : Ans Try.prog n_kit_Dice_Upto [.ptr 0 0 0 1, .int .i64 n] [some (Dr w)] (.int .i64 (upto w n)) [some (Dr (dstep w))] := by
  refine spec_run e_kit_Dice_Upto fun G => ?_
  simp only [go_sem]
  refine callD (next_ok w) rfl trivial (.int _ _) (dr_bel _ _) (dr_bel _ _) (by simp) (by simp) ?_
  simp only [go_sem]
  refine ⟨fun h => ⟨by simp [upto, h], by simp⟩, fun h => ?_⟩
  have hm : 0 <= dmix (dstep w) := (bitW_u64 _ _ _).1
  have h1 : IntKind.u64.wrap n = n := IntWalk.u64_in n (by omega)
  have h2 : (dmix (dstep w)).tmod n = dmix (dstep w) % n := Int.tmod_eq_emod_of_nonneg hm
  have h3 := Int.emod_nonneg (dmix (dstep w)) (show n ≠ 0 by omega)
  have h4 := Int.emod_lt_of_pos (dmix (dstep w)) (show 0 < n by omega)
  rw [h1, h2, IntWalk.i64_in _ (by omega)]
  refine ⟨by omega, by rw [upto, if_neg h], _, rfl⟩
theorem between_ok (w lo hi : Int) (h1 : -1152921504606846976 <= lo) (h2 : lo <= hi) (h3 : hi <= 1152921504606846976) : Ans Try.prog n_kit_Dice_Between [.ptr 0 0 0 1, .int .i64 lo, .int .i64 hi] [some (Dr w)] (.int .i64 (btw w lo hi)) [some (Dr (dstep w))] := by
  refine spec_run e_kit_Dice_Between fun G => ?_
  simp only [go_sem]
  rw [IntWalk.i64_in (hi - lo) (by omega), IntWalk.i64_in (hi - lo + 1) (by omega)]
  refine callD (upto_ok w _ (by omega)) rfl ⟨.int _ _, trivial⟩ (.int _ _) (dr_bel _ _) (dr_bel _ _) (by simp) (by simp) ?_
  have := btw_in (w := w) h2
  unfold btw at this
  simp only [go_sem]
  rw [IntWalk.i64_in _ (by omega)]
  exact ⟨rfl, _, rfl⟩
theorem one_ok (w n : Int) (hn : n <= 9223372036854775807) : Ans Try.prog n_kit_Dice_One [.ptr 0 0 0 1, .int .i64 n] [some (Dr w)] (.bool (upto w n == 0)) [some (Dr (dstep w))] := by
  refine spec_run e_kit_Dice_One fun G => ?_
  simp only [go_sem]
  refine callD (upto_ok w _ hn) rfl ⟨.int _ _, trivial⟩ (.int _ _) (dr_bel _ _) (dr_bel _ _) (by simp) (by simp) ?_
  simp only [go_sem]
  exact ⟨_, rfl⟩
theorem range_ok (w lo hi : Int) (h1 : -1152921504606846976 <= lo) (h2 : lo <= hi) (h3 : hi <= 1152921504606846976) : Ans Try.prog n_kit_Dice_Range [.ptr 0 0 0 1, .int .i64 lo, .int .i64 hi] [some (Dr w)] (rngR w lo hi).v [some (Dr (dstep (dstep w)))] := by
  refine spec_run e_kit_Dice_Range fun G => ?_
  simp only [go_sem]
  refine callD (between_ok w lo hi h1 h2 h3) rfl ⟨.int _ _, .int _ _, trivial⟩ (.int _ _) (dr_bel _ _) (dr_bel _ _) (by simp) (by simp) ?_
  simp only [go_sem]
  refine callD (between_ok (dstep w) lo hi h1 h2 h3) rfl ⟨.int _ _, .int _ _, trivial⟩ (.int _ _) (dr_bel _ _) (dr_bel _ _) (by simp) (by simp) ?_
  simp only [go_sem]
  exact ⟨rfl, _, rfl⟩
structure Lw where
  perv : Rg
  gain : Rg
  shift : Rg
  full : Rg
  part : Rg
def Lw.cs (l : Lw) : List AVal := [.int .i64 l.perv.lo, .int .i64 l.perv.hi, .int .i64 l.gain.lo, .int .i64 l.gain.hi, .int .i64 l.shift.lo, .int .i64 l.shift.hi, .int .i64 l.full.lo, .int .i64 l.full.hi, .int .i64 l.part.lo, .int .i64 l.part.hi]
def Lw.v (l : Lw) : AVal := .agg l.cs
theorem lw_bel (l : Lw) (S : Nat -> Prop) : Bel S l.v := by unfold Lw.v Lw.cs; simp only [go_sem]
def d2 (w : Int) : Int := dstep (dstep w)
def w10 (w : Int) : Int := d2 (d2 (d2 (d2 (d2 w))))
def lawOf (w : Int) : Lw :=
  ⟨rngR w 1000 90000, if upto (d2 (w10 w)) 8 = 0 then ⟨1, btw (dstep (d2 (w10 w))) 1 400⟩ else rngR (d2 w) 5000 60000, rngR (d2 (d2 w)) (-800) 800,
   if upto (w10 w) 3 = 0 then ⟨1000000, 1000000⟩ else rngR (d2 (d2 (d2 w))) 2000 60000, if upto (dstep (w10 w)) 2 = 0 then ⟨1000000, 1000000⟩ else rngR (d2 (d2 (d2 (d2 w)))) 500000 1000000⟩
def lawEnd (w : Int) : Int := if upto (d2 (w10 w)) 8 = 0 then d2 (d2 (w10 w)) else dstep (d2 (w10 w))
structure LwOK (l : Lw) : Prop where
  perv : 0 <= l.perv.lo /\ l.perv.lo <= l.perv.hi /\ l.perv.hi <= 1000000
  gain : 1 <= l.gain.lo /\ l.gain.lo <= l.gain.hi /\ l.gain.hi <= 1000000
  shift : -1000000 <= l.shift.lo /\ l.shift.lo <= l.shift.hi /\ l.shift.hi <= 1000000
  full : 0 <= l.full.lo /\ l.full.lo <= l.full.hi /\ l.full.hi <= 1000000
  part : 0 <= l.part.lo /\ l.part.lo <= l.part.hi /\ l.part.hi <= 1000000
theorem lawOf_in (w : Int) : LwOK (lawOf w) := by
  have h1 := rngR_in (w := w) (lo := 1000) (hi := 90000) (by decide)
  have h2 := rngR_in (w := d2 w) (lo := 5000) (hi := 60000) (by decide)
  have h3 := rngR_in (w := d2 (d2 w)) (lo := -800) (hi := 800) (by decide)
  have h4 := rngR_in (w := d2 (d2 (d2 w))) (lo := 2000) (hi := 60000) (by decide)
  have h5 := rngR_in (w := d2 (d2 (d2 (d2 w)))) (lo := 500000) (hi := 1000000) (by decide)
  have h6 := btw_in (w := dstep (d2 (w10 w))) (lo := 1) (hi := 400) (by decide)
  constructor <;> unfold lawOf <;> dsimp only
  . omega
  . split <;> (try dsimp only) <;> omega
  . omega
  . split <;> (try dsimp only) <;> omega
  . split <;> (try dsimp only) <;> omega
theorem lawof_ok (w : Int) : Ans Try.prog n_kit_LawOf [.ptr 0 0 0 1] [some (Dr w)] (lawOf w).v [some (Dr (lawEnd w))] := by
  refine spec_run e_kit_LawOf fun G => ?_
  simp only [go_sem]
  refine callD (range_ok w 1000 90000 (by decide) (by decide) (by decide)) rfl ⟨.int _ _, .int _ _, trivial⟩ (rg_bel _ _) (dr_bel _ _) (dr_bel _ _) (by simp) (by simp) ?_
  simp only [go_sem]
  refine callD (range_ok _ 5000 60000 (by decide) (by decide) (by decide)) rfl ⟨.int _ _, .int _ _, trivial⟩ (rg_bel _ _) (dr_bel _ _) (dr_bel _ _) (by simp) (by simp) ?_
  simp only [go_sem]
  refine callD (range_ok _ (-800) 800 (by decide) (by decide) (by decide)) rfl ⟨.int _ _, .int _ _, trivial⟩ (rg_bel _ _) (dr_bel _ _) (dr_bel _ _) (by simp) (by simp) ?_
  simp only [go_sem]
  refine callD (range_ok _ 2000 60000 (by decide) (by decide) (by decide)) rfl ⟨.int _ _, .int _ _, trivial⟩ (rg_bel _ _) (dr_bel _ _) (dr_bel _ _) (by simp) (by simp) ?_
  simp only [go_sem]
  refine callD (range_ok _ 500000 1000000 (by decide) (by decide) (by decide)) rfl ⟨.int _ _, .int _ _, trivial⟩ (rg_bel _ _) (dr_bel _ _) (dr_bel _ _) (by simp) (by simp) ?_
  simp only [go_sem, Rg.v]
  refine callD (one_ok _ 3 (by decide)) rfl ⟨.int _ _, trivial⟩ (.bool _) (dr_bel _ _) (dr_bel _ _) (by simp) (by simp) ?_
  simp only [go_sem]
  refine ⟨fun h1 => ?_, fun h1 => ?_⟩ <;>
  . refine callD (one_ok _ 2 (by decide)) rfl ⟨.int _ _, trivial⟩ (.bool _) (dr_bel _ _) (dr_bel _ _) (by simp) (by simp) ?_
    simp only [go_sem]
    refine ⟨fun h2 => ?_, fun h2 => ?_⟩ <;>
    . refine callD (one_ok _ 8 (by decide)) rfl ⟨.int _ _, trivial⟩ (.bool _) (dr_bel _ _) (dr_bel _ _) (by simp) (by simp) ?_
      simp only [go_sem]
      refine ⟨fun h3 => ?_, fun h3 => ?_⟩
      . refine callD (between_ok _ 1 400 (by decide) (by decide) (by decide)) rfl ⟨.int _ _, .int _ _, trivial⟩ (.int _ _) (dr_bel _ _) (dr_bel _ _) (by simp) (by simp) ?_
        simp only [go_sem]
        exact ⟨by simp only [lawOf, Lw.v, Lw.cs, d2, w10, h1, h2, h3, if_true, if_false], _, by simp only [lawEnd, d2, w10, h3, if_true, if_false]; rfl⟩
      . exact ⟨by simp only [lawOf, Lw.v, Lw.cs, d2, w10, h1, h2, h3, if_true, if_false], _, by simp only [lawEnd, d2, w10, h3, if_true, if_false]; rfl⟩
theorem newdice_ok (xs : List Int) (hl : xs.length <= 9223372036854775807) : Ans Try.prog n_kit_NewDice [.view (xs.map (.int .i64))] [] (.ptr 0 0 0 1) [some (Dr (feed (IntKind.u64.wrap (IntKind.u64.wrap xs.length + 1374496523)) xs))] := by
  refine spec_run e_kit_NewDice fun G => ?_
  simp only [go_sem]
  have key : ∀ (zs : List Int) (i : Nat) (w : Int), xs.drop i = zs -> i <= xs.length ->
      Sx.Loop Try.prog G 0 none k_kit_NewDice_r7 [.blk 0, .seq (.seq (.reg k_kit_NewDice_r8 false) .ret)] ⟨[.view (xs.map (.int .i64)), .any, .nilptr, .ptr 0 0 0 1, .int .i64 i] ++ List.replicate 28 .any, [some (Dr w)], []⟩
        (RetPost [ARes.tmp 2] fun v H' => v = .ptr 0 0 0 1 /\ ∃ X, H' = some (Dr (feed w zs)) :: X) := by
    intro zs
    induction zs with
    | nil =>
      intro i w hd hi
      have : xs.length <= i := by simpa using hd
      have h1 : ¬ (i : Int) < xs.length := by omega
      refine loop_body 200 k_kit_NewDice_r7.eq_1 ?_
      simp only [go_sem, h1, feed]
      exact ⟨_, rfl⟩
    | cons z zs ih =>
      intro i w hd hi
      have hx : xs[i]? = some z := by have := congrArg (·[0]?) hd; simpa using this
      have h1 : i < xs.length := (List.getElem?_eq_some_iff.1 hx).1
      have h2 : (i : Int) < xs.length := by omega
      have h3 : IntKind.i64.wrap ((i : Int) + 1) = ((i + 1 : Nat) : Int) := by rw [IntWalk.i64_in _ (by omega)]; rfl
      have hd' : xs.drop (i + 1) = zs := by have := congrArg (List.drop 1) hd; simpa [Nat.add_comm] using this
      refine loop_body 200 k_kit_NewDice_r7.eq_1 ?_
      simp only [go_sem, hx, h2, Dr]
      refine callD (next_ok _) rfl trivial (.int _ _) (dr_bel _ _) (dr_bel _ _) (by simp) (by simp) ?_
      simp only [go_sem, h3]
      refine loop_wk ?_ (ih (i + 1) _ hd' h1)
      simp [Wk]
  refine loop_wk ?_ (key xs 0 _ rfl (Nat.zero_le _))
  simp [Wk]
end Go.Proofs
namespace Go.Proofs
open Go Go.Sx
theorem within_ok (n a b : Int) : Ans Try.prog n_curve_within [.int .i64 n, .int .i64 a, .int .i64 b] [] (.bool (decide (a <= n) && decide (n <= b))) [] := by
  refine spec_run e_curve_within fun G => ?_
  simp only [go_sem]
  refine ⟨fun h => ?_, fun h => ?_⟩ <;> simp [h]
theorem rightGrid_ok (g : Int) : Ans Try.prog n_curve_rightGrid [.int .i64 g] [] (.bool (decide (-1000000 <= g) && decide (g <= 1000000))) [] := by
  refine spec_run e_curve_rightGrid fun G => ?_
  simp only [go_sem]
  refine callP (within_ok _ _ _) ⟨.int _ _, .int _ _, .int _ _, trivial⟩ (.bool _) (by simp) (by simp) ?_
  simp only [go_sem]
theorem rightPlate_ok (g : Int) : Ans Try.prog n_curve_rightPlate [.int .i64 g] [] (.bool (decide (0 <= g) && decide (g <= 1000000))) [] := by
  refine spec_run e_curve_rightPlate fun G => ?_
  simp only [go_sem]
  refine callP (within_ok _ _ _) ⟨.int _ _, .int _ _, .int _ _, trivial⟩ (.bool _) (by simp) (by simp) ?_
  simp only [go_sem]
def bnd (n : Int) : Int := if n < 0 then 0 else if 1000000 < n then 1000000 else n
def rup (n b : Int) : Int := (n + b - 1) / b
def driveOf (l : Lw) (g p : Int) : Rg := ⟨bnd (g + l.shift.lo + (1000 * p) / l.gain.hi), bnd (g + l.shift.hi + rup (1000 * p) l.gain.lo)⟩
theorem shr_u64 (x n : Int) : shrW .u64 x n = x / 2 ^ (min n.toNat 64) := by
  unfold shrW; rw [Int.fdiv_eq_ediv_of_nonneg _ (by exact Int.pow_nonneg (by decide))]; rfl
theorem s32 (x : Int) : shrW .u64 x 32 = x / 4294967296 := by rw [shr_u64]; rfl
end Go.Proofs
namespace Go.Fam
def fnz (e : Nat -> Int) : Nat -> Nat -> Int
  | _, 0 => 0
  | i, n + 1 => if e i = 0 then fnz e (i + 1) n else e i
theorem fnz_zero {e : Nat -> Int} : ∀ {n i : Nat}, fnz e i n = 0 ↔ ∀ j, i <= j -> j < i + n -> e j = 0
  | 0, i => by simp only [fnz, true_iff]; intro j h1 h2; omega
  | n + 1, i => by
    simp only [fnz]
    split
    . rename_i h
      rw [fnz_zero]
      constructor
      . intro h1 j h2 h3
        by_cases hj : j = i
        . subst hj; exact h
        . exact h1 j (by omega) (by omega)
      . intro h1 j h2 h3; exact h1 j (by omega) (by omega)
    . rename_i h
      constructor
      . intro h1; exact absurd h1 h
      . intro h1; exact absurd (h1 i (Nat.le_refl _) (by omega)) h
structure Fa where
  g : List Int
  p : List Int
  lo : List (List Int)
  hi : List (List Int)
def at1 (l : List Int) (i : Nat) : Int := l.getD i 0
def tg (t : List (List Int)) (i k : Nat) : Int := (t.getD i []).getD k 0
def ascAt (a : Int) (l : List Int) (i : Nat) : Int := if a <= at1 l i /\ at1 l i <= 1000000 then (if 0 < i /\ at1 l i <= at1 l (i - 1) then 11 else 0) else 2
def ascE (a : Int) (l : List Int) : Int := fnz (ascAt a l) 0 l.length
def lineE (g p : List Int) : Int := if g.length = 0 ∨ p.length = 0 then 6 else if 40 < g.length ∨ 40 < p.length then 8 else if ascE (-1000000) g = 0 then ascE 0 p else ascE (-1000000) g
def formB (m n : Nat) (t : List (List Int)) : Bool := t.all (fun r => r.length == n) && t.length == m
def plE (f : Fa) (i k : Nat) : Int :=
  if (0 <= tg f.lo i k /\ tg f.lo i k <= 1000000) /\ (0 <= tg f.hi i k /\ tg f.hi i k <= 1000000) then
    if tg f.hi i k < tg f.lo i k then 12
    else if 0 < k /\ (tg f.lo i k < tg f.lo i (k - 1) ∨ tg f.hi i k < tg f.hi i (k - 1)) then 11
    else if 0 < i /\ (tg f.lo i k < tg f.lo (i - 1) k ∨ tg f.hi i k < tg f.hi (i - 1) k) then 11 else 0
  else 2
def rowE (f : Fa) (i : Nat) : Int := fnz (plE f i) 0 f.p.length
def famE (f : Fa) : Int := if lineE f.g f.p = 0 then (if formB f.g.length f.p.length f.lo = true /\ formB f.g.length f.p.length f.hi = true then fnz (rowE f) 0 f.g.length else 3) else lineE f.g f.p
structure Asc (a : Int) (l : List Int) : Prop where
  pos : 1 <= l.length
  most : l.length <= 40
  inn : ∀ i, i < l.length -> a <= at1 l i /\ at1 l i <= 1000000
  asc : ∀ i, i + 1 < l.length -> at1 l i < at1 l (i + 1)
structure FaOK (f : Fa) : Prop where
  g : Asc (-1000000) f.g
  p : Asc 0 f.p
  llen : f.lo.length = f.g.length
  hlen : f.hi.length = f.g.length
  lrow : ∀ r ∈ f.lo, r.length = f.p.length
  hrow : ∀ r ∈ f.hi, r.length = f.p.length
  inn : ∀ i k, i < f.g.length -> k < f.p.length -> 0 <= tg f.lo i k /\ tg f.lo i k <= tg f.hi i k /\ tg f.hi i k <= 1000000
  right : ∀ i k, i < f.g.length -> k + 1 < f.p.length -> tg f.lo i k <= tg f.lo i (k + 1) /\ tg f.hi i k <= tg f.hi i (k + 1)
  up : ∀ i k, i + 1 < f.g.length -> k < f.p.length -> tg f.lo i k <= tg f.lo (i + 1) k /\ tg f.hi i k <= tg f.hi (i + 1) k
theorem ascAt_zero {a : Int} {l : List Int} {i : Nat} : ascAt a l i = 0 ↔ (a <= at1 l i /\ at1 l i <= 1000000) /\ (0 < i -> at1 l (i - 1) < at1 l i) := by
  unfold ascAt
  constructor
  . intro h
    split at h
    . rename_i h1
      split at h
      . cases h
      . rename_i h2; exact ⟨h1, fun h3 => by omega⟩
    . cases h
  . rintro ⟨h1, h2⟩
    rw [if_pos h1, if_neg (by omega)]
theorem asc_iff {a : Int} {l : List Int} (h1 : 1 <= l.length) (h2 : l.length <= 40) : ascE a l = 0 ↔ Asc a l := by
  unfold ascE
  rw [fnz_zero]
  constructor
  . intro h
    refine ⟨h1, h2, fun i hi => (ascAt_zero.1 (h i (Nat.zero_le _) (by omega))).1, fun i hi => ?_⟩
    have := (ascAt_zero.1 (h (i + 1) (Nat.zero_le _) (by omega))).2 (by omega)
    simpa using this
  . intro h j _ hj
    refine ascAt_zero.2 ⟨h.inn j (by omega), fun h0 => ?_⟩
    have := h.asc (j - 1) (by omega)
    rwa [show j - 1 + 1 = j by omega] at this
theorem line_iff {g p : List Int} : lineE g p = 0 ↔ Asc (-1000000) g /\ Asc 0 p := by
  unfold lineE
  by_cases h1 : g.length = 0 ∨ p.length = 0
  . rw [if_pos h1]
    constructor
    . intro h; cases h
    . rintro ⟨a, b⟩; have := a.pos; have := b.pos; omega
  . rw [if_neg h1]
    by_cases h2 : 40 < g.length ∨ 40 < p.length
    . rw [if_pos h2]
      constructor
      . intro h; cases h
      . rintro ⟨a, b⟩; have := a.most; have := b.most; omega
    . rw [if_neg h2]
      rw [<- asc_iff (by omega) (by omega), <- asc_iff (by omega) (by omega)]
      by_cases h3 : ascE (-1000000) g = 0
      . rw [if_pos h3]; exact ⟨fun h => ⟨h3, h⟩, fun h => h.2⟩
      . rw [if_neg h3]; exact ⟨fun h => absurd h h3, fun h => absurd h.1 h3⟩
theorem form_iff {m n : Nat} {t : List (List Int)} : formB m n t = true ↔ t.length = m /\ ∀ r ∈ t, r.length = n := by
  unfold formB
  simp only [Bool.and_eq_true, List.all_eq_true, beq_iff_eq]
  exact and_comm
theorem plE_zero {f : Fa} {i k : Nat} : plE f i k = 0 ↔ (0 <= tg f.lo i k /\ tg f.lo i k <= tg f.hi i k /\ tg f.hi i k <= 1000000) /\ (0 < k -> tg f.lo i (k - 1) <= tg f.lo i k /\ tg f.hi i (k - 1) <= tg f.hi i k) /\ (0 < i -> tg f.lo (i - 1) k <= tg f.lo i k /\ tg f.hi (i - 1) k <= tg f.hi i k) := by
  unfold plE
  generalize tg f.lo i k = a
  generalize tg f.hi i k = b
  generalize tg f.lo i (k - 1) = a1
  generalize tg f.hi i (k - 1) = b1
  generalize tg f.lo (i - 1) k = a2
  generalize tg f.hi (i - 1) k = b2
  constructor
  . intro h
    split at h
    . split at h
      . cases h
      . split at h
        . cases h
        . split at h
          . cases h
          . omega
    . cases h
  . intro h
    rw [if_pos (by omega), if_neg (by omega), if_neg (by omega), if_neg (by omega)]
theorem fam_iff {f : Fa} : famE f = 0 ↔ FaOK f := by
  unfold famE
  constructor
  . intro h
    split at h
    . rename_i h1
      obtain ⟨hg, hp⟩ := line_iff.1 h1
      split at h
      . rename_i h2
        obtain ⟨l1, l2⟩ := form_iff.1 h2.1
        obtain ⟨l3, l4⟩ := form_iff.1 h2.2
        have hpl : ∀ i k, i < f.g.length -> k < f.p.length -> plE f i k = 0 := fun i k hi hk =>
          fnz_zero.1 (fnz_zero.1 h i (Nat.zero_le _) (by omega)) k (Nat.zero_le _) (by omega)
        refine ⟨hg, hp, l1, l3, l2, l4, fun i k hi hk => (plE_zero.1 (hpl i k hi hk)).1, fun i k hi hk => ?_, fun i k hi hk => ?_⟩
        . have := (plE_zero.1 (hpl i (k + 1) hi hk)).2.1 (by omega)
          simpa using this
        . have := (plE_zero.1 (hpl (i + 1) k hi hk)).2.2 (by omega)
          simpa using this
      . cases h
    . rename_i h1; exact absurd h h1
  . intro h
    rw [if_pos (line_iff.2 ⟨h.g, h.p⟩), if_pos ⟨form_iff.2 ⟨h.llen, h.lrow⟩, form_iff.2 ⟨h.hlen, h.hrow⟩⟩]
    refine fnz_zero.2 fun i _ hi => fnz_zero.2 fun k _ hk => plE_zero.2 ⟨h.inn i k (by omega) (by omega), fun h0 => ?_, fun h0 => ?_⟩
    . have := h.right i (k - 1) (by omega) (by omega)
      rwa [show k - 1 + 1 = k by omega] at this
    . have := h.up (i - 1) k (by omega) (by omega)
      rwa [show i - 1 + 1 = i by omega] at this
theorem Asc.lt {a : Int} {l : List Int} (h : Asc a l) : ∀ {i j : Nat}, i < j -> j < l.length -> at1 l i < at1 l j := by
  intro i j hij hj
  induction j with
  | zero => omega
  | succ j ih =>
    by_cases hi : i = j
    . subst hi; exact h.asc i hj
    . have := ih (by omega) (by omega)
      have := h.asc j hj; omega
theorem Asc.le {a : Int} {l : List Int} (h : Asc a l) {i j : Nat} (hij : i <= j) (hj : j < l.length) : at1 l i <= at1 l j := by
  by_cases e : i = j
  . subst e; omega
  . have := h.lt (i := i) (j := j) (by omega) hj; omega
def cnt (v : Int) : List Int -> Nat
  | [] => 0
  | x :: l => if x <= v then cnt v l + 1 else 0
theorem cnt_le (v : Int) : ∀ l, cnt v l <= l.length
  | [] => Nat.le_refl _
  | x :: l => by
    have := cnt_le v l
    simp only [cnt]
    split <;> simp <;> omega
theorem cnt_below {v : Int} : ∀ {l : List Int} {i : Nat}, i < cnt v l -> at1 l i <= v
  | [], i, h => by simp [cnt] at h
  | x :: l, i, h => by
    simp only [cnt] at h
    split at h
    . rename_i hx
      cases i with
      | zero => exact hx
      | succ i => have := cnt_below (v := v) (l := l) (i := i) (by omega); simpa [at1] using this
    . omega
theorem cnt_at {v : Int} : ∀ {l : List Int}, cnt v l < l.length -> v < at1 l (cnt v l)
  | [], h => by simp [cnt] at h
  | x :: l, h => by
    simp only [cnt] at h ⊢
    split
    . rename_i hx
      rw [if_pos hx] at h
      have := cnt_at (v := v) (l := l) (by simpa using h)
      simpa [at1] using this
    . rename_i hx; simp only [at1, List.getD_cons_zero]; omega
theorem cnt_eq {a v : Int} {l : List Int} (h : Asc a l) {n : Nat} (hn : n <= l.length) (h1 : ∀ i, i < n -> at1 l i <= v) (h2 : n < l.length -> v < at1 l n) : cnt v l = n := by
  by_cases c1 : cnt v l < n
  . have := cnt_at (v := v) (l := l) (by omega)
    have := h1 _ c1; omega
  . by_cases c2 : n < cnt v l
    . have := cnt_below c2
      have hl := cnt_le v l
      have := h2 (by omega); omega
    . omega
structure Sp where
  at_ : Nat
  part : Int
  whole : Int
def spot (l : List Int) (v : Int) : Sp := if cnt v l = 0 then ⟨0, 0, 1⟩ else if cnt v l = l.length then ⟨cnt v l - 1, 0, 1⟩ else ⟨cnt v l - 1, v - at1 l (cnt v l - 1), at1 l (cnt v l) - at1 l (cnt v l - 1)⟩
def rspot (l : List Int) (v : Int) : Sp := if (spot l v).part = 0 then ⟨(spot l v).at_, 0, 1⟩ else spot l v
structure SpOK (n : Nat) (m : Int) (s : Sp) : Prop where
  at_ : s.at_ < n
  part : 0 <= s.part /\ s.part < s.whole
  whole : s.whole <= m
  next : 0 < s.part -> s.at_ + 1 < n
theorem spot_ok {a v : Int} {l : List Int} (h : Asc a l) (ha : a <= 1000000 - 1) : SpOK l.length (1000000 - a) (spot l v) := by
  have hp := h.pos
  unfold spot
  have hl := cnt_le v l
  split
  . exact ⟨by simp only; omega, by simp, by simp only; omega, by simp⟩
  . split
    . exact ⟨by simp only; omega, by simp, by simp only; omega, by simp⟩
    . rename_i h1 h2
      have b1 := cnt_below (v := v) (l := l) (i := cnt v l - 1) (by omega)
      have b2 := cnt_at (v := v) (l := l) (by omega)
      have i1 := h.inn (cnt v l - 1) (by omega)
      have i2 := h.inn (cnt v l) (by omega)
      exact ⟨by simp only; omega, by simp only; omega, by simp only; omega, fun _ => by simp only; omega⟩
def vN (t : List (List Int)) (x y : Sp) : Int :=
  (x.whole - x.part) * (y.whole - y.part) * tg t x.at_ y.at_ + (x.whole - x.part) * y.part * tg t x.at_ (y.at_ + 1) + x.part * (y.whole - y.part) * tg t (x.at_ + 1) y.at_ + x.part * y.part * tg t (x.at_ + 1) (y.at_ + 1)
def cup (n b : Int) : Int := (n + b - 1) / b
theorem cup_eq (n b : Int) (hb : 0 < b) : cup n b = -(-n / b) := by
  unfold cup
  have h1 := Int.emod_add_mul_ediv (-n) b
  have h2 := Int.emod_nonneg (-n) (show b ≠ 0 by omega)
  have h3 := Int.emod_lt_of_pos (-n) hb
  have e : n + b - 1 = (b - 1 - (-n) % b) + b * (-(-n / b)) := by rw [Int.mul_neg]; omega
  rw [e, Int.add_mul_ediv_left _ _ (by omega), Int.ediv_eq_zero_of_lt (by omega) (by omega), Int.zero_add]
def atR (f : Fa) (x y : Sp) : Int × Int := (vN f.lo x y / (x.whole * y.whole), cup (vN f.hi x y) (x.whole * y.whole))
theorem vN_left (t : List (List Int)) (i : Nat) (w : Int) (y : Sp) : vN t ⟨i, 0, w⟩ y = w * vN t ⟨i, 0, 1⟩ y := by
  simp only [vN, Int.sub_zero, Int.zero_mul, Int.add_zero, Int.one_mul]
  rw [Int.mul_add, Int.mul_assoc, Int.mul_assoc w y.part]
theorem vN_right (t : List (List Int)) (x : Sp) (k : Nat) (w : Int) : vN t x ⟨k, 0, w⟩ = w * vN t x ⟨k, 0, 1⟩ := by
  simp only [vN, Int.sub_zero, Int.mul_zero, Int.zero_mul, Int.add_zero, Int.mul_one]
  rw [Int.mul_add, Int.mul_comm _ w, Int.mul_comm x.part w]; simp [Int.mul_assoc]
end Go.Fam
namespace Go.Fam
def wgt (s : Sp) : Nat -> Int
  | 0 => s.whole - s.part
  | _ => s.part
def pacc (t : List (List Int)) (x y : Sp) : Nat -> Int
  | 0 => 0
  | n + 1 => pacc t x y n + wgt x (n / 2) * wgt y (n % 2) * tg t (x.at_ + n / 2) (y.at_ + n % 2)
theorem pacc_all (t : List (List Int)) (x y : Sp) : pacc t x y 4 = vN t x y := by
  simp only [pacc, vN, wgt, Nat.reduceDiv, Nat.reduceMod, Nat.add_zero, Int.zero_add]
def Small (m n : Nat) (t : List (List Int)) : Prop := ∀ i k, i < m -> k < n -> 0 <= tg t i k /\ tg t i k <= 1000000
theorem wgt_in {n : Nat} {M : Int} {s : Sp} (h : SpOK n M s) (i : Nat) : 0 <= wgt s i /\ wgt s i <= M := by
  have := h.part
  have := h.whole
  cases i <;> simp only [wgt] <;> omega
theorem term_in {m n : Nat} {t : List (List Int)} (ht : Small m n t) {x y : Sp} (hx : SpOK m 2000000 x) (hy : SpOK n 1000000 y) {i k : Nat} (hi : i < 2) (hk : k < 2) :
    0 <= wgt x i * wgt y k /\ wgt x i * wgt y k <= 2000000000000 /\ 0 <= wgt x i * wgt y k * tg t (x.at_ + i) (y.at_ + k) /\ wgt x i * wgt y k * tg t (x.at_ + i) (y.at_ + k) <= wgt x i * wgt y k * 1000000 := by
  have a := wgt_in hx i
  have b := wgt_in hy k
  have h0 : 0 <= wgt x i * wgt y k := Int.mul_nonneg a.1 b.1
  have h1 : wgt x i * wgt y k <= 2000000 * 1000000 := Int.mul_le_mul a.2 b.2 b.1 (by omega)
  by_cases c : wgt x i = 0 ∨ wgt y k = 0
  . have : wgt x i * wgt y k = 0 := by rcases c with c | c <;> rw [c] <;> simp
    rw [this]; simp
  . have hi' : x.at_ + i < m := by
      cases i with
      | zero => have := hx.at_; omega
      | succ i => obtain rfl : i = 0 := by omega
                  simp only [wgt] at c a
                  have := hx.next (by omega); omega
    have hk' : y.at_ + k < n := by
      cases k with
      | zero => have := hy.at_; omega
      | succ k => obtain rfl : k = 0 := by omega
                  simp only [wgt] at c b
                  have := hy.next (by omega); omega
    have e := ht _ _ hi' hk'
    exact ⟨h0, by omega, Int.mul_nonneg h0 e.1, Int.mul_le_mul_of_nonneg_left e.2 h0⟩
theorem pacc_in {m n : Nat} {t : List (List Int)} (ht : Small m n t) {x y : Sp} (hx : SpOK m 2000000 x) (hy : SpOK n 1000000 y) :
    ∀ {q : Nat}, q <= 4 -> 0 <= pacc t x y q /\ pacc t x y q <= 2000000 * 1000000 * 1000000 /\ (q = 4 -> pacc t x y q <= 1000000 * (x.whole * y.whole)) := by
  have t0 := term_in ht hx hy (i := 0) (k := 0) (by omega) (by omega)
  have t1 := term_in ht hx hy (i := 0) (k := 1) (by omega) (by omega)
  have t2 := term_in ht hx hy (i := 1) (k := 0) (by omega) (by omega)
  have t3 := term_in ht hx hy (i := 1) (k := 1) (by omega) (by omega)
  have hw : wgt x 0 * wgt y 0 + wgt x 0 * wgt y 1 + wgt x 1 * wgt y 0 + wgt x 1 * wgt y 1 = x.whole * y.whole := by
    have e1 : x.whole = wgt x 0 + wgt x 1 := by simp only [wgt]; omega
    have e2 : y.whole = wgt y 0 + wgt y 1 := by simp only [wgt]; omega
    rw [e1, e2, Int.add_mul, Int.mul_add, Int.mul_add]; omega
  have hp : x.whole * y.whole <= 2000000 * 1000000 := Int.mul_le_mul hx.whole hy.whole (by have := hy.part; omega) (by omega)
  intro q hq
  have e4 : pacc t x y 4 = pacc t x y 3 + wgt x 1 * wgt y 1 * tg t (x.at_ + 1) (y.at_ + 1) := rfl
  have e3 : pacc t x y 3 = pacc t x y 2 + wgt x 1 * wgt y 0 * tg t (x.at_ + 1) (y.at_ + 0) := rfl
  have e2 : pacc t x y 2 = pacc t x y 1 + wgt x 0 * wgt y 1 * tg t (x.at_ + 0) (y.at_ + 1) := rfl
  have e1 : pacc t x y 1 = 0 + wgt x 0 * wgt y 0 * tg t (x.at_ + 0) (y.at_ + 0) := rfl
  have e0 : pacc t x y 0 = 0 := rfl
  obtain rfl | rfl | rfl | rfl | rfl : q = 0 ∨ q = 1 ∨ q = 2 ∨ q = 3 ∨ q = 4 := by omega
  all_goals omega
end Go.Fam
namespace Go.Fam
open Go.Proofs
def insL (n : Int) : List Int -> List Int
  | [] => [n]
  | x :: l => if x < n then x :: insL n l else if x = n then x :: l else n :: x :: l
def cntL (n : Int) : List Int -> Nat
  | [] => 0
  | x :: l => if x < n then cntL n l + 1 else 0
theorem cntL_le (n : Int) : ∀ l, cntL n l <= l.length
  | [] => Nat.le_refl _
  | x :: l => by
    have := cntL_le n l
    simp only [cntL]
    split <;> simp <;> omega
theorem insL_eq (n : Int) : ∀ l, insL n l = if l[cntL n l]? = some n then l else l.take (cntL n l) ++ n :: l.drop (cntL n l)
  | [] => by simp [insL, cntL]
  | x :: l => by
    have ih := insL_eq n l
    simp only [insL, cntL]
    by_cases h : x < n
    . simp only [h, if_true, List.getElem?_cons_succ, List.take_succ_cons, List.drop_succ_cons, ih]
      split <;> simp
    . by_cases h2 : x = n
      . simp [h2]
      . simp [h, h2]
theorem insL_len (n : Int) : ∀ l, 1 <= (insL n l).length /\ (insL n l).length <= l.length + 1
  | [] => by simp [insL]
  | x :: l => by
    have := insL_len n l
    simp only [insL]
    split
    . simp; omega
    . split <;> simp
theorem insL_mem {n : Int} : ∀ {l : List Int} {y : Int}, y ∈ insL n l -> y = n ∨ y ∈ l
  | [], y, h => by simp [insL] at h; exact .inl h
  | x :: l, y, h => by
    simp only [insL] at h
    split at h
    . rcases List.mem_cons.1 h with rfl | h
      . exact .inr (by simp)
      . rcases insL_mem h with h | h
        . exact .inl h
        . exact .inr (by simp [h])
    . split at h
      . exact .inr h
      . rcases List.mem_cons.1 h with h | h
        . exact .inl h
        . exact .inr h
theorem insL_asc {n : Int} : ∀ {l : List Int}, l.Pairwise (· < ·) -> (insL n l).Pairwise (· < ·)
  | [], _ => by simp [insL]
  | x :: l, h => by
    rw [List.pairwise_cons] at h
    simp only [insL]
    split
    . rename_i hx
      rw [List.pairwise_cons]
      refine ⟨fun y hy => ?_, insL_asc h.2⟩
      rcases insL_mem hy with rfl | hy
      . exact hx
      . exact h.1 y hy
    . split
      . rw [List.pairwise_cons]; exact h
      . rw [List.pairwise_cons, List.pairwise_cons]
        refine ⟨fun y hy => ?_, h⟩
        rcases List.mem_cons.1 hy with rfl | hy
        . omega
        . have := h.1 y hy; omega
def linesGo (lo hi : Int) : Nat -> Int -> List Int -> List Int × Int
  | 0, w, out => (out, w)
  | m + 1, w, out => linesGo lo hi m (dstep w) (insL (btw w lo hi) out)
def linesOf (w lo hi most : Int) : List Int := (linesGo lo hi (btw w 1 most).toNat (dstep w) []).1
def linesEnd (w lo hi most : Int) : Int := (linesGo lo hi (btw w 1 most).toNat (dstep w) []).2
theorem linesGo_ok {lo hi : Int} (hlh : lo <= hi) : ∀ (m : Nat) (w : Int) (out : List Int), out.Pairwise (· < ·) -> (∀ x ∈ out, lo <= x /\ x <= hi) -> (0 < m ∨ 1 <= out.length) ->
    ((linesGo lo hi m w out).1.Pairwise (· < ·) /\ (∀ x ∈ (linesGo lo hi m w out).1, lo <= x /\ x <= hi) /\ 1 <= (linesGo lo hi m w out).1.length /\ (linesGo lo hi m w out).1.length <= out.length + m)
  | 0, w, out, h1, h2, h3 => ⟨h1, h2, by simp only [linesGo]; omega, by simp [linesGo]⟩
  | m + 1, w, out, h1, h2, h3 => by
    have hb := btw_in (w := w) hlh
    have hl := insL_len (btw w lo hi) out
    obtain ⟨a, b, c, d⟩ := linesGo_ok hlh m (dstep w) (insL (btw w lo hi) out) (insL_asc h1) (fun x hx => by
      rcases insL_mem hx with rfl | hx
      . exact hb
      . exact h2 x hx) (.inr hl.1)
    exact ⟨a, b, c, by simp only [linesGo] at d ⊢; omega⟩
theorem asc_of {a lo hi : Int} {l : List Int} (h1 : l.Pairwise (· < ·)) (h2 : ∀ x ∈ l, lo <= x /\ x <= hi) (h3 : 1 <= l.length) (h4 : l.length <= 40) (ha : a <= lo) (hb : hi <= 1000000) : Asc a l := by
  have get : ∀ i (hi : i < l.length), at1 l i = l[i] := fun i hi => by unfold at1; rw [List.getD_eq_getElem?_getD, List.getElem?_eq_getElem hi]; rfl
  refine ⟨h3, h4, fun i hi => ?_, fun i hi => ?_⟩
  . rw [get i hi]
    have := h2 _ (List.getElem_mem hi); omega
  . rw [get i (by omega), get (i + 1) hi]
    exact List.pairwise_iff_getElem.1 h1 i (i + 1) (by omega) hi (by omega)
theorem linesOf_ok {w lo hi most a : Int} (hlh : lo <= hi) (hm : 1 <= most /\ most <= 40) (ha : a <= lo) (hb : hi <= 1000000) : Asc a (linesOf w lo hi most) /\ (linesOf w lo hi most).length <= most.toNat := by
  have hbt := btw_in (w := w) hm.1
  obtain ⟨h1, h2, h3, h4⟩ := linesGo_ok hlh (btw w 1 most).toNat (dstep w) [] List.Pairwise.nil (by simp) (.inl (by omega))
  simp only [List.length_nil, Nat.zero_add] at h4
  have h5 : (linesOf w lo hi most).length <= (btw w 1 most).toNat := h4
  exact ⟨asc_of h1 h2 h3 (by omega) ha hb, by omega⟩
def mx (a b : Int) : Int := if b > a then b else a
theorem mx_l (a b : Int) : a <= mx a b := by unfold mx; split <;> omega
theorem mx_r (a b : Int) : b <= mx a b := by unfold mx; split <;> omega
theorem mx_le {a b c : Int} (h1 : a <= c) (h2 : b <= c) : mx a b <= c := by unfold mx; split <;> assumption
structure Cell where
  lo : Int
  hi : Int
  w : Int
def cellA (w : Int) (u : Option (Int × Int)) : Int := match u with | none => upto w 60 | some u => mx (upto w 60) (u.1 + upto (dstep (dstep w)) 20)
def cellB (w : Int) (u : Option (Int × Int)) : Int := match u with | none => upto (dstep w) 30 | some u => mx (cellA w (some u) + upto (dstep w) 30) u.2 - cellA w (some u)
def cellA2 (w : Int) (u l : Option (Int × Int)) : Int := match l with | none => cellA w u | some l => mx (cellA w u) l.1
def cellB2 (w : Int) (u l : Option (Int × Int)) : Int := match l with | none => cellB w u | some l => mx (cellA2 w u (some l) + cellB w u) l.2 - cellA2 w u (some l)
def cellB3 (w : Int) (u l : Option (Int × Int)) : Int := match u with | none => cellB2 w u l | some v => mx (cellA2 w u l + cellB2 w u l) v.2 - cellA2 w u l
def cellW (w : Int) (u : Option (Int × Int)) : Int := match u with | none => dstep (dstep w) | some _ => dstep (dstep (dstep w))
def cell (w : Int) (u l : Option (Int × Int)) : Cell := ⟨cellA2 w u l, cellA2 w u l + mx 0 (cellB3 w u l), cellW w u⟩
def prevOf (lo hi : List Int) : Option (Int × Int) := if lo.length = 0 then none else some (at1 lo (lo.length - 1), at1 hi (lo.length - 1))
def upOf (U : Option (List Int × List Int)) (k : Nat) : Option (Int × Int) := U.map fun u => (at1 u.1 k, at1 u.2 k)
structure RowR where
  lo : List Int
  hi : List Int
  w : Int
def rowGo (U : Option (List Int × List Int)) : Nat -> Int -> List Int -> List Int -> RowR
  | 0, w, lo, hi => ⟨lo, hi, w⟩
  | m + 1, w, lo, hi => rowGo U m (cell w (upOf U lo.length) (prevOf lo hi)).w (lo ++ [(cell w (upOf U lo.length) (prevOf lo hi)).lo]) (hi ++ [(cell w (upOf U lo.length) (prevOf lo hi)).hi])
structure TabR where
  lo : List (List Int)
  hi : List (List Int)
  w : Int
def lastOf (L H : List (List Int)) : Option (List Int × List Int) := if L.length = 0 then none else some (L.getD (L.length - 1) [], H.getD (L.length - 1) [])
def tabGo (n : Nat) : Nat -> Int -> List (List Int) -> List (List Int) -> TabR
  | 0, w, L, H => ⟨L, H, w⟩
  | m + 1, w, L, H => tabGo n m (rowGo (lastOf L H) n w [] []).w (L ++ [(rowGo (lastOf L H) n w [] []).lo]) (H ++ [(rowGo (lastOf L H) n w [] []).hi])
theorem rowGo_len (U : Option (List Int × List Int)) : ∀ (m : Nat) (w : Int) (lo hi : List Int), (rowGo U m w lo hi).lo.length = lo.length + m /\ (rowGo U m w lo hi).hi.length = hi.length + m
  | 0, w, lo, hi => ⟨rfl, rfl⟩
  | m + 1, w, lo, hi => by
    have := rowGo_len U m (cell w (upOf U lo.length) (prevOf lo hi)).w (lo ++ [(cell w (upOf U lo.length) (prevOf lo hi)).lo]) (hi ++ [(cell w (upOf U lo.length) (prevOf lo hi)).hi])
    simp only [rowGo, List.length_append, List.length_singleton] at this ⊢
    omega
end Go.Fam
namespace Go.Proofs
open Go Go.Sx Go.Fam
attribute [local irreducible] Run
def vw (l : List Int) : AVal := .view (l.map (.int .i64))
def tw (t : List (List Int)) : AVal := .view (t.map vw)
def Fcs (f : Fa) : List AVal := [vw f.g, vw f.p, tw f.lo, tw f.hi]
def Fv (f : Fa) : AVal := .agg (Fcs f)
@[go_sem] theorem vw_bel (l : List Int) (S : Nat -> Prop) : Bel S (vw l) = True := by unfold vw; rw [bel_view, bels_ints]
@[go_sem] theorem tw_bel (t : List (List Int)) (S : Nat -> Prop) : Bel S (tw t) = True := by
  unfold tw; rw [bel_view]; exact eq_true (bels_map _ _ fun l => by rw [vw_bel]; trivial)
@[go_sem] theorem Fv_bel (f : Fa) (S : Nat -> Prop) : Bel S (Fv f) = True := by unfold Fv Fcs; simp only [go_sem]
theorem get_at {l : List Int} {i : Nat} (h : i < l.length) : l[i]? = some (at1 l i) := by
  unfold at1; rw [List.getD_eq_getElem?_getD, List.getElem?_eq_getElem h]; rfl
theorem idx_next {i n : Nat} (h : i < n) (hn : n <= 9223372036854775807) : IntKind.i64.wrap ((i : Int) + 1) = ((i + 1 : Nat) : Int) := by rw [w64 (by omega)]; rfl
theorem rightG_fn (v : Int) : Ans Try.prog n_curve_rightGrid [.int .i64 v] [] (.bool (decide (-1000000 <= v /\ v <= 1000000))) [] := by
  have := rightGrid_ok v
  rwa [<- Bool.decide_and] at this
theorem rightP_fn (v : Int) : Ans Try.prog n_curve_rightPlate [.int .i64 v] [] (.bool (decide (0 <= v /\ v <= 1000000))) [] := by
  have := rightPlate_ok v
  rwa [<- Bool.decide_and] at this
theorem checkAscending_run (a : Int) (g : Nat) (hg : ∀ v : Int, Ans Try.prog g [.int .i64 v] [] (.bool (decide (a <= v /\ v <= 1000000))) []) (l : List Int) (hl : l.length <= 9223372036854775807) :
    Ans Try.prog n_curve_checkAscending [vw l, .fn (.func g) [] []] [] (.int .i64 (ascE a l)) [] := by
  refine spec_run e_curve_checkAscending fun G => ?_
  simp only [go_sem, vw, List.length_map]
  refine loop_ind k_curve_checkAscending_r9.eq_1 (fun i : Nat => i <= l.length /\ ascE a l = fnz (ascAt a l) i (l.length - i)) (fun i => l.length - i)
    (fun i => (tsets 30 [(1, .fn (.func g) [] []), (4, .int .i64 0), (7, .view (l.map (.int .i64))), (8, .int .i64 l.length), (9, .int .i64 i), (0, .view (l.map (.int .i64)))], [])) 0 ⟨Nat.zero_le _, rfl⟩ (by simp [go_sem]) rfl ?_
  rintro i ⟨hi, hE⟩ ih
  dsimp only at hi hE ih ⊢
  by_cases h1 : i < l.length
  . have h2 : (i : Int) < l.length := by omega
    have n0 : ¬ (i : Int) < 0 := by omega
    have h3 := idx_next h1 hl
    have hx := get_at h1
    have hs : l.length - i = (l.length - (i + 1)) + 1 := by omega
    rw [hs] at hE
    simp only [fnz] at hE
    have hq := hg (at1 l i)
    simp only [go_sem, h2, n0, hx]
    refine cP hq ?_
    by_cases c1 : a <= at1 l i /\ at1 l i <= 1000000
    . by_cases h0 : 0 < i
      . obtain ⟨j, rfl⟩ : ∃ j, i = j + 1 := ⟨i - 1, by omega⟩
        have hy := get_at (l := l) (i := j) (by omega)
        have e0 : ((j + 1 : Nat) : Int) > 0 := by omega
        have e2 : IntKind.i64.wrap (((j + 1 : Nat) : Int) - 1) = j := by rw [w64 (by omega)]; omega
        have e4 : ¬ (j : Int) < 0 := by omega
        by_cases c2 : at1 l (j + 1) <= at1 l j
        . have : ascAt a l (j + 1) = 11 := by unfold ascAt; rw [if_pos c1, if_pos ⟨h0, by simpa using c2⟩]
          rw [this] at hE
          simp only [go_sem, c1, e0, e2, e4, hy, Int.toNat_natCast, c2]
          exact hE.symm
        . have : ascAt a l (j + 1) = 0 := by unfold ascAt; rw [if_pos c1, if_neg (by simpa using c2)]
          rw [this, if_pos rfl] at hE
          simp only [go_sem, c1, e0, e2, e4, hy, Int.toNat_natCast, c2, h3]
          exact ih (j + 1 + 1) (by omega) ⟨h1, hE⟩ _ (by simp [go_sem])
      . obtain rfl : i = 0 := by omega
        have e0 : ¬ ((0 : Nat) : Int) > 0 := by omega
        have : ascAt a l 0 = 0 := by unfold ascAt; rw [if_pos c1, if_neg (by omega)]
        rw [this, if_pos rfl] at hE
        simp only [go_sem, c1, e0, h3]
        exact ih (0 + 1) (by omega) ⟨h1, hE⟩ _ (by simp [go_sem]; rfl)
    . have : ascAt a l i = 2 := by unfold ascAt; rw [if_neg c1]
      rw [this] at hE
      simp only [go_sem, c1]
      exact hE.symm
  . have h2 : ¬ (i : Int) < l.length := by omega
    have : l.length - i = 0 := by omega
    rw [this] at hE
    simp only [go_sem, h2]
    exact hE.symm
end Go.Proofs
namespace Go.Proofs
open Go Go.Sx Go.Fam
attribute [local irreducible] Run
theorem checkLines_run (g p : List Int) (hg : g.length <= 9223372036854775807) (hp : p.length <= 9223372036854775807) : Ans Try.prog n_curve_checkLines [vw g, vw p] [] (.int .i64 (lineE g p)) [] := by
  have k1 := checkAscending_run (-1000000) _ rightG_fn g hg
  have k2 := checkAscending_run 0 _ rightP_fn p hp
  simp only [vw] at k1 k2
  refine spec_run e_curve_checkLines fun G => ?_
  unfold lineE
  by_cases c1 : g.length = 0 ∨ p.length = 0
  . rw [if_pos c1]
    by_cases c2 : g.length = 0
    . simp only [go_sem, vw, List.length_map, c2]
    . have c3 : p.length = 0 := by omega
      have n1 : ((g.length : Int) == 0) = false := beq_eq_false_iff_ne.2 (by omega)
      simp only [go_sem, vw, List.length_map, n1, c3]
  . rw [if_neg c1]
    have n1 : ((g.length : Int) == 0) = false := beq_eq_false_iff_ne.2 (by omega)
    have n2 : ((p.length : Int) == 0) = false := beq_eq_false_iff_ne.2 (by omega)
    by_cases c2 : 40 < g.length ∨ 40 < p.length
    . rw [if_pos c2]
      by_cases c3 : 40 < g.length
      . have n3 : (g.length : Int) > 40 := by omega
        simp only [go_sem, vw, List.length_map, n1, n2, n3]
      . have n3 : ¬ (g.length : Int) > 40 := by omega
        have n4 : (p.length : Int) > 40 := by omega
        simp only [go_sem, vw, List.length_map, n1, n2, n3, n4]
    . rw [if_neg c2]
      have n3 : ¬ (g.length : Int) > 40 := by omega
      have n4 : ¬ (p.length : Int) > 40 := by omega
      simp only [go_sem, vw, List.length_map, n1, n2, n3, n4]
      refine cP k1 ?_
      by_cases c3 : ascE (-1000000) g = 0
      . rw [if_pos c3]
        simp only [go_sem, c3]
        refine cP k2 ?_
        simp only [go_sem]
      . rw [if_neg c3]
        have n5 : (ascE (-1000000) g == 0) = false := beq_eq_false_iff_ne.2 c3
        simp only [go_sem, n5, bne]
theorem hasForm_run (t : List (List Int)) (f : Fa) (ht : t.length <= 9223372036854775807) : Ans Try.prog n_curve_hasForm [tw t, Fv f] [] (.bool (formB f.g.length f.p.length t)) [] := by
  refine spec_run e_curve_hasForm fun G => ?_
  simp only [go_sem, tw, Fv, Fcs, vw, List.length_map]
  refine loop_ind k_curve_hasForm_r7.eq_1 (fun i : Nat => i <= t.length /\ ∀ r ∈ t.take i, r.length = f.p.length) (fun i => t.length - i)
    (fun i => (tsets 26 [(0, tw t), (3, .ptr 0 0 0 1), (4, .bool false), (7, tw t), (8, .int .i64 t.length), (9, .int .i64 i)], [some (.cells false 4 [Fv f])])) 0 ⟨Nat.zero_le _, by simp⟩ (by simp [go_sem, tw, vw]) (by simp [Fv, Fcs, vw, tw]) ?_
  rintro i ⟨hi, hT⟩ ih
  dsimp only at hi hT ih ⊢
  by_cases h1 : i < t.length
  . have h2 : (i : Int) < t.length := by omega
    have n0 : ¬ (i : Int) < 0 := by omega
    have h3 := idx_next h1 ht
    obtain ⟨r, hr⟩ : ∃ r, t[i]? = some r := ⟨_, List.getElem?_eq_getElem h1⟩
    by_cases c : r.length = f.p.length
    . have n1 : ((r.length : Int) == f.p.length) = true := by simp [c]
      simp only [go_sem, h2, n0, hr, tw, vw, Fv, Fcs, List.length_map, n1, bne, h3]
      exact ih (i + 1) (by omega) ⟨h1, fun q hq => by
        rw [List.take_add_one, hr] at hq
        rcases List.mem_append.1 hq with hq | hq
        . exact hT q hq
        . simp at hq; subst hq; exact c⟩ _ (by simp [go_sem, tw, vw])
    . have n1 : ((r.length : Int) == f.p.length) = false := beq_eq_false_iff_ne.2 (by omega)
      have : formB f.g.length f.p.length t = false := by
        rw [Bool.eq_false_iff]; intro hf
        exact c ((form_iff.1 hf).2 r (List.mem_of_getElem? hr))
      simp only [go_sem, h2, n0, hr, tw, vw, Fv, Fcs, List.length_map, n1, bne, this]
  . have h2 : ¬ (i : Int) < t.length := by omega
    obtain rfl : i = t.length := by omega
    rw [List.take_length] at hT
    have : formB f.g.length f.p.length t = ((t.length : Int) == f.g.length) := by
      rw [Bool.eq_iff_iff, form_iff]
      simp only [beq_iff_eq]
      exact ⟨fun h => by omega, fun h => ⟨by omega, hT⟩⟩
    simp only [go_sem, h2, tw, vw, Fv, Fcs, List.length_map, this]
theorem tg_get {t : List (List Int)} {i : Nat} {r : List Int} (h : t[i]? = some r) (k : Nat) : tg t i k = at1 r k := by
  unfold tg at1; simp only [List.getD_eq_getElem?_getD, h, Option.getD_some]
structure Tab (m n : Nat) (t : List (List Int)) : Prop where
  len : t.length = m
  row : ∀ i, i < m -> ∃ r, t[i]? = some r /\ r.length = n
theorem tab_of {m n : Nat} {t : List (List Int)} (h : formB m n t = true) : Tab m n t := by
  obtain ⟨h1, h2⟩ := form_iff.1 h
  exact ⟨h1, fun i hi => ⟨_, List.getElem?_eq_getElem (by omega), h2 _ (List.getElem_mem _)⟩⟩
theorem within_run (n a b : Int) : Ans Try.prog n_curve_within [.int .i64 n, .int .i64 a, .int .i64 b] [] (.bool (decide (a <= n /\ n <= b))) [] := by
  have := within_ok n a b
  rwa [<- Bool.decide_and] at this
end Go.Proofs
