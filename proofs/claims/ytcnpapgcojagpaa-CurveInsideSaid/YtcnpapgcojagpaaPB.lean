import Derived.Test.YtcnpapgcojagpaaPA
set_option linter.unusedSimpArgs false
set_option linter.unusedVariables false
namespace Go.Proofs
open Go Go.Sx
def k_ref02_CheckLaw_r0 : List AOper := [oz 1 (.box (.tmp 0)), oz 2 (.move (.const (.int .i64 0)))]
def k_ref02_CheckLaw_r1 : List AOper := [oz 8 (.fieldAddr 0 (.tmp 1)), oz 9 (.load (some (2)) (.tmp 8)), oz 10 (.fieldAddr 2 (.tmp 1)), oz 11 (.load (some (2)) (.tmp 10)), oz 12 (.fieldAddr 4 (.tmp 1)), oz 13 (.load (some (2)) (.tmp 12)), oz 14 (.fieldAddr 6 (.tmp 1)), oz 15 (.load (some (2)) (.tmp 14)), oz 16 (.fieldAddr 8 (.tmp 1)), oz 17 (.load (some (2)) (.tmp 16)), oz 18 (.buildSlice 2 [.tmp 9, .tmp 11, .tmp 13, .tmp 15, .tmp 17]), mz 3 18]
def k_ref02_CheckLaw_r2 : List AOper := [oz 19 (.buildSlice 1 [.const (.int .i64 0), .const (.int .i64 1), .const (.int .i64 (-1000000)), .const (.int .i64 0), .const (.int .i64 0)]), mz 4 19]
def k_ref02_CheckLaw_r3 : List AOper := [oz 20 (.buildSlice 1 [.const (.int .i64 1000000), .const (.int .i64 1000000), .const (.int .i64 1000000), .const (.int .i64 1000000), .const (.int .i64 1000000)]), mz 5 20]
def k_ref02_CheckLaw_r4 : List AOper := [oz 6 (.move (.const (.int .i64 0)))]
def k_ref02_CheckLaw_r5 : List AOper := [mz 21 6, mz 22 3, oz 23 (.len false (.tmp 22)), oz 24 (.bin .plain .lss (.tmp 21) (.tmp 23))]
def k_ref02_CheckLaw_r6s : List (List AOper) := [[mz 27 3, qz 28 (.move (.tmp 6)) [0], oz 29 (.indexAddr 2 (.tmp 27) (.tmp 28)), oz 30 (.load (some (2)) (.tmp 29)), qz 31 (.move (.tmp 4)) [0, 1, 2, 3], qz 32 (.move (.tmp 6)) [0, 1, 2, 3, 4], qz 33 (.indexAddr 1 (.tmp 31) (.tmp 32)) [0, 1, 2, 3], qz 34 (.load none (.tmp 33)) [0, 1, 2, 3], qz 35 (.move (.tmp 5)) [0, 1, 2, 3, 4, 5, 6, 7], qz 36 (.move (.tmp 6)) [0, 1, 2, 3, 4, 5, 6, 7, 8], qz 37 (.indexAddr 1 (.tmp 35) (.tmp 36)) [0, 1, 2, 3, 4, 5, 6, 7], qz 38 (.load none (.tmp 37)) [0, 1, 2, 3, 4, 5, 6, 7]], [oz 39 (.call (.const (.fn (.func 60) [] [])) [.tmp 30, .tmp 34, .tmp 38])], [mz 7 39]]
def k_ref02_CheckLaw_r6 : List AOper := k_ref02_CheckLaw_r6s.flatten
theorem k_ref02_CheckLaw_r6_sg : segs k_ref02_CheckLaw_r6 = k_ref02_CheckLaw_r6s := by kernel_rfl
theorem k_ref02_CheckLaw_r6_st : statOK k_ref02_CheckLaw_r6 = true := by kernel_rfl
def k_ref02_CheckLaw_r7 : List AOper := [mz 40 7, oz 41 (.bin .plain .neq (.tmp 40) (.const (.int .i64 0)))]
def k_ref02_CheckLaw_r8 : List AOper := [mz 42 7, mz 2 42]
def k_ref02_CheckLaw_r9 : List AOper := [mz 25 6, oz 26 (.bin .plain .add (.tmp 25) (.const (.int .i64 1))), mz 6 26]
def k_ref02_CheckLaw_r10 : ACode := (.seq (.seq (.reg k_ref02_CheckLaw_r5 false) (.cond (.tmp 24) .skip (.exit 0))) (.seq (.block 1 (.seq (.reg k_ref02_CheckLaw_r6 true) (.seq (.reg k_ref02_CheckLaw_r7 false) (.cond (.tmp 41) (.seq (.reg k_ref02_CheckLaw_r8 false) .ret) .skip)))) (.reg k_ref02_CheckLaw_r9 false)))
def k_ref02_CheckLaw_r11 : List AOper := [oz 2 (.move (.const (.int .i64 0)))]
def k_ref02_CheckLaw : AFun := { params := 1, ntmps := 43, body := (.seq (.reg k_ref02_CheckLaw_r0 false) (.seq (.reg k_ref02_CheckLaw_r1 false) (.seq (.reg k_ref02_CheckLaw_r2 false) (.seq (.reg k_ref02_CheckLaw_r3 false) (.seq (.seq (.reg k_ref02_CheckLaw_r4 false) (.block 0 (.loop k_ref02_CheckLaw_r10))) (.seq (.reg k_ref02_CheckLaw_r11 false) .ret)))))), res := [.tmp 2] }
theorem k_ref02_CheckLaw_ok : cfun Try.prog Try.f21 = k_ref02_CheckLaw := by kernel_rfl
def k_kit_FamilyOf_r0 : List AOper := [oz 2 (.box (.const (.agg [.nilsl, .nilsl, .nilsl, .nilsl])))]
def k_kit_FamilyOf_r1 : List AOper := [mz 14 0, oz 15 (.call (.const (.fn (.func 48) [] [])) [.tmp 14, .const (.int .i64 (-9000)), .const (.int .i64 3000), .const (.int .i64 5)]), mz 16 0, oz 17 (.call (.const (.fn (.func 48) [] [])) [.tmp 16, .const (.int .i64 0), .const (.int .i64 300000), .const (.int .i64 5)]), mz 3 15, mz 4 17]
def k_kit_FamilyOf_r2 : List AOper := [mz 18 0, oz 19 (.call (.const (.fn (.func 36) [] [])) [.tmp 18, .const (.int .i64 2)])]
def k_kit_FamilyOf_r3 : List AOper := [mz 21 0, oz 22 (.call (.const (.fn (.func 13) [] [])) [.tmp 21]), mz 23 3, mz 24 4, oz 25 (.call (.const (.fn (.func 63) [] [])) [.tmp 22, .tmp 23, .tmp 24]), mz 20 25, oz 26 (.extract (.tmp 20) 0), oz 27 (.extract (.tmp 20) 1), oz 5 (.box (.const (.agg [.nilsl, .nilsl, .nilsl, .nilsl]))), ⟨none, .store 4 (.tmp 5) (.tmp 26), none, []⟩, mz 6 27]
def k_kit_FamilyOf_r4 : List AOper := [oz 28 (.load (some (4)) (.tmp 5)), ⟨none, .store 4 (.tmp 2) (.tmp 28), none, []⟩]
def k_kit_FamilyOf_r5 : List AOper := [mz 29 3, mz 30 4, oz 31 (.build [.nilsl, .nilsl, .nilsl, .nilsl] [(0, 1, .tmp 29), (1, 1, .tmp 30)]), oz 7 (.box (.const (.agg [.nilsl, .nilsl, .nilsl, .nilsl]))), ⟨none, .store 4 (.tmp 7) (.tmp 31), none, []⟩]
def k_kit_FamilyOf_r6 : List AOper := [oz 8 (.move (.const (.int .i64 0)))]
def k_kit_FamilyOf_r7 : List AOper := [mz 32 8, mz 33 3, oz 34 (.len false (.tmp 33)), oz 35 (.bin .plain .lss (.tmp 32) (.tmp 34))]
def k_kit_FamilyOf_r8 : List AOper := [oz 9 (.move (.const (.nilsl))), oz 10 (.move (.const (.nilsl)))]
def k_kit_FamilyOf_r9 : List AOper := [oz 11 (.move (.const (.int .i64 0)))]
def k_kit_FamilyOf_r10 : List AOper := [mz 38 11, mz 39 4, oz 40 (.len false (.tmp 39)), oz 41 (.bin .plain .lss (.tmp 38) (.tmp 40))]
def k_kit_FamilyOf_r11 : List AOper := [mz 44 0, oz 45 (.call (.const (.fn (.func 15) [] [])) [.tmp 44, .const (.int .i64 60)]), mz 46 0, oz 47 (.call (.const (.fn (.func 15) [] [])) [.tmp 46, .const (.int .i64 30)]), mz 12 45, mz 13 47]
def k_kit_FamilyOf_r12 : List AOper := [mz 48 8, oz 49 (.bin .plain .gtr (.tmp 48) (.const (.int .i64 0)))]
def k_kit_FamilyOf_r13s : List (List AOper) := [[mz 50 12, qz 51 (.fieldAddr 2 (.tmp 7)) [0], qz 52 (.load none (.tmp 51)) [0], qz 53 (.move (.tmp 8)) [0, 1, 2], qz 54 (.bin .plain .sub (.tmp 53) (.const (.int .i64 1))) [0, 1, 2], qz 55 (.indexAddr 1 (.tmp 52) (.tmp 54)) [0], qz 56 (.load none (.tmp 55)) [0], qz 57 (.move (.tmp 11)) [0, 1, 2, 3, 4, 5, 6], qz 58 (.indexAddr 1 (.tmp 56) (.tmp 57)) [0], qz 59 (.load none (.tmp 58)) [0], qz 60 (.move (.tmp 0)) [0, 1, 2, 3, 4, 5, 6, 7, 8, 9], qz 61 (.call (.const (.fn (.func 15) [] [])) [.tmp 60, .const (.int .i64 20)]) [0, 1, 2, 3, 4, 5, 6, 7, 8, 9], qz 62 (.bin .plain .add (.tmp 59) (.tmp 61)) [0]], [oz 63 (.minmax true [.tmp 50, .tmp 62])], [mz 12 63]]
def k_kit_FamilyOf_r13 : List AOper := k_kit_FamilyOf_r13s.flatten
theorem k_kit_FamilyOf_r13_sg : segs k_kit_FamilyOf_r13 = k_kit_FamilyOf_r13s := by kernel_rfl
theorem k_kit_FamilyOf_r13_st : statOK k_kit_FamilyOf_r13 = true := by kernel_rfl
def k_kit_FamilyOf_r14 : List AOper := [mz 64 12, mz 65 13, oz 66 (.bin .plain .add (.tmp 64) (.tmp 65)), oz 67 (.fieldAddr 3 (.tmp 7)), oz 68 (.load none (.tmp 67)), mz 69 8, oz 70 (.bin .plain .sub (.tmp 69) (.const (.int .i64 1))), oz 71 (.indexAddr 1 (.tmp 68) (.tmp 70)), oz 72 (.load none (.tmp 71)), mz 73 11, oz 74 (.indexAddr 1 (.tmp 72) (.tmp 73)), oz 75 (.load none (.tmp 74)), oz 76 (.minmax true [.tmp 66, .tmp 75]), mz 77 12, oz 78 (.bin .plain .sub (.tmp 76) (.tmp 77)), mz 13 78]
def k_kit_FamilyOf_r15 : List AOper := [mz 79 11, oz 80 (.bin .plain .gtr (.tmp 79) (.const (.int .i64 0)))]
def k_kit_FamilyOf_r16 : List AOper := [mz 81 12, mz 82 9, mz 83 11, oz 84 (.bin .plain .sub (.tmp 83) (.const (.int .i64 1))), oz 85 (.indexAddr 1 (.tmp 82) (.tmp 84)), oz 86 (.load none (.tmp 85)), oz 87 (.minmax true [.tmp 81, .tmp 86]), mz 12 87]
def k_kit_FamilyOf_r17 : List AOper := [mz 88 12, mz 89 13, oz 90 (.bin .plain .add (.tmp 88) (.tmp 89)), mz 91 10, mz 92 11, oz 93 (.bin .plain .sub (.tmp 92) (.const (.int .i64 1))), oz 94 (.indexAddr 1 (.tmp 91) (.tmp 93)), oz 95 (.load none (.tmp 94)), oz 96 (.minmax true [.tmp 90, .tmp 95]), mz 97 12, oz 98 (.bin .plain .sub (.tmp 96) (.tmp 97)), mz 13 98]
def k_kit_FamilyOf_r18 : List AOper := [mz 99 8, oz 100 (.bin .plain .gtr (.tmp 99) (.const (.int .i64 0)))]
def k_kit_FamilyOf_r19 : List AOper := [mz 101 12, mz 102 13, oz 103 (.bin .plain .add (.tmp 101) (.tmp 102)), oz 104 (.fieldAddr 3 (.tmp 7)), oz 105 (.load none (.tmp 104)), mz 106 8, oz 107 (.bin .plain .sub (.tmp 106) (.const (.int .i64 1))), oz 108 (.indexAddr 1 (.tmp 105) (.tmp 107)), oz 109 (.load none (.tmp 108)), mz 110 11, oz 111 (.indexAddr 1 (.tmp 109) (.tmp 110)), oz 112 (.load none (.tmp 111)), oz 113 (.minmax true [.tmp 103, .tmp 112]), mz 114 12, oz 115 (.bin .plain .sub (.tmp 113) (.tmp 114)), mz 13 115]
def k_kit_FamilyOf_r20 : List AOper := [mz 116 9, mz 117 12, oz 118 (.buildSlice 1 [.tmp 117]), oz 119 (.append 1 8 false (.tmp 116) (.tmp 118)), mz 120 10, mz 121 12, mz 122 13, oz 123 (.minmax true [.const (.int .i64 0), .tmp 122]), oz 124 (.bin .plain .add (.tmp 121) (.tmp 123)), oz 125 (.buildSlice 1 [.tmp 124]), oz 126 (.append 1 8 false (.tmp 120) (.tmp 125)), mz 9 119, mz 10 126]
def k_kit_FamilyOf_r21 : List AOper := [mz 42 11, oz 43 (.bin .plain .add (.tmp 42) (.const (.int .i64 1))), mz 11 43]
def k_kit_FamilyOf_r22 : ACode := (.seq (.seq (.reg k_kit_FamilyOf_r10 false) (.cond (.tmp 41) .skip (.exit 2))) (.seq (.block 3 (.seq (.reg k_kit_FamilyOf_r11 false) (.seq (.seq (.reg k_kit_FamilyOf_r12 false) (.cond (.tmp 49) (.seq (.reg k_kit_FamilyOf_r13 true) (.reg k_kit_FamilyOf_r14 false)) .skip)) (.seq (.seq (.reg k_kit_FamilyOf_r15 false) (.cond (.tmp 80) (.seq (.reg k_kit_FamilyOf_r16 false) (.reg k_kit_FamilyOf_r17 false)) .skip)) (.seq (.seq (.reg k_kit_FamilyOf_r18 false) (.cond (.tmp 100) (.reg k_kit_FamilyOf_r19 false) .skip)) (.reg k_kit_FamilyOf_r20 false)))))) (.reg k_kit_FamilyOf_r21 false)))
def k_kit_FamilyOf_r23s : List (List AOper) := [[oz 127 (.fieldAddr 2 (.tmp 7)), oz 128 (.load none (.tmp 127)), qz 129 (.move (.tmp 9)) [0, 1], qz 130 (.buildSlice 1 [.tmp 129]) [0, 1], oz 131 (.append 1 24 false (.tmp 128) (.tmp 130)), qz 132 (.fieldAddr 3 (.tmp 7)) [0, 1, 2, 3, 4], qz 133 (.load none (.tmp 132)) [0, 1, 2, 3, 4], qz 134 (.move (.tmp 10)) [0, 1, 2, 3, 4, 5, 6], qz 135 (.buildSlice 1 [.tmp 134]) [0, 1, 2, 3, 4, 5, 6], oz 136 (.append 1 24 false (.tmp 133) (.tmp 135)), qz 137 (.fieldAddr 2 (.tmp 7)) [7, 8, 9]], [⟨none, .store 1 (.tmp 137) (.tmp 131), none, []⟩], [oz 138 (.fieldAddr 3 (.tmp 7))], [⟨none, .store 1 (.tmp 138) (.tmp 136), none, []⟩]]
def k_kit_FamilyOf_r23 : List AOper := k_kit_FamilyOf_r23s.flatten
theorem k_kit_FamilyOf_r23_sg : segs k_kit_FamilyOf_r23 = k_kit_FamilyOf_r23s := by kernel_rfl
theorem k_kit_FamilyOf_r23_st : statOK k_kit_FamilyOf_r23 = true := by kernel_rfl
def k_kit_FamilyOf_r24 : List AOper := [mz 36 8, oz 37 (.bin .plain .add (.tmp 36) (.const (.int .i64 1))), mz 8 37]
def k_kit_FamilyOf_r25 : ACode := (.seq (.seq (.reg k_kit_FamilyOf_r7 false) (.cond (.tmp 35) .skip (.exit 0))) (.seq (.block 1 (.seq (.reg k_kit_FamilyOf_r8 false) (.seq (.seq (.reg k_kit_FamilyOf_r9 false) (.block 2 (.loop k_kit_FamilyOf_r22))) (.reg k_kit_FamilyOf_r23 true)))) (.reg k_kit_FamilyOf_r24 false)))
def k_kit_FamilyOf_r26 : List AOper := [oz 139 (.load (some (4)) (.tmp 7)), ⟨none, .store 4 (.tmp 2) (.tmp 139), none, []⟩]
def k_kit_FamilyOf : AFun := { params := 1, ntmps := 140, body := (.seq (.reg k_kit_FamilyOf_r0 false) (.seq (.reg k_kit_FamilyOf_r1 false) (.seq (.seq (.reg k_kit_FamilyOf_r2 false) (.cond (.tmp 19) (.seq (.reg k_kit_FamilyOf_r3 false) (.seq (.reg k_kit_FamilyOf_r4 false) .ret)) .skip)) (.seq (.reg k_kit_FamilyOf_r5 false) (.seq (.seq (.reg k_kit_FamilyOf_r6 false) (.block 0 (.loop k_kit_FamilyOf_r25))) (.seq (.reg k_kit_FamilyOf_r26 false) .ret)))))), res := [.cell 2 (some ((some (4))))] }
theorem k_kit_FamilyOf_ok : cfun Try.prog Try.f25 = k_kit_FamilyOf := by kernel_rfl
def k_ref02_Check_r0 : List AOper := [oz 1 (.box (.tmp 0)), oz 2 (.move (.const (.int .i64 0)))]
def k_ref02_Check_r1 : List AOper := [oz 7 (.fieldAddr 0 (.tmp 1)), oz 8 (.load none (.tmp 7)), oz 9 (.fieldAddr 1 (.tmp 1)), oz 10 (.load none (.tmp 9)), oz 11 (.call (.const (.fn (.func 72) [] [])) [.tmp 8, .tmp 10]), mz 3 11]
def k_ref02_Check_r2 : List AOper := [mz 12 3, oz 13 (.bin .plain .neq (.tmp 12) (.const (.int .i64 0)))]
def k_ref02_Check_r3 : List AOper := [mz 14 3, mz 2 14]
def k_ref02_Check_r4 : List AOper := [oz 15 (.load (some (4)) (.tmp 1)), oz 16 (.fieldAddr 2 (.tmp 1)), oz 17 (.load none (.tmp 16)), oz 18 (.call (.const (.fn (.func 73) [] [])) [.tmp 15, .tmp 17]), oz 19 (.not (.tmp 18)), mz 20 19, ⟨some 21, .load (some (4)) (.tmp 1), (some (20, false)), []⟩, ⟨some 22, .fieldAddr 3 (.tmp 1), (some (20, false)), []⟩, ⟨some 23, .load none (.tmp 22), (some (20, false)), []⟩, ⟨some 24, .call (.const (.fn (.func 73) [] [])) [.tmp 21, .tmp 23], (some (20, false)), []⟩, ⟨some 25, .not (.tmp 24), (some (20, false)), []⟩, oz 26 (.pick (.tmp 20) (.const (.bool true)) (.tmp 25))]
def k_ref02_Check_r5 : List AOper := [oz 2 (.move (.const (.int .i64 3)))]
def k_ref02_Check_r6 : List AOper := [oz 4 (.move (.const (.int .i64 0)))]
def k_ref02_Check_r7 : List AOper := [mz 27 4, oz 28 (.fieldAddr 0 (.tmp 1)), oz 29 (.load none (.tmp 28)), oz 30 (.len false (.tmp 29)), oz 31 (.bin .plain .lss (.tmp 27) (.tmp 30))]
def k_ref02_Check_r8 : List AOper := [oz 5 (.move (.const (.int .i64 0)))]
def k_ref02_Check_r9 : List AOper := [mz 34 5, oz 35 (.fieldAddr 1 (.tmp 1)), oz 36 (.load none (.tmp 35)), oz 37 (.len false (.tmp 36)), oz 38 (.bin .plain .lss (.tmp 34) (.tmp 37))]
def k_ref02_Check_r10 : List AOper := [oz 41 (.load (some (4)) (.tmp 1)), mz 42 4, mz 43 5, oz 44 (.call (.const (.fn (.func 74) [] [])) [.tmp 41, .tmp 42, .tmp 43]), mz 6 44]
def k_ref02_Check_r11 : List AOper := [mz 45 6, oz 46 (.bin .plain .neq (.tmp 45) (.const (.int .i64 0)))]
def k_ref02_Check_r12 : List AOper := [mz 47 6, mz 2 47]
def k_ref02_Check_r13 : List AOper := [mz 39 5, oz 40 (.bin .plain .add (.tmp 39) (.const (.int .i64 1))), mz 5 40]
def k_ref02_Check_r14 : ACode := (.seq (.seq (.reg k_ref02_Check_r9 false) (.cond (.tmp 38) .skip (.exit 2))) (.seq (.block 3 (.seq (.reg k_ref02_Check_r10 false) (.seq (.reg k_ref02_Check_r11 false) (.cond (.tmp 46) (.seq (.reg k_ref02_Check_r12 false) .ret) .skip)))) (.reg k_ref02_Check_r13 false)))
def k_ref02_Check_r15 : List AOper := [mz 32 4, oz 33 (.bin .plain .add (.tmp 32) (.const (.int .i64 1))), mz 4 33]
def k_ref02_Check_r16 : ACode := (.seq (.seq (.reg k_ref02_Check_r7 false) (.cond (.tmp 31) .skip (.exit 0))) (.seq (.block 1 (.seq (.reg k_ref02_Check_r8 false) (.block 2 (.loop k_ref02_Check_r14)))) (.reg k_ref02_Check_r15 false)))
def k_ref02_Check_r17 : List AOper := [oz 2 (.move (.const (.int .i64 0)))]
def k_ref02_Check : AFun := { params := 1, ntmps := 48, body := (.seq (.reg k_ref02_Check_r0 false) (.seq (.seq (.reg k_ref02_Check_r1 false) (.seq (.reg k_ref02_Check_r2 false) (.cond (.tmp 13) (.seq (.reg k_ref02_Check_r3 false) .ret) .skip))) (.seq (.seq (.reg k_ref02_Check_r4 false) (.cond (.tmp 26) (.seq (.reg k_ref02_Check_r5 false) .ret) .skip)) (.seq (.seq (.reg k_ref02_Check_r6 false) (.block 0 (.loop k_ref02_Check_r16))) (.seq (.reg k_ref02_Check_r17 false) .ret))))), res := [.tmp 2] }
theorem k_ref02_Check_ok : cfun Try.prog Try.f28 = k_ref02_Check := by kernel_rfl
def k_kit_Lines_r0 : List AOper := [oz 8 (.move (.const (.nilsl)))]
def k_kit_Lines_r1 : List AOper := [oz 9 (.move (.const (.nilsl)))]
def k_kit_Lines_r2 : List AOper := [mz 13 0, mz 14 3, oz 15 (.call (.const (.fn (.func 14) [] [])) [.tmp 13, .const (.int .i64 1), .tmp 14]), mz 10 15]
def k_kit_Lines_r3 : List AOper := [mz 16 10, oz 17 (.bin .plain .gtr (.tmp 16) (.const (.int .i64 0)))]
def k_kit_Lines_r4 : List AOper := [mz 20 0, mz 21 1, mz 22 2, oz 23 (.call (.const (.fn (.func 14) [] [])) [.tmp 20, .tmp 21, .tmp 22]), mz 11 23]
def k_kit_Lines_r5 : List AOper := [oz 12 (.move (.const (.int .i64 0)))]
def k_kit_Lines_r6 : List AOper := [mz 24 12, mz 25 9, oz 26 (.len false (.tmp 25)), oz 27 (.bin .plain .lss (.tmp 24) (.tmp 26)), mz 28 27, ⟨some 29, .move (.tmp 9), (some (28, true)), []⟩, ⟨some 30, .move (.tmp 12), (some (28, true)), []⟩, ⟨some 31, .indexAddr 1 (.tmp 29) (.tmp 30), (some (28, true)), []⟩, ⟨some 32, .load none (.tmp 31), (some (28, true)), []⟩, ⟨some 33, .move (.tmp 11), (some (28, true)), []⟩, ⟨some 34, .bin .plain .lss (.tmp 32) (.tmp 33), (some (28, true)), []⟩, oz 35 (.pick (.tmp 28) (.tmp 34) (.const (.bool false)))]
def k_kit_Lines_r7 : List AOper := [mz 36 12, oz 37 (.bin .plain .add (.tmp 36) (.const (.int .i64 1))), mz 12 37]
def k_kit_Lines_r8 : ACode := (.seq (.seq (.reg k_kit_Lines_r6 false) (.cond (.tmp 35) .skip (.exit 2))) (.block 3 (.reg k_kit_Lines_r7 false)))
def k_kit_Lines_r9 : List AOper := [mz 38 12, mz 39 9, oz 40 (.len false (.tmp 39)), oz 41 (.bin .plain .eql (.tmp 38) (.tmp 40)), mz 42 41, ⟨some 43, .move (.tmp 9), (some (42, false)), []⟩, ⟨some 44, .move (.tmp 12), (some (42, false)), []⟩, ⟨some 45, .indexAddr 1 (.tmp 43) (.tmp 44), (some (42, false)), []⟩, ⟨some 46, .load none (.tmp 45), (some (42, false)), []⟩, ⟨some 47, .move (.tmp 11), (some (42, false)), []⟩, ⟨some 48, .bin .plain .neq (.tmp 46) (.tmp 47), (some (42, false)), []⟩, oz 49 (.pick (.tmp 42) (.const (.bool true)) (.tmp 48))]
def k_kit_Lines_r10s : List (List AOper) := [[mz 50 9, qz 51 (.move (.tmp 12)) [0], oz 52 (.slice false 1 (.tmp 50) none (some (.tmp 51))), oz 53 (.call (.const (.fn (.func 62) [] [])) [.tmp 52]), qz 54 (.move (.tmp 11)) [0, 1, 2, 3], qz 55 (.buildSlice 1 [.tmp 54]) [0, 1, 2, 3], oz 56 (.append 1 8 false (.tmp 53) (.tmp 55)), qz 57 (.move (.tmp 9)) [0, 1, 2, 3, 4, 5, 6], qz 58 (.move (.tmp 12)) [0, 1, 2, 3, 4, 5, 6, 7], qz 59 (.slice false 1 (.tmp 57) (some (.tmp 58)) none) [0, 1, 2, 3, 4, 5, 6]], [oz 60 (.append 1 8 false (.tmp 56) (.tmp 59))], [mz 9 60]]
def k_kit_Lines_r10 : List AOper := k_kit_Lines_r10s.flatten
theorem k_kit_Lines_r10_sg : segs k_kit_Lines_r10 = k_kit_Lines_r10s := by kernel_rfl
theorem k_kit_Lines_r10_st : statOK k_kit_Lines_r10 = true := by kernel_rfl
def k_kit_Lines_r11 : List AOper := [mz 18 10, oz 19 (.bin .plain .sub (.tmp 18) (.const (.int .i64 1))), mz 10 19]
def k_kit_Lines_r12 : ACode := (.seq (.seq (.reg k_kit_Lines_r3 false) (.cond (.tmp 17) .skip (.exit 0))) (.seq (.block 1 (.seq (.reg k_kit_Lines_r4 false) (.seq (.reg k_kit_Lines_r5 false) (.seq (.block 2 (.loop k_kit_Lines_r8)) (.seq (.reg k_kit_Lines_r9 false) (.cond (.tmp 49) (.reg k_kit_Lines_r10 true) .skip)))))) (.reg k_kit_Lines_r11 false)))
def k_kit_Lines_r13 : List AOper := [mz 61 9, mz 8 61]
def k_kit_Lines : AFun := { params := 4, ntmps := 62, body := (.seq (.reg k_kit_Lines_r0 false) (.seq (.reg k_kit_Lines_r1 false) (.seq (.seq (.reg k_kit_Lines_r2 false) (.block 0 (.loop k_kit_Lines_r12))) (.seq (.reg k_kit_Lines_r13 false) .ret)))), res := [.tmp 8] }
theorem k_kit_Lines_ok : cfun Try.prog Try.f48 = k_kit_Lines := by kernel_rfl
def k_ref02_right_r0 : List AOper := [oz 4 (.move (.const (.bool false)))]
def k_ref02_right_r1 : List AOper := [mz 5 0, oz 6 (.bin .plain .geq (.tmp 5) (.const (.int .i64 (-1000000)))), mz 7 6, ⟨some 8, .move (.tmp 0), (some (7, true)), []⟩, ⟨some 9, .bin .plain .leq (.tmp 8) (.const (.int .i64 1000000)), (some (7, true)), []⟩, oz 10 (.pick (.tmp 7) (.tmp 9) (.const (.bool false))), mz 11 10, ⟨some 12, .move (.tmp 1), (some (11, true)), []⟩, ⟨some 13, .bin .plain .geq (.tmp 12) (.const (.int .i64 0)), (some (11, true)), []⟩, oz 14 (.pick (.tmp 11) (.tmp 13) (.const (.bool false))), mz 15 14, ⟨some 16, .move (.tmp 1), (some (15, true)), []⟩, ⟨some 17, .bin .plain .leq (.tmp 16) (.const (.int .i64 1000000)), (some (15, true)), []⟩, oz 18 (.pick (.tmp 15) (.tmp 17) (.const (.bool false))), mz 4 18]
def k_ref02_right : AFun := { params := 2, ntmps := 19, body := (.seq (.reg k_ref02_right_r0 false) (.seq (.reg k_ref02_right_r1 false) .ret)), res := [.tmp 4] }
theorem k_ref02_right_ok : cfun Try.prog Try.f56 = k_ref02_right := by kernel_rfl
def k_ref02_drive_r0 : List AOper := [oz 3 (.box (.tmp 0)), oz 6 (.box (.const (.agg [.int .i64 0, .int .i64 0])))]
def k_ref02_drive_r1s : List (List AOper) := [[mz 7 1, qz 8 (.fieldAddr 4 (.tmp 3)) [0], qz 9 (.fieldAddr 0 (.tmp 8)) [0], qz 10 (.load none (.tmp 9)) [0], oz 11 (.bin .plain .add (.tmp 7) (.tmp 10)), qz 12 (.move (.tmp 2)) [0, 1, 2, 3, 4], qz 13 (.bin .plain .mul (.const (.int .i64 1000)) (.tmp 12)) [0, 1, 2, 3, 4], qz 14 (.fieldAddr 2 (.tmp 3)) [0, 1, 2, 3, 4, 5, 6], qz 15 (.fieldAddr 1 (.tmp 14)) [0, 1, 2, 3, 4, 5, 6], qz 16 (.load none (.tmp 15)) [0, 1, 2, 3, 4, 5, 6], qz 17 (.call (.const (.fn (.func 87) [] [])) [.tmp 13, .tmp 16]) [0, 1, 2, 3, 4], oz 18 (.bin .plain .add (.tmp 11) (.tmp 17)), oz 19 (.call (.const (.fn (.func 104) [] [])) [.tmp 18]), qz 20 (.move (.tmp 1)) [0, 1, 2, 3, 4, 5, 6, 7, 8, 9, 10, 11, 12], qz 21 (.fieldAddr 4 (.tmp 3)) [0, 1, 2, 3, 4, 5, 6, 7, 8, 9, 10, 11, 12, 13], qz 22 (.fieldAddr 1 (.tmp 21)) [0, 1, 2, 3, 4, 5, 6, 7, 8, 9, 10, 11, 12, 13], qz 23 (.load none (.tmp 22)) [0, 1, 2, 3, 4, 5, 6, 7, 8, 9, 10, 11, 12, 13], qz 24 (.bin .plain .add (.tmp 20) (.tmp 23)) [0, 1, 2, 3, 4, 5, 6, 7, 8, 9, 10, 11, 12], qz 25 (.move (.tmp 2)) [0, 1, 2, 3, 4, 5, 6, 7, 8, 9, 10, 11, 12, 13, 14, 15, 16, 17], qz 26 (.bin .plain .mul (.const (.int .i64 1000)) (.tmp 25)) [0, 1, 2, 3, 4, 5, 6, 7, 8, 9, 10, 11, 12, 13, 14, 15, 16, 17], qz 27 (.fieldAddr 2 (.tmp 3)) [0, 1, 2, 3, 4, 5, 6, 7, 8, 9, 10, 11, 12, 13, 14, 15, 16, 17, 18, 19], qz 28 (.fieldAddr 0 (.tmp 27)) [0, 1, 2, 3, 4, 5, 6, 7, 8, 9, 10, 11, 12, 13, 14, 15, 16, 17, 18, 19], qz 29 (.load none (.tmp 28)) [0, 1, 2, 3, 4, 5, 6, 7, 8, 9, 10, 11, 12, 13, 14, 15, 16, 17, 18, 19], qz 30 (.call (.const (.fn (.func 89) [] [])) [.tmp 26, .tmp 29]) [13, 14, 15, 16, 17]], [oz 31 (.bin .plain .add (.tmp 24) (.tmp 30))], [oz 32 (.call (.const (.fn (.func 104) [] [])) [.tmp 31])], [oz 33 (.build [.int .i64 0, .int .i64 0] [(0, 1, .tmp 19), (1, 1, .tmp 32)])], [⟨none, .store 2 (.tmp 6) (.tmp 33), none, []⟩]]
def k_ref02_drive_r1 : List AOper := k_ref02_drive_r1s.flatten
theorem k_ref02_drive_r1_sg : segs k_ref02_drive_r1 = k_ref02_drive_r1s := by kernel_rfl
theorem k_ref02_drive_r1_st : statOK k_ref02_drive_r1 = true := by kernel_rfl
def k_ref02_drive : AFun := { params := 3, ntmps := 34, body := (.seq (.reg k_ref02_drive_r0 false) (.seq (.reg k_ref02_drive_r1 true) .ret)), res := [.cell 6 (some ((some (2))))] }
theorem k_ref02_drive_ok : cfun Try.prog Try.f57 = k_ref02_drive := by kernel_rfl
def k_ref02_current_r0 : List AOper := [oz 3 (.box (.tmp 0)), oz 6 (.box (.const (.agg [.int .i64 0, .int .i64 0])))]
def k_ref02_current_r1 : List AOper := [oz 10 (.load (some (10)) (.tmp 3)), mz 11 1, mz 12 2, oz 13 (.call (.const (.fn (.func 57) [] [])) [.tmp 10, .tmp 11, .tmp 12]), oz 7 (.box (.const (.agg [.int .i64 0, .int .i64 0]))), ⟨none, .store 2 (.tmp 7) (.tmp 13), none, []⟩]
def k_ref02_current_r2s : List (List AOper) := [[oz 14 (.fieldAddr 0 (.tmp 3)), oz 15 (.fieldAddr 0 (.tmp 14)), oz 16 (.load none (.tmp 15)), qz 17 (.fieldAddr 0 (.tmp 7)) [0, 1, 2], qz 18 (.load none (.tmp 17)) [0, 1, 2], qz 19 (.fieldAddr 0 (.tmp 7)) [0, 1, 2, 3, 4], qz 20 (.load none (.tmp 19)) [0, 1, 2, 3, 4], qz 21 (.bin .plain .mul (.tmp 18) (.tmp 20)) [0, 1, 2], qz 22 (.fieldAddr 0 (.tmp 7)) [0, 1, 2, 3, 4, 5, 6, 7], qz 23 (.load none (.tmp 22)) [0, 1, 2, 3, 4, 5, 6, 7], qz 24 (.bin .plain .mul (.tmp 21) (.tmp 23)) [0, 1, 2], qz 25 (.call (.const (.fn (.func 107) [] [])) [.tmp 24]) [0, 1, 2]], [oz 26 (.bin .plain .mul (.tmp 16) (.tmp 25))], [oz 27 (.call (.const (.fn (.func 87) [] [])) [.tmp 26, .const (.int .i64 1000000)])], [mz 8 27]]
def k_ref02_current_r2 : List AOper := k_ref02_current_r2s.flatten
theorem k_ref02_current_r2_sg : segs k_ref02_current_r2 = k_ref02_current_r2s := by kernel_rfl
theorem k_ref02_current_r2_st : statOK k_ref02_current_r2 = true := by kernel_rfl
def k_ref02_current_r3s : List (List AOper) := [[oz 28 (.fieldAddr 0 (.tmp 3)), oz 29 (.fieldAddr 1 (.tmp 28)), oz 30 (.load none (.tmp 29)), qz 31 (.fieldAddr 1 (.tmp 7)) [0, 1, 2], qz 32 (.load none (.tmp 31)) [0, 1, 2], qz 33 (.fieldAddr 1 (.tmp 7)) [0, 1, 2, 3, 4], qz 34 (.load none (.tmp 33)) [0, 1, 2, 3, 4], qz 35 (.bin .plain .mul (.tmp 32) (.tmp 34)) [0, 1, 2], qz 36 (.fieldAddr 1 (.tmp 7)) [0, 1, 2, 3, 4, 5, 6, 7], qz 37 (.load none (.tmp 36)) [0, 1, 2, 3, 4, 5, 6, 7], qz 38 (.bin .plain .mul (.tmp 35) (.tmp 37)) [0, 1, 2], qz 39 (.call (.const (.fn (.func 108) [] [])) [.tmp 38]) [0, 1, 2]], [oz 40 (.bin .plain .mul (.tmp 30) (.tmp 39))], [oz 41 (.call (.const (.fn (.func 89) [] [])) [.tmp 40, .const (.int .i64 1000000)])], [mz 9 41]]
def k_ref02_current_r3 : List AOper := k_ref02_current_r3s.flatten
theorem k_ref02_current_r3_sg : segs k_ref02_current_r3 = k_ref02_current_r3s := by kernel_rfl
theorem k_ref02_current_r3_st : statOK k_ref02_current_r3 = true := by kernel_rfl
def k_ref02_current_r4s : List (List AOper) := [[mz 42 8, qz 43 (.fieldAddr 6 (.tmp 3)) [0], qz 44 (.fieldAddr 0 (.tmp 43)) [0], qz 45 (.load none (.tmp 44)) [0], oz 46 (.minmax false [.tmp 42, .tmp 45]), qz 47 (.move (.tmp 9)) [0, 1, 2, 3, 4], qz 48 (.fieldAddr 6 (.tmp 3)) [0, 1, 2, 3, 4, 5], qz 49 (.fieldAddr 1 (.tmp 48)) [0, 1, 2, 3, 4, 5], qz 50 (.load none (.tmp 49)) [0, 1, 2, 3, 4, 5], qz 51 (.minmax false [.tmp 47, .tmp 50]) [0, 1, 2, 3, 4], qz 8 (.move (.tmp 46)) [5, 6, 7, 8, 9]], [mz 9 51]]
def k_ref02_current_r4 : List AOper := k_ref02_current_r4s.flatten
theorem k_ref02_current_r4_sg : segs k_ref02_current_r4 = k_ref02_current_r4s := by kernel_rfl
theorem k_ref02_current_r4_st : statOK k_ref02_current_r4 = true := by kernel_rfl
def k_ref02_current_r5s : List (List AOper) := [[oz 52 (.fieldAddr 8 (.tmp 3)), oz 53 (.fieldAddr 0 (.tmp 52)), oz 54 (.load none (.tmp 53)), qz 55 (.move (.tmp 8)) [0, 1, 2], oz 56 (.bin .plain .mul (.tmp 54) (.tmp 55)), oz 57 (.call (.const (.fn (.func 87) [] [])) [.tmp 56, .const (.int .i64 1000000)]), qz 58 (.fieldAddr 8 (.tmp 3)) [0, 1, 2, 3, 4, 5], qz 59 (.fieldAddr 1 (.tmp 58)) [0, 1, 2, 3, 4, 5], qz 60 (.load none (.tmp 59)) [0, 1, 2, 3, 4, 5], qz 61 (.move (.tmp 9)) [0, 1, 2, 3, 4, 5, 6, 7, 8], qz 62 (.bin .plain .mul (.tmp 60) (.tmp 61)) [0, 1, 2, 3, 4, 5]], [oz 63 (.call (.const (.fn (.func 89) [] [])) [.tmp 62, .const (.int .i64 1000000)])], [oz 64 (.build [.int .i64 0, .int .i64 0] [(0, 1, .tmp 57), (1, 1, .tmp 63)])], [⟨none, .store 2 (.tmp 6) (.tmp 64), none, []⟩]]
def k_ref02_current_r5 : List AOper := k_ref02_current_r5s.flatten
theorem k_ref02_current_r5_sg : segs k_ref02_current_r5 = k_ref02_current_r5s := by kernel_rfl
theorem k_ref02_current_r5_st : statOK k_ref02_current_r5 = true := by kernel_rfl
def k_ref02_current : AFun := { params := 3, ntmps := 65, body := (.seq (.reg k_ref02_current_r0 false) (.seq (.reg k_ref02_current_r1 false) (.seq (.reg k_ref02_current_r2 true) (.seq (.reg k_ref02_current_r3 true) (.seq (.reg k_ref02_current_r4 true) (.seq (.reg k_ref02_current_r5 true) .ret)))))), res := [.cell 6 (some ((some (2))))] }
theorem k_ref02_current_ok : cfun Try.prog Try.f59 = k_ref02_current := by kernel_rfl
def k_ref02_checkRange_r0 : List AOper := [oz 3 (.box (.tmp 0)), oz 6 (.move (.const (.int .i64 0)))]
def k_ref02_checkRange_r1 : List AOper := [oz 7 (.fieldAddr 0 (.tmp 3)), oz 8 (.load none (.tmp 7)), oz 9 (.fieldAddr 1 (.tmp 3)), oz 10 (.load none (.tmp 9)), oz 11 (.bin .plain .gtr (.tmp 8) (.tmp 10))]
def k_ref02_checkRange_r2 : List AOper := [oz 6 (.move (.const (.int .i64 11)))]
def k_ref02_checkRange_r3 : List AOper := [oz 12 (.fieldAddr 0 (.tmp 3)), oz 13 (.load none (.tmp 12)), mz 14 1, oz 15 (.bin .plain .lss (.tmp 13) (.tmp 14)), mz 16 15, ⟨some 17, .fieldAddr 1 (.tmp 3), (some (16, false)), []⟩, ⟨some 18, .load none (.tmp 17), (some (16, false)), []⟩, ⟨some 19, .move (.tmp 2), (some (16, false)), []⟩, ⟨some 20, .bin .plain .gtr (.tmp 18) (.tmp 19), (some (16, false)), []⟩, oz 21 (.pick (.tmp 16) (.const (.bool true)) (.tmp 20))]
def k_ref02_checkRange_r4 : List AOper := [oz 6 (.move (.const (.int .i64 2)))]
def k_ref02_checkRange_r5 : List AOper := [oz 6 (.move (.const (.int .i64 0)))]
def k_ref02_checkRange : AFun := { params := 3, ntmps := 22, body := (.seq (.reg k_ref02_checkRange_r0 false) (.seq (.seq (.reg k_ref02_checkRange_r1 false) (.cond (.tmp 11) (.seq (.reg k_ref02_checkRange_r2 false) .ret) .skip)) (.seq (.seq (.reg k_ref02_checkRange_r3 false) (.cond (.tmp 21) (.seq (.reg k_ref02_checkRange_r4 false) .ret) .skip)) (.seq (.reg k_ref02_checkRange_r5 false) .ret)))), res := [.tmp 6] }
theorem k_ref02_checkRange_ok : cfun Try.prog Try.f60 = k_ref02_checkRange := by kernel_rfl
def k_kit_Own_r0 : List AOper := [oz 2 (.move (.const (.nilsl)))]
def k_kit_Own_r1 : List AOper := [oz 3 (.buildSlice 1 []), mz 4 0, oz 5 (.append 1 8 false (.tmp 3) (.tmp 4)), mz 2 5]
def k_kit_Own : AFun := { params := 1, ntmps := 6, body := (.seq (.reg k_kit_Own_r0 false) (.seq (.reg k_kit_Own_r1 false) .ret)), res := [.tmp 2] }
theorem k_kit_Own_ok : cfun Try.prog Try.f62 = k_kit_Own := by kernel_rfl
def k_ref02_Of_r0 : List AOper := [oz 3 (.box (.tmp 0)), oz 6 (.box (.const (.agg [.nilsl, .nilsl, .nilsl, .nilsl]))), oz 7 (.move (.const (.int .i64 0)))]
def k_ref02_Of_r1 : List AOper := [oz 16 (.load (some (10)) (.tmp 3)), oz 17 (.call (.const (.fn (.func 21) [] [])) [.tmp 16]), mz 8 17]
def k_ref02_Of_r2 : List AOper := [mz 18 8, oz 19 (.bin .plain .neq (.tmp 18) (.const (.int .i64 0)))]
def k_ref02_Of_r3 : List AOper := [oz 20 (.build [.nilsl, .nilsl, .nilsl, .nilsl] []), mz 21 8, ⟨none, .store 4 (.tmp 6) (.tmp 20), none, []⟩, mz 7 21]
def k_ref02_Of_r4 : List AOper := [mz 22 1, mz 23 2, oz 24 (.call (.const (.fn (.func 72) [] [])) [.tmp 22, .tmp 23]), mz 9 24]
def k_ref02_Of_r5 : List AOper := [mz 25 9, oz 26 (.bin .plain .neq (.tmp 25) (.const (.int .i64 0)))]
def k_ref02_Of_r6 : List AOper := [oz 27 (.build [.nilsl, .nilsl, .nilsl, .nilsl] []), mz 28 9, ⟨none, .store 4 (.tmp 6) (.tmp 27), none, []⟩, mz 7 28]
def k_ref02_Of_r7 : List AOper := [mz 29 1, oz 30 (.call (.const (.fn (.func 67) [] [])) [.tmp 29]), mz 31 2, oz 32 (.call (.const (.fn (.func 67) [] [])) [.tmp 31]), oz 33 (.build [.nilsl, .nilsl, .nilsl, .nilsl] [(0, 1, .tmp 30), (1, 1, .tmp 32)]), oz 10 (.box (.const (.agg [.nilsl, .nilsl, .nilsl, .nilsl]))), ⟨none, .store 4 (.tmp 10) (.tmp 33), none, []⟩]
def k_ref02_Of_r8 : List AOper := [oz 11 (.move (.const (.int .i64 0)))]
def k_ref02_Of_r9 : List AOper := [mz 34 11, mz 35 1, oz 36 (.len false (.tmp 35)), oz 37 (.bin .plain .lss (.tmp 34) (.tmp 36))]
def k_ref02_Of_r10 : List AOper := [oz 12 (.move (.const (.nilsl))), oz 13 (.move (.const (.nilsl)))]
def k_ref02_Of_r11 : List AOper := [oz 14 (.move (.const (.int .i64 0)))]
def k_ref02_Of_r12 : List AOper := [mz 40 14, mz 41 2, oz 42 (.len false (.tmp 41)), oz 43 (.bin .plain .lss (.tmp 40) (.tmp 42))]
def k_ref02_Of_r13s : List (List AOper) := [[oz 46 (.load (some (10)) (.tmp 3)), qz 47 (.move (.tmp 1)) [0], qz 48 (.move (.tmp 11)) [0, 1], qz 49 (.indexAddr 1 (.tmp 47) (.tmp 48)) [0], qz 50 (.load none (.tmp 49)) [0], qz 51 (.move (.tmp 2)) [0, 1, 2, 3, 4], qz 52 (.move (.tmp 14)) [0, 1, 2, 3, 4, 5], qz 53 (.indexAddr 1 (.tmp 51) (.tmp 52)) [0, 1, 2, 3, 4], qz 54 (.load none (.tmp 53)) [0, 1, 2, 3, 4], oz 55 (.call (.const (.fn (.func 59) [] [])) [.tmp 46, .tmp 50, .tmp 54]), qz 15 (.box (.const (.agg [.int .i64 0, .int .i64 0]))) [0, 1, 2, 3, 4, 5, 6, 7, 8, 9]], [⟨none, .store 2 (.tmp 15) (.tmp 55), none, []⟩]]
def k_ref02_Of_r13 : List AOper := k_ref02_Of_r13s.flatten
theorem k_ref02_Of_r13_sg : segs k_ref02_Of_r13 = k_ref02_Of_r13s := by kernel_rfl
theorem k_ref02_Of_r13_st : statOK k_ref02_Of_r13 = true := by kernel_rfl
def k_ref02_Of_r14s : List (List AOper) := [[mz 56 12, qz 57 (.fieldAddr 0 (.tmp 15)) [0], qz 58 (.load none (.tmp 57)) [0], qz 59 (.buildSlice 1 [.tmp 58]) [0], oz 60 (.append 1 8 false (.tmp 56) (.tmp 59)), qz 61 (.move (.tmp 13)) [0, 1, 2, 3, 4], qz 62 (.fieldAddr 1 (.tmp 15)) [0, 1, 2, 3, 4, 5], qz 63 (.load none (.tmp 62)) [0, 1, 2, 3, 4, 5], qz 64 (.buildSlice 1 [.tmp 63]) [0, 1, 2, 3, 4, 5]], [oz 65 (.append 1 8 false (.tmp 61) (.tmp 64))], [mz 12 60], [mz 13 65]]
def k_ref02_Of_r14 : List AOper := k_ref02_Of_r14s.flatten
theorem k_ref02_Of_r14_sg : segs k_ref02_Of_r14 = k_ref02_Of_r14s := by kernel_rfl
theorem k_ref02_Of_r14_st : statOK k_ref02_Of_r14 = true := by kernel_rfl
def k_ref02_Of_r15 : List AOper := [mz 44 14, oz 45 (.bin .plain .add (.tmp 44) (.const (.int .i64 1))), mz 14 45]
def k_ref02_Of_r16 : ACode := (.seq (.seq (.reg k_ref02_Of_r12 false) (.cond (.tmp 43) .skip (.exit 2))) (.seq (.block 3 (.seq (.reg k_ref02_Of_r13 true) (.reg k_ref02_Of_r14 true))) (.reg k_ref02_Of_r15 false)))
def k_ref02_Of_r17s : List (List AOper) := [[oz 66 (.fieldAddr 2 (.tmp 10)), oz 67 (.load none (.tmp 66)), qz 68 (.move (.tmp 12)) [0, 1], qz 69 (.buildSlice 1 [.tmp 68]) [0, 1], oz 70 (.append 1 24 false (.tmp 67) (.tmp 69)), qz 71 (.fieldAddr 3 (.tmp 10)) [0, 1, 2, 3, 4], qz 72 (.load none (.tmp 71)) [0, 1, 2, 3, 4], qz 73 (.move (.tmp 13)) [0, 1, 2, 3, 4, 5, 6], qz 74 (.buildSlice 1 [.tmp 73]) [0, 1, 2, 3, 4, 5, 6], oz 75 (.append 1 24 false (.tmp 72) (.tmp 74)), qz 76 (.fieldAddr 2 (.tmp 10)) [7, 8, 9]], [⟨none, .store 1 (.tmp 76) (.tmp 70), none, []⟩], [oz 77 (.fieldAddr 3 (.tmp 10))], [⟨none, .store 1 (.tmp 77) (.tmp 75), none, []⟩]]
def k_ref02_Of_r17 : List AOper := k_ref02_Of_r17s.flatten
theorem k_ref02_Of_r17_sg : segs k_ref02_Of_r17 = k_ref02_Of_r17s := by kernel_rfl
theorem k_ref02_Of_r17_st : statOK k_ref02_Of_r17 = true := by kernel_rfl
def k_ref02_Of_r18 : List AOper := [mz 38 11, oz 39 (.bin .plain .add (.tmp 38) (.const (.int .i64 1))), mz 11 39]
def k_ref02_Of_r19 : ACode := (.seq (.seq (.reg k_ref02_Of_r9 false) (.cond (.tmp 37) .skip (.exit 0))) (.seq (.block 1 (.seq (.reg k_ref02_Of_r10 false) (.seq (.seq (.reg k_ref02_Of_r11 false) (.block 2 (.loop k_ref02_Of_r16))) (.reg k_ref02_Of_r17 true)))) (.reg k_ref02_Of_r18 false)))
def k_ref02_Of_r20 : List AOper := [oz 78 (.load (some (4)) (.tmp 10)), ⟨none, .store 4 (.tmp 6) (.tmp 78), none, []⟩, oz 7 (.move (.const (.int .i64 0)))]
def k_ref02_Of : AFun := { params := 3, ntmps := 79, body := (.seq (.reg k_ref02_Of_r0 false) (.seq (.seq (.reg k_ref02_Of_r1 false) (.seq (.reg k_ref02_Of_r2 false) (.cond (.tmp 19) (.seq (.reg k_ref02_Of_r3 false) .ret) .skip))) (.seq (.seq (.reg k_ref02_Of_r4 false) (.seq (.reg k_ref02_Of_r5 false) (.cond (.tmp 26) (.seq (.reg k_ref02_Of_r6 false) .ret) .skip))) (.seq (.reg k_ref02_Of_r7 false) (.seq (.seq (.reg k_ref02_Of_r8 false) (.block 0 (.loop k_ref02_Of_r19))) (.seq (.reg k_ref02_Of_r20 false) .ret)))))), res := [.cell 6 (some ((some (4)))), .tmp 7] }
theorem k_ref02_Of_ok : cfun Try.prog Try.f63 = k_ref02_Of := by kernel_rfl
def k_ref02_ints_r0 : List AOper := [oz 2 (.move (.const (.nilsl)))]
def k_ref02_ints_r1 : List AOper := [mz 3 0, oz 4 (.append 1 8 false (.const (.nilsl)) (.tmp 3)), mz 2 4]
def k_ref02_ints : AFun := { params := 1, ntmps := 5, body := (.seq (.reg k_ref02_ints_r0 false) (.seq (.reg k_ref02_ints_r1 false) .ret)), res := [.tmp 2] }
theorem k_ref02_ints_ok : cfun Try.prog Try.f67 = k_ref02_ints := by kernel_rfl
def k_ref02_checkLines_r0 : List AOper := [oz 4 (.move (.const (.int .i64 0)))]
def k_ref02_checkLines_r1 : List AOper := [mz 7 0, oz 8 (.len false (.tmp 7)), oz 9 (.bin .plain .eql (.tmp 8) (.const (.int .i64 0))), mz 10 9, ⟨some 11, .move (.tmp 1), (some (10, false)), []⟩, ⟨some 12, .len false (.tmp 11), (some (10, false)), []⟩, ⟨some 13, .bin .plain .eql (.tmp 12) (.const (.int .i64 0)), (some (10, false)), []⟩, oz 14 (.pick (.tmp 10) (.const (.bool true)) (.tmp 13))]
def k_ref02_checkLines_r2 : List AOper := [oz 4 (.move (.const (.int .i64 6)))]
def k_ref02_checkLines_r3 : List AOper := [mz 15 0, oz 16 (.len false (.tmp 15)), oz 17 (.bin .plain .gtr (.tmp 16) (.const (.int .i64 40))), mz 18 17, ⟨some 19, .move (.tmp 1), (some (18, false)), []⟩, ⟨some 20, .len false (.tmp 19), (some (18, false)), []⟩, ⟨some 21, .bin .plain .gtr (.tmp 20) (.const (.int .i64 40)), (some (18, false)), []⟩, oz 22 (.pick (.tmp 18) (.const (.bool true)) (.tmp 21))]
def k_ref02_checkLines_r4 : List AOper := [oz 4 (.move (.const (.int .i64 8)))]
def k_ref02_checkLines_r5 : List AOper := [oz 5 (.move (.const (.int .i64 0)))]
def k_ref02_checkLines_r6 : List AOper := [mz 23 5, mz 24 0, oz 25 (.len false (.tmp 24)), oz 26 (.bin .plain .lss (.tmp 23) (.tmp 25))]
def k_ref02_checkLines_r7 : List AOper := [mz 29 0, mz 30 5, oz 31 (.indexAddr 1 (.tmp 29) (.tmp 30)), oz 32 (.load none (.tmp 31)), oz 33 (.call (.const (.fn (.func 56) [] [])) [.tmp 32, .const (.int .i64 0)]), oz 34 (.not (.tmp 33))]
def k_ref02_checkLines_r8 : List AOper := [oz 4 (.move (.const (.int .i64 2)))]
def k_ref02_checkLines_r9s : List (List AOper) := [[mz 35 5], [oz 36 (.bin .plain .gtr (.tmp 35) (.const (.int .i64 0)))], [mz 37 36], [⟨some 38, .move (.tmp 0), (some (37, true)), []⟩, ⟨some 39, .move (.tmp 5), (some (37, true)), [3]⟩, ⟨some 40, .indexAddr 1 (.tmp 38) (.tmp 39), (some (37, true)), []⟩, ⟨some 41, .load none (.tmp 40), (some (37, true)), []⟩, ⟨some 42, .move (.tmp 0), (some (37, true)), [3, 4, 5, 6]⟩, ⟨some 43, .move (.tmp 5), (some (37, true)), [3, 4, 5, 6, 7]⟩, ⟨some 44, .bin .plain .sub (.tmp 43) (.const (.int .i64 1)), (some (37, true)), [3, 4, 5, 6, 7]⟩, ⟨some 45, .indexAddr 1 (.tmp 42) (.tmp 44), (some (37, true)), [3, 4, 5, 6]⟩, ⟨some 46, .load none (.tmp 45), (some (37, true)), [3, 4, 5, 6]⟩], [⟨some 47, .bin .plain .leq (.tmp 41) (.tmp 46), (some (37, true)), []⟩], [oz 48 (.pick (.tmp 37) (.tmp 47) (.const (.bool false)))]]
def k_ref02_checkLines_r9 : List AOper := k_ref02_checkLines_r9s.flatten
theorem k_ref02_checkLines_r9_sg : segs k_ref02_checkLines_r9 = k_ref02_checkLines_r9s := by kernel_rfl
theorem k_ref02_checkLines_r9_st : statOK k_ref02_checkLines_r9 = true := by kernel_rfl
def k_ref02_checkLines_r10 : List AOper := [oz 4 (.move (.const (.int .i64 11)))]
def k_ref02_checkLines_r11 : List AOper := [mz 27 5, oz 28 (.bin .plain .add (.tmp 27) (.const (.int .i64 1))), mz 5 28]
def k_ref02_checkLines_r12 : ACode := (.seq (.seq (.reg k_ref02_checkLines_r6 false) (.cond (.tmp 26) .skip (.exit 0))) (.seq (.block 1 (.seq (.seq (.reg k_ref02_checkLines_r7 false) (.cond (.tmp 34) (.seq (.reg k_ref02_checkLines_r8 false) .ret) .skip)) (.seq (.reg k_ref02_checkLines_r9 true) (.cond (.tmp 48) (.seq (.reg k_ref02_checkLines_r10 false) .ret) .skip)))) (.reg k_ref02_checkLines_r11 false)))
def k_ref02_checkLines_r13 : List AOper := [oz 6 (.move (.const (.int .i64 0)))]
def k_ref02_checkLines_r14 : List AOper := [mz 49 6, mz 50 1, oz 51 (.len false (.tmp 50)), oz 52 (.bin .plain .lss (.tmp 49) (.tmp 51))]
def k_ref02_checkLines_r15 : List AOper := [mz 55 1, mz 56 6, oz 57 (.indexAddr 1 (.tmp 55) (.tmp 56)), oz 58 (.load none (.tmp 57)), oz 59 (.call (.const (.fn (.func 56) [] [])) [.const (.int .i64 0), .tmp 58]), oz 60 (.not (.tmp 59))]
def k_ref02_checkLines_r16 : List AOper := [oz 4 (.move (.const (.int .i64 2)))]
def k_ref02_checkLines_r17s : List (List AOper) := [[mz 61 6], [oz 62 (.bin .plain .gtr (.tmp 61) (.const (.int .i64 0)))], [mz 63 62], [⟨some 64, .move (.tmp 1), (some (63, true)), []⟩, ⟨some 65, .move (.tmp 6), (some (63, true)), [3]⟩, ⟨some 66, .indexAddr 1 (.tmp 64) (.tmp 65), (some (63, true)), []⟩, ⟨some 67, .load none (.tmp 66), (some (63, true)), []⟩, ⟨some 68, .move (.tmp 1), (some (63, true)), [3, 4, 5, 6]⟩, ⟨some 69, .move (.tmp 6), (some (63, true)), [3, 4, 5, 6, 7]⟩, ⟨some 70, .bin .plain .sub (.tmp 69) (.const (.int .i64 1)), (some (63, true)), [3, 4, 5, 6, 7]⟩, ⟨some 71, .indexAddr 1 (.tmp 68) (.tmp 70), (some (63, true)), [3, 4, 5, 6]⟩, ⟨some 72, .load none (.tmp 71), (some (63, true)), [3, 4, 5, 6]⟩], [⟨some 73, .bin .plain .leq (.tmp 67) (.tmp 72), (some (63, true)), []⟩], [oz 74 (.pick (.tmp 63) (.tmp 73) (.const (.bool false)))]]
def k_ref02_checkLines_r17 : List AOper := k_ref02_checkLines_r17s.flatten
theorem k_ref02_checkLines_r17_sg : segs k_ref02_checkLines_r17 = k_ref02_checkLines_r17s := by kernel_rfl
theorem k_ref02_checkLines_r17_st : statOK k_ref02_checkLines_r17 = true := by kernel_rfl
def k_ref02_checkLines_r18 : List AOper := [oz 4 (.move (.const (.int .i64 11)))]
def k_ref02_checkLines_r19 : List AOper := [mz 53 6, oz 54 (.bin .plain .add (.tmp 53) (.const (.int .i64 1))), mz 6 54]
def k_ref02_checkLines_r20 : ACode := (.seq (.seq (.reg k_ref02_checkLines_r14 false) (.cond (.tmp 52) .skip (.exit 2))) (.seq (.block 3 (.seq (.seq (.reg k_ref02_checkLines_r15 false) (.cond (.tmp 60) (.seq (.reg k_ref02_checkLines_r16 false) .ret) .skip)) (.seq (.reg k_ref02_checkLines_r17 true) (.cond (.tmp 74) (.seq (.reg k_ref02_checkLines_r18 false) .ret) .skip)))) (.reg k_ref02_checkLines_r19 false)))
def k_ref02_checkLines_r21 : List AOper := [oz 4 (.move (.const (.int .i64 0)))]
def k_ref02_checkLines : AFun := { params := 2, ntmps := 75, body := (.seq (.reg k_ref02_checkLines_r0 false) (.seq (.seq (.reg k_ref02_checkLines_r1 false) (.cond (.tmp 14) (.seq (.reg k_ref02_checkLines_r2 false) .ret) .skip)) (.seq (.seq (.reg k_ref02_checkLines_r3 false) (.cond (.tmp 22) (.seq (.reg k_ref02_checkLines_r4 false) .ret) .skip)) (.seq (.seq (.reg k_ref02_checkLines_r5 false) (.block 0 (.loop k_ref02_checkLines_r12))) (.seq (.seq (.reg k_ref02_checkLines_r13 false) (.block 2 (.loop k_ref02_checkLines_r20))) (.seq (.reg k_ref02_checkLines_r21 false) .ret)))))), res := [.tmp 4] }
theorem k_ref02_checkLines_ok : cfun Try.prog Try.f72 = k_ref02_checkLines := by kernel_rfl
def k_ref02_formed_r0 : List AOper := [oz 2 (.box (.tmp 0)), oz 4 (.move (.const (.bool false)))]
def k_ref02_formed_r1 : List AOper := [mz 6 1, oz 7 (.len false (.tmp 6)), oz 8 (.fieldAddr 0 (.tmp 2)), oz 9 (.load none (.tmp 8)), oz 10 (.len false (.tmp 9)), oz 11 (.bin .plain .neq (.tmp 7) (.tmp 10))]
def k_ref02_formed_r2 : List AOper := [oz 4 (.move (.const (.bool false)))]
def k_ref02_formed_r3 : List AOper := [oz 5 (.move (.const (.int .i64 0)))]
def k_ref02_formed_r4 : List AOper := [mz 12 5, mz 13 1, oz 14 (.len false (.tmp 13)), oz 15 (.bin .plain .lss (.tmp 12) (.tmp 14))]
def k_ref02_formed_r5s : List (List AOper) := [[mz 18 1, qz 19 (.move (.tmp 5)) [0], oz 20 (.indexAddr 1 (.tmp 18) (.tmp 19)), oz 21 (.load none (.tmp 20)), oz 22 (.len false (.tmp 21)), qz 23 (.fieldAddr 1 (.tmp 2)) [0, 1, 2, 3, 4], qz 24 (.load none (.tmp 23)) [0, 1, 2, 3, 4], qz 25 (.len false (.tmp 24)) [0, 1, 2, 3, 4]], [oz 26 (.bin .plain .neq (.tmp 22) (.tmp 25))]]
def k_ref02_formed_r5 : List AOper := k_ref02_formed_r5s.flatten
theorem k_ref02_formed_r5_sg : segs k_ref02_formed_r5 = k_ref02_formed_r5s := by kernel_rfl
theorem k_ref02_formed_r5_st : statOK k_ref02_formed_r5 = true := by kernel_rfl
def k_ref02_formed_r6 : List AOper := [oz 4 (.move (.const (.bool false)))]
def k_ref02_formed_r7 : List AOper := [mz 16 5, oz 17 (.bin .plain .add (.tmp 16) (.const (.int .i64 1))), mz 5 17]
def k_ref02_formed_r8 : ACode := (.seq (.seq (.reg k_ref02_formed_r4 false) (.cond (.tmp 15) .skip (.exit 0))) (.seq (.block 1 (.seq (.reg k_ref02_formed_r5 true) (.cond (.tmp 26) (.seq (.reg k_ref02_formed_r6 false) .ret) .skip))) (.reg k_ref02_formed_r7 false)))
def k_ref02_formed_r9 : List AOper := [oz 4 (.move (.const (.bool true)))]
def k_ref02_formed : AFun := { params := 2, ntmps := 27, body := (.seq (.reg k_ref02_formed_r0 false) (.seq (.seq (.reg k_ref02_formed_r1 false) (.cond (.tmp 11) (.seq (.reg k_ref02_formed_r2 false) .ret) .skip)) (.seq (.seq (.reg k_ref02_formed_r3 false) (.block 0 (.loop k_ref02_formed_r8))) (.seq (.reg k_ref02_formed_r9 false) .ret)))), res := [.tmp 4] }
theorem k_ref02_formed_ok : cfun Try.prog Try.f73 = k_ref02_formed := by kernel_rfl
def k_ref02_checkPlace_r0 : List AOper := [oz 3 (.box (.tmp 0)), oz 6 (.move (.const (.int .i64 0)))]
def k_ref02_checkPlace_r1s : List (List AOper) := [[oz 9 (.fieldAddr 2 (.tmp 3)), oz 10 (.load none (.tmp 9)), qz 11 (.move (.tmp 1)) [0, 1], oz 12 (.indexAddr 1 (.tmp 10) (.tmp 11)), oz 13 (.load none (.tmp 12)), qz 14 (.move (.tmp 2)) [0, 1, 2, 3, 4], oz 15 (.indexAddr 1 (.tmp 13) (.tmp 14)), oz 16 (.load none (.tmp 15)), qz 17 (.fieldAddr 3 (.tmp 3)) [0, 1, 2, 3, 4, 5, 6, 7], qz 18 (.load none (.tmp 17)) [0, 1, 2, 3, 4, 5, 6, 7], qz 19 (.move (.tmp 1)) [0, 1, 2, 3, 4, 5, 6, 7, 8, 9], qz 20 (.indexAddr 1 (.tmp 18) (.tmp 19)) [0, 1, 2, 3, 4, 5, 6, 7], qz 21 (.load none (.tmp 20)) [0, 1, 2, 3, 4, 5, 6, 7], qz 22 (.move (.tmp 2)) [0, 1, 2, 3, 4, 5, 6, 7, 8, 9, 10, 11, 12], qz 23 (.indexAddr 1 (.tmp 21) (.tmp 22)) [0, 1, 2, 3, 4, 5, 6, 7], qz 24 (.load none (.tmp 23)) [0, 1, 2, 3, 4, 5, 6, 7], qz 7 (.move (.tmp 16)) [8, 9, 10, 11, 12, 13, 14, 15]], [mz 8 24]]
def k_ref02_checkPlace_r1 : List AOper := k_ref02_checkPlace_r1s.flatten
theorem k_ref02_checkPlace_r1_sg : segs k_ref02_checkPlace_r1 = k_ref02_checkPlace_r1s := by kernel_rfl
theorem k_ref02_checkPlace_r1_st : statOK k_ref02_checkPlace_r1 = true := by kernel_rfl
def k_ref02_checkPlace_r2 : List AOper := [mz 25 7, oz 26 (.bin .plain .lss (.tmp 25) (.const (.int .i64 0))), mz 27 26, ⟨some 28, .move (.tmp 7), (some (27, false)), []⟩, ⟨some 29, .bin .plain .gtr (.tmp 28) (.const (.int .i64 1000000)), (some (27, false)), []⟩, oz 30 (.pick (.tmp 27) (.const (.bool true)) (.tmp 29)), mz 31 30, ⟨some 32, .move (.tmp 8), (some (31, false)), []⟩, ⟨some 33, .bin .plain .lss (.tmp 32) (.const (.int .i64 0)), (some (31, false)), []⟩, oz 34 (.pick (.tmp 31) (.const (.bool true)) (.tmp 33)), mz 35 34, ⟨some 36, .move (.tmp 8), (some (35, false)), []⟩, ⟨some 37, .bin .plain .gtr (.tmp 36) (.const (.int .i64 1000000)), (some (35, false)), []⟩, oz 38 (.pick (.tmp 35) (.const (.bool true)) (.tmp 37))]
def k_ref02_checkPlace_r3 : List AOper := [oz 6 (.move (.const (.int .i64 2)))]
def k_ref02_checkPlace_r4 : List AOper := [mz 39 7, mz 40 8, oz 41 (.bin .plain .gtr (.tmp 39) (.tmp 40))]
def k_ref02_checkPlace_r5 : List AOper := [oz 6 (.move (.const (.int .i64 12)))]
def k_ref02_checkPlace_r6 : List AOper := [oz 42 (.fieldAddr 2 (.tmp 3)), oz 43 (.load none (.tmp 42)), mz 44 1, mz 45 2, oz 46 (.call (.const (.fn (.func 112) [] [])) [.tmp 43, .tmp 44, .tmp 45]), mz 47 46, ⟨some 48, .fieldAddr 3 (.tmp 3), (some (47, false)), []⟩, ⟨some 49, .load none (.tmp 48), (some (47, false)), []⟩, ⟨some 50, .move (.tmp 1), (some (47, false)), []⟩, ⟨some 51, .move (.tmp 2), (some (47, false)), []⟩, ⟨some 52, .call (.const (.fn (.func 112) [] [])) [.tmp 49, .tmp 50, .tmp 51], (some (47, false)), []⟩, oz 53 (.pick (.tmp 47) (.const (.bool true)) (.tmp 52))]
def k_ref02_checkPlace_r7 : List AOper := [oz 6 (.move (.const (.int .i64 11)))]
def k_ref02_checkPlace_r8 : List AOper := [oz 6 (.move (.const (.int .i64 0)))]
def k_ref02_checkPlace : AFun := { params := 3, ntmps := 54, body := (.seq (.reg k_ref02_checkPlace_r0 false) (.seq (.reg k_ref02_checkPlace_r1 true) (.seq (.seq (.reg k_ref02_checkPlace_r2 false) (.cond (.tmp 38) (.seq (.reg k_ref02_checkPlace_r3 false) .ret) .skip)) (.seq (.seq (.reg k_ref02_checkPlace_r4 false) (.cond (.tmp 41) (.seq (.reg k_ref02_checkPlace_r5 false) .ret) .skip)) (.seq (.seq (.reg k_ref02_checkPlace_r6 false) (.cond (.tmp 53) (.seq (.reg k_ref02_checkPlace_r7 false) .ret) .skip)) (.seq (.reg k_ref02_checkPlace_r8 false) .ret)))))), res := [.tmp 6] }
theorem k_ref02_checkPlace_ok : cfun Try.prog Try.f74 = k_ref02_checkPlace := by kernel_rfl
def k_slices_Equal_int_int_r0 : List AOper := [oz 4 (.move (.const (.bool false)))]
def k_slices_Equal_int_int_r1 : List AOper := [mz 6 0, oz 7 (.len false (.tmp 6)), mz 8 1, oz 9 (.len false (.tmp 8)), oz 10 (.bin .plain .neq (.tmp 7) (.tmp 9))]
def k_slices_Equal_int_int_r2 : List AOper := [oz 4 (.move (.const (.bool false)))]
def k_slices_Equal_int_int_r3 : List AOper := [mz 11 0, oz 12 (.len false (.tmp 11)), oz 13 (.move (.const (.int .i64 0)))]
def k_slices_Equal_int_int_r4 : List AOper := [oz 14 (.bin .plain .lss (.tmp 13) (.tmp 12))]
def k_slices_Equal_int_int_r5 : List AOper := [mz 15 13, mz 5 15]
def k_slices_Equal_int_int_r6s : List (List AOper) := [[mz 16 0, qz 17 (.move (.tmp 5)) [0], oz 18 (.indexAddr 1 (.tmp 16) (.tmp 17)), oz 19 (.load none (.tmp 18)), qz 20 (.move (.tmp 1)) [0, 1, 2, 3], qz 21 (.move (.tmp 5)) [0, 1, 2, 3, 4], qz 22 (.indexAddr 1 (.tmp 20) (.tmp 21)) [0, 1, 2, 3], qz 23 (.load none (.tmp 22)) [0, 1, 2, 3]], [oz 24 (.bin .plain .neq (.tmp 19) (.tmp 23))]]
def k_slices_Equal_int_int_r6 : List AOper := k_slices_Equal_int_int_r6s.flatten
theorem k_slices_Equal_int_int_r6_sg : segs k_slices_Equal_int_int_r6 = k_slices_Equal_int_int_r6s := by kernel_rfl
theorem k_slices_Equal_int_int_r6_st : statOK k_slices_Equal_int_int_r6 = true := by kernel_rfl
def k_slices_Equal_int_int_r7 : List AOper := [oz 4 (.move (.const (.bool false)))]
def k_slices_Equal_int_int_r8 : List AOper := [oz 25 (.bin .plain .add (.tmp 13) (.const (.int .i64 1))), mz 13 25]
def k_slices_Equal_int_int_r9 : ACode := (.seq (.reg k_slices_Equal_int_int_r4 false) (.seq (.cond (.tmp 14) .skip (.exit 0)) (.seq (.block 1 (.seq (.reg k_slices_Equal_int_int_r5 false) (.seq (.reg k_slices_Equal_int_int_r6 true) (.cond (.tmp 24) (.seq (.reg k_slices_Equal_int_int_r7 false) .ret) .skip)))) (.reg k_slices_Equal_int_int_r8 false))))
def k_slices_Equal_int_int_r10 : List AOper := [oz 4 (.move (.const (.bool true)))]
def k_slices_Equal_int_int : AFun := { params := 2, ntmps := 26, body := (.seq (.reg k_slices_Equal_int_int_r0 false) (.seq (.seq (.reg k_slices_Equal_int_int_r1 false) (.cond (.tmp 10) (.seq (.reg k_slices_Equal_int_int_r2 false) .ret) .skip)) (.seq (.seq (.reg k_slices_Equal_int_int_r3 false) (.block 0 (.loop k_slices_Equal_int_int_r9))) (.seq (.reg k_slices_Equal_int_int_r10 false) .ret)))), res := [.tmp 4] }
theorem k_slices_Equal_int_int_ok : cfun Try.prog Try.f75 = k_slices_Equal_int_int := by kernel_rfl
def k_ref02_find_r0 : List AOper := [oz 4 (.box (.const (.agg [.int .i64 0, .int .i64 0, .int .i64 0])))]
def k_ref02_find_r1 : List AOper := [mz 6 1, mz 7 0, oz 8 (.indexAddr 1 (.tmp 7) (.const (.int .i64 0))), oz 9 (.load none (.tmp 8)), oz 10 (.bin .plain .leq (.tmp 6) (.tmp 9))]
def k_ref02_find_r2 : List AOper := [oz 11 (.build [.int .i64 0, .int .i64 0, .int .i64 0] [(0, 1, .const (.int .i64 0)), (1, 1, .const (.int .i64 0)), (2, 1, .const (.int .i64 1))]), ⟨none, .store 3 (.tmp 4) (.tmp 11), none, []⟩]
def k_ref02_find_r3 : List AOper := [oz 5 (.move (.const (.int .i64 0)))]
def k_ref02_find_r4 : List AOper := [mz 12 5, oz 13 (.bin .plain .add (.tmp 12) (.const (.int .i64 1))), mz 14 0, oz 15 (.len false (.tmp 14)), oz 16 (.bin .plain .lss (.tmp 13) (.tmp 15)), mz 17 16, ⟨some 18, .move (.tmp 0), (some (17, true)), []⟩, ⟨some 19, .move (.tmp 5), (some (17, true)), []⟩, ⟨some 20, .bin .plain .add (.tmp 19) (.const (.int .i64 1)), (some (17, true)), []⟩, ⟨some 21, .indexAddr 1 (.tmp 18) (.tmp 20), (some (17, true)), []⟩, ⟨some 22, .load none (.tmp 21), (some (17, true)), []⟩, ⟨some 23, .move (.tmp 1), (some (17, true)), []⟩, ⟨some 24, .bin .plain .leq (.tmp 22) (.tmp 23), (some (17, true)), []⟩, oz 25 (.pick (.tmp 17) (.tmp 24) (.const (.bool false)))]
def k_ref02_find_r5 : List AOper := [mz 26 5, oz 27 (.bin .plain .add (.tmp 26) (.const (.int .i64 1))), mz 5 27]
def k_ref02_find_r6 : ACode := (.seq (.seq (.reg k_ref02_find_r4 false) (.cond (.tmp 25) .skip (.exit 0))) (.block 1 (.reg k_ref02_find_r5 false)))
def k_ref02_find_r7 : List AOper := [mz 28 5, oz 29 (.bin .plain .add (.tmp 28) (.const (.int .i64 1))), mz 30 0, oz 31 (.len false (.tmp 30)), oz 32 (.bin .plain .eql (.tmp 29) (.tmp 31)), mz 33 32, ⟨some 34, .move (.tmp 0), (some (33, false)), []⟩, ⟨some 35, .move (.tmp 5), (some (33, false)), []⟩, ⟨some 36, .indexAddr 1 (.tmp 34) (.tmp 35), (some (33, false)), []⟩, ⟨some 37, .load none (.tmp 36), (some (33, false)), []⟩, ⟨some 38, .move (.tmp 1), (some (33, false)), []⟩, ⟨some 39, .bin .plain .eql (.tmp 37) (.tmp 38), (some (33, false)), []⟩, oz 40 (.pick (.tmp 33) (.const (.bool true)) (.tmp 39))]
def k_ref02_find_r8 : List AOper := [mz 41 5, oz 42 (.build [.int .i64 0, .int .i64 0, .int .i64 0] [(0, 1, .tmp 41), (1, 1, .const (.int .i64 0)), (2, 1, .const (.int .i64 1))]), ⟨none, .store 3 (.tmp 4) (.tmp 42), none, []⟩]
def k_ref02_find_r9s : List (List AOper) := [[mz 43 5, qz 44 (.move (.tmp 1)) [0], qz 45 (.move (.tmp 0)) [0, 1], qz 46 (.move (.tmp 5)) [0, 1, 2], qz 47 (.indexAddr 1 (.tmp 45) (.tmp 46)) [0, 1], qz 48 (.load none (.tmp 47)) [0, 1], qz 49 (.bin .plain .sub (.tmp 44) (.tmp 48)) [0], qz 50 (.move (.tmp 0)) [0, 1, 2, 3, 4, 5, 6], qz 51 (.move (.tmp 5)) [0, 1, 2, 3, 4, 5, 6, 7], qz 52 (.bin .plain .add (.tmp 51) (.const (.int .i64 1))) [0, 1, 2, 3, 4, 5, 6, 7], qz 53 (.indexAddr 1 (.tmp 50) (.tmp 52)) [0, 1, 2, 3, 4, 5, 6], qz 54 (.load none (.tmp 53)) [0, 1, 2, 3, 4, 5, 6], qz 55 (.move (.tmp 0)) [0, 1, 2, 3, 4, 5, 6, 7, 8, 9, 10, 11], qz 56 (.move (.tmp 5)) [0, 1, 2, 3, 4, 5, 6, 7, 8, 9, 10, 11, 12], qz 57 (.indexAddr 1 (.tmp 55) (.tmp 56)) [0, 1, 2, 3, 4, 5, 6, 7, 8, 9, 10, 11], qz 58 (.load none (.tmp 57)) [0, 1, 2, 3, 4, 5, 6, 7, 8, 9, 10, 11], qz 59 (.bin .plain .sub (.tmp 54) (.tmp 58)) [0, 1, 2, 3, 4, 5, 6]], [oz 60 (.build [.int .i64 0, .int .i64 0, .int .i64 0] [(0, 1, .tmp 43), (1, 1, .tmp 49), (2, 1, .tmp 59)])], [⟨none, .store 3 (.tmp 4) (.tmp 60), none, []⟩]]
def k_ref02_find_r9 : List AOper := k_ref02_find_r9s.flatten
theorem k_ref02_find_r9_sg : segs k_ref02_find_r9 = k_ref02_find_r9s := by kernel_rfl
theorem k_ref02_find_r9_st : statOK k_ref02_find_r9 = true := by kernel_rfl
def k_ref02_find : AFun := { params := 2, ntmps := 61, body := (.seq (.reg k_ref02_find_r0 false) (.seq (.seq (.reg k_ref02_find_r1 false) (.cond (.tmp 10) (.seq (.reg k_ref02_find_r2 false) .ret) .skip)) (.seq (.reg k_ref02_find_r3 false) (.seq (.block 0 (.loop k_ref02_find_r6)) (.seq (.seq (.reg k_ref02_find_r7 false) (.cond (.tmp 40) (.seq (.reg k_ref02_find_r8 false) .ret) .skip)) (.seq (.reg k_ref02_find_r9 true) .ret)))))), res := [.cell 4 (some ((some (3))))] }
theorem k_ref02_find_ok : cfun Try.prog Try.f86 = k_ref02_find := by kernel_rfl
def k_ref02_down_r0 : List AOper := [oz 4 (.move (.const (.int .i64 0)))]
def k_ref02_down_r1 : List AOper := [mz 6 0, mz 7 1, oz 8 (.bin .plain .quo (.tmp 6) (.tmp 7)), mz 5 8]
def k_ref02_down_r2 : List AOper := [mz 9 0, mz 10 1, oz 11 (.bin .plain .rem (.tmp 9) (.tmp 10)), oz 12 (.bin .plain .lss (.tmp 11) (.const (.int .i64 0)))]
def k_ref02_down_r3 : List AOper := [mz 13 5, oz 14 (.bin .plain .sub (.tmp 13) (.const (.int .i64 1))), mz 5 14]
def k_ref02_down_r4 : List AOper := [mz 15 5, mz 4 15]
def k_ref02_down : AFun := { params := 2, ntmps := 16, body := (.seq (.reg k_ref02_down_r0 false) (.seq (.reg k_ref02_down_r1 false) (.seq (.seq (.reg k_ref02_down_r2 false) (.cond (.tmp 12) (.reg k_ref02_down_r3 false) .skip)) (.seq (.reg k_ref02_down_r4 false) .ret)))), res := [.tmp 4] }
theorem k_ref02_down_ok : cfun Try.prog Try.f87 = k_ref02_down := by kernel_rfl
def k_ref02_weighted_r0 : List AOper := [oz 4 (.box (.tmp 1)), oz 5 (.box (.tmp 2)), oz 6 (.move (.const (.int .i64 0)))]
def k_ref02_weighted_r1s : List (List AOper) := [[oz 8 (.fieldAddr 2 (.tmp 4)), oz 9 (.load none (.tmp 8)), qz 10 (.fieldAddr 1 (.tmp 4)) [0, 1], qz 11 (.load none (.tmp 10)) [0, 1], oz 12 (.bin .plain .sub (.tmp 9) (.tmp 11)), qz 13 (.fieldAddr 2 (.tmp 5)) [0, 1, 2, 3, 4], qz 14 (.load none (.tmp 13)) [0, 1, 2, 3, 4], qz 15 (.fieldAddr 1 (.tmp 5)) [0, 1, 2, 3, 4, 5, 6], qz 16 (.load none (.tmp 15)) [0, 1, 2, 3, 4, 5, 6], qz 17 (.bin .plain .sub (.tmp 14) (.tmp 16)) [0, 1, 2, 3, 4], oz 18 (.bin .plain .mul (.tmp 12) (.tmp 17)), qz 19 (.move (.tmp 0)) [0, 1, 2, 3, 4, 5, 6, 7, 8, 9, 10], qz 20 (.fieldAddr 0 (.tmp 4)) [0, 1, 2, 3, 4, 5, 6, 7, 8, 9, 10, 11], qz 21 (.load none (.tmp 20)) [0, 1, 2, 3, 4, 5, 6, 7, 8, 9, 10, 11], qz 22 (.indexAddr 1 (.tmp 19) (.tmp 21)) [0, 1, 2, 3, 4, 5, 6, 7, 8, 9, 10], qz 23 (.load none (.tmp 22)) [0, 1, 2, 3, 4, 5, 6, 7, 8, 9, 10], qz 24 (.fieldAddr 0 (.tmp 5)) [0, 1, 2, 3, 4, 5, 6, 7, 8, 9, 10, 11, 12, 13, 14, 15], qz 25 (.load none (.tmp 24)) [0, 1, 2, 3, 4, 5, 6, 7, 8, 9, 10, 11, 12, 13, 14, 15], qz 26 (.indexAddr 1 (.tmp 23) (.tmp 25)) [0, 1, 2, 3, 4, 5, 6, 7, 8, 9, 10], qz 27 (.load none (.tmp 26)) [0, 1, 2, 3, 4, 5, 6, 7, 8, 9, 10]], [oz 28 (.bin .plain .mul (.tmp 18) (.tmp 27))], [mz 7 28]]
def k_ref02_weighted_r1 : List AOper := k_ref02_weighted_r1s.flatten
theorem k_ref02_weighted_r1_sg : segs k_ref02_weighted_r1 = k_ref02_weighted_r1s := by kernel_rfl
theorem k_ref02_weighted_r1_st : statOK k_ref02_weighted_r1 = true := by kernel_rfl
def k_ref02_weighted_r2 : List AOper := [oz 29 (.fieldAddr 1 (.tmp 4)), oz 30 (.load none (.tmp 29)), oz 31 (.bin .plain .gtr (.tmp 30) (.const (.int .i64 0)))]
def k_ref02_weighted_r3s : List (List AOper) := [[mz 32 7, qz 33 (.fieldAddr 1 (.tmp 4)) [0], qz 34 (.load none (.tmp 33)) [0], qz 35 (.fieldAddr 2 (.tmp 5)) [0, 1, 2], qz 36 (.load none (.tmp 35)) [0, 1, 2], qz 37 (.fieldAddr 1 (.tmp 5)) [0, 1, 2, 3, 4], qz 38 (.load none (.tmp 37)) [0, 1, 2, 3, 4], qz 39 (.bin .plain .sub (.tmp 36) (.tmp 38)) [0, 1, 2], qz 40 (.bin .plain .mul (.tmp 34) (.tmp 39)) [0], qz 41 (.move (.tmp 0)) [0, 1, 2, 3, 4, 5, 6, 7, 8], qz 42 (.fieldAddr 0 (.tmp 4)) [0, 1, 2, 3, 4, 5, 6, 7, 8, 9], qz 43 (.load none (.tmp 42)) [0, 1, 2, 3, 4, 5, 6, 7, 8, 9], qz 44 (.bin .plain .add (.tmp 43) (.const (.int .i64 1))) [0, 1, 2, 3, 4, 5, 6, 7, 8, 9], qz 45 (.indexAddr 1 (.tmp 41) (.tmp 44)) [0, 1, 2, 3, 4, 5, 6, 7, 8], qz 46 (.load none (.tmp 45)) [0, 1, 2, 3, 4, 5, 6, 7, 8], qz 47 (.fieldAddr 0 (.tmp 5)) [0, 1, 2, 3, 4, 5, 6, 7, 8, 9, 10, 11, 12, 13, 14], qz 48 (.load none (.tmp 47)) [0, 1, 2, 3, 4, 5, 6, 7, 8, 9, 10, 11, 12, 13, 14], qz 49 (.indexAddr 1 (.tmp 46) (.tmp 48)) [0, 1, 2, 3, 4, 5, 6, 7, 8], qz 50 (.load none (.tmp 49)) [0, 1, 2, 3, 4, 5, 6, 7, 8], qz 51 (.bin .plain .mul (.tmp 40) (.tmp 50)) [0]], [oz 52 (.bin .plain .add (.tmp 32) (.tmp 51))], [mz 7 52]]
def k_ref02_weighted_r3 : List AOper := k_ref02_weighted_r3s.flatten
theorem k_ref02_weighted_r3_sg : segs k_ref02_weighted_r3 = k_ref02_weighted_r3s := by kernel_rfl
theorem k_ref02_weighted_r3_st : statOK k_ref02_weighted_r3 = true := by kernel_rfl
def k_ref02_weighted_r4 : List AOper := [oz 53 (.fieldAddr 1 (.tmp 5)), oz 54 (.load none (.tmp 53)), oz 55 (.bin .plain .gtr (.tmp 54) (.const (.int .i64 0)))]
def k_ref02_weighted_r5s : List (List AOper) := [[mz 56 7, qz 57 (.fieldAddr 2 (.tmp 4)) [0], qz 58 (.load none (.tmp 57)) [0], qz 59 (.fieldAddr 1 (.tmp 4)) [0, 1, 2], qz 60 (.load none (.tmp 59)) [0, 1, 2], qz 61 (.bin .plain .sub (.tmp 58) (.tmp 60)) [0], qz 62 (.fieldAddr 1 (.tmp 5)) [0, 1, 2, 3, 4, 5], qz 63 (.load none (.tmp 62)) [0, 1, 2, 3, 4, 5], qz 64 (.bin .plain .mul (.tmp 61) (.tmp 63)) [0], qz 65 (.move (.tmp 0)) [0, 1, 2, 3, 4, 5, 6, 7, 8], qz 66 (.fieldAddr 0 (.tmp 4)) [0, 1, 2, 3, 4, 5, 6, 7, 8, 9], qz 67 (.load none (.tmp 66)) [0, 1, 2, 3, 4, 5, 6, 7, 8, 9], qz 68 (.indexAddr 1 (.tmp 65) (.tmp 67)) [0, 1, 2, 3, 4, 5, 6, 7, 8], qz 69 (.load none (.tmp 68)) [0, 1, 2, 3, 4, 5, 6, 7, 8], qz 70 (.fieldAddr 0 (.tmp 5)) [0, 1, 2, 3, 4, 5, 6, 7, 8, 9, 10, 11, 12, 13], qz 71 (.load none (.tmp 70)) [0, 1, 2, 3, 4, 5, 6, 7, 8, 9, 10, 11, 12, 13], qz 72 (.bin .plain .add (.tmp 71) (.const (.int .i64 1))) [0, 1, 2, 3, 4, 5, 6, 7, 8, 9, 10, 11, 12, 13], qz 73 (.indexAddr 1 (.tmp 69) (.tmp 72)) [0, 1, 2, 3, 4, 5, 6, 7, 8], qz 74 (.load none (.tmp 73)) [0, 1, 2, 3, 4, 5, 6, 7, 8], qz 75 (.bin .plain .mul (.tmp 64) (.tmp 74)) [0]], [oz 76 (.bin .plain .add (.tmp 56) (.tmp 75))], [mz 7 76]]
def k_ref02_weighted_r5 : List AOper := k_ref02_weighted_r5s.flatten
theorem k_ref02_weighted_r5_sg : segs k_ref02_weighted_r5 = k_ref02_weighted_r5s := by kernel_rfl
theorem k_ref02_weighted_r5_st : statOK k_ref02_weighted_r5 = true := by kernel_rfl
def k_ref02_weighted_r6 : List AOper := [oz 77 (.fieldAddr 1 (.tmp 4)), oz 78 (.load none (.tmp 77)), oz 79 (.bin .plain .gtr (.tmp 78) (.const (.int .i64 0))), mz 80 79, ⟨some 81, .fieldAddr 1 (.tmp 5), (some (80, true)), []⟩, ⟨some 82, .load none (.tmp 81), (some (80, true)), []⟩, ⟨some 83, .bin .plain .gtr (.tmp 82) (.const (.int .i64 0)), (some (80, true)), []⟩, oz 84 (.pick (.tmp 80) (.tmp 83) (.const (.bool false)))]
def k_ref02_weighted_r7s : List (List AOper) := [[mz 85 7, qz 86 (.fieldAddr 1 (.tmp 4)) [0], qz 87 (.load none (.tmp 86)) [0], qz 88 (.fieldAddr 1 (.tmp 5)) [0, 1, 2], qz 89 (.load none (.tmp 88)) [0, 1, 2], qz 90 (.bin .plain .mul (.tmp 87) (.tmp 89)) [0], qz 91 (.move (.tmp 0)) [0, 1, 2, 3, 4, 5], qz 92 (.fieldAddr 0 (.tmp 4)) [0, 1, 2, 3, 4, 5, 6], qz 93 (.load none (.tmp 92)) [0, 1, 2, 3, 4, 5, 6], qz 94 (.bin .plain .add (.tmp 93) (.const (.int .i64 1))) [0, 1, 2, 3, 4, 5, 6], qz 95 (.indexAddr 1 (.tmp 91) (.tmp 94)) [0, 1, 2, 3, 4, 5], qz 96 (.load none (.tmp 95)) [0, 1, 2, 3, 4, 5], qz 97 (.fieldAddr 0 (.tmp 5)) [0, 1, 2, 3, 4, 5, 6, 7, 8, 9, 10, 11], qz 98 (.load none (.tmp 97)) [0, 1, 2, 3, 4, 5, 6, 7, 8, 9, 10, 11], qz 99 (.bin .plain .add (.tmp 98) (.const (.int .i64 1))) [0, 1, 2, 3, 4, 5, 6, 7, 8, 9, 10, 11], qz 100 (.indexAddr 1 (.tmp 96) (.tmp 99)) [0, 1, 2, 3, 4, 5], qz 101 (.load none (.tmp 100)) [0, 1, 2, 3, 4, 5], qz 102 (.bin .plain .mul (.tmp 90) (.tmp 101)) [0]], [oz 103 (.bin .plain .add (.tmp 85) (.tmp 102))], [mz 7 103]]
def k_ref02_weighted_r7 : List AOper := k_ref02_weighted_r7s.flatten
theorem k_ref02_weighted_r7_sg : segs k_ref02_weighted_r7 = k_ref02_weighted_r7s := by kernel_rfl
theorem k_ref02_weighted_r7_st : statOK k_ref02_weighted_r7 = true := by kernel_rfl
def k_ref02_weighted_r8 : List AOper := [mz 104 7, mz 6 104]
def k_ref02_weighted : AFun := { params := 3, ntmps := 105, body := (.seq (.reg k_ref02_weighted_r0 false) (.seq (.reg k_ref02_weighted_r1 true) (.seq (.seq (.reg k_ref02_weighted_r2 false) (.cond (.tmp 31) (.reg k_ref02_weighted_r3 true) .skip)) (.seq (.seq (.reg k_ref02_weighted_r4 false) (.cond (.tmp 55) (.reg k_ref02_weighted_r5 true) .skip)) (.seq (.seq (.reg k_ref02_weighted_r6 false) (.cond (.tmp 84) (.reg k_ref02_weighted_r7 true) .skip)) (.seq (.reg k_ref02_weighted_r8 false) .ret)))))), res := [.tmp 6] }
theorem k_ref02_weighted_ok : cfun Try.prog Try.f88 = k_ref02_weighted := by kernel_rfl
def k_ref02_up_r0 : List AOper := [oz 4 (.move (.const (.int .i64 0)))]
def k_ref02_up_r1 : List AOper := [mz 5 0, oz 6 (.neg (.tmp 5)), mz 7 1, oz 8 (.call (.const (.fn (.func 87) [] [])) [.tmp 6, .tmp 7]), oz 9 (.neg (.tmp 8)), mz 4 9]
def k_ref02_up : AFun := { params := 2, ntmps := 10, body := (.seq (.reg k_ref02_up_r0 false) (.seq (.reg k_ref02_up_r1 false) .ret)), res := [.tmp 4] }
theorem k_ref02_up_ok : cfun Try.prog Try.f89 = k_ref02_up := by kernel_rfl
def k_ref02_cut_r0 : List AOper := [oz 2 (.move (.const (.int .i64 0)))]
def k_ref02_cut_r1 : List AOper := [mz 3 0, oz 4 (.minmax false [.tmp 3, .const (.int .i64 1000000)]), oz 5 (.minmax true [.const (.int .i64 0), .tmp 4]), mz 2 5]
def k_ref02_cut : AFun := { params := 1, ntmps := 6, body := (.seq (.reg k_ref02_cut_r0 false) (.seq (.reg k_ref02_cut_r1 false) .ret)), res := [.tmp 2] }
theorem k_ref02_cut_ok : cfun Try.prog Try.f104 = k_ref02_cut := by kernel_rfl
def k_ref02_root_r0 : List AOper := [oz 2 (.move (.const (.int .i64 0)))]
def k_ref02_root_r1 : List AOper := [oz 3 (.move (.const (.int .i64 0))), oz 4 (.move (.const (.int .i64 3000000000)))]
def k_ref02_root_r2 : List AOper := [mz 6 3, mz 7 4, oz 8 (.bin .plain .lss (.tmp 6) (.tmp 7))]
def k_ref02_root_r3 : List AOper := [mz 9 3, mz 10 4, oz 11 (.bin .plain .add (.tmp 9) (.tmp 10)), oz 12 (.bin .plain .add (.tmp 11) (.const (.int .i64 1))), oz 13 (.bin .plain .quo (.tmp 12) (.const (.int .i64 2))), mz 5 13]
def k_ref02_root_r4 : List AOper := [mz 14 5, mz 15 0, mz 16 5, oz 17 (.bin .plain .quo (.tmp 15) (.tmp 16)), oz 18 (.bin .plain .leq (.tmp 14) (.tmp 17))]
def k_ref02_root_r5 : List AOper := [mz 19 5, mz 3 19]
def k_ref02_root_r6 : List AOper := [mz 20 5, oz 21 (.bin .plain .sub (.tmp 20) (.const (.int .i64 1))), mz 4 21]
def k_ref02_root_r7 : ACode := (.seq (.seq (.reg k_ref02_root_r2 false) (.cond (.tmp 8) .skip (.exit 0))) (.block 1 (.seq (.reg k_ref02_root_r3 false) (.seq (.reg k_ref02_root_r4 false) (.cond (.tmp 18) (.reg k_ref02_root_r5 false) (.reg k_ref02_root_r6 false))))))
def k_ref02_root_r8 : List AOper := [mz 22 3, mz 2 22]
def k_ref02_root : AFun := { params := 1, ntmps := 23, body := (.seq (.reg k_ref02_root_r0 false) (.seq (.reg k_ref02_root_r1 false) (.seq (.block 0 (.loop k_ref02_root_r7)) (.seq (.reg k_ref02_root_r8 false) .ret)))), res := [.tmp 2] }
theorem k_ref02_root_ok : cfun Try.prog Try.f107 = k_ref02_root := by kernel_rfl
def k_ref02_above_r0 : List AOper := [oz 2 (.move (.const (.int .i64 0)))]
def k_ref02_above_r1 : List AOper := [mz 4 0, oz 5 (.call (.const (.fn (.func 107) [] [])) [.tmp 4]), mz 3 5]
def k_ref02_above_r2 : List AOper := [mz 6 3, mz 7 3, oz 8 (.bin .plain .mul (.tmp 6) (.tmp 7)), mz 9 0, oz 10 (.bin .plain .lss (.tmp 8) (.tmp 9))]
def k_ref02_above_r3 : List AOper := [mz 11 3, oz 12 (.bin .plain .add (.tmp 11) (.const (.int .i64 1))), mz 2 12]
def k_ref02_above_r4 : List AOper := [mz 13 3, mz 2 13]
def k_ref02_above : AFun := { params := 1, ntmps := 14, body := (.seq (.reg k_ref02_above_r0 false) (.seq (.reg k_ref02_above_r1 false) (.seq (.seq (.reg k_ref02_above_r2 false) (.cond (.tmp 10) (.seq (.reg k_ref02_above_r3 false) .ret) .skip)) (.seq (.reg k_ref02_above_r4 false) .ret)))), res := [.tmp 2] }
theorem k_ref02_above_ok : cfun Try.prog Try.f108 = k_ref02_above := by kernel_rfl
def k_ref02_falls_r0 : List AOper := [oz 6 (.move (.const (.bool false)))]
def k_ref02_falls_r1s : List (List AOper) := [[mz 7 2], [oz 8 (.bin .plain .gtr (.tmp 7) (.const (.int .i64 0)))], [mz 9 8], [⟨some 10, .move (.tmp 0), (some (9, true)), []⟩, ⟨some 11, .move (.tmp 1), (some (9, true)), [3]⟩, ⟨some 12, .indexAddr 1 (.tmp 10) (.tmp 11), (some (9, true)), []⟩, ⟨some 13, .load none (.tmp 12), (some (9, true)), []⟩, ⟨some 14, .move (.tmp 2), (some (9, true)), [3, 4, 5, 6]⟩, ⟨some 15, .indexAddr 1 (.tmp 13) (.tmp 14), (some (9, true)), []⟩, ⟨some 16, .load none (.tmp 15), (some (9, true)), []⟩, ⟨some 17, .move (.tmp 0), (some (9, true)), [3, 4, 5, 6, 7, 8, 9]⟩, ⟨some 18, .move (.tmp 1), (some (9, true)), [3, 4, 5, 6, 7, 8, 9, 10]⟩, ⟨some 19, .indexAddr 1 (.tmp 17) (.tmp 18), (some (9, true)), [3, 4, 5, 6, 7, 8, 9]⟩, ⟨some 20, .load none (.tmp 19), (some (9, true)), [3, 4, 5, 6, 7, 8, 9]⟩, ⟨some 21, .move (.tmp 2), (some (9, true)), [3, 4, 5, 6, 7, 8, 9, 10, 11, 12, 13]⟩, ⟨some 22, .bin .plain .sub (.tmp 21) (.const (.int .i64 1)), (some (9, true)), [3, 4, 5, 6, 7, 8, 9, 10, 11, 12, 13]⟩, ⟨some 23, .indexAddr 1 (.tmp 20) (.tmp 22), (some (9, true)), [3, 4, 5, 6, 7, 8, 9]⟩, ⟨some 24, .load none (.tmp 23), (some (9, true)), [3, 4, 5, 6, 7, 8, 9]⟩], [⟨some 25, .bin .plain .lss (.tmp 16) (.tmp 24), (some (9, true)), []⟩], [oz 26 (.pick (.tmp 9) (.tmp 25) (.const (.bool false)))], [mz 27 26], [⟨some 28, .move (.tmp 1), (some (27, false)), []⟩], [⟨some 29, .bin .plain .gtr (.tmp 28) (.const (.int .i64 0)), (some (27, false)), []⟩], [⟨some 30, .move (.tmp 29), (some (27, false)), []⟩], [⟨some 31, .move (.tmp 0), (some (30, true)), []⟩, ⟨some 32, .move (.tmp 1), (some (30, true)), [24]⟩, ⟨some 33, .indexAddr 1 (.tmp 31) (.tmp 32), (some (30, true)), []⟩, ⟨some 34, .load none (.tmp 33), (some (30, true)), []⟩, ⟨some 35, .move (.tmp 2), (some (30, true)), [24, 25, 26, 27]⟩, ⟨some 36, .indexAddr 1 (.tmp 34) (.tmp 35), (some (30, true)), []⟩, ⟨some 37, .load none (.tmp 36), (some (30, true)), []⟩, ⟨some 38, .move (.tmp 0), (some (30, true)), [24, 25, 26, 27, 28, 29, 30]⟩, ⟨some 39, .move (.tmp 1), (some (30, true)), [24, 25, 26, 27, 28, 29, 30, 31]⟩, ⟨some 40, .bin .plain .sub (.tmp 39) (.const (.int .i64 1)), (some (30, true)), [24, 25, 26, 27, 28, 29, 30, 31]⟩, ⟨some 41, .indexAddr 1 (.tmp 38) (.tmp 40), (some (30, true)), [24, 25, 26, 27, 28, 29, 30]⟩, ⟨some 42, .load none (.tmp 41), (some (30, true)), [24, 25, 26, 27, 28, 29, 30]⟩, ⟨some 43, .move (.tmp 2), (some (30, true)), [24, 25, 26, 27, 28, 29, 30, 31, 32, 33, 34, 35]⟩, ⟨some 44, .indexAddr 1 (.tmp 42) (.tmp 43), (some (30, true)), [24, 25, 26, 27, 28, 29, 30]⟩, ⟨some 45, .load none (.tmp 44), (some (30, true)), [24, 25, 26, 27, 28, 29, 30]⟩], [⟨some 46, .bin .plain .lss (.tmp 37) (.tmp 45), (some (30, true)), []⟩], [⟨some 47, .pick (.tmp 30) (.tmp 46) (.const (.bool false)), (some (27, false)), []⟩], [oz 48 (.pick (.tmp 27) (.const (.bool true)) (.tmp 47))], [mz 6 48]]
def k_ref02_falls_r1 : List AOper := k_ref02_falls_r1s.flatten
theorem k_ref02_falls_r1_sg : segs k_ref02_falls_r1 = k_ref02_falls_r1s := by kernel_rfl
theorem k_ref02_falls_r1_st : statOK k_ref02_falls_r1 = true := by kernel_rfl
def k_ref02_falls : AFun := { params := 3, ntmps := 49, body := (.seq (.reg k_ref02_falls_r0 false) (.seq (.reg k_ref02_falls_r1 true) .ret)), res := [.tmp 6] }
theorem k_ref02_falls_ok : cfun Try.prog Try.f112 = k_ref02_falls := by kernel_rfl
abbrev n_ref02_CheckLaw : Nat := 21
theorem e_ref02_CheckLaw : EntryOK Try.prog n_ref02_CheckLaw k_ref02_CheckLaw := ⟨Try.f21, Try.func21, k_ref02_CheckLaw_ok, by kernel_rfl⟩
abbrev n_kit_FamilyOf : Nat := 25
theorem e_kit_FamilyOf : EntryOK Try.prog n_kit_FamilyOf k_kit_FamilyOf := ⟨Try.f25, Try.func25, k_kit_FamilyOf_ok, by kernel_rfl⟩
abbrev n_ref02_Check : Nat := 28
theorem e_ref02_Check : EntryOK Try.prog n_ref02_Check k_ref02_Check := ⟨Try.f28, Try.func28, k_ref02_Check_ok, by kernel_rfl⟩
abbrev n_kit_Lines : Nat := 48
theorem e_kit_Lines : EntryOK Try.prog n_kit_Lines k_kit_Lines := ⟨Try.f48, Try.func48, k_kit_Lines_ok, by kernel_rfl⟩
abbrev n_ref02_right : Nat := 56
theorem e_ref02_right : EntryOK Try.prog n_ref02_right k_ref02_right := ⟨Try.f56, Try.func56, k_ref02_right_ok, by kernel_rfl⟩
abbrev n_ref02_drive : Nat := 57
theorem e_ref02_drive : EntryOK Try.prog n_ref02_drive k_ref02_drive := ⟨Try.f57, Try.func57, k_ref02_drive_ok, by kernel_rfl⟩
abbrev n_ref02_current : Nat := 59
theorem e_ref02_current : EntryOK Try.prog n_ref02_current k_ref02_current := ⟨Try.f59, Try.func59, k_ref02_current_ok, by kernel_rfl⟩
abbrev n_ref02_checkRange : Nat := 60
theorem e_ref02_checkRange : EntryOK Try.prog n_ref02_checkRange k_ref02_checkRange := ⟨Try.f60, Try.func60, k_ref02_checkRange_ok, by kernel_rfl⟩
abbrev n_kit_Own : Nat := 62
theorem e_kit_Own : EntryOK Try.prog n_kit_Own k_kit_Own := ⟨Try.f62, Try.func62, k_kit_Own_ok, by kernel_rfl⟩
abbrev n_ref02_Of : Nat := 63
theorem e_ref02_Of : EntryOK Try.prog n_ref02_Of k_ref02_Of := ⟨Try.f63, Try.func63, k_ref02_Of_ok, by kernel_rfl⟩
abbrev n_ref02_ints : Nat := 67
theorem e_ref02_ints : EntryOK Try.prog n_ref02_ints k_ref02_ints := ⟨Try.f67, Try.func67, k_ref02_ints_ok, by kernel_rfl⟩
abbrev n_ref02_checkLines : Nat := 72
theorem e_ref02_checkLines : EntryOK Try.prog n_ref02_checkLines k_ref02_checkLines := ⟨Try.f72, Try.func72, k_ref02_checkLines_ok, by kernel_rfl⟩
abbrev n_ref02_formed : Nat := 73
theorem e_ref02_formed : EntryOK Try.prog n_ref02_formed k_ref02_formed := ⟨Try.f73, Try.func73, k_ref02_formed_ok, by kernel_rfl⟩
abbrev n_ref02_checkPlace : Nat := 74
theorem e_ref02_checkPlace : EntryOK Try.prog n_ref02_checkPlace k_ref02_checkPlace := ⟨Try.f74, Try.func74, k_ref02_checkPlace_ok, by kernel_rfl⟩
abbrev n_slices_Equal_int_int : Nat := 75
theorem e_slices_Equal_int_int : EntryOK Try.prog n_slices_Equal_int_int k_slices_Equal_int_int := ⟨Try.f75, Try.func75, k_slices_Equal_int_int_ok, by kernel_rfl⟩
abbrev n_ref02_find : Nat := 86
theorem e_ref02_find : EntryOK Try.prog n_ref02_find k_ref02_find := ⟨Try.f86, Try.func86, k_ref02_find_ok, by kernel_rfl⟩
abbrev n_ref02_down : Nat := 87
theorem e_ref02_down : EntryOK Try.prog n_ref02_down k_ref02_down := ⟨Try.f87, Try.func87, k_ref02_down_ok, by kernel_rfl⟩
abbrev n_ref02_weighted : Nat := 88
theorem e_ref02_weighted : EntryOK Try.prog n_ref02_weighted k_ref02_weighted := ⟨Try.f88, Try.func88, k_ref02_weighted_ok, by kernel_rfl⟩
abbrev n_ref02_up : Nat := 89
theorem e_ref02_up : EntryOK Try.prog n_ref02_up k_ref02_up := ⟨Try.f89, Try.func89, k_ref02_up_ok, by kernel_rfl⟩
abbrev n_ref02_cut : Nat := 104
theorem e_ref02_cut : EntryOK Try.prog n_ref02_cut k_ref02_cut := ⟨Try.f104, Try.func104, k_ref02_cut_ok, by kernel_rfl⟩
abbrev n_ref02_root : Nat := 107
theorem e_ref02_root : EntryOK Try.prog n_ref02_root k_ref02_root := ⟨Try.f107, Try.func107, k_ref02_root_ok, by kernel_rfl⟩
abbrev n_ref02_above : Nat := 108
theorem e_ref02_above : EntryOK Try.prog n_ref02_above k_ref02_above := ⟨Try.f108, Try.func108, k_ref02_above_ok, by kernel_rfl⟩
abbrev n_ref02_falls : Nat := 112
theorem e_ref02_falls : EntryOK Try.prog n_ref02_falls k_ref02_falls := ⟨Try.f112, Try.func112, k_ref02_falls_ok, by kernel_rfl⟩
attribute [go_sem] k_ref02_CheckLaw_r0 k_ref02_CheckLaw_r1 k_ref02_CheckLaw_r2 k_ref02_CheckLaw_r3 k_ref02_CheckLaw_r4 k_ref02_CheckLaw_r5 k_ref02_CheckLaw_r6s k_ref02_CheckLaw_r7 k_ref02_CheckLaw_r8 k_ref02_CheckLaw_r9 k_ref02_CheckLaw_r11 k_kit_FamilyOf_r0
attribute [go_sem] k_kit_FamilyOf_r1 k_kit_FamilyOf_r2 k_kit_FamilyOf_r3 k_kit_FamilyOf_r4 k_kit_FamilyOf_r5 k_kit_FamilyOf_r6 k_kit_FamilyOf_r7 k_kit_FamilyOf_r8 k_kit_FamilyOf_r9 k_kit_FamilyOf_r10 k_kit_FamilyOf_r11 k_kit_FamilyOf_r12
attribute [go_sem] k_kit_FamilyOf_r13s k_kit_FamilyOf_r14 k_kit_FamilyOf_r15 k_kit_FamilyOf_r16 k_kit_FamilyOf_r17 k_kit_FamilyOf_r18 k_kit_FamilyOf_r19 k_kit_FamilyOf_r20 k_kit_FamilyOf_r21 k_kit_FamilyOf_r23s k_kit_FamilyOf_r24 k_kit_FamilyOf_r26
attribute [go_sem] k_ref02_Check_r0 k_ref02_Check_r1 k_ref02_Check_r2 k_ref02_Check_r3 k_ref02_Check_r4 k_ref02_Check_r5 k_ref02_Check_r6 k_ref02_Check_r7 k_ref02_Check_r8 k_ref02_Check_r9 k_ref02_Check_r10 k_ref02_Check_r11
attribute [go_sem] k_ref02_Check_r12 k_ref02_Check_r13 k_ref02_Check_r15 k_ref02_Check_r17
attribute [go_sem] k_kit_Lines_r0 k_kit_Lines_r1 k_kit_Lines_r2 k_kit_Lines_r3 k_kit_Lines_r4 k_kit_Lines_r5 k_kit_Lines_r6 k_kit_Lines_r7 k_kit_Lines_r9 k_kit_Lines_r10s
attribute [go_sem] k_kit_Lines_r11 k_kit_Lines_r13 k_ref02_right_r0 k_ref02_right_r1 k_ref02_drive_r0 k_ref02_drive_r1s k_ref02_current_r0 k_ref02_current_r1 k_ref02_current_r2s k_ref02_current_r3s k_ref02_current_r4s k_ref02_current_r4_sg k_ref02_current_r4_st k_ref02_current_r5s
attribute [go_sem] k_ref02_checkRange_r0 k_ref02_checkRange_r1 k_ref02_checkRange_r2 k_ref02_checkRange_r3 k_ref02_checkRange_r4 k_ref02_checkRange_r5 k_kit_Own_r0 k_kit_Own_r1 k_ref02_Of_r0 k_ref02_Of_r1 k_ref02_Of_r2 k_ref02_Of_r3
attribute [go_sem] k_ref02_Of_r4 k_ref02_Of_r5 k_ref02_Of_r6 k_ref02_Of_r7 k_ref02_Of_r8 k_ref02_Of_r9 k_ref02_Of_r10 k_ref02_Of_r11 k_ref02_Of_r12 k_ref02_Of_r13s k_ref02_Of_r14s k_ref02_Of_r15
attribute [go_sem] k_ref02_Of_r17s k_ref02_Of_r18 k_ref02_Of_r20 k_ref02_ints_r0 k_ref02_ints_r1 k_ref02_checkLines_r0 k_ref02_checkLines_r1 k_ref02_checkLines_r2 k_ref02_checkLines_r3 k_ref02_checkLines_r4 k_ref02_checkLines_r5 k_ref02_checkLines_r6
attribute [go_sem] k_ref02_checkLines_r7 k_ref02_checkLines_r8 k_ref02_checkLines_r9s k_ref02_checkLines_r10 k_ref02_checkLines_r11 k_ref02_checkLines_r13 k_ref02_checkLines_r14 k_ref02_checkLines_r15 k_ref02_checkLines_r16 k_ref02_checkLines_r17s k_ref02_checkLines_r18 k_ref02_checkLines_r19
attribute [go_sem] k_ref02_checkLines_r21 k_ref02_formed_r0 k_ref02_formed_r1 k_ref02_formed_r2 k_ref02_formed_r3 k_ref02_formed_r4 k_ref02_formed_r5s k_ref02_formed_r6 k_ref02_formed_r7 k_ref02_formed_r9 k_ref02_checkPlace_r0 k_ref02_checkPlace_r1s
attribute [go_sem] k_ref02_checkPlace_r2 k_ref02_checkPlace_r3 k_ref02_checkPlace_r4 k_ref02_checkPlace_r5 k_ref02_checkPlace_r6 k_ref02_checkPlace_r7 k_ref02_checkPlace_r8 k_slices_Equal_int_int_r0 k_slices_Equal_int_int_r1 k_slices_Equal_int_int_r2 k_slices_Equal_int_int_r3 k_slices_Equal_int_int_r4
attribute [go_sem] k_slices_Equal_int_int_r5 k_slices_Equal_int_int_r6s k_slices_Equal_int_int_r7 k_slices_Equal_int_int_r8 k_slices_Equal_int_int_r10 k_ref02_find_r0 k_ref02_find_r1 k_ref02_find_r2 k_ref02_find_r3 k_ref02_find_r4
attribute [go_sem] k_ref02_find_r5 k_ref02_find_r7 k_ref02_find_r8 k_ref02_find_r9s k_ref02_down_r0 k_ref02_down_r1 k_ref02_down_r2 k_ref02_down_r3 k_ref02_down_r4 k_ref02_weighted_r0 k_ref02_weighted_r1s k_ref02_weighted_r2
attribute [go_sem] k_ref02_weighted_r3s k_ref02_weighted_r4 k_ref02_weighted_r5s k_ref02_weighted_r6 k_ref02_weighted_r7s k_ref02_weighted_r8 k_ref02_up_r0 k_ref02_up_r1 k_ref02_cut_r0 k_ref02_cut_r1 k_ref02_root_r0 k_ref02_root_r1
attribute [go_sem] k_ref02_root_r2 k_ref02_root_r3 k_ref02_root_r4 k_ref02_root_r5 k_ref02_root_r6 k_ref02_root_r8 k_ref02_above_r0 k_ref02_above_r1 k_ref02_above_r2 k_ref02_above_r3 k_ref02_above_r4 k_ref02_falls_r0
attribute [go_sem] k_ref02_falls_r1s
attribute [go_sem] k_ref02_weighted_r5_sg k_ref02_CheckLaw_r6_sg k_ref02_weighted_r3_sg k_kit_FamilyOf_r13_sg k_kit_FamilyOf_r23_sg k_ref02_falls_r1_sg k_ref02_current_r5_sg k_ref02_Of_r13_sg k_ref02_Of_r14_sg k_ref02_checkLines_r9_sg
attribute [go_sem] k_ref02_weighted_r1_sg k_ref02_Of_r17_sg k_ref02_checkLines_r17_sg k_ref02_formed_r5_sg k_ref02_current_r2_sg k_slices_Equal_int_int_r6_sg k_kit_Lines_r10_sg k_ref02_checkPlace_r1_sg k_ref02_find_r9_sg k_ref02_drive_r1_sg k_ref02_current_r3_sg k_ref02_weighted_r7_sg
attribute [go_sem] k_ref02_weighted_r5_st k_ref02_CheckLaw_r6_st k_ref02_weighted_r3_st k_kit_FamilyOf_r13_st k_kit_FamilyOf_r23_st k_ref02_falls_r1_st k_ref02_current_r5_st k_ref02_Of_r13_st k_ref02_Of_r14_st k_ref02_checkLines_r9_st
attribute [go_sem] k_ref02_weighted_r1_st k_ref02_Of_r17_st k_ref02_checkLines_r17_st k_ref02_formed_r5_st k_ref02_current_r2_st k_slices_Equal_int_int_r6_st k_kit_Lines_r10_st k_ref02_checkPlace_r1_st k_ref02_find_r9_st k_ref02_drive_r1_st k_ref02_current_r3_st k_ref02_weighted_r7_st
attribute [go_sem] k_ref02_CheckLaw k_kit_FamilyOf k_ref02_Check k_kit_Lines k_ref02_right k_ref02_drive k_ref02_current k_ref02_checkRange k_kit_Own k_ref02_Of
attribute [go_sem] k_ref02_ints k_ref02_checkLines k_ref02_formed k_ref02_checkPlace k_slices_Equal_int_int k_ref02_find k_ref02_down k_ref02_weighted k_ref02_up k_ref02_cut k_ref02_root
attribute [go_sem] k_ref02_above k_ref02_falls
end Go.Proofs
