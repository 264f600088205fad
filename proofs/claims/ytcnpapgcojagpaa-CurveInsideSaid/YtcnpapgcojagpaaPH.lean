import Derived.Test.YtcnpapgcojagpaaPG
set_option linter.unusedSimpArgs false
set_option linter.unusedVariables false
namespace Go.Proofs
open Go Go.Sx
def k_curve_Copy_r0 : List AOper := [oz 1 (.box (.tmp 0)), oz 2 (.box (.const (.agg [.nilsl, .nilsl, .nilsl, .nilsl])))]
def k_curve_Copy_r1s : List (List AOper) := [[oz 3 (.fieldAddr 0 (.tmp 1)), oz 4 (.load none (.tmp 3)), oz 5 (.call (.const (.fn (.func 79) [] [])) [.tmp 4]), qz 6 (.fieldAddr 1 (.tmp 1)) [0, 1, 2], qz 7 (.load none (.tmp 6)) [0, 1, 2], oz 8 (.call (.const (.fn (.func 79) [] [])) [.tmp 7]), qz 9 (.fieldAddr 2 (.tmp 1)) [0, 1, 2, 3, 4, 5], qz 10 (.load none (.tmp 9)) [0, 1, 2, 3, 4, 5], oz 11 (.call (.const (.fn (.func 80) [] [])) [.tmp 10]), qz 12 (.fieldAddr 3 (.tmp 1)) [0, 1, 2, 3, 4, 5, 6, 7, 8], qz 13 (.load none (.tmp 12)) [0, 1, 2, 3, 4, 5, 6, 7, 8]], [oz 14 (.call (.const (.fn (.func 80) [] [])) [.tmp 13])], [oz 15 (.build [.nilsl, .nilsl, .nilsl, .nilsl] [(0, 1, .tmp 5), (1, 1, .tmp 8), (2, 1, .tmp 11), (3, 1, .tmp 14)])], [⟨none, .store 4 (.tmp 2) (.tmp 15), none, []⟩]]
def k_curve_Copy_r1 : List AOper := k_curve_Copy_r1s.flatten
theorem k_curve_Copy_r1_sg : segs k_curve_Copy_r1 = k_curve_Copy_r1s := by kernel_rfl
theorem k_curve_Copy_r1_st : statOK k_curve_Copy_r1 = true := by kernel_rfl
def k_curve_Copy : AFun := { params := 1, ntmps := 16, body := (.seq (.reg k_curve_Copy_r0 false) (.seq (.reg k_curve_Copy_r1 true) .ret)), res := [.cell 2 (some ((some (4))))] }
theorem k_curve_Copy_ok : cfun Try.prog Try.f31 = k_curve_Copy := by kernel_rfl
def k_curve_Hull_r0 : List AOper := [oz 2 (.box (.const (.agg [.nilsl, .nilsl, .nilsl, .nilsl]))), oz 3 (.move (.const (.int .i64 0)))]
def k_curve_Hull_r1 : List AOper := [mz 12 0, oz 13 (.len false (.tmp 12)), oz 14 (.bin .plain .eql (.tmp 13) (.const (.int .i64 0)))]
def k_curve_Hull_r2 : List AOper := [oz 15 (.build [.nilsl, .nilsl, .nilsl, .nilsl] []), ⟨none, .store 4 (.tmp 2) (.tmp 15), none, []⟩, oz 3 (.move (.const (.int .i64 6)))]
def k_curve_Hull_r3 : List AOper := [mz 16 0, oz 17 (.len false (.tmp 16)), oz 18 (.bin .plain .gtr (.tmp 17) (.const (.int .i64 40)))]
def k_curve_Hull_r4 : List AOper := [oz 19 (.build [.nilsl, .nilsl, .nilsl, .nilsl] []), ⟨none, .store 4 (.tmp 2) (.tmp 19), none, []⟩, oz 3 (.move (.const (.int .i64 8)))]
def k_curve_Hull_r5 : List AOper := [mz 20 0, oz 21 (.len false (.tmp 20)), oz 22 (.move (.const (.int .i64 0)))]
def k_curve_Hull_r6 : List AOper := [oz 23 (.bin .plain .lss (.tmp 22) (.tmp 21))]
def k_curve_Hull_r7 : List AOper := [oz 24 (.indexAddr 4 (.tmp 20) (.tmp 22)), oz 25 (.load (some (4)) (.tmp 24)), oz 5 (.box (.const (.agg [.nilsl, .nilsl, .nilsl, .nilsl]))), ⟨none, .store 4 (.tmp 5) (.tmp 25), none, []⟩]
def k_curve_Hull_r8 : List AOper := [oz 26 (.load (some (4)) (.tmp 5)), oz 27 (.call (.const (.fn (.func 27) [] [])) [.tmp 26]), mz 6 27]
def k_curve_Hull_r9 : List AOper := [mz 28 6, oz 29 (.bin .plain .neq (.tmp 28) (.const (.int .i64 0)))]
def k_curve_Hull_r10 : List AOper := [oz 30 (.build [.nilsl, .nilsl, .nilsl, .nilsl] []), mz 31 6, ⟨none, .store 4 (.tmp 2) (.tmp 30), none, []⟩, mz 3 31]
def k_curve_Hull_r11s : List (List AOper) := [[oz 32 (.fieldAddr 0 (.tmp 5)), oz 33 (.load none (.tmp 32)), qz 34 (.move (.tmp 0)) [0, 1], qz 35 (.indexAddr 4 (.tmp 34) (.const (.int .i64 0))) [0, 1], qz 36 (.fieldAddr 0 (.tmp 35)) [0, 1], qz 37 (.load none (.tmp 36)) [0, 1]], [oz 38 (.call (.const (.fn (.func 75) [] [])) [.tmp 33, .tmp 37])], [oz 39 (.not (.tmp 38))], [mz 40 39], [⟨some 41, .fieldAddr 1 (.tmp 5), (some (40, false)), []⟩, ⟨some 42, .load none (.tmp 41), (some (40, false)), []⟩, ⟨some 43, .move (.tmp 0), (some (40, false)), [9, 10]⟩, ⟨some 44, .indexAddr 4 (.tmp 43) (.const (.int .i64 0)), (some (40, false)), [9, 10]⟩, ⟨some 45, .fieldAddr 1 (.tmp 44), (some (40, false)), [9, 10]⟩, ⟨some 46, .load none (.tmp 45), (some (40, false)), [9, 10]⟩], [⟨some 47, .call (.const (.fn (.func 75) [] [])) [.tmp 42, .tmp 46], (some (40, false)), []⟩], [⟨some 48, .not (.tmp 47), (some (40, false)), []⟩], [oz 49 (.pick (.tmp 40) (.const (.bool true)) (.tmp 48))]]
def k_curve_Hull_r11 : List AOper := k_curve_Hull_r11s.flatten
theorem k_curve_Hull_r11_sg : segs k_curve_Hull_r11 = k_curve_Hull_r11s := by kernel_rfl
theorem k_curve_Hull_r11_st : statOK k_curve_Hull_r11 = true := by kernel_rfl
def k_curve_Hull_r12 : List AOper := [oz 50 (.build [.nilsl, .nilsl, .nilsl, .nilsl] []), ⟨none, .store 4 (.tmp 2) (.tmp 50), none, []⟩, oz 3 (.move (.const (.int .i64 3)))]
def k_curve_Hull_r13 : List AOper := [oz 51 (.bin .plain .add (.tmp 22) (.const (.int .i64 1))), mz 22 51]
def k_curve_Hull_r14 : ACode := (.seq (.reg k_curve_Hull_r6 false) (.seq (.cond (.tmp 23) .skip (.exit 0)) (.seq (.block 1 (.seq (.reg k_curve_Hull_r7 false) (.seq (.seq (.reg k_curve_Hull_r8 false) (.seq (.reg k_curve_Hull_r9 false) (.cond (.tmp 29) (.seq (.reg k_curve_Hull_r10 false) .ret) .skip))) (.seq (.reg k_curve_Hull_r11 true) (.cond (.tmp 49) (.seq (.reg k_curve_Hull_r12 false) .ret) .skip))))) (.reg k_curve_Hull_r13 false))))
def k_curve_Hull_r15 : List AOper := [mz 52 0, oz 53 (.indexAddr 4 (.tmp 52) (.const (.int .i64 0))), oz 54 (.load (some (4)) (.tmp 53)), oz 55 (.call (.const (.fn (.func 31) [] [])) [.tmp 54]), oz 7 (.box (.const (.agg [.nilsl, .nilsl, .nilsl, .nilsl]))), ⟨none, .store 4 (.tmp 7) (.tmp 55), none, []⟩]
def k_curve_Hull_r16 : List AOper := [mz 56 0, oz 57 (.slice false 4 (.tmp 56) (some (.const (.int .i64 1))) none), oz 58 (.len false (.tmp 57)), oz 59 (.move (.const (.int .i64 0)))]
def k_curve_Hull_r17 : List AOper := [oz 60 (.bin .plain .lss (.tmp 59) (.tmp 58))]
def k_curve_Hull_r18 : List AOper := [oz 61 (.indexAddr 4 (.tmp 57) (.tmp 59)), oz 62 (.load (some (4)) (.tmp 61)), oz 9 (.box (.const (.agg [.nilsl, .nilsl, .nilsl, .nilsl]))), ⟨none, .store 4 (.tmp 9) (.tmp 62), none, []⟩]
def k_curve_Hull_r19 : List AOper := [oz 63 (.fieldAddr 0 (.tmp 7)), oz 64 (.load none (.tmp 63)), oz 65 (.len false (.tmp 64)), oz 66 (.move (.const (.int .i64 0)))]
def k_curve_Hull_r20 : List AOper := [oz 67 (.bin .plain .lss (.tmp 66) (.tmp 65))]
def k_curve_Hull_r21 : List AOper := [mz 68 66, mz 10 68]
def k_curve_Hull_r22 : List AOper := [oz 69 (.fieldAddr 1 (.tmp 7)), oz 70 (.load none (.tmp 69)), oz 71 (.len false (.tmp 70)), oz 72 (.move (.const (.int .i64 0)))]
def k_curve_Hull_r23 : List AOper := [oz 73 (.bin .plain .lss (.tmp 72) (.tmp 71))]
def k_curve_Hull_r24 : List AOper := [mz 74 72, mz 11 74]
def k_curve_Hull_r25s : List (List AOper) := [[oz 75 (.fieldAddr 2 (.tmp 7)), oz 76 (.load none (.tmp 75)), qz 77 (.move (.tmp 10)) [0, 1], oz 78 (.indexAddr 1 (.tmp 76) (.tmp 77)), oz 79 (.load none (.tmp 78)), qz 80 (.move (.tmp 11)) [0, 1, 2, 3, 4], qz 81 (.fieldAddr 2 (.tmp 7)) [0, 1, 2, 3, 4, 5], qz 82 (.load none (.tmp 81)) [0, 1, 2, 3, 4, 5], qz 83 (.move (.tmp 10)) [0, 1, 2, 3, 4, 5, 6, 7], qz 84 (.indexAddr 1 (.tmp 82) (.tmp 83)) [0, 1, 2, 3, 4, 5], qz 85 (.load none (.tmp 84)) [0, 1, 2, 3, 4, 5], qz 86 (.move (.tmp 11)) [0, 1, 2, 3, 4, 5, 6, 7, 8, 9, 10], qz 87 (.indexAddr 1 (.tmp 85) (.tmp 86)) [0, 1, 2, 3, 4, 5], qz 88 (.load none (.tmp 87)) [0, 1, 2, 3, 4, 5], qz 89 (.fieldAddr 2 (.tmp 9)) [0, 1, 2, 3, 4, 5, 6, 7, 8, 9, 10, 11, 12, 13], qz 90 (.load none (.tmp 89)) [0, 1, 2, 3, 4, 5, 6, 7, 8, 9, 10, 11, 12, 13], qz 91 (.move (.tmp 10)) [0, 1, 2, 3, 4, 5, 6, 7, 8, 9, 10, 11, 12, 13, 14, 15], qz 92 (.indexAddr 1 (.tmp 90) (.tmp 91)) [0, 1, 2, 3, 4, 5, 6, 7, 8, 9, 10, 11, 12, 13], qz 93 (.load none (.tmp 92)) [0, 1, 2, 3, 4, 5, 6, 7, 8, 9, 10, 11, 12, 13], qz 94 (.move (.tmp 11)) [0, 1, 2, 3, 4, 5, 6, 7, 8, 9, 10, 11, 12, 13, 14, 15, 16, 17, 18], qz 95 (.indexAddr 1 (.tmp 93) (.tmp 94)) [0, 1, 2, 3, 4, 5, 6, 7, 8, 9, 10, 11, 12, 13], qz 96 (.load none (.tmp 95)) [0, 1, 2, 3, 4, 5, 6, 7, 8, 9, 10, 11, 12, 13], qz 97 (.minmax false [.tmp 88, .tmp 96]) [0, 1, 2, 3, 4, 5]], [oz 98 (.indexAddr 1 (.tmp 79) (.tmp 80))], [⟨none, .store 1 (.tmp 98) (.tmp 97), none, []⟩]]
def k_curve_Hull_r25 : List AOper := k_curve_Hull_r25s.flatten
theorem k_curve_Hull_r25_sg : segs k_curve_Hull_r25 = k_curve_Hull_r25s := by kernel_rfl
theorem k_curve_Hull_r25_st : statOK k_curve_Hull_r25 = true := by kernel_rfl
def k_curve_Hull_r26s : List (List AOper) := [[oz 99 (.fieldAddr 3 (.tmp 7)), oz 100 (.load none (.tmp 99)), qz 101 (.move (.tmp 10)) [0, 1], oz 102 (.indexAddr 1 (.tmp 100) (.tmp 101)), oz 103 (.load none (.tmp 102)), qz 104 (.move (.tmp 11)) [0, 1, 2, 3, 4], qz 105 (.fieldAddr 3 (.tmp 7)) [0, 1, 2, 3, 4, 5], qz 106 (.load none (.tmp 105)) [0, 1, 2, 3, 4, 5], qz 107 (.move (.tmp 10)) [0, 1, 2, 3, 4, 5, 6, 7], qz 108 (.indexAddr 1 (.tmp 106) (.tmp 107)) [0, 1, 2, 3, 4, 5], qz 109 (.load none (.tmp 108)) [0, 1, 2, 3, 4, 5], qz 110 (.move (.tmp 11)) [0, 1, 2, 3, 4, 5, 6, 7, 8, 9, 10], qz 111 (.indexAddr 1 (.tmp 109) (.tmp 110)) [0, 1, 2, 3, 4, 5], qz 112 (.load none (.tmp 111)) [0, 1, 2, 3, 4, 5], qz 113 (.fieldAddr 3 (.tmp 9)) [0, 1, 2, 3, 4, 5, 6, 7, 8, 9, 10, 11, 12, 13], qz 114 (.load none (.tmp 113)) [0, 1, 2, 3, 4, 5, 6, 7, 8, 9, 10, 11, 12, 13], qz 115 (.move (.tmp 10)) [0, 1, 2, 3, 4, 5, 6, 7, 8, 9, 10, 11, 12, 13, 14, 15], qz 116 (.indexAddr 1 (.tmp 114) (.tmp 115)) [0, 1, 2, 3, 4, 5, 6, 7, 8, 9, 10, 11, 12, 13], qz 117 (.load none (.tmp 116)) [0, 1, 2, 3, 4, 5, 6, 7, 8, 9, 10, 11, 12, 13], qz 118 (.move (.tmp 11)) [0, 1, 2, 3, 4, 5, 6, 7, 8, 9, 10, 11, 12, 13, 14, 15, 16, 17, 18], qz 119 (.indexAddr 1 (.tmp 117) (.tmp 118)) [0, 1, 2, 3, 4, 5, 6, 7, 8, 9, 10, 11, 12, 13], qz 120 (.load none (.tmp 119)) [0, 1, 2, 3, 4, 5, 6, 7, 8, 9, 10, 11, 12, 13], qz 121 (.minmax true [.tmp 112, .tmp 120]) [0, 1, 2, 3, 4, 5]], [oz 122 (.indexAddr 1 (.tmp 103) (.tmp 104))], [⟨none, .store 1 (.tmp 122) (.tmp 121), none, []⟩]]
def k_curve_Hull_r26 : List AOper := k_curve_Hull_r26s.flatten
theorem k_curve_Hull_r26_sg : segs k_curve_Hull_r26 = k_curve_Hull_r26s := by kernel_rfl
theorem k_curve_Hull_r26_st : statOK k_curve_Hull_r26 = true := by kernel_rfl
def k_curve_Hull_r27 : List AOper := [oz 123 (.bin .plain .add (.tmp 72) (.const (.int .i64 1))), mz 72 123]
def k_curve_Hull_r28 : ACode := (.seq (.reg k_curve_Hull_r23 false) (.seq (.cond (.tmp 73) .skip (.exit 6)) (.seq (.block 7 (.seq (.reg k_curve_Hull_r24 false) (.seq (.reg k_curve_Hull_r25 true) (.reg k_curve_Hull_r26 true)))) (.reg k_curve_Hull_r27 false))))
def k_curve_Hull_r29 : List AOper := [oz 124 (.bin .plain .add (.tmp 66) (.const (.int .i64 1))), mz 66 124]
def k_curve_Hull_r30 : ACode := (.seq (.reg k_curve_Hull_r20 false) (.seq (.cond (.tmp 67) .skip (.exit 4)) (.seq (.block 5 (.seq (.reg k_curve_Hull_r21 false) (.seq (.reg k_curve_Hull_r22 false) (.block 6 (.loop k_curve_Hull_r28))))) (.reg k_curve_Hull_r29 false))))
def k_curve_Hull_r31 : List AOper := [oz 125 (.bin .plain .add (.tmp 59) (.const (.int .i64 1))), mz 59 125]
def k_curve_Hull_r32 : ACode := (.seq (.reg k_curve_Hull_r17 false) (.seq (.cond (.tmp 60) .skip (.exit 2)) (.seq (.block 3 (.seq (.reg k_curve_Hull_r18 false) (.seq (.reg k_curve_Hull_r19 false) (.block 4 (.loop k_curve_Hull_r30))))) (.reg k_curve_Hull_r31 false))))
def k_curve_Hull_r33 : List AOper := [oz 126 (.load (some (4)) (.tmp 7)), ⟨none, .store 4 (.tmp 2) (.tmp 126), none, []⟩, oz 3 (.move (.const (.int .i64 0)))]
def k_curve_Hull : AFun := { params := 1, ntmps := 127, body := (.seq (.reg k_curve_Hull_r0 false) (.seq (.seq (.reg k_curve_Hull_r1 false) (.cond (.tmp 14) (.seq (.reg k_curve_Hull_r2 false) .ret) .skip)) (.seq (.seq (.reg k_curve_Hull_r3 false) (.cond (.tmp 18) (.seq (.reg k_curve_Hull_r4 false) .ret) .skip)) (.seq (.seq (.reg k_curve_Hull_r5 false) (.block 0 (.loop k_curve_Hull_r14))) (.seq (.reg k_curve_Hull_r15 false) (.seq (.seq (.reg k_curve_Hull_r16 false) (.block 2 (.loop k_curve_Hull_r32))) (.seq (.reg k_curve_Hull_r33 false) .ret))))))), res := [.cell 2 (some ((some (4)))), .tmp 3] }
theorem k_curve_Hull_ok : cfun Try.prog Try.f39 = k_curve_Hull := by kernel_rfl
def k_curve_copiedTable_r0 : List AOper := [oz 2 (.move (.const (.nilsl)))]
def k_curve_copiedTable_r1 : List AOper := [oz 3 (.move (.const (.nilsl)))]
def k_curve_copiedTable_r2 : List AOper := [mz 6 0, oz 7 (.len false (.tmp 6)), oz 8 (.move (.const (.int .i64 0)))]
def k_curve_copiedTable_r3 : List AOper := [oz 9 (.bin .plain .lss (.tmp 8) (.tmp 7))]
def k_curve_copiedTable_r4 : List AOper := [oz 10 (.indexAddr 1 (.tmp 6) (.tmp 8)), oz 11 (.load none (.tmp 10)), mz 5 11]
def k_curve_copiedTable_r5 : List AOper := [mz 12 3, mz 13 5, oz 14 (.call (.const (.fn (.func 79) [] [])) [.tmp 13]), oz 15 (.buildSlice 1 [.tmp 14]), oz 16 (.append 1 24 false (.tmp 12) (.tmp 15)), mz 3 16]
def k_curve_copiedTable_r6 : List AOper := [oz 17 (.bin .plain .add (.tmp 8) (.const (.int .i64 1))), mz 8 17]
def k_curve_copiedTable_r7 : ACode := (.seq (.reg k_curve_copiedTable_r3 false) (.seq (.cond (.tmp 9) .skip (.exit 0)) (.seq (.block 1 (.seq (.reg k_curve_copiedTable_r4 false) (.reg k_curve_copiedTable_r5 false))) (.reg k_curve_copiedTable_r6 false))))
def k_curve_copiedTable_r8 : List AOper := [mz 18 3, mz 2 18]
def k_curve_copiedTable : AFun := { params := 1, ntmps := 19, body := (.seq (.reg k_curve_copiedTable_r0 false) (.seq (.reg k_curve_copiedTable_r1 false) (.seq (.seq (.reg k_curve_copiedTable_r2 false) (.block 0 (.loop k_curve_copiedTable_r7))) (.seq (.reg k_curve_copiedTable_r8 false) .ret)))), res := [.tmp 2] }
theorem k_curve_copiedTable_ok : cfun Try.prog Try.f80 = k_curve_copiedTable := by kernel_rfl
abbrev n_curve_Copy : Nat := 31
theorem e_curve_Copy : EntryOK Try.prog n_curve_Copy k_curve_Copy := ⟨Try.f31, Try.func31, k_curve_Copy_ok, by kernel_rfl⟩
abbrev n_curve_Hull : Nat := 39
theorem e_curve_Hull : EntryOK Try.prog n_curve_Hull k_curve_Hull := ⟨Try.f39, Try.func39, k_curve_Hull_ok, by kernel_rfl⟩
abbrev n_curve_copiedTable : Nat := 80
theorem e_curve_copiedTable : EntryOK Try.prog n_curve_copiedTable k_curve_copiedTable := ⟨Try.f80, Try.func80, k_curve_copiedTable_ok, by kernel_rfl⟩
attribute [go_sem] k_curve_Copy_r0 k_curve_Copy_r1s k_curve_Hull_r0 k_curve_Hull_r1 k_curve_Hull_r2 k_curve_Hull_r3 k_curve_Hull_r4 k_curve_Hull_r5 k_curve_Hull_r6 k_curve_Hull_r7 k_curve_Hull_r8 k_curve_Hull_r9
attribute [go_sem] k_curve_Hull_r10 k_curve_Hull_r11s k_curve_Hull_r12 k_curve_Hull_r13 k_curve_Hull_r15 k_curve_Hull_r16 k_curve_Hull_r17 k_curve_Hull_r18 k_curve_Hull_r19 k_curve_Hull_r20 k_curve_Hull_r21 k_curve_Hull_r22
attribute [go_sem] k_curve_Hull_r23 k_curve_Hull_r24 k_curve_Hull_r25s k_curve_Hull_r26s k_curve_Hull_r27 k_curve_Hull_r29 k_curve_Hull_r31 k_curve_Hull_r33 k_curve_copiedTable_r0 k_curve_copiedTable_r1 k_curve_copiedTable_r2 k_curve_copiedTable_r3
attribute [go_sem] k_curve_copiedTable_r4 k_curve_copiedTable_r5 k_curve_copiedTable_r6 k_curve_copiedTable_r8 k_curve_Hull_r26_sg k_curve_Copy_r1_sg k_curve_Hull_r11_sg k_curve_Hull_r25_sg k_curve_Hull_r26_st k_curve_Copy_r1_st k_curve_Hull_r11_st k_curve_Hull_r25_st
attribute [go_sem] k_curve_Copy k_curve_Hull k_curve_copiedTable
end Go.Proofs
namespace Go.Proofs
open Go Go.Sx
def k_ref02_Copy_r0 : List AOper := [oz 1 (.box (.tmp 0)), oz 2 (.box (.const (.agg [.nilsl, .nilsl, .nilsl, .nilsl])))]
def k_ref02_Copy_r1s : List (List AOper) := [[oz 3 (.fieldAddr 0 (.tmp 1)), oz 4 (.load none (.tmp 3)), oz 5 (.call (.const (.fn (.func 67) [] [])) [.tmp 4]), qz 6 (.fieldAddr 1 (.tmp 1)) [0, 1, 2], qz 7 (.load none (.tmp 6)) [0, 1, 2], oz 8 (.call (.const (.fn (.func 67) [] [])) [.tmp 7]), qz 9 (.fieldAddr 2 (.tmp 1)) [0, 1, 2, 3, 4, 5], qz 10 (.load none (.tmp 9)) [0, 1, 2, 3, 4, 5], oz 11 (.call (.const (.fn (.func 68) [] [])) [.tmp 10]), qz 12 (.fieldAddr 3 (.tmp 1)) [0, 1, 2, 3, 4, 5, 6, 7, 8], qz 13 (.load none (.tmp 12)) [0, 1, 2, 3, 4, 5, 6, 7, 8]], [oz 14 (.call (.const (.fn (.func 68) [] [])) [.tmp 13])], [oz 15 (.build [.nilsl, .nilsl, .nilsl, .nilsl] [(0, 1, .tmp 5), (1, 1, .tmp 8), (2, 1, .tmp 11), (3, 1, .tmp 14)])], [⟨none, .store 4 (.tmp 2) (.tmp 15), none, []⟩]]
def k_ref02_Copy_r1 : List AOper := k_ref02_Copy_r1s.flatten
theorem k_ref02_Copy_r1_sg : segs k_ref02_Copy_r1 = k_ref02_Copy_r1s := by kernel_rfl
theorem k_ref02_Copy_r1_st : statOK k_ref02_Copy_r1 = true := by kernel_rfl
def k_ref02_Copy : AFun := { params := 1, ntmps := 16, body := (.seq (.reg k_ref02_Copy_r0 false) (.seq (.reg k_ref02_Copy_r1 true) .ret)), res := [.cell 2 (some ((some (4))))] }
theorem k_ref02_Copy_ok : cfun Try.prog Try.f26 = k_ref02_Copy := by kernel_rfl
def k_ref02_Inside_r0 : List AOper := [oz 2 (.box (.tmp 0)), oz 3 (.box (.tmp 1)), oz 4 (.move (.const (.bool false)))]
def k_ref02_Inside_r1 : List AOper := [oz 15 (.load (some (4)) (.tmp 2)), oz 16 (.call (.const (.fn (.func 28) [] [])) [.tmp 15]), oz 17 (.bin .plain .neq (.tmp 16) (.const (.int .i64 0))), mz 18 17, ⟨some 19, .load (some (4)) (.tmp 3), (some (18, false)), []⟩, ⟨some 20, .call (.const (.fn (.func 28) [] [])) [.tmp 19], (some (18, false)), []⟩, ⟨some 21, .bin .plain .neq (.tmp 20) (.const (.int .i64 0)), (some (18, false)), []⟩, oz 22 (.pick (.tmp 18) (.const (.bool true)) (.tmp 21))]
def k_ref02_Inside_r2 : List AOper := [oz 4 (.move (.const (.bool false)))]
def k_ref02_Inside_r3s : List (List AOper) := [[oz 23 (.fieldAddr 0 (.tmp 2)), oz 24 (.load none (.tmp 23)), qz 25 (.fieldAddr 0 (.tmp 3)) [0, 1], qz 26 (.load none (.tmp 25)) [0, 1], oz 27 (.call (.const (.fn (.func 92) [] [])) [.tmp 24, .tmp 26]), qz 28 (.fieldAddr 1 (.tmp 2)) [0, 1, 2, 3, 4], qz 29 (.load none (.tmp 28)) [0, 1, 2, 3, 4], qz 30 (.fieldAddr 1 (.tmp 3)) [0, 1, 2, 3, 4, 5, 6], qz 31 (.load none (.tmp 30)) [0, 1, 2, 3, 4, 5, 6]], [oz 32 (.call (.const (.fn (.func 92) [] [])) [.tmp 29, .tmp 31])], [mz 5 27], [mz 6 32]]
def k_ref02_Inside_r3 : List AOper := k_ref02_Inside_r3s.flatten
theorem k_ref02_Inside_r3_sg : segs k_ref02_Inside_r3 = k_ref02_Inside_r3s := by kernel_rfl
theorem k_ref02_Inside_r3_st : statOK k_ref02_Inside_r3 = true := by kernel_rfl
def k_ref02_Inside_r4 : List AOper := [oz 7 (.move (.const (.int .i64 0)))]
def k_ref02_Inside_r5 : List AOper := [mz 33 7, mz 34 5, oz 35 (.len false (.tmp 34)), oz 36 (.bin .plain .lss (.tmp 33) (.tmp 35))]
def k_ref02_Inside_r6 : List AOper := [oz 8 (.move (.const (.int .i64 0)))]
def k_ref02_Inside_r7 : List AOper := [mz 39 8, mz 40 6, oz 41 (.len false (.tmp 40)), oz 42 (.bin .plain .lss (.tmp 39) (.tmp 41))]
def k_ref02_Inside_r8s : List (List AOper) := [[oz 45 (.fieldAddr 0 (.tmp 2)), oz 46 (.load none (.tmp 45)), qz 47 (.move (.tmp 5)) [0, 1], qz 48 (.move (.tmp 7)) [0, 1, 2], qz 49 (.indexAddr 1 (.tmp 47) (.tmp 48)) [0, 1], qz 50 (.load none (.tmp 49)) [0, 1], oz 51 (.call (.const (.fn (.func 86) [] [])) [.tmp 46, .tmp 50]), qz 52 (.fieldAddr 1 (.tmp 2)) [0, 1, 2, 3, 4, 5, 6], qz 53 (.load none (.tmp 52)) [0, 1, 2, 3, 4, 5, 6], qz 54 (.move (.tmp 6)) [0, 1, 2, 3, 4, 5, 6, 7, 8], qz 55 (.move (.tmp 8)) [0, 1, 2, 3, 4, 5, 6, 7, 8, 9], qz 56 (.indexAddr 1 (.tmp 54) (.tmp 55)) [0, 1, 2, 3, 4, 5, 6, 7, 8], qz 57 (.load none (.tmp 56)) [0, 1, 2, 3, 4, 5, 6, 7, 8], oz 58 (.call (.const (.fn (.func 86) [] [])) [.tmp 53, .tmp 57]), qz 9 (.box (.const (.agg [.int .i64 0, .int .i64 0, .int .i64 0]))) [0, 1, 2, 3, 4, 5, 6, 7, 8, 9, 10, 11, 12, 13], qz 10 (.box (.const (.agg [.int .i64 0, .int .i64 0, .int .i64 0]))) [0, 1, 2, 3, 4, 5, 6, 7, 8, 9, 10, 11, 12, 13, 14]], [⟨none, .store 3 (.tmp 9) (.tmp 51), none, []⟩], [⟨none, .store 3 (.tmp 10) (.tmp 58), none, []⟩]]
def k_ref02_Inside_r8 : List AOper := k_ref02_Inside_r8s.flatten
theorem k_ref02_Inside_r8_sg : segs k_ref02_Inside_r8 = k_ref02_Inside_r8s := by kernel_rfl
theorem k_ref02_Inside_r8_st : statOK k_ref02_Inside_r8 = true := by kernel_rfl
def k_ref02_Inside_r9s : List (List AOper) := [[oz 59 (.fieldAddr 0 (.tmp 3)), oz 60 (.load none (.tmp 59)), qz 61 (.move (.tmp 5)) [0, 1], qz 62 (.move (.tmp 7)) [0, 1, 2], qz 63 (.indexAddr 1 (.tmp 61) (.tmp 62)) [0, 1], qz 64 (.load none (.tmp 63)) [0, 1], oz 65 (.call (.const (.fn (.func 86) [] [])) [.tmp 60, .tmp 64]), qz 66 (.fieldAddr 1 (.tmp 3)) [0, 1, 2, 3, 4, 5, 6], qz 67 (.load none (.tmp 66)) [0, 1, 2, 3, 4, 5, 6], qz 68 (.move (.tmp 6)) [0, 1, 2, 3, 4, 5, 6, 7, 8], qz 69 (.move (.tmp 8)) [0, 1, 2, 3, 4, 5, 6, 7, 8, 9], qz 70 (.indexAddr 1 (.tmp 68) (.tmp 69)) [0, 1, 2, 3, 4, 5, 6, 7, 8], qz 71 (.load none (.tmp 70)) [0, 1, 2, 3, 4, 5, 6, 7, 8], oz 72 (.call (.const (.fn (.func 86) [] [])) [.tmp 67, .tmp 71]), qz 11 (.box (.const (.agg [.int .i64 0, .int .i64 0, .int .i64 0]))) [0, 1, 2, 3, 4, 5, 6, 7, 8, 9, 10, 11, 12, 13], qz 12 (.box (.const (.agg [.int .i64 0, .int .i64 0, .int .i64 0]))) [0, 1, 2, 3, 4, 5, 6, 7, 8, 9, 10, 11, 12, 13, 14]], [⟨none, .store 3 (.tmp 11) (.tmp 65), none, []⟩], [⟨none, .store 3 (.tmp 12) (.tmp 72), none, []⟩]]
def k_ref02_Inside_r9 : List AOper := k_ref02_Inside_r9s.flatten
theorem k_ref02_Inside_r9_sg : segs k_ref02_Inside_r9 = k_ref02_Inside_r9s := by kernel_rfl
theorem k_ref02_Inside_r9_st : statOK k_ref02_Inside_r9 = true := by kernel_rfl
def k_ref02_Inside_r10s : List (List AOper) := [[oz 73 (.fieldAddr 2 (.tmp 9)), oz 74 (.load none (.tmp 73)), qz 75 (.fieldAddr 2 (.tmp 10)) [0, 1], qz 76 (.load none (.tmp 75)) [0, 1], oz 77 (.bin .plain .mul (.tmp 74) (.tmp 76)), qz 78 (.fieldAddr 2 (.tmp 11)) [0, 1, 2, 3, 4], qz 79 (.load none (.tmp 78)) [0, 1, 2, 3, 4], qz 80 (.fieldAddr 2 (.tmp 12)) [0, 1, 2, 3, 4, 5, 6], qz 81 (.load none (.tmp 80)) [0, 1, 2, 3, 4, 5, 6], qz 82 (.bin .plain .mul (.tmp 79) (.tmp 81)) [0, 1, 2, 3, 4], qz 13 (.move (.tmp 77)) [5, 6, 7, 8, 9]], [mz 14 82]]
def k_ref02_Inside_r10 : List AOper := k_ref02_Inside_r10s.flatten
theorem k_ref02_Inside_r10_sg : segs k_ref02_Inside_r10 = k_ref02_Inside_r10s := by kernel_rfl
theorem k_ref02_Inside_r10_st : statOK k_ref02_Inside_r10 = true := by kernel_rfl
def k_ref02_Inside_r11s : List (List AOper) := [[oz 83 (.fieldAddr 2 (.tmp 3)), oz 84 (.load none (.tmp 83)), qz 85 (.load (some (3)) (.tmp 11)) [0, 1], qz 86 (.load (some (3)) (.tmp 12)) [0, 1, 2], oz 87 (.call (.const (.fn (.func 88) [] [])) [.tmp 84, .tmp 85, .tmp 86]), qz 88 (.move (.tmp 13)) [0, 1, 2, 3, 4], oz 89 (.bin .plain .mul (.tmp 87) (.tmp 88)), qz 90 (.fieldAddr 2 (.tmp 2)) [0, 1, 2, 3, 4, 5, 6], qz 91 (.load none (.tmp 90)) [0, 1, 2, 3, 4, 5, 6], qz 92 (.load (some (3)) (.tmp 9)) [0, 1, 2, 3, 4, 5, 6, 7, 8], qz 93 (.load (some (3)) (.tmp 10)) [0, 1, 2, 3, 4, 5, 6, 7, 8, 9], qz 94 (.call (.const (.fn (.func 88) [] [])) [.tmp 91, .tmp 92, .tmp 93]) [5, 6], qz 95 (.move (.tmp 14)) [0, 1, 2, 3, 4, 5, 6, 7, 8, 9, 10, 11], qz 96 (.bin .plain .mul (.tmp 94) (.tmp 95)) [5, 6]], [oz 97 (.bin .plain .lss (.tmp 89) (.tmp 96))], [mz 98 97], [⟨some 99, .fieldAddr 3 (.tmp 3), (some (98, false)), []⟩, ⟨some 100, .load none (.tmp 99), (some (98, false)), []⟩, ⟨some 101, .load (some (3)) (.tmp 11), (some (98, false)), [16, 17]⟩, ⟨some 102, .load (some (3)) (.tmp 12), (some (98, false)), [16, 17, 18]⟩, ⟨some 103, .call (.const (.fn (.func 88) [] [])) [.tmp 100, .tmp 101, .tmp 102], (some (98, false)), []⟩, ⟨some 104, .move (.tmp 13), (some (98, false)), [16, 17, 18, 19, 20]⟩, ⟨some 105, .bin .plain .mul (.tmp 103) (.tmp 104), (some (98, false)), []⟩, ⟨some 106, .fieldAddr 3 (.tmp 2), (some (98, false)), [16, 17, 18, 19, 20, 21, 22]⟩, ⟨some 107, .load none (.tmp 106), (some (98, false)), [16, 17, 18, 19, 20, 21, 22]⟩, ⟨some 108, .load (some (3)) (.tmp 9), (some (98, false)), [16, 17, 18, 19, 20, 21, 22, 23, 24]⟩, ⟨some 109, .load (some (3)) (.tmp 10), (some (98, false)), [16, 17, 18, 19, 20, 21, 22, 23, 24, 25]⟩, ⟨some 110, .call (.const (.fn (.func 88) [] [])) [.tmp 107, .tmp 108, .tmp 109], (some (98, false)), [21, 22]⟩, ⟨some 111, .move (.tmp 14), (some (98, false)), [16, 17, 18, 19, 20, 21, 22, 23, 24, 25, 26, 27]⟩, ⟨some 112, .bin .plain .mul (.tmp 110) (.tmp 111), (some (98, false)), [21, 22]⟩], [⟨some 113, .bin .plain .gtr (.tmp 105) (.tmp 112), (some (98, false)), []⟩], [oz 114 (.pick (.tmp 98) (.const (.bool true)) (.tmp 113))]]
def k_ref02_Inside_r11 : List AOper := k_ref02_Inside_r11s.flatten
theorem k_ref02_Inside_r11_sg : segs k_ref02_Inside_r11 = k_ref02_Inside_r11s := by kernel_rfl
theorem k_ref02_Inside_r11_st : statOK k_ref02_Inside_r11 = true := by kernel_rfl
def k_ref02_Inside_r12 : List AOper := [oz 4 (.move (.const (.bool false)))]
def k_ref02_Inside_r13 : List AOper := [mz 43 8, oz 44 (.bin .plain .add (.tmp 43) (.const (.int .i64 1))), mz 8 44]
def k_ref02_Inside_r14 : ACode := (.seq (.seq (.reg k_ref02_Inside_r7 false) (.cond (.tmp 42) .skip (.exit 2))) (.seq (.block 3 (.seq (.reg k_ref02_Inside_r8 true) (.seq (.reg k_ref02_Inside_r9 true) (.seq (.reg k_ref02_Inside_r10 true) (.seq (.reg k_ref02_Inside_r11 true) (.cond (.tmp 114) (.seq (.reg k_ref02_Inside_r12 false) .ret) .skip)))))) (.reg k_ref02_Inside_r13 false)))
def k_ref02_Inside_r15 : List AOper := [mz 37 7, oz 38 (.bin .plain .add (.tmp 37) (.const (.int .i64 1))), mz 7 38]
def k_ref02_Inside_r16 : ACode := (.seq (.seq (.reg k_ref02_Inside_r5 false) (.cond (.tmp 36) .skip (.exit 0))) (.seq (.block 1 (.seq (.reg k_ref02_Inside_r6 false) (.block 2 (.loop k_ref02_Inside_r14)))) (.reg k_ref02_Inside_r15 false)))
def k_ref02_Inside_r17 : List AOper := [oz 4 (.move (.const (.bool true)))]
def k_ref02_Inside : AFun := { params := 2, ntmps := 115, body := (.seq (.reg k_ref02_Inside_r0 false) (.seq (.seq (.reg k_ref02_Inside_r1 false) (.cond (.tmp 22) (.seq (.reg k_ref02_Inside_r2 false) .ret) .skip)) (.seq (.reg k_ref02_Inside_r3 true) (.seq (.seq (.reg k_ref02_Inside_r4 false) (.block 0 (.loop k_ref02_Inside_r16))) (.seq (.reg k_ref02_Inside_r17 false) .ret))))), res := [.tmp 4] }
theorem k_ref02_Inside_ok : cfun Try.prog Try.f38 = k_ref02_Inside := by kernel_rfl
def k_ref02_Hull_r0 : List AOper := [oz 2 (.box (.const (.agg [.nilsl, .nilsl, .nilsl, .nilsl]))), oz 3 (.move (.const (.int .i64 0)))]
def k_ref02_Hull_r1 : List AOper := [mz 10 0, oz 11 (.len false (.tmp 10)), oz 12 (.bin .plain .eql (.tmp 11) (.const (.int .i64 0)))]
def k_ref02_Hull_r2 : List AOper := [oz 13 (.build [.nilsl, .nilsl, .nilsl, .nilsl] []), ⟨none, .store 4 (.tmp 2) (.tmp 13), none, []⟩, oz 3 (.move (.const (.int .i64 6)))]
def k_ref02_Hull_r3 : List AOper := [mz 14 0, oz 15 (.len false (.tmp 14)), oz 16 (.bin .plain .gtr (.tmp 15) (.const (.int .i64 40)))]
def k_ref02_Hull_r4 : List AOper := [oz 17 (.build [.nilsl, .nilsl, .nilsl, .nilsl] []), ⟨none, .store 4 (.tmp 2) (.tmp 17), none, []⟩, oz 3 (.move (.const (.int .i64 8)))]
def k_ref02_Hull_r5 : List AOper := [oz 4 (.move (.const (.int .i64 0)))]
def k_ref02_Hull_r6 : List AOper := [mz 18 4, mz 19 0, oz 20 (.len false (.tmp 19)), oz 21 (.bin .plain .lss (.tmp 18) (.tmp 20))]
def k_ref02_Hull_r7 : List AOper := [mz 24 0, mz 25 4, oz 26 (.indexAddr 4 (.tmp 24) (.tmp 25)), oz 27 (.load (some (4)) (.tmp 26)), oz 28 (.call (.const (.fn (.func 28) [] [])) [.tmp 27]), mz 5 28]
def k_ref02_Hull_r8 : List AOper := [mz 29 5, oz 30 (.bin .plain .neq (.tmp 29) (.const (.int .i64 0)))]
def k_ref02_Hull_r9 : List AOper := [oz 31 (.build [.nilsl, .nilsl, .nilsl, .nilsl] []), mz 32 5, ⟨none, .store 4 (.tmp 2) (.tmp 31), none, []⟩, mz 3 32]
def k_ref02_Hull_r10s : List (List AOper) := [[mz 33 0, qz 34 (.move (.tmp 4)) [0], oz 35 (.indexAddr 4 (.tmp 33) (.tmp 34)), oz 36 (.fieldAddr 0 (.tmp 35)), oz 37 (.load none (.tmp 36)), qz 38 (.move (.tmp 0)) [0, 1, 2, 3, 4], qz 39 (.indexAddr 4 (.tmp 38) (.const (.int .i64 0))) [0, 1, 2, 3, 4], qz 40 (.fieldAddr 0 (.tmp 39)) [0, 1, 2, 3, 4], qz 41 (.load none (.tmp 40)) [0, 1, 2, 3, 4]], [oz 42 (.call (.const (.fn (.func 77) [] [])) [.tmp 37, .tmp 41])], [oz 43 (.not (.tmp 42))], [mz 44 43], [⟨some 45, .move (.tmp 0), (some (44, false)), []⟩, ⟨some 46, .move (.tmp 4), (some (44, false)), [12]⟩, ⟨some 47, .indexAddr 4 (.tmp 45) (.tmp 46), (some (44, false)), []⟩, ⟨some 48, .fieldAddr 1 (.tmp 47), (some (44, false)), []⟩, ⟨some 49, .load none (.tmp 48), (some (44, false)), []⟩, ⟨some 50, .move (.tmp 0), (some (44, false)), [12, 13, 14, 15, 16]⟩, ⟨some 51, .indexAddr 4 (.tmp 50) (.const (.int .i64 0)), (some (44, false)), [12, 13, 14, 15, 16]⟩, ⟨some 52, .fieldAddr 1 (.tmp 51), (some (44, false)), [12, 13, 14, 15, 16]⟩, ⟨some 53, .load none (.tmp 52), (some (44, false)), [12, 13, 14, 15, 16]⟩], [⟨some 54, .call (.const (.fn (.func 77) [] [])) [.tmp 49, .tmp 53], (some (44, false)), []⟩], [⟨some 55, .not (.tmp 54), (some (44, false)), []⟩], [oz 56 (.pick (.tmp 44) (.const (.bool true)) (.tmp 55))]]
def k_ref02_Hull_r10 : List AOper := k_ref02_Hull_r10s.flatten
theorem k_ref02_Hull_r10_sg : segs k_ref02_Hull_r10 = k_ref02_Hull_r10s := by kernel_rfl
theorem k_ref02_Hull_r10_st : statOK k_ref02_Hull_r10 = true := by kernel_rfl
def k_ref02_Hull_r11 : List AOper := [oz 57 (.build [.nilsl, .nilsl, .nilsl, .nilsl] []), ⟨none, .store 4 (.tmp 2) (.tmp 57), none, []⟩, oz 3 (.move (.const (.int .i64 3)))]
def k_ref02_Hull_r12 : List AOper := [mz 22 4, oz 23 (.bin .plain .add (.tmp 22) (.const (.int .i64 1))), mz 4 23]
def k_ref02_Hull_r13 : ACode := (.seq (.seq (.reg k_ref02_Hull_r6 false) (.cond (.tmp 21) .skip (.exit 0))) (.seq (.block 1 (.seq (.seq (.reg k_ref02_Hull_r7 false) (.seq (.reg k_ref02_Hull_r8 false) (.cond (.tmp 30) (.seq (.reg k_ref02_Hull_r9 false) .ret) .skip))) (.seq (.reg k_ref02_Hull_r10 true) (.cond (.tmp 56) (.seq (.reg k_ref02_Hull_r11 false) .ret) .skip)))) (.reg k_ref02_Hull_r12 false)))
def k_ref02_Hull_r14 : List AOper := [mz 58 0, oz 59 (.indexAddr 4 (.tmp 58) (.const (.int .i64 0))), oz 60 (.load (some (4)) (.tmp 59)), oz 61 (.call (.const (.fn (.func 26) [] [])) [.tmp 60]), oz 6 (.box (.const (.agg [.nilsl, .nilsl, .nilsl, .nilsl]))), ⟨none, .store 4 (.tmp 6) (.tmp 61), none, []⟩]
def k_ref02_Hull_r15 : List AOper := [oz 7 (.move (.const (.int .i64 1)))]
def k_ref02_Hull_r16 : List AOper := [mz 62 7, mz 63 0, oz 64 (.len false (.tmp 63)), oz 65 (.bin .plain .lss (.tmp 62) (.tmp 64))]
def k_ref02_Hull_r17 : List AOper := [oz 8 (.move (.const (.int .i64 0)))]
def k_ref02_Hull_r18 : List AOper := [mz 68 8, oz 69 (.fieldAddr 0 (.tmp 6)), oz 70 (.load none (.tmp 69)), oz 71 (.len false (.tmp 70)), oz 72 (.bin .plain .lss (.tmp 68) (.tmp 71))]
def k_ref02_Hull_r19 : List AOper := [oz 9 (.move (.const (.int .i64 0)))]
def k_ref02_Hull_r20 : List AOper := [mz 75 9, oz 76 (.fieldAddr 1 (.tmp 6)), oz 77 (.load none (.tmp 76)), oz 78 (.len false (.tmp 77)), oz 79 (.bin .plain .lss (.tmp 75) (.tmp 78))]
def k_ref02_Hull_r21s : List (List AOper) := [[oz 82 (.fieldAddr 2 (.tmp 6)), oz 83 (.load none (.tmp 82)), qz 84 (.move (.tmp 8)) [0, 1], oz 85 (.indexAddr 1 (.tmp 83) (.tmp 84)), oz 86 (.load none (.tmp 85)), qz 87 (.move (.tmp 9)) [0, 1, 2, 3, 4], qz 88 (.fieldAddr 2 (.tmp 6)) [0, 1, 2, 3, 4, 5], qz 89 (.load none (.tmp 88)) [0, 1, 2, 3, 4, 5], qz 90 (.move (.tmp 8)) [0, 1, 2, 3, 4, 5, 6, 7], qz 91 (.indexAddr 1 (.tmp 89) (.tmp 90)) [0, 1, 2, 3, 4, 5], qz 92 (.load none (.tmp 91)) [0, 1, 2, 3, 4, 5], qz 93 (.move (.tmp 9)) [0, 1, 2, 3, 4, 5, 6, 7, 8, 9, 10], qz 94 (.indexAddr 1 (.tmp 92) (.tmp 93)) [0, 1, 2, 3, 4, 5], qz 95 (.load none (.tmp 94)) [0, 1, 2, 3, 4, 5], qz 96 (.move (.tmp 0)) [0, 1, 2, 3, 4, 5, 6, 7, 8, 9, 10, 11, 12, 13], qz 97 (.move (.tmp 7)) [0, 1, 2, 3, 4, 5, 6, 7, 8, 9, 10, 11, 12, 13, 14], qz 98 (.indexAddr 4 (.tmp 96) (.tmp 97)) [0, 1, 2, 3, 4, 5, 6, 7, 8, 9, 10, 11, 12, 13], qz 99 (.fieldAddr 2 (.tmp 98)) [0, 1, 2, 3, 4, 5, 6, 7, 8, 9, 10, 11, 12, 13], qz 100 (.load none (.tmp 99)) [0, 1, 2, 3, 4, 5, 6, 7, 8, 9, 10, 11, 12, 13], qz 101 (.move (.tmp 8)) [0, 1, 2, 3, 4, 5, 6, 7, 8, 9, 10, 11, 12, 13, 14, 15, 16, 17, 18], qz 102 (.indexAddr 1 (.tmp 100) (.tmp 101)) [0, 1, 2, 3, 4, 5, 6, 7, 8, 9, 10, 11, 12, 13], qz 103 (.load none (.tmp 102)) [0, 1, 2, 3, 4, 5, 6, 7, 8, 9, 10, 11, 12, 13], qz 104 (.move (.tmp 9)) [0, 1, 2, 3, 4, 5, 6, 7, 8, 9, 10, 11, 12, 13, 14, 15, 16, 17, 18, 19, 20, 21], qz 105 (.indexAddr 1 (.tmp 103) (.tmp 104)) [0, 1, 2, 3, 4, 5, 6, 7, 8, 9, 10, 11, 12, 13], qz 106 (.load none (.tmp 105)) [0, 1, 2, 3, 4, 5, 6, 7, 8, 9, 10, 11, 12, 13], qz 107 (.minmax false [.tmp 95, .tmp 106]) [0, 1, 2, 3, 4, 5]], [oz 108 (.indexAddr 1 (.tmp 86) (.tmp 87))], [⟨none, .store 1 (.tmp 108) (.tmp 107), none, []⟩]]
def k_ref02_Hull_r21 : List AOper := k_ref02_Hull_r21s.flatten
theorem k_ref02_Hull_r21_sg : segs k_ref02_Hull_r21 = k_ref02_Hull_r21s := by kernel_rfl
theorem k_ref02_Hull_r21_st : statOK k_ref02_Hull_r21 = true := by kernel_rfl
def k_ref02_Hull_r22s : List (List AOper) := [[oz 109 (.fieldAddr 3 (.tmp 6)), oz 110 (.load none (.tmp 109)), qz 111 (.move (.tmp 8)) [0, 1], oz 112 (.indexAddr 1 (.tmp 110) (.tmp 111)), oz 113 (.load none (.tmp 112)), qz 114 (.move (.tmp 9)) [0, 1, 2, 3, 4], qz 115 (.fieldAddr 3 (.tmp 6)) [0, 1, 2, 3, 4, 5], qz 116 (.load none (.tmp 115)) [0, 1, 2, 3, 4, 5], qz 117 (.move (.tmp 8)) [0, 1, 2, 3, 4, 5, 6, 7], qz 118 (.indexAddr 1 (.tmp 116) (.tmp 117)) [0, 1, 2, 3, 4, 5], qz 119 (.load none (.tmp 118)) [0, 1, 2, 3, 4, 5], qz 120 (.move (.tmp 9)) [0, 1, 2, 3, 4, 5, 6, 7, 8, 9, 10], qz 121 (.indexAddr 1 (.tmp 119) (.tmp 120)) [0, 1, 2, 3, 4, 5], qz 122 (.load none (.tmp 121)) [0, 1, 2, 3, 4, 5], qz 123 (.move (.tmp 0)) [0, 1, 2, 3, 4, 5, 6, 7, 8, 9, 10, 11, 12, 13], qz 124 (.move (.tmp 7)) [0, 1, 2, 3, 4, 5, 6, 7, 8, 9, 10, 11, 12, 13, 14], qz 125 (.indexAddr 4 (.tmp 123) (.tmp 124)) [0, 1, 2, 3, 4, 5, 6, 7, 8, 9, 10, 11, 12, 13], qz 126 (.fieldAddr 3 (.tmp 125)) [0, 1, 2, 3, 4, 5, 6, 7, 8, 9, 10, 11, 12, 13], qz 127 (.load none (.tmp 126)) [0, 1, 2, 3, 4, 5, 6, 7, 8, 9, 10, 11, 12, 13], qz 128 (.move (.tmp 8)) [0, 1, 2, 3, 4, 5, 6, 7, 8, 9, 10, 11, 12, 13, 14, 15, 16, 17, 18], qz 129 (.indexAddr 1 (.tmp 127) (.tmp 128)) [0, 1, 2, 3, 4, 5, 6, 7, 8, 9, 10, 11, 12, 13], qz 130 (.load none (.tmp 129)) [0, 1, 2, 3, 4, 5, 6, 7, 8, 9, 10, 11, 12, 13], qz 131 (.move (.tmp 9)) [0, 1, 2, 3, 4, 5, 6, 7, 8, 9, 10, 11, 12, 13, 14, 15, 16, 17, 18, 19, 20, 21], qz 132 (.indexAddr 1 (.tmp 130) (.tmp 131)) [0, 1, 2, 3, 4, 5, 6, 7, 8, 9, 10, 11, 12, 13], qz 133 (.load none (.tmp 132)) [0, 1, 2, 3, 4, 5, 6, 7, 8, 9, 10, 11, 12, 13], qz 134 (.minmax true [.tmp 122, .tmp 133]) [0, 1, 2, 3, 4, 5]], [oz 135 (.indexAddr 1 (.tmp 113) (.tmp 114))], [⟨none, .store 1 (.tmp 135) (.tmp 134), none, []⟩]]
def k_ref02_Hull_r22 : List AOper := k_ref02_Hull_r22s.flatten
theorem k_ref02_Hull_r22_sg : segs k_ref02_Hull_r22 = k_ref02_Hull_r22s := by kernel_rfl
theorem k_ref02_Hull_r22_st : statOK k_ref02_Hull_r22 = true := by kernel_rfl
def k_ref02_Hull_r23 : List AOper := [mz 80 9, oz 81 (.bin .plain .add (.tmp 80) (.const (.int .i64 1))), mz 9 81]
def k_ref02_Hull_r24 : ACode := (.seq (.seq (.reg k_ref02_Hull_r20 false) (.cond (.tmp 79) .skip (.exit 6))) (.seq (.block 7 (.seq (.reg k_ref02_Hull_r21 true) (.reg k_ref02_Hull_r22 true))) (.reg k_ref02_Hull_r23 false)))
def k_ref02_Hull_r25 : List AOper := [mz 73 8, oz 74 (.bin .plain .add (.tmp 73) (.const (.int .i64 1))), mz 8 74]
def k_ref02_Hull_r26 : ACode := (.seq (.seq (.reg k_ref02_Hull_r18 false) (.cond (.tmp 72) .skip (.exit 4))) (.seq (.block 5 (.seq (.reg k_ref02_Hull_r19 false) (.block 6 (.loop k_ref02_Hull_r24)))) (.reg k_ref02_Hull_r25 false)))
def k_ref02_Hull_r27 : List AOper := [mz 66 7, oz 67 (.bin .plain .add (.tmp 66) (.const (.int .i64 1))), mz 7 67]
def k_ref02_Hull_r28 : ACode := (.seq (.seq (.reg k_ref02_Hull_r16 false) (.cond (.tmp 65) .skip (.exit 2))) (.seq (.block 3 (.seq (.reg k_ref02_Hull_r17 false) (.block 4 (.loop k_ref02_Hull_r26)))) (.reg k_ref02_Hull_r27 false)))
def k_ref02_Hull_r29 : List AOper := [oz 136 (.load (some (4)) (.tmp 6)), ⟨none, .store 4 (.tmp 2) (.tmp 136), none, []⟩, oz 3 (.move (.const (.int .i64 0)))]
def k_ref02_Hull : AFun := { params := 1, ntmps := 137, body := (.seq (.reg k_ref02_Hull_r0 false) (.seq (.seq (.reg k_ref02_Hull_r1 false) (.cond (.tmp 12) (.seq (.reg k_ref02_Hull_r2 false) .ret) .skip)) (.seq (.seq (.reg k_ref02_Hull_r3 false) (.cond (.tmp 16) (.seq (.reg k_ref02_Hull_r4 false) .ret) .skip)) (.seq (.seq (.reg k_ref02_Hull_r5 false) (.block 0 (.loop k_ref02_Hull_r13))) (.seq (.reg k_ref02_Hull_r14 false) (.seq (.seq (.reg k_ref02_Hull_r15 false) (.block 2 (.loop k_ref02_Hull_r28))) (.seq (.reg k_ref02_Hull_r29 false) .ret))))))), res := [.cell 2 (some ((some (4)))), .tmp 3] }
theorem k_ref02_Hull_ok : cfun Try.prog Try.f40 = k_ref02_Hull := by kernel_rfl
def k_ref02_table_r0 : List AOper := [oz 2 (.move (.const (.nilsl)))]
def k_ref02_table_r1 : List AOper := [oz 3 (.move (.const (.nilsl)))]
def k_ref02_table_r2 : List AOper := [oz 4 (.move (.const (.int .i64 0)))]
def k_ref02_table_r3 : List AOper := [mz 5 4, mz 6 0, oz 7 (.len false (.tmp 6)), oz 8 (.bin .plain .lss (.tmp 5) (.tmp 7))]
def k_ref02_table_r4 : List AOper := [mz 11 3, mz 12 0, mz 13 4, oz 14 (.indexAddr 1 (.tmp 12) (.tmp 13)), oz 15 (.load none (.tmp 14)), oz 16 (.call (.const (.fn (.func 67) [] [])) [.tmp 15]), oz 17 (.buildSlice 1 [.tmp 16]), oz 18 (.append 1 24 false (.tmp 11) (.tmp 17)), mz 3 18]
def k_ref02_table_r5 : List AOper := [mz 9 4, oz 10 (.bin .plain .add (.tmp 9) (.const (.int .i64 1))), mz 4 10]
def k_ref02_table_r6 : ACode := (.seq (.seq (.reg k_ref02_table_r3 false) (.cond (.tmp 8) .skip (.exit 0))) (.seq (.block 1 (.reg k_ref02_table_r4 false)) (.reg k_ref02_table_r5 false)))
def k_ref02_table_r7 : List AOper := [mz 19 3, mz 2 19]
def k_ref02_table : AFun := { params := 1, ntmps := 20, body := (.seq (.reg k_ref02_table_r0 false) (.seq (.reg k_ref02_table_r1 false) (.seq (.seq (.reg k_ref02_table_r2 false) (.block 0 (.loop k_ref02_table_r6))) (.seq (.reg k_ref02_table_r7 false) .ret)))), res := [.tmp 2] }
theorem k_ref02_table_ok : cfun Try.prog Try.f68 = k_ref02_table := by kernel_rfl
def k_ref02_both_r0 : List AOper := [oz 4 (.move (.const (.nilsl)))]
def k_ref02_both_r1 : List AOper := [mz 5 0, oz 6 (.call (.const (.fn (.func 67) [] [])) [.tmp 5]), mz 7 1, oz 8 (.append 1 8 false (.tmp 6) (.tmp 7)), mz 4 8]
def k_ref02_both : AFun := { params := 2, ntmps := 9, body := (.seq (.reg k_ref02_both_r0 false) (.seq (.reg k_ref02_both_r1 false) .ret)), res := [.tmp 4] }
theorem k_ref02_both_ok : cfun Try.prog Try.f92 = k_ref02_both := by kernel_rfl
abbrev n_ref02_Copy : Nat := 26
theorem e_ref02_Copy : EntryOK Try.prog n_ref02_Copy k_ref02_Copy := ⟨Try.f26, Try.func26, k_ref02_Copy_ok, by kernel_rfl⟩
abbrev n_ref02_Inside : Nat := 38
theorem e_ref02_Inside : EntryOK Try.prog n_ref02_Inside k_ref02_Inside := ⟨Try.f38, Try.func38, k_ref02_Inside_ok, by kernel_rfl⟩
abbrev n_ref02_Hull : Nat := 40
theorem e_ref02_Hull : EntryOK Try.prog n_ref02_Hull k_ref02_Hull := ⟨Try.f40, Try.func40, k_ref02_Hull_ok, by kernel_rfl⟩
abbrev n_ref02_table : Nat := 68
theorem e_ref02_table : EntryOK Try.prog n_ref02_table k_ref02_table := ⟨Try.f68, Try.func68, k_ref02_table_ok, by kernel_rfl⟩
abbrev n_ref02_both : Nat := 92
theorem e_ref02_both : EntryOK Try.prog n_ref02_both k_ref02_both := ⟨Try.f92, Try.func92, k_ref02_both_ok, by kernel_rfl⟩
attribute [go_sem] k_ref02_Copy_r0 k_ref02_Copy_r1s k_ref02_Inside_r0 k_ref02_Inside_r1 k_ref02_Inside_r2 k_ref02_Inside_r3s k_ref02_Inside_r4 k_ref02_Inside_r5 k_ref02_Inside_r6 k_ref02_Inside_r7 k_ref02_Inside_r8s k_ref02_Inside_r9s
attribute [go_sem] k_ref02_Inside_r10s k_ref02_Inside_r11s k_ref02_Inside_r12 k_ref02_Inside_r13 k_ref02_Inside_r15 k_ref02_Inside_r17 k_ref02_Hull_r0 k_ref02_Hull_r1 k_ref02_Hull_r2 k_ref02_Hull_r3 k_ref02_Hull_r4 k_ref02_Hull_r5
attribute [go_sem] k_ref02_Hull_r6 k_ref02_Hull_r7 k_ref02_Hull_r8 k_ref02_Hull_r9 k_ref02_Hull_r10s k_ref02_Hull_r11 k_ref02_Hull_r12 k_ref02_Hull_r14 k_ref02_Hull_r15 k_ref02_Hull_r16 k_ref02_Hull_r17 k_ref02_Hull_r18
attribute [go_sem] k_ref02_Hull_r19 k_ref02_Hull_r20 k_ref02_Hull_r21s k_ref02_Hull_r22s k_ref02_Hull_r23 k_ref02_Hull_r25 k_ref02_Hull_r27 k_ref02_Hull_r29 k_ref02_table_r0 k_ref02_table_r1 k_ref02_table_r2 k_ref02_table_r3
attribute [go_sem] k_ref02_table_r4 k_ref02_table_r5 k_ref02_table_r7 k_ref02_both_r0 k_ref02_both_r1 k_ref02_Hull_r10_sg k_ref02_Hull_r22_sg k_ref02_Copy_r1_sg k_ref02_Inside_r8_sg k_ref02_Inside_r11_sg k_ref02_Inside_r10_sg k_ref02_Hull_r21_sg
attribute [go_sem] k_ref02_Inside_r3_sg k_ref02_Inside_r9_sg k_ref02_Hull_r10_st k_ref02_Hull_r22_st k_ref02_Copy_r1_st k_ref02_Inside_r8_st k_ref02_Inside_r11_st k_ref02_Inside_r10_st k_ref02_Hull_r21_st k_ref02_Inside_r3_st k_ref02_Inside_r9_st k_ref02_Copy
attribute [go_sem] k_ref02_Inside k_ref02_Hull k_ref02_table k_ref02_both
end Go.Proofs
namespace Go.Proofs
open Go Go.Sx
end Go.Proofs
namespace Go.Proofs
open Go Go.Sx Go.Fam
attribute [local irreducible] Run
end Go.Proofs
namespace Go.Sx
open Go
theorem All3.upd {R : List Nat -> AVal -> AVal -> Prop} : ∀ {ι : List Nat} {vs es : List AVal} (i : Nat) (e : AVal), All3 R ι vs es -> es[i]? = some e ->
    ∃ κ v, vs[i]? = some v /\ (∀ r ∈ κ, r ∈ ι) /\ R κ v e /\ ∀ (R' : List Nat -> AVal -> AVal -> Prop) (e' : AVal), (∀ κ' v' e'', (∀ r ∈ κ', r ∈ ι) -> (∀ r ∈ κ', r ∉ κ) -> R κ' v' e'' -> R' κ' v' e'') -> R' κ v e' -> ι.Nodup -> All3 R' ι vs (es.set i e')
  | _, v :: vs, e' :: es, 0, e, ⟨κ1, κ2, h1, h2, h3⟩, he => by
    simp at he; subst he; subst h1
    refine ⟨κ1, v, rfl, fun r hr => List.mem_append_left _ hr, h2, fun R' e'' hR hv hn => ⟨κ1, κ2, rfl, hv, h3.mono fun κ' v' e'' hs _ h => hR κ' v' e'' (fun r hr => List.mem_append_right _ (hs r hr)) (fun r hr h1 => ?_) h⟩⟩
    exact (List.nodup_append.1 hn).2.2 r h1 r (hs r hr) rfl
  | _, v :: vs, e' :: es, i + 1, e, ⟨κ1, κ2, h1, h2, h3⟩, he => by
    obtain ⟨κ, u, k1, k2, k3, k4⟩ := h3.upd i e (by simpa using he)
    subst h1
    refine ⟨κ, u, by simpa using k1, fun r hr => List.mem_append_right _ (k2 r hr), k3, fun R' e'' hR hv hn => ⟨κ1, κ2, rfl, ?_, k4 R' e'' (fun κ' v' e3 hs => hR κ' v' e3 fun r hr => List.mem_append_right _ (hs r hr)) hv (List.nodup_append.1 hn).2.1⟩⟩
    exact hR _ _ _ (fun r hr => List.mem_append_left _ hr) (fun r hr h1 => (List.nodup_append.1 hn).2.2 r hr r (k2 r h1) rfl) h2
  | _, [], [], i, e, _, he => by simp at he
  | _, [], _ :: _, _, _, h, _ => h.elim
  | _, _ :: _, [], _, _, h, _ => h.elim
end Go.Sx
namespace Go.Proofs
open Go Go.Sx Go.Fam
theorem tw_upd {J : Heap} {κ : List Nat} {v : AVal} {L : List (List Int)} {i : Nat} {lo : List Int} (h : Dat 5 J κ v (tw L)) (hi : L[i]? = some lo) (hn : κ.Nodup) : ∃ r vs q, v = .sl r 0 L.length /\ J[r]? = some (some (.cells true 1 vs)) /\ vs.length = L.length /\ vs[i]? = some (.sl q 0 lo.length) /\ r ∈ κ /\ q ∈ κ /\ J[q]? = some (some (.cells true 1 (ivL lo))) /\
    ∀ (J' : Heap) (lo' : List Int), lo' ≠ [] -> lo'.length = lo.length -> (∀ a ∈ κ, a ≠ q -> J'[a]? = J[a]?) -> J'[q]? = some (some (.cells true 1 (ivL lo'))) -> Dat 5 J' κ v (tw (L.set i lo')) := by
  have L0 : L ≠ [] := by rintro rfl; simp at hi
  have h' : Dat 5 J κ v (tbC L) := by unfold tbC; rwa [if_neg L0]
  obtain ⟨r, vs, κ', e, k, g, a⟩ := tb_get h' L0
  subst e; subst k
  have al := a.len
  simp only [List.length_map] at al
  obtain ⟨κ1, u, u1, u2, u3, u4⟩ := a.upd i (vw lo) (by rw [List.getElem?_map, hi]; rfl)
  obtain ⟨lo0, q, e1, k1, gq⟩ := vw_get u3
  subst e1; subst k1
  have nd := List.nodup_append.1 hn
  have hq : q ∈ κ' := u2 q (by simp)
  have hqr : r ≠ q := fun e => nd.2.2 q hq r (by simp) e.symm
  refine ⟨r, vs, q, rfl, g, al, u1, by simp, List.mem_append_left _ hq, gq, fun J' lo' l0 hl hJ hq' => ?_⟩
  have hs : L.set i lo' ≠ [] := by intro e; have := congrArg List.length e; simp at this; exact L0 this
  have := tb_put (d := 4) (n := L.length) hs (by simp) (by rw [hJ r (by simp) hqr]; exact g) (by rw [List.map_set]; exact u4 (Dat 4 J') (vw lo') (fun κ2 v2 e2 m1 m2 hd => hd.congr fun b hb => hJ b (List.mem_append_left _ (m1 b hb)) (by rintro rfl; exact m2 _ hb (by simp))) (vw_put l0 hl.symm hq') nd.1)
  unfold tbC at this
  rwa [if_neg hs] at this
theorem fam_upd {J : Heap} {ι : List Nat} {g p : List Int} {L U : List (List Int)} {v0 v1 v2 v3 : AVal} {i : Nat} {lo hi : List Int} (h : Dat 6 J ι (.agg [v0, v1, v2, v3]) (Fv ⟨g, p, L, U⟩)) (hn : ι.Nodup) (hL : L[i]? = some lo) (hU : U[i]? = some hi) :
    ∃ r s vs us q t, v2 = .sl r 0 L.length /\ v3 = .sl s 0 U.length /\ J[r]? = some (some (.cells true 1 vs)) /\ J[s]? = some (some (.cells true 1 us)) /\ vs.length = L.length /\ us.length = U.length /\ vs[i]? = some (.sl q 0 lo.length) /\ us[i]? = some (.sl t 0 hi.length) /\
      J[q]? = some (some (.cells true 1 (ivL lo))) /\ J[t]? = some (some (.cells true 1 (ivL hi))) /\ q ∈ ι /\ t ∈ ι /\ q ≠ t /\
      ∀ (J' : Heap) (lo' hi' : List Int), lo' ≠ [] -> hi' ≠ [] -> lo'.length = lo.length -> hi'.length = hi.length -> (∀ a ∈ ι, a ≠ q -> a ≠ t -> J'[a]? = J[a]?) -> J'[q]? = some (some (.cells true 1 (ivL lo'))) -> J'[t]? = some (some (.cells true 1 (ivL hi'))) ->
        Dat 6 J' ι (.agg [v0, v1, v2, v3]) (Fv ⟨g, p, L.set i lo', U.set i hi'⟩) := by
  obtain ⟨xs, ex, hx⟩ := h
  cases ex
  obtain ⟨κ0, κa, e0, d0, hx⟩ := (show All3 (Dat 5 J) ι [v0, v1, v2, v3] [vw g, vw p, tw L, tw U] from hx)
  obtain ⟨κ1, κb, e1, d1, hx⟩ := hx
  obtain ⟨κ2, κc, e2, d2, hx⟩ := hx
  obtain ⟨κ3, κd, e3, d3, hx⟩ := hx
  obtain rfl : κd = [] := hx
  subst e3; subst e2; subst e1; subst e0
  have n0 := List.nodup_append.1 hn
  have n1 := List.nodup_append.1 n0.2.1
  have n2 := List.nodup_append.1 n1.2.1
  have n3 := List.nodup_append.1 n2.2.1
  obtain ⟨r, vs, q, rfl, gr, lv, gi, hr, hq, gq, up2⟩ := tw_upd d2 hL n2.1
  obtain ⟨s, us, t, rfl, gs, lu, gj, hs, ht, gt, up3⟩ := tw_upd d3 hU n3.1
  have hqt : q ≠ t := fun e => n2.2.2 q hq t (List.mem_append_left _ ht) e
  refine ⟨r, s, vs, us, q, t, rfl, rfl, gr, gs, lv, lu, gi, gj, gq, gt, by simp [hq], by simp [ht], hqt, fun J' lo' hi' l0 h0 ll hl hJ h1 h2 => ?_⟩
  have c0 : ∀ a ∈ κ0, a ≠ q /\ a ≠ t := fun a ha => ⟨n0.2.2 a ha q (by simp [hq]), n0.2.2 a ha t (by simp [ht])⟩
  have c1 : ∀ a ∈ κ1, a ≠ q /\ a ≠ t := fun a ha => ⟨n1.2.2 a ha q (by simp [hq]), n1.2.2 a ha t (by simp [ht])⟩
  have c2 : ∀ a ∈ κ2, a ≠ t := fun a ha => n2.2.2 a ha t (by simp [ht])
  have c3 : ∀ a ∈ κ3, a ≠ q := fun a ha e => n2.2.2 q hq a (by simp [ha]) e.symm
  exact ⟨_, rfl, κ0, _, rfl, d0.congr fun a ha => hJ a (by simp [ha]) (c0 a ha).1 (c0 a ha).2, κ1, _, rfl, d1.congr fun a ha => hJ a (by simp [ha]) (c1 a ha).1 (c1 a ha).2,
    κ2, _, rfl, up2 J' lo' l0 ll (fun a ha n => hJ a (by simp [ha]) n (c2 a ha)) h1, κ3, [], rfl, up3 J' hi' h0 hl (fun a ha n => hJ a (by simp [ha]) (c3 a ha) n) h2, rfl⟩
end Go.Proofs
namespace Go.Proofs
open Go Go.Sx Go.Fam
attribute [local irreducible] Run
theorem ivL_set (l : List Int) (k : Nat) (x : Int) : (ivL l).set k (.int .i64 x) = ivL (l.set k x) := by unfold ivL; rw [List.map_set]
end Go.Proofs
namespace Go.Sx
open Go
section
variable {P : Program} {g : FuncId} {c : AVal} {d : Nat} {G : Ctx} {H : Heap} {k : Nat} {rd : Option Nat} {R : Runner} {l : List AOper} {fs : List Frame} {ρ : List AVal} {ms : List Nat} {Q : Goal} {dst : Option Nat}
  {ao : AOper} {lo hi : Nat} {tr : List (List Nat × List Nat)} {ss : List (List AOper)} {args ys : List AVal}
theorem dFD (h : Ans P g ys [] (thaw d 0 c).1 (thaw d 0 c).2) (hp : Pure d c) (e : Nat) (deps : List Nat) (hys : Sx.lss (args.map (frz e (H.onlyR deps))) ys)
    (hK : R (.grp lo l (tr ++ [(deps, upFrom H.length (thaw d H.length c).2.length)]) hi ss) fs ⟨setD ρ ao.dst (thaw d H.length c).1, H ++ (thaw d H.length c).2, ms⟩ Q)
    (hms : ∀ q ∈ ms, q < H.length := by simp) (hd : dynOK ao.free deps (upFrom H.length (thaw d H.length c).2.length) tr lo = true := by first | (simp only [go_sem]; done) | (simp [go_sem]; done) | (simp [go_sem]; omega)) : DCallR P R g args ao lo l tr hi ss fs ρ H ms Q := by
  have hw := thaw_wf 0 hp
  have hσ : ∀ i, outσ [] H.length (0 + i) = H.length + (0 + i) := fun i => by simp [outσ]
  obtain ⟨e1, e2⟩ := thaw_ren (σ := outσ [] H.length) (k' := H.length) 0 0 hp fun i _ => hσ i
  rw [Nat.add_zero] at e1 e2
  have e3 : H.puts (outΔ (outσ [] H.length) 0 (thaw d 0 c).2) = H ++ (thaw d H.length c).2 := by
    rw [puts_from (thaw_rows hp 0) fun i _ => by rw [hσ, Nat.zero_add], e2]
  have e4 : (outΔ (outσ [] H.length) 0 (thaw d 0 c).2).map (·.1) = upFrom H.length (thaw d H.length c).2.length := by
    rw [outΔ_names (N := H.length) (thaw_rows hp 0) fun i _ => by rw [hσ, Nat.zero_add], thaw_len hp 0 H.length]
  have h1 := (h.lss hys).dfrz (H := H) (args := args) e deps rfl (hw.2.1.mono fun r hr => by omega) hw.2.2 (by simpa using full_thaw (A := []) hp 0 rfl fun i hi => by omega) (by simpa using fullnv_thaw (A := []) hp 0 trivial)
  rw [e1] at h1
  refine dcallR (deps := deps) h1 ⟨fun q hq => ?_, fun q hq => ?_, ?_, ?_⟩
  . show q ∉ (outΔ _ _ _).map (·.1)
    rw [e4]
    have := hms q hq
    simp only [upFrom_mem]; omega
  . rw [mem_newNames] at hq
    refine ⟨hq.1, ?_⟩
    show q < (H.puts (outΔ _ _ _)).length
    rw [e3, List.length_append, <- thaw_len hp 0 H.length]
    omega
  . show dynOK _ _ ((outΔ _ _ _).map (·.1)) _ _ = true
    rw [e4]; exact hd
  . show R (.grp lo l (tr ++ [(deps, (outΔ _ _ _).map (·.1))]) hi ss) fs ⟨_, H.puts (outΔ _ _ _), ms⟩ Q
    rw [e4, e3]; exact hK
end
end Go.Sx
namespace Go.Proofs
open Go Go.Sx Go.Fam
attribute [local irreducible] Run
end Go.Proofs
namespace Go.Proofs
open Go Go.Sx Go.Fam
attribute [local irreducible] Run
end Go.Proofs
namespace Go.Proofs
open Go Go.Sx Go.Fam
attribute [local irreducible] Run
end Go.Proofs
namespace Go.Proofs
open Go Go.Sx Go.Fam
attribute [local irreducible] AT
set_option maxRecDepth 100000
end Go.Proofs
namespace Go.Proofs
open Go Go.Sx Go.Fam
attribute [local irreducible] Run
end Go.Proofs
namespace Go.Proofs
open Go Go.Sx
end Go.Proofs
namespace Go.Proofs
open Go Go.Sx Go.Fam
attribute [local irreducible] Run
end Go.Proofs
namespace Go.Proofs
open Go Go.Sx Go.Fam
attribute [local irreducible] Run
def eqT (a b : List AVal) (n : Nat) : List (Nat × AVal) := [(0, .view a), (1, .view b), (4, .bool false), (11, .view a), (12, .int .i64 n)]
theorem pEqual_run (a b : List Int) (hl : a.length <= 9223372036854775807) : Ans Try.prog n_slices_Equal_int_int [vw a, vw b] [] (.bool (decide (a = b))) [] := by
  refine spec_run e_slices_Equal_int_int fun G => ?_
  by_cases c : a.length = b.length
  . have c' : (a.length : Int) = b.length := by omega
    have c3 : ((a.length : Int) == b.length) = true := by rw [c']; exact beq_self_eq_true _
    simp only [go_sem, vw, List.length_map, bne, c3]
    refine loop_ind k_slices_Equal_int_int_r9.eq_1 (fun i : Nat => i <= a.length /\ a.take i = b.take i) (fun i => a.length - i)
      (fun i => (tsets 26 (eqT (a.map (.int .i64)) (b.map (.int .i64)) a.length ++ [(13, .int .i64 i)]), [])) 0 ⟨Nat.zero_le _, rfl⟩ (by simp [go_sem, eqT]) rfl ?_
    rintro i ⟨hi, hE⟩ ih
    dsimp only at hi hE ih ⊢
    by_cases h1 : i < a.length
    . have h2 : (i : Int) < a.length := by omega
      have h2' : (i : Int) < b.length := by omega
      have m0 : ¬ (i : Int) < 0 := by omega
      have h3 := idx_next h1 hl
      have x1 := get_at h1
      have x2 := get_at (l := b) (i := i) (by omega)
      by_cases e : at1 a i = at1 b i
      . have e' : (at1 a i == at1 b i) = true := by simp [e]
        simp only [go_sem, eqT, h2, h2', List.length_map, m0, x1, x2, Int.toNat_natCast, h3, bne, e', beq_self_eq_true]
        exact ih (i + 1) (by omega) ⟨h1, take_more hE x1 x2 e⟩ _ (by simp [go_sem, eqT])
      . have e' : (at1 a i == at1 b i) = false := by simp [e]
        have : decide (a = b) = false := decide_eq_false (ne_at x1 x2 e)
        rw [this]
        simp only [go_sem, eqT, h2, h2', List.length_map, m0, x1, x2, Int.toNat_natCast, bne, e', beq_self_eq_true]
    . have h2 : ¬ (i : Int) < a.length := by omega
      have : decide (a = b) = true := decide_eq_true (take_all hE c h1)
      rw [this]
      simp only [go_sem, eqT, h2, List.length_map]
  . have c' : ¬ (a.length : Int) = b.length := by omega
    have c2 : ((a.length : Int) == b.length) = false := by simp; exact c'
    have : decide (a = b) = false := decide_eq_false fun h => c (by rw [h])
    rw [this]
    simp only [go_sem, vw, List.length_map, bne, c2]
end Go.Proofs
namespace Go.Proofs
open Go Go.Sx Go.Fam
attribute [local irreducible] Run
structure TS (J : Heap) (κ : List Nat) (v : AVal) (L : List (List Int)) : Prop where
  dat : Dat 5 J κ v (tbC L)
  nd : κ.Nodup
theorem TS.first {J : Heap} {κ : List Nat} {v : AVal} (h : TS J κ v []) : v = .nilsl /\ ∀ (J' : Heap) (n m : Nat) (row : List Int), row ≠ [] -> n ≠ m -> J'[n]? = some (some (.cells true 1 (ivL row))) -> J'[m]? = some (some (.cells true 1 [.sl n 0 row.length])) -> TS J' [n, m] (.sl m 0 1) [row] := by
  obtain ⟨e, -⟩ := nil_get (J := J) (d := 4) (κ := κ) (v := v) (by simpa [tbC] using h.dat)
  exact ⟨e, fun J' n m row h0 hn h1 h2 => ⟨tb_put (κ := [n]) (by simp) rfl h2 (row_one (vw_put h0 rfl h1)), by simp [hn]⟩⟩
theorem TS.next {J : Heap} {κ : List Nat} {v : AVal} {L : List (List Int)} (h : TS J κ v L) (hL : L ≠ []) : ∃ r vs, v = .sl r 0 L.length /\ J[r]? = some (some (.cells true 1 vs)) /\ vs.length = L.length /\
    ∀ (J' : Heap) (n : Nat) (row : List Int), row ≠ [] -> J.length <= n -> (∀ q, q < J.length -> q ≠ r -> J'[q]? = J[q]?) -> J'[n]? = some (some (.cells true 1 (ivL row))) -> J'[r]? = some (some (.cells true 1 (vs ++ [.sl n 0 row.length]))) -> ∃ κ', TS J' κ' (.sl r 0 (L.length + 1)) (L ++ [row]) := by
  obtain ⟨r, vs, κ', e, k, g, a⟩ := tb_get h.dat hL
  subst k
  have al := a.len
  simp only [List.length_map] at al
  have nd := List.nodup_append.1 h.nd
  refine ⟨r, vs, e, g, al, fun J' n row h0 hn hJ h1 h2 => ⟨κ' ++ [n] ++ [r], tb_put (by simp) (by simp) h2 (row_more (a.mono fun κ2 u w hs _ hd => hd.congr fun q hq => hJ q (hd.lt q hq) fun e => nd.2.2 _ (hs _ hq) _ (by simp) e) (vw_put h0 rfl h1)), ?_⟩⟩
  . have hlt : ∀ q ∈ κ', q < J.length := fun q hq => h.dat.lt q (by simp [hq])
    have hr := (List.getElem?_eq_some_iff.1 g).1
    refine List.nodup_append.2 ⟨List.nodup_append.2 ⟨nd.1, by simp, fun x hx y hy => ?_⟩, by simp, fun x hx y hy => ?_⟩
    . simp at hy; subst hy; have := hlt x hx; omega
    . simp at hy; subst hy
      simp only [List.mem_append, List.mem_singleton] at hx
      rcases hx with hx | rfl
      . exact nd.2.2 _ hx _ (by simp)
      . omega
theorem TS.mono {J J' : Heap} {κ : List Nat} {v : AVal} {L : List (List Int)} (h : TS J κ v L) (hJ : ∀ q, q < J.length -> J'[q]? = J[q]?) : TS J' κ v L := ⟨h.dat.congr fun q hq => hJ q (h.dat.lt q hq), h.nd⟩
def cpT (t : List (List Int)) : List (Nat × AVal) := [(6, tw t), (7, .int .i64 t.length)]
set_option maxHeartbeats 2000000 in
set_option maxRecDepth 20000 in
theorem copiedTable_fn (t : List (List Int)) (hl : t.length <= 1000000) (h0 : ∀ r ∈ t, r ≠ [] /\ r.length <= 1000000) (ht : t ≠ []) : Go.Sx.Fn Try.prog n_curve_copiedTable [tw t] [] fun v H' => ∃ ι, Dat 5 H' ι v (tw t) /\ ι.Nodup := by
  have e1 : tw t = tbC t := by unfold tbC; rw [if_neg ht]
  rw [e1]
  suffices h : Go.Sx.Fn Try.prog n_curve_copiedTable [tw t] [] fun v H' => ∃ ι, TS H' ι v t by
    rw [<- e1]
    exact h.mono fun v H' ⟨ι, h⟩ => ⟨ι, by rw [e1]; exact h.dat, h.nd⟩
  clear e1
  refine run_fn e_curve_copiedTable fun G => ?_
  simp only [go_sem, tw, List.length_map]
  refine loop_ind k_curve_copiedTable_r7.eq_1 (fun q : Nat × Heap × AVal × List Nat => q.1 <= t.length /\ TS q.2.1 q.2.2.2 q.2.2.1 (t.take q.1)) (fun q => t.length - q.1)
    (fun q => (tsets 19 (cpT t ++ [(3, q.2.2.1), (8, .int .i64 q.1)]), q.2.1)) (0, [], .nilsl, []) ⟨Nat.zero_le _, ⟨rfl, rfl, rfl⟩, by simp⟩ (by simp [go_sem, cpT, tw]) rfl ?_
  rintro ⟨i, J, v, κ⟩ ⟨hi, hT⟩ ih
  dsimp only at hi hT ih ⊢
  by_cases h1 : i < t.length
  . have h2 : (i : Int) < t.length := by omega
    have h3 := idx_next h1 (by omega)
    have m0 : ¬ (i : Int) < 0 := by omega
    obtain ⟨row, hr⟩ : ∃ r, t[i]? = some r := ⟨_, List.getElem?_eq_getElem h1⟩
    obtain ⟨r0, rl⟩ := h0 row (List.mem_of_getElem? hr)
    have kc := copied_run row rl r0
    simp only [vw] at kc
    have et : t.take (i + 1) = t.take i ++ [row] := by rw [List.take_add_one, hr]; rfl
    have lt : (t.take i).length = i := by rw [List.length_take]; omega
    by_cases i0 : i = 0
    . have e0 : t.take i = [] := by rw [i0]; rfl
      rw [e0] at hT et
      obtain ⟨ev, hn⟩ := hT.first
      subst ev
      simp only [go_sem, cpT, tw, h2, m0, hr, Int.toNat_natCast, List.length_map, vw]
      refine cN1 kc ?_
      simp only [go_sem, ren, h3]
      refine ⟨by decide, ?_⟩
      refine ih (i + 1, _, .sl (J.length + 2) 0 1, [J.length, J.length + 2]) (by omega) ⟨h1, ?_⟩ _ (by simp [go_sem, cpT, tw])
      dsimp only
      rw [et]
      exact hn _ _ _ row r0 (by omega) (by rw [List.getElem?_append_right (Nat.le_refl _), Nat.sub_self]; rfl) (by rw [get_new rfl]; rfl)
    . have L0 : t.take i ≠ [] := by intro e; rw [e] at lt; simp at lt; omega
      obtain ⟨r, vs, ev, g, al, hn⟩ := hT.next L0
      subst ev
      rw [lt] at al hn ⊢
      have hrl := (List.getElem?_eq_some_iff.1 g).1
      have a1 := fun Y => cells_more (cells_at g) Y
      have a2 := fun Y x => put_more (H := J) hrl Y x
      have z1 : (i + 1) * 24 <= 2 ^ 44 := by omega
      simp only [go_sem, cpT, tw, h2, m0, hr, Int.toNat_natCast, List.length_map, vw]
      refine cN1 kc ?_
      simp only [go_sem, ren, h3, a1, a2, al, z1]
      obtain ⟨κ', hk⟩ := hn (J.set r (some (Row.cells true 1 (vs ++ [AVal.sl J.length 0 row.length]))) ++ [some (Row.cells true 1 (ivL row)), some (Row.cells false 1 [AVal.sl J.length 0 row.length])]) J.length row r0 (Nat.le_refl _)
        (fun q hq hn => by rw [List.getElem?_append_left (by simpa using hq), List.getElem?_set_ne (fun e => hn e.symm)]) (by rw [List.getElem?_append_right (by simp)]; simp) (by rw [List.getElem?_append_left (by simpa using hrl), List.getElem?_set_self hrl])
      exact ih (i + 1, _, _, κ') (by omega) ⟨h1, by dsimp only; rw [et]; exact hk⟩ _ (by simp [go_sem, cpT, tw])
  . have h2 : ¬ (i : Int) < t.length := by omega
    have : t.take i = t := List.take_of_length_le (by omega)
    rw [this] at hT
    simp only [go_sem, cpT, h2]
    exact ⟨κ, hT⟩
theorem tw_pure (t : List (List Int)) (h0 : t ≠ []) (hr : ∀ r ∈ t, r ≠ []) : Pure 5 (tw t) := ⟨by simpa using h0, fun e he => by
  obtain ⟨x, hx, rfl⟩ := List.mem_map.1 he
  exact ⟨by simpa using hr x hx, fun e he => by obtain ⟨y, _, rfl⟩ := List.mem_map.1 he; rfl⟩⟩
theorem copiedTable_run (t : List (List Int)) (hl : t.length <= 1000000) (h0 : ∀ r ∈ t, r ≠ [] /\ r.length <= 1000000) (ht : t ≠ []) : Ans Try.prog n_curve_copiedTable [tw t] [] (thaw 5 0 (tw t)).1 (thaw 5 0 (tw t)).2 :=
  ans_dat0 (tw_pure t ht fun r hr => (h0 r hr).1) (copiedTable_fn t hl h0 ht)
theorem thaw_tw (t : List (List Int)) (k : Nat) : ∃ a, (thaw 5 k (tw t)).1 = .sl a 0 t.length := by
  unfold tw
  simp only [thaw, mapk, List.length_map]
  exact ⟨_, rfl⟩
structure FaP (f : Fa) : Prop where
  g : f.g ≠ [] /\ f.g.length <= 1000000
  p : f.p ≠ [] /\ f.p.length <= 1000000
  lo : f.lo ≠ [] /\ f.lo.length <= 1000000 /\ ∀ r ∈ f.lo, r ≠ [] /\ r.length <= 1000000
  hi : f.hi ≠ [] /\ f.hi.length <= 1000000 /\ ∀ r ∈ f.hi, r ≠ [] /\ r.length <= 1000000
theorem FaP.pure {f : Fa} (h : FaP f) : Pure 6 (Fv f) := fv_pure h.g.1 h.p.1 h.lo.1 h.hi.1 (fun r hr => (h.lo.2.2 r hr).1) fun r hr => (h.hi.2.2 r hr).1
theorem _root_.Go.Fam.FaOK.faP {f : Fa} (h : FaOK f) : FaP f := by
  have gp := h.g.pos
  have pp := h.p.pos
  have gm := h.g.most
  have pm := h.p.most
  have hl := h.llen
  have hh := h.hlen
  have z : ∀ {α : Type} {l : List α} {n : Nat}, l.length = n -> 1 <= n -> l ≠ [] := fun e hn e' => by rw [e'] at e; simp at e; omega
  exact ⟨⟨z rfl gp, by omega⟩, ⟨z rfl pp, by omega⟩, ⟨z hl gp, by omega, fun r hr => ⟨z (h.lrow r hr) pp, by rw [h.lrow r hr]; omega⟩⟩, ⟨z hh gp, by omega, fun r hr => ⟨z (h.hrow r hr) pp, by rw [h.hrow r hr]; omega⟩⟩⟩
set_option maxHeartbeats 2000000 in
set_option maxRecDepth 20000 in
theorem Copy_fn {f : Fa} (h : FaP f) : Go.Sx.Fn Try.prog n_curve_Copy [Fv f] [] fun v H' => ∃ ι, Dat 6 H' ι v (Fv f) /\ ι.Nodup := by
  have c1 := copied_run f.g h.g.2 h.g.1
  have c2 := copied_run f.p h.p.2 h.p.1
  have c3 := copiedTable_run f.lo h.lo.2.1 h.lo.2.2 h.lo.1
  have c4 := copiedTable_run f.hi h.hi.2.1 h.hi.2.2 h.hi.1
  have p3 := tw_pure f.lo h.lo.1 fun r hr => (h.lo.2.2 r hr).1
  have p4 := tw_pure f.hi h.hi.1 fun r hr => (h.hi.2.2 r hr).1
  simp only [vw] at c1 c2
  refine run_fn e_curve_Copy fun G => ?_
  simp only [go_sem, Fv, Fcs, vw, tw]
  refine dFN c1 6 [] ?_ ?_
  . exact ⟨.inl (by simp [frz, Function.comp_def]), trivial⟩
  simp only [go_sem, ren]
  refine dFN c2 6 [] ?_ ?_
  . exact ⟨.inl (by simp [frz, Function.comp_def]), trivial⟩
  simp only [go_sem, ren]
  refine dFD c3 p3 6 [] ?_ ?_
  . exact ⟨.inl (by simp [frz, vw, tw, Function.comp_def]), trivial⟩
  simp only [List.length_cons, List.length_nil, List.length_append, Nat.zero_add, Nat.reduceAdd]
  obtain ⟨a, ea⟩ := thaw_tw f.lo 4
  have hD := fun (A : Heap) (hA : A.length = 4) => thaw_dat (H := A ++ (thaw 5 4 (tw f.lo)).2) 4 p3 fun i hi => by rw [get_new hA]
  simp only [ea] at hD ⊢
  generalize (thaw 5 4 (tw f.lo)).2 = Y at *
  simp only [go_sem]
  refine cFD c4 p4 6 ?_ ?_
  . exact ⟨.inl (by simp [frz, vw, tw, Function.comp_def]), trivial⟩
  simp only [List.length_cons, List.length_nil, List.length_append, Nat.zero_add, Nat.reduceAdd]
  obtain ⟨b, eb⟩ := thaw_tw f.hi (Y.length + 1 + 1 + 1 + 1)
  have hD2 := fun (A : Heap) (hA : A.length = Y.length + 1 + 1 + 1 + 1) => thaw_dat (H := A ++ (thaw 5 (Y.length + 1 + 1 + 1 + 1) (tw f.hi)).2) (Y.length + 1 + 1 + 1 + 1) p4 fun i hi => by rw [get_new hA]
  simp only [eb] at hD2 ⊢
  generalize (thaw 5 (Y.length + 1 + 1 + 1 + 1) (tw f.hi)).2 = Z at *
  simp only [go_sem, List.append_assoc, List.cons_append, List.nil_append]
  obtain ⟨r1, hr1⟩ : ∃ r, some (Row.cells false 4 [AVal.agg [AVal.view (List.map (AVal.int IntKind.i64) f.g), AVal.view (List.map (AVal.int IntKind.i64) f.p), AVal.view (List.map vw f.lo), AVal.view (List.map vw f.hi)]]) = r := ⟨_, rfl⟩
  obtain ⟨r2, hr2⟩ : ∃ r, some (Row.cells false 4 [AVal.agg [AVal.sl 2 0 f.g.length, AVal.sl 3 0 f.p.length, AVal.sl a 0 f.lo.length, AVal.sl b 0 f.hi.length]]) = r := ⟨_, rfl⟩
  simp only [hr1, hr2]
  have k1 : Dat 5 (r1 :: r2 :: some (Row.cells true 1 (ivL f.g)) :: some (Row.cells true 1 (ivL f.p)) :: (Y ++ Z)) [2] (.sl 2 0 f.g.length) (vw f.g) := vw_put h.g.1 rfl rfl
  have k2 : Dat 5 (r1 :: r2 :: some (Row.cells true 1 (ivL f.g)) :: some (Row.cells true 1 (ivL f.p)) :: (Y ++ Z)) [3] (.sl 3 0 f.p.length) (vw f.p) := vw_put h.p.1 rfl rfl
  have k3 := (hD [r1, r2, some (Row.cells true 1 (ivL f.g)), some (Row.cells true 1 (ivL f.p))] rfl).app Z (fun r hr => by rw [upFrom_mem] at hr; simp; omega)
  have k4 := hD2 ([r1, r2, some (Row.cells true 1 (ivL f.g)), some (Row.cells true 1 (ivL f.p))] ++ Y) (by simp)
  refine ⟨[2] ++ ([3] ++ (upFrom 4 Y.length ++ (upFrom (Y.length + 1 + 1 + 1 + 1) Z.length ++ []))), ⟨_, rfl, [2], _, rfl, k1, [3], _, rfl, k2, upFrom 4 Y.length, _, rfl, k3, upFrom (Y.length + 1 + 1 + 1 + 1) Z.length, [], rfl, ?_, rfl⟩, ?_⟩
  . simp only [List.cons_append, List.nil_append, List.append_assoc] at k4
    exact k4
  . refine List.nodup_iff_count.2 fun x => ?_
    simp only [List.count_append, List.count_cons, List.count_nil, beq_iff_eq]
    have n3 := List.nodup_iff_count.1 (upFrom_nodup 4 Y.length) x
    have n4 := List.nodup_iff_count.1 (upFrom_nodup (Y.length + 1 + 1 + 1 + 1) Z.length) x
    have z3 : (upFrom 4 Y.length).count x = 0 ∨ (4 <= x /\ x < 4 + Y.length) := by
      by_cases c : x ∈ upFrom 4 Y.length
      . exact .inr (upFrom_mem.1 c)
      . exact .inl (List.count_eq_zero.2 c)
    have z4 : (upFrom (Y.length + 1 + 1 + 1 + 1) Z.length).count x = 0 ∨ Y.length + 4 <= x := by
      by_cases c : x ∈ upFrom (Y.length + 1 + 1 + 1 + 1) Z.length
      . have := upFrom_mem.1 c; exact .inr (by omega)
      . exact .inl (List.count_eq_zero.2 c)
    split <;> split <;> omega
theorem Copy_run {f : Fa} (h : FaP f) : Ans Try.prog n_curve_Copy [Fv f] [] (thaw 6 0 (Fv f)).1 (thaw 6 0 (Fv f)).2 := ans_dat0 h.pure (Copy_fn h)
end Go.Proofs
namespace Go.Proofs
open Go Go.Sx Go.Fam
def mkR (n : Nat) (ψ : Nat -> Int) : List Int := (List.range n).map ψ
def mkT (m n : Nat) (φ : Nat -> Nat -> Int) : List (List Int) := (List.range m).map fun i => mkR n (φ i)
theorem mkR_len (n : Nat) (ψ : Nat -> Int) : (mkR n ψ).length = n := by simp [mkR]
theorem mkT_len (m n : Nat) (φ : Nat -> Nat -> Int) : (mkT m n φ).length = m := by simp [mkT]
theorem mkR_get {n k : Nat} (ψ : Nat -> Int) (h : k < n) : (mkR n ψ)[k]? = some (ψ k) := by unfold mkR; rw [List.getElem?_map, List.getElem?_range h]; rfl
theorem mkT_get {m n i : Nat} (φ : Nat -> Nat -> Int) (h : i < m) : (mkT m n φ)[i]? = some (mkR n (φ i)) := by unfold mkT; rw [List.getElem?_map, List.getElem?_range h]; rfl
theorem mkR_set {n k : Nat} (ψ : Nat -> Int) (x : Int) : (mkR n ψ).set k x = mkR n fun j => if j = k then x else ψ j := by
  refine List.ext_getElem? fun j => ?_
  rw [List.getElem?_set, mkR_len]
  by_cases c : j < n
  . rw [mkR_get _ c, mkR_get _ c]
    by_cases e : j = k
    . subst e; simp [c]
    . simp [e, Ne.symm e]
  . have e1 : (mkR n ψ)[j]? = none := List.getElem?_eq_none (by rw [mkR_len]; omega)
    have e2 : (mkR n fun j => if j = k then x else ψ j)[j]? = none := List.getElem?_eq_none (by rw [mkR_len]; omega)
    rw [e1, e2]
    split
    . rw [if_neg (by omega)]
    . rfl
theorem mkT_set {m n i : Nat} (φ : Nat -> Nat -> Int) (ψ : Nat -> Int) : (mkT m n φ).set i (mkR n ψ) = mkT m n fun j => if j = i then ψ else φ j := by
  refine List.ext_getElem? fun j => ?_
  rw [List.getElem?_set, mkT_len]
  by_cases c : j < m
  . rw [mkT_get _ c, mkT_get _ c]
    by_cases e : j = i
    . subst e; simp [c]
    . simp [e, Ne.symm e]
  . have e1 : (mkT m n φ)[j]? = none := List.getElem?_eq_none (by rw [mkT_len]; omega)
    have e2 : (mkT m n fun j => if j = i then ψ else φ j)[j]? = none := List.getElem?_eq_none (by rw [mkT_len]; omega)
    rw [e1, e2]
    split
    . rw [if_neg (by omega)]
    . rfl
theorem mkR_congr {n : Nat} {ψ ψ' : Nat -> Int} (h : ∀ k, k < n -> ψ k = ψ' k) : mkR n ψ = mkR n ψ' := List.map_congr_left fun k hk => h k (List.mem_range.1 hk)
theorem mkT_congr {m n : Nat} {φ φ' : Nat -> Nat -> Int} (h : ∀ i k, i < m -> k < n -> φ i k = φ' i k) : mkT m n φ = mkT m n φ' := List.map_congr_left fun i hi => mkR_congr fun k hk => h i k (List.mem_range.1 hi) hk
theorem mkT_tg {m n i k : Nat} (φ : Nat -> Nat -> Int) (hi : i < m) (hk : k < n) : tg (mkT m n φ) i k = φ i k := by
  rw [tg_get (mkT_get φ hi)]
  unfold at1
  rw [List.getD_eq_getElem?_getD, mkR_get _ hk]; rfl
theorem mkT_of {m n : Nat} {t : List (List Int)} (h : Tab m n t) : t = mkT m n (tg t) := by
  refine List.ext_getElem? fun i => ?_
  by_cases c : i < m
  . obtain ⟨r, hr, hl⟩ := h.row i c
    rw [hr, mkT_get _ c]
    congr 1
    refine List.ext_getElem? fun k => ?_
    by_cases d : k < n
    . rw [mkR_get _ d, tg_get hr, get_at (by omega)]
    . rw [List.getElem?_eq_none (by omega), List.getElem?_eq_none (by rw [mkR_len]; omega)]
  . rw [List.getElem?_eq_none (by rw [h.len]; omega), List.getElem?_eq_none (by rw [mkT_len]; omega)]
def mixF (op : Int -> Int -> Int) (a b : Nat -> Nat -> Int) (i k : Nat) : Nat -> Nat -> Int := fun i' k' => if i' < i ∨ (i' = i /\ k' < k) then op (a i' k') (b i' k') else a i' k'
theorem mixF_at (op : Int -> Int -> Int) (a b : Nat -> Nat -> Int) (i k : Nat) : mixF op a b i k i k = a i k := by unfold mixF; rw [if_neg (by omega)]
theorem mixF_step (op : Int -> Int -> Int) (a b : Nat -> Nat -> Int) {m n i k : Nat} (hi : i < m) (hk : k < n) :
    (mkT m n (mixF op a b i k)).set i ((mkR n (mixF op a b i k i)).set k (op (a i k) (b i k))) = mkT m n (mixF op a b i (k + 1)) := by
  rw [mkR_set, mkT_set]
  refine mkT_congr fun i' k' _ _ => ?_
  unfold mixF
  by_cases c : i' = i
  . subst c
    rw [if_pos rfl]
    by_cases d : k' = k
    . subst d; rw [if_pos rfl, if_pos (by omega)]
    . rw [if_neg d]
      by_cases e : k' < k
      . rw [if_pos (by omega), if_pos (by omega)]
      . rw [if_neg (by omega), if_neg (by omega)]
  . rw [if_neg c]
    by_cases e : i' < i
    . rw [if_pos (.inl e), if_pos (.inl e)]
    . rw [if_neg (by omega), if_neg (by omega)]
theorem mixF_row (op : Int -> Int -> Int) (a b : Nat -> Nat -> Int) (m n i : Nat) : mkT m n (mixF op a b i n) = mkT m n (mixF op a b (i + 1) 0) := mkT_congr fun i' k' _ hk => by
  unfold mixF
  by_cases c : i' < i ∨ (i' = i /\ k' < n)
  . rw [if_pos c, if_pos (by omega)]
  . rw [if_neg c, if_neg (by omega)]
theorem mixF_end (op : Int -> Int -> Int) (a b : Nat -> Nat -> Int) (m n : Nat) : mkT m n (mixF op a b m 0) = mkT m n fun i k => op (a i k) (b i k) := mkT_congr fun i' k' hi _ => by
  unfold mixF; rw [if_pos (.inl hi)]
theorem mixF_start (op : Int -> Int -> Int) (a b : Nat -> Nat -> Int) (m n : Nat) : mkT m n (mixF op a b 0 0) = mkT m n a := mkT_congr fun i' k' hi _ => by
  unfold mixF; rw [if_neg (by omega)]
def hj (a b : Fa) : Fa := ⟨a.g, a.p, mkT a.g.length a.p.length fun i k => mn (tg a.lo i k) (tg b.lo i k), mkT a.g.length a.p.length fun i k => mx (tg a.hi i k) (tg b.hi i k)⟩
theorem mn_or (a b : Int) : (mn a b <= a /\ mn a b <= b) /\ (mn a b = a ∨ mn a b = b) := by unfold mn; split <;> omega
theorem mx_or2 (a b : Int) : (a <= mx a b /\ b <= mx a b) /\ (mx a b = a ∨ mx a b = b) := by unfold mx; split <;> omega
theorem hj_ok {a b : Fa} (ha : FaOK a) (hb : FaOK b) (hg : b.g = a.g) (hp : b.p = a.p) : FaOK (hj a b) /\ InF a (hj a b) /\ InF b (hj a b) := by
  have el : ∀ i k, i < a.g.length -> k < a.p.length -> tg (hj a b).lo i k = mn (tg a.lo i k) (tg b.lo i k) := fun i k h1 h2 => mkT_tg _ h1 h2
  have eh : ∀ i k, i < a.g.length -> k < a.p.length -> tg (hj a b).hi i k = mx (tg a.hi i k) (tg b.hi i k) := fun i k h1 h2 => mkT_tg _ h1 h2
  have bl : b.g.length = a.g.length := by rw [hg]
  have bp : b.p.length = a.p.length := by rw [hp]
  have rows : ∀ {φ : Nat -> Nat -> Int}, ∀ r ∈ mkT a.g.length a.p.length φ, r.length = a.p.length := fun r hr => by
    obtain ⟨x, _, rfl⟩ := List.mem_map.1 hr; exact mkR_len _ _
  have M := fun i k => mn_or (tg a.lo i k) (tg b.lo i k)
  have X := fun i k => mx_or2 (tg a.hi i k) (tg b.hi i k)
  refine ⟨⟨ha.g, ha.p, mkT_len _ _ _, mkT_len _ _ _, rows, rows, fun i k h1 h2 => ?_, fun i k h1 h2 => ?_, fun i k h1 h2 => ?_⟩, ⟨rfl, rfl, fun i k h1 h2 => ?_⟩, ⟨hg, hp, fun i k h1 h2 => ?_⟩⟩
  . have h1 : i < a.g.length := h1
    have h2 : k < a.p.length := h2
    rw [el i k h1 h2, eh i k h1 h2]
    have := ha.inn i k h1 h2
    have := hb.inn i k (by omega) (by omega)
    have := M i k
    have := X i k
    omega
  . have h1 : i < a.g.length := h1
    have h2 : k + 1 < a.p.length := h2
    rw [el i k h1 (by omega), eh i k h1 (by omega), el i (k + 1) h1 h2, eh i (k + 1) h1 h2]
    have := ha.right i k h1 h2
    have := hb.right i k (by omega) (by omega)
    have := M i k
    have := X i k
    have := M i (k + 1)
    have := X i (k + 1)
    omega
  . have h1 : i + 1 < a.g.length := h1
    have h2 : k < a.p.length := h2
    rw [el i k (by omega) h2, eh i k (by omega) h2, el (i + 1) k h1 h2, eh (i + 1) k h1 h2]
    have := ha.up i k h1 h2
    have := hb.up i k (by omega) (by omega)
    have := M i k
    have := X i k
    have := M (i + 1) k
    have := X (i + 1) k
    omega
  . have h1 : i < a.g.length := h1
    have h2 : k < a.p.length := h2
    rw [el i k h1 h2, eh i k h1 h2]
    exact ⟨(M i k).1.1, (X i k).1.1⟩
  . have h1 : i < a.g.length := h1
    have h2 : k < a.p.length := h2
    rw [el i k h1 h2, eh i k h1 h2]
    exact ⟨(M i k).1.2, (X i k).1.2⟩
theorem InF.trans {a b c : Fa} (h1 : InF a b) (h2 : InF b c) : InF a c := ⟨h1.g.trans h2.g, h1.p.trans h2.p, fun i k hi hk => by
  have e1 := h2.inn i k hi hk
  have e2 := h1.inn i k (by rw [h2.g]; exact hi) (by rw [h2.p]; exact hk)
  omega⟩
theorem InF.refl (a : Fa) : InF a a := ⟨rfl, rfl, fun _ _ _ _ => ⟨Int.le_refl _, Int.le_refl _⟩⟩
theorem fa_tabs {f : Fa} (h : FaOK f) : f.lo = mkT f.g.length f.p.length (tg f.lo) /\ f.hi = mkT f.g.length f.p.length (tg f.hi) := ⟨mkT_of h.tabs.1, mkT_of h.tabs.2.1⟩
def hullGo (f0 : Fa) : List Fa -> Int
  | [] => 0
  | f :: r => if famE f = 0 then (if f.g = f0.g /\ f.p = f0.p then hullGo f0 r else 3) else famE f
def hullE (l : List Fa) : Int := match l with | [] => 6 | f0 :: r => if 40 < (f0 :: r).length then 8 else hullGo f0 (f0 :: r)
def hullTo (f0 : Fa) (r : List Fa) : Fa := r.foldl hj f0
def HuOK (f0 : Fa) (l : List Fa) : Prop := ∀ f ∈ l, FaOK f /\ f.g = f0.g /\ f.p = f0.p
theorem hullGo_ok {f0 : Fa} : ∀ {l : List Fa}, hullGo f0 l = 0 ↔ HuOK f0 l
  | [] => by simp [hullGo, HuOK]
  | f :: r => by
    have ih := hullGo_ok (f0 := f0) (l := r)
    unfold hullGo
    constructor
    . intro h
      split at h
      . rename_i h1
        split at h
        . rename_i h2
          intro x hx
          rcases List.mem_cons.1 hx with rfl | hx
          . exact ⟨fam_iff.1 h1, h2⟩
          . exact ih.1 h x hx
        . cases h
      . rename_i h1; exact absurd h h1
    . intro h
      have h0 := h f (by simp)
      rw [if_pos (fam_iff.2 h0.1), if_pos h0.2]
      exact ih.2 fun x hx => h x (List.mem_cons_of_mem _ hx)
theorem hullTo_ok {f0 : Fa} (h0 : FaOK f0) : ∀ {r : List Fa}, HuOK f0 r -> FaOK (hullTo f0 r) /\ (hullTo f0 r).g = f0.g /\ (hullTo f0 r).p = f0.p /\ InF f0 (hullTo f0 r) /\ ∀ f ∈ r, InF f (hullTo f0 r) := by
  intro r
  suffices H : ∀ (r : List Fa) (a : Fa), FaOK a -> a.g = f0.g -> a.p = f0.p -> HuOK f0 r -> FaOK (r.foldl hj a) /\ (r.foldl hj a).g = f0.g /\ (r.foldl hj a).p = f0.p /\ InF a (r.foldl hj a) /\ ∀ f ∈ r, InF f (r.foldl hj a) from fun h => H r f0 h0 rfl rfl h
  intro r
  induction r with
  | nil => intro a ha hg hp _; exact ⟨ha, hg, hp, InF.refl a, by simp⟩
  | cons f r ih =>
    intro a ha hg hp h
    obtain ⟨hf, fg, fp⟩ := h f (by simp)
    obtain ⟨k1, k2, k3⟩ := hj_ok ha hf (fg.trans hg.symm) (fp.trans hp.symm)
    obtain ⟨m1, m2, m3, m4, m5⟩ := ih (hj a f) k1 hg hp fun x hx => h x (List.mem_cons_of_mem _ hx)
    refine ⟨m1, m2, m3, k2.trans m4, fun x hx => ?_⟩
    rcases List.mem_cons.1 hx with rfl | hx
    . exact k3.trans m4
    . exact m5 x hx
end Go.Proofs
