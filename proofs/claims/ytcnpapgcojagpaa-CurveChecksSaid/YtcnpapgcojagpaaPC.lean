/- A part of the proof. -/
import Derived.Test.YtcnpapgcojagpaaPB
import Derived.IntWalk
set_option linter.unusedSimpArgs false
set_option linter.unusedVariables false
namespace Go.Proofs
open Go Go.Sx

def k_law02_large_r0 : List AOper := [
  ⟨some 1, .box (.tmp 0), none, []⟩,
 ⟨some 2, .move (.const (.bool false)), none, []⟩]
def k_law02_large_r1 : List AOper := [
  ⟨some 3, .fieldAddr 2 (.tmp 1), none, []⟩,
 ⟨some 4, .load none (.tmp 3), none, []⟩,
 ⟨some 5, .len false (.tmp 4), none, []⟩,
 ⟨some 6, .bin .plain .gtr (.tmp 5) (.const (.int .i64 50)), none, []⟩,
 ⟨some 7, .move (.tmp 6), none, []⟩,
 ⟨some 8, .fieldAddr 3 (.tmp 1), (some (7, false)), []⟩,
 ⟨some 9, .load none (.tmp 8), (some (7, false)), []⟩,
 ⟨some 10, .len false (.tmp 9), (some (7, false)), []⟩,
 ⟨some 11, .bin .plain .gtr (.tmp 10) (.const (.int .i64 50)), (some (7, false)), []⟩,
 ⟨some 12, .pick (.tmp 7) (.const (.bool true)) (.tmp 11), none, []⟩,
 ⟨some 13, .move (.tmp 12), none, []⟩,
 ⟨some 14, .fieldAddr 0 (.tmp 1), (some (13, false)), []⟩,
 ⟨some 15, .load none (.tmp 14), (some (13, false)), []⟩,
 ⟨some 16, .fieldAddr 1 (.tmp 1), (some (13, false)), []⟩,
 ⟨some 17, .load none (.tmp 16), (some (13, false)), []⟩,
 ⟨some 18, .buildSlice 1 [.tmp 15, .tmp 17], (some (13, false)), []⟩,
 ⟨some 19, .call (.const (.fn (.func 61) [] [])) [.tmp 18], (some (13, false)), []⟩,
 ⟨some 20, .pick (.tmp 13) (.const (.bool true)) (.tmp 19), none, []⟩]
def k_law02_large_r2 : List AOper := [
  ⟨some 2, .move (.const (.bool true)), none, []⟩]
def k_law02_large_r3 : List AOper := [
  ⟨some 21, .fieldAddr 2 (.tmp 1), none, []⟩,
 ⟨some 22, .load none (.tmp 21), none, []⟩,
 ⟨some 23, .call (.const (.fn (.func 61) [] [])) [.tmp 22], none, []⟩,
 ⟨some 24, .move (.tmp 23), none, []⟩,
 ⟨some 25, .fieldAddr 3 (.tmp 1), (some (24, false)), []⟩,
 ⟨some 26, .load none (.tmp 25), (some (24, false)), []⟩,
 ⟨some 27, .call (.const (.fn (.func 61) [] [])) [.tmp 26], (some (24, false)), []⟩,
 ⟨some 28, .pick (.tmp 24) (.const (.bool true)) (.tmp 27), none, []⟩,
 ⟨some 2, .move (.tmp 28), none, []⟩]
def k_law02_large : AFun := { params := 1, ntmps := 29, body := (.seq (.reg k_law02_large_r0 false) (.seq (.seq (.reg k_law02_large_r1 false) (.cond (.tmp 20) (.seq (.reg k_law02_large_r2 false) .ret) .skip)) (.seq (.reg k_law02_large_r3 false) .ret))), res := [.tmp 2] }
theorem k_law02_large_ok : cfun Try.prog Try.f24 = k_law02_large := by kernel_rfl

def k_law02_long_r0 : List AOper := [
  ⟨some 2, .move (.const (.bool false)), none, []⟩]
def k_law02_long_r1 : List AOper := [
  ⟨some 3, .move (.const (.int .i64 0)), none, []⟩]
def k_law02_long_r2 : List AOper := [
  ⟨some 4, .move (.tmp 3), none, []⟩,
 ⟨some 5, .move (.tmp 0), none, []⟩,
 ⟨some 6, .len false (.tmp 5), none, []⟩,
 ⟨some 7, .bin .plain .lss (.tmp 4) (.tmp 6), none, []⟩]
def k_law02_long_r3 : List AOper := [
  ⟨some 10, .move (.tmp 0), none, []⟩,
 ⟨some 11, .move (.tmp 3), none, []⟩,
 ⟨some 12, .indexAddr 1 (.tmp 10) (.tmp 11), none, []⟩,
 ⟨some 13, .load none (.tmp 12), none, []⟩,
 ⟨some 14, .len false (.tmp 13), none, []⟩,
 ⟨some 15, .bin .plain .gtr (.tmp 14) (.const (.int .i64 50)), none, []⟩]
def k_law02_long_r4 : List AOper := [
  ⟨some 2, .move (.const (.bool true)), none, []⟩]
def k_law02_long_r5 : List AOper := [
  ⟨some 8, .move (.tmp 3), none, []⟩,
 ⟨some 9, .bin .plain .add (.tmp 8) (.const (.int .i64 1)), none, []⟩,
 ⟨some 3, .move (.tmp 9), none, []⟩]
def k_law02_long_r6 : ACode := (.seq (.seq (.reg k_law02_long_r2 false) (.cond (.tmp 7) .skip (.exit 0))) (.seq (.block 1 (.seq (.reg k_law02_long_r3 false) (.cond (.tmp 15) (.seq (.reg k_law02_long_r4 false) .ret) .skip))) (.reg k_law02_long_r5 false)))
def k_law02_long_r7 : List AOper := [
  ⟨some 2, .move (.const (.bool false)), none, []⟩]
def k_law02_long : AFun := { params := 1, ntmps := 16, body := (.seq (.reg k_law02_long_r0 false) (.seq (.seq (.reg k_law02_long_r1 false) (.block 0 (.loop k_law02_long_r6))) (.seq (.reg k_law02_long_r7 false) .ret))), res := [.tmp 2] }
theorem k_law02_long_ok : cfun Try.prog Try.f61 = k_law02_long := by kernel_rfl


abbrev n_law02_large : Nat := 24
theorem e_law02_large : EntryOK Try.prog n_law02_large k_law02_large := ⟨Try.f24, Try.func24, k_law02_large_ok, by kernel_rfl⟩
abbrev n_law02_long : Nat := 61
theorem e_law02_long : EntryOK Try.prog n_law02_long k_law02_long := ⟨Try.f61, Try.func61, k_law02_long_ok, by kernel_rfl⟩

attribute [go_sem] k_law02_large_r0 k_law02_large_r1 k_law02_large_r2 k_law02_large_r3 k_law02_long_r0 k_law02_long_r1 k_law02_long_r2 k_law02_long_r3 k_law02_long_r4 k_law02_long_r5 k_law02_long_r7
attribute [go_sem] k_law02_large k_law02_long
end Go.Proofs

namespace Go.Proofs
open Go Go.Sx

def k_ref02_Same_r0 : List AOper := [
  ⟨some 2, .box (.tmp 0), none, []⟩,
 ⟨some 3, .box (.tmp 1), none, []⟩,
 ⟨some 4, .move (.const (.bool false)), none, []⟩]
def k_ref02_Same_r1 : List AOper := [
  ⟨some 5, .fieldAddr 0 (.tmp 2), none, []⟩,
 ⟨some 6, .load none (.tmp 5), none, []⟩,
 ⟨some 7, .fieldAddr 0 (.tmp 3), none, []⟩,
 ⟨some 8, .load none (.tmp 7), none, []⟩,
 ⟨some 9, .call (.const (.fn (.func 77) [] [])) [.tmp 6, .tmp 8], none, []⟩,
 ⟨some 10, .move (.tmp 9), none, []⟩,
 ⟨some 11, .fieldAddr 1 (.tmp 2), (some (10, true)), []⟩,
 ⟨some 12, .load none (.tmp 11), (some (10, true)), []⟩,
 ⟨some 13, .fieldAddr 1 (.tmp 3), (some (10, true)), []⟩,
 ⟨some 14, .load none (.tmp 13), (some (10, true)), []⟩,
 ⟨some 15, .call (.const (.fn (.func 77) [] [])) [.tmp 12, .tmp 14], (some (10, true)), []⟩,
 ⟨some 16, .pick (.tmp 10) (.tmp 15) (.const (.bool false)), none, []⟩,
 ⟨some 17, .move (.tmp 16), none, []⟩,
 ⟨some 18, .fieldAddr 2 (.tmp 2), (some (17, true)), []⟩,
 ⟨some 19, .load none (.tmp 18), (some (17, true)), []⟩,
 ⟨some 20, .fieldAddr 2 (.tmp 3), (some (17, true)), []⟩,
 ⟨some 21, .load none (.tmp 20), (some (17, true)), []⟩,
 ⟨some 22, .call (.const (.fn (.func 78) [] [])) [.tmp 19, .tmp 21], (some (17, true)), []⟩,
 ⟨some 23, .pick (.tmp 17) (.tmp 22) (.const (.bool false)), none, []⟩,
 ⟨some 24, .move (.tmp 23), none, []⟩,
 ⟨some 25, .fieldAddr 3 (.tmp 2), (some (24, true)), []⟩,
 ⟨some 26, .load none (.tmp 25), (some (24, true)), []⟩,
 ⟨some 27, .fieldAddr 3 (.tmp 3), (some (24, true)), []⟩,
 ⟨some 28, .load none (.tmp 27), (some (24, true)), []⟩,
 ⟨some 29, .call (.const (.fn (.func 78) [] [])) [.tmp 26, .tmp 28], (some (24, true)), []⟩,
 ⟨some 30, .pick (.tmp 24) (.tmp 29) (.const (.bool false)), none, []⟩,
 ⟨some 4, .move (.tmp 30), none, []⟩]
def k_ref02_Same : AFun := { params := 2, ntmps := 31, body := (.seq (.reg k_ref02_Same_r0 false) (.seq (.reg k_ref02_Same_r1 false) .ret)), res := [.tmp 4] }
theorem k_ref02_Same_ok : cfun Try.prog Try.f30 = k_ref02_Same := by kernel_rfl

def k_ref02_sameInts_r0 : List AOper := [
  ⟨some 4, .move (.const (.bool false)), none, []⟩]
def k_ref02_sameInts_r1 : List AOper := [
  ⟨some 6, .move (.tmp 0), none, []⟩,
 ⟨some 7, .len false (.tmp 6), none, []⟩,
 ⟨some 8, .move (.tmp 1), none, []⟩,
 ⟨some 9, .len false (.tmp 8), none, []⟩,
 ⟨some 10, .bin .plain .neq (.tmp 7) (.tmp 9), none, []⟩]
def k_ref02_sameInts_r2 : List AOper := [
  ⟨some 4, .move (.const (.bool false)), none, []⟩]
def k_ref02_sameInts_r3 : List AOper := [
  ⟨some 5, .move (.const (.int .i64 0)), none, []⟩]
def k_ref02_sameInts_r4 : List AOper := [
  ⟨some 11, .move (.tmp 5), none, []⟩,
 ⟨some 12, .move (.tmp 0), none, []⟩,
 ⟨some 13, .len false (.tmp 12), none, []⟩,
 ⟨some 14, .bin .plain .lss (.tmp 11) (.tmp 13), none, []⟩]
def k_ref02_sameInts_r5 : List AOper := [
  ⟨some 17, .move (.tmp 0), none, []⟩,
 ⟨some 18, .move (.tmp 5), none, [0]⟩,
 ⟨some 19, .indexAddr 1 (.tmp 17) (.tmp 18), none, []⟩,
 ⟨some 20, .load none (.tmp 19), none, []⟩,
 ⟨some 21, .move (.tmp 1), none, [0, 1, 2, 3]⟩,
 ⟨some 22, .move (.tmp 5), none, [0, 1, 2, 3, 4]⟩,
 ⟨some 23, .indexAddr 1 (.tmp 21) (.tmp 22), none, [0, 1, 2, 3]⟩,
 ⟨some 24, .load none (.tmp 23), none, [0, 1, 2, 3]⟩,
 ⟨some 25, .bin .plain .neq (.tmp 20) (.tmp 24), none, []⟩]
def k_ref02_sameInts_r5s : List (List AOper) := [
  [
  ⟨some 17, .move (.tmp 0), none, []⟩,
 ⟨some 18, .move (.tmp 5), none, [0]⟩,
 ⟨some 19, .indexAddr 1 (.tmp 17) (.tmp 18), none, []⟩,
 ⟨some 20, .load none (.tmp 19), none, []⟩,
 ⟨some 21, .move (.tmp 1), none, [0, 1, 2, 3]⟩,
 ⟨some 22, .move (.tmp 5), none, [0, 1, 2, 3, 4]⟩,
 ⟨some 23, .indexAddr 1 (.tmp 21) (.tmp 22), none, [0, 1, 2, 3]⟩,
 ⟨some 24, .load none (.tmp 23), none, [0, 1, 2, 3]⟩], 
  [
  ⟨some 25, .bin .plain .neq (.tmp 20) (.tmp 24), none, []⟩]]
theorem k_ref02_sameInts_r5_sg : segs k_ref02_sameInts_r5 = k_ref02_sameInts_r5s := by kernel_rfl
theorem k_ref02_sameInts_r5_st : statOK k_ref02_sameInts_r5 = true := by kernel_rfl
def k_ref02_sameInts_r6 : List AOper := [
  ⟨some 4, .move (.const (.bool false)), none, []⟩]
def k_ref02_sameInts_r7 : List AOper := [
  ⟨some 15, .move (.tmp 5), none, []⟩,
 ⟨some 16, .bin .plain .add (.tmp 15) (.const (.int .i64 1)), none, []⟩,
 ⟨some 5, .move (.tmp 16), none, []⟩]
def k_ref02_sameInts_r8 : ACode := (.seq (.seq (.reg k_ref02_sameInts_r4 false) (.cond (.tmp 14) .skip (.exit 0))) (.seq (.block 1 (.seq (.reg k_ref02_sameInts_r5 true) (.cond (.tmp 25) (.seq (.reg k_ref02_sameInts_r6 false) .ret) .skip))) (.reg k_ref02_sameInts_r7 false)))
def k_ref02_sameInts_r9 : List AOper := [
  ⟨some 4, .move (.const (.bool true)), none, []⟩]
def k_ref02_sameInts : AFun := { params := 2, ntmps := 26, body := (.seq (.reg k_ref02_sameInts_r0 false) (.seq (.seq (.reg k_ref02_sameInts_r1 false) (.cond (.tmp 10) (.seq (.reg k_ref02_sameInts_r2 false) .ret) .skip)) (.seq (.seq (.reg k_ref02_sameInts_r3 false) (.block 0 (.loop k_ref02_sameInts_r8))) (.seq (.reg k_ref02_sameInts_r9 false) .ret)))), res := [.tmp 4] }
theorem k_ref02_sameInts_ok : cfun Try.prog Try.f77 = k_ref02_sameInts := by kernel_rfl

def k_ref02_sameTable_r0 : List AOper := [
  ⟨some 4, .move (.const (.bool false)), none, []⟩]
def k_ref02_sameTable_r1 : List AOper := [
  ⟨some 6, .move (.tmp 0), none, []⟩,
 ⟨some 7, .len false (.tmp 6), none, []⟩,
 ⟨some 8, .move (.tmp 1), none, []⟩,
 ⟨some 9, .len false (.tmp 8), none, []⟩,
 ⟨some 10, .bin .plain .neq (.tmp 7) (.tmp 9), none, []⟩]
def k_ref02_sameTable_r2 : List AOper := [
  ⟨some 4, .move (.const (.bool false)), none, []⟩]
def k_ref02_sameTable_r3 : List AOper := [
  ⟨some 5, .move (.const (.int .i64 0)), none, []⟩]
def k_ref02_sameTable_r4 : List AOper := [
  ⟨some 11, .move (.tmp 5), none, []⟩,
 ⟨some 12, .move (.tmp 0), none, []⟩,
 ⟨some 13, .len false (.tmp 12), none, []⟩,
 ⟨some 14, .bin .plain .lss (.tmp 11) (.tmp 13), none, []⟩]
def k_ref02_sameTable_r5 : List AOper := [
  ⟨some 17, .move (.tmp 0), none, []⟩,
 ⟨some 18, .move (.tmp 5), none, [0]⟩,
 ⟨some 19, .indexAddr 1 (.tmp 17) (.tmp 18), none, []⟩,
 ⟨some 20, .load none (.tmp 19), none, []⟩,
 ⟨some 21, .move (.tmp 1), none, [0, 1, 2, 3]⟩,
 ⟨some 22, .move (.tmp 5), none, [0, 1, 2, 3, 4]⟩,
 ⟨some 23, .indexAddr 1 (.tmp 21) (.tmp 22), none, [0, 1, 2, 3]⟩,
 ⟨some 24, .load none (.tmp 23), none, [0, 1, 2, 3]⟩,
 ⟨some 25, .call (.const (.fn (.func 77) [] [])) [.tmp 20, .tmp 24], none, []⟩,
 ⟨some 26, .not (.tmp 25), none, []⟩]
def k_ref02_sameTable_r5s : List (List AOper) := [
  [
  ⟨some 17, .move (.tmp 0), none, []⟩,
 ⟨some 18, .move (.tmp 5), none, [0]⟩,
 ⟨some 19, .indexAddr 1 (.tmp 17) (.tmp 18), none, []⟩,
 ⟨some 20, .load none (.tmp 19), none, []⟩,
 ⟨some 21, .move (.tmp 1), none, [0, 1, 2, 3]⟩,
 ⟨some 22, .move (.tmp 5), none, [0, 1, 2, 3, 4]⟩,
 ⟨some 23, .indexAddr 1 (.tmp 21) (.tmp 22), none, [0, 1, 2, 3]⟩,
 ⟨some 24, .load none (.tmp 23), none, [0, 1, 2, 3]⟩], 
  [
  ⟨some 25, .call (.const (.fn (.func 77) [] [])) [.tmp 20, .tmp 24], none, []⟩], 
  [
  ⟨some 26, .not (.tmp 25), none, []⟩]]
theorem k_ref02_sameTable_r5_sg : segs k_ref02_sameTable_r5 = k_ref02_sameTable_r5s := by kernel_rfl
theorem k_ref02_sameTable_r5_st : statOK k_ref02_sameTable_r5 = true := by kernel_rfl
def k_ref02_sameTable_r6 : List AOper := [
  ⟨some 4, .move (.const (.bool false)), none, []⟩]
def k_ref02_sameTable_r7 : List AOper := [
  ⟨some 15, .move (.tmp 5), none, []⟩,
 ⟨some 16, .bin .plain .add (.tmp 15) (.const (.int .i64 1)), none, []⟩,
 ⟨some 5, .move (.tmp 16), none, []⟩]
def k_ref02_sameTable_r8 : ACode := (.seq (.seq (.reg k_ref02_sameTable_r4 false) (.cond (.tmp 14) .skip (.exit 0))) (.seq (.block 1 (.seq (.reg k_ref02_sameTable_r5 true) (.cond (.tmp 26) (.seq (.reg k_ref02_sameTable_r6 false) .ret) .skip))) (.reg k_ref02_sameTable_r7 false)))
def k_ref02_sameTable_r9 : List AOper := [
  ⟨some 4, .move (.const (.bool true)), none, []⟩]
def k_ref02_sameTable : AFun := { params := 2, ntmps := 27, body := (.seq (.reg k_ref02_sameTable_r0 false) (.seq (.seq (.reg k_ref02_sameTable_r1 false) (.cond (.tmp 10) (.seq (.reg k_ref02_sameTable_r2 false) .ret) .skip)) (.seq (.seq (.reg k_ref02_sameTable_r3 false) (.block 0 (.loop k_ref02_sameTable_r8))) (.seq (.reg k_ref02_sameTable_r9 false) .ret)))), res := [.tmp 4] }
theorem k_ref02_sameTable_ok : cfun Try.prog Try.f78 = k_ref02_sameTable := by kernel_rfl

def k_curve_copied_r0 : List AOper := [
  ⟨some 2, .move (.const (.nilsl)), none, []⟩]
def k_curve_copied_r1 : List AOper := [
  ⟨some 3, .move (.tmp 0), none, []⟩,
 ⟨some 4, .append 1 8 false (.const (.nilsl)) (.tmp 3), none, []⟩,
 ⟨some 2, .move (.tmp 4), none, []⟩]
def k_curve_copied : AFun := { params := 1, ntmps := 5, body := (.seq (.reg k_curve_copied_r0 false) (.seq (.reg k_curve_copied_r1 false) .ret)), res := [.tmp 2] }
theorem k_curve_copied_ok : cfun Try.prog Try.f79 = k_curve_copied := by kernel_rfl

abbrev n_ref02_Same : Nat := 30
theorem e_ref02_Same : EntryOK Try.prog n_ref02_Same k_ref02_Same := ⟨Try.f30, Try.func30, k_ref02_Same_ok, by kernel_rfl⟩
abbrev n_ref02_sameInts : Nat := 77
theorem e_ref02_sameInts : EntryOK Try.prog n_ref02_sameInts k_ref02_sameInts := ⟨Try.f77, Try.func77, k_ref02_sameInts_ok, by kernel_rfl⟩
abbrev n_ref02_sameTable : Nat := 78
theorem e_ref02_sameTable : EntryOK Try.prog n_ref02_sameTable k_ref02_sameTable := ⟨Try.f78, Try.func78, k_ref02_sameTable_ok, by kernel_rfl⟩
abbrev n_curve_copied : Nat := 79
theorem e_curve_copied : EntryOK Try.prog n_curve_copied k_curve_copied := ⟨Try.f79, Try.func79, k_curve_copied_ok, by kernel_rfl⟩
attribute [go_sem] k_ref02_Same_r0 k_ref02_Same_r1
attribute [go_sem] k_ref02_sameInts_r0
attribute [go_sem] k_ref02_sameInts_r1 k_ref02_sameInts_r2 k_ref02_sameInts_r3 k_ref02_sameInts_r4 k_ref02_sameInts_r5s k_ref02_sameInts_r6 k_ref02_sameInts_r7 k_ref02_sameInts_r9 k_ref02_sameTable_r0 k_ref02_sameTable_r1 k_ref02_sameTable_r2 k_ref02_sameTable_r3
attribute [go_sem] k_ref02_sameTable_r4 k_ref02_sameTable_r5s k_ref02_sameTable_r6 k_ref02_sameTable_r7 k_ref02_sameTable_r9 k_curve_copied_r0 k_curve_copied_r1
attribute [go_sem] k_ref02_sameInts_r5_sg k_ref02_sameTable_r5_sg
attribute [go_sem] k_ref02_sameInts_r5_st
attribute [go_sem] k_ref02_sameTable_r5_st
attribute [go_sem] k_ref02_Same k_ref02_sameInts k_ref02_sameTable k_curve_copied
end Go.Proofs

namespace Go.Proofs
open Go Go.Sx

end Go.Proofs

namespace Go.Proofs
open Go Go.Sx

end Go.Proofs

namespace Go.Proofs
open Go Go.Sx

end Go.Proofs

namespace Go.Proofs
open Go Go.Sx

def Dr (w : Int) : Row := .cells false 1 [.agg [.int .u64 w]]
def dstep (w : Int) : Int := IntKind.u64.wrap (w + 11400714819323198485)
def dmix (w : Int) : Int :=
  let z := IntKind.u64.wrap (bitW .xor .u64 w (shrW .u64 w 30) * 13787848793156543929)
  let z := IntKind.u64.wrap (bitW .xor .u64 z (shrW .u64 z 27) * 10723151780598845931)
  bitW .xor .u64 z (shrW .u64 z 31)

theorem dr_bel (w : Int) (S : Nat → Prop) : (Dr w).bel S := by unfold Dr; rw [row_bel_cells]; simp only [go_sem]

theorem bitW_u64 (op : BinOp) (a b : Int) : 0 ≤ bitW op .u64 a b ∧ bitW op .u64 a b ≤ 18446744073709551615 := by
  have hw : ∀ n : Int, 0 ≤ IntKind.u64.wrap n ∧ IntKind.u64.wrap n ≤ 18446744073709551615 := fun n => by simp only [IntKind.wrap, IntKind.bits, IntKind.signed, Bool.false_and, Bool.false_eq_true, if_false]; omega
  unfold bitW bitsOf
  cases op <;> simp only [Option.getD_some, Option.getD_none] <;> first
    | exact hw _
    | omega

def upto (w n : Int) : Int := if n < 1 then 0 else (dmix (dstep w)) % n
theorem upto_in {w n : Int} (h : 1 ≤ n) : 0 ≤ upto w n ∧ upto w n < n := by
  unfold upto
  rw [if_neg (by omega)]
  exact ⟨Int.emod_nonneg _ (by omega), Int.emod_lt_of_pos _ (by omega)⟩
def btw (w lo hi : Int) : Int := lo + upto w (hi - lo + 1)
theorem btw_in {w lo hi : Int} (h : lo ≤ hi) : lo ≤ btw w lo hi ∧ btw w lo hi ≤ hi := by
  have := upto_in (w := w) (n := hi - lo + 1) (by omega)
  unfold btw; omega

def feed (w : Int) : List Int → Int
  | [] => w
  | x :: xs => feed (dstep (bitW .xor .u64 w (IntKind.u64.wrap x))) xs
structure Rg where
  lo : Int
  hi : Int
  deriving Inhabited, DecidableEq

def Rg.v (r : Rg) : AVal := .agg [.int .i64 r.lo, .int .i64 r.hi]
@[go_sem] theorem rg_bel_eq (r : Rg) (S : Nat → Prop) : Bel S r.v = True := by unfold Rg.v; simp only [go_sem]
@[go_sem] theorem rg_nv (r : Rg) : NV r.v = True := by unfold Rg.v; simp only [go_sem]
@[go_sem] theorem dr_bel_eq (w : Int) (S : Nat → Prop) : (Dr w).bel S = True := eq_true (dr_bel w S)
theorem rg_bel (r : Rg) (S : Nat → Prop) : Bel S r.v := by unfold Rg.v; simp only [go_sem]

def hullR (a b : Int) : Rg := ⟨if b < a then b else a, if b > a then b else a⟩
def rngR (w lo hi : Int) : Rg := hullR (btw w lo hi) (btw (dstep w) lo hi)
theorem rngR_in {w lo hi : Int} (h : lo ≤ hi) : lo ≤ (rngR w lo hi).lo ∧ (rngR w lo hi).lo ≤ (rngR w lo hi).hi ∧ (rngR w lo hi).hi ≤ hi := by
  have := btw_in (w := w) h
  have := btw_in (w := dstep w) h
  unfold rngR hullR; simp only; constructor
  · split <;> (try dsimp only) <;> omega
  · constructor <;> (repeat' split) <;> omega

theorem w64 {n : Int} (h : -9223372036854775808 ≤ n ∧ n ≤ 9223372036854775807) : IntKind.i64.wrap n = n := IntWalk.i64_in _ h
end Go.Proofs

namespace Go.Proofs
open Go Go.Sx

theorem next_ok (w : Int) : Ans Try.prog n_kit_Dice_next [.ptr 0 0 0 1] [some (Dr w)] (.int .u64 (dmix (dstep w))) [some (Dr (dstep w))] := by
  refine spec_run e_kit_Dice_next fun G => ?_
  simp only [go_sem, Dr, dmix, dstep]
  exact ⟨_, rfl⟩

theorem upto_ok (w n : Int) (hn : n ≤ 9223372036854775807) : Ans Try.prog n_kit_Dice_Upto [.ptr 0 0 0 1, .int .i64 n] [some (Dr w)] (.int .i64 (upto w n)) [some (Dr (dstep w))] := by
  refine spec_run e_kit_Dice_Upto fun G => ?_
  simp only [go_sem]
  refine callD (next_ok w) rfl trivial (.int _ _) (dr_bel _ _) (dr_bel _ _) (by simp) (by simp) ?_
  simp only [go_sem]
  refine ⟨fun h => ⟨by simp [upto, h], by simp⟩, fun h => ?_⟩
  have hm : 0 ≤ dmix (dstep w) := (bitW_u64 _ _ _).1
  have h1 : IntKind.u64.wrap n = n := IntWalk.u64_in n (by omega)
  have h2 : (dmix (dstep w)).tmod n = dmix (dstep w) % n := Int.tmod_eq_emod_of_nonneg hm
  have h3 := Int.emod_nonneg (dmix (dstep w)) (show n ≠ 0 by omega)
  have h4 := Int.emod_lt_of_pos (dmix (dstep w)) (show 0 < n by omega)
  rw [h1, h2, IntWalk.i64_in _ (by omega)]
  refine ⟨by omega, by rw [upto, if_neg h], _, rfl⟩

theorem between_ok (w lo hi : Int) (h1 : -1152921504606846976 ≤ lo) (h2 : lo ≤ hi) (h3 : hi ≤ 1152921504606846976) : Ans Try.prog n_kit_Dice_Between [.ptr 0 0 0 1, .int .i64 lo, .int .i64 hi] [some (Dr w)] (.int .i64 (btw w lo hi)) [some (Dr (dstep w))] := by
  refine spec_run e_kit_Dice_Between fun G => ?_
  simp only [go_sem]
  rw [IntWalk.i64_in (hi - lo) (by omega), IntWalk.i64_in (hi - lo + 1) (by omega)]
  refine callD (upto_ok w _ (by omega)) rfl ⟨.int _ _, trivial⟩ (.int _ _) (dr_bel _ _) (dr_bel _ _) (by simp) (by simp) ?_
  have := btw_in (w := w) h2
  unfold btw at this
  simp only [go_sem]
  rw [IntWalk.i64_in _ (by omega)]
  exact ⟨rfl, _, rfl⟩

theorem one_ok (w n : Int) (hn : n ≤ 9223372036854775807) : Ans Try.prog n_kit_Dice_One [.ptr 0 0 0 1, .int .i64 n] [some (Dr w)] (.bool (upto w n == 0)) [some (Dr (dstep w))] := by
  refine spec_run e_kit_Dice_One fun G => ?_
  simp only [go_sem]
  refine callD (upto_ok w _ hn) rfl ⟨.int _ _, trivial⟩ (.int _ _) (dr_bel _ _) (dr_bel _ _) (by simp) (by simp) ?_
  simp only [go_sem]
  exact ⟨_, rfl⟩

theorem range_ok (w lo hi : Int) (h1 : -1152921504606846976 ≤ lo) (h2 : lo ≤ hi) (h3 : hi ≤ 1152921504606846976) : Ans Try.prog n_kit_Dice_Range [.ptr 0 0 0 1, .int .i64 lo, .int .i64 hi] [some (Dr w)] (rngR w lo hi).v [some (Dr (dstep (dstep w)))] := by
  refine spec_run e_kit_Dice_Range fun G => ?_
  simp only [go_sem]
  refine callD (between_ok w lo hi h1 h2 h3) rfl ⟨.int _ _, .int _ _, trivial⟩ (.int _ _) (dr_bel _ _) (dr_bel _ _) (by simp) (by simp) ?_
  simp only [go_sem]
  refine callD (between_ok (dstep w) lo hi h1 h2 h3) rfl ⟨.int _ _, .int _ _, trivial⟩ (.int _ _) (dr_bel _ _) (dr_bel _ _) (by simp) (by simp) ?_
  simp only [go_sem]
  exact ⟨rfl, _, rfl⟩

structure Lw where
  perv : Rg
  gain : Rg
  shift : Rg
  full : Rg
  part : Rg
def Lw.cs (l : Lw) : List AVal := [.int .i64 l.perv.lo, .int .i64 l.perv.hi, .int .i64 l.gain.lo, .int .i64 l.gain.hi, .int .i64 l.shift.lo, .int .i64 l.shift.hi, .int .i64 l.full.lo, .int .i64 l.full.hi, .int .i64 l.part.lo, .int .i64 l.part.hi]
def Lw.v (l : Lw) : AVal := .agg l.cs
theorem lw_bel (l : Lw) (S : Nat → Prop) : Bel S l.v := by unfold Lw.v Lw.cs; simp only [go_sem]

def d2 (w : Int) : Int := dstep (dstep w)
def w10 (w : Int) : Int := d2 (d2 (d2 (d2 (d2 w))))
def lawOf (w : Int) : Lw :=
  ⟨rngR w 1000 90000, if upto (d2 (w10 w)) 8 = 0 then ⟨1, btw (dstep (d2 (w10 w))) 1 400⟩ else rngR (d2 w) 5000 60000, rngR (d2 (d2 w)) (-800) 800,
   if upto (w10 w) 3 = 0 then ⟨1000000, 1000000⟩ else rngR (d2 (d2 (d2 w))) 2000 60000, if upto (dstep (w10 w)) 2 = 0 then ⟨1000000, 1000000⟩ else rngR (d2 (d2 (d2 (d2 w)))) 500000 1000000⟩
def lawEnd (w : Int) : Int := if upto (d2 (w10 w)) 8 = 0 then d2 (d2 (w10 w)) else dstep (d2 (w10 w))

structure LwOK (l : Lw) : Prop where
  perv : 0 ≤ l.perv.lo ∧ l.perv.lo ≤ l.perv.hi ∧ l.perv.hi ≤ 1000000
  gain : 1 ≤ l.gain.lo ∧ l.gain.lo ≤ l.gain.hi ∧ l.gain.hi ≤ 1000000
  shift : -1000000 ≤ l.shift.lo ∧ l.shift.lo ≤ l.shift.hi ∧ l.shift.hi ≤ 1000000
  full : 0 ≤ l.full.lo ∧ l.full.lo ≤ l.full.hi ∧ l.full.hi ≤ 1000000
  part : 0 ≤ l.part.lo ∧ l.part.lo ≤ l.part.hi ∧ l.part.hi ≤ 1000000

theorem lawOf_in (w : Int) : LwOK (lawOf w) := by
  have h1 := rngR_in (w := w) (lo := 1000) (hi := 90000) (by decide)
  have h2 := rngR_in (w := d2 w) (lo := 5000) (hi := 60000) (by decide)
  have h3 := rngR_in (w := d2 (d2 w)) (lo := -800) (hi := 800) (by decide)
  have h4 := rngR_in (w := d2 (d2 (d2 w))) (lo := 2000) (hi := 60000) (by decide)
  have h5 := rngR_in (w := d2 (d2 (d2 (d2 w)))) (lo := 500000) (hi := 1000000) (by decide)
  have h6 := btw_in (w := dstep (d2 (w10 w))) (lo := 1) (hi := 400) (by decide)
  constructor <;> unfold lawOf <;> dsimp only
  · omega
  · split <;> (try dsimp only) <;> omega
  · omega
  · split <;> (try dsimp only) <;> omega
  · split <;> (try dsimp only) <;> omega

theorem lawof_ok (w : Int) : Ans Try.prog n_kit_LawOf [.ptr 0 0 0 1] [some (Dr w)] (lawOf w).v [some (Dr (lawEnd w))] := by
  refine spec_run e_kit_LawOf fun G => ?_
  simp only [go_sem]
  refine callD (range_ok w 1000 90000 (by decide) (by decide) (by decide)) rfl ⟨.int _ _, .int _ _, trivial⟩ (rg_bel _ _) (dr_bel _ _) (dr_bel _ _) (by simp) (by simp) ?_
  simp only [go_sem]
  refine callD (range_ok _ 5000 60000 (by decide) (by decide) (by decide)) rfl ⟨.int _ _, .int _ _, trivial⟩ (rg_bel _ _) (dr_bel _ _) (dr_bel _ _) (by simp) (by simp) ?_
  simp only [go_sem]
  refine callD (range_ok _ (-800) 800 (by decide) (by decide) (by decide)) rfl ⟨.int _ _, .int _ _, trivial⟩ (rg_bel _ _) (dr_bel _ _) (dr_bel _ _) (by simp) (by simp) ?_
  simp only [go_sem]
  refine callD (range_ok _ 2000 60000 (by decide) (by decide) (by decide)) rfl ⟨.int _ _, .int _ _, trivial⟩ (rg_bel _ _) (dr_bel _ _) (dr_bel _ _) (by simp) (by simp) ?_
  simp only [go_sem]
  refine callD (range_ok _ 500000 1000000 (by decide) (by decide) (by decide)) rfl ⟨.int _ _, .int _ _, trivial⟩ (rg_bel _ _) (dr_bel _ _) (dr_bel _ _) (by simp) (by simp) ?_
  simp only [go_sem, Rg.v]
  refine callD (one_ok _ 3 (by decide)) rfl ⟨.int _ _, trivial⟩ (.bool _) (dr_bel _ _) (dr_bel _ _) (by simp) (by simp) ?_
  simp only [go_sem]
  refine ⟨fun h1 => ?_, fun h1 => ?_⟩ <;>
  · refine callD (one_ok _ 2 (by decide)) rfl ⟨.int _ _, trivial⟩ (.bool _) (dr_bel _ _) (dr_bel _ _) (by simp) (by simp) ?_
    simp only [go_sem]
    refine ⟨fun h2 => ?_, fun h2 => ?_⟩ <;>
    · refine callD (one_ok _ 8 (by decide)) rfl ⟨.int _ _, trivial⟩ (.bool _) (dr_bel _ _) (dr_bel _ _) (by simp) (by simp) ?_
      simp only [go_sem]
      refine ⟨fun h3 => ?_, fun h3 => ?_⟩
      · refine callD (between_ok _ 1 400 (by decide) (by decide) (by decide)) rfl ⟨.int _ _, .int _ _, trivial⟩ (.int _ _) (dr_bel _ _) (dr_bel _ _) (by simp) (by simp) ?_
        simp only [go_sem]
        exact ⟨by simp only [lawOf, Lw.v, Lw.cs, d2, w10, h1, h2, h3, if_true, if_false], _, by simp only [lawEnd, d2, w10, h3, if_true, if_false]; rfl⟩
      · exact ⟨by simp only [lawOf, Lw.v, Lw.cs, d2, w10, h1, h2, h3, if_true, if_false], _, by simp only [lawEnd, d2, w10, h3, if_true, if_false]; rfl⟩

theorem newdice_ok (xs : List Int) (hl : xs.length ≤ 9223372036854775807) : Ans Try.prog n_kit_NewDice [.view (xs.map (.int .i64))] [] (.ptr 0 0 0 1) [some (Dr (feed (IntKind.u64.wrap (IntKind.u64.wrap xs.length + 1374496523)) xs))] := by
  refine spec_run e_kit_NewDice fun G => ?_
  simp only [go_sem]
  have key : ∀ (zs : List Int) (i : Nat) (w : Int), xs.drop i = zs → i ≤ xs.length →
      Sx.Loop Try.prog G 0 none k_kit_NewDice_r7 [.blk 0, .seq (.seq (.reg k_kit_NewDice_r8 false) .ret)] ⟨[.view (xs.map (.int .i64)), .any, .nilptr, .ptr 0 0 0 1, .int .i64 i] ++ List.replicate 28 .any, [some (Dr w)], []⟩
        (RetPost [ARes.tmp 2] fun v H' => v = .ptr 0 0 0 1 ∧ ∃ X, H' = some (Dr (feed w zs)) :: X) := by
    intro zs
    induction zs with
    | nil =>
      intro i w hd hi
      have : xs.length ≤ i := by simpa using hd
      have h1 : ¬ (i : Int) < xs.length := by omega
      refine loop_body 200 k_kit_NewDice_r7.eq_1 ?_
      simp only [go_sem, h1, feed]
      exact ⟨_, rfl⟩
    | cons z zs ih =>
      intro i w hd hi
      have hx : xs[i]? = some z := by have := congrArg (·[0]?) hd; simpa using this
      have h1 : i < xs.length := (List.getElem?_eq_some_iff.1 hx).1
      have h2 : (i : Int) < xs.length := by omega
      have h3 : IntKind.i64.wrap ((i : Int) + 1) = ((i + 1 : Nat) : Int) := by rw [IntWalk.i64_in _ (by omega)]; rfl
      have hd' : xs.drop (i + 1) = zs := by have := congrArg (List.drop 1) hd; simpa [Nat.add_comm] using this
      refine loop_body 200 k_kit_NewDice_r7.eq_1 ?_
      simp only [go_sem, hx, h2, Dr]
      refine callD (next_ok _) rfl trivial (.int _ _) (dr_bel _ _) (dr_bel _ _) (by simp) (by simp) ?_
      simp only [go_sem, h3]
      refine loop_wk ?_ (ih (i + 1) _ hd' h1)
      simp [Wk]
  refine loop_wk ?_ (key xs 0 _ rfl (Nat.zero_le _))
  simp [Wk]
end Go.Proofs

namespace Go.Proofs
open Go Go.Sx

theorem within_ok (n a b : Int) : Ans Try.prog n_curve_within [.int .i64 n, .int .i64 a, .int .i64 b] [] (.bool (decide (a ≤ n) && decide (n ≤ b))) [] := by
  refine spec_run e_curve_within fun G => ?_
  simp only [go_sem]
  refine ⟨fun h => ?_, fun h => ?_⟩ <;> simp [h]

theorem rightGrid_ok (g : Int) : Ans Try.prog n_curve_rightGrid [.int .i64 g] [] (.bool (decide (-1000000 ≤ g) && decide (g ≤ 1000000))) [] := by
  refine spec_run e_curve_rightGrid fun G => ?_
  simp only [go_sem]
  refine callP (within_ok _ _ _) ⟨.int _ _, .int _ _, .int _ _, trivial⟩ (.bool _) (by simp) (by simp) ?_
  simp only [go_sem]

theorem rightPlate_ok (g : Int) : Ans Try.prog n_curve_rightPlate [.int .i64 g] [] (.bool (decide (0 ≤ g) && decide (g ≤ 1000000))) [] := by
  refine spec_run e_curve_rightPlate fun G => ?_
  simp only [go_sem]
  refine callP (within_ok _ _ _) ⟨.int _ _, .int _ _, .int _ _, trivial⟩ (.bool _) (by simp) (by simp) ?_
  simp only [go_sem]

def bnd (n : Int) : Int := if n < 0 then 0 else if 1000000 < n then 1000000 else n

def rup (n b : Int) : Int := (n + b - 1) / b

def driveOf (l : Lw) (g p : Int) : Rg := ⟨bnd (g + l.shift.lo + (1000 * p) / l.gain.hi), bnd (g + l.shift.hi + rup (1000 * p) l.gain.lo)⟩

theorem shr_u64 (x n : Int) : shrW .u64 x n = x / 2 ^ (min n.toNat 64) := by
  unfold shrW; rw [Int.fdiv_eq_ediv_of_nonneg _ (by exact Int.pow_nonneg (by decide))]; rfl

end Go.Proofs

namespace Go.Fam

def fnz (e : Nat → Int) : Nat → Nat → Int
  | _, 0 => 0
  | i, n + 1 => if e i = 0 then fnz e (i + 1) n else e i
theorem fnz_zero {e : Nat → Int} : ∀ {n i : Nat}, fnz e i n = 0 ↔ ∀ j, i ≤ j → j < i + n → e j = 0
  | 0, i => by simp only [fnz, true_iff]; intro j h1 h2; omega
  | n + 1, i => by
    simp only [fnz]
    split
    · rename_i h
      rw [fnz_zero]
      constructor
      · intro h1 j h2 h3
        by_cases hj : j = i
        · subst hj; exact h
        · exact h1 j (by omega) (by omega)
      · intro h1 j h2 h3; exact h1 j (by omega) (by omega)
    · rename_i h
      constructor
      · intro h1; exact absurd h1 h
      · intro h1; exact absurd (h1 i (Nat.le_refl _) (by omega)) h
structure Fa where
  g : List Int
  p : List Int
  lo : List (List Int)
  hi : List (List Int)

def at1 (l : List Int) (i : Nat) : Int := l.getD i 0
def tg (t : List (List Int)) (i k : Nat) : Int := (t.getD i []).getD k 0

def ascAt (a : Int) (l : List Int) (i : Nat) : Int := if a ≤ at1 l i ∧ at1 l i ≤ 1000000 then (if 0 < i ∧ at1 l i ≤ at1 l (i - 1) then 11 else 0) else 2
def ascE (a : Int) (l : List Int) : Int := fnz (ascAt a l) 0 l.length
def lineE (g p : List Int) : Int := if g.length = 0 ∨ p.length = 0 then 6 else if 40 < g.length ∨ 40 < p.length then 8 else if ascE (-1000000) g = 0 then ascE 0 p else ascE (-1000000) g
def formB (m n : Nat) (t : List (List Int)) : Bool := t.all (fun r => r.length == n) && t.length == m
def plE (f : Fa) (i k : Nat) : Int :=
  if (0 ≤ tg f.lo i k ∧ tg f.lo i k ≤ 1000000) ∧ (0 ≤ tg f.hi i k ∧ tg f.hi i k ≤ 1000000) then
    if tg f.hi i k < tg f.lo i k then 12
    else if 0 < k ∧ (tg f.lo i k < tg f.lo i (k - 1) ∨ tg f.hi i k < tg f.hi i (k - 1)) then 11
    else if 0 < i ∧ (tg f.lo i k < tg f.lo (i - 1) k ∨ tg f.hi i k < tg f.hi (i - 1) k) then 11 else 0
  else 2
def rowE (f : Fa) (i : Nat) : Int := fnz (plE f i) 0 f.p.length
def famE (f : Fa) : Int := if lineE f.g f.p = 0 then (if formB f.g.length f.p.length f.lo = true ∧ formB f.g.length f.p.length f.hi = true then fnz (rowE f) 0 f.g.length else 3) else lineE f.g f.p

structure Asc (a : Int) (l : List Int) : Prop where
  pos : 1 ≤ l.length
  most : l.length ≤ 40
  inn : ∀ i, i < l.length → a ≤ at1 l i ∧ at1 l i ≤ 1000000
  asc : ∀ i, i + 1 < l.length → at1 l i < at1 l (i + 1)

structure FaOK (f : Fa) : Prop where
  g : Asc (-1000000) f.g
  p : Asc 0 f.p
  llen : f.lo.length = f.g.length
  hlen : f.hi.length = f.g.length
  lrow : ∀ r ∈ f.lo, r.length = f.p.length
  hrow : ∀ r ∈ f.hi, r.length = f.p.length
  inn : ∀ i k, i < f.g.length → k < f.p.length → 0 ≤ tg f.lo i k ∧ tg f.lo i k ≤ tg f.hi i k ∧ tg f.hi i k ≤ 1000000
  right : ∀ i k, i < f.g.length → k + 1 < f.p.length → tg f.lo i k ≤ tg f.lo i (k + 1) ∧ tg f.hi i k ≤ tg f.hi i (k + 1)
  up : ∀ i k, i + 1 < f.g.length → k < f.p.length → tg f.lo i k ≤ tg f.lo (i + 1) k ∧ tg f.hi i k ≤ tg f.hi (i + 1) k

theorem ascAt_zero {a : Int} {l : List Int} {i : Nat} : ascAt a l i = 0 ↔ (a ≤ at1 l i ∧ at1 l i ≤ 1000000) ∧ (0 < i → at1 l (i - 1) < at1 l i) := by
  unfold ascAt
  constructor
  · intro h
    split at h
    · rename_i h1
      split at h
      · cases h
      · rename_i h2; exact ⟨h1, fun h3 => by omega⟩
    · cases h
  · rintro ⟨h1, h2⟩
    rw [if_pos h1, if_neg (by omega)]
theorem asc_iff {a : Int} {l : List Int} (h1 : 1 ≤ l.length) (h2 : l.length ≤ 40) : ascE a l = 0 ↔ Asc a l := by
  unfold ascE
  rw [fnz_zero]
  constructor
  · intro h
    refine ⟨h1, h2, fun i hi => (ascAt_zero.1 (h i (Nat.zero_le _) (by omega))).1, fun i hi => ?_⟩
    have := (ascAt_zero.1 (h (i + 1) (Nat.zero_le _) (by omega))).2 (by omega)
    simpa using this
  · intro h j _ hj
    refine ascAt_zero.2 ⟨h.inn j (by omega), fun h0 => ?_⟩
    have := h.asc (j - 1) (by omega)
    rwa [show j - 1 + 1 = j by omega] at this
theorem line_iff {g p : List Int} : lineE g p = 0 ↔ Asc (-1000000) g ∧ Asc 0 p := by
  unfold lineE
  by_cases h1 : g.length = 0 ∨ p.length = 0
  · rw [if_pos h1]
    constructor
    · intro h; cases h
    · rintro ⟨a, b⟩; have := a.pos; have := b.pos; omega
  · rw [if_neg h1]
    by_cases h2 : 40 < g.length ∨ 40 < p.length
    · rw [if_pos h2]
      constructor
      · intro h; cases h
      · rintro ⟨a, b⟩; have := a.most; have := b.most; omega
    · rw [if_neg h2]
      rw [← asc_iff (by omega) (by omega), ← asc_iff (by omega) (by omega)]
      by_cases h3 : ascE (-1000000) g = 0
      · rw [if_pos h3]; exact ⟨fun h => ⟨h3, h⟩, fun h => h.2⟩
      · rw [if_neg h3]; exact ⟨fun h => absurd h h3, fun h => absurd h.1 h3⟩
theorem form_iff {m n : Nat} {t : List (List Int)} : formB m n t = true ↔ t.length = m ∧ ∀ r ∈ t, r.length = n := by
  unfold formB
  simp only [Bool.and_eq_true, List.all_eq_true, beq_iff_eq]
  exact and_comm
theorem Asc.lt {a : Int} {l : List Int} (h : Asc a l) : ∀ {i j : Nat}, i < j → j < l.length → at1 l i < at1 l j := by
  intro i j hij hj
  induction j with
  | zero => omega
  | succ j ih =>
    by_cases hi : i = j
    · subst hi; exact h.asc i hj
    · have := ih (by omega) (by omega)
      have := h.asc j hj; omega
def cup (n b : Int) : Int := (n + b - 1) / b
theorem cup_eq (n b : Int) (hb : 0 < b) : cup n b = -(-n / b) := by
  unfold cup
  have h1 := Int.emod_add_mul_ediv (-n) b
  have h2 := Int.emod_nonneg (-n) (show b ≠ 0 by omega)
  have h3 := Int.emod_lt_of_pos (-n) hb
  have e : n + b - 1 = (b - 1 - (-n) % b) + b * (-(-n / b)) := by rw [Int.mul_neg]; omega
  rw [e, Int.add_mul_ediv_left _ _ (by omega), Int.ediv_eq_zero_of_lt (by omega) (by omega), Int.zero_add]
end Go.Fam
namespace Go.Fam
end Go.Fam

namespace Go.Fam
open Go.Proofs

def insL (n : Int) : List Int → List Int
  | [] => [n]
  | x :: l => if x < n then x :: insL n l else if x = n then x :: l else n :: x :: l
def cntL (n : Int) : List Int → Nat
  | [] => 0
  | x :: l => if x < n then cntL n l + 1 else 0
theorem cntL_le (n : Int) : ∀ l, cntL n l ≤ l.length
  | [] => Nat.le_refl _
  | x :: l => by
    have := cntL_le n l
    simp only [cntL]
    split <;> simp <;> omega
theorem insL_eq (n : Int) : ∀ l, insL n l = if l[cntL n l]? = some n then l else l.take (cntL n l) ++ n :: l.drop (cntL n l)
  | [] => by simp [insL, cntL]
  | x :: l => by
    have ih := insL_eq n l
    simp only [insL, cntL]
    by_cases h : x < n
    · simp only [h, if_true, List.getElem?_cons_succ, List.take_succ_cons, List.drop_succ_cons, ih]
      split <;> simp
    · by_cases h2 : x = n
      · simp [h2]
      · simp [h, h2]
theorem insL_len (n : Int) : ∀ l, 1 ≤ (insL n l).length ∧ (insL n l).length ≤ l.length + 1
  | [] => by simp [insL]
  | x :: l => by
    have := insL_len n l
    simp only [insL]
    split
    · simp; omega
    · split <;> simp
theorem insL_mem {n : Int} : ∀ {l : List Int} {y : Int}, y ∈ insL n l → y = n ∨ y ∈ l
  | [], y, h => by simp [insL] at h; exact .inl h
  | x :: l, y, h => by
    simp only [insL] at h
    split at h
    · rcases List.mem_cons.1 h with rfl | h
      · exact .inr (by simp)
      · rcases insL_mem h with h | h
        · exact .inl h
        · exact .inr (by simp [h])
    · split at h
      · exact .inr h
      · rcases List.mem_cons.1 h with h | h
        · exact .inl h
        · exact .inr h
theorem insL_asc {n : Int} : ∀ {l : List Int}, l.Pairwise (· < ·) → (insL n l).Pairwise (· < ·)
  | [], _ => by simp [insL]
  | x :: l, h => by
    rw [List.pairwise_cons] at h
    simp only [insL]
    split
    · rename_i hx
      rw [List.pairwise_cons]
      refine ⟨fun y hy => ?_, insL_asc h.2⟩
      rcases insL_mem hy with rfl | hy
      · exact hx
      · exact h.1 y hy
    · split
      · rw [List.pairwise_cons]; exact h
      · rw [List.pairwise_cons, List.pairwise_cons]
        refine ⟨fun y hy => ?_, h⟩
        rcases List.mem_cons.1 hy with rfl | hy
        · omega
        · have := h.1 y hy; omega

def linesGo (lo hi : Int) : Nat → Int → List Int → List Int × Int
  | 0, w, out => (out, w)
  | m + 1, w, out => linesGo lo hi m (dstep w) (insL (btw w lo hi) out)
def linesOf (w lo hi most : Int) : List Int := (linesGo lo hi (btw w 1 most).toNat (dstep w) []).1
def linesEnd (w lo hi most : Int) : Int := (linesGo lo hi (btw w 1 most).toNat (dstep w) []).2
theorem linesGo_ok {lo hi : Int} (hlh : lo ≤ hi) : ∀ (m : Nat) (w : Int) (out : List Int), out.Pairwise (· < ·) → (∀ x ∈ out, lo ≤ x ∧ x ≤ hi) → (0 < m ∨ 1 ≤ out.length) →
    ((linesGo lo hi m w out).1.Pairwise (· < ·) ∧ (∀ x ∈ (linesGo lo hi m w out).1, lo ≤ x ∧ x ≤ hi) ∧ 1 ≤ (linesGo lo hi m w out).1.length ∧ (linesGo lo hi m w out).1.length ≤ out.length + m)
  | 0, w, out, h1, h2, h3 => ⟨h1, h2, by simp only [linesGo]; omega, by simp [linesGo]⟩
  | m + 1, w, out, h1, h2, h3 => by
    have hb := btw_in (w := w) hlh
    have hl := insL_len (btw w lo hi) out
    obtain ⟨a, b, c, d⟩ := linesGo_ok hlh m (dstep w) (insL (btw w lo hi) out) (insL_asc h1) (fun x hx => by
      rcases insL_mem hx with rfl | hx
      · exact hb
      · exact h2 x hx) (.inr hl.1)
    exact ⟨a, b, c, by simp only [linesGo] at d ⊢; omega⟩
theorem asc_of {a lo hi : Int} {l : List Int} (h1 : l.Pairwise (· < ·)) (h2 : ∀ x ∈ l, lo ≤ x ∧ x ≤ hi) (h3 : 1 ≤ l.length) (h4 : l.length ≤ 40) (ha : a ≤ lo) (hb : hi ≤ 1000000) : Asc a l := by
  have get : ∀ i (hi : i < l.length), at1 l i = l[i] := fun i hi => by unfold at1; rw [List.getD_eq_getElem?_getD, List.getElem?_eq_getElem hi]; rfl
  refine ⟨h3, h4, fun i hi => ?_, fun i hi => ?_⟩
  · rw [get i hi]
    have := h2 _ (List.getElem_mem hi); omega
  · rw [get i (by omega), get (i + 1) hi]
    exact List.pairwise_iff_getElem.1 h1 i (i + 1) (by omega) hi (by omega)
theorem linesOf_ok {w lo hi most a : Int} (hlh : lo ≤ hi) (hm : 1 ≤ most ∧ most ≤ 40) (ha : a ≤ lo) (hb : hi ≤ 1000000) : Asc a (linesOf w lo hi most) ∧ (linesOf w lo hi most).length ≤ most.toNat := by
  have hbt := btw_in (w := w) hm.1
  obtain ⟨h1, h2, h3, h4⟩ := linesGo_ok hlh (btw w 1 most).toNat (dstep w) [] List.Pairwise.nil (by simp) (.inl (by omega))
  simp only [List.length_nil, Nat.zero_add] at h4
  have h5 : (linesOf w lo hi most).length ≤ (btw w 1 most).toNat := h4
  exact ⟨asc_of h1 h2 h3 (by omega) ha hb, by omega⟩

def mx (a b : Int) : Int := if b > a then b else a
structure Cell where
  lo : Int
  hi : Int
  w : Int
def cellA (w : Int) (u : Option (Int × Int)) : Int := match u with | none => upto w 60 | some u => mx (upto w 60) (u.1 + upto (dstep (dstep w)) 20)
def cellB (w : Int) (u : Option (Int × Int)) : Int := match u with | none => upto (dstep w) 30 | some u => mx (cellA w (some u) + upto (dstep w) 30) u.2 - cellA w (some u)
def cellA2 (w : Int) (u l : Option (Int × Int)) : Int := match l with | none => cellA w u | some l => mx (cellA w u) l.1
def cellB2 (w : Int) (u l : Option (Int × Int)) : Int := match l with | none => cellB w u | some l => mx (cellA2 w u (some l) + cellB w u) l.2 - cellA2 w u (some l)
def cellB3 (w : Int) (u l : Option (Int × Int)) : Int := match u with | none => cellB2 w u l | some v => mx (cellA2 w u l + cellB2 w u l) v.2 - cellA2 w u l
def cellW (w : Int) (u : Option (Int × Int)) : Int := match u with | none => dstep (dstep w) | some _ => dstep (dstep (dstep w))
def cell (w : Int) (u l : Option (Int × Int)) : Cell := ⟨cellA2 w u l, cellA2 w u l + mx 0 (cellB3 w u l), cellW w u⟩

def prevOf (lo hi : List Int) : Option (Int × Int) := if lo.length = 0 then none else some (at1 lo (lo.length - 1), at1 hi (lo.length - 1))
def upOf (U : Option (List Int × List Int)) (k : Nat) : Option (Int × Int) := U.map fun u => (at1 u.1 k, at1 u.2 k)
structure RowR where
  lo : List Int
  hi : List Int
  w : Int
def rowGo (U : Option (List Int × List Int)) : Nat → Int → List Int → List Int → RowR
  | 0, w, lo, hi => ⟨lo, hi, w⟩
  | m + 1, w, lo, hi => rowGo U m (cell w (upOf U lo.length) (prevOf lo hi)).w (lo ++ [(cell w (upOf U lo.length) (prevOf lo hi)).lo]) (hi ++ [(cell w (upOf U lo.length) (prevOf lo hi)).hi])
structure TabR where
  lo : List (List Int)
  hi : List (List Int)
  w : Int
def lastOf (L H : List (List Int)) : Option (List Int × List Int) := if L.length = 0 then none else some (L.getD (L.length - 1) [], H.getD (L.length - 1) [])
def tabGo (n : Nat) : Nat → Int → List (List Int) → List (List Int) → TabR
  | 0, w, L, H => ⟨L, H, w⟩
  | m + 1, w, L, H => tabGo n m (rowGo (lastOf L H) n w [] []).w (L ++ [(rowGo (lastOf L H) n w [] []).lo]) (H ++ [(rowGo (lastOf L H) n w [] []).hi])
theorem rowGo_len (U : Option (List Int × List Int)) : ∀ (m : Nat) (w : Int) (lo hi : List Int), (rowGo U m w lo hi).lo.length = lo.length + m ∧ (rowGo U m w lo hi).hi.length = hi.length + m
  | 0, w, lo, hi => ⟨rfl, rfl⟩
  | m + 1, w, lo, hi => by
    have := rowGo_len U m (cell w (upOf U lo.length) (prevOf lo hi)).w (lo ++ [(cell w (upOf U lo.length) (prevOf lo hi)).lo]) (hi ++ [(cell w (upOf U lo.length) (prevOf lo hi)).hi])
    simp only [rowGo, List.length_append, List.length_singleton] at this ⊢
    omega
end Go.Fam

namespace Go.Proofs
open Go Go.Sx Go.Fam
attribute [local irreducible] Run

def vw (l : List Int) : AVal := .view (l.map (.int .i64))
def tw (t : List (List Int)) : AVal := .view (t.map vw)
def Fcs (f : Fa) : List AVal := [vw f.g, vw f.p, tw f.lo, tw f.hi]
def Fv (f : Fa) : AVal := .agg (Fcs f)
@[go_sem] theorem vw_bel (l : List Int) (S : Nat → Prop) : Bel S (vw l) = True := by unfold vw; rw [bel_view, bels_ints]
@[go_sem] theorem tw_bel (t : List (List Int)) (S : Nat → Prop) : Bel S (tw t) = True := by
  unfold tw; rw [bel_view]; exact eq_true (bels_map _ _ fun l => by rw [vw_bel]; trivial)
@[go_sem] theorem Fv_bel (f : Fa) (S : Nat → Prop) : Bel S (Fv f) = True := by unfold Fv Fcs; simp only [go_sem]
theorem get_at {l : List Int} {i : Nat} (h : i < l.length) : l[i]? = some (at1 l i) := by
  unfold at1; rw [List.getD_eq_getElem?_getD, List.getElem?_eq_getElem h]; rfl
theorem idx_next {i n : Nat} (h : i < n) (hn : n ≤ 9223372036854775807) : IntKind.i64.wrap ((i : Int) + 1) = ((i + 1 : Nat) : Int) := by rw [w64 (by omega)]; rfl

theorem rightG_fn (v : Int) : Ans Try.prog n_curve_rightGrid [.int .i64 v] [] (.bool (decide (-1000000 ≤ v ∧ v ≤ 1000000))) [] := by
  have := rightGrid_ok v
  rwa [← Bool.decide_and] at this
theorem rightP_fn (v : Int) : Ans Try.prog n_curve_rightPlate [.int .i64 v] [] (.bool (decide (0 ≤ v ∧ v ≤ 1000000))) [] := by
  have := rightPlate_ok v
  rwa [← Bool.decide_and] at this

theorem checkAscending_run (a : Int) (g : Nat) (hg : ∀ v : Int, Ans Try.prog g [.int .i64 v] [] (.bool (decide (a ≤ v ∧ v ≤ 1000000))) []) (l : List Int) (hl : l.length ≤ 9223372036854775807) :
    Ans Try.prog n_curve_checkAscending [vw l, .fn (.func g) [] []] [] (.int .i64 (ascE a l)) [] := by
  refine spec_run e_curve_checkAscending fun G => ?_
  simp only [go_sem, vw, List.length_map]
  refine loop_ind k_curve_checkAscending_r9.eq_1 (fun i : Nat => i ≤ l.length ∧ ascE a l = fnz (ascAt a l) i (l.length - i)) (fun i => l.length - i)
    (fun i => (tsets 30 [(1, .fn (.func g) [] []), (4, .int .i64 0), (7, .view (l.map (.int .i64))), (8, .int .i64 l.length), (9, .int .i64 i), (0, .view (l.map (.int .i64)))], [])) 0 ⟨Nat.zero_le _, rfl⟩ (by simp [go_sem]) rfl ?_
  rintro i ⟨hi, hE⟩ ih
  dsimp only at hi hE ih ⊢
  by_cases h1 : i < l.length
  · have h2 : (i : Int) < l.length := by omega
    have n0 : ¬ (i : Int) < 0 := by omega
    have h3 := idx_next h1 hl
    have hx := get_at h1
    have hs : l.length - i = (l.length - (i + 1)) + 1 := by omega
    rw [hs] at hE
    simp only [fnz] at hE
    have hq := hg (at1 l i)
    simp only [go_sem, h2, n0, hx]
    refine cP hq ?_
    by_cases c1 : a ≤ at1 l i ∧ at1 l i ≤ 1000000
    · by_cases h0 : 0 < i
      · obtain ⟨j, rfl⟩ : ∃ j, i = j + 1 := ⟨i - 1, by omega⟩
        have hy := get_at (l := l) (i := j) (by omega)
        have e0 : ((j + 1 : Nat) : Int) > 0 := by omega
        have e2 : IntKind.i64.wrap (((j + 1 : Nat) : Int) - 1) = j := by rw [w64 (by omega)]; omega
        have e4 : ¬ (j : Int) < 0 := by omega
        by_cases c2 : at1 l (j + 1) ≤ at1 l j
        · have : ascAt a l (j + 1) = 11 := by unfold ascAt; rw [if_pos c1, if_pos ⟨h0, by simpa using c2⟩]
          rw [this] at hE
          simp only [go_sem, c1, e0, e2, e4, hy, Int.toNat_natCast, c2]
          exact hE.symm
        · have : ascAt a l (j + 1) = 0 := by unfold ascAt; rw [if_pos c1, if_neg (by simpa using c2)]
          rw [this, if_pos rfl] at hE
          simp only [go_sem, c1, e0, e2, e4, hy, Int.toNat_natCast, c2, h3]
          exact ih (j + 1 + 1) (by omega) ⟨h1, hE⟩ _ (by simp [go_sem])
      · obtain rfl : i = 0 := by omega
        have e0 : ¬ ((0 : Nat) : Int) > 0 := by omega
        have : ascAt a l 0 = 0 := by unfold ascAt; rw [if_pos c1, if_neg (by omega)]
        rw [this, if_pos rfl] at hE
        simp only [go_sem, c1, e0, h3]
        exact ih (0 + 1) (by omega) ⟨h1, hE⟩ _ (by simp [go_sem]; rfl)
    · have : ascAt a l i = 2 := by unfold ascAt; rw [if_neg c1]
      rw [this] at hE
      simp only [go_sem, c1]
      exact hE.symm
  · have h2 : ¬ (i : Int) < l.length := by omega
    have : l.length - i = 0 := by omega
    rw [this] at hE
    simp only [go_sem, h2]
    exact hE.symm
end Go.Proofs

namespace Go.Proofs
open Go Go.Sx Go.Fam
attribute [local irreducible] Run

theorem checkLines_run (g p : List Int) (hg : g.length ≤ 9223372036854775807) (hp : p.length ≤ 9223372036854775807) : Ans Try.prog n_curve_checkLines [vw g, vw p] [] (.int .i64 (lineE g p)) [] := by
  have k1 := checkAscending_run (-1000000) _ rightG_fn g hg
  have k2 := checkAscending_run 0 _ rightP_fn p hp
  simp only [vw] at k1 k2
  refine spec_run e_curve_checkLines fun G => ?_
  unfold lineE
  by_cases c1 : g.length = 0 ∨ p.length = 0
  · rw [if_pos c1]
    by_cases c2 : g.length = 0
    · simp only [go_sem, vw, List.length_map, c2]
    · have c3 : p.length = 0 := by omega
      have n1 : ((g.length : Int) == 0) = false := beq_eq_false_iff_ne.2 (by omega)
      simp only [go_sem, vw, List.length_map, n1, c3]
  · rw [if_neg c1]
    have n1 : ((g.length : Int) == 0) = false := beq_eq_false_iff_ne.2 (by omega)
    have n2 : ((p.length : Int) == 0) = false := beq_eq_false_iff_ne.2 (by omega)
    by_cases c2 : 40 < g.length ∨ 40 < p.length
    · rw [if_pos c2]
      by_cases c3 : 40 < g.length
      · have n3 : (g.length : Int) > 40 := by omega
        simp only [go_sem, vw, List.length_map, n1, n2, n3]
      · have n3 : ¬ (g.length : Int) > 40 := by omega
        have n4 : (p.length : Int) > 40 := by omega
        simp only [go_sem, vw, List.length_map, n1, n2, n3, n4]
    · rw [if_neg c2]
      have n3 : ¬ (g.length : Int) > 40 := by omega
      have n4 : ¬ (p.length : Int) > 40 := by omega
      simp only [go_sem, vw, List.length_map, n1, n2, n3, n4]
      refine cP k1 ?_
      by_cases c3 : ascE (-1000000) g = 0
      · rw [if_pos c3]
        simp only [go_sem, c3]
        refine cP k2 ?_
        simp only [go_sem]
      · rw [if_neg c3]
        have n5 : (ascE (-1000000) g == 0) = false := beq_eq_false_iff_ne.2 c3
        simp only [go_sem, n5, bne]

theorem hasForm_run (t : List (List Int)) (f : Fa) (ht : t.length ≤ 9223372036854775807) : Ans Try.prog n_curve_hasForm [tw t, Fv f] [] (.bool (formB f.g.length f.p.length t)) [] := by
  refine spec_run e_curve_hasForm fun G => ?_
  simp only [go_sem, tw, Fv, Fcs, vw, List.length_map]
  refine loop_ind k_curve_hasForm_r7.eq_1 (fun i : Nat => i ≤ t.length ∧ ∀ r ∈ t.take i, r.length = f.p.length) (fun i => t.length - i)
    (fun i => (tsets 26 [(0, tw t), (3, .ptr 0 0 0 1), (4, .bool false), (7, tw t), (8, .int .i64 t.length), (9, .int .i64 i)], [some (.cells false 4 [Fv f])])) 0 ⟨Nat.zero_le _, by simp⟩ (by simp [go_sem, tw, vw]) (by simp [Fv, Fcs, vw, tw]) ?_
  rintro i ⟨hi, hT⟩ ih
  dsimp only at hi hT ih ⊢
  by_cases h1 : i < t.length
  · have h2 : (i : Int) < t.length := by omega
    have n0 : ¬ (i : Int) < 0 := by omega
    have h3 := idx_next h1 ht
    obtain ⟨r, hr⟩ : ∃ r, t[i]? = some r := ⟨_, List.getElem?_eq_getElem h1⟩
    by_cases c : r.length = f.p.length
    · have n1 : ((r.length : Int) == f.p.length) = true := by simp [c]
      simp only [go_sem, h2, n0, hr, tw, vw, Fv, Fcs, List.length_map, n1, bne, h3]
      exact ih (i + 1) (by omega) ⟨h1, fun q hq => by
        rw [List.take_add_one, hr] at hq
        rcases List.mem_append.1 hq with hq | hq
        · exact hT q hq
        · simp at hq; subst hq; exact c⟩ _ (by simp [go_sem, tw, vw])
    · have n1 : ((r.length : Int) == f.p.length) = false := beq_eq_false_iff_ne.2 (by omega)
      have : formB f.g.length f.p.length t = false := by
        rw [Bool.eq_false_iff]; intro hf
        exact c ((form_iff.1 hf).2 r (List.mem_of_getElem? hr))
      simp only [go_sem, h2, n0, hr, tw, vw, Fv, Fcs, List.length_map, n1, bne, this]
  · have h2 : ¬ (i : Int) < t.length := by omega
    obtain rfl : i = t.length := by omega
    rw [List.take_length] at hT
    have : formB f.g.length f.p.length t = ((t.length : Int) == f.g.length) := by
      rw [Bool.eq_iff_iff, form_iff]
      simp only [beq_iff_eq]
      exact ⟨fun h => by omega, fun h => ⟨by omega, hT⟩⟩
    simp only [go_sem, h2, tw, vw, Fv, Fcs, List.length_map, this]

theorem tg_get {t : List (List Int)} {i : Nat} {r : List Int} (h : t[i]? = some r) (k : Nat) : tg t i k = at1 r k := by
  unfold tg at1; simp only [List.getD_eq_getElem?_getD, h, Option.getD_some]
structure Tab (m n : Nat) (t : List (List Int)) : Prop where
  len : t.length = m
  row : ∀ i, i < m → ∃ r, t[i]? = some r ∧ r.length = n
theorem tab_of {m n : Nat} {t : List (List Int)} (h : formB m n t = true) : Tab m n t := by
  obtain ⟨h1, h2⟩ := form_iff.1 h
  exact ⟨h1, fun i hi => ⟨_, List.getElem?_eq_getElem (by omega), h2 _ (List.getElem_mem _)⟩⟩

theorem within_run (n a b : Int) : Ans Try.prog n_curve_within [.int .i64 n, .int .i64 a, .int .i64 b] [] (.bool (decide (a ≤ n ∧ n ≤ b))) [] := by
  have := within_ok n a b
  rwa [← Bool.decide_and] at this
end Go.Proofs

namespace Go.Proofs
open Go Go.Sx Go.Fam
attribute [local irreducible] Run

set_option maxHeartbeats 4000000 in
set_option maxRecDepth 20000 in
theorem checkPlace_run (f : Fa) (hL : Tab f.g.length f.p.length f.lo) (hH : Tab f.g.length f.p.length f.hi) {i k : Nat} (hi : i < f.g.length) (hk : k < f.p.length) (hm : f.g.length ≤ 1000 ∧ f.p.length ≤ 1000) :
    Ans Try.prog n_curve_checkPlace [Fv f, .int .i64 i, .int .i64 k] [] (.int .i64 (plE f i k)) [] := by
  obtain ⟨r, hr, hrl⟩ := hL.row i hi
  obtain ⟨s, hs, hsl⟩ := hH.row i hi
  have a1 := get_at (l := r) (i := k) (by omega)
  have b1 := get_at (l := s) (i := k) (by omega)
  rw [← tg_get hr] at a1
  rw [← tg_get hs] at b1
  have n1 : ¬ (i : Int) < 0 := by omega
  have n2 : ¬ (k : Int) < 0 := by omega
  have w1 := within_run (tg f.lo i k) 0 1000000
  have w2 := within_run (tg f.hi i k) 0 1000000
  refine spec_run e_curve_checkPlace fun G => ?_
  simp only [go_sem, Fv, Fcs, tw, vw, hr, hs, a1, b1, n1, n2, Int.toNat_natCast]
  refine cP w1 ?_
  obtain ⟨e, he⟩ : ∃ e, plE f i k = e := ⟨_, rfl⟩
  rw [he]
  by_cases c1 : 0 ≤ tg f.lo i k ∧ tg f.lo i k ≤ 1000000
  · simp only [go_sem, c1]
    refine cP w2 ?_
    by_cases c2 : 0 ≤ tg f.hi i k ∧ tg f.hi i k ≤ 1000000
    · skip
      by_cases c3 : tg f.hi i k < tg f.lo i k
      · skip
        simp only [go_sem, tw, vw, c2, c3]
        (rw [← he]; unfold plE; (try simp only [Nat.add_sub_cancel]); (repeat' split) <;> omega)
      · skip
        -- the number before in the row
        have before : ∀ (j : Nat), k = j + 1 → r[j]? = some (tg f.lo i j) ∧ s[j]? = some (tg f.hi i j) := fun j hj => by
          rw [tg_get hr, tg_get hs]; exact ⟨get_at (by omega), get_at (by omega)⟩
        have up : ∀ (j : Nat), i = j + 1 → ∃ r' s', f.lo[j]? = some r' ∧ f.hi[j]? = some s' ∧ r'[k]? = some (tg f.lo j k) ∧ s'[k]? = some (tg f.hi j k) := fun j hj => by
          obtain ⟨r', h1, h2⟩ := hL.row j (by omega)
          obtain ⟨s', h3, h4⟩ := hH.row j (by omega)
          refine ⟨r', s', h1, h3, ?_, ?_⟩
          · rw [tg_get h1]; exact get_at (by omega)
          · rw [tg_get h3]; exact get_at (by omega)
        by_cases k0 : 0 < k
        · obtain ⟨j, rfl⟩ : ∃ j, k = j + 1 := ⟨k - 1, by omega⟩
          obtain ⟨u1, u2⟩ := before j rfl
          have e1 : ((j + 1 : Nat) : Int) > 0 := by omega
          have e2 : IntKind.i64.wrap (((j + 1 : Nat) : Int) - 1) = j := by rw [w64 (by omega)]; omega
          have e3 : ¬ (j : Int) < 0 := by omega
          by_cases c4 : tg f.lo i (j + 1) < tg f.lo i j
          · skip
            simp only [go_sem, tw, vw, c2, c3, e1, e2, e3, hr, n1, Int.toNat_natCast, u1, c4]
            (rw [← he]; unfold plE; (try simp only [Nat.add_sub_cancel]); (repeat' split) <;> omega)
          · by_cases c5 : tg f.hi i (j + 1) < tg f.hi i j
            · skip
              simp only [go_sem, tw, vw, c2, c3, e1, e2, e3, hr, hs, n1, Int.toNat_natCast, u1, u2, c4, c5]
              (rw [← he]; unfold plE; (try simp only [Nat.add_sub_cancel]); (repeat' split) <;> omega)
            · skip
              by_cases i0 : 0 < i
              · obtain ⟨m, rfl⟩ : ∃ m, i = m + 1 := ⟨i - 1, by omega⟩
                obtain ⟨r', s', v1, v2, v3, v4⟩ := up m rfl
                have g1 : ((m + 1 : Nat) : Int) > 0 := by omega
                have g2 : IntKind.i64.wrap (((m + 1 : Nat) : Int) - 1) = m := by rw [w64 (by omega)]; omega
                have g3 : ¬ (m : Int) < 0 := by omega
                by_cases c6 : tg f.lo (m + 1) (j + 1) < tg f.lo m (j + 1)
                · skip
                  simp only [go_sem, tw, vw, c2, c3, e1, e2, e3, hr, hs, n1, n2, Int.toNat_natCast, u1, u2, c4, c5, g1, g2, g3, v1, v3, c6]
                  (rw [← he]; unfold plE; (try simp only [Nat.add_sub_cancel]); (repeat' split) <;> omega)
                · by_cases c7 : tg f.hi (m + 1) (j + 1) < tg f.hi m (j + 1)
                  · skip
                    simp only [go_sem, tw, vw, c2, c3, e1, e2, e3, hr, hs, n1, n2, Int.toNat_natCast, u1, u2, c4, c5, g1, g2, g3, v1, v2, v3, v4, c6, c7]
                    (rw [← he]; unfold plE; (try simp only [Nat.add_sub_cancel]); (repeat' split) <;> omega)
                  · skip
                    simp only [go_sem, tw, vw, c2, c3, e1, e2, e3, hr, hs, n1, n2, Int.toNat_natCast, u1, u2, c4, c5, g1, g2, g3, v1, v2, v3, v4, c6, c7]
                    (rw [← he]; unfold plE; (try simp only [Nat.add_sub_cancel]); (repeat' split) <;> omega)
              · skip
                have g1 : ¬ (i : Int) > 0 := by omega
                simp only [go_sem, tw, vw, c2, c3, e1, e2, e3, hr, hs, n1, Int.toNat_natCast, u1, u2, c4, c5, g1]
                (rw [← he]; unfold plE; (try simp only [Nat.add_sub_cancel]); (repeat' split) <;> omega)
        · skip
          have e1 : ¬ (k : Int) > 0 := by omega
          by_cases i0 : 0 < i
          · obtain ⟨m, rfl⟩ : ∃ m, i = m + 1 := ⟨i - 1, by omega⟩
            obtain ⟨r', s', v1, v2, v3, v4⟩ := up m rfl
            have g1 : ((m + 1 : Nat) : Int) > 0 := by omega
            have g2 : IntKind.i64.wrap (((m + 1 : Nat) : Int) - 1) = m := by rw [w64 (by omega)]; omega
            have g3 : ¬ (m : Int) < 0 := by omega
            by_cases c6 : tg f.lo (m + 1) k < tg f.lo m k
            · skip
              simp only [go_sem, tw, vw, c2, c3, e1, n2, Int.toNat_natCast, g1, g2, g3, v1, v3, c6]
              (rw [← he]; unfold plE; (try simp only [Nat.add_sub_cancel]); (repeat' split) <;> omega)
            · by_cases c7 : tg f.hi (m + 1) k < tg f.hi m k
              · skip
                simp only [go_sem, tw, vw, c2, c3, e1, n2, Int.toNat_natCast, g1, g2, g3, v1, v2, v3, v4, c6, c7]
                (rw [← he]; unfold plE; (try simp only [Nat.add_sub_cancel]); (repeat' split) <;> omega)
              · skip
                simp only [go_sem, tw, vw, c2, c3, e1, n2, Int.toNat_natCast, g1, g2, g3, v1, v2, v3, v4, c6, c7]
                (rw [← he]; unfold plE; (try simp only [Nat.add_sub_cancel]); (repeat' split) <;> omega)
          · skip
            have g1 : ¬ (i : Int) > 0 := by omega
            simp only [go_sem, tw, vw, c2, c3, e1, g1]
            (rw [← he]; unfold plE; (try simp only [Nat.add_sub_cancel]); (repeat' split) <;> omega)
    · skip
      simp only [go_sem, c2]
      (rw [← he]; unfold plE; (try simp only [Nat.add_sub_cancel]); (repeat' split) <;> omega)
  · skip
    simp only [go_sem, c1]
    (rw [← he]; unfold plE; (try simp only [Nat.add_sub_cancel]); (repeat' split) <;> omega)
end Go.Proofs

namespace Go.Proofs
open Go Go.Sx Go.Fam
attribute [local irreducible] Run

theorem rowE_step {f : Fa} {i : Nat} (hi : i < f.g.length) : fnz (rowE f) i (f.g.length - i) = if rowE f i = 0 then fnz (rowE f) (i + 1) (f.g.length - (i + 1)) else rowE f i := by
  rw [show f.g.length - i = (f.g.length - (i + 1)) + 1 by omega]; rfl
theorem plE_step {f : Fa} {i k : Nat} (hk : k < f.p.length) : fnz (plE f i) k (f.p.length - k) = if plE f i k = 0 then fnz (plE f i) (k + 1) (f.p.length - (k + 1)) else plE f i k := by
  rw [show f.p.length - k = (f.p.length - (k + 1)) + 1 by omega]; rfl

set_option maxHeartbeats 2000000 in
set_option maxRecDepth 10000 in
theorem Check_run (f : Fa) (hg : f.g.length ≤ 1000000) (hp : f.p.length ≤ 1000000) (hl : f.lo.length ≤ 1000000) (hh : f.hi.length ≤ 1000000) : Ans Try.prog n_curve_Check [Fv f] [] (.int .i64 (famE f)) [] := by
  have k1 := checkLines_run f.g f.p (by omega) (by omega)
  have k2 := hasForm_run f.lo f (by omega)
  have k3 := hasForm_run f.hi f (by omega)
  obtain ⟨e, he⟩ : ∃ e, famE f = e := ⟨_, rfl⟩
  rw [he]
  unfold famE at he
  simp only [Fv, Fcs] at k2 k3
  refine spec_run e_curve_Check fun G => ?_
  simp only [go_sem, Fv, Fcs]
  refine cP k1 ?_
  by_cases c1 : lineE f.g f.p = 0
  · rw [if_pos c1] at he
    obtain ⟨hG, hP⟩ := line_iff.1 c1
    have m1 := hG.most
    have m2 := hP.most
    simp only [go_sem, c1]
    refine cP k2 ?_
    by_cases c2 : formB f.g.length f.p.length f.lo = true
    · simp only [go_sem, c2]
      refine cP k3 ?_
      by_cases c3 : formB f.g.length f.p.length f.hi = true
      · rw [if_pos ⟨c2, c3⟩] at he
        have tL := tab_of c2
        have tH := tab_of c3
        simp only [go_sem, c3, vw, List.length_map]
        refine loop_ind k_curve_Check_r18.eq_1 (fun i : Nat => i ≤ f.g.length ∧ fnz (rowE f) i (f.g.length - i) = e) (fun i => f.g.length - i)
          (fun i => (tsets 48 [(1, .ptr 0 0 0 1), (2, .int .i64 0), (29, .int .i64 f.g.length), (30, .int .i64 i)], [some (.cells false 4 [Fv f])])) 0 ⟨Nat.zero_le _, he⟩ (by simp [go_sem]) (by simp [Fv, Fcs, vw]) ?_
        rintro i ⟨hi, hE⟩ ih
        dsimp only at hi hE ih ⊢
        by_cases h1 : i < f.g.length
        · have h2 : (i : Int) < f.g.length := by omega
          have h3 := idx_next h1 (by omega)
          rw [rowE_step h1] at hE
          simp only [go_sem, h2, Fv, Fcs, vw, List.length_map]
          refine loop_ind k_curve_Check_r16.eq_1 (fun k : Nat => k ≤ f.p.length ∧ fnz (plE f i) k (f.p.length - k) = rowE f i) (fun k => f.p.length - k)
            (fun k => (tsets 48 [(1, .ptr 0 0 0 1), (2, .int .i64 0), (4, .int .i64 i), (29, .int .i64 f.g.length), (30, .int .i64 i), (35, .int .i64 f.p.length), (36, .int .i64 k)], [some (.cells false 4 [Fv f])])) 0 ⟨Nat.zero_le _, rfl⟩ (by simp [go_sem]) (by simp [Fv, Fcs, vw]) ?_
          rintro k ⟨hk, hF⟩ ihk
          dsimp only at hk hF ihk ⊢
          by_cases j1 : k < f.p.length
          · have j2 : (k : Int) < f.p.length := by omega
            have j3 := idx_next j1 (by omega)
            rw [plE_step j1] at hF
            have kp := checkPlace_run f tL tH h1 j1 (by omega)
            simp only [Fv, Fcs, vw] at kp
            simp only [go_sem, j2, Fv, Fcs, vw]
            refine cP kp ?_
            by_cases c4 : plE f i k = 0
            · rw [if_pos c4] at hF
              simp only [go_sem, c4, bne, j3]
              exact ihk (k + 1) (by omega) ⟨j1, hF⟩ _ (by simp [go_sem])
            · rw [if_neg c4] at hF
              have n5 : (plE f i k == 0) = false := beq_eq_false_iff_ne.2 c4
              rw [if_neg (by rw [← hF]; exact c4), ← hF] at hE
              simp only [go_sem, n5, bne]
              exact hE
          · have j2 : ¬ (k : Int) < f.p.length := by omega
            obtain rfl : k = f.p.length := by omega
            rw [Nat.sub_self] at hF
            have hF0 : rowE f i = 0 := hF.symm
            rw [if_pos hF0] at hE
            simp only [go_sem, j2, h3]
            exact ih (i + 1) (by omega) ⟨h1, hE⟩ _ (by simp [go_sem])
        · have h2 : ¬ (i : Int) < f.g.length := by omega
          obtain rfl : i = f.g.length := by omega
          rw [Nat.sub_self] at hE
          simp only [go_sem, h2]
          exact hE
      · rw [if_neg (fun h => c3 h.2)] at he
        rw [Bool.not_eq_true] at c3
        simp only [go_sem, c3]
        exact he
    · rw [if_neg (fun h => c2 h.1)] at he
      rw [Bool.not_eq_true] at c2
      simp only [go_sem, c2]
      exact he
  · rw [if_neg c1] at he
    have n5 : (lineE f.g f.p == 0) = false := beq_eq_false_iff_ne.2 c1
    simp only [go_sem, n5, bne]
    exact he
end Go.Proofs

namespace Go.Proofs
open Go Go.Sx Go.Fam
attribute [local irreducible] Run

theorem s1 (x : Int) : shrW .u64 x 1 = x / 2 := by rw [shr_u64]; rfl

end Go.Proofs

namespace Go.Proofs
open Go Go.Sx Go.Fam
attribute [local irreducible] Run

end Go.Proofs

namespace Go.Proofs
open Go Go.Sx Go.Fam
attribute [local irreducible] Run

@[go_sem] theorem tws_bel (t : List (List Int)) (S : Nat → Prop) : Bels S (t.map vw) = True := eq_true (bels_map _ _ fun l => by rw [vw_bel]; trivial)
end Go.Proofs

namespace Go.Proofs
open Go Go.Sx Go.Fam
attribute [local irreducible] Run

end Go.Proofs

namespace Go.Proofs
open Go Go.Sx
def yes : Option (AVal × Heap) → Bool
  | some (.bool b, _) => b
  | _ => false
theorem yes_ans {P : Program} (hm : P.follows .mixedOrders = true) {tab : Nat → Option AFun} (hT : ∀ g af, tab g = some af → EntryOK P g af) {m n g : Nat} (h : yes (exFn tab m n g [] []) = true) : Ans P g [] [] (.bool true) [] := by
  match hx : exFn tab m n g [] [] with
  | none => rw [hx] at h; cases h
  | some (v, H') =>
    rw [hx] at h
    cases v <;> try (cases h; done)
    rename_i b
    have hb : b = true := h
    subst hb
    exact (spec_ex hm hT hx).mono fun v H'' hv => ⟨hv.1, H'', rfl⟩
end Go.Proofs

namespace Go.Proofs
open Go Go.Sx

def isq : Nat → Nat
  | 0 => 0
  | n + 1 => if (isq n + 1) * (isq n + 1) ≤ n + 1 then isq n + 1 else isq n

theorem isq_ok (n : Nat) : isq n * isq n ≤ n ∧ n < (isq n + 1) * (isq n + 1) := by
  induction n with
  | zero => simp [isq]
  | succ n ih =>
    simp only [isq]
    split
    · rename_i h
      refine ⟨h, ?_⟩
      have h2 : (isq n + 1) * (isq n + 1) + (isq n + 1) < (isq n + 1 + 1) * (isq n + 1 + 1) := by
        simp only [Nat.add_mul, Nat.mul_add]; omega
      omega
    · omega

def root (n : Int) : Int := isq n.toNat
theorem root_ok {n : Int} (h : 0 ≤ n) : 0 ≤ root n ∧ root n * root n ≤ n ∧ n < (root n + 1) * (root n + 1) := by
  have := isq_ok n.toNat
  unfold root
  refine ⟨by omega, ?_, ?_⟩
  · have h1 : ((isq n.toNat * isq n.toNat : Nat) : Int) ≤ (n.toNat : Int) := by exact_mod_cast this.1
    push_cast at h1
    omega
  · have h1 : (n.toNat : Int) < (((isq n.toNat + 1) * (isq n.toNat + 1) : Nat) : Int) := by exact_mod_cast this.2
    push_cast at h1
    omega

theorem sq_le {a b : Int} (ha : 0 ≤ a) (h : a ≤ b) : a * a ≤ b * b := Int.mul_le_mul h h ha (by omega)
def rootU (n : Int) : Int := if root n * root n < n then root n + 1 else root n

theorem root_le {n : Int} (h0 : 0 ≤ n) (h1 : n ≤ 1152921504606846976) : root n ≤ 1073741824 := by
  obtain ⟨a, b, c⟩ := root_ok h0
  refine Int.not_lt.1 fun h => ?_
  have := sq_le (a := 1073741825) (b := root n) (by decide) (by omega)
  omega

end Go.Proofs

namespace Go.Proofs
open Go Go.Sx

def cube (n : Int) : Int := n * n * n
def mn (a b : Int) : Int := if b < a then b else a
def spaceLo (l : Lw) (d : Rg) : Int := l.perv.lo * root (cube d.lo) / 1000000
def spaceHi (l : Lw) (d : Rg) : Int := rup (l.perv.hi * rootU (cube d.hi)) 1000000
def curLo (l : Lw) (d : Rg) : Int := l.part.lo * mn (spaceLo l d) l.full.lo / 1000000
def curHi (l : Lw) (d : Rg) : Int := rup (l.part.hi * mn (spaceHi l d) l.full.hi) 1000000
def curOf (l : Lw) (g p : Int) : Rg := ⟨curLo l (driveOf l g p), curHi l (driveOf l g p)⟩

theorem bnd_in (n : Int) : 0 ≤ bnd n ∧ bnd n ≤ 1000000 := by unfold bnd; (repeat' split) <;> omega

theorem cube_in {n : Int} (h0 : 0 ≤ n) (h1 : n ≤ 1000000) : 0 ≤ n * n ∧ n * n ≤ 1000000000000 ∧ 0 ≤ cube n ∧ cube n ≤ 1000000000000000000 := by
  have a := Int.mul_nonneg h0 h0
  have b := Int.mul_le_mul h1 h1 h0 (by decide)
  have c := Int.mul_nonneg a h0
  have d := Int.mul_le_mul b h1 h0 (by decide)
  unfold cube; omega

theorem mul_in {a b A B : Int} (h1 : 0 ≤ a ∧ a ≤ A) (h2 : 0 ≤ b ∧ b ≤ B) : 0 ≤ a * b ∧ a * b ≤ A * B :=
  ⟨Int.mul_nonneg h1.1 h2.1, Int.mul_le_mul h1.2 h2.2 h2.1 (by omega)⟩

theorem rup_in {n b : Int} (h0 : 0 ≤ n) (h1 : 1 ≤ b) : 0 ≤ rup n b ∧ rup n b ≤ n + b - 1 := ⟨Int.ediv_nonneg (by omega) (by omega), Int.ediv_le_self _ (by omega)⟩

theorem mn_in {a b : Int} (h0 : 0 ≤ a) (h1 : 0 ≤ b) : 0 ≤ mn a b ∧ mn a b ≤ b := by unfold mn; split <;> omega

def exact (q : Int) : Lw := ⟨⟨q, q⟩, ⟨1000, 1000⟩, ⟨0, 0⟩, ⟨1000000, 1000000⟩, ⟨1000000, 1000000⟩⟩
end Go.Proofs

namespace Go.Proofs
open Go Go.Sx

theorem rootU_ok {n : Int} (h : 0 ≤ n) : root n ≤ rootU n ∧ rootU n ≤ root n + 1 ∧ n ≤ rootU n * rootU n := by
  obtain ⟨h0, h1, h2⟩ := root_ok h
  unfold rootU
  split
  · exact ⟨by omega, by omega, by omega⟩
  · exact ⟨by omega, by omega, by omega⟩

end Go.Proofs

namespace Go.Proofs
open Go Go.Sx

theorem cube_le {a b : Int} (h0 : 0 ≤ a) (h : a ≤ b) : cube a ≤ cube b := by
  have h1 := sq_le h0 h
  exact Int.mul_le_mul h1 h h0 (Int.mul_nonneg (by omega) (by omega))
theorem cube_nonneg {a : Int} (h0 : 0 ≤ a) : 0 ≤ cube a := Int.mul_nonneg (Int.mul_nonneg h0 h0) h0

theorem root_mono {n m : Int} (h0 : 0 ≤ n) (h : n ≤ m) : root n ≤ root m := by
  obtain ⟨a0, a1, a2⟩ := root_ok h0
  obtain ⟨b0, b1, b2⟩ := root_ok (Int.le_trans h0 h)
  by_cases hr : root n ≤ root m
  · exact hr
  · exfalso
    have := sq_le (a := root m + 1) (b := root n) (by omega) (by omega)
    omega

theorem rootU_mono {n m : Int} (h0 : 0 ≤ n) (h : n ≤ m) : rootU n ≤ rootU m := by
  obtain ⟨a0, a1, a2⟩ := root_ok h0
  obtain ⟨u0, u1, u2⟩ := rootU_ok (Int.le_trans h0 h)
  obtain ⟨b0, b1, b2⟩ := root_ok (Int.le_trans h0 h)
  by_cases hr : rootU n ≤ rootU m
  · exact hr
  · exfalso
    have hm0 : 0 ≤ rootU m := by omega
    unfold rootU at hr
    split at hr
    · have := sq_le (a := rootU m) (b := root n) hm0 (by unfold rootU; omega)
      omega
    · have hlt : rootU m + 1 ≤ root n := by unfold rootU; omega
      have h3 := sq_le (a := rootU m + 1) (b := root n) (by omega) hlt
      have h4 : (rootU m + 1) * (rootU m + 1) = rootU m * rootU m + 2 * rootU m + 1 := by
        rw [Int.add_mul, Int.mul_add]; omega
      omega

theorem rup_mono {n m b : Int} (h : n ≤ m) (hb : 1 ≤ b) : rup n b ≤ rup m b := Int.ediv_le_ediv (by omega) (by omega)
theorem mn_mono {a b c : Int} (h : a ≤ b) : mn a c ≤ mn b c := by unfold mn; split <;> split <;> omega
theorem bnd_mono {a b : Int} (h : a ≤ b) : bnd a ≤ bnd b := by unfold bnd; (repeat' split) <;> omega

theorem spaceLo_mono {l : Lw} (h : LwOK l) {d e : Rg} (h0 : 0 ≤ d.lo) (hl : d.lo ≤ e.lo) : spaceLo l d ≤ spaceLo l e :=
  Int.ediv_le_ediv (by decide) (Int.mul_le_mul_of_nonneg_left (root_mono (cube_nonneg h0) (cube_le h0 hl)) h.perv.1)
theorem spaceHi_mono {l : Lw} (h : LwOK l) {d e : Rg} (h0 : 0 ≤ d.hi) (hl : d.hi ≤ e.hi) : spaceHi l d ≤ spaceHi l e :=
  rup_mono (Int.mul_le_mul_of_nonneg_left (rootU_mono (cube_nonneg h0) (cube_le h0 hl)) (by have := h.perv; omega)) (by decide)

theorem cur_mono {l : Lw} (h : LwOK l) {d e : Rg} (h0 : 0 ≤ d.lo ∧ 0 ≤ d.hi) (hl : d.lo ≤ e.lo) (hh : d.hi ≤ e.hi) : curLo l d ≤ curLo l e ∧ curHi l d ≤ curHi l e :=
  ⟨Int.ediv_le_ediv (by decide) (Int.mul_le_mul_of_nonneg_left (mn_mono (spaceLo_mono h h0.1 hl)) h.part.1),
   rup_mono (Int.mul_le_mul_of_nonneg_left (mn_mono (spaceHi_mono h h0.2 hh)) (by have := h.part; omega)) (by decide)⟩

theorem le_rup {n b : Int} (hb : 1 ≤ b) : n / b ≤ rup n b := Int.ediv_le_ediv (by omega) (by omega)

theorem drive_le {l : Lw} (h : LwOK l) {g p : Int} (hp : 0 ≤ p) : (driveOf l g p).lo ≤ (driveOf l g p).hi := by
  have h1 : 1000 * p / l.gain.hi ≤ 1000 * p / l.gain.lo := by
    have hg := h.gain
    rw [Int.le_ediv_iff_mul_le (by omega)]
    have h2 : 1000 * p / l.gain.hi * l.gain.lo ≤ 1000 * p / l.gain.hi * l.gain.hi := Int.mul_le_mul_of_nonneg_left hg.2.1 (Int.ediv_nonneg (by omega) (by omega))
    have h3 := Int.ediv_mul_le (1000 * p) (b := l.gain.hi) (by omega)
    omega
  have h4 := le_rup (n := 1000 * p) h.gain.1
  exact bnd_mono (by have := h.shift; omega)

theorem cur_le {l : Lw} (h : LwOK l) {d : Rg} (h0 : 0 ≤ d.lo) (hd : d.lo ≤ d.hi) : curLo l d ≤ curHi l d := by
  obtain ⟨r0, _, _⟩ := root_ok (cube_nonneg h0)
  obtain ⟨u0, _, _⟩ := rootU_ok (cube_nonneg (Int.le_trans h0 hd))
  obtain ⟨p1, p2, p3⟩ := h.perv
  obtain ⟨q1, q2, q3⟩ := h.part
  obtain ⟨f1, f2, f3⟩ := h.full
  have hr := root_mono (cube_nonneg h0) (cube_le h0 hd)
  have e1 : l.perv.lo * root (cube d.lo) ≤ l.perv.hi * rootU (cube d.hi) := Int.mul_le_mul p2 (by omega) r0 (by omega)
  have e2 : spaceLo l d ≤ spaceHi l d := Int.le_trans (Int.ediv_le_ediv (by decide) e1) (le_rup (by decide))
  have e0 : 0 ≤ spaceLo l d := Int.ediv_nonneg (Int.mul_nonneg p1 r0) (by decide)
  have e3 : mn (spaceLo l d) l.full.lo ≤ mn (spaceHi l d) l.full.hi := by unfold mn; split <;> split <;> omega
  have e4 : 0 ≤ mn (spaceLo l d) l.full.lo := by unfold mn; split <;> omega
  have e5 : l.part.lo * mn (spaceLo l d) l.full.lo ≤ l.part.hi * mn (spaceHi l d) l.full.hi := Int.mul_le_mul q2 e3 e4 (by omega)
  exact Int.le_trans (Int.ediv_le_ediv (by decide) e5) (le_rup (by decide))

theorem rises {l : Lw} (h : LwOK l) {g p b : Int} (hp : 0 ≤ p) (hb : 0 ≤ b) :
    (curOf l g p).lo ≤ (curOf l g p).hi ∧ (curOf l g p).lo ≤ (curOf l (g + b) p).lo ∧ (curOf l g p).hi ≤ (curOf l (g + b) p).hi ∧
    (curOf l g p).lo ≤ (curOf l g (p + b)).lo ∧ (curOf l g p).hi ≤ (curOf l g (p + b)).hi := by
  have d0 := (bnd_in (g + l.shift.lo + (1000 * p) / l.gain.hi)).1
  have d1 := (bnd_in (g + l.shift.hi + rup (1000 * p) l.gain.lo)).1
  have m1 := cur_mono h (d := driveOf l g p) (e := driveOf l (g + b) p) ⟨d0, d1⟩ (bnd_mono (by omega)) (bnd_mono (by omega))
  have k1 : 1000 * p / l.gain.hi ≤ 1000 * (p + b) / l.gain.hi := Int.ediv_le_ediv (by have := h.gain; omega) (by omega)
  have k2 : rup (1000 * p) l.gain.lo ≤ rup (1000 * (p + b)) l.gain.lo := rup_mono (by omega) h.gain.1
  have m2 := cur_mono h (d := driveOf l g p) (e := driveOf l g (p + b)) ⟨d0, d1⟩ (bnd_mono (by omega)) (bnd_mono (by omega))
  exact ⟨cur_le h d0 (drive_le h hp), m1.1, m1.2, m2.1, m2.2⟩
end Go.Proofs

namespace Go.Proofs
open Go Go.Sx Go.Fam
attribute [local irreducible] Run

theorem rright_run (g p : Int) : Ans Try.prog n_ref02_right [.int .i64 g, .int .i64 p] [] (.bool (decide ((-1000000 ≤ g ∧ g ≤ 1000000) ∧ 0 ≤ p ∧ p ≤ 1000000))) [] := by
  refine spec_run e_ref02_right fun G => ?_
  by_cases h1 : -1000000 ≤ g
  · by_cases h2 : g ≤ 1000000
    · by_cases h3 : 0 ≤ p
      · simp [go_sem, h1, h2, h3]
      · simp [go_sem, h1, h2, h3]
    · simp [go_sem, h1, h2]
  · simp [go_sem, h1]

theorem down_run {n b : Int} (hn : -4000000000000000000 ≤ n ∧ n ≤ 4000000000000000000) (hb : 1 ≤ b ∧ b ≤ 4000000000000000000) : Ans Try.prog n_ref02_down [.int .i64 n, .int .i64 b] [] (.int .i64 (n / b)) [] := by
  have h1 := Int.emod_add_mul_ediv n b
  have h2 := Int.emod_nonneg n (show b ≠ 0 by omega)
  have h3 := Int.emod_lt_of_pos n (show 0 < b by omega)
  have t1 := Int.tmod_add_mul_tdiv n b
  have hb0 : ¬ b = 0 := by omega
  refine spec_run e_ref02_down fun G => ?_
  by_cases hn0 : 0 ≤ n
  · have e1 : n.tdiv b = n / b := Int.tdiv_eq_ediv_of_nonneg hn0
    have e2 : n.tmod b = n % b := Int.tmod_eq_emod_of_nonneg hn0
    have q1 : 0 ≤ n / b := Int.ediv_nonneg hn0 (by omega)
    have q2 : n / b ≤ n := Int.ediv_le_self _ hn0
    have w1 : IntKind.i64.wrap (n / b) = n / b := w64 (by omega)
    have w2 : IntKind.i64.wrap (n % b) = n % b := w64 (by omega)
    have n1 : ¬ n % b < 0 := by omega
    simp only [go_sem, hb0, e1, e2, w1, w2, n1]
  · have e2 : n.tmod b = -((-n) % b) := by
      have := Int.neg_tmod (a := -n) (b := b)
      rw [Int.neg_neg] at this
      rw [this, Int.tmod_eq_emod_of_nonneg (by omega)]
    have e1 : n.tdiv b = -((-n) / b) := by
      have := Int.neg_tdiv (a := -n) (b := b)
      rw [Int.neg_neg] at this
      rw [this, Int.tdiv_eq_ediv_of_nonneg (by omega)]
    have m2 := Int.emod_nonneg (-n) (show b ≠ 0 by omega)
    have m3 := Int.emod_lt_of_pos (-n) (show 0 < b by omega)
    have q1 : 0 ≤ (-n) / b := Int.ediv_nonneg (by omega) (by omega)
    have q2 : (-n) / b ≤ -n := Int.ediv_le_self _ (by omega)
    have m1 := Int.emod_add_mul_ediv (-n) b
    have w1 : IntKind.i64.wrap (-((-n) / b)) = -((-n) / b) := w64 (by omega)
    have w2 : IntKind.i64.wrap (-((-n) % b)) = -((-n) % b) := w64 (by omega)
    have w3 : IntKind.i64.wrap (-((-n) / b) - 1) = -((-n) / b) - 1 := w64 (by omega)
    by_cases c : (-n) % b = 0
    · have n1 : ¬ -((-n) % b) < 0 := by omega
      have hq : n / b = -((-n) / b) := by
        have : b * (n / b) + n % b = b * (-((-n) / b)) := by rw [Int.mul_neg]; omega
        have h4 : n % b = 0 := by
          have : b ∣ -n := Int.dvd_of_emod_eq_zero c
          exact Int.emod_eq_zero_of_dvd ((Int.dvd_neg).1 this)
        rw [h4, Int.add_zero] at this
        exact Int.eq_of_mul_eq_mul_left (by omega) this
      simp only [go_sem, hb0, e1, e2, w1, w2, n1, hq]
    · have n1 : -((-n) % b) < 0 := by omega
      have hq : n / b = -((-n) / b) - 1 := by
        have e : n = (b - (-n) % b) + b * (-((-n) / b) - 1) := by rw [Int.mul_sub, Int.mul_neg]; omega
        rw [e, Int.add_mul_ediv_left _ _ (by omega), Int.ediv_eq_zero_of_lt (by omega) (by omega), Int.zero_add, ← e]
      simp only [go_sem, hb0, e1, e2, w1, w2, w3, n1, hq]
theorem up_run {n b : Int} (hn : -4000000000000000000 ≤ n ∧ n ≤ 4000000000000000000) (hb : 1 ≤ b ∧ b ≤ 4000000000000000000) : Ans Try.prog n_ref02_up [.int .i64 n, .int .i64 b] [] (.int .i64 (cup n b)) [] := by
  have hd := down_run (n := -n) (b := b) (by omega) hb
  have w1 : IntKind.i64.wrap (0 - n) = -n := by rw [w64 (by omega)]; omega
  have b1 : -4000000000000000000 ≤ (-n) / b ∧ (-n) / b ≤ 4000000000000000000 := by
    constructor
    · exact (Int.le_ediv_iff_mul_le (by omega)).2 (by have : -4000000000000000000 * b ≤ -4000000000000000000 * 1 := Int.mul_le_mul_of_nonpos_left (by omega) (by omega); omega)
    · exact Int.le_trans (Int.ediv_le_ediv (by omega) (show -n ≤ 4000000000000000000 by omega)) (Int.ediv_le_self _ (by omega))
  have w2 : IntKind.i64.wrap (0 - -n / b) = -(-n / b) := by rw [w64 (by omega)]; omega
  rw [cup_eq _ _ (by omega)]
  refine spec_run e_ref02_up fun G => ?_
  simp only [go_sem, w1]
  refine cP hd ?_
  simp only [go_sem, w2]

end Go.Proofs

namespace Go.Proofs
open Go Go.Sx Go.Fam
attribute [local irreducible] Run

end Go.Proofs

namespace Go.Proofs
open Go Go.Sx Go.Fam
attribute [local irreducible] Run

theorem ascAt_bad {a : Int} {l : List Int} {i : Nat} (h : ¬ (a ≤ at1 l i ∧ at1 l i ≤ 1000000)) : ascAt a l i = 2 := by unfold ascAt; rw [if_neg h]
theorem ascAt_fall {a : Int} {l : List Int} {i : Nat} (h : a ≤ at1 l (i + 1) ∧ at1 l (i + 1) ≤ 1000000) (h2 : at1 l (i + 1) ≤ at1 l i) : ascAt a l (i + 1) = 11 := by unfold ascAt; rw [if_pos h, if_pos ⟨by omega, by simpa using h2⟩]
theorem ascAt_good {a : Int} {l : List Int} {i : Nat} (h : a ≤ at1 l (i + 1) ∧ at1 l (i + 1) ≤ 1000000) (h2 : ¬ at1 l (i + 1) ≤ at1 l i) : ascAt a l (i + 1) = 0 := by unfold ascAt; rw [if_pos h, if_neg (by simpa using h2)]
theorem ascAt_first {a : Int} {l : List Int} (h : a ≤ at1 l 0 ∧ at1 l 0 ≤ 1000000) : ascAt a l 0 = 0 := by unfold ascAt; rw [if_pos h, if_neg (by omega)]
theorem fnz_step {e : Nat → Int} {i n : Nat} (h : i < n) : fnz e i (n - i) = if e i = 0 then fnz e (i + 1) (n - (i + 1)) else e i := by
  rw [show n - i = (n - (i + 1)) + 1 by omega]; rfl

theorem rrightG_run (g : Int) : Ans Try.prog n_ref02_right [.int .i64 g, .int .i64 0] [] (.bool (decide (-1000000 ≤ g ∧ g ≤ 1000000))) [] := by
  have := rright_run g 0
  rwa [show decide ((-1000000 ≤ g ∧ g ≤ 1000000) ∧ (0:Int) ≤ 0 ∧ (0:Int) ≤ 1000000) = decide (-1000000 ≤ g ∧ g ≤ 1000000) from decide_eq_decide.2 (by omega)] at this
theorem rrightP_run (p : Int) : Ans Try.prog n_ref02_right [.int .i64 0, .int .i64 p] [] (.bool (decide (0 ≤ p ∧ p ≤ 1000000))) [] := by
  have := rright_run 0 p
  rwa [show decide (((-1000000:Int) ≤ 0 ∧ (0:Int) ≤ 1000000) ∧ 0 ≤ p ∧ p ≤ 1000000) = decide (0 ≤ p ∧ p ≤ 1000000) from decide_eq_decide.2 (by omega)] at this
set_option maxHeartbeats 2000000 in
set_option maxRecDepth 10000 in
theorem rcheckLines_run (g p : List Int) (hg : g.length ≤ 9223372036854775807) (hp : p.length ≤ 9223372036854775807) : Ans Try.prog n_ref02_checkLines [vw g, vw p] [] (.int .i64 (lineE g p)) [] := by
  obtain ⟨e, he⟩ : ∃ e, lineE g p = e := ⟨_, rfl⟩
  rw [he]
  unfold lineE at he
  refine spec_run e_ref02_checkLines fun G => ?_
  by_cases c1 : g.length = 0 ∨ p.length = 0
  · rw [if_pos c1] at he
    rw [← he]
    by_cases c2 : g.length = 0
    · simp only [go_sem, vw, List.length_map, c2]
    · have c3 : p.length = 0 := by omega
      have n1 : ((g.length : Int) == 0) = false := beq_eq_false_iff_ne.2 (by omega)
      simp only [go_sem, vw, List.length_map, n1, c3]
  · rw [if_neg c1] at he
    have n1 : ((g.length : Int) == 0) = false := beq_eq_false_iff_ne.2 (by omega)
    have n2 : ((p.length : Int) == 0) = false := beq_eq_false_iff_ne.2 (by omega)
    by_cases c2 : 40 < g.length ∨ 40 < p.length
    · rw [if_pos c2] at he
      rw [← he]
      by_cases c3 : 40 < g.length
      · have n3 : (g.length : Int) > 40 := by omega
        simp only [go_sem, vw, List.length_map, n1, n2, n3]
      · have n3 : ¬ (g.length : Int) > 40 := by omega
        have n4 : (p.length : Int) > 40 := by omega
        simp only [go_sem, vw, List.length_map, n1, n2, n3, n4]
    · rw [if_neg c2] at he
      have n3 : ¬ (g.length : Int) > 40 := by omega
      have n4 : ¬ (p.length : Int) > 40 := by omega
      simp only [go_sem, vw, List.length_map, n1, n2, n3, n4]
      refine loop_ind k_ref02_checkLines_r12.eq_1 (fun i : Nat => i ≤ g.length ∧ fnz (ascAt (-1000000) g) i (g.length - i) = ascE (-1000000) g) (fun i => g.length - i)
        (fun i => (tsets 75 [(0, .view (g.map (.int .i64))), (1, .view (p.map (.int .i64))), (4, .int .i64 0), (5, .int .i64 i)], [])) 0 ⟨Nat.zero_le _, rfl⟩ (by simp [go_sem]) rfl ?_
      rintro i ⟨hi, hE⟩ ih
      dsimp only at hi hE ih ⊢
      by_cases h1 : i < g.length
      · have h2 : (i : Int) < g.length := by omega
        have m0 : ¬ (i : Int) < 0 := by omega
        have h3 := idx_next h1 hg
        have hx := get_at h1
        rw [fnz_step h1] at hE
        have kr := rrightG_run (at1 g i)
        simp only [go_sem, h2, m0, List.length_map, hx, Int.toNat_natCast]
        refine cP kr ?_
        by_cases d1 : -1000000 ≤ at1 g i ∧ at1 g i ≤ 1000000
        · have dd : decide ((-1000000 ≤ at1 g i ∧ at1 g i ≤ 1000000) ∧ (0:Int) ≤ 0 ∧ (0:Int) ≤ 1000000) = true := by simp [d1]
          by_cases h0 : 0 < i
          · obtain ⟨j, rfl⟩ : ∃ j, i = j + 1 := ⟨i - 1, by omega⟩
            have hy := get_at (l := g) (i := j) (by omega)
            have e0 : ((j + 1 : Nat) : Int) > 0 := by omega
            have e2 : IntKind.i64.wrap (((j + 1 : Nat) : Int) - 1) = j := by rw [w64 (by omega)]; omega
            have e4 : ¬ (j : Int) < 0 := by omega
            by_cases d2 : at1 g (j + 1) ≤ at1 g j
            · rw [ascAt_fall d1 d2, if_neg (by omega)] at hE
              rw [← hE, if_neg (by omega)] at he
              simp only [go_sem, d1, e0, e2, e4, m0, hx, hy, Int.toNat_natCast, d2]
              exact he
            · rw [ascAt_good d1 d2, if_pos rfl] at hE
              simp only [go_sem, d1, e0, e2, e4, m0, hx, hy, Int.toNat_natCast, d2, h3]
              exact ih (j + 1 + 1) (by omega) ⟨h1, hE⟩ _ (by simp [go_sem])
          · obtain rfl : i = 0 := by omega
            have e0 : ¬ ((0 : Nat) : Int) > 0 := by omega
            rw [ascAt_first d1, if_pos rfl] at hE
            simp only [go_sem, d1, e0, h3]
            exact ih (0 + 1) (by omega) ⟨h1, hE⟩ _ (by simp [go_sem]; rfl)
        · have dd : decide ((-1000000 ≤ at1 g i ∧ at1 g i ≤ 1000000) ∧ (0:Int) ≤ 0 ∧ (0:Int) ≤ 1000000) = false := by simp only [decide_eq_false_iff_not]; exact fun h => d1 h.1
          rw [ascAt_bad d1, if_neg (by omega)] at hE
          rw [← hE, if_neg (by omega)] at he
          simp only [go_sem, d1]
          exact he
      · have h2 : ¬ (i : Int) < g.length := by omega
        obtain rfl : i = g.length := by omega
        rw [Nat.sub_self] at hE
        rw [← hE] at he
        simp only [fnz, if_true] at he
        simp only [go_sem, h2, List.length_map]
        refine loop_ind k_ref02_checkLines_r20.eq_1 (fun i : Nat => i ≤ p.length ∧ fnz (ascAt 0 p) i (p.length - i) = e) (fun i => p.length - i)
          (fun i => (tsets 75 [(0, .view (g.map (.int .i64))), (1, .view (p.map (.int .i64))), (4, .int .i64 0), (6, .int .i64 i)], [])) 0 ⟨Nat.zero_le _, he⟩ (by simp [go_sem]) rfl ?_
        rintro i ⟨hi, hE⟩ ih
        dsimp only at hi hE ih ⊢
        by_cases h1 : i < p.length
        · have h2 : (i : Int) < p.length := by omega
          have m0 : ¬ (i : Int) < 0 := by omega
          have h3 := idx_next h1 hp
          have hx := get_at h1
          rw [fnz_step h1] at hE
          have kr := rrightP_run (at1 p i)
          simp only [go_sem, h2, m0, List.length_map, hx, Int.toNat_natCast]
          refine cP kr ?_
          by_cases d1 : 0 ≤ at1 p i ∧ at1 p i ≤ 1000000
          · have dd : decide (((-1000000:Int) ≤ 0 ∧ (0:Int) ≤ 1000000) ∧ 0 ≤ at1 p i ∧ at1 p i ≤ 1000000) = true := by simp [d1]
            by_cases h0 : 0 < i
            · obtain ⟨j, rfl⟩ : ∃ j, i = j + 1 := ⟨i - 1, by omega⟩
              have hy := get_at (l := p) (i := j) (by omega)
              have e0 : ((j + 1 : Nat) : Int) > 0 := by omega
              have e2 : IntKind.i64.wrap (((j + 1 : Nat) : Int) - 1) = j := by rw [w64 (by omega)]; omega
              have e4 : ¬ (j : Int) < 0 := by omega
              by_cases d2 : at1 p (j + 1) ≤ at1 p j
              · rw [ascAt_fall d1 d2, if_neg (by omega)] at hE
                simp only [go_sem, d1, e0, e2, e4, m0, hx, hy, Int.toNat_natCast, d2]
                exact hE
              · rw [ascAt_good d1 d2, if_pos rfl] at hE
                simp only [go_sem, d1, e0, e2, e4, m0, hx, hy, Int.toNat_natCast, d2, h3]
                exact ih (j + 1 + 1) (by omega) ⟨h1, hE⟩ _ (by simp [go_sem])
            · obtain rfl : i = 0 := by omega
              have e0 : ¬ ((0 : Nat) : Int) > 0 := by omega
              rw [ascAt_first d1, if_pos rfl] at hE
              simp only [go_sem, d1, e0, h3]
              exact ih (0 + 1) (by omega) ⟨h1, hE⟩ _ (by simp [go_sem]; rfl)
          · have dd : decide (((-1000000:Int) ≤ 0 ∧ (0:Int) ≤ 1000000) ∧ 0 ≤ at1 p i ∧ at1 p i ≤ 1000000) = false := by simp only [decide_eq_false_iff_not]; exact fun h => d1 h.2
            rw [ascAt_bad d1, if_neg (by omega)] at hE
            simp only [go_sem, d1]
            exact hE
        · have h2 : ¬ (i : Int) < p.length := by omega
          obtain rfl : i = p.length := by omega
          rw [Nat.sub_self] at hE
          simp only [go_sem, h2, List.length_map]
          exact hE
end Go.Proofs

