/- A part of the proof. -/
import Derived.Test.YtoipalbjmbkdeaaPB
set_option linter.unusedSimpArgs false
set_option linter.unusedVariables false
namespace Go.Proofs
open Go Go.Sx

def k_law02_large_r0 : List AOper := [
  ⟨(some (1)), .box (.tmp 0), none, []⟩, 
  ⟨(some (2)), .move (.const (.bool false)), none, []⟩]
def k_law02_large_r1 : List AOper := [
  ⟨(some (3)), .fieldAddr 2 (.tmp 1), none, []⟩, 
  ⟨(some (4)), .load none (.tmp 3), none, []⟩, 
  ⟨(some (5)), .len false (.tmp 4), none, []⟩, 
  ⟨(some (6)), .bin .plain .gtr (.tmp 5) (.const (.int .i64 50)), none, []⟩, 
  ⟨(some (7)), .move (.tmp 6), none, []⟩, 
  ⟨(some (8)), .fieldAddr 3 (.tmp 1), (some (7, false)), []⟩, 
  ⟨(some (9)), .load none (.tmp 8), (some (7, false)), []⟩, 
  ⟨(some (10)), .len false (.tmp 9), (some (7, false)), []⟩, 
  ⟨(some (11)), .bin .plain .gtr (.tmp 10) (.const (.int .i64 50)), (some (7, false)), []⟩, 
  ⟨(some (12)), .pick (.tmp 7) (.const (.bool true)) (.tmp 11), none, []⟩, 
  ⟨(some (13)), .move (.tmp 12), none, []⟩, 
  ⟨(some (14)), .fieldAddr 0 (.tmp 1), (some (13, false)), []⟩, 
  ⟨(some (15)), .load none (.tmp 14), (some (13, false)), []⟩, 
  ⟨(some (16)), .fieldAddr 1 (.tmp 1), (some (13, false)), []⟩, 
  ⟨(some (17)), .load none (.tmp 16), (some (13, false)), []⟩, 
  ⟨(some (18)), .buildSlice 1 [.tmp 15, .tmp 17], (some (13, false)), []⟩, 
  ⟨(some (19)), .call (.const (.fn (.func 61) [] [])) [.tmp 18], (some (13, false)), []⟩, 
  ⟨(some (20)), .pick (.tmp 13) (.const (.bool true)) (.tmp 19), none, []⟩]
def k_law02_large_r2 : List AOper := [
  ⟨(some (2)), .move (.const (.bool true)), none, []⟩]
def k_law02_large_r3 : List AOper := [
  ⟨(some (21)), .fieldAddr 2 (.tmp 1), none, []⟩, 
  ⟨(some (22)), .load none (.tmp 21), none, []⟩, 
  ⟨(some (23)), .call (.const (.fn (.func 61) [] [])) [.tmp 22], none, []⟩, 
  ⟨(some (24)), .move (.tmp 23), none, []⟩, 
  ⟨(some (25)), .fieldAddr 3 (.tmp 1), (some (24, false)), []⟩, 
  ⟨(some (26)), .load none (.tmp 25), (some (24, false)), []⟩, 
  ⟨(some (27)), .call (.const (.fn (.func 61) [] [])) [.tmp 26], (some (24, false)), []⟩, 
  ⟨(some (28)), .pick (.tmp 24) (.const (.bool true)) (.tmp 27), none, []⟩, 
  ⟨(some (2)), .move (.tmp 28), none, []⟩]
def k_law02_large : AFun := { params := 1, ntmps := 29, body := (.seq (.reg k_law02_large_r0 false) (.seq (.seq (.reg k_law02_large_r1 false) (.cond (.tmp 20) (.seq (.reg k_law02_large_r2 false) .ret) .skip)) (.seq (.reg k_law02_large_r3 false) .ret))), res := [.tmp 2] }
theorem k_law02_large_ok : cfun Try.prog Try.f24 = k_law02_large := by kernel_rfl

def k_law02_long_r0 : List AOper := [
  ⟨(some (2)), .move (.const (.bool false)), none, []⟩]
def k_law02_long_r1 : List AOper := [
  ⟨(some (3)), .move (.const (.int .i64 0)), none, []⟩]
def k_law02_long_r2 : List AOper := [
  ⟨(some (4)), .move (.tmp 3), none, []⟩, 
  ⟨(some (5)), .move (.tmp 0), none, []⟩, 
  ⟨(some (6)), .len false (.tmp 5), none, []⟩, 
  ⟨(some (7)), .bin .plain .lss (.tmp 4) (.tmp 6), none, []⟩]
def k_law02_long_r3 : List AOper := [
  ⟨(some (10)), .move (.tmp 0), none, []⟩, 
  ⟨(some (11)), .move (.tmp 3), none, []⟩, 
  ⟨(some (12)), .indexAddr 1 (.tmp 10) (.tmp 11), none, []⟩, 
  ⟨(some (13)), .load none (.tmp 12), none, []⟩, 
  ⟨(some (14)), .len false (.tmp 13), none, []⟩, 
  ⟨(some (15)), .bin .plain .gtr (.tmp 14) (.const (.int .i64 50)), none, []⟩]
def k_law02_long_r4 : List AOper := [
  ⟨(some (2)), .move (.const (.bool true)), none, []⟩]
def k_law02_long_r5 : List AOper := [
  ⟨(some (8)), .move (.tmp 3), none, []⟩, 
  ⟨(some (9)), .bin .plain .add (.tmp 8) (.const (.int .i64 1)), none, []⟩, 
  ⟨(some (3)), .move (.tmp 9), none, []⟩]
def k_law02_long_r6 : ACode := (.seq (.seq (.reg k_law02_long_r2 false) (.cond (.tmp 7) .skip (.exit 0))) (.seq (.block 1 (.seq (.reg k_law02_long_r3 false) (.cond (.tmp 15) (.seq (.reg k_law02_long_r4 false) .ret) .skip))) (.reg k_law02_long_r5 false)))
def k_law02_long_r7 : List AOper := [
  ⟨(some (2)), .move (.const (.bool false)), none, []⟩]
def k_law02_long : AFun := { params := 1, ntmps := 16, body := (.seq (.reg k_law02_long_r0 false) (.seq (.seq (.reg k_law02_long_r1 false) (.block 0 (.loop k_law02_long_r6))) (.seq (.reg k_law02_long_r7 false) .ret))), res := [.tmp 2] }
theorem k_law02_long_ok : cfun Try.prog Try.f61 = k_law02_long := by kernel_rfl


abbrev n_law02_large : Nat := 24
theorem e_law02_large : EntryOK Try.prog n_law02_large k_law02_large := ⟨Try.f24, Try.func24, k_law02_large_ok, by kernel_rfl⟩
abbrev n_law02_long : Nat := 61
theorem e_law02_long : EntryOK Try.prog n_law02_long k_law02_long := ⟨Try.f61, Try.func61, k_law02_long_ok, by kernel_rfl⟩

attribute [go_sem] k_law02_large_r0 k_law02_large_r1 k_law02_large_r2 k_law02_large_r3 k_law02_long_r0 k_law02_long_r1 k_law02_long_r2 k_law02_long_r3 k_law02_long_r4 k_law02_long_r5 k_law02_long_r7
attribute [go_sem] k_law02_large k_law02_long
end Go.Proofs

namespace Go.Proofs
open Go Go.Sx

end Go.Proofs

