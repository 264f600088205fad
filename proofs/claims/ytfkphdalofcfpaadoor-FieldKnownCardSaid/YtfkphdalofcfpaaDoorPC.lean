/- A part of the proof. -/
import Derived.Test.YtfkphdalofcfpaaDoorPB
set_option linter.unusedSimpArgs false
set_option linter.unusedVariables false
namespace Go.Proofs
open Go Go.Sx

def q1 : OEnt := ⟨17, [.agg [.int .i64 5, .int .i64 3, .bool false, .sl 0 0 15]], [some (.cells false 1 [.int .i64 1, .int .i64 0, .int .i64 0, .int .i64 0, .int .i64 3, .int .i64 1, .int .i64 0, .int .i64 2, .int .i64 0, .int .i64 3, .int .i64 1, .int .i64 0, .int .i64 0, .int .i64 0, .int .i64 3])], .int .i64 0, [some (.cells false 1 [.int .i64 1, .int .i64 0, .int .i64 0, .int .i64 0, .int .i64 3, .int .i64 1, .int .i64 0, .int .i64 2, .int .i64 0, .int .i64 3, .int .i64 1, .int .i64 0, .int .i64 0, .int .i64 0, .int .i64 3]), some (.cells false 4 [.agg [.int .i64 5, .int .i64 3, .bool false, .sl 0 0 15]])]⟩
theorem q1_ok : q1.ok Tryd.prog := ent_ok mixed (O := []) (fun _ h => by cases h) tabK_ok (m := 3000) (n := 40) (by kernel_rfl)
end Go.Proofs

namespace Go.Proofs
open Go Go.Sx

def q2 : OEnt := ⟨17, [.agg [.int .i64 5, .int .i64 1, .bool false, .sl 0 0 5]], [some (.cells false 1 [.int .i64 1, .int .i64 0, .int .i64 0, .int .i64 0, .int .i64 2])], .int .i64 0, [some (.cells false 1 [.int .i64 1, .int .i64 0, .int .i64 0, .int .i64 0, .int .i64 2]), some (.cells false 4 [.agg [.int .i64 5, .int .i64 1, .bool false, .sl 0 0 5]])]⟩
theorem q2_ok : q2.ok Tryd.prog := ent_ok mixed (O := []) (fun _ h => by cases h) tabK_ok (m := 3000) (n := 40) (by kernel_rfl)
def q3 : OEnt := ⟨17, [.agg [.int .i64 5, .int .i64 1, .bool true, .sl 0 0 5]], [some (.cells false 1 [.int .i64 1, .int .i64 0, .int .i64 0, .int .i64 0, .int .i64 2])], .int .i64 0, [some (.cells false 1 [.int .i64 1, .int .i64 0, .int .i64 0, .int .i64 0, .int .i64 2]), some (.cells false 4 [.agg [.int .i64 5, .int .i64 1, .bool true, .sl 0 0 5]])]⟩
theorem q3_ok : q3.ok Tryd.prog := ent_ok mixed (O := []) (fun _ h => by cases h) tabK_ok (m := 3000) (n := 40) (by kernel_rfl)
def q4 : OEnt := ⟨17, [.agg [.int .i64 5, .int .i64 1, .bool false, .sl 0 0 4]], [some (.cells false 1 [.int .i64 1, .int .i64 0, .int .i64 0, .int .i64 0, .int .i64 2])], .int .i64 3, [some (.cells false 1 [.int .i64 1, .int .i64 0, .int .i64 0, .int .i64 0, .int .i64 2]), some (.cells false 4 [.agg [.int .i64 5, .int .i64 1, .bool false, .sl 0 0 4]])]⟩
theorem q4_ok : q4.ok Tryd.prog := ent_ok mixed (O := []) (fun _ h => by cases h) tabK_ok (m := 3000) (n := 40) (by kernel_rfl)
def q5 : OEnt := ⟨17, [.agg [.int .i64 5, .int .i64 1, .bool false, .sl 0 0 5]], [some (.cells false 1 [.int .i64 1, .int .i64 0, .int .i64 7, .int .i64 0, .int .i64 2])], .int .i64 2, [some (.cells false 1 [.int .i64 1, .int .i64 0, .int .i64 7, .int .i64 0, .int .i64 2]), some (.cells false 4 [.agg [.int .i64 5, .int .i64 1, .bool false, .sl 0 0 5]])]⟩
theorem q5_ok : q5.ok Tryd.prog := ent_ok mixed (O := []) (fun _ h => by cases h) tabK_ok (m := 3000) (n := 40) (by kernel_rfl)
def q6 : OEnt := ⟨17, [.agg [.int .i64 5, .int .i64 1, .bool false, .sl 0 0 5]], [some (.cells false 1 [.int .i64 0, .int .i64 0, .int .i64 0, .int .i64 0, .int .i64 0])], .int .i64 7, [some (.cells false 1 [.int .i64 0, .int .i64 0, .int .i64 0, .int .i64 0, .int .i64 0]), some (.cells false 4 [.agg [.int .i64 5, .int .i64 1, .bool false, .sl 0 0 5]])]⟩
theorem q6_ok : q6.ok Tryd.prog := ent_ok mixed (O := []) (fun _ h => by cases h) tabK_ok (m := 3000) (n := 40) (by kernel_rfl)
def q7 : OEnt := ⟨17, [.agg [.int .i64 0, .int .i64 0, .bool false, .nilsl]], [], .int .i64 2, [some (.cells false 4 [.agg [.int .i64 0, .int .i64 0, .bool false, .nilsl]])]⟩
theorem q7_ok : q7.ok Tryd.prog := ent_ok mixed (O := []) (fun _ h => by cases h) tabK_ok (m := 3000) (n := 40) (by kernel_rfl)
def q8 : OEnt := ⟨17, [.agg [.int .i64 2, .int .i64 2, .bool false, .sl 0 0 4]], [some (.cells false 1 [.int .i64 1, .int .i64 0, .int .i64 0, .int .i64 0])], .int .i64 0, [some (.cells false 1 [.int .i64 1, .int .i64 0, .int .i64 0, .int .i64 0]), some (.cells false 4 [.agg [.int .i64 2, .int .i64 2, .bool false, .sl 0 0 4]])]⟩
theorem q8_ok : q8.ok Tryd.prog := ent_ok mixed (O := []) (fun _ h => by cases h) tabK_ok (m := 3000) (n := 40) (by kernel_rfl)
def q9 : OEnt := ⟨17, [.agg [.int .i64 2, .int .i64 1, .bool false, .sl 0 0 2]], [some (.cells false 1 [.int .i64 1, .int .i64 2])], .int .i64 0, [some (.cells false 1 [.int .i64 1, .int .i64 2]), some (.cells false 4 [.agg [.int .i64 2, .int .i64 1, .bool false, .sl 0 0 2]])]⟩
theorem q9_ok : q9.ok Tryd.prog := ent_ok mixed (O := []) (fun _ h => by cases h) tabK_ok (m := 3000) (n := 40) (by kernel_rfl)
def q10 : OEnt := ⟨17, [.agg [.int .i64 5, .int .i64 1, .bool false, .sl 0 0 5]], [some (.cells true 1 [.int .i64 1, .int .i64 0, .int .i64 0, .int .i64 0, .int .i64 2])], .int .i64 0, [some (.cells true 1 [.int .i64 1, .int .i64 0, .int .i64 0, .int .i64 0, .int .i64 2]), some (.cells false 4 [.agg [.int .i64 5, .int .i64 1, .bool false, .sl 0 0 5]])]⟩
theorem q10_ok : q10.ok Tryd.prog := ent_ok mixed (O := []) (fun _ h => by cases h) tabK_ok (m := 3000) (n := 40) (by kernel_rfl)
end Go.Proofs

namespace Go.Proofs
open Go Go.Sx

def q11 : OEnt := ⟨57, [.str [102, 108, 97, 116, 10, 49, 46, 46, 46, 50, 10], .str [10]], [], .sl 0 0 3, [some (.cells false 1 [.str [102, 108, 97, 116], .str [49, 46, 46, 46, 50], .str []])]⟩
theorem q11_ok : q11.ok Tryd.prog := ent_ok mixed (O := []) (fun _ h => by cases h) tabK_ok (m := 3000) (n := 40) (by kernel_rfl)
def q12 : OEnt := ⟨57, [.str [102, 108, 97, 116, 10, 49, 120, 10], .str [10]], [], .sl 0 0 3, [some (.cells false 1 [.str [102, 108, 97, 116], .str [49, 120], .str []])]⟩
theorem q12_ok : q12.ok Tryd.prog := ent_ok mixed (O := []) (fun _ h => by cases h) tabK_ok (m := 3000) (n := 40) (by kernel_rfl)
def q13 : OEnt := ⟨57, [.str [102, 108, 97, 116, 10], .str [10]], [], .sl 0 0 2, [some (.cells false 1 [.str [102, 108, 97, 116], .str []])]⟩
theorem q13_ok : q13.ok Tryd.prog := ent_ok mixed (O := []) (fun _ h => by cases h) tabK_ok (m := 3000) (n := 40) (by kernel_rfl)
end Go.Proofs

namespace Go.Proofs
open Go Go.Sx

def OA : List OEnt := [q1, q2, q3, q4, q5, q6, q7, q8, q9, q10, q11, q12, q13]
theorem OA_ok : ∀ e ∈ OA, e.ok Tryd.prog := by
  unfold OA
  refine List.forall_mem_cons.2 ⟨q1_ok, ?_⟩
  refine List.forall_mem_cons.2 ⟨q2_ok, ?_⟩
  refine List.forall_mem_cons.2 ⟨q3_ok, ?_⟩
  refine List.forall_mem_cons.2 ⟨q4_ok, ?_⟩
  refine List.forall_mem_cons.2 ⟨q5_ok, ?_⟩
  refine List.forall_mem_cons.2 ⟨q6_ok, ?_⟩
  refine List.forall_mem_cons.2 ⟨q7_ok, ?_⟩
  refine List.forall_mem_cons.2 ⟨q8_ok, ?_⟩
  refine List.forall_mem_cons.2 ⟨q9_ok, ?_⟩
  refine List.forall_mem_cons.2 ⟨q10_ok, ?_⟩
  refine List.forall_mem_cons.2 ⟨q11_ok, ?_⟩
  refine List.forall_mem_cons.2 ⟨q12_ok, ?_⟩
  refine List.forall_mem_cons.2 ⟨q13_ok, ?_⟩
  intro e h; cases h
end Go.Proofs

namespace Go.Proofs
open Go Go.Sx

def q14 : OEnt := ⟨22, [.agg [.int .i64 5, .int .i64 1, .bool false, .sl 0 0 5], .sl 1 0 2, .int .i64 1], [some (.cells false 1 [.int .i64 1, .int .i64 0, .int .i64 0, .int .i64 0, .int .i64 2]), some (.cells false 1 [.int .i64 0, .int .i64 100])], .tup [.agg [.sl 4 0 5, .sl 5 0 5, .int .i64 1, .bool false], .int .i64 0], [some (.cells false 1 [.int .i64 1, .int .i64 0, .int .i64 0, .int .i64 0, .int .i64 2]), some (.cells false 1 [.int .i64 0, .int .i64 100]), some (.cells false 4 [.agg [.int .i64 5, .int .i64 1, .bool false, .sl 0 0 5]]), some (.cells false 4 [.agg [.sl 4 0 5, .sl 5 0 5, .int .i64 1, .bool false]]), some (.cells false 1 [.int .i64 0, .int .i64 0, .int .i64 0, .int .i64 50, .int .i64 100]), some (.cells false 1 [.int .i64 0, .int .i64 50, .int .i64 75, .int .i64 88, .int .i64 100])]⟩
theorem q14_ok : q14.ok Tryd.prog := ent_ok mixed (O := OA) OA_ok tabK_ok (m := 3000) (n := 40) (by kernel_rfl)
def q15 : OEnt := ⟨22, [.agg [.int .i64 5, .int .i64 1, .bool false, .sl 0 0 5], .sl 1 0 2, .int .i64 0], [some (.cells false 1 [.int .i64 1, .int .i64 0, .int .i64 0, .int .i64 0, .int .i64 2]), some (.cells false 1 [.int .i64 0, .int .i64 100])], .tup [.agg [.sl 4 0 5, .sl 5 0 5, .int .i64 0, .bool false], .int .i64 0], [some (.cells false 1 [.int .i64 1, .int .i64 0, .int .i64 0, .int .i64 0, .int .i64 2]), some (.cells false 1 [.int .i64 0, .int .i64 100]), some (.cells false 4 [.agg [.int .i64 5, .int .i64 1, .bool false, .sl 0 0 5]]), some (.cells false 4 [.agg [.sl 4 0 5, .sl 5 0 5, .int .i64 0, .bool false]]), some (.cells false 1 [.int .i64 0, .int .i64 0, .int .i64 0, .int .i64 0, .int .i64 100]), some (.cells false 1 [.int .i64 0, .int .i64 100, .int .i64 100, .int .i64 100, .int .i64 100])]⟩
theorem q15_ok : q15.ok Tryd.prog := ent_ok mixed (O := OA) OA_ok tabK_ok (m := 3000) (n := 40) (by kernel_rfl)
def q16 : OEnt := ⟨22, [.agg [.int .i64 5, .int .i64 1, .bool false, .sl 0 0 5], .sl 1 0 2, .int .i64 5], [some (.cells false 1 [.int .i64 1, .int .i64 0, .int .i64 0, .int .i64 0, .int .i64 2]), some (.cells false 1 [.int .i64 7, .int .i64 7])], .tup [.agg [.sl 4 0 5, .sl 5 0 5, .int .i64 1, .bool true], .int .i64 0], [some (.cells false 1 [.int .i64 1, .int .i64 0, .int .i64 0, .int .i64 0, .int .i64 2]), some (.cells false 1 [.int .i64 7, .int .i64 7]), some (.cells false 4 [.agg [.int .i64 5, .int .i64 1, .bool false, .sl 0 0 5]]), some (.cells false 4 [.agg [.sl 4 0 5, .sl 5 0 5, .int .i64 1, .bool true]]), some (.cells false 1 [.int .i64 7, .int .i64 7, .int .i64 7, .int .i64 7, .int .i64 7]), some (.cells false 1 [.int .i64 7, .int .i64 7, .int .i64 7, .int .i64 7, .int .i64 7])]⟩
theorem q16_ok : q16.ok Tryd.prog := ent_ok mixed (O := OA) OA_ok tabK_ok (m := 3000) (n := 40) (by kernel_rfl)
end Go.Proofs

namespace Go.Proofs
open Go Go.Sx

def q17 : OEnt := ⟨27, [.agg [.int .i64 5, .int .i64 1, .bool false, .sl 0 0 5], .sl 1 0 2, .int .i64 1, .int .i64 2], [some (.cells false 1 [.int .i64 1, .int .i64 0, .int .i64 0, .int .i64 0, .int .i64 2]), some (.cells false 1 [.int .i64 0, .int .i64 100])], .tup [.agg [.int .i64 12, .int .i64 50], .int .i64 0], [some (.cells false 1 [.int .i64 1, .int .i64 0, .int .i64 0, .int .i64 0, .int .i64 2]), some (.cells false 1 [.int .i64 0, .int .i64 100]), some (.cells false 4 [.agg [.int .i64 5, .int .i64 1, .bool false, .sl 0 0 5]]), some (.cells false 2 [.agg [.int .i64 12, .int .i64 50]]), some (.cells false 1 [.int .i64 0, .int .i64 0, .int .i64 0, .int .i64 50, .int .i64 100]), some (.cells false 1 [.int .i64 0, .int .i64 50, .int .i64 75, .int .i64 88, .int .i64 100]), some (.cells false 4 [.agg [.sl 4 0 5, .sl 5 0 5, .int .i64 1, .bool false]])]⟩
theorem q17_ok : q17.ok Tryd.prog := ent_ok mixed (O := OA) OA_ok tabK_ok (m := 3000) (n := 40) (by kernel_rfl)
def q18 : OEnt := ⟨27, [.agg [.int .i64 5, .int .i64 1, .bool false, .sl 0 0 5], .sl 1 0 2, .int .i64 1, .int .i64 1], [some (.cells false 1 [.int .i64 1, .int .i64 0, .int .i64 0, .int .i64 0, .int .i64 2]), some (.cells false 1 [.int .i64 0, .int .i64 100])], .tup [.agg [.int .i64 (-50), .int .i64 0], .int .i64 0], [some (.cells false 1 [.int .i64 1, .int .i64 0, .int .i64 0, .int .i64 0, .int .i64 2]), some (.cells false 1 [.int .i64 0, .int .i64 100]), some (.cells false 4 [.agg [.int .i64 5, .int .i64 1, .bool false, .sl 0 0 5]]), some (.cells false 2 [.agg [.int .i64 (-50), .int .i64 0]]), some (.cells false 1 [.int .i64 0, .int .i64 0, .int .i64 0, .int .i64 50, .int .i64 100]), some (.cells false 1 [.int .i64 0, .int .i64 50, .int .i64 75, .int .i64 88, .int .i64 100]), some (.cells false 4 [.agg [.sl 4 0 5, .sl 5 0 5, .int .i64 1, .bool false]])]⟩
theorem q18_ok : q18.ok Tryd.prog := ent_ok mixed (O := OA) OA_ok tabK_ok (m := 3000) (n := 40) (by kernel_rfl)
def q19 : OEnt := ⟨27, [.agg [.int .i64 5, .int .i64 1, .bool false, .sl 0 0 5], .sl 1 0 2, .int .i64 1, .int .i64 3], [some (.cells false 1 [.int .i64 1, .int .i64 0, .int .i64 0, .int .i64 0, .int .i64 2]), some (.cells false 1 [.int .i64 0, .int .i64 100])], .tup [.agg [.int .i64 0, .int .i64 0], .int .i64 7], [some (.cells false 1 [.int .i64 1, .int .i64 0, .int .i64 0, .int .i64 0, .int .i64 2]), some (.cells false 1 [.int .i64 0, .int .i64 100]), some (.cells false 4 [.agg [.int .i64 5, .int .i64 1, .bool false, .sl 0 0 5]]), some (.cells false 2 [.agg [.int .i64 0, .int .i64 0]]), some (.cells false 1 [.int .i64 0, .int .i64 0, .int .i64 0, .int .i64 50, .int .i64 100]), some (.cells false 1 [.int .i64 0, .int .i64 50, .int .i64 75, .int .i64 88, .int .i64 100]), some (.cells false 4 [.agg [.sl 4 0 5, .sl 5 0 5, .int .i64 1, .bool false]])]⟩
theorem q19_ok : q19.ok Tryd.prog := ent_ok mixed (O := OA) OA_ok tabK_ok (m := 3000) (n := 40) (by kernel_rfl)
end Go.Proofs

namespace Go.Proofs
open Go Go.Sx

def q20 : OEnt := ⟨24, [.agg [.int .i64 5, .int .i64 1, .bool false, .sl 0 0 5], .sl 1 0 2, .sl 2 0 5, .sl 2 0 5], [some (.cells false 1 [.int .i64 1, .int .i64 0, .int .i64 0, .int .i64 0, .int .i64 2]), some (.cells false 1 [.int .i64 0, .int .i64 100]), some (.cells false 1 [.int .i64 0, .int .i64 25, .int .i64 50, .int .i64 75, .int .i64 100])], .bool true, [some (.cells false 1 [.int .i64 1, .int .i64 0, .int .i64 0, .int .i64 0, .int .i64 2]), some (.cells false 1 [.int .i64 0, .int .i64 100]), some (.cells false 1 [.int .i64 0, .int .i64 25, .int .i64 50, .int .i64 75, .int .i64 100]), some (.cells false 4 [.agg [.int .i64 5, .int .i64 1, .bool false, .sl 0 0 5]])]⟩
theorem q20_ok : q20.ok Tryd.prog := ent_ok mixed (O := OA) OA_ok tabK_ok (m := 3000) (n := 40) (by kernel_rfl)
def q21 : OEnt := ⟨24, [.agg [.int .i64 5, .int .i64 1, .bool false, .sl 0 0 5], .sl 1 0 2, .sl 2 0 5, .sl 3 0 5], [some (.cells false 1 [.int .i64 1, .int .i64 0, .int .i64 0, .int .i64 0, .int .i64 2]), some (.cells false 1 [.int .i64 0, .int .i64 100]), some (.cells false 1 [.int .i64 0, .int .i64 25, .int .i64 51, .int .i64 75, .int .i64 100]), some (.cells false 1 [.int .i64 0, .int .i64 25, .int .i64 50, .int .i64 75, .int .i64 100])], .bool false, [some (.cells false 1 [.int .i64 1, .int .i64 0, .int .i64 0, .int .i64 0, .int .i64 2]), some (.cells false 1 [.int .i64 0, .int .i64 100]), some (.cells false 1 [.int .i64 0, .int .i64 25, .int .i64 51, .int .i64 75, .int .i64 100]), some (.cells false 1 [.int .i64 0, .int .i64 25, .int .i64 50, .int .i64 75, .int .i64 100]), some (.cells false 4 [.agg [.int .i64 5, .int .i64 1, .bool false, .sl 0 0 5]])]⟩
theorem q21_ok : q21.ok Tryd.prog := ent_ok mixed (O := OA) OA_ok tabK_ok (m := 3000) (n := 40) (by kernel_rfl)
def q22 : OEnt := ⟨10, [.agg [.int .i64 5, .int .i64 1, .bool false, .sl 0 0 5]], [some (.cells false 1 [.int .i64 1, .int .i64 0, .int .i64 0, .int .i64 0, .int .i64 2])], .tup [.str [102, 108, 97, 116, 10, 49, 46, 46, 46, 50, 10], .int .i64 0], [some (.cells false 1 [.int .i64 1, .int .i64 0, .int .i64 0, .int .i64 0, .int .i64 2]), some (.cells false 4 [.agg [.int .i64 5, .int .i64 1, .bool false, .sl 0 0 5]]), some (.cells true 1 [.int .u8 102, .int .u8 108, .int .u8 97, .int .u8 116, .int .u8 10, .int .u8 49, .int .u8 46, .int .u8 46, .int .u8 46, .int .u8 50, .int .u8 10]), some (.cells false 1 [.sl 2 0 10]), some (.cells false 1 [.sl 0 0 5]), some (.cells false 1 [.int .i64 5]), none, none, some (.cells false 1 [.int .u8 10])]⟩
theorem q22_ok : q22.ok Tryd.prog := ent_ok mixed (O := OA) OA_ok tabK_ok (m := 3000) (n := 40) (by kernel_rfl)
end Go.Proofs

namespace Go.Proofs
open Go Go.Sx

def q23 : OEnt := ⟨48, [.agg [.int .i64 5, .int .i64 1, .bool false, .sl 0 0 5], .int .i64 0, .int .i64 2, .int .i64 1], [some (.cells false 1 [.int .i64 1, .int .i64 0, .int .i64 0, .int .i64 0, .int .i64 2])], .tup [.agg [.int .i64 0, .int .i64 1000000], .int .i64 0], [some (.cells false 1 [.int .i64 1, .int .i64 0, .int .i64 0, .int .i64 0, .int .i64 2]), some (.cells false 4 [.agg [.int .i64 5, .int .i64 1, .bool false, .sl 0 0 5]]), some (.cells false 2 [.agg [.int .i64 0, .int .i64 1000000]]), some (.cells false 1 [.int .i64 2, .int .i64 1])]⟩
theorem q23_ok : q23.ok Tryd.prog := ent_ok mixed (O := OA) OA_ok tabK_ok (m := 3000) (n := 40) (by kernel_rfl)
def q24 : OEnt := ⟨48, [.agg [.int .i64 5, .int .i64 1, .bool false, .sl 0 0 5], .int .i64 0, .int .i64 1, .int .i64 1], [some (.cells false 1 [.int .i64 1, .int .i64 0, .int .i64 0, .int .i64 0, .int .i64 2])], .tup [.agg [.int .i64 0, .int .i64 0], .int .i64 9], [some (.cells false 1 [.int .i64 1, .int .i64 0, .int .i64 0, .int .i64 0, .int .i64 2]), some (.cells false 4 [.agg [.int .i64 5, .int .i64 1, .bool false, .sl 0 0 5]]), some (.cells false 2 [.agg [.int .i64 0, .int .i64 0]]), some (.cells false 1 [.int .i64 1, .int .i64 1])]⟩
theorem q24_ok : q24.ok Tryd.prog := ent_ok mixed (O := OA) OA_ok tabK_ok (m := 3000) (n := 40) (by kernel_rfl)
def q25 : OEnt := ⟨48, [.agg [.int .i64 5, .int .i64 1, .bool false, .sl 0 0 5], .int .i64 0, .int .i64 7, .int .i64 1], [some (.cells false 1 [.int .i64 1, .int .i64 0, .int .i64 0, .int .i64 0, .int .i64 2])], .tup [.agg [.int .i64 0, .int .i64 0], .int .i64 7], [some (.cells false 1 [.int .i64 1, .int .i64 0, .int .i64 0, .int .i64 0, .int .i64 2]), some (.cells false 4 [.agg [.int .i64 5, .int .i64 1, .bool false, .sl 0 0 5]]), some (.cells false 2 [.agg [.int .i64 0, .int .i64 0]]), some (.cells false 1 [.int .i64 7, .int .i64 1])]⟩
theorem q25_ok : q25.ok Tryd.prog := ent_ok mixed (O := OA) OA_ok tabK_ok (m := 3000) (n := 40) (by kernel_rfl)
end Go.Proofs

namespace Go.Proofs
open Go Go.Sx

def q26 : OEnt := ⟨50, [.agg [.int .i64 5, .int .i64 3, .bool false, .sl 0 0 15], .int .i64 2, .int .i64 2, .int .i64 0], [some (.cells false 1 [.int .i64 1, .int .i64 0, .int .i64 0, .int .i64 0, .int .i64 3, .int .i64 1, .int .i64 0, .int .i64 2, .int .i64 0, .int .i64 3, .int .i64 1, .int .i64 0, .int .i64 0, .int .i64 0, .int .i64 3])], .tup [.agg [.int .i64 0, .int .i64 0, .bool false, .nilsl], .int .i64 9], [some (.cells false 1 [.int .i64 1, .int .i64 0, .int .i64 0, .int .i64 0, .int .i64 3, .int .i64 1, .int .i64 0, .int .i64 2, .int .i64 0, .int .i64 3, .int .i64 1, .int .i64 0, .int .i64 0, .int .i64 0, .int .i64 3]), some (.cells false 4 [.agg [.int .i64 5, .int .i64 3, .bool false, .sl 0 0 15]]), some (.cells false 4 [.agg [.int .i64 0, .int .i64 0, .bool false, .nilsl]]), some (.cells true 1 [.int .i64 1, .int .i64 0, .int .i64 0, .int .i64 0, .int .i64 3, .int .i64 1, .int .i64 0, .int .i64 0, .int .i64 0, .int .i64 3, .int .i64 1, .int .i64 0, .int .i64 0, .int .i64 0, .int .i64 3]), some (.cells false 4 [.agg [.int .i64 5, .int .i64 3, .bool false, .sl 3 0 15]])]⟩
theorem q26_ok : q26.ok Tryd.prog := ent_ok mixed (O := OA) OA_ok tabK_ok (m := 3000) (n := 40) (by kernel_rfl)
def q27 : OEnt := ⟨50, [.agg [.int .i64 5, .int .i64 3, .bool false, .sl 0 0 15], .int .i64 2, .int .i64 0, .int .i64 2], [some (.cells false 1 [.int .i64 1, .int .i64 0, .int .i64 0, .int .i64 0, .int .i64 3, .int .i64 1, .int .i64 0, .int .i64 2, .int .i64 0, .int .i64 3, .int .i64 1, .int .i64 0, .int .i64 0, .int .i64 0, .int .i64 3])], .tup [.agg [.int .i64 0, .int .i64 0, .bool false, .nilsl], .int .i64 2], [some (.cells false 1 [.int .i64 1, .int .i64 0, .int .i64 0, .int .i64 0, .int .i64 3, .int .i64 1, .int .i64 0, .int .i64 2, .int .i64 0, .int .i64 3, .int .i64 1, .int .i64 0, .int .i64 0, .int .i64 0, .int .i64 3]), some (.cells false 4 [.agg [.int .i64 5, .int .i64 3, .bool false, .sl 0 0 15]]), some (.cells false 4 [.agg [.int .i64 0, .int .i64 0, .bool false, .nilsl]])]⟩
theorem q27_ok : q27.ok Tryd.prog := ent_ok mixed (O := OA) OA_ok tabK_ok (m := 3000) (n := 40) (by kernel_rfl)
end Go.Proofs

namespace Go.Proofs
open Go Go.Sx

def q28 : OEnt := ⟨35, [.str [102, 108, 97, 116, 10, 49, 46, 46, 46, 50, 10]], [], .tup [.agg [.int .i64 5, .int .i64 1, .bool false, .sl 4 0 5], .int .i64 0], [some (.cells false 4 [.agg [.int .i64 5, .int .i64 1, .bool false, .sl 4 0 5]]), some (.cells false 1 [.str [102, 108, 97, 116], .str [49, 46, 46, 46, 50], .str []]), some (.cells true 1 [.int .u8 49, .int .u8 46, .int .u8 46, .int .u8 46, .int .u8 50]), some (.cells false 1 [.int .i64 1]), some (.cells true 1 [.int .i64 1, .int .i64 0, .int .i64 0, .int .i64 0, .int .i64 2]), some (.cells false 1 [.int .i64 0]), some (.cells false 1 [.int .i64 0]), some (.cells false 1 [.int .i64 0]), some (.cells false 1 [.int .i64 2])]⟩
theorem q28_ok : q28.ok Tryd.prog := ent_ok mixed (O := OA) OA_ok tabK_ok (m := 3000) (n := 40) (by kernel_rfl)
def q29 : OEnt := ⟨35, [.str [102, 108, 97, 116, 10, 49, 120, 10]], [], .tup [.agg [.int .i64 0, .int .i64 1, .bool false, .nilsl], .int .i64 2], [some (.cells false 4 [.agg [.int .i64 0, .int .i64 1, .bool false, .nilsl]]), some (.cells false 1 [.str [102, 108, 97, 116], .str [49, 120], .str []])]⟩
theorem q29_ok : q29.ok Tryd.prog := ent_ok mixed (O := OA) OA_ok tabK_ok (m := 3000) (n := 40) (by kernel_rfl)
def q30 : OEnt := ⟨35, [.str [102, 108, 97, 116, 10]], [], .tup [.agg [.int .i64 0, .int .i64 0, .bool false, .nilsl], .int .i64 2], [some (.cells false 4 [.agg [.int .i64 0, .int .i64 0, .bool false, .nilsl]]), some (.cells false 1 [.str [102, 108, 97, 116], .str []])]⟩
theorem q30_ok : q30.ok Tryd.prog := ent_ok mixed (O := OA) OA_ok tabK_ok (m := 3000) (n := 40) (by kernel_rfl)
end Go.Proofs

namespace Go.Proofs
open Go Go.Sx

def q31 : OEnt := ⟨49, [.agg [.int .i64 5, .int .i64 3, .bool false, .sl 0 0 15], .int .i64 0, .int .i64 1, .int .i64 2, .int .i64 3], [some (.cells false 1 [.int .i64 1, .int .i64 0, .int .i64 0, .int .i64 0, .int .i64 3, .int .i64 1, .int .i64 0, .int .i64 2, .int .i64 0, .int .i64 3, .int .i64 1, .int .i64 0, .int .i64 0, .int .i64 0, .int .i64 3])], .tup [.agg [.int .i64 0, .int .i64 0], .int .i64 10], [some (.cells false 1 [.int .i64 1, .int .i64 0, .int .i64 0, .int .i64 0, .int .i64 3, .int .i64 1, .int .i64 0, .int .i64 2, .int .i64 0, .int .i64 3, .int .i64 1, .int .i64 0, .int .i64 0, .int .i64 0, .int .i64 3]), some (.cells false 4 [.agg [.int .i64 5, .int .i64 3, .bool false, .sl 0 0 15]]), some (.cells false 2 [.agg [.int .i64 0, .int .i64 0]]), some (.cells false 1 [.int .i64 1, .int .i64 2, .int .i64 3]), some (.cells false 2 [.agg [.int .i64 0, .int .i64 3000000]])]⟩
theorem q31_ok : q31.ok Tryd.prog := ent_ok mixed (O := OA) OA_ok tabK_ok (m := 3000) (n := 40) (by kernel_rfl)
end Go.Proofs

namespace Go.Proofs
open Go Go.Sx

theorem fl_int {len : Nat → Nat} (q : IntKind) (n : Int) : Ful len (.int q n) = True := eq_true (.int q n)
theorem fl_bool {len : Nat → Nat} (b : Bool) : Ful len (.bool b) = True := eq_true (.bool b)
theorem fl_sl {len : Nat → Nat} (r o n : Nat) : Ful len (.sl r o n) = (o + n = len r) := propext ⟨fun h => by cases h; assumption, fun h => .sl r o n h⟩
def shL : Heap := [some (.cells false 1 [.int .i64 1, .int .i64 0, .int .i64 0, .int .i64 0, .int .i64 3, .int .i64 1, .int .i64 0, .int .i64 2, .int .i64 0, .int .i64 3, .int .i64 1, .int .i64 0, .int .i64 0, .int .i64 0, .int .i64 3]), some (.cells false 4 [.agg [.int .i64 5, .int .i64 3, .bool false, .sl 0 0 15]]), some (.cells false 4 [.agg [.int .i64 5, .int .i64 3, .bool false, .sl 3 0 15]]), some (.cells true 1 [.int .i64 1, .int .i64 0, .int .i64 0, .int .i64 0, .int .i64 3, .int .i64 1, .int .i64 0, .int .i64 0, .int .i64 2, .int .i64 3, .int .i64 1, .int .i64 0, .int .i64 0, .int .i64 0, .int .i64 3]), some (.cells false 4 [.agg [.int .i64 5, .int .i64 3, .bool false, .sl 3 0 15]])]
def q0 : OEnt := ⟨50, [.agg [.int .i64 5, .int .i64 3, .bool false, .sl 0 0 15], .int .i64 2, .int .i64 1, .int .i64 0], [some (.cells false 1 [.int .i64 1, .int .i64 0, .int .i64 0, .int .i64 0, .int .i64 3, .int .i64 1, .int .i64 0, .int .i64 2, .int .i64 0, .int .i64 3, .int .i64 1, .int .i64 0, .int .i64 0, .int .i64 0, .int .i64 3])], .tup [.agg [.int .i64 5, .int .i64 3, .bool false, .sl 3 0 15], .int .i64 0], settleFrom 1 shL⟩
theorem q0_ok : q0.ok Tryd.prog := by
  refine ent_settle mixed (O := OA) OA_ok tabK_ok (m := 3000) (n := 40) shL (by kernel_rfl) rfl (by simp [q0, shL]) ?_ ?_ ?_ ?_
  · simp [q0, shL, bel_tup, bel_agg, bel_sl, bel_int, bel_bool, Bels]
  · simp [shL, Full, row_bel_cells, bel_tup, bel_agg, bel_sl, bel_int, bel_bool, Bels]
  · simp [q0, shL, ful_tup, ful_agg, Fuls, fl_int, fl_bool, fl_sl, lenIn, rowLen]
  · intro i x hx
    rcases i with _ | _ | _ | _ | _ | i <;> simp [shL] at hx <;> subst hx <;> simp [Row.ful, Fuls, ful_agg, fl_int, fl_bool, fl_sl, lenIn, rowLen, shL]
end Go.Proofs

namespace Go.Proofs
open Go Go.Sx

def OB : List OEnt := [q14, q15, q16, q17, q18, q19, q20, q21, q22, q23, q24, q25, q26, q27, q28, q29, q30, q31, q0] ++ OA
theorem OB_ok : ∀ e ∈ OB, e.ok Tryd.prog := by
  unfold OB
  refine List.forall_mem_cons.2 ⟨q14_ok, ?_⟩
  refine List.forall_mem_cons.2 ⟨q15_ok, ?_⟩
  refine List.forall_mem_cons.2 ⟨q16_ok, ?_⟩
  refine List.forall_mem_cons.2 ⟨q17_ok, ?_⟩
  refine List.forall_mem_cons.2 ⟨q18_ok, ?_⟩
  refine List.forall_mem_cons.2 ⟨q19_ok, ?_⟩
  refine List.forall_mem_cons.2 ⟨q20_ok, ?_⟩
  refine List.forall_mem_cons.2 ⟨q21_ok, ?_⟩
  refine List.forall_mem_cons.2 ⟨q22_ok, ?_⟩
  refine List.forall_mem_cons.2 ⟨q23_ok, ?_⟩
  refine List.forall_mem_cons.2 ⟨q24_ok, ?_⟩
  refine List.forall_mem_cons.2 ⟨q25_ok, ?_⟩
  refine List.forall_mem_cons.2 ⟨q26_ok, ?_⟩
  refine List.forall_mem_cons.2 ⟨q27_ok, ?_⟩
  refine List.forall_mem_cons.2 ⟨q28_ok, ?_⟩
  refine List.forall_mem_cons.2 ⟨q29_ok, ?_⟩
  refine List.forall_mem_cons.2 ⟨q30_ok, ?_⟩
  refine List.forall_mem_cons.2 ⟨q31_ok, ?_⟩
  refine List.forall_mem_cons.2 ⟨q0_ok, ?_⟩
  exact OA_ok
end Go.Proofs

namespace Go.Proofs
open Go Go.Sx

def q32 : OEnt := ⟨13, [.str [102, 108, 97, 116, 10, 49, 46, 46, 46, 50, 10]], [], .tup [.agg [.int .i64 5, .int .i64 1, .bool false, .sl 1 0 5], .int .i64 0, .int .i64 0], [some (.cells false 4 [.agg [.int .i64 5, .int .i64 1, .bool false, .sl 1 0 5]]), some (.cells true 1 [.int .i64 1, .int .i64 0, .int .i64 0, .int .i64 0, .int .i64 2]), some (.cells false 4 [.agg [.int .i64 5, .int .i64 1, .bool false, .sl 1 0 5]])]⟩
theorem q32_ok : q32.ok Tryd.prog := ent_ok mixed (O := OB) OB_ok tabK_ok (m := 3000) (n := 40) (by kernel_rfl)
def q33 : OEnt := ⟨13, [.str [102, 108, 97, 116, 10, 49, 120, 10]], [], .tup [.agg [.int .i64 0, .int .i64 0, .bool false, .nilsl], .int .i64 2, .int .i64 3], [some (.cells false 4 [.agg [.int .i64 0, .int .i64 0, .bool false, .nilsl]]), some (.cells false 4 [.agg [.int .i64 0, .int .i64 1, .bool false, .nilsl]])]⟩
theorem q33_ok : q33.ok Tryd.prog := ent_ok mixed (O := OB) OB_ok tabK_ok (m := 3000) (n := 40) (by kernel_rfl)
def q34 : OEnt := ⟨13, [.str [102, 108, 97, 116, 10]], [], .tup [.agg [.int .i64 0, .int .i64 0, .bool false, .nilsl], .int .i64 2, .int .i64 3], [some (.cells false 4 [.agg [.int .i64 0, .int .i64 0, .bool false, .nilsl]]), some (.cells false 4 [.agg [.int .i64 0, .int .i64 0, .bool false, .nilsl]])]⟩
theorem q34_ok : q34.ok Tryd.prog := ent_ok mixed (O := OB) OB_ok tabK_ok (m := 3000) (n := 40) (by kernel_rfl)
end Go.Proofs

namespace Go.Proofs
open Go Go.Sx

def q35 : OEnt := ⟨7, [], [], .bool true, [some (.cells false 1 [.int .i64 1, .int .i64 0, .int .i64 0, .int .i64 0, .int .i64 2]), some (.cells false 1 [.int .i64 0, .int .i64 100]), some (.cells false 1 [.int .i64 0, .int .i64 0, .int .i64 0, .int .i64 50, .int .i64 100]), some (.cells false 1 [.int .i64 0, .int .i64 50, .int .i64 75, .int .i64 88, .int .i64 100]), some (.cells false 4 [.agg [.sl 2 0 5, .sl 3 0 5, .int .i64 1, .bool false]]), some (.cells false 1 [.int .i64 1, .int .i64 0, .int .i64 0, .int .i64 0, .int .i64 2]), some (.cells false 1 [.int .i64 0, .int .i64 100]), some (.cells false 2 [.agg [.int .i64 12, .int .i64 50]]), some (.cells false 1 [.int .i64 0, .int .i64 0, .int .i64 0, .int .i64 50, .int .i64 100]), some (.cells false 1 [.int .i64 0, .int .i64 50, .int .i64 75, .int .i64 88, .int .i64 100]), some (.cells false 1 [.int .i64 1, .int .i64 0, .int .i64 0, .int .i64 0, .int .i64 2])]⟩
theorem q35_ok : q35.ok Tryd.prog := ent_ok mixed (O := OB) OB_ok tabK_ok (m := 3000) (n := 40) (by kernel_rfl)
end Go.Proofs

namespace Go.Proofs
open Go Go.Sx

def q36 : OEnt := ⟨25, [], [], .bool true, [some (.cells false 1 [.int .i64 1, .int .i64 0, .int .i64 0, .int .i64 0, .int .i64 2]), some (.cells false 1 [.int .i64 0, .int .i64 100]), some (.cells false 2 [.agg [.int .i64 (-50), .int .i64 0]]), some (.cells false 1 [.int .i64 1, .int .i64 0, .int .i64 0, .int .i64 0, .int .i64 2]), some (.cells false 1 [.int .i64 0, .int .i64 100]), some (.cells false 2 [.agg [.int .i64 0, .int .i64 0]]), some (.cells false 1 [.int .i64 1, .int .i64 0, .int .i64 0, .int .i64 0, .int .i64 2]), some (.cells false 2 [.agg [.int .i64 0, .int .i64 1000000]]), some (.cells false 1 [.int .i64 1, .int .i64 0, .int .i64 0, .int .i64 0, .int .i64 2]), some (.cells false 2 [.agg [.int .i64 0, .int .i64 0]]), some (.cells false 1 [.int .i64 1, .int .i64 0, .int .i64 0, .int .i64 0, .int .i64 2]), some (.cells false 2 [.agg [.int .i64 0, .int .i64 0]]), some (.cells false 1 [.int .i64 1, .int .i64 0, .int .i64 0, .int .i64 0, .int .i64 3, .int .i64 1, .int .i64 0, .int .i64 2, .int .i64 0, .int .i64 3, .int .i64 1, .int .i64 0, .int .i64 0, .int .i64 0, .int .i64 3]), some (.cells false 2 [.agg [.int .i64 0, .int .i64 0]])]⟩
theorem q36_ok : q36.ok Tryd.prog := ent_ok mixed (O := OB) OB_ok tabK_ok (m := 3000) (n := 40) (by kernel_rfl)
end Go.Proofs

namespace Go.Proofs
open Go Go.Sx

def OC : List OEnt := [q32, q33, q34, q35, q36] ++ OB
theorem OC_ok : ∀ e ∈ OC, e.ok Tryd.prog := by
  unfold OC
  refine List.forall_mem_cons.2 ⟨q32_ok, ?_⟩
  refine List.forall_mem_cons.2 ⟨q33_ok, ?_⟩
  refine List.forall_mem_cons.2 ⟨q34_ok, ?_⟩
  refine List.forall_mem_cons.2 ⟨q35_ok, ?_⟩
  refine List.forall_mem_cons.2 ⟨q36_ok, ?_⟩
  exact OB_ok
end Go.Proofs

namespace Go.Proofs
open Go Go.Sx

def q37 : OEnt := ⟨26, [], [], .bool true, [some (.cells false 1 [.int .i64 1, .int .i64 0, .int .i64 0, .int .i64 0, .int .i64 3, .int .i64 1, .int .i64 0, .int .i64 2, .int .i64 0, .int .i64 3, .int .i64 1, .int .i64 0, .int .i64 0, .int .i64 0, .int .i64 3]), some (.cells false 1 [.int .i64 1, .int .i64 0, .int .i64 0, .int .i64 0, .int .i64 3, .int .i64 1, .int .i64 0, .int .i64 0, .int .i64 2, .int .i64 3, .int .i64 1, .int .i64 0, .int .i64 0, .int .i64 0, .int .i64 3]), some (.cells false 4 [.agg [.int .i64 5, .int .i64 3, .bool false, .sl 1 0 15]]), some (.cells false 1 [.int .i64 1, .int .i64 0, .int .i64 0, .int .i64 0, .int .i64 3, .int .i64 1, .int .i64 0, .int .i64 2, .int .i64 0, .int .i64 3, .int .i64 1, .int .i64 0, .int .i64 0, .int .i64 0, .int .i64 3]), some (.cells false 4 [.agg [.int .i64 0, .int .i64 0, .bool false, .nilsl]]), some (.cells false 1 [.int .i64 1, .int .i64 0, .int .i64 0, .int .i64 0, .int .i64 3, .int .i64 1, .int .i64 0, .int .i64 2, .int .i64 0, .int .i64 3, .int .i64 1, .int .i64 0, .int .i64 0, .int .i64 0, .int .i64 3]), some (.cells false 4 [.agg [.int .i64 0, .int .i64 0, .bool false, .nilsl]]), some (.cells false 1 [.int .i64 1, .int .i64 0, .int .i64 0, .int .i64 0, .int .i64 2]), some (.cells true 1 [.int .i64 1, .int .i64 0, .int .i64 0, .int .i64 0, .int .i64 2]), some (.cells false 4 [.agg [.int .i64 5, .int .i64 1, .bool false, .sl 8 0 5]]), some (.cells false 4 [.agg [.int .i64 0, .int .i64 0, .bool false, .nilsl]]), some (.cells false 4 [.agg [.int .i64 0, .int .i64 0, .bool false, .nilsl]]), some (.cells false 1 [.int .i64 1, .int .i64 0, .int .i64 0, .int .i64 2, .int .i64 3]), some (.cells false 1 [.int .i64 1, .int .i64 0, .int .i64 0, .int .i64 0, .int .i64 2])]⟩
theorem q37_ok : q37.ok Tryd.prog := ent_ok mixed (O := OC) OC_ok tabK_ok (m := 3000) (n := 40) (by kernel_rfl)
def OD : List OEnt := q37 :: OC
theorem OD_ok : ∀ e ∈ OD, e.ok Tryd.prog := List.forall_mem_cons.2 ⟨q37_ok, OC_ok⟩
theorem known_yes : yesO (exFnO OD tabK 3000 40 n_law01_FieldKnown [] []) = true := by kernel_rfl
theorem known_law : Ans Tryd.prog n_law01_FieldKnown [] [] (.bool true) [] := (yesO_ans mixed OD_ok tabK_ok known_yes).mono fun v H' hv => ⟨hv, H', rfl⟩
end Go.Proofs

