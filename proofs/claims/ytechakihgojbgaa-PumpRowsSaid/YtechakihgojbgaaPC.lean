/- A part of the proof. -/
import Derived.Test.YtechakihgojbgaaPB
set_option linter.unusedSimpArgs false
set_option linter.unusedVariables false
namespace Go.Proofs
open Go Go.Sx
attribute [local irreducible] Run

theorem fst_bel (n : Nat) {S : Nat → Prop} : (Row.cells true 1 (fstV n)).bel S := by
  rw [row_bel_cells]
  exact bels_of fun v hv => by
    obtain ⟨k, -, rfl⟩ := List.mem_map.1 hv
    exact .int _ _
theorem fst_nv (n : Nat) : (Row.cells true 1 (fstV n)).nv := row_nv_cells _ _ (nvs_of fun v hv => by
  obtain ⟨k, -, rfl⟩ := List.mem_map.1 hv
  simp only [go_sem])
theorem okW2 : okW 2 1 = true := by kernel_rfl
set_option maxHeartbeats 4000000 in
set_option maxRecDepth 20000 in
theorem rows_2 (x : Int) (hx : x % 12 = 1) : Ans Try.prog n_law06_PumpRows [.int .i64 x] [] (.bool true) [] := by
  have k0 := mod_pos x 12 (by decide)
  rw [hx] at k0
  have w1 : IntKind.i64.wrap 1 = 1 := by decide
  have w2 : IntKind.i64.wrap 2 = 2 := by decide
  have w3 : IntKind.i64.wrap 3 = 3 := by decide
  have w4 : IntKind.i64.wrap 4 = 4 := by decide
  have w5 : IntKind.i64.wrap 5 = 5 := by decide
  have w6 : IntKind.i64.wrap 6 = 6 := by decide
  have w7 : IntKind.i64.wrap 7 = 7 := by decide
  have w8 : IntKind.i64.wrap 8 = 8 := by decide
  have w9 : IntKind.i64.wrap 9 = 9 := by decide
  have w10 : IntKind.i64.wrap 10 = 10 := by decide
  have w11 : IntKind.i64.wrap 11 = 11 := by decide
  have w12 : IntKind.i64.wrap 12 = 12 := by decide
  have s0 : shlW .i64 1 0 = 1 := by decide
  have s1 : shlW .i64 1 1 = 2 := by decide
  have s2 : shlW .i64 1 2 = 4 := by decide
  have s3 : shlW .i64 1 3 = 8 := by decide
  have s4 : shlW .i64 1 4 = 16 := by decide
  obtain ⟨t, kw⟩ := worst_row (n := 2) (by decide) okW2
  refine spec_run e_law06_PumpRows fun G => ?_
  simp only [go_sem]
  refine cP k0 ?_
  simp only [go_sem, Int.reduceAdd, w1, w2, w3, w4, w5, w6, w7, w8, w9, w10, w11, w12]
  refine loop_body 3000 k_law06_PumpRows_r7.eq_1 ?_
  simp only [go_sem, Int.reduceAdd, Int.reduceLT, w1, w2, w3, w4, w5, w6, w7, w8, w9, w10, w11, w12]
  refine dFN (First_run (n := 1) (by decide) (by decide)) 6 [] ⟨.inl rfl, trivial⟩ ?_ (hx := fst_bel _) (hxn := fst_nv _)
  simp only [go_sem, ren, rens, Int.reduceAdd, w1, w2, w3, w4, w5, w6, w7, w8, w9, w10, w11, w12]
  refine ⟨by decide, ?_⟩
  refine loop_body 3000 k_law06_PumpRows_r7.eq_1 ?_
  simp only [go_sem, Int.reduceAdd, Int.reduceLT, w1, w2, w3, w4, w5, w6, w7, w8, w9, w10, w11, w12]
  refine loop_body 3000 k_law06_PumpRows_r11.eq_1 ?_
  simp only [go_sem, Int.reduceAdd, Int.reduceLT, w1, w2, w3, w4, w5, w6, w7, w8, w9, w10, w11, w12, s0, s1, s2, s3, s4]
  refine loop_body 3000 k_law06_PumpRows_r11.eq_1 ?_
  simp only [go_sem, Int.reduceAdd, Int.reduceLT, w1, w2, w3, w4, w5, w6, w7, w8, w9, w10, w11, w12, s0, s1, s2, s3, s4]
  refine dFN (First_run (n := 2) (by decide) (by decide)) 6 [] ⟨.inl rfl, trivial⟩ ?_ (hx := fst_bel _) (hxn := fst_nv _)
  simp only [go_sem, ren, rens]
  refine cF kw 6 ⟨.inl ?_, .inl ?_, trivial⟩ ?_
  · rfl
  · rfl
  simp only [go_sem]
  refine cP awake_ok ?_
  simp only [go_sem]
theorem okW3 : okW 3 2 = true := by kernel_rfl
set_option maxHeartbeats 4000000 in
set_option maxRecDepth 20000 in
theorem rows_3 (x : Int) (hx : x % 12 = 2) : Ans Try.prog n_law06_PumpRows [.int .i64 x] [] (.bool true) [] := by
  have k0 := mod_pos x 12 (by decide)
  rw [hx] at k0
  have w1 : IntKind.i64.wrap 1 = 1 := by decide
  have w2 : IntKind.i64.wrap 2 = 2 := by decide
  have w3 : IntKind.i64.wrap 3 = 3 := by decide
  have w4 : IntKind.i64.wrap 4 = 4 := by decide
  have w5 : IntKind.i64.wrap 5 = 5 := by decide
  have w6 : IntKind.i64.wrap 6 = 6 := by decide
  have w7 : IntKind.i64.wrap 7 = 7 := by decide
  have w8 : IntKind.i64.wrap 8 = 8 := by decide
  have w9 : IntKind.i64.wrap 9 = 9 := by decide
  have w10 : IntKind.i64.wrap 10 = 10 := by decide
  have w11 : IntKind.i64.wrap 11 = 11 := by decide
  have w12 : IntKind.i64.wrap 12 = 12 := by decide
  have s0 : shlW .i64 1 0 = 1 := by decide
  have s1 : shlW .i64 1 1 = 2 := by decide
  have s2 : shlW .i64 1 2 = 4 := by decide
  have s3 : shlW .i64 1 3 = 8 := by decide
  have s4 : shlW .i64 1 4 = 16 := by decide
  obtain ⟨t, kw⟩ := worst_row (n := 3) (by decide) okW3
  refine spec_run e_law06_PumpRows fun G => ?_
  simp only [go_sem]
  refine cP k0 ?_
  simp only [go_sem, Int.reduceAdd, w1, w2, w3, w4, w5, w6, w7, w8, w9, w10, w11, w12]
  refine loop_body 3000 k_law06_PumpRows_r7.eq_1 ?_
  simp only [go_sem, Int.reduceAdd, Int.reduceLT, w1, w2, w3, w4, w5, w6, w7, w8, w9, w10, w11, w12]
  refine dFN (First_run (n := 1) (by decide) (by decide)) 6 [] ⟨.inl rfl, trivial⟩ ?_ (hx := fst_bel _) (hxn := fst_nv _)
  simp only [go_sem, ren, rens, Int.reduceAdd, w1, w2, w3, w4, w5, w6, w7, w8, w9, w10, w11, w12]
  refine ⟨by decide, ?_⟩
  refine loop_body 3000 k_law06_PumpRows_r7.eq_1 ?_
  simp only [go_sem, Int.reduceAdd, Int.reduceLT, w1, w2, w3, w4, w5, w6, w7, w8, w9, w10, w11, w12]
  refine dFN (First_run (n := 2) (by decide) (by decide)) 6 [] ⟨.inl rfl, trivial⟩ ?_ (hx := fst_bel _) (hxn := fst_nv _)
  simp only [go_sem, ren, rens, Int.reduceAdd, w1, w2, w3, w4, w5, w6, w7, w8, w9, w10, w11, w12]
  refine ⟨by decide, ?_⟩
  refine loop_body 3000 k_law06_PumpRows_r7.eq_1 ?_
  simp only [go_sem, Int.reduceAdd, Int.reduceLT, w1, w2, w3, w4, w5, w6, w7, w8, w9, w10, w11, w12]
  refine loop_body 3000 k_law06_PumpRows_r11.eq_1 ?_
  simp only [go_sem, Int.reduceAdd, Int.reduceLT, w1, w2, w3, w4, w5, w6, w7, w8, w9, w10, w11, w12, s0, s1, s2, s3, s4]
  refine loop_body 3000 k_law06_PumpRows_r11.eq_1 ?_
  simp only [go_sem, Int.reduceAdd, Int.reduceLT, w1, w2, w3, w4, w5, w6, w7, w8, w9, w10, w11, w12, s0, s1, s2, s3, s4]
  refine loop_body 3000 k_law06_PumpRows_r11.eq_1 ?_
  simp only [go_sem, Int.reduceAdd, Int.reduceLT, w1, w2, w3, w4, w5, w6, w7, w8, w9, w10, w11, w12, s0, s1, s2, s3, s4]
  refine dFN (First_run (n := 3) (by decide) (by decide)) 6 [] ⟨.inl rfl, trivial⟩ ?_ (hx := fst_bel _) (hxn := fst_nv _)
  simp only [go_sem, ren, rens]
  refine cF kw 6 ⟨.inl ?_, .inl ?_, trivial⟩ ?_
  · rfl
  · rfl
  simp only [go_sem]
  refine cP awake_ok ?_
  simp only [go_sem]
theorem okW4 : okW 4 2 = true := by kernel_rfl
set_option maxHeartbeats 4000000 in
set_option maxRecDepth 20000 in
theorem rows_4 (x : Int) (hx : x % 12 = 3) : Ans Try.prog n_law06_PumpRows [.int .i64 x] [] (.bool true) [] := by
  have k0 := mod_pos x 12 (by decide)
  rw [hx] at k0
  have w1 : IntKind.i64.wrap 1 = 1 := by decide
  have w2 : IntKind.i64.wrap 2 = 2 := by decide
  have w3 : IntKind.i64.wrap 3 = 3 := by decide
  have w4 : IntKind.i64.wrap 4 = 4 := by decide
  have w5 : IntKind.i64.wrap 5 = 5 := by decide
  have w6 : IntKind.i64.wrap 6 = 6 := by decide
  have w7 : IntKind.i64.wrap 7 = 7 := by decide
  have w8 : IntKind.i64.wrap 8 = 8 := by decide
  have w9 : IntKind.i64.wrap 9 = 9 := by decide
  have w10 : IntKind.i64.wrap 10 = 10 := by decide
  have w11 : IntKind.i64.wrap 11 = 11 := by decide
  have w12 : IntKind.i64.wrap 12 = 12 := by decide
  have s0 : shlW .i64 1 0 = 1 := by decide
  have s1 : shlW .i64 1 1 = 2 := by decide
  have s2 : shlW .i64 1 2 = 4 := by decide
  have s3 : shlW .i64 1 3 = 8 := by decide
  have s4 : shlW .i64 1 4 = 16 := by decide
  obtain ⟨t, kw⟩ := worst_row (n := 4) (by decide) okW4
  refine spec_run e_law06_PumpRows fun G => ?_
  simp only [go_sem]
  refine cP k0 ?_
  simp only [go_sem, Int.reduceAdd, w1, w2, w3, w4, w5, w6, w7, w8, w9, w10, w11, w12]
  refine loop_body 3000 k_law06_PumpRows_r7.eq_1 ?_
  simp only [go_sem, Int.reduceAdd, Int.reduceLT, w1, w2, w3, w4, w5, w6, w7, w8, w9, w10, w11, w12]
  refine dFN (First_run (n := 1) (by decide) (by decide)) 6 [] ⟨.inl rfl, trivial⟩ ?_ (hx := fst_bel _) (hxn := fst_nv _)
  simp only [go_sem, ren, rens, Int.reduceAdd, w1, w2, w3, w4, w5, w6, w7, w8, w9, w10, w11, w12]
  refine ⟨by decide, ?_⟩
  refine loop_body 3000 k_law06_PumpRows_r7.eq_1 ?_
  simp only [go_sem, Int.reduceAdd, Int.reduceLT, w1, w2, w3, w4, w5, w6, w7, w8, w9, w10, w11, w12]
  refine dFN (First_run (n := 2) (by decide) (by decide)) 6 [] ⟨.inl rfl, trivial⟩ ?_ (hx := fst_bel _) (hxn := fst_nv _)
  simp only [go_sem, ren, rens, Int.reduceAdd, w1, w2, w3, w4, w5, w6, w7, w8, w9, w10, w11, w12]
  refine ⟨by decide, ?_⟩
  refine loop_body 3000 k_law06_PumpRows_r7.eq_1 ?_
  simp only [go_sem, Int.reduceAdd, Int.reduceLT, w1, w2, w3, w4, w5, w6, w7, w8, w9, w10, w11, w12]
  refine dFN (First_run (n := 3) (by decide) (by decide)) 6 [] ⟨.inl rfl, trivial⟩ ?_ (hx := fst_bel _) (hxn := fst_nv _)
  simp only [go_sem, ren, rens, Int.reduceAdd, w1, w2, w3, w4, w5, w6, w7, w8, w9, w10, w11, w12]
  refine ⟨by decide, ?_⟩
  refine loop_body 3000 k_law06_PumpRows_r7.eq_1 ?_
  simp only [go_sem, Int.reduceAdd, Int.reduceLT, w1, w2, w3, w4, w5, w6, w7, w8, w9, w10, w11, w12]
  refine loop_body 3000 k_law06_PumpRows_r11.eq_1 ?_
  simp only [go_sem, Int.reduceAdd, Int.reduceLT, w1, w2, w3, w4, w5, w6, w7, w8, w9, w10, w11, w12, s0, s1, s2, s3, s4]
  refine loop_body 3000 k_law06_PumpRows_r11.eq_1 ?_
  simp only [go_sem, Int.reduceAdd, Int.reduceLT, w1, w2, w3, w4, w5, w6, w7, w8, w9, w10, w11, w12, s0, s1, s2, s3, s4]
  refine loop_body 3000 k_law06_PumpRows_r11.eq_1 ?_
  simp only [go_sem, Int.reduceAdd, Int.reduceLT, w1, w2, w3, w4, w5, w6, w7, w8, w9, w10, w11, w12, s0, s1, s2, s3, s4]
  refine dFN (First_run (n := 4) (by decide) (by decide)) 6 [] ⟨.inl rfl, trivial⟩ ?_ (hx := fst_bel _) (hxn := fst_nv _)
  simp only [go_sem, ren, rens]
  refine cF kw 6 ⟨.inl ?_, .inl ?_, trivial⟩ ?_
  · rfl
  · rfl
  simp only [go_sem]
  refine cP awake_ok ?_
  simp only [go_sem]
theorem okW5 : okW 5 3 = true := by kernel_rfl
set_option maxHeartbeats 4000000 in
set_option maxRecDepth 20000 in
theorem rows_5 (x : Int) (hx : x % 12 = 4) : Ans Try.prog n_law06_PumpRows [.int .i64 x] [] (.bool true) [] := by
  have k0 := mod_pos x 12 (by decide)
  rw [hx] at k0
  have w1 : IntKind.i64.wrap 1 = 1 := by decide
  have w2 : IntKind.i64.wrap 2 = 2 := by decide
  have w3 : IntKind.i64.wrap 3 = 3 := by decide
  have w4 : IntKind.i64.wrap 4 = 4 := by decide
  have w5 : IntKind.i64.wrap 5 = 5 := by decide
  have w6 : IntKind.i64.wrap 6 = 6 := by decide
  have w7 : IntKind.i64.wrap 7 = 7 := by decide
  have w8 : IntKind.i64.wrap 8 = 8 := by decide
  have w9 : IntKind.i64.wrap 9 = 9 := by decide
  have w10 : IntKind.i64.wrap 10 = 10 := by decide
  have w11 : IntKind.i64.wrap 11 = 11 := by decide
  have w12 : IntKind.i64.wrap 12 = 12 := by decide
  have s0 : shlW .i64 1 0 = 1 := by decide
  have s1 : shlW .i64 1 1 = 2 := by decide
  have s2 : shlW .i64 1 2 = 4 := by decide
  have s3 : shlW .i64 1 3 = 8 := by decide
  have s4 : shlW .i64 1 4 = 16 := by decide
  obtain ⟨t, kw⟩ := worst_row (n := 5) (by decide) okW5
  refine spec_run e_law06_PumpRows fun G => ?_
  simp only [go_sem]
  refine cP k0 ?_
  simp only [go_sem, Int.reduceAdd, w1, w2, w3, w4, w5, w6, w7, w8, w9, w10, w11, w12]
  refine loop_body 3000 k_law06_PumpRows_r7.eq_1 ?_
  simp only [go_sem, Int.reduceAdd, Int.reduceLT, w1, w2, w3, w4, w5, w6, w7, w8, w9, w10, w11, w12]
  refine dFN (First_run (n := 1) (by decide) (by decide)) 6 [] ⟨.inl rfl, trivial⟩ ?_ (hx := fst_bel _) (hxn := fst_nv _)
  simp only [go_sem, ren, rens, Int.reduceAdd, w1, w2, w3, w4, w5, w6, w7, w8, w9, w10, w11, w12]
  refine ⟨by decide, ?_⟩
  refine loop_body 3000 k_law06_PumpRows_r7.eq_1 ?_
  simp only [go_sem, Int.reduceAdd, Int.reduceLT, w1, w2, w3, w4, w5, w6, w7, w8, w9, w10, w11, w12]
  refine dFN (First_run (n := 2) (by decide) (by decide)) 6 [] ⟨.inl rfl, trivial⟩ ?_ (hx := fst_bel _) (hxn := fst_nv _)
  simp only [go_sem, ren, rens, Int.reduceAdd, w1, w2, w3, w4, w5, w6, w7, w8, w9, w10, w11, w12]
  refine ⟨by decide, ?_⟩
  refine loop_body 3000 k_law06_PumpRows_r7.eq_1 ?_
  simp only [go_sem, Int.reduceAdd, Int.reduceLT, w1, w2, w3, w4, w5, w6, w7, w8, w9, w10, w11, w12]
  refine dFN (First_run (n := 3) (by decide) (by decide)) 6 [] ⟨.inl rfl, trivial⟩ ?_ (hx := fst_bel _) (hxn := fst_nv _)
  simp only [go_sem, ren, rens, Int.reduceAdd, w1, w2, w3, w4, w5, w6, w7, w8, w9, w10, w11, w12]
  refine ⟨by decide, ?_⟩
  refine loop_body 3000 k_law06_PumpRows_r7.eq_1 ?_
  simp only [go_sem, Int.reduceAdd, Int.reduceLT, w1, w2, w3, w4, w5, w6, w7, w8, w9, w10, w11, w12]
  refine dFN (First_run (n := 4) (by decide) (by decide)) 6 [] ⟨.inl rfl, trivial⟩ ?_ (hx := fst_bel _) (hxn := fst_nv _)
  simp only [go_sem, ren, rens, Int.reduceAdd, w1, w2, w3, w4, w5, w6, w7, w8, w9, w10, w11, w12]
  refine ⟨by decide, ?_⟩
  refine loop_body 3000 k_law06_PumpRows_r7.eq_1 ?_
  simp only [go_sem, Int.reduceAdd, Int.reduceLT, w1, w2, w3, w4, w5, w6, w7, w8, w9, w10, w11, w12]
  refine loop_body 3000 k_law06_PumpRows_r11.eq_1 ?_
  simp only [go_sem, Int.reduceAdd, Int.reduceLT, w1, w2, w3, w4, w5, w6, w7, w8, w9, w10, w11, w12, s0, s1, s2, s3, s4]
  refine loop_body 3000 k_law06_PumpRows_r11.eq_1 ?_
  simp only [go_sem, Int.reduceAdd, Int.reduceLT, w1, w2, w3, w4, w5, w6, w7, w8, w9, w10, w11, w12, s0, s1, s2, s3, s4]
  refine loop_body 3000 k_law06_PumpRows_r11.eq_1 ?_
  simp only [go_sem, Int.reduceAdd, Int.reduceLT, w1, w2, w3, w4, w5, w6, w7, w8, w9, w10, w11, w12, s0, s1, s2, s3, s4]
  refine loop_body 3000 k_law06_PumpRows_r11.eq_1 ?_
  simp only [go_sem, Int.reduceAdd, Int.reduceLT, w1, w2, w3, w4, w5, w6, w7, w8, w9, w10, w11, w12, s0, s1, s2, s3, s4]
  refine dFN (First_run (n := 5) (by decide) (by decide)) 6 [] ⟨.inl rfl, trivial⟩ ?_ (hx := fst_bel _) (hxn := fst_nv _)
  simp only [go_sem, ren, rens]
  refine cF kw 6 ⟨.inl ?_, .inl ?_, trivial⟩ ?_
  · rfl
  · rfl
  simp only [go_sem]
  refine cP awake_ok ?_
  simp only [go_sem]
theorem okW6 : okW 6 3 = true := by kernel_rfl
set_option maxHeartbeats 4000000 in
set_option maxRecDepth 20000 in
theorem rows_6 (x : Int) (hx : x % 12 = 5) : Ans Try.prog n_law06_PumpRows [.int .i64 x] [] (.bool true) [] := by
  have k0 := mod_pos x 12 (by decide)
  rw [hx] at k0
  have w1 : IntKind.i64.wrap 1 = 1 := by decide
  have w2 : IntKind.i64.wrap 2 = 2 := by decide
  have w3 : IntKind.i64.wrap 3 = 3 := by decide
  have w4 : IntKind.i64.wrap 4 = 4 := by decide
  have w5 : IntKind.i64.wrap 5 = 5 := by decide
  have w6 : IntKind.i64.wrap 6 = 6 := by decide
  have w7 : IntKind.i64.wrap 7 = 7 := by decide
  have w8 : IntKind.i64.wrap 8 = 8 := by decide
  have w9 : IntKind.i64.wrap 9 = 9 := by decide
  have w10 : IntKind.i64.wrap 10 = 10 := by decide
  have w11 : IntKind.i64.wrap 11 = 11 := by decide
  have w12 : IntKind.i64.wrap 12 = 12 := by decide
  have s0 : shlW .i64 1 0 = 1 := by decide
  have s1 : shlW .i64 1 1 = 2 := by decide
  have s2 : shlW .i64 1 2 = 4 := by decide
  have s3 : shlW .i64 1 3 = 8 := by decide
  have s4 : shlW .i64 1 4 = 16 := by decide
  obtain ⟨t, kw⟩ := worst_row (n := 6) (by decide) okW6
  refine spec_run e_law06_PumpRows fun G => ?_
  simp only [go_sem]
  refine cP k0 ?_
  simp only [go_sem, Int.reduceAdd, w1, w2, w3, w4, w5, w6, w7, w8, w9, w10, w11, w12]
  refine loop_body 3000 k_law06_PumpRows_r7.eq_1 ?_
  simp only [go_sem, Int.reduceAdd, Int.reduceLT, w1, w2, w3, w4, w5, w6, w7, w8, w9, w10, w11, w12]
  refine dFN (First_run (n := 1) (by decide) (by decide)) 6 [] ⟨.inl rfl, trivial⟩ ?_ (hx := fst_bel _) (hxn := fst_nv _)
  simp only [go_sem, ren, rens, Int.reduceAdd, w1, w2, w3, w4, w5, w6, w7, w8, w9, w10, w11, w12]
  refine ⟨by decide, ?_⟩
  refine loop_body 3000 k_law06_PumpRows_r7.eq_1 ?_
  simp only [go_sem, Int.reduceAdd, Int.reduceLT, w1, w2, w3, w4, w5, w6, w7, w8, w9, w10, w11, w12]
  refine dFN (First_run (n := 2) (by decide) (by decide)) 6 [] ⟨.inl rfl, trivial⟩ ?_ (hx := fst_bel _) (hxn := fst_nv _)
  simp only [go_sem, ren, rens, Int.reduceAdd, w1, w2, w3, w4, w5, w6, w7, w8, w9, w10, w11, w12]
  refine ⟨by decide, ?_⟩
  refine loop_body 3000 k_law06_PumpRows_r7.eq_1 ?_
  simp only [go_sem, Int.reduceAdd, Int.reduceLT, w1, w2, w3, w4, w5, w6, w7, w8, w9, w10, w11, w12]
  refine dFN (First_run (n := 3) (by decide) (by decide)) 6 [] ⟨.inl rfl, trivial⟩ ?_ (hx := fst_bel _) (hxn := fst_nv _)
  simp only [go_sem, ren, rens, Int.reduceAdd, w1, w2, w3, w4, w5, w6, w7, w8, w9, w10, w11, w12]
  refine ⟨by decide, ?_⟩
  refine loop_body 3000 k_law06_PumpRows_r7.eq_1 ?_
  simp only [go_sem, Int.reduceAdd, Int.reduceLT, w1, w2, w3, w4, w5, w6, w7, w8, w9, w10, w11, w12]
  refine dFN (First_run (n := 4) (by decide) (by decide)) 6 [] ⟨.inl rfl, trivial⟩ ?_ (hx := fst_bel _) (hxn := fst_nv _)
  simp only [go_sem, ren, rens, Int.reduceAdd, w1, w2, w3, w4, w5, w6, w7, w8, w9, w10, w11, w12]
  refine ⟨by decide, ?_⟩
  refine loop_body 3000 k_law06_PumpRows_r7.eq_1 ?_
  simp only [go_sem, Int.reduceAdd, Int.reduceLT, w1, w2, w3, w4, w5, w6, w7, w8, w9, w10, w11, w12]
  refine dFN (First_run (n := 5) (by decide) (by decide)) 6 [] ⟨.inl rfl, trivial⟩ ?_ (hx := fst_bel _) (hxn := fst_nv _)
  simp only [go_sem, ren, rens, Int.reduceAdd, w1, w2, w3, w4, w5, w6, w7, w8, w9, w10, w11, w12]
  refine ⟨by decide, ?_⟩
  refine loop_body 3000 k_law06_PumpRows_r7.eq_1 ?_
  simp only [go_sem, Int.reduceAdd, Int.reduceLT, w1, w2, w3, w4, w5, w6, w7, w8, w9, w10, w11, w12]
  refine loop_body 3000 k_law06_PumpRows_r11.eq_1 ?_
  simp only [go_sem, Int.reduceAdd, Int.reduceLT, w1, w2, w3, w4, w5, w6, w7, w8, w9, w10, w11, w12, s0, s1, s2, s3, s4]
  refine loop_body 3000 k_law06_PumpRows_r11.eq_1 ?_
  simp only [go_sem, Int.reduceAdd, Int.reduceLT, w1, w2, w3, w4, w5, w6, w7, w8, w9, w10, w11, w12, s0, s1, s2, s3, s4]
  refine loop_body 3000 k_law06_PumpRows_r11.eq_1 ?_
  simp only [go_sem, Int.reduceAdd, Int.reduceLT, w1, w2, w3, w4, w5, w6, w7, w8, w9, w10, w11, w12, s0, s1, s2, s3, s4]
  refine loop_body 3000 k_law06_PumpRows_r11.eq_1 ?_
  simp only [go_sem, Int.reduceAdd, Int.reduceLT, w1, w2, w3, w4, w5, w6, w7, w8, w9, w10, w11, w12, s0, s1, s2, s3, s4]
  refine dFN (First_run (n := 6) (by decide) (by decide)) 6 [] ⟨.inl rfl, trivial⟩ ?_ (hx := fst_bel _) (hxn := fst_nv _)
  simp only [go_sem, ren, rens]
  refine cF kw 6 ⟨.inl ?_, .inl ?_, trivial⟩ ?_
  · rfl
  · rfl
  simp only [go_sem]
  refine cP awake_ok ?_
  simp only [go_sem]
theorem okW7 : okW 7 3 = true := by kernel_rfl
set_option maxHeartbeats 4000000 in
set_option maxRecDepth 20000 in
theorem rows_7 (x : Int) (hx : x % 12 = 6) : Ans Try.prog n_law06_PumpRows [.int .i64 x] [] (.bool true) [] := by
  have k0 := mod_pos x 12 (by decide)
  rw [hx] at k0
  have w1 : IntKind.i64.wrap 1 = 1 := by decide
  have w2 : IntKind.i64.wrap 2 = 2 := by decide
  have w3 : IntKind.i64.wrap 3 = 3 := by decide
  have w4 : IntKind.i64.wrap 4 = 4 := by decide
  have w5 : IntKind.i64.wrap 5 = 5 := by decide
  have w6 : IntKind.i64.wrap 6 = 6 := by decide
  have w7 : IntKind.i64.wrap 7 = 7 := by decide
  have w8 : IntKind.i64.wrap 8 = 8 := by decide
  have w9 : IntKind.i64.wrap 9 = 9 := by decide
  have w10 : IntKind.i64.wrap 10 = 10 := by decide
  have w11 : IntKind.i64.wrap 11 = 11 := by decide
  have w12 : IntKind.i64.wrap 12 = 12 := by decide
  have s0 : shlW .i64 1 0 = 1 := by decide
  have s1 : shlW .i64 1 1 = 2 := by decide
  have s2 : shlW .i64 1 2 = 4 := by decide
  have s3 : shlW .i64 1 3 = 8 := by decide
  have s4 : shlW .i64 1 4 = 16 := by decide
  obtain ⟨t, kw⟩ := worst_row (n := 7) (by decide) okW7
  refine spec_run e_law06_PumpRows fun G => ?_
  simp only [go_sem]
  refine cP k0 ?_
  simp only [go_sem, Int.reduceAdd, w1, w2, w3, w4, w5, w6, w7, w8, w9, w10, w11, w12]
  refine loop_body 3000 k_law06_PumpRows_r7.eq_1 ?_
  simp only [go_sem, Int.reduceAdd, Int.reduceLT, w1, w2, w3, w4, w5, w6, w7, w8, w9, w10, w11, w12]
  refine dFN (First_run (n := 1) (by decide) (by decide)) 6 [] ⟨.inl rfl, trivial⟩ ?_ (hx := fst_bel _) (hxn := fst_nv _)
  simp only [go_sem, ren, rens, Int.reduceAdd, w1, w2, w3, w4, w5, w6, w7, w8, w9, w10, w11, w12]
  refine ⟨by decide, ?_⟩
  refine loop_body 3000 k_law06_PumpRows_r7.eq_1 ?_
  simp only [go_sem, Int.reduceAdd, Int.reduceLT, w1, w2, w3, w4, w5, w6, w7, w8, w9, w10, w11, w12]
  refine dFN (First_run (n := 2) (by decide) (by decide)) 6 [] ⟨.inl rfl, trivial⟩ ?_ (hx := fst_bel _) (hxn := fst_nv _)
  simp only [go_sem, ren, rens, Int.reduceAdd, w1, w2, w3, w4, w5, w6, w7, w8, w9, w10, w11, w12]
  refine ⟨by decide, ?_⟩
  refine loop_body 3000 k_law06_PumpRows_r7.eq_1 ?_
  simp only [go_sem, Int.reduceAdd, Int.reduceLT, w1, w2, w3, w4, w5, w6, w7, w8, w9, w10, w11, w12]
  refine dFN (First_run (n := 3) (by decide) (by decide)) 6 [] ⟨.inl rfl, trivial⟩ ?_ (hx := fst_bel _) (hxn := fst_nv _)
  simp only [go_sem, ren, rens, Int.reduceAdd, w1, w2, w3, w4, w5, w6, w7, w8, w9, w10, w11, w12]
  refine ⟨by decide, ?_⟩
  refine loop_body 3000 k_law06_PumpRows_r7.eq_1 ?_
  simp only [go_sem, Int.reduceAdd, Int.reduceLT, w1, w2, w3, w4, w5, w6, w7, w8, w9, w10, w11, w12]
  refine dFN (First_run (n := 4) (by decide) (by decide)) 6 [] ⟨.inl rfl, trivial⟩ ?_ (hx := fst_bel _) (hxn := fst_nv _)
  simp only [go_sem, ren, rens, Int.reduceAdd, w1, w2, w3, w4, w5, w6, w7, w8, w9, w10, w11, w12]
  refine ⟨by decide, ?_⟩
  refine loop_body 3000 k_law06_PumpRows_r7.eq_1 ?_
  simp only [go_sem, Int.reduceAdd, Int.reduceLT, w1, w2, w3, w4, w5, w6, w7, w8, w9, w10, w11, w12]
  refine dFN (First_run (n := 5) (by decide) (by decide)) 6 [] ⟨.inl rfl, trivial⟩ ?_ (hx := fst_bel _) (hxn := fst_nv _)
  simp only [go_sem, ren, rens, Int.reduceAdd, w1, w2, w3, w4, w5, w6, w7, w8, w9, w10, w11, w12]
  refine ⟨by decide, ?_⟩
  refine loop_body 3000 k_law06_PumpRows_r7.eq_1 ?_
  simp only [go_sem, Int.reduceAdd, Int.reduceLT, w1, w2, w3, w4, w5, w6, w7, w8, w9, w10, w11, w12]
  refine dFN (First_run (n := 6) (by decide) (by decide)) 6 [] ⟨.inl rfl, trivial⟩ ?_ (hx := fst_bel _) (hxn := fst_nv _)
  simp only [go_sem, ren, rens, Int.reduceAdd, w1, w2, w3, w4, w5, w6, w7, w8, w9, w10, w11, w12]
  refine ⟨by decide, ?_⟩
  refine loop_body 3000 k_law06_PumpRows_r7.eq_1 ?_
  simp only [go_sem, Int.reduceAdd, Int.reduceLT, w1, w2, w3, w4, w5, w6, w7, w8, w9, w10, w11, w12]
  refine loop_body 3000 k_law06_PumpRows_r11.eq_1 ?_
  simp only [go_sem, Int.reduceAdd, Int.reduceLT, w1, w2, w3, w4, w5, w6, w7, w8, w9, w10, w11, w12, s0, s1, s2, s3, s4]
  refine loop_body 3000 k_law06_PumpRows_r11.eq_1 ?_
  simp only [go_sem, Int.reduceAdd, Int.reduceLT, w1, w2, w3, w4, w5, w6, w7, w8, w9, w10, w11, w12, s0, s1, s2, s3, s4]
  refine loop_body 3000 k_law06_PumpRows_r11.eq_1 ?_
  simp only [go_sem, Int.reduceAdd, Int.reduceLT, w1, w2, w3, w4, w5, w6, w7, w8, w9, w10, w11, w12, s0, s1, s2, s3, s4]
  refine loop_body 3000 k_law06_PumpRows_r11.eq_1 ?_
  simp only [go_sem, Int.reduceAdd, Int.reduceLT, w1, w2, w3, w4, w5, w6, w7, w8, w9, w10, w11, w12, s0, s1, s2, s3, s4]
  refine dFN (First_run (n := 7) (by decide) (by decide)) 6 [] ⟨.inl rfl, trivial⟩ ?_ (hx := fst_bel _) (hxn := fst_nv _)
  simp only [go_sem, ren, rens]
  refine cF kw 6 ⟨.inl ?_, .inl ?_, trivial⟩ ?_
  · rfl
  · rfl
  simp only [go_sem]
  refine cP awake_ok ?_
  simp only [go_sem]
theorem okW8 : okW 8 3 = true := by kernel_rfl
set_option maxHeartbeats 4000000 in
set_option maxRecDepth 20000 in
theorem rows_8 (x : Int) (hx : x % 12 = 7) : Ans Try.prog n_law06_PumpRows [.int .i64 x] [] (.bool true) [] := by
  have k0 := mod_pos x 12 (by decide)
  rw [hx] at k0
  have w1 : IntKind.i64.wrap 1 = 1 := by decide
  have w2 : IntKind.i64.wrap 2 = 2 := by decide
  have w3 : IntKind.i64.wrap 3 = 3 := by decide
  have w4 : IntKind.i64.wrap 4 = 4 := by decide
  have w5 : IntKind.i64.wrap 5 = 5 := by decide
  have w6 : IntKind.i64.wrap 6 = 6 := by decide
  have w7 : IntKind.i64.wrap 7 = 7 := by decide
  have w8 : IntKind.i64.wrap 8 = 8 := by decide
  have w9 : IntKind.i64.wrap 9 = 9 := by decide
  have w10 : IntKind.i64.wrap 10 = 10 := by decide
  have w11 : IntKind.i64.wrap 11 = 11 := by decide
  have w12 : IntKind.i64.wrap 12 = 12 := by decide
  have s0 : shlW .i64 1 0 = 1 := by decide
  have s1 : shlW .i64 1 1 = 2 := by decide
  have s2 : shlW .i64 1 2 = 4 := by decide
  have s3 : shlW .i64 1 3 = 8 := by decide
  have s4 : shlW .i64 1 4 = 16 := by decide
  obtain ⟨t, kw⟩ := worst_row (n := 8) (by decide) okW8
  refine spec_run e_law06_PumpRows fun G => ?_
  simp only [go_sem]
  refine cP k0 ?_
  simp only [go_sem, Int.reduceAdd, w1, w2, w3, w4, w5, w6, w7, w8, w9, w10, w11, w12]
  refine loop_body 3000 k_law06_PumpRows_r7.eq_1 ?_
  simp only [go_sem, Int.reduceAdd, Int.reduceLT, w1, w2, w3, w4, w5, w6, w7, w8, w9, w10, w11, w12]
  refine dFN (First_run (n := 1) (by decide) (by decide)) 6 [] ⟨.inl rfl, trivial⟩ ?_ (hx := fst_bel _) (hxn := fst_nv _)
  simp only [go_sem, ren, rens, Int.reduceAdd, w1, w2, w3, w4, w5, w6, w7, w8, w9, w10, w11, w12]
  refine ⟨by decide, ?_⟩
  refine loop_body 3000 k_law06_PumpRows_r7.eq_1 ?_
  simp only [go_sem, Int.reduceAdd, Int.reduceLT, w1, w2, w3, w4, w5, w6, w7, w8, w9, w10, w11, w12]
  refine dFN (First_run (n := 2) (by decide) (by decide)) 6 [] ⟨.inl rfl, trivial⟩ ?_ (hx := fst_bel _) (hxn := fst_nv _)
  simp only [go_sem, ren, rens, Int.reduceAdd, w1, w2, w3, w4, w5, w6, w7, w8, w9, w10, w11, w12]
  refine ⟨by decide, ?_⟩
  refine loop_body 3000 k_law06_PumpRows_r7.eq_1 ?_
  simp only [go_sem, Int.reduceAdd, Int.reduceLT, w1, w2, w3, w4, w5, w6, w7, w8, w9, w10, w11, w12]
  refine dFN (First_run (n := 3) (by decide) (by decide)) 6 [] ⟨.inl rfl, trivial⟩ ?_ (hx := fst_bel _) (hxn := fst_nv _)
  simp only [go_sem, ren, rens, Int.reduceAdd, w1, w2, w3, w4, w5, w6, w7, w8, w9, w10, w11, w12]
  refine ⟨by decide, ?_⟩
  refine loop_body 3000 k_law06_PumpRows_r7.eq_1 ?_
  simp only [go_sem, Int.reduceAdd, Int.reduceLT, w1, w2, w3, w4, w5, w6, w7, w8, w9, w10, w11, w12]
  refine dFN (First_run (n := 4) (by decide) (by decide)) 6 [] ⟨.inl rfl, trivial⟩ ?_ (hx := fst_bel _) (hxn := fst_nv _)
  simp only [go_sem, ren, rens, Int.reduceAdd, w1, w2, w3, w4, w5, w6, w7, w8, w9, w10, w11, w12]
  refine ⟨by decide, ?_⟩
  refine loop_body 3000 k_law06_PumpRows_r7.eq_1 ?_
  simp only [go_sem, Int.reduceAdd, Int.reduceLT, w1, w2, w3, w4, w5, w6, w7, w8, w9, w10, w11, w12]
  refine dFN (First_run (n := 5) (by decide) (by decide)) 6 [] ⟨.inl rfl, trivial⟩ ?_ (hx := fst_bel _) (hxn := fst_nv _)
  simp only [go_sem, ren, rens, Int.reduceAdd, w1, w2, w3, w4, w5, w6, w7, w8, w9, w10, w11, w12]
  refine ⟨by decide, ?_⟩
  refine loop_body 3000 k_law06_PumpRows_r7.eq_1 ?_
  simp only [go_sem, Int.reduceAdd, Int.reduceLT, w1, w2, w3, w4, w5, w6, w7, w8, w9, w10, w11, w12]
  refine dFN (First_run (n := 6) (by decide) (by decide)) 6 [] ⟨.inl rfl, trivial⟩ ?_ (hx := fst_bel _) (hxn := fst_nv _)
  simp only [go_sem, ren, rens, Int.reduceAdd, w1, w2, w3, w4, w5, w6, w7, w8, w9, w10, w11, w12]
  refine ⟨by decide, ?_⟩
  refine loop_body 3000 k_law06_PumpRows_r7.eq_1 ?_
  simp only [go_sem, Int.reduceAdd, Int.reduceLT, w1, w2, w3, w4, w5, w6, w7, w8, w9, w10, w11, w12]
  refine dFN (First_run (n := 7) (by decide) (by decide)) 6 [] ⟨.inl rfl, trivial⟩ ?_ (hx := fst_bel _) (hxn := fst_nv _)
  simp only [go_sem, ren, rens, Int.reduceAdd, w1, w2, w3, w4, w5, w6, w7, w8, w9, w10, w11, w12]
  refine ⟨by decide, ?_⟩
  refine loop_body 3000 k_law06_PumpRows_r7.eq_1 ?_
  simp only [go_sem, Int.reduceAdd, Int.reduceLT, w1, w2, w3, w4, w5, w6, w7, w8, w9, w10, w11, w12]
  refine loop_body 3000 k_law06_PumpRows_r11.eq_1 ?_
  simp only [go_sem, Int.reduceAdd, Int.reduceLT, w1, w2, w3, w4, w5, w6, w7, w8, w9, w10, w11, w12, s0, s1, s2, s3, s4]
  refine loop_body 3000 k_law06_PumpRows_r11.eq_1 ?_
  simp only [go_sem, Int.reduceAdd, Int.reduceLT, w1, w2, w3, w4, w5, w6, w7, w8, w9, w10, w11, w12, s0, s1, s2, s3, s4]
  refine loop_body 3000 k_law06_PumpRows_r11.eq_1 ?_
  simp only [go_sem, Int.reduceAdd, Int.reduceLT, w1, w2, w3, w4, w5, w6, w7, w8, w9, w10, w11, w12, s0, s1, s2, s3, s4]
  refine loop_body 3000 k_law06_PumpRows_r11.eq_1 ?_
  simp only [go_sem, Int.reduceAdd, Int.reduceLT, w1, w2, w3, w4, w5, w6, w7, w8, w9, w10, w11, w12, s0, s1, s2, s3, s4]
  refine dFN (First_run (n := 8) (by decide) (by decide)) 6 [] ⟨.inl rfl, trivial⟩ ?_ (hx := fst_bel _) (hxn := fst_nv _)
  simp only [go_sem, ren, rens]
  refine cF kw 6 ⟨.inl ?_, .inl ?_, trivial⟩ ?_
  · rfl
  · rfl
  simp only [go_sem]
  refine cP awake_ok ?_
  simp only [go_sem]
theorem okW9 : okW 9 4 = true := by kernel_rfl
set_option maxHeartbeats 4000000 in
set_option maxRecDepth 20000 in
theorem rows_9 (x : Int) (hx : x % 12 = 8) : Ans Try.prog n_law06_PumpRows [.int .i64 x] [] (.bool true) [] := by
  have k0 := mod_pos x 12 (by decide)
  rw [hx] at k0
  have w1 : IntKind.i64.wrap 1 = 1 := by decide
  have w2 : IntKind.i64.wrap 2 = 2 := by decide
  have w3 : IntKind.i64.wrap 3 = 3 := by decide
  have w4 : IntKind.i64.wrap 4 = 4 := by decide
  have w5 : IntKind.i64.wrap 5 = 5 := by decide
  have w6 : IntKind.i64.wrap 6 = 6 := by decide
  have w7 : IntKind.i64.wrap 7 = 7 := by decide
  have w8 : IntKind.i64.wrap 8 = 8 := by decide
  have w9 : IntKind.i64.wrap 9 = 9 := by decide
  have w10 : IntKind.i64.wrap 10 = 10 := by decide
  have w11 : IntKind.i64.wrap 11 = 11 := by decide
  have w12 : IntKind.i64.wrap 12 = 12 := by decide
  have s0 : shlW .i64 1 0 = 1 := by decide
  have s1 : shlW .i64 1 1 = 2 := by decide
  have s2 : shlW .i64 1 2 = 4 := by decide
  have s3 : shlW .i64 1 3 = 8 := by decide
  have s4 : shlW .i64 1 4 = 16 := by decide
  obtain ⟨t, kw⟩ := worst_row (n := 9) (by decide) okW9
  refine spec_run e_law06_PumpRows fun G => ?_
  simp only [go_sem]
  refine cP k0 ?_
  simp only [go_sem, Int.reduceAdd, w1, w2, w3, w4, w5, w6, w7, w8, w9, w10, w11, w12]
  refine loop_body 3000 k_law06_PumpRows_r7.eq_1 ?_
  simp only [go_sem, Int.reduceAdd, Int.reduceLT, w1, w2, w3, w4, w5, w6, w7, w8, w9, w10, w11, w12]
  refine dFN (First_run (n := 1) (by decide) (by decide)) 6 [] ⟨.inl rfl, trivial⟩ ?_ (hx := fst_bel _) (hxn := fst_nv _)
  simp only [go_sem, ren, rens, Int.reduceAdd, w1, w2, w3, w4, w5, w6, w7, w8, w9, w10, w11, w12]
  refine ⟨by decide, ?_⟩
  refine loop_body 3000 k_law06_PumpRows_r7.eq_1 ?_
  simp only [go_sem, Int.reduceAdd, Int.reduceLT, w1, w2, w3, w4, w5, w6, w7, w8, w9, w10, w11, w12]
  refine dFN (First_run (n := 2) (by decide) (by decide)) 6 [] ⟨.inl rfl, trivial⟩ ?_ (hx := fst_bel _) (hxn := fst_nv _)
  simp only [go_sem, ren, rens, Int.reduceAdd, w1, w2, w3, w4, w5, w6, w7, w8, w9, w10, w11, w12]
  refine ⟨by decide, ?_⟩
  refine loop_body 3000 k_law06_PumpRows_r7.eq_1 ?_
  simp only [go_sem, Int.reduceAdd, Int.reduceLT, w1, w2, w3, w4, w5, w6, w7, w8, w9, w10, w11, w12]
  refine dFN (First_run (n := 3) (by decide) (by decide)) 6 [] ⟨.inl rfl, trivial⟩ ?_ (hx := fst_bel _) (hxn := fst_nv _)
  simp only [go_sem, ren, rens, Int.reduceAdd, w1, w2, w3, w4, w5, w6, w7, w8, w9, w10, w11, w12]
  refine ⟨by decide, ?_⟩
  refine loop_body 3000 k_law06_PumpRows_r7.eq_1 ?_
  simp only [go_sem, Int.reduceAdd, Int.reduceLT, w1, w2, w3, w4, w5, w6, w7, w8, w9, w10, w11, w12]
  refine dFN (First_run (n := 4) (by decide) (by decide)) 6 [] ⟨.inl rfl, trivial⟩ ?_ (hx := fst_bel _) (hxn := fst_nv _)
  simp only [go_sem, ren, rens, Int.reduceAdd, w1, w2, w3, w4, w5, w6, w7, w8, w9, w10, w11, w12]
  refine ⟨by decide, ?_⟩
  refine loop_body 3000 k_law06_PumpRows_r7.eq_1 ?_
  simp only [go_sem, Int.reduceAdd, Int.reduceLT, w1, w2, w3, w4, w5, w6, w7, w8, w9, w10, w11, w12]
  refine dFN (First_run (n := 5) (by decide) (by decide)) 6 [] ⟨.inl rfl, trivial⟩ ?_ (hx := fst_bel _) (hxn := fst_nv _)
  simp only [go_sem, ren, rens, Int.reduceAdd, w1, w2, w3, w4, w5, w6, w7, w8, w9, w10, w11, w12]
  refine ⟨by decide, ?_⟩
  refine loop_body 3000 k_law06_PumpRows_r7.eq_1 ?_
  simp only [go_sem, Int.reduceAdd, Int.reduceLT, w1, w2, w3, w4, w5, w6, w7, w8, w9, w10, w11, w12]
  refine dFN (First_run (n := 6) (by decide) (by decide)) 6 [] ⟨.inl rfl, trivial⟩ ?_ (hx := fst_bel _) (hxn := fst_nv _)
  simp only [go_sem, ren, rens, Int.reduceAdd, w1, w2, w3, w4, w5, w6, w7, w8, w9, w10, w11, w12]
  refine ⟨by decide, ?_⟩
  refine loop_body 3000 k_law06_PumpRows_r7.eq_1 ?_
  simp only [go_sem, Int.reduceAdd, Int.reduceLT, w1, w2, w3, w4, w5, w6, w7, w8, w9, w10, w11, w12]
  refine dFN (First_run (n := 7) (by decide) (by decide)) 6 [] ⟨.inl rfl, trivial⟩ ?_ (hx := fst_bel _) (hxn := fst_nv _)
  simp only [go_sem, ren, rens, Int.reduceAdd, w1, w2, w3, w4, w5, w6, w7, w8, w9, w10, w11, w12]
  refine ⟨by decide, ?_⟩
  refine loop_body 3000 k_law06_PumpRows_r7.eq_1 ?_
  simp only [go_sem, Int.reduceAdd, Int.reduceLT, w1, w2, w3, w4, w5, w6, w7, w8, w9, w10, w11, w12]
  refine dFN (First_run (n := 8) (by decide) (by decide)) 6 [] ⟨.inl rfl, trivial⟩ ?_ (hx := fst_bel _) (hxn := fst_nv _)
  simp only [go_sem, ren, rens, Int.reduceAdd, w1, w2, w3, w4, w5, w6, w7, w8, w9, w10, w11, w12]
  refine ⟨by decide, ?_⟩
  refine loop_body 3000 k_law06_PumpRows_r7.eq_1 ?_
  simp only [go_sem, Int.reduceAdd, Int.reduceLT, w1, w2, w3, w4, w5, w6, w7, w8, w9, w10, w11, w12]
  refine loop_body 3000 k_law06_PumpRows_r11.eq_1 ?_
  simp only [go_sem, Int.reduceAdd, Int.reduceLT, w1, w2, w3, w4, w5, w6, w7, w8, w9, w10, w11, w12, s0, s1, s2, s3, s4]
  refine loop_body 3000 k_law06_PumpRows_r11.eq_1 ?_
  simp only [go_sem, Int.reduceAdd, Int.reduceLT, w1, w2, w3, w4, w5, w6, w7, w8, w9, w10, w11, w12, s0, s1, s2, s3, s4]
  refine loop_body 3000 k_law06_PumpRows_r11.eq_1 ?_
  simp only [go_sem, Int.reduceAdd, Int.reduceLT, w1, w2, w3, w4, w5, w6, w7, w8, w9, w10, w11, w12, s0, s1, s2, s3, s4]
  refine loop_body 3000 k_law06_PumpRows_r11.eq_1 ?_
  simp only [go_sem, Int.reduceAdd, Int.reduceLT, w1, w2, w3, w4, w5, w6, w7, w8, w9, w10, w11, w12, s0, s1, s2, s3, s4]
  refine loop_body 3000 k_law06_PumpRows_r11.eq_1 ?_
  simp only [go_sem, Int.reduceAdd, Int.reduceLT, w1, w2, w3, w4, w5, w6, w7, w8, w9, w10, w11, w12, s0, s1, s2, s3, s4]
  refine dFN (First_run (n := 9) (by decide) (by decide)) 6 [] ⟨.inl rfl, trivial⟩ ?_ (hx := fst_bel _) (hxn := fst_nv _)
  simp only [go_sem, ren, rens]
  refine cF kw 6 ⟨.inl ?_, .inl ?_, trivial⟩ ?_
  · rfl
  · rfl
  simp only [go_sem]
  refine cP awake_ok ?_
  simp only [go_sem]
theorem okW10 : okW 10 4 = true := by kernel_rfl
set_option maxHeartbeats 4000000 in
set_option maxRecDepth 20000 in
theorem rows_10 (x : Int) (hx : x % 12 = 9) : Ans Try.prog n_law06_PumpRows [.int .i64 x] [] (.bool true) [] := by
  have k0 := mod_pos x 12 (by decide)
  rw [hx] at k0
  have w1 : IntKind.i64.wrap 1 = 1 := by decide
  have w2 : IntKind.i64.wrap 2 = 2 := by decide
  have w3 : IntKind.i64.wrap 3 = 3 := by decide
  have w4 : IntKind.i64.wrap 4 = 4 := by decide
  have w5 : IntKind.i64.wrap 5 = 5 := by decide
  have w6 : IntKind.i64.wrap 6 = 6 := by decide
  have w7 : IntKind.i64.wrap 7 = 7 := by decide
  have w8 : IntKind.i64.wrap 8 = 8 := by decide
  have w9 : IntKind.i64.wrap 9 = 9 := by decide
  have w10 : IntKind.i64.wrap 10 = 10 := by decide
  have w11 : IntKind.i64.wrap 11 = 11 := by decide
  have w12 : IntKind.i64.wrap 12 = 12 := by decide
  have s0 : shlW .i64 1 0 = 1 := by decide
  have s1 : shlW .i64 1 1 = 2 := by decide
  have s2 : shlW .i64 1 2 = 4 := by decide
  have s3 : shlW .i64 1 3 = 8 := by decide
  have s4 : shlW .i64 1 4 = 16 := by decide
  obtain ⟨t, kw⟩ := worst_row (n := 10) (by decide) okW10
  refine spec_run e_law06_PumpRows fun G => ?_
  simp only [go_sem]
  refine cP k0 ?_
  simp only [go_sem, Int.reduceAdd, w1, w2, w3, w4, w5, w6, w7, w8, w9, w10, w11, w12]
  refine loop_body 3000 k_law06_PumpRows_r7.eq_1 ?_
  simp only [go_sem, Int.reduceAdd, Int.reduceLT, w1, w2, w3, w4, w5, w6, w7, w8, w9, w10, w11, w12]
  refine dFN (First_run (n := 1) (by decide) (by decide)) 6 [] ⟨.inl rfl, trivial⟩ ?_ (hx := fst_bel _) (hxn := fst_nv _)
  simp only [go_sem, ren, rens, Int.reduceAdd, w1, w2, w3, w4, w5, w6, w7, w8, w9, w10, w11, w12]
  refine ⟨by decide, ?_⟩
  refine loop_body 3000 k_law06_PumpRows_r7.eq_1 ?_
  simp only [go_sem, Int.reduceAdd, Int.reduceLT, w1, w2, w3, w4, w5, w6, w7, w8, w9, w10, w11, w12]
  refine dFN (First_run (n := 2) (by decide) (by decide)) 6 [] ⟨.inl rfl, trivial⟩ ?_ (hx := fst_bel _) (hxn := fst_nv _)
  simp only [go_sem, ren, rens, Int.reduceAdd, w1, w2, w3, w4, w5, w6, w7, w8, w9, w10, w11, w12]
  refine ⟨by decide, ?_⟩
  refine loop_body 3000 k_law06_PumpRows_r7.eq_1 ?_
  simp only [go_sem, Int.reduceAdd, Int.reduceLT, w1, w2, w3, w4, w5, w6, w7, w8, w9, w10, w11, w12]
  refine dFN (First_run (n := 3) (by decide) (by decide)) 6 [] ⟨.inl rfl, trivial⟩ ?_ (hx := fst_bel _) (hxn := fst_nv _)
  simp only [go_sem, ren, rens, Int.reduceAdd, w1, w2, w3, w4, w5, w6, w7, w8, w9, w10, w11, w12]
  refine ⟨by decide, ?_⟩
  refine loop_body 3000 k_law06_PumpRows_r7.eq_1 ?_
  simp only [go_sem, Int.reduceAdd, Int.reduceLT, w1, w2, w3, w4, w5, w6, w7, w8, w9, w10, w11, w12]
  refine dFN (First_run (n := 4) (by decide) (by decide)) 6 [] ⟨.inl rfl, trivial⟩ ?_ (hx := fst_bel _) (hxn := fst_nv _)
  simp only [go_sem, ren, rens, Int.reduceAdd, w1, w2, w3, w4, w5, w6, w7, w8, w9, w10, w11, w12]
  refine ⟨by decide, ?_⟩
  refine loop_body 3000 k_law06_PumpRows_r7.eq_1 ?_
  simp only [go_sem, Int.reduceAdd, Int.reduceLT, w1, w2, w3, w4, w5, w6, w7, w8, w9, w10, w11, w12]
  refine dFN (First_run (n := 5) (by decide) (by decide)) 6 [] ⟨.inl rfl, trivial⟩ ?_ (hx := fst_bel _) (hxn := fst_nv _)
  simp only [go_sem, ren, rens, Int.reduceAdd, w1, w2, w3, w4, w5, w6, w7, w8, w9, w10, w11, w12]
  refine ⟨by decide, ?_⟩
  refine loop_body 3000 k_law06_PumpRows_r7.eq_1 ?_
  simp only [go_sem, Int.reduceAdd, Int.reduceLT, w1, w2, w3, w4, w5, w6, w7, w8, w9, w10, w11, w12]
  refine dFN (First_run (n := 6) (by decide) (by decide)) 6 [] ⟨.inl rfl, trivial⟩ ?_ (hx := fst_bel _) (hxn := fst_nv _)
  simp only [go_sem, ren, rens, Int.reduceAdd, w1, w2, w3, w4, w5, w6, w7, w8, w9, w10, w11, w12]
  refine ⟨by decide, ?_⟩
  refine loop_body 3000 k_law06_PumpRows_r7.eq_1 ?_
  simp only [go_sem, Int.reduceAdd, Int.reduceLT, w1, w2, w3, w4, w5, w6, w7, w8, w9, w10, w11, w12]
  refine dFN (First_run (n := 7) (by decide) (by decide)) 6 [] ⟨.inl rfl, trivial⟩ ?_ (hx := fst_bel _) (hxn := fst_nv _)
  simp only [go_sem, ren, rens, Int.reduceAdd, w1, w2, w3, w4, w5, w6, w7, w8, w9, w10, w11, w12]
  refine ⟨by decide, ?_⟩
  refine loop_body 3000 k_law06_PumpRows_r7.eq_1 ?_
  simp only [go_sem, Int.reduceAdd, Int.reduceLT, w1, w2, w3, w4, w5, w6, w7, w8, w9, w10, w11, w12]
  refine dFN (First_run (n := 8) (by decide) (by decide)) 6 [] ⟨.inl rfl, trivial⟩ ?_ (hx := fst_bel _) (hxn := fst_nv _)
  simp only [go_sem, ren, rens, Int.reduceAdd, w1, w2, w3, w4, w5, w6, w7, w8, w9, w10, w11, w12]
  refine ⟨by decide, ?_⟩
  refine loop_body 3000 k_law06_PumpRows_r7.eq_1 ?_
  simp only [go_sem, Int.reduceAdd, Int.reduceLT, w1, w2, w3, w4, w5, w6, w7, w8, w9, w10, w11, w12]
  refine dFN (First_run (n := 9) (by decide) (by decide)) 6 [] ⟨.inl rfl, trivial⟩ ?_ (hx := fst_bel _) (hxn := fst_nv _)
  simp only [go_sem, ren, rens, Int.reduceAdd, w1, w2, w3, w4, w5, w6, w7, w8, w9, w10, w11, w12]
  refine ⟨by decide, ?_⟩
  refine loop_body 3000 k_law06_PumpRows_r7.eq_1 ?_
  simp only [go_sem, Int.reduceAdd, Int.reduceLT, w1, w2, w3, w4, w5, w6, w7, w8, w9, w10, w11, w12]
  refine loop_body 3000 k_law06_PumpRows_r11.eq_1 ?_
  simp only [go_sem, Int.reduceAdd, Int.reduceLT, w1, w2, w3, w4, w5, w6, w7, w8, w9, w10, w11, w12, s0, s1, s2, s3, s4]
  refine loop_body 3000 k_law06_PumpRows_r11.eq_1 ?_
  simp only [go_sem, Int.reduceAdd, Int.reduceLT, w1, w2, w3, w4, w5, w6, w7, w8, w9, w10, w11, w12, s0, s1, s2, s3, s4]
  refine loop_body 3000 k_law06_PumpRows_r11.eq_1 ?_
  simp only [go_sem, Int.reduceAdd, Int.reduceLT, w1, w2, w3, w4, w5, w6, w7, w8, w9, w10, w11, w12, s0, s1, s2, s3, s4]
  refine loop_body 3000 k_law06_PumpRows_r11.eq_1 ?_
  simp only [go_sem, Int.reduceAdd, Int.reduceLT, w1, w2, w3, w4, w5, w6, w7, w8, w9, w10, w11, w12, s0, s1, s2, s3, s4]
  refine loop_body 3000 k_law06_PumpRows_r11.eq_1 ?_
  simp only [go_sem, Int.reduceAdd, Int.reduceLT, w1, w2, w3, w4, w5, w6, w7, w8, w9, w10, w11, w12, s0, s1, s2, s3, s4]
  refine dFN (First_run (n := 10) (by decide) (by decide)) 6 [] ⟨.inl rfl, trivial⟩ ?_ (hx := fst_bel _) (hxn := fst_nv _)
  simp only [go_sem, ren, rens]
  refine cF kw 6 ⟨.inl ?_, .inl ?_, trivial⟩ ?_
  · rfl
  · rfl
  simp only [go_sem]
  refine cP awake_ok ?_
  simp only [go_sem]
theorem okW11 : okW 11 4 = true := by kernel_rfl
set_option maxHeartbeats 4000000 in
set_option maxRecDepth 20000 in
theorem rows_11 (x : Int) (hx : x % 12 = 10) : Ans Try.prog n_law06_PumpRows [.int .i64 x] [] (.bool true) [] := by
  have k0 := mod_pos x 12 (by decide)
  rw [hx] at k0
  have w1 : IntKind.i64.wrap 1 = 1 := by decide
  have w2 : IntKind.i64.wrap 2 = 2 := by decide
  have w3 : IntKind.i64.wrap 3 = 3 := by decide
  have w4 : IntKind.i64.wrap 4 = 4 := by decide
  have w5 : IntKind.i64.wrap 5 = 5 := by decide
  have w6 : IntKind.i64.wrap 6 = 6 := by decide
  have w7 : IntKind.i64.wrap 7 = 7 := by decide
  have w8 : IntKind.i64.wrap 8 = 8 := by decide
  have w9 : IntKind.i64.wrap 9 = 9 := by decide
  have w10 : IntKind.i64.wrap 10 = 10 := by decide
  have w11 : IntKind.i64.wrap 11 = 11 := by decide
  have w12 : IntKind.i64.wrap 12 = 12 := by decide
  have s0 : shlW .i64 1 0 = 1 := by decide
  have s1 : shlW .i64 1 1 = 2 := by decide
  have s2 : shlW .i64 1 2 = 4 := by decide
  have s3 : shlW .i64 1 3 = 8 := by decide
  have s4 : shlW .i64 1 4 = 16 := by decide
  obtain ⟨t, kw⟩ := worst_row (n := 11) (by decide) okW11
  refine spec_run e_law06_PumpRows fun G => ?_
  simp only [go_sem]
  refine cP k0 ?_
  simp only [go_sem, Int.reduceAdd, w1, w2, w3, w4, w5, w6, w7, w8, w9, w10, w11, w12]
  refine loop_body 3000 k_law06_PumpRows_r7.eq_1 ?_
  simp only [go_sem, Int.reduceAdd, Int.reduceLT, w1, w2, w3, w4, w5, w6, w7, w8, w9, w10, w11, w12]
  refine dFN (First_run (n := 1) (by decide) (by decide)) 6 [] ⟨.inl rfl, trivial⟩ ?_ (hx := fst_bel _) (hxn := fst_nv _)
  simp only [go_sem, ren, rens, Int.reduceAdd, w1, w2, w3, w4, w5, w6, w7, w8, w9, w10, w11, w12]
  refine ⟨by decide, ?_⟩
  refine loop_body 3000 k_law06_PumpRows_r7.eq_1 ?_
  simp only [go_sem, Int.reduceAdd, Int.reduceLT, w1, w2, w3, w4, w5, w6, w7, w8, w9, w10, w11, w12]
  refine dFN (First_run (n := 2) (by decide) (by decide)) 6 [] ⟨.inl rfl, trivial⟩ ?_ (hx := fst_bel _) (hxn := fst_nv _)
  simp only [go_sem, ren, rens, Int.reduceAdd, w1, w2, w3, w4, w5, w6, w7, w8, w9, w10, w11, w12]
  refine ⟨by decide, ?_⟩
  refine loop_body 3000 k_law06_PumpRows_r7.eq_1 ?_
  simp only [go_sem, Int.reduceAdd, Int.reduceLT, w1, w2, w3, w4, w5, w6, w7, w8, w9, w10, w11, w12]
  refine dFN (First_run (n := 3) (by decide) (by decide)) 6 [] ⟨.inl rfl, trivial⟩ ?_ (hx := fst_bel _) (hxn := fst_nv _)
  simp only [go_sem, ren, rens, Int.reduceAdd, w1, w2, w3, w4, w5, w6, w7, w8, w9, w10, w11, w12]
  refine ⟨by decide, ?_⟩
  refine loop_body 3000 k_law06_PumpRows_r7.eq_1 ?_
  simp only [go_sem, Int.reduceAdd, Int.reduceLT, w1, w2, w3, w4, w5, w6, w7, w8, w9, w10, w11, w12]
  refine dFN (First_run (n := 4) (by decide) (by decide)) 6 [] ⟨.inl rfl, trivial⟩ ?_ (hx := fst_bel _) (hxn := fst_nv _)
  simp only [go_sem, ren, rens, Int.reduceAdd, w1, w2, w3, w4, w5, w6, w7, w8, w9, w10, w11, w12]
  refine ⟨by decide, ?_⟩
  refine loop_body 3000 k_law06_PumpRows_r7.eq_1 ?_
  simp only [go_sem, Int.reduceAdd, Int.reduceLT, w1, w2, w3, w4, w5, w6, w7, w8, w9, w10, w11, w12]
  refine dFN (First_run (n := 5) (by decide) (by decide)) 6 [] ⟨.inl rfl, trivial⟩ ?_ (hx := fst_bel _) (hxn := fst_nv _)
  simp only [go_sem, ren, rens, Int.reduceAdd, w1, w2, w3, w4, w5, w6, w7, w8, w9, w10, w11, w12]
  refine ⟨by decide, ?_⟩
  refine loop_body 3000 k_law06_PumpRows_r7.eq_1 ?_
  simp only [go_sem, Int.reduceAdd, Int.reduceLT, w1, w2, w3, w4, w5, w6, w7, w8, w9, w10, w11, w12]
  refine dFN (First_run (n := 6) (by decide) (by decide)) 6 [] ⟨.inl rfl, trivial⟩ ?_ (hx := fst_bel _) (hxn := fst_nv _)
  simp only [go_sem, ren, rens, Int.reduceAdd, w1, w2, w3, w4, w5, w6, w7, w8, w9, w10, w11, w12]
  refine ⟨by decide, ?_⟩
  refine loop_body 3000 k_law06_PumpRows_r7.eq_1 ?_
  simp only [go_sem, Int.reduceAdd, Int.reduceLT, w1, w2, w3, w4, w5, w6, w7, w8, w9, w10, w11, w12]
  refine dFN (First_run (n := 7) (by decide) (by decide)) 6 [] ⟨.inl rfl, trivial⟩ ?_ (hx := fst_bel _) (hxn := fst_nv _)
  simp only [go_sem, ren, rens, Int.reduceAdd, w1, w2, w3, w4, w5, w6, w7, w8, w9, w10, w11, w12]
  refine ⟨by decide, ?_⟩
  refine loop_body 3000 k_law06_PumpRows_r7.eq_1 ?_
  simp only [go_sem, Int.reduceAdd, Int.reduceLT, w1, w2, w3, w4, w5, w6, w7, w8, w9, w10, w11, w12]
  refine dFN (First_run (n := 8) (by decide) (by decide)) 6 [] ⟨.inl rfl, trivial⟩ ?_ (hx := fst_bel _) (hxn := fst_nv _)
  simp only [go_sem, ren, rens, Int.reduceAdd, w1, w2, w3, w4, w5, w6, w7, w8, w9, w10, w11, w12]
  refine ⟨by decide, ?_⟩
  refine loop_body 3000 k_law06_PumpRows_r7.eq_1 ?_
  simp only [go_sem, Int.reduceAdd, Int.reduceLT, w1, w2, w3, w4, w5, w6, w7, w8, w9, w10, w11, w12]
  refine dFN (First_run (n := 9) (by decide) (by decide)) 6 [] ⟨.inl rfl, trivial⟩ ?_ (hx := fst_bel _) (hxn := fst_nv _)
  simp only [go_sem, ren, rens, Int.reduceAdd, w1, w2, w3, w4, w5, w6, w7, w8, w9, w10, w11, w12]
  refine ⟨by decide, ?_⟩
  refine loop_body 3000 k_law06_PumpRows_r7.eq_1 ?_
  simp only [go_sem, Int.reduceAdd, Int.reduceLT, w1, w2, w3, w4, w5, w6, w7, w8, w9, w10, w11, w12]
  refine dFN (First_run (n := 10) (by decide) (by decide)) 6 [] ⟨.inl rfl, trivial⟩ ?_ (hx := fst_bel _) (hxn := fst_nv _)
  simp only [go_sem, ren, rens, Int.reduceAdd, w1, w2, w3, w4, w5, w6, w7, w8, w9, w10, w11, w12]
  refine ⟨by decide, ?_⟩
  refine loop_body 3000 k_law06_PumpRows_r7.eq_1 ?_
  simp only [go_sem, Int.reduceAdd, Int.reduceLT, w1, w2, w3, w4, w5, w6, w7, w8, w9, w10, w11, w12]
  refine loop_body 3000 k_law06_PumpRows_r11.eq_1 ?_
  simp only [go_sem, Int.reduceAdd, Int.reduceLT, w1, w2, w3, w4, w5, w6, w7, w8, w9, w10, w11, w12, s0, s1, s2, s3, s4]
  refine loop_body 3000 k_law06_PumpRows_r11.eq_1 ?_
  simp only [go_sem, Int.reduceAdd, Int.reduceLT, w1, w2, w3, w4, w5, w6, w7, w8, w9, w10, w11, w12, s0, s1, s2, s3, s4]
  refine loop_body 3000 k_law06_PumpRows_r11.eq_1 ?_
  simp only [go_sem, Int.reduceAdd, Int.reduceLT, w1, w2, w3, w4, w5, w6, w7, w8, w9, w10, w11, w12, s0, s1, s2, s3, s4]
  refine loop_body 3000 k_law06_PumpRows_r11.eq_1 ?_
  simp only [go_sem, Int.reduceAdd, Int.reduceLT, w1, w2, w3, w4, w5, w6, w7, w8, w9, w10, w11, w12, s0, s1, s2, s3, s4]
  refine loop_body 3000 k_law06_PumpRows_r11.eq_1 ?_
  simp only [go_sem, Int.reduceAdd, Int.reduceLT, w1, w2, w3, w4, w5, w6, w7, w8, w9, w10, w11, w12, s0, s1, s2, s3, s4]
  refine dFN (First_run (n := 11) (by decide) (by decide)) 6 [] ⟨.inl rfl, trivial⟩ ?_ (hx := fst_bel _) (hxn := fst_nv _)
  simp only [go_sem, ren, rens]
  refine cF kw 6 ⟨.inl ?_, .inl ?_, trivial⟩ ?_
  · rfl
  · rfl
  simp only [go_sem]
  refine cP awake_ok ?_
  simp only [go_sem]
theorem okW12 : okW 12 4 = true := by kernel_rfl
set_option maxHeartbeats 4000000 in
set_option maxRecDepth 20000 in
theorem rows_12 (x : Int) (hx : x % 12 = 11) : Ans Try.prog n_law06_PumpRows [.int .i64 x] [] (.bool true) [] := by
  have k0 := mod_pos x 12 (by decide)
  rw [hx] at k0
  have w1 : IntKind.i64.wrap 1 = 1 := by decide
  have w2 : IntKind.i64.wrap 2 = 2 := by decide
  have w3 : IntKind.i64.wrap 3 = 3 := by decide
  have w4 : IntKind.i64.wrap 4 = 4 := by decide
  have w5 : IntKind.i64.wrap 5 = 5 := by decide
  have w6 : IntKind.i64.wrap 6 = 6 := by decide
  have w7 : IntKind.i64.wrap 7 = 7 := by decide
  have w8 : IntKind.i64.wrap 8 = 8 := by decide
  have w9 : IntKind.i64.wrap 9 = 9 := by decide
  have w10 : IntKind.i64.wrap 10 = 10 := by decide
  have w11 : IntKind.i64.wrap 11 = 11 := by decide
  have w12 : IntKind.i64.wrap 12 = 12 := by decide
  have s0 : shlW .i64 1 0 = 1 := by decide
  have s1 : shlW .i64 1 1 = 2 := by decide
  have s2 : shlW .i64 1 2 = 4 := by decide
  have s3 : shlW .i64 1 3 = 8 := by decide
  have s4 : shlW .i64 1 4 = 16 := by decide
  obtain ⟨t, kw⟩ := worst_row (n := 12) (by decide) okW12
  refine spec_run e_law06_PumpRows fun G => ?_
  simp only [go_sem]
  refine cP k0 ?_
  simp only [go_sem, Int.reduceAdd, w1, w2, w3, w4, w5, w6, w7, w8, w9, w10, w11, w12]
  refine loop_body 3000 k_law06_PumpRows_r7.eq_1 ?_
  simp only [go_sem, Int.reduceAdd, Int.reduceLT, w1, w2, w3, w4, w5, w6, w7, w8, w9, w10, w11, w12]
  refine dFN (First_run (n := 1) (by decide) (by decide)) 6 [] ⟨.inl rfl, trivial⟩ ?_ (hx := fst_bel _) (hxn := fst_nv _)
  simp only [go_sem, ren, rens, Int.reduceAdd, w1, w2, w3, w4, w5, w6, w7, w8, w9, w10, w11, w12]
  refine ⟨by decide, ?_⟩
  refine loop_body 3000 k_law06_PumpRows_r7.eq_1 ?_
  simp only [go_sem, Int.reduceAdd, Int.reduceLT, w1, w2, w3, w4, w5, w6, w7, w8, w9, w10, w11, w12]
  refine dFN (First_run (n := 2) (by decide) (by decide)) 6 [] ⟨.inl rfl, trivial⟩ ?_ (hx := fst_bel _) (hxn := fst_nv _)
  simp only [go_sem, ren, rens, Int.reduceAdd, w1, w2, w3, w4, w5, w6, w7, w8, w9, w10, w11, w12]
  refine ⟨by decide, ?_⟩
  refine loop_body 3000 k_law06_PumpRows_r7.eq_1 ?_
  simp only [go_sem, Int.reduceAdd, Int.reduceLT, w1, w2, w3, w4, w5, w6, w7, w8, w9, w10, w11, w12]
  refine dFN (First_run (n := 3) (by decide) (by decide)) 6 [] ⟨.inl rfl, trivial⟩ ?_ (hx := fst_bel _) (hxn := fst_nv _)
  simp only [go_sem, ren, rens, Int.reduceAdd, w1, w2, w3, w4, w5, w6, w7, w8, w9, w10, w11, w12]
  refine ⟨by decide, ?_⟩
  refine loop_body 3000 k_law06_PumpRows_r7.eq_1 ?_
  simp only [go_sem, Int.reduceAdd, Int.reduceLT, w1, w2, w3, w4, w5, w6, w7, w8, w9, w10, w11, w12]
  refine dFN (First_run (n := 4) (by decide) (by decide)) 6 [] ⟨.inl rfl, trivial⟩ ?_ (hx := fst_bel _) (hxn := fst_nv _)
  simp only [go_sem, ren, rens, Int.reduceAdd, w1, w2, w3, w4, w5, w6, w7, w8, w9, w10, w11, w12]
  refine ⟨by decide, ?_⟩
  refine loop_body 3000 k_law06_PumpRows_r7.eq_1 ?_
  simp only [go_sem, Int.reduceAdd, Int.reduceLT, w1, w2, w3, w4, w5, w6, w7, w8, w9, w10, w11, w12]
  refine dFN (First_run (n := 5) (by decide) (by decide)) 6 [] ⟨.inl rfl, trivial⟩ ?_ (hx := fst_bel _) (hxn := fst_nv _)
  simp only [go_sem, ren, rens, Int.reduceAdd, w1, w2, w3, w4, w5, w6, w7, w8, w9, w10, w11, w12]
  refine ⟨by decide, ?_⟩
  refine loop_body 3000 k_law06_PumpRows_r7.eq_1 ?_
  simp only [go_sem, Int.reduceAdd, Int.reduceLT, w1, w2, w3, w4, w5, w6, w7, w8, w9, w10, w11, w12]
  refine dFN (First_run (n := 6) (by decide) (by decide)) 6 [] ⟨.inl rfl, trivial⟩ ?_ (hx := fst_bel _) (hxn := fst_nv _)
  simp only [go_sem, ren, rens, Int.reduceAdd, w1, w2, w3, w4, w5, w6, w7, w8, w9, w10, w11, w12]
  refine ⟨by decide, ?_⟩
  refine loop_body 3000 k_law06_PumpRows_r7.eq_1 ?_
  simp only [go_sem, Int.reduceAdd, Int.reduceLT, w1, w2, w3, w4, w5, w6, w7, w8, w9, w10, w11, w12]
  refine dFN (First_run (n := 7) (by decide) (by decide)) 6 [] ⟨.inl rfl, trivial⟩ ?_ (hx := fst_bel _) (hxn := fst_nv _)
  simp only [go_sem, ren, rens, Int.reduceAdd, w1, w2, w3, w4, w5, w6, w7, w8, w9, w10, w11, w12]
  refine ⟨by decide, ?_⟩
  refine loop_body 3000 k_law06_PumpRows_r7.eq_1 ?_
  simp only [go_sem, Int.reduceAdd, Int.reduceLT, w1, w2, w3, w4, w5, w6, w7, w8, w9, w10, w11, w12]
  refine dFN (First_run (n := 8) (by decide) (by decide)) 6 [] ⟨.inl rfl, trivial⟩ ?_ (hx := fst_bel _) (hxn := fst_nv _)
  simp only [go_sem, ren, rens, Int.reduceAdd, w1, w2, w3, w4, w5, w6, w7, w8, w9, w10, w11, w12]
  refine ⟨by decide, ?_⟩
  refine loop_body 3000 k_law06_PumpRows_r7.eq_1 ?_
  simp only [go_sem, Int.reduceAdd, Int.reduceLT, w1, w2, w3, w4, w5, w6, w7, w8, w9, w10, w11, w12]
  refine dFN (First_run (n := 9) (by decide) (by decide)) 6 [] ⟨.inl rfl, trivial⟩ ?_ (hx := fst_bel _) (hxn := fst_nv _)
  simp only [go_sem, ren, rens, Int.reduceAdd, w1, w2, w3, w4, w5, w6, w7, w8, w9, w10, w11, w12]
  refine ⟨by decide, ?_⟩
  refine loop_body 3000 k_law06_PumpRows_r7.eq_1 ?_
  simp only [go_sem, Int.reduceAdd, Int.reduceLT, w1, w2, w3, w4, w5, w6, w7, w8, w9, w10, w11, w12]
  refine dFN (First_run (n := 10) (by decide) (by decide)) 6 [] ⟨.inl rfl, trivial⟩ ?_ (hx := fst_bel _) (hxn := fst_nv _)
  simp only [go_sem, ren, rens, Int.reduceAdd, w1, w2, w3, w4, w5, w6, w7, w8, w9, w10, w11, w12]
  refine ⟨by decide, ?_⟩
  refine loop_body 3000 k_law06_PumpRows_r7.eq_1 ?_
  simp only [go_sem, Int.reduceAdd, Int.reduceLT, w1, w2, w3, w4, w5, w6, w7, w8, w9, w10, w11, w12]
  refine dFN (First_run (n := 11) (by decide) (by decide)) 6 [] ⟨.inl rfl, trivial⟩ ?_ (hx := fst_bel _) (hxn := fst_nv _)
  simp only [go_sem, ren, rens, Int.reduceAdd, w1, w2, w3, w4, w5, w6, w7, w8, w9, w10, w11, w12]
  refine ⟨by decide, ?_⟩
  refine loop_body 3000 k_law06_PumpRows_r7.eq_1 ?_
  simp only [go_sem, Int.reduceAdd, Int.reduceLT, w1, w2, w3, w4, w5, w6, w7, w8, w9, w10, w11, w12]
  refine loop_body 3000 k_law06_PumpRows_r11.eq_1 ?_
  simp only [go_sem, Int.reduceAdd, Int.reduceLT, w1, w2, w3, w4, w5, w6, w7, w8, w9, w10, w11, w12, s0, s1, s2, s3, s4]
  refine loop_body 3000 k_law06_PumpRows_r11.eq_1 ?_
  simp only [go_sem, Int.reduceAdd, Int.reduceLT, w1, w2, w3, w4, w5, w6, w7, w8, w9, w10, w11, w12, s0, s1, s2, s3, s4]
  refine loop_body 3000 k_law06_PumpRows_r11.eq_1 ?_
  simp only [go_sem, Int.reduceAdd, Int.reduceLT, w1, w2, w3, w4, w5, w6, w7, w8, w9, w10, w11, w12, s0, s1, s2, s3, s4]
  refine loop_body 3000 k_law06_PumpRows_r11.eq_1 ?_
  simp only [go_sem, Int.reduceAdd, Int.reduceLT, w1, w2, w3, w4, w5, w6, w7, w8, w9, w10, w11, w12, s0, s1, s2, s3, s4]
  refine loop_body 3000 k_law06_PumpRows_r11.eq_1 ?_
  simp only [go_sem, Int.reduceAdd, Int.reduceLT, w1, w2, w3, w4, w5, w6, w7, w8, w9, w10, w11, w12, s0, s1, s2, s3, s4]
  refine dFN (First_run (n := 12) (by decide) (by decide)) 6 [] ⟨.inl rfl, trivial⟩ ?_ (hx := fst_bel _) (hxn := fst_nv _)
  simp only [go_sem, ren, rens]
  refine cF kw 6 ⟨.inl ?_, .inl ?_, trivial⟩ ?_
  · rfl
  · rfl
  simp only [go_sem]
  refine cP awake_ok ?_
  simp only [go_sem]
theorem worst_one : Ans Try.prog n_pump_Worst [.agg [.int .i64 1, .nilsl], .view [.int .i64 0]] [] (.tup [.int .i64 0, .int .i64 (-1), .int .i64 0]) [] := by
  have h : exFn tab 3000 40 n_pump_Worst [.agg [.int .i64 1, .nilsl], .view [.int .i64 0]] [] = some (.tup [.int .i64 0, .int .i64 (-1), .int .i64 0], (exFn tab 3000 40 n_pump_Worst [.agg [.int .i64 1, .nilsl], .view [.int .i64 0]] []).get!.2) := by kernel_rfl
  exact (spec_ex mixed tab_ok h).mono fun v H' hv => ⟨hv.1, H', rfl⟩
set_option maxHeartbeats 4000000 in
set_option maxRecDepth 20000 in
theorem rows_1 (x : Int) (hx : x % 12 = 0) : Ans Try.prog n_law06_PumpRows [.int .i64 x] [] (.bool true) [] := by
  have k0 := mod_pos x 12 (by decide)
  rw [hx] at k0
  have w1 : IntKind.i64.wrap 1 = 1 := by decide
  have w2 : IntKind.i64.wrap 2 = 2 := by decide
  have w3 : IntKind.i64.wrap 3 = 3 := by decide
  have w4 : IntKind.i64.wrap 4 = 4 := by decide
  have w5 : IntKind.i64.wrap 5 = 5 := by decide
  have w6 : IntKind.i64.wrap 6 = 6 := by decide
  have w7 : IntKind.i64.wrap 7 = 7 := by decide
  have w8 : IntKind.i64.wrap 8 = 8 := by decide
  have w9 : IntKind.i64.wrap 9 = 9 := by decide
  have w10 : IntKind.i64.wrap 10 = 10 := by decide
  have w11 : IntKind.i64.wrap 11 = 11 := by decide
  have w12 : IntKind.i64.wrap 12 = 12 := by decide
  have s0 : shlW .i64 1 0 = 1 := by decide
  have s1 : shlW .i64 1 1 = 2 := by decide
  have s2 : shlW .i64 1 2 = 4 := by decide
  have s3 : shlW .i64 1 3 = 8 := by decide
  have s4 : shlW .i64 1 4 = 16 := by decide
  have kw := worst_one
  refine spec_run e_law06_PumpRows fun G => ?_
  simp only [go_sem]
  refine cP k0 ?_
  simp only [go_sem, Int.reduceAdd, w1, w2, w3, w4, w5, w6, w7, w8, w9, w10, w11, w12]
  refine loop_body 3000 k_law06_PumpRows_r7.eq_1 ?_
  simp only [go_sem, Int.reduceAdd, Int.reduceLT, w1, w2, w3, w4, w5, w6, w7, w8, w9, w10, w11, w12]
  refine loop_body 3000 k_law06_PumpRows_r11.eq_1 ?_
  simp only [go_sem, Int.reduceAdd, Int.reduceLT, w1, w2, w3, w4, w5, w6, w7, w8, w9, w10, w11, w12, s0, s1, s2, s3, s4]
  refine dFN (First_run (n := 1) (by decide) (by decide)) 6 [] ⟨.inl rfl, trivial⟩ ?_ (hx := fst_bel _) (hxn := fst_nv _)
  simp only [go_sem, ren, rens]
  refine cF kw 6 ⟨.inl ?_, .inl ?_, trivial⟩ ?_
  · rfl
  · rfl
  simp only [go_sem]
  refine cP awake_ok ?_
  simp only [go_sem]
theorem rows_law (x : Int) : Ans Try.prog n_law06_PumpRows [.int .i64 x] [] (.bool true) [] := by
  have h : x % 12 = 0 ∨ x % 12 = 1 ∨ x % 12 = 2 ∨ x % 12 = 3 ∨ x % 12 = 4 ∨ x % 12 = 5 ∨ x % 12 = 6 ∨ x % 12 = 7 ∨ x % 12 = 8 ∨ x % 12 = 9 ∨ x % 12 = 10 ∨ x % 12 = 11 := by omega
  rcases h with h | h | h | h | h | h | h | h | h | h | h | h
  · exact rows_1 x h
  · exact rows_2 x h
  · exact rows_3 x h
  · exact rows_4 x h
  · exact rows_5 x h
  · exact rows_6 x h
  · exact rows_7 x h
  · exact rows_8 x h
  · exact rows_9 x h
  · exact rows_10 x h
  · exact rows_11 x h
  · exact rows_12 x h
end Go.Proofs

