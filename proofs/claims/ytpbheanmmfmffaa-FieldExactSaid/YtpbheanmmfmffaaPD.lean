/- A part of the proof. -/
import Derived.Test.YtpbheanmmfmffaaPC
set_option linter.unusedSimpArgs false
set_option linter.unusedVariables false
namespace Go.Proofs
open Go Go.Sx
attribute [local irreducible] Run

section
variable {P : Program} {G : Ctx} {k : Nat} {rd : Option Nat} {R : Runner} {l : List AOper} {fs : List Sx.Frame} {ρ : List AVal} {H : Heap} {ms : List Nat} {Q : Sx.Goal} {dst : Option Nat} {x y : Row} {g : FuncId} {args : List AVal} {r : AVal}
theorem cN2 (h : Ans P g args [] r [some x, some y]) (hK : R (.ops l) fs ⟨setD ρ dst (ren (fun i => H.length + i) r), H ++ [some x, some y], ms⟩ Q)
    (hb : Bels (fun _ => False) args := by simp only [go_sem]) (hr : Bel (· < 2) r := by simp [go_sem]) (hx : x.bel (fun _ => False) := by first | (simp only [go_sem]; done) | (rw [row_bel_cells]; simp only [go_sem])) (hy : y.bel (fun _ => False) := by first | (simp only [go_sem]; done) | (rw [row_bel_cells]; simp only [go_sem])) (hk : k ≤ H.length := by simp) (hms : ∀ q ∈ ms, H[q]? = some (some .dfr) := by simp) : CallR P G k R g args dst l fs ρ H ms Q := by
  have e : outΔ (outσ [] H.length) 0 [some x, some y] = [(H.length, x), (H.length + 1, y)] := by
    simp only [outΔ, Row.ren_same hx, Row.ren_same hy]
    rfl
  have eσ : outσ [] H.length = fun i => H.length + i := by funext i; simp [outσ]
  refine callS h [] (by simp) trivial (by
    conv => lhs; rw [← List.map_id args]
    exact List.map_congr_left fun v hv => (ren_same (bels_mem hb v hv)).symm) (bels_of fun v hv => (bels_mem hb v hv).mono fun _ h => h.elim) trivial (by simp) (by simpa using hr)
    ⟨bel_mono_row hx fun _ h => h.elim, bel_mono_row hy fun _ h => h.elim, trivial⟩ (fun q hq => by simp at hq) hk (fun q hq => ?_) ?_
  · refine ⟨?_, hms q hq⟩
    rw [e]
    have := (List.getElem?_eq_some_iff.1 (hms q hq)).1
    simp; omega
  · rw [e, eσ]
    have e3 : Heap.put (H ++ [some x]) (H.length + 1) y = H ++ [some x, some y] := by
      have := Heap.put_end (H ++ [some x]) y
      simpa using this
    simp only [Heap.puts, Heap.put_end, e3]
    exact hK
end

structure AtOK (p : Pl) (a : List Int) : Prop where
  len : a.length = p.w * p.h
  bd : ∀ i, i < p.w * p.h → -1000000 ≤ gt a i ∧ gt a i ≤ 1000000

theorem wsum_take {l : List (Nat × Int)} {k : Nat} {q : Nat × Int} (h : l[k]? = some q) (f : Nat → Int) : wsum (l.take (k + 1)) f = wsum (l.take k) f + q.2 * f q.1 := by
  rw [List.take_add_one, h, wsum_append]
  simp [wsum]
theorem wtot_bd {l : List (Nat × Int)} (h : ∀ q ∈ l, 1 ≤ q.2 ∧ q.2 ≤ 32) : (l.length : Int) ≤ wtot l ∧ wtot l ≤ 32 * l.length := by
  induction l with
  | nil => simp [wtot, wsum]
  | cons q l ih =>
    have h1 := h q (by simp)
    have h2 := ih fun q hq => h q (by simp [hq])
    have e : wtot (q :: l) = q.2 + wtot l := by simp only [wtot, wsum, Int.mul_one]
    rw [e, List.length_cons]; omega
theorem wsum_bd {p : Pl} (hp : PlOK p) {a : List Int} (ha : AtOK p a) {i : Nat} (hi : i < p.w * p.h) (k : Nat) : 0 ≤ wtot ((nbs p i).take k) ∧ wtot ((nbs p i).take k) ≤ 128 ∧ -128000000 ≤ wsum ((nbs p i).take k) (gt a) ∧ wsum ((nbs p i).take k) (gt a) ≤ 128000000 := by
  have hN := nbs_in p hp.w.2 hi
  have hl := nbs_len p i
  have h1 := wtot_bd (l := (nbs p i).take k) fun q hq => ⟨(hN q (List.mem_of_mem_take hq)).2.1, (hN q (List.mem_of_mem_take hq)).2.2.1⟩
  have h2 := wsum_in (l := (nbs p i).take k) (f := gt a) (a := -1000000) (b := 1000000) fun q hq => by
    obtain ⟨k1, k2, _⟩ := hN q (List.mem_of_mem_take hq)
    exact ⟨by omega, ha.bd _ k1⟩
  have h3 : ((nbs p i).take k).length ≤ 4 := by rw [List.length_take]; omega
  omega

def arT : List (Nat × AVal) := [(3, .ptr 0 0 0 1), (4, .ptr 1 0 0 1), (6, .ptr 2 0 0 1), (7, .ptr 3 0 0 1), (12, .fn (.func n_field_neighbours_1) [] [.ptr 5 0 0 1, .ptr 4 0 0 1])]
def arL (st : LoopState) (pe : Option ACode) : Row := .loop (tsets 28 arT) [13, 14] k_field_around_r6 k_field_around_r7 6 st pe
def arH (p : Pl) (a : List Int) (s w : Int) (i : Nat) (x : Row) (X : Heap) : Heap :=
  [some (.cells false 4 [p.v]), some (.cells false 1 [vw a]), some (.cells false 1 [.int .i64 s]), some (.cells false 1 [.int .i64 w]), some (.cells false 4 [p.v]), some (.cells false 1 [.int .i64 i]), some .dfr, some x] ++ X

set_option maxHeartbeats 4000000 in
set_option maxRecDepth 4000 in
theorem around_ok {p : Pl} (hp : PlOK p) {a : List Int} (ha : AtOK p a) {i : Nat} (hi : i < p.w * p.h) :
    Ans Try.prog n_field_around [p.v, vw a, .int .i64 i] [] (.tup [.int .i64 (wsum (nbs p i) (gt a)), .int .i64 (wtot (nbs p i))]) [] := by
  have hN := nbs_in p hp.w.2 hi
  refine spec_run e_field_around fun G => ?_
  simp only [go_sem, Pl.v, Pl.a, Pl.c4, vw]
  refine cN2 (neighbours_ok p i) ?_
  simp only [go_sem, ren, rens]
  refine rangeF 2000 (ρ := tsets 28 arT) (by simp [go_sem, arT]) (by simp only [go_sem, arT]; rfl)
    (nbs1_iter hp hi (r := 7) (jc := 5) (jp := 4) (N := 8) (Pre := fun k H => ∃ X, H = arH p a (wsum ((nbs p i).take k) (gt a)) (wtot ((nbs p i).take k)) i (arL .ready none) X) (Stop := fun _ => False)
      ⟨?_, ?_⟩ ⟨[], rfl⟩ rfl) (by simp) ?_
  · rintro k H ⟨X, rfl⟩
    exact ⟨by simp [arH], rfl, rfl⟩
  · rintro k ⟨n, wt⟩ H hq ⟨X, rfl⟩
    obtain ⟨h1, h2, h3, _, _⟩ := hN _ (List.mem_of_getElem? hq)
    dsimp only at h1 h2 h3 ⊢
    have hw1 : wsum ((nbs p i).take (k + 1)) (gt a) = wsum ((nbs p i).take k) (gt a) + wt * gt a n := wsum_take hq _
    have hw2 : wtot ((nbs p i).take (k + 1)) = wtot ((nbs p i).take k) + wt * 1 := wsum_take hq _
    have b1 := wsum_bd hp ha hi k
    have b2 := wsum_bd hp ha hi (k + 1)
    have b3 := ha.bd n h1
    have hget : a[n]? = some (gt a n) := gt_get (by rw [ha.len]; exact h1)
    have m1 : wt * gt a n ≤ 32000000 ∧ -32000000 ≤ wt * gt a n := by
      have h4 := Int.mul_le_mul_of_nonneg_left b3.1 (show 0 ≤ wt by omega)
      have h5 := Int.mul_le_mul_of_nonneg_left b3.2 (show 0 ≤ wt by omega)
      omega
    have u1 : IntKind.i64.wrap (wt * gt a n) = wt * gt a n := w64 (by omega)
    have u2 : IntKind.i64.wrap (wsum ((nbs p i).take k) (gt a) + wt * gt a n) = wsum ((nbs p i).take (k + 1)) (gt a) := by rw [hw1]; exact w64 (by omega)
    have u3 : IntKind.i64.wrap (wtot ((nbs p i).take k) + wt) = wtot ((nbs p i).take (k + 1)) := by rw [hw2, Int.mul_one]; exact w64 (by omega)
    have g1 : (n : Int) < a.length := by rw [ha.len]; omega
    have g2 : ¬ (n : Int) < 0 := by omega
    generalize wsum ((nbs p i).take (k + 1)) (gt a) = s1 at *
    generalize wtot ((nbs p i).take (k + 1)) = t1 at *
    generalize wsum ((nbs p i).take k) (gt a) = s0 at *
    generalize wtot ((nbs p i).take k) = t0 at *
    refine RoundW.mono (R := fun v H' => v = .bool true ∧ ∃ Y, H' = arH p a s1 t1 i (arL .ready none) (X ++ Y)) ?_ ?_
    rotate_left
    · rintro v H' ⟨rfl, Y, rfl⟩
      exact .inl ⟨rfl, _, rfl⟩
    generalize hR : (fun (v : AVal) (H' : Heap) => v = .bool true ∧ ∃ Y, H' = arH p a s1 t1 i (arL .ready none) (X ++ Y)) = R
    have hfin : ∀ Y, R (.bool true) (arH p a s1 t1 i (arL .ready none) (X ++ Y)) := fun Y => by rw [← hR]; exact ⟨rfl, Y, rfl⟩
    clear hR
    refine roundW_run 500 k_field_around_r6.eq_1 rfl rfl (ρ' := tsets 28 (arT ++ [(13, .int .i64 (n : Int)), (14, .int .i64 wt)])) rfl ?_
    simp only [go_sem, arT, arH, vw]
    refine roundMid_run 500 k_field_around_r7.eq_1 rfl rfl ?_
    simp only [go_sem, vw, hget, g1, g2, u1, u2, u3, Int.toNat_natCast, List.length_map]
    refine roundEnd_on rfl ?_
    simp only [go_sem]
    have h0 := hfin []
    rw [List.append_nil] at h0
    exact h0
  · rintro v H' ⟨rfl, ⟨X, rfl⟩ | h⟩
    · refine ⟨fun q hq => by simp at hq; subst hq; rfl, _, _, _, _, _, _, _, rfl, by decide, ?_⟩
      rw [List.take_length]
      simp only [go_sem, arH, arT, tsets]
      simp
    · exact h.elim
end Go.Proofs

namespace Go.Proofs
open Go Go.Sx
attribute [local irreducible] Run

def mxL (a : Int) : List Int → Int
  | [] => a
  | c :: cs => mxL (if c > a then c else a) cs
theorem mxL_ge : ∀ (l : List Int) (a : Int), a ≤ mxL a l ∧ ∀ c ∈ l, c ≤ mxL a l
  | [], a => ⟨Int.le_refl _, fun c hc => by simp at hc⟩
  | c :: l, a => by
    obtain ⟨h1, h2⟩ := mxL_ge l (if c > a then c else a)
    rw [mxL]
    have h3 : a ≤ (if c > a then c else a) ∧ c ≤ (if c > a then c else a) := by split <;> omega
    refine ⟨by omega, fun d hd => ?_⟩
    rcases List.mem_cons.1 hd with rfl | hd
    · omega
    · exact h2 d hd
theorem mxL_le : ∀ (l : List Int) (a b : Int), a ≤ b → (∀ c ∈ l, c ≤ b) → mxL a l ≤ b
  | [], a, b, h, _ => h
  | c :: l, a, b, h, h' => by
    rw [mxL]
    exact mxL_le l _ b (by have := h' c (by simp); split <;> omega) fun d hd => h' d (by simp [hd])
def gmax (l : List Int) : Int := mxL 0 l
theorem gmax_cons {c : Int} {l : List Int} (h : 0 ≤ c) : gmax (c :: l) = mxL c l := by
  unfold gmax
  rw [mxL]
  congr 1
  split <;> omega

theorem drop_step {l : List Int} {i : Nat} (h : i < l.length) : l.drop i = gt l i :: l.drop (i + 1) := by
  rw [List.drop_eq_getElem_cons h]
  congr 1
  unfold gt
  rw [List.getD_eq_getElem?_getD, List.getElem?_eq_getElem h]; rfl
theorem drop_end {l : List Int} {i : Nat} (h : l.length ≤ i) : l.drop i = [] := List.drop_of_length_le h

theorem max_ok {l : List Int} (hl : l ≠ []) (h0 : ∀ c ∈ l, 0 ≤ c) (hlen : l.length ≤ 1000000) : Ans Try.prog n_slices_Max_int_int [vw l] [] (.int .i64 (gmax l)) [] := by
  obtain ⟨c, cs, rfl⟩ := List.exists_cons_of_ne_nil hl
  generalize hRES : gmax (c :: cs) = RES
  rw [gmax_cons (h0 c (by simp))] at hRES
  refine spec_run e_slices_Max_int_int fun G => ?_
  have g1 : ¬ (((cs.length + 1 : Nat) : Int) < 1) := by omega
  have g2 : (0 : Int) < ((cs.length + 1 : Nat) : Int) := by omega
  simp only [go_sem, vw, List.length_map, List.length_cons, List.map_cons, g1, g2]
  refine loop_ind k_slices_Max_int_int_r8.eq_1 (fun a : Nat × Int × Heap => 1 ≤ a.1 ∧ a.1 ≤ cs.length + 1 ∧ mxL a.2.1 ((c :: cs).drop a.1) = RES) (fun a => cs.length + 1 - a.1)
    (fun a => (tsets 25 [(0, vw (c :: cs)), (3, .int .i64 a.2.1), (4, .int .i64 a.1)], a.2.2)) (1, c, []) ⟨Nat.le_refl _, by omega, hRES⟩ (by simp [go_sem, vw]) rfl ?_
  rintro ⟨i, m, X⟩ ⟨hi0, hi, hm⟩ ih
  dsimp only at hi0 hi hm ih ⊢
  by_cases h1 : i < cs.length + 1
  · have h2 : (i : Int) < ((cs.length + 1 : Nat) : Int) := by omega
    have h3 := idx_next h1 (by simp at hlen; omega)
    have n0 : ¬ (i : Int) < 0 := by omega
    have hlt : i < (c :: cs).length := by simpa using h1
    have hx := gt_get hlt
    rw [drop_step hlt, mxL] at hm
    generalize gt (c :: cs) i = z at *
    have hx2 : (List.map (AVal.int IntKind.i64) (c :: cs))[i]? = some (.int .i64 z) := by rw [List.getElem?_map, hx]; rfl
    simp only [List.map_cons] at hx2
    simp only [go_sem, vw, List.length_map, List.length_cons, List.map_cons, h2, n0, hx2, h3]
    exact ih (i + 1, _, _) (by dsimp only; omega) ⟨by omega, h1, hm⟩ _ (by simp [go_sem, vw]; rfl)
  · have h2 : ¬ (i : Int) < ((cs.length + 1 : Nat) : Int) := by omega
    rw [drop_end (by simp; omega)] at hm
    simp only [go_sem, vw, List.length_map, List.length_cons, List.map_cons, h2]
    rw [← hm]; rfl

theorem checkNumbers_ok {l : List Int} (h : VOK l) (hlen : l.length ≤ 1000000) : Ans Try.prog n_field_checkNumbers [vw l] [] (.int .i64 0) [] := by
  refine spec_run e_field_checkNumbers fun G => ?_
  simp only [go_sem, vw, List.length_map]
  refine loop_ind k_field_checkNumbers_r7.eq_1 (fun a : Nat × Heap => a.1 ≤ l.length) (fun a => l.length - a.1)
    (fun a => (tsets 15 [(2, .int .i64 0), (5, vw l), (6, .int .i64 l.length), (7, .int .i64 a.1)], a.2)) (0, []) (Nat.zero_le _) (by simp [go_sem, vw]) rfl ?_
  rintro ⟨i, X⟩ hi ih
  dsimp only at hi ih ⊢
  by_cases h1 : i < l.length
  · have h2 : (i : Int) < l.length := by omega
    have h3 := idx_next h1 (by omega)
    have n0 : ¬ (i : Int) < 0 := by omega
    have hx := gt_get h1
    have hb := h _ (gt_mem h1)
    generalize gt l i = z at *
    simp only [go_sem, vw, List.length_map, h2, n0, hx]
    refine cP (within_yes hb) ?_
    simp only [go_sem, h3]
    exact ih (i + 1, _) (by dsimp only; omega) h1 _ (by simp [go_sem, vw])
  · have h2 : ¬ (i : Int) < l.length := by omega
    simp only [go_sem, vw, List.length_map, h2]

theorem checkSweeps_ok {n : Int} (h : 0 ≤ n ∧ n ≤ 200) : Ans Try.prog n_field_checkSweeps [.int .i64 n] [] (.int .i64 0) [] := by
  refine spec_run e_field_checkSweeps fun G => ?_
  simp only [go_sem]
  refine cP (within_yes h) ?_
  simp only [go_sem]

theorem ends_ok {p : Pl} (hp : PlOK p) {v : List Int} (hv : VOK v) (hvl : VLen p v) : Ans Try.prog n_field_ends [p.v, vw v] [] (.tup [.int .i64 (endL p v), .int .i64 (endM p v)]) [] := by
  have hlen := hp.len
  have hw := hp.w; have hh := hp.h
  have hN : p.w * p.h ≤ 256 := Nat.mul_le_mul hw.2 hh.2
  generalize hRL : endL p v = RL
  generalize hRM : endM p v = RM
  refine spec_run e_field_ends fun G => ?_
  simp only [go_sem, Pl.v, Pl.a, Pl.c4, vw, List.length_map]
  refine loop_ind k_field_ends_r9.eq_1 (fun a : Nat × Int × Int × Heap => a.1 ≤ p.cs.length ∧ endLs v a.2.1 (p.cs.drop a.1) = RL ∧ endMs v a.2.2.1 (p.cs.drop a.1) = RM) (fun a => p.cs.length - a.1)
    (fun a => (tsets 34 [(1, vw v), (4, .int .i64 a.2.1), (5, .int .i64 a.2.2.1), (9, vw p.cs), (10, .int .i64 p.cs.length), (11, .int .i64 a.1)], a.2.2.2)) (0, 1000000, -1000000, _) ⟨Nat.zero_le _, hRL, hRM⟩ (by simp [go_sem, vw]) rfl ?_
  rintro ⟨i, lo, hi, X⟩ ⟨hil, hL, hM⟩ ih
  dsimp only at hil hL hM ih ⊢
  by_cases h1 : i < p.cs.length
  · have h2 : (i : Int) < p.cs.length := by omega
    have h3 := idx_next h1 (by omega)
    have n0 : ¬ (i : Int) < 0 := by omega
    have hx := gt_get h1
    have hcm := hvl _ (gt_mem h1)
    have hcr := hp.cell _ (gt_mem h1)
    rw [drop_step h1] at hL hM
    rw [endLs] at hL
    rw [endMs] at hM
    generalize gt p.cs i = z at *
    by_cases hz : z = 0
    · have hz' : (z != 0) = false := by simp [hz]
      rw [if_pos hz] at hL hM
      simp only [go_sem, vw, List.length_map, h2, n0, hx, hz', h3]
      exact ih (i + 1, lo, hi, _) (by dsimp only; omega) ⟨h1, hL, hM⟩ _ (by simp [go_sem, vw])
    · have hz' : (z != 0) = true := by simp [hz]
      rw [if_neg hz] at hL hM
      have w1 : IntKind.i64.wrap (z - 1) = z - 1 := w64 (by omega)
      have k1 : ¬ z - 1 < 0 := by omega
      have k2 : z - 1 < v.length := by omega
      have hxv : v[(z - 1).toNat]? = some (vo v z) := gt_get (by omega)
      simp only [go_sem, vw, List.length_map, h2, n0, hx, hz', h3, w1, k1, k2, hxv]
      exact ih (i + 1, _, _, _) (by dsimp only; omega) ⟨h1, hL, hM⟩ _ (by simp [go_sem, vw]; exact ⟨rfl, rfl⟩)
  · have h2 : ¬ (i : Int) < p.cs.length := by omega
    rw [drop_end (by omega)] at hL hM
    simp only [go_sem, vw, List.length_map, h2]
    rw [← hL, ← hM]; rfl
end Go.Proofs

namespace Go.Proofs
open Go Go.Sx
attribute [local irreducible] Run

def iv (l : List Int) : List AVal := l.map (.int .i64)
theorem vw_iv (l : List Int) : vw l = .view (iv l) := rfl
theorem iv_len (l : List Int) : (iv l).length = l.length := by simp [iv]
theorem iv_set (l : List Int) (i : Nat) (x : Int) : (iv l).set i (.int .i64 x) = iv (l.set i x) := by simp [iv, List.map_set]
theorem iv_get {l : List Int} {i : Nat} (h : i < l.length) : (iv l)[i]? = some (.int .i64 (gt l i)) := by simp [iv, gt_get h]
theorem iv_bel (l : List Int) (S : Nat → Prop) : Bels S (iv l) := by unfold iv; simp only [go_sem]
theorem iv_row (g : Bool) (l : List Int) (S : Nat → Prop) : (Row.cells g 1 (iv l)).bel S := by rw [row_bel_cells]; exact iv_bel l S
theorem iv_nv (g : Bool) (l : List Int) : (Row.cells g 1 (iv l)).nv := row_nv_cells _ _ (nvs_map _ _ fun x => .int _ _)
theorem iv_frz (d : Nat) (H : Heap) (l : List Int) : (iv l).map (frz (d + 1) H) = iv l := by
  unfold iv; rw [List.map_map]
  rfl
theorem iv_frz_sl {H : Heap} {j d n : Nat} {g : Bool} {l : List Int} (h : H[j]? = some (some (.cells g 1 (iv l)))) (hn : n = l.length) : frz (d + 2) H (.sl j 0 n) = vw l := by
  rw [frz_sl h (by rw [iv_len]; exact hn), iv_frz]; rfl
theorem vw_frz (d : Nat) (H : Heap) (l : List Int) : frz (d + 2) H (vw l) = vw l := by
  show AVal.view ((iv l).map (frz (d + 1) H)) = _
  rw [iv_frz]; rfl
theorem plv_frz (d : Nat) (H : Heap) (p : Pl) : frz (d + 3) H p.v = p.v := by
  show AVal.agg [_, _, _, frz (d + 2) H (vw p.cs)] = _
  rw [vw_frz]; rfl
theorem pla_frz (d : Nat) {H : Heap} {j n : Nat} {g : Bool} {p : Pl} (h : H[j]? = some (some (.cells g 1 (iv p.cs)))) (hn : n = p.cs.length) : frz (d + 3) H (p.a (.sl j 0 n)) = p.v := by
  show AVal.agg [_, _, _, frz (d + 2) H (.sl j 0 n)] = _
  rw [iv_frz_sl h hn]; rfl

section
variable {P : Program} {G : Ctx} {g : FuncId} {args largs : List AVal} {H : Heap} {k : Nat} {rd : Option Nat} {R : Runner} {l : List AOper} {fs : List Sx.Frame} {ρ : List AVal} {ms : List Nat} {Q : Sx.Goal} {ao : AOper} {lo hi : Nat} {tr : List (List Nat × List Nat)} {ss : List (List AOper)} {dst : Option Nat}
theorem dS1 {x x' : Row} {r : AVal} {j : Nat} (h : Ans P g largs [some x] r [some x']) (hj : H[j]? = some (some x)) (hargs : args = largs.map (ren (nth [j]))) (hb : Bels (· < 1) largs) (hx : x.bel (fun _ => False)) (hx' : x'.bel (fun _ => False)) (hr : Bel (fun _ => False) r)
    (hms : ∀ q ∈ ms, q ≠ j) (hd : dynOK ao.free [j] [j] tr lo = true) (hK : R (.grp lo l (tr ++ [([j], [j])]) hi ss) fs ⟨setD ρ ao.dst r, H.set j (some x'), ms⟩ Q) : DCallR P R g args ao lo l tr hi ss fs ρ H ms Q := by
  have hlt := (List.getElem?_eq_some_iff.1 hj).1
  have e : outΔ (outσ [j] H.length) 0 [some x'] = [(j, x')] := by
    simp only [outΔ, Row.ren_same hx']
    rfl
  refine dS h [j] (by simp) ⟨by rw [Row.ren_same hx]; exact hj, trivial⟩ hargs hb ⟨bel_mono_row hx fun _ h => h.elim, trivial⟩ rfl hr ⟨bel_mono_row hx' fun _ h => h.elim, trivial⟩ (by simpa using hlt) (fun q hq => ?_) ?_ ?_
  · rw [e]; simpa using hms q hq
  · rw [e]; exact hd
  · rw [e]
    simp only [Heap.puts, put_lt hlt]
    exact hK
theorem cS1 {x x' : Row} {r : AVal} {j : Nat} (h : Ans P g largs [some x] r [some x']) (hj : H[j]? = some (some x)) (hargs : args = largs.map (ren (nth [j]))) (hb : Bels (· < 1) largs) (hx : x.bel (fun _ => False)) (hx' : x'.bel (fun _ => False)) (hr : Bel (fun _ => False) r)
    (hk : k ≤ H.length) (hms : ∀ q ∈ ms, q ≠ j ∧ H[q]? = some (some .dfr)) (hK : R (.ops l) fs ⟨setD ρ dst r, H.set j (some x'), ms⟩ Q) : CallR P G k R g args dst l fs ρ H ms Q := by
  have hlt := (List.getElem?_eq_some_iff.1 hj).1
  have e : outΔ (outσ [j] H.length) 0 [some x'] = [(j, x')] := by
    simp only [outΔ, Row.ren_same hx']
    rfl
  refine callS h [j] (by simp) ⟨by rw [Row.ren_same hx]; exact hj, trivial⟩ hargs hb ⟨bel_mono_row hx fun _ h => h.elim, trivial⟩ (Nat.le_refl _) (hr.mono fun _ h => h.elim) ⟨bel_mono_row hx' fun _ h => h.elim, trivial⟩ (by simpa using hlt) hk (fun q hq => ?_) ?_
  · rw [e]; exact ⟨by simpa using (hms q hq).1, (hms q hq).2⟩
  · rw [e, ren_same hr]
    simp only [Heap.puts, put_lt hlt]
    exact hK
end

def fillTo (l : List Int) (i : Nat) : List Int := l.take i ++ List.replicate (l.length - i) 0
theorem fill_len (l : List Int) {i : Nat} (h : i ≤ l.length) : (fillTo l i).length = l.length := by simp [fillTo]; omega
theorem fill_set (l : List Int) {i : Nat} (h : i < l.length) : (fillTo l i).set i (gt l i) = fillTo l (i + 1) := by
  unfold fillTo
  rw [List.set_append_right _ _ (by simp; omega)]
  have e1 : i - (l.take i).length = 0 := by simp; omega
  have e2 : l.length - i = l.length - (i + 1) + 1 := by omega
  rw [e1, e2, List.replicate_succ, List.set_cons_zero, List.take_add_one, gt_get h]
  simp
theorem fill_end (l : List Int) : fillTo l l.length = l := by simp [fillTo]

theorem newBound_ok {p : Pl} (hp : PlOK p) {v : List Int} (hvl : VLen p v) (f : Int) (n : Nat) :
    Ans Try.prog n_field_newBound [p.v, vw v, .int .i64 f, .fn (.func n) [] []] [] (.agg [.sl 0 0 p.cs.length, .fn (.func n) [] []]) [some (.cells false 1 (iv (at0 p v f)))] := by
  have hw := hp.w; have hh := hp.h
  have hN : p.cs.length ≤ 256 := by rw [hp.len]; exact Nat.mul_le_mul hw.2 hh.2
  have hal : (at0 p v f).length = p.cs.length := by simp [at0]
  refine Ans.keep (run_fn e_field_newBound fun G => ?_) (by simp) (by simp [go_sem]) ⟨iv_row _ _ _, trivial⟩
  have g1 : (p.cs.length : Int) ≤ 2 ^ 44 := by omega
  have g2 : (p.cs.length : Int) * 8 ≤ 2 ^ 44 := by omega
  have g3 : (0 : Int) ≤ p.cs.length := by omega
  simp only [go_sem, Pl.v, Pl.a, Pl.c4, vw, List.length_map, g1, g2, g3]
  refine ⟨Int.le_refl _, ?_⟩
  have hz : List.replicate p.cs.length (AVal.int IntKind.i64 0) = iv (fillTo (at0 p v f) 0) := by simp [fillTo, iv, hal]
  refine loop_ind k_field_newBound_r9.eq_1 (fun a : Nat => a ≤ p.cs.length) (fun a => p.cs.length - a)
    (fun a => (tsets 42 [(1, vw v), (2, .int .i64 f), (3, .fn (.func n) [] []), (4, .ptr 0 0 0 1), (8, .ptr 1 0 0 1), (9, .sl 2 0 p.cs.length), (17, vw p.cs), (18, .int .i64 p.cs.length), (19, .int .i64 a)],
      [some (.cells false 4 [p.v]), some (.cells false 2 [.agg [.nilsl, .nilfn]]), some (.cells false 1 (iv (fillTo (at0 p v f) a)))])) 0 (Nat.zero_le _) (by simp [go_sem, vw]) (by rw [← hz]; simp [Pl.v, Pl.a, Pl.c4, vw]) ?_
  intro i hi ih
  dsimp only at hi ih ⊢
  by_cases h1 : i < p.cs.length
  · have h2 : (i : Int) < p.cs.length := by omega
    have h3 := idx_next h1 (by omega)
    have n0 : ¬ (i : Int) < 0 := by omega
    have hx := gt_get h1
    have hfl := fill_len (at0 p v f) (i := i) (by omega)
    have hil : i < (fillTo (at0 p v f) i).length := by omega
    have hcm := hvl _ (gt_mem h1)
    have hcr := hp.cell _ (gt_mem h1)
    have hset := fill_set (at0 p v f) (i := i) (by omega)
    rw [gt_at0 v f h1] at hset
    generalize gt p.cs i = z at *
    have hgi := iv_get hil
    have hgi2 : ∀ x, (iv ((fillTo (at0 p v f) i).set i x))[i]? = some (.int .i64 x) := fun x => by
      rw [iv_get (by simpa using hil), gt_set _ _ _ _ hil, if_pos rfl]
    by_cases hz : z = 0
    · have hz' : (z != 0) = false := by simp [hz]
      rw [if_pos hz] at hset
      simp only [go_sem, vw, List.length_map, h2, n0, hx, hz', h3, hgi, iv_set, iv_len, hset]
      exact ih (i + 1) (by omega) h1 _ (by simp [go_sem, vw])
    · have hz' : (z != 0) = true := by simp [hz]
      rw [if_neg hz] at hset
      have w1 : IntKind.i64.wrap (z - 1) = z - 1 := w64 (by omega)
      have k1 : ¬ z - 1 < 0 := by omega
      have k2 : z - 1 < v.length := by omega
      have hxv : v[(z - 1).toNat]? = some (vo v z) := gt_get (by omega)
      simp only [go_sem, vw, List.length_map, h2, n0, hx, hz', h3, hgi, hgi2, iv_set, iv_len, hset, w1, k1, k2, hxv, List.set_set]
      exact ih (i + 1) (by omega) h1 _ (by simp [go_sem, vw])
  · have h2 : ¬ (i : Int) < p.cs.length := by omega
    have hie : i = (at0 p v f).length := by omega
    rw [hie, fill_end]
    rw [hal]
    simp only [go_sem, vw, List.length_map, h2]
    exact kept_one 2 rfl (iv_row _ _ _) rfl
end Go.Proofs

namespace Go.Proofs
open Go Go.Sx
attribute [local irreducible] Run

def RndOK (n : Nat) (rnd : Int → Int → Int) : Prop := ∀ a b : Int, 0 < b ∧ b ≤ 1000 → -1000000000 ≤ a ∧ a ≤ 1000000000 → Ans Try.prog n [.int .i64 a, .int .i64 b] [] (.int .i64 (rnd a b)) []
theorem rnd_down : RndOK n_field_roundDown rdn := fun a b hb ha => roundDown_ok a b (by omega) (by omega)
theorem rnd_up : RndOK n_field_roundUp rup := fun a b hb ha => roundUp_ok a b (by omega) (by omega)

theorem swp_flag (p : Pl) (rnd) (a : List Int) {k : Nat} (hk : k < a.length) (h : gt p.cs k = 0) :
    decide (swpTo p rnd a (k + 1) ≠ a) = (decide (swpTo p rnd a k ≠ a) || (rnd (wsum (nbs p k) (gt (swpTo p rnd a k))) (wtot (nbs p k)) != gt (swpTo p rnd a k) k)) := by
  have := swpTo_moved p rnd a hk
  by_cases h1 : swpTo p rnd a k ≠ a
  · rw [decide_eq_true (this.2 (.inl h1)), decide_eq_true h1]; rfl
  · by_cases h2 : rnd (wsum (nbs p k) (gt (swpTo p rnd a k))) (wtot (nbs p k)) = gt (swpTo p rnd a k) k
    · rw [decide_eq_false (fun h3 => by rcases this.1 h3 with h4 | h4; exact h1 h4; exact h4.2 h2), decide_eq_false h1, h2]; simp
    · rw [decide_eq_true (this.2 (.inr ⟨h, h2⟩)), decide_eq_false h1]; simp [h2]

set_option maxHeartbeats 4000000 in
theorem sweep_ok {n : Nat} {rnd : Int → Int → Int} (hr : RndOK n rnd) {p : Pl} (hp : PlOK p) {a : List Int} (ha : ∀ k, k ≤ p.w * p.h → AtOK p (swpTo p rnd a k)) :
    Ans Try.prog n_field_bound_sweep [.agg [.sl 0 0 p.cs.length, .fn (.func n) [] []], p.v] [some (.cells false 1 (iv a))] (.bool (decide (swp p rnd a ≠ a))) [some (.cells false 1 (iv (swp p rnd a)))] := by
  have hw := hp.w; have hh := hp.h
  have hN : p.w * p.h ≤ 256 := Nat.mul_le_mul hw.2 hh.2
  have hal : a.length = p.w * p.h := (ha 0 (Nat.zero_le _)).len
  refine spec_run e_field_bound_sweep fun G => ?_
  simp only [go_sem, Pl.v, Pl.a, Pl.c4, vw, List.length_map]
  refine loop_ind k_field_bound_sweep_r11.eq_1 (fun i : Nat => i ≤ p.cs.length) (fun i => p.cs.length - i)
    (fun i => (tsets 51 [(2, .ptr 1 0 0 1), (3, .ptr 2 0 0 1), (5, .bool (decide (swpTo p rnd a i ≠ a))), (12, vw p.cs), (13, .int .i64 p.cs.length), (14, .int .i64 i)],
      [some (.cells false 1 (iv (swpTo p rnd a i))), some (.cells false 2 [.agg [.sl 0 0 p.cs.length, .fn (.func n) [] []]]), some (.cells false 4 [p.v])])) 0 (Nat.zero_le _) (by simp [go_sem, vw, swpTo]) (by simp [Pl.v, Pl.a, Pl.c4, vw, swpTo]) ?_
  intro i hi ih
  dsimp only at hi ih ⊢
  by_cases h1 : i < p.cs.length
  · have h2 : (i : Int) < p.cs.length := by omega
    have h3 := idx_next h1 (by rw [hp.len]; omega)
    have n0 : ¬ (i : Int) < 0 := by omega
    have hiN : i < p.w * p.h := by rw [← hp.len]; exact h1
    have hx := gt_get h1
    have hak := ha i (by omega)
    have hsl := swpTo_len p rnd a i
    have hfl := swp_flag p rnd a (k := i) (by omega)
    have hst : swpTo p rnd a (i + 1) = stp p rnd (swpTo p rnd a i) i := rfl
    have ihn := ih (i + 1) (by omega) h1
    clear ih
    unfold stp at hst
    by_cases hz : gt p.cs i = 0
    · have hz' : (gt p.cs i != 0) = false := by simp [hz]
      have hfl1 := hfl hz
      clear hfl
      rw [if_pos hz] at hst
      have har := around_ok hp hak hiN
      obtain ⟨_, w2, w3⟩ := wtot_in p hw.2 hiN
      have w3 := w3 (hp.two hiN hz)
      have hwb := wsum_bd hp hak hiN (nbs p i).length
      rw [List.take_length] at hwb
      have hb0 : 0 < wtot (nbs p i) ∧ wtot (nbs p i) ≤ 1000 := by omega
      have hb1 : -1000000000 ≤ wsum (nbs p i) (gt (swpTo p rnd a i)) ∧ wsum (nbs p i) (gt (swpTo p rnd a i)) ≤ 1000000000 := by omega
      have hrr := hr _ _ hb0 hb1
      have hil : i < (swpTo p rnd a i).length := by rw [hsl, hal]; exact hiN
      have hgi := iv_get hil
      have e1 : (swpTo p rnd a i).length = p.cs.length := by rw [hsl, hal, hp.len]
      generalize wsum (nbs p i) (gt (swpTo p rnd a i)) = s at *
      generalize wtot (nbs p i) = t at *
      generalize gt p.cs i = z at *
      generalize swpTo p rnd a (i + 1) = b at *
      generalize swpTo p rnd a i = c at *
      clear hb0 hb1
      generalize decide (c ≠ a) = f0 at *
      generalize decide (b ≠ a) = f1 at *
      simp only [go_sem, vw, List.length_map, h2, n0, hx, hz', h3, Pl.v, Pl.a, Pl.c4]
      refine cF har 6 ⟨.inl (plv_frz 3 _ p), .inl (iv_frz_sl (d := 4) (j := 0) (g := false) (l := c) rfl e1.symm), .inl rfl, trivial⟩ ?_
      simp only [go_sem]
      refine cP hrr ?_
      generalize rnd s t = m at *
      subst hst
      subst hfl1
      cases f0 with
      | false =>
        simp only [go_sem, h2, n0, hgi, iv_set, iv_len, h3, e1]
        exact ihn _ (by simp [go_sem, vw])
      | true =>
        simp only [go_sem, h2, n0, hgi, iv_set, iv_len, h3, e1]
        exact ihn _ (by simp [go_sem, vw])
    · have hz' : (gt p.cs i != 0) = true := by simp [hz]
      rw [if_neg hz] at hst
      generalize gt p.cs i = z at *
      simp only [go_sem, vw, List.length_map, h2, n0, hx, hz', h3]
      rw [← hst] at *
      exact ihn _ (by simp [go_sem, vw])
  · have h2 : ¬ (i : Int) < p.cs.length := by omega
    have hie : i = p.cs.length := by omega
    subst hie
    simp only [go_sem, vw, List.length_map, h2]
    exact ⟨rfl, _, rfl⟩
end Go.Proofs

namespace Go.Proofs
open Go Go.Sx
attribute [local irreducible] Run

theorem plv_ren (f : Nat → Nat) (p : Pl) : ren f p.v = p.v := ren_same (by simp only [go_sem])
theorem kept_pair {x y : Row} {r v : AVal} {H' : Heap} (j0 j1 : Nat) (hne : j0 ≠ j1) (hv : v = ren (fun i => if i = 0 then j0 else j1) r) (hx : x.bel (fun _ => False)) (hy : y.bel (fun _ => False)) (h0 : H'[j0]? = some (some x)) (h1 : H'[j1]? = some (some y)) : ∃ σ, Kept [] [some x, some y] r v H' σ :=
  ⟨fun i => if i = 0 then j0 else j1, fun i hi => by simp at hi, fun i k hi hk h => by
    simp only [List.length_cons, List.length_nil] at hi hk
    by_cases e1 : i = 0 <;> by_cases e2 : k = 0 <;> simp [e1, e2] at h ⊢ <;> omega, hv, fun i z hz => by
    match i, hz with
    | 0, hz => simp at hz; subst hz; rw [Row.ren_same hx]; exact h0
    | 1, hz => simp at hz; subst hz; rw [Row.ren_same hy]; exact h1⟩

theorem LowOK.at {p : Pl} {v a : List Int} (hv : VOK v) (h : LowOK p v a) : AtOK p a := ⟨h.len, fun i hi => by
  have := h.bd i hi
  have := endL_in hv p
  have := endM_in hv p
  omega⟩
theorem HighOK.at {p : Pl} {v a : List Int} (hv : VOK v) (h : HighOK p v a) : AtOK p a := ⟨h.len, fun i hi => by
  have := h.bd i hi
  have := endL_in hv p
  have := endM_in hv p
  omega⟩
theorem low_at {p : Pl} (hp : PlOK p) {v : List Int} (hv : VOK v) (s k : Nat) (hk : k ≤ p.w * p.h) : AtOK p (swpTo p rdn (lowB p v s) k) := ((swpTo_ok hp (low_ok hp v s) k hk).1).at hv
theorem high_at {p : Pl} (hp : PlOK p) {v : List Int} (hv : VOK v) (s k : Nat) (hk : k ≤ p.w * p.h) : AtOK p (swpTo p rup (highB p v s) k) := by
  rw [highB_eq, swpTo_ngs]
  exact (((swpTo_ok hp (low_ok hp (ngs v) s) k hk).1).neg).at hv

theorem stl_succ (p : Pl) (v : List Int) (s : Nat) : stl p v (s + 1) = (!decide (swp p rdn (lowB p v s) ≠ lowB p v s) && !decide (swp p rup (highB p v s) ≠ highB p v s)) := by
  have e1 : lowB p v (s + 1) = swp p rdn (lowB p v s) := rfl
  have e2 : highB p v (s + 1) = swp p rup (highB p v s) := rfl
  unfold stl
  rw [Nat.add_sub_cancel, e1, e2]
  by_cases h1 : swp p rdn (lowB p v s) = lowB p v s <;> by_cases h2 : swp p rup (highB p v s) = highB p v s <;> simp [h1, h2]

def fldV (n : Nat) (s : Nat) (t : Bool) (j0 j1 : Nat) : AVal := .agg [.sl j0 0 n, .sl j1 0 n, .int .i64 s, .bool t]

set_option maxHeartbeats 4000000 in
theorem solve_ok {p : Pl} (hp : PlOK p) {v : List Int} (hv : VOK v) (hvl : VLen p v) {n : Nat} (hn : n ≤ 200) :
    Ans Try.prog n_field_solve [p.v, vw v, .int .i64 n] [] (fldV p.cs.length (cnt p v n) (stl p v (cnt p v n)) 0 1) [some (.cells false 1 (iv (lowB p v (cnt p v n)))), some (.cells false 1 (iv (highB p v (cnt p v n))))] := by
  refine Ans.keep (run_fn e_field_solve fun G => ?_) (by simp) (by simp [go_sem, fldV]) ⟨iv_row _ _ _, iv_row _ _ _, trivial⟩
  have hen := ends_ok hp hv hvl
  have hb1 := newBound_ok hp hvl (endL p v) n_field_roundDown
  have hb2 := newBound_ok hp hvl (endM p v) n_field_roundUp
  simp only [go_sem, Pl.v, Pl.a, Pl.c4, vw]
  refine cP hen ?_
  simp only [go_sem]
  refine cN1 hb1 ?_ (hx := iv_row _ _ _)
  simp only [go_sem, ren, rens]
  refine cN1 hb2 ?_ (hx := iv_row _ _ _)
  simp only [go_sem, ren, rens]
  refine loop_ind k_field_solve_r9.eq_1 (fun s : Nat => s ≤ n ∧ cnt p v s = s) (fun s => n - s)
    (fun s => (tsets 60 [(2, .int .i64 n), (3, .ptr 0 0 0 1), (6, .ptr 1 0 0 1), (9, .ptr 3 0 0 1), (10, .ptr 5 0 0 1), (11, .ptr 6 0 0 1)],
      [some (.cells false 4 [p.v]), some (.cells false 4 [.agg [.nilsl, .nilsl, .int .i64 0, .bool false]]), some (.cells false 1 (iv (lowB p v s))), some (.cells false 2 [.agg [.sl 2 0 p.cs.length, .fn (.func n_field_roundDown) [] []]]),
        some (.cells false 1 (iv (highB p v s))), some (.cells false 2 [.agg [.sl 4 0 p.cs.length, .fn (.func n_field_roundUp) [] []]]), some (.cells false 4 [fldV p.cs.length s (stl p v s) 2 4])])) 0 ⟨Nat.zero_le _, rfl⟩ (by simp [go_sem]) (by simp [Pl.v, Pl.a, Pl.c4, vw, fldV, stl, lowB, highB, itr]) ?_
  rintro s ⟨hsn, hcs⟩ ih
  dsimp only at hsn hcs ih ⊢
  by_cases h1 : s < n
  · have h2 : (s : Int) < n := by omega
    cases hst : stl p v s with
    | true =>
      have hc : cnt p v n = s := by
        have := cnt_still hcs hst (n - s)
        rwa [show s + (n - s) = n by omega] at this
      rw [hc, hst]
      simp only [go_sem, fldV, h2]
      exact kept_pair 2 4 (by decide) rfl (iv_row _ _ _) (iv_row _ _ _) rfl rfl
    | false =>
      have ihn := ih (s + 1) (by omega) ⟨h1, cnt_next hcs hst⟩
      clear ih
      have hsL := sweep_ok rnd_down hp (a := lowB p v s) fun k hk => low_at hp hv s k hk
      have hsH := sweep_ok rnd_up hp (a := highB p v s) fun k hk => high_at hp hv s k hk
      have h3 : IntKind.i64.wrap ((s : Int) + 1) = ((s + 1 : Nat) : Int) := by rw [w64 (by omega)]; rfl
      rw [stl_succ] at ihn
      rw [show lowB p v (s + 1) = swp p rdn (lowB p v s) from rfl, show highB p v (s + 1) = swp p rup (highB p v s) from rfl] at ihn
      generalize decide (swp p rdn (lowB p v s) ≠ lowB p v s) = f1 at *
      generalize decide (swp p rup (highB p v s) ≠ highB p v s) = f2 at *
      generalize swp p rdn (lowB p v s) = L1 at *
      generalize swp p rup (highB p v s) = H1 at *
      simp only [go_sem, fldV, h2, Pl.v, Pl.a, Pl.c4, vw]
      refine dS1 hsL (j := 2) rfl ?_ ?_ (iv_row _ _ _) (iv_row _ _ _) (.bool _) (by simp) ?_ ?_
      · simp only [List.map_cons, List.map_nil, plv_ren]; rfl
      · simp [go_sem]
      · simp [go_sem]
      simp only [go_sem, fldV, Pl.v, Pl.a, Pl.c4, vw]
      refine cS1 hsH (j := 4) rfl ?_ ?_ (iv_row _ _ _) (iv_row _ _ _) (.bool _) (by simp) (by simp) ?_
      · simp only [List.map_cons, List.map_nil, plv_ren]; rfl
      · simp [go_sem]
      cases f1 <;> cases f2 <;> (simp only [go_sem, fldV, h3]; exact ihn _ (by simp [go_sem]))
  · have h2 : ¬ (s : Int) < n := by omega
    have hsn' : s = n := by omega
    subst hsn'
    rw [hcs]
    simp only [go_sem, fldV, h2]
    exact kept_pair 2 4 (by decide) rfl (iv_row _ _ _) (iv_row _ _ _) rfl rfl
end Go.Proofs

namespace Go.Proofs
open Go Go.Sx
attribute [local irreducible] Run

section
variable {P : Program} {G : Ctx} {k : Nat} {rd : Option Nat} {fs : List Sx.Frame} {Q : Sx.Goal}
theorem loop_indM {α : Type} {c c' : ACode} (hc : c = c') (Inv : α → Prop) (μ : α → Nat) (st : α → List AVal × Heap × List Nat) {ρ : List AVal} {H : Heap} {ms : List Nat} (a0 : α) (h0 : Inv a0) (hw : Wk ρ (st a0).1) (hH : H = (st a0).2.1) (hm : ms = (st a0).2.2)
    (step : ∀ a, Inv a → (∀ b, μ b < μ a → Inv b → ∀ ρ', Wk ρ' (st b).1 → Sx.Loop P G k rd c fs ⟨ρ', (st b).2.1, (st b).2.2⟩ Q) → Run P G k rd 3000 (.code c') (.rnd c :: fs) ⟨(st a).1, (st a).2.1, (st a).2.2⟩ Q) : Sx.Loop P G k rd c fs ⟨ρ, H, ms⟩ Q := by
  have key : ∀ (n : Nat) (a : α), μ a = n → Inv a → ∀ ρ', Wk ρ' (st a).1 → Sx.Loop P G k rd c fs ⟨ρ', (st a).2.1, (st a).2.2⟩ Q := by
    intro n
    induction n using Nat.strongRecOn with
    | ind n ih =>
      intro a ha hi ρ' hw
      exact loop_wk hw (loop_body 3000 hc (step a hi fun b hb hib ρ'' hw'' => ih (μ b) (by omega) b rfl hib ρ'' hw''))
  subst hH
  subst hm
  exact key _ a0 rfl h0 ρ hw
end

structure LoOK (p : Pl) (bs : List Bool) (es : List Nat) : Prop where
  len : bs.length = 256
  mem : ∀ c ∈ es, c < p.w * p.h
  iff : ∀ c, bs.getD c false = true ↔ c ∈ es
  cnt : es.length = bs.count true

theorem getD_set (bs : List Bool) (c d : Nat) (h : c < bs.length) : (bs.set c true).getD d false = if d = c then true else bs.getD d false := by
  rw [List.getD_eq_getElem?_getD, List.getD_eq_getElem?_getD]
  by_cases e : d = c
  · subst e; rw [List.getElem?_set_self h]; simp
  · rw [List.getElem?_set_ne (by omega)]; simp [e]

theorem LoOK.add {p : Pl} (hp : PlOK p) {bs : List Bool} {es : List Nat} (h : LoOK p bs es) {c : Nat} (hc : c < p.w * p.h) (hb : bs.getD c false = false) : LoOK p (bs.set c true) (es ++ [c]) := by
  have hN : p.w * p.h ≤ 256 := Nat.mul_le_mul hp.w.2 hp.h.2
  have hcl : c < bs.length := by rw [h.len]; omega
  refine ⟨by simp [h.len], fun d hd => ?_, fun d => ?_, ?_⟩
  · rcases List.mem_append.1 hd with hd | hd
    · exact h.mem d hd
    · simp at hd; subst hd; exact hc
  · rw [getD_set _ _ _ hcl, List.mem_append, ← h.iff d]
    by_cases e : d = c <;> simp [e]
  · have hg : bs[c] = false := by
      rw [List.getD_eq_getElem?_getD, List.getElem?_eq_getElem hcl] at hb; exact hb
    rw [List.count_set hcl, hg, List.length_append, h.cnt]
    simp
theorem LoOK.le {p : Pl} {bs : List Bool} {es : List Nat} (h : LoOK p bs es) : es.length ≤ 256 := by
  rw [h.cnt, ← h.len]; exact List.count_le_length
theorem LoOK.full {p : Pl} (hp : PlOK p) {bs : List Bool} {es : List Nat} (h : LoOK p bs es) (hall : ∀ c, c < p.w * p.h → c ∈ es) : p.w * p.h ≤ es.length := by
  have hN : p.w * p.h ≤ 256 := Nat.mul_le_mul hp.w.2 hp.h.2
  rw [h.cnt]
  have e : bs = bs.take (p.w * p.h) ++ bs.drop (p.w * p.h) := (List.take_append_drop _ _).symm
  rw [e, List.count_append]
  have h1 : (bs.take (p.w * p.h)).count true = (bs.take (p.w * p.h)).length := by
    rw [List.count_eq_length]
    intro b hb
    obtain ⟨i, hi, rfl⟩ := List.mem_iff_getElem.1 hb
    rw [List.length_take] at hi
    have := (h.iff i).2 (hall i (by omega))
    rw [List.getD_eq_getElem?_getD, List.getElem?_eq_getElem (by omega)] at this
    rw [List.getElem_take]
    exact this.symm
  rw [h1, List.length_take, h.len]
  omega

def bv (bs : List Bool) : List AVal := bs.map .bool
def nv' (es : List Nat) : List AVal := List.map (fun c : Nat => AVal.int .i64 (c : Int)) es
theorem bv_set {bs : List Bool} {c : Nat} (h : c < bs.length) : (bv bs).take c ++ AVal.bool true :: (bv bs).drop (c + 1) = bv (bs.set c true) := by
  unfold bv
  rw [List.map_set, List.set_eq_take_append_cons_drop, if_pos (by simpa using h)]
theorem bv_get {bs : List Bool} {c : Nat} (h : c < bs.length) : (bv bs)[c]? = some (.bool (bs.getD c false)) := by
  simp [bv, List.getD_eq_getElem?_getD, List.getElem?_eq_getElem h]
theorem bv_len (bs : List Bool) : (bv bs).length = bs.length := by simp [bv]
theorem nv_len (es : List Nat) : (nv' es).length = es.length := by simp [nv']
theorem nv_get {es : List Nat} {i : Nat} (h : i < es.length) : (nv' es)[i]? = some (.int .i64 (es[i] : Int)) := by simp [nv', h]
theorem nv_app (es : List Nat) (c : Nat) : nv' es ++ [.int .i64 (c : Int)] = nv' (es ++ [c]) := by simp [nv']

def loF (p : Pl) (bs : List Bool) (es : List Nat) (g : Option Row) : Heap :=
  [some (.cells false 4 [p.v]), some (.cells false 256 [.agg (bv bs)]), some (.cells false 1 [.sl 4 0 es.length]), g, some (.cells true 1 (nv' es))]
def loI (p : Pl) (bs : List Bool) : Heap :=
  [some (.cells false 4 [p.v]), some (.cells false 256 [.agg (bv bs)]), some (.cells false 1 [.nilsl])]

def LoA (p : Pl) (i : Nat) (bs : List Bool) (es : List Nat) (H : Heap) : Prop :=
  LoOK p bs es ∧ (∀ c, c < i → p.el c → c ∈ es) ∧ (∀ c ∈ es, c < i) ∧ ((es = [] ∧ H = loI p bs) ∨ (es ≠ [] ∧ ∃ g X, H = loF p bs es g ++ X))

def loH (p : Pl) (bs : List Bool) (es : List Nat) (g : Option Row) (X T Y : Heap) : Heap := loF p bs es g ++ (X ++ (T ++ Y))
theorem loH_get (p : Pl) (bs : List Bool) (es : List Nat) (g : Option Row) (X T Y : Heap) {j : Nat} (hj : j < T.length) : (loH p bs es g X T Y)[X.length + 5 + j]? = T[j]? := by
  unfold loH
  rw [List.getElem?_append_right (by simp [loF]; omega), List.getElem?_append_right (by simp [loF]; omega), List.getElem?_append_left (by simp [loF]; omega)]
  congr 1
  simp [loF]; omega
theorem loH_old (p : Pl) (bs : List Bool) (es : List Nat) (g : Option Row) (X T Y : Heap) {k : Nat} (hk : k < X.length) : (loH p bs es g X T Y)[k + 5]? = X[k]? := by
  unfold loH
  rw [List.getElem?_append_right (by simp [loF]), List.getElem?_append_left (by simp [loF]; exact hk)]
  congr 1
theorem loH_put (p : Pl) (bs : List Bool) (es : List Nat) (g a b c d : Option Row) (X Y : Heap) (y : Row) : Heap.put (loH p bs es g X [a, b, c, d] Y) (X.length + 8) y = loH p bs es g X [a, b, c, some y] Y := by
  rw [put_lt (by simp [loH, loF]; omega)]
  unfold loH
  rw [List.set_append_right _ _ (by simp [loF]), List.set_append_right _ _ (by simp [loF]), List.set_append_left _ _ (by simp [loF])]
  have e : X.length + 8 - (loF p bs es g).length - X.length = 3 := by simp only [loF, List.length_cons, List.length_nil]; omega
  rw [e]; rfl
theorem loH_len (p : Pl) (bs : List Bool) (es : List Nat) (g : Option Row) (X T Y : Heap) : (loH p bs es g X T Y).length = X.length + T.length + Y.length + 5 := by
  simp [loH, loF]; omega
theorem loH_set (p : Pl) (bs : List Bool) (es : List Nat) (g a b c d : Option Row) (X Y : Heap) (y : Option Row) : (loH p bs es g X [a, b, c, d] Y).set (X.length + 8) y = loH p bs es g X [a, b, c, y] Y := by
  unfold loH
  rw [List.set_append_right _ _ (by simp [loF]), List.set_append_right _ _ (by simp [loF]), List.set_append_left _ _ (by simp [loF])]
  have e : X.length + 8 - (loF p bs es g).length - X.length = 3 := by simp only [loF, List.length_cons, List.length_nil]; omega
  rw [e]; rfl
def loT (n m : Nat) : List (Nat × AVal) := [(1, .ptr 0 0 0 1), (3, .ptr 1 0 0 1), (4, .ptr 2 0 0 1), (7, .int .i64 n), (37, .fn (.func n_field_neighbours_1) [] [.ptr (m + 6) 0 0 1, .ptr (m + 5) 0 0 1])]
def loL (n m : Nat) (st : LoopState) (pe : Option ACode) : Row := .loop (tsets 56 (loT n m)) [38, 39] k_field_loose_r18 k_field_loose_r19 (m + 7) st pe
def loR (p : Pl) (c n m : Nat) (st : LoopState) : Heap := [some (.cells false 4 [p.v]), some (.cells false 1 [.int .i64 c]), some .dfr, some (loL n m st none)]

def LoI (p : Pl) (n : Nat) (bs : List Bool) (es : List Nat) (X : Heap) (ms : List Nat) : Prop :=
  n ≤ es.length ∧ es ≠ [] ∧ LoOK p bs es ∧ (∀ m, m < n → ∀ q ∈ nbs p (es.getD m 0), q.1 ∈ es) ∧ ms.Nodup ∧ ∀ q ∈ ms, ∃ k, q = k + 5 ∧ X[k]? = some (some .dfr)

set_option maxHeartbeats 4000000 in
set_option maxRecDepth 8000 in
theorem loose_ok {p : Pl} (hp : PlOK p) : Ans Try.prog n_field_loose [p.v] [] (.bool false) [] := by
  have hw := hp.w; have hh := hp.h
  have hN : p.w * p.h ≤ 256 := Nat.mul_le_mul hw.2 hh.2
  have hlen := hp.len
  refine spec_run e_field_loose fun G => ?_
  simp only [go_sem, Pl.v, Pl.a, Pl.c4, vw, List.length_map]
  have hbs0 : LoOK p (List.replicate 256 false) [] := ⟨by simp, by simp, fun c => by
    rw [List.getD_eq_getElem?_getD, List.getElem?_replicate]; split <;> simp, by simp [List.count_replicate]⟩
  refine loop_ind k_field_loose_r10.eq_1 (fun a : Nat × List Bool × List Nat × Heap => a.1 ≤ p.cs.length ∧ LoA p a.1 a.2.1 a.2.2.1 a.2.2.2) (fun a => p.cs.length - a.1)
    (fun a => (tsets 56 [(1, .ptr 0 0 0 1), (3, .ptr 1 0 0 1), (4, .ptr 2 0 0 1), (10, vw p.cs), (11, .int .i64 p.cs.length), (12, .int .i64 a.1)], a.2.2.2)) (0, List.replicate 256 false, [], loI p (List.replicate 256 false)) ⟨Nat.zero_le _, hbs0, fun c hc => absurd hc (Nat.not_lt_zero _), fun c hc => by simp at hc, .inl ⟨rfl, rfl⟩⟩ (by simp [go_sem, vw]) rfl ?_
  rintro ⟨i, bs, es, H⟩ ⟨hi, hlo, hel, hlt, hH⟩ ih
  dsimp only at hi hlo hel hlt hH ih ⊢
  by_cases h1 : i < p.cs.length
  · have h2 : (i : Int) < p.cs.length := by omega
    have h3 := idx_next h1 (by omega)
    have n0 : ¬ (i : Int) < 0 := by omega
    have hiN : i < p.w * p.h := by rw [← hlen]; exact h1
    have hx := gt_get h1
    by_cases hz : gt p.cs i = 0
    · have hz' : (gt p.cs i != 0) = false := by simp [hz]
      have ihn := ih (i + 1, bs, es, H) (by dsimp only; omega) ⟨h1, hlo, fun c hc hE => by
        by_cases e : c = i
        · subst e; exact absurd hz hE
        · exact hel c (by dsimp only at hc; omega) hE, fun c hc => by have := hlt c hc; dsimp only; omega, hH⟩
      clear ih
      generalize gt p.cs i = z at *
      simp only [go_sem, vw, List.length_map, h2, n0, hx, hz', h3]
      exact ihn _ (by simp [go_sem, vw])
    · have hz' : (gt p.cs i != 0) = true := by simp [hz]
      have hni : i ∉ es := fun h => by have := hlt i h; omega
      have hbi : bs.getD i false = false := by
        cases hb : bs.getD i false with
        | false => rfl
        | true => exact absurd ((hlo.iff i).1 hb) hni
      have hbl : i < bs.length := by rw [hlo.len]; omega
      have hadd := hlo.add hp hiN hbi
      have hset := bv_set hbl
      have q256 : (i : Int) < 256 := by omega
      have q0 : (0 : Int) ≤ i := by omega
      have hle := hlo.le
      have ihn := fun g X => ih (i + 1, bs.set i true, es ++ [i], loF p (bs.set i true) (es ++ [i]) g ++ X) (by dsimp only; omega) ⟨h1, hadd, fun c hc hE => by
        by_cases e : c = i
        · subst e; simp
        · exact List.mem_append_left _ (hel c (by dsimp only at hc; omega) hE), fun c hc => by
          rcases List.mem_append.1 hc with hc | hc
          · have := hlt c hc; dsimp only; omega
          · simp at hc; subst hc; dsimp only; omega, .inr ⟨by simp, g, X, rfl⟩⟩
      clear ih
      simp only [loF, List.length_append, List.length_cons, List.length_nil, Nat.zero_add, List.cons_append, List.nil_append] at ihn
      generalize gt p.cs i = z at *
      have hbl2 : i + 1 ≤ (bv bs).length := by rw [bv_len]; omega
      rcases hH with ⟨rfl, rfl⟩ | ⟨hne, g, X, rfl⟩
      · simp only [go_sem, vw, List.length_map, h2, n0, hx, hz', h3, loI, q256, q0, hset, Int.toNat_natCast, hbl2, Nat.mul_one]
        simp only [List.nil_append, List.length_nil, Nat.zero_add, nv', List.map_cons, List.map_nil] at ihn
        exact ⟨by decide, ihn _ [] _ (by simp [go_sem, vw])⟩
      · simp only [go_sem, vw, List.length_map, h2, n0, hx, hz', h3, loF, q256, q0, hset, Int.toNat_natCast, hbl2, Nat.mul_one, nv_app, nv_len]
        exact ⟨by omega, ihn _ _ _ (by simp [go_sem, vw])⟩
  · have h2 : ¬ (i : Int) < p.cs.length := by omega
    have hie : i = p.w * p.h := by omega
    subst hie
    obtain ⟨e0, he0, hE0⟩ := hp.some
    have hne : es ≠ [] := fun h => by have := hel e0 he0 hE0; rw [h] at this; simp at this
    obtain ⟨g, X, rfl⟩ : ∃ g X, H = loF p bs es g ++ X := by
      rcases hH with ⟨h, _⟩ | ⟨_, h⟩
      · exact absurd h hne
      · exact h
    simp only [go_sem, vw, List.length_map, h2]
    clear ih hH hel hlt
    refine loop_indM k_field_loose_r21.eq_1 (fun a : Nat × List Bool × List Nat × Heap × List Nat => LoI p a.1 a.2.1 a.2.2.1 a.2.2.2.1 a.2.2.2.2) (fun a => 257 - a.1)
      (fun a => (tsets 56 [(1, .ptr 0 0 0 1), (3, .ptr 1 0 0 1), (4, .ptr 2 0 0 1), (7, .int .i64 a.1)], loF p a.2.1 a.2.2.1 g ++ a.2.2.2.1, a.2.2.2.2)) (0, bs, es, X, []) ⟨Nat.zero_le _, hne, hlo, fun m hm => absurd hm (Nat.not_lt_zero _), List.nodup_nil, fun q hq => by simp at hq⟩ (by simp [go_sem]) rfl rfl ?_
    clear hlo hne
    rintro ⟨n, bs, es, X, ms⟩ ⟨hn, hne, hlo, hcl, hms1, hms2⟩ ih
    dsimp only at hn hne hlo hcl hms1 hms2 ih ⊢
    have hle := hlo.le
    by_cases h1 : n < es.length
    · have h2 : (n : Int) < es.length := by omega
      have n0 : ¬ (n : Int) < 0 := by omega
      have hgn := nv_get h1
      have hcm := hlo.mem _ (List.getElem_mem h1)
      generalize hc : es[n] = c at *
      simp only [go_sem, loF, h2, n0, hgn, nv_len, Pl.v, Pl.a, Pl.c4, vw]
      have hdf : ∀ (L : Heap), ∀ q ∈ ms, (loF p bs es g ++ (X ++ L))[q]? = some (some .dfr) := fun L q hq => by
        obtain ⟨k, rfl, hk⟩ := hms2 q hq
        have hkl := (List.getElem?_eq_some_iff.1 hk).1
        have := loH_old p bs es g X [] L hkl
        unfold loH at this
        rw [List.nil_append] at this
        rw [this]; exact hk
      refine cN2 (neighbours_ok p c) ?_ (hms := by have := hdf []; rw [List.append_nil] at this; exact this)
      simp only [go_sem, ren, rens]
      have hl : (loF p bs es g ++ (X ++ [some (Row.cells false 4 [p.v]), some (Row.cells false 1 [.int .i64 c])])).length = X.length + 7 := by simp [loF]
      show Mean Try.prog G 0 none _ _ ⟨_, loF p bs es g ++ (X ++ [some (Row.cells false 4 [p.v]), some (Row.cells false 1 [.int .i64 c])]), ms⟩ _
      refine rangeF 2000 (ρ := tsets 56 (loT n X.length)) (by simp [go_sem, loT]) (by simp only [go_sem, loT]; rfl)
        (R := fun v H' => v = .tup [] ∧ ((∃ bs' es' Y, H' = loH p bs' es' g X (loR p c n X.length .ready) Y ∧ LoOK p bs' es' ∧ (∃ t, es' = es ++ t) ∧ ∀ j, j < (nbs p c).length → ∀ q, (nbs p c)[j]? = some q → q.1 ∈ es') ∨ False)) ?_ (by simp) ?_
      · rw [hl]
        have hheap : loF p bs es g ++ (X ++ [some (.cells false 4 [p.v]), some (.cells false 1 [.int .i64 c])]) ++ [some .dfr] ++ [some (.loop (tsets 56 (loT n X.length)) [38, 39] k_field_loose_r18 k_field_loose_r19 (X.length + 7) .ready none)] = loH p bs es g X (loR p c n X.length .ready) [] := by
          simp [loH, loR, loL]
        rw [hheap]
        refine nbs1_iter hp hcm (r := X.length + 8) (jc := X.length + 6) (jp := X.length + 5) (N := X.length + 9) (Pre := fun k H => ∃ bs' es' Y, H = loH p bs' es' g X (loR p c n X.length .ready) Y ∧ LoOK p bs' es' ∧ (∃ t, es' = es ++ t) ∧ ∀ j, j < k → ∀ q, (nbs p c)[j]? = some q → q.1 ∈ es') (Stop := fun _ => False) ⟨?_, ?_⟩
          ⟨bs, es, [], rfl, hlo, ⟨[], by simp⟩, fun j hj => absurd hj (Nat.not_lt_zero _)⟩ (by rw [loH_len]; simp [loR])
        · rintro k H ⟨bs', es', Y, rfl, -⟩
          exact ⟨by rw [loH_len]; simp [loR], loH_get p bs' es' g X (loR p c n X.length .ready) Y (j := 1) (by simp [loR]), loH_get p bs' es' g X (loR p c n X.length .ready) Y (j := 0) (by simp [loR])⟩
        · rintro k ⟨m, wt⟩ H hq ⟨bs', es', Y, rfl, hlo', ⟨t, ht⟩, hcl'⟩
          obtain ⟨hm, _⟩ := nbs_in p hw.2 hcm _ (List.mem_of_getElem? hq)
          dsimp only at hm ⊢
          have hrow := loH_get p bs' es' g X (loR p c n X.length .ready) Y (j := 3) (by simp [loR])
          have hml : m < bs'.length := by rw [hlo'.len]; omega
          have hgb := bv_get hml
          have q1 : (m : Int) < 256 := by omega
          have q0 : (0 : Int) ≤ m := by omega
          have q2 : m + 1 ≤ (bv bs').length := by rw [bv_len]; omega
          have hset := bv_set hml
          have hle' := hlo'.le
          cases hb : bs'.getD m false with
          | true =>
            refine RoundW.mono (R := fun v H' => v = .bool true ∧ H' = loH p bs' es' g X (loR p c n X.length .ready) Y) ?_ ?_
            rotate_left
            · rintro v H' ⟨rfl, rfl⟩
              refine .inl ⟨rfl, bs', es', Y, rfl, hlo', ⟨t, ht⟩, fun j hj q hjq => ?_⟩
              by_cases e : j = k
              · subst e; rw [hq] at hjq; cases hjq; exact (hlo'.iff m).1 hb
              · exact hcl' j (by omega) q hjq
            generalize hR : (fun (v : AVal) (H' : Heap) => v = .bool true ∧ H' = loH p bs' es' g X (loR p c n X.length .ready) Y) = R
            have hfin : R (.bool true) (loH p bs' es' g X (loR p c n X.length .ready) Y) := by rw [← hR]; exact ⟨rfl, rfl⟩
            clear hR
            rw [hb] at hgb
            refine roundW_run 500 k_field_loose_r18.eq_1 hrow rfl (ρ' := tsets 56 (loT n X.length ++ [(38, .int .i64 (m : Int)), (39, .int .i64 wt)])) rfl ?_
            simp only [go_sem, loT]
            refine roundMid_run 500 k_field_loose_r19.eq_1 hrow (loH_put _ _ _ _ _ _ _ _ _ _ _) ?_
            have hrow2 := fun Z => loH_get p bs' es' g X [some (.cells false 4 [p.v]), some (.cells false 1 [.int .i64 c]), some .dfr, some (loL n X.length .busy none)] Z (j := 3) (by simp)
            simp only [loH, loF] at hrow2 ⊢
            simp only [go_sem, hgb, q0, q1, Nat.mul_one]
            refine roundEnd_on (hrow2 Y) ?_
            show R _ (Heap.put (loH p bs' es' g X [some (.cells false 4 [p.v]), some (.cells false 1 [.int .i64 c]), some .dfr, some (loL n X.length .busy none)] Y) (X.length + 8) (loL n X.length .ready none))
            rw [loH_put]
            exact hfin
          | false =>
            have hadd := hlo'.add hp hm hb
            refine RoundW.mono (R := fun v H' => v = .bool true ∧ ∃ Z, H' = loH p (bs'.set m true) (es' ++ [m]) g X (loR p c n X.length .ready) Z) ?_ ?_
            rotate_left
            · rintro v H' ⟨rfl, Z, rfl⟩
              refine .inl ⟨rfl, _, _, Z, rfl, hadd, ⟨t ++ [m], by rw [ht, List.append_assoc]⟩, fun j hj q hjq => ?_⟩
              by_cases e : j = k
              · subst e; rw [hq] at hjq; cases hjq; simp
              · exact List.mem_append_left _ (hcl' j (by omega) q hjq)
            generalize hR : (fun (v : AVal) (H' : Heap) => v = .bool true ∧ ∃ Z, H' = loH p (bs'.set m true) (es' ++ [m]) g X (loR p c n X.length .ready) Z) = R
            have hfin : ∀ Z, R (.bool true) (loH p (bs'.set m true) (es' ++ [m]) g X (loR p c n X.length .ready) Z) := fun Z => by rw [← hR]; exact ⟨rfl, Z, rfl⟩
            clear hR
            rw [hb] at hgb
            refine roundW_run 500 k_field_loose_r18.eq_1 hrow rfl (ρ' := tsets 56 (loT n X.length ++ [(38, .int .i64 (m : Int)), (39, .int .i64 wt)])) rfl ?_
            simp only [go_sem, loT]
            refine roundMid_run 500 k_field_loose_r19.eq_1 hrow (loH_put _ _ _ _ _ _ _ _ _ _ _) ?_
            have hrow2 := fun Z => loH_get p (bs'.set m true) (es' ++ [m]) g X [some (.cells false 4 [p.v]), some (.cells false 1 [.int .i64 c]), some .dfr, some (loL n X.length .busy none)] Z (j := 3) (by simp)
            have hput := fun Z => loH_put p (bs'.set m true) (es' ++ [m]) g (some (.cells false 4 [p.v])) (some (.cells false 1 [.int .i64 c])) (some .dfr) (some (loL n X.length .busy none)) X Z (loL n X.length .ready none)
            simp only [loH, loF, List.length_append, List.length_cons, List.length_nil, Nat.zero_add] at hrow2 hput hfin ⊢
            simp only [go_sem, hgb, q0, q1, q2, hset, Nat.mul_one, nv_app, nv_len]
            exact ⟨by omega, roundEnd_on (hrow2 _) (Eq.mpr (congrArg (R (.bool true)) (hput (Y ++ [some (.cells false 1 [.int .i64 m])]))) (hfin (Y ++ [some (.cells false 1 [.int .i64 m])])))⟩
      · rintro v H' ⟨rfl, ⟨bs', es', Y, rfl, hlo', ⟨t, ht⟩, hcl'⟩ | h⟩
        · have hle' := hlo'.le
          have hn' : n < es'.length := by rw [ht, List.length_append]; omega
          have h3 := idx_next h1 (by omega)
          rw [hl]
          refine ⟨fun q hq => ?_, _, _, _, _, _, _, _, loH_get p bs' es' g X (loR p c n X.length .ready) Y (j := 3) (by simp [loR]), by decide, ?_⟩
          · rcases List.mem_cons.1 hq with rfl | hq
            · exact loH_get p bs' es' g X (loR p c n X.length .ready) Y (j := 2) (by simp [loR])
            · obtain ⟨k, rfl, hk⟩ := hms2 q hq
              rw [loH_old _ _ _ _ _ _ _ (List.getElem?_eq_some_iff.1 hk).1]; exact hk
          · show Run Try.prog G 0 none 2000 (.out .normal) _ ⟨_, (loH p bs' es' g X (loR p c n X.length .ready) Y).set (X.length + 8) none, _⟩ _
            unfold loR
            rw [loH_set]
            simp only [go_sem, loT, tsets, h3]
            have ihn := ih (n + 1, bs', es', (X ++ (([some (.cells false 4 [p.v]), some (.cells false 1 [.int .i64 c]), some .dfr, none] : Heap) ++ Y) : Heap), (X.length + 7) :: ms) (by dsimp only; omega)
            refine ihn ⟨hn', fun h => by
              have h' : es' = [] := h
              rw [h'] at hn'; simp at hn', hlo', fun m hm q hq => ?_, ?_, fun q hq => ?_⟩ _ (by simp [go_sem])
            · dsimp only at hm hq ⊢
              by_cases e : m = n
              · subst e
                have hcc : es'.getD m 0 = c := by
                  rw [ht, List.getD_eq_getElem?_getD, List.getElem?_append_left h1, List.getElem?_eq_getElem h1, ← hc]; rfl
                rw [hcc] at hq
                obtain ⟨j, hj, rfl⟩ := List.mem_iff_getElem.1 hq
                exact hcl' j hj _ (List.getElem?_eq_getElem hj)
              · have hgd : es'.getD m 0 = es.getD m 0 := by
                  rw [ht, List.getD_eq_getElem?_getD, List.getElem?_append_left (by omega), List.getD_eq_getElem?_getD]
                rw [hgd] at hq
                rw [ht]
                exact List.mem_append_left _ (hcl m (by omega) q hq)
            · refine List.nodup_cons.2 ⟨fun h => ?_, hms1⟩
              obtain ⟨k, hk1, hk2⟩ := hms2 _ h
              have := (List.getElem?_eq_some_iff.1 hk2).1
              omega
            · dsimp only at hq ⊢
              rcases List.mem_cons.1 hq with rfl | hq
              · refine ⟨X.length + 2, rfl, ?_⟩
                rw [List.getElem?_append_right (by omega)]
                simp
              · obtain ⟨k, hk1, hk2⟩ := hms2 q hq
                exact ⟨k, hk1, by rw [List.getElem?_append_left (List.getElem?_eq_some_iff.1 hk2).1]; exact hk2⟩
        · exact h.elim
    · have h2 : ¬ (n : Int) < es.length := by omega
      have hall := grid_conn p (fun c => c ∈ es) (by
        obtain ⟨c, cs, rfl⟩ := List.exists_cons_of_ne_nil hne
        exact ⟨c, hlo.mem c (by simp), by simp⟩) (fun i hi hS q hq => by
        obtain ⟨m, hm, rfl⟩ := List.mem_iff_getElem.1 hS
        refine hcl m (by omega) q ?_
        rw [List.getD_eq_getElem?_getD, List.getElem?_eq_getElem hm]; exact hq)
      have hfull := hlo.full hp hall
      have h3 : ¬ (es.length : Int) < p.cs.length := by omega
      simp only [go_sem, loF, h2, Pl.v, Pl.a, Pl.c4, vw, List.length_map, h3, nv_len]
      exact hms1
end Go.Proofs

namespace Go.Proofs
open Go Go.Sx
attribute [local irreducible] Run

theorem PlOK.max {p : Pl} (hp : PlOK p) : 1 ≤ gmax p.cs ∧ gmax p.cs ≤ 6 ∧ ∀ c ∈ p.cs, c ≤ gmax p.cs := by
  have h1 := (mxL_ge p.cs 0).2
  obtain ⟨i, hi, hE⟩ := hp.some
  have h2 := hp.cell _ (hp.mem hi)
  have h3 := h1 _ (hp.mem hi)
  have h4 : gt p.cs i ≠ 0 := hE
  refine ⟨by unfold gmax; omega, mxL_le _ _ _ (by omega) fun c hc => (hp.cell c hc).2, h1⟩

theorem PlOK.ne {p : Pl} (hp : PlOK p) : p.cs ≠ [] := fun h => by
  have h1 := hp.len
  have h2 := Nat.mul_pos hp.w.1 hp.h.1
  rw [h] at h1
  simp only [List.length_nil] at h1
  omega

theorem Check_ok {p : Pl} (hp : PlOK p) : Ans Try.prog n_field_Check [p.v] [] (.int .i64 0) [] := by
  have hw := hp.w; have hh := hp.h
  have hN : p.w * p.h ≤ 256 := Nat.mul_le_mul hw.2 hh.2
  have hlen := hp.len
  obtain ⟨m1, m2, m3⟩ := hp.max
  have hmx := max_ok (l := p.cs) hp.ne (fun c hc => (hp.cell c hc).1) (by omega)
  have hlo := loose_ok hp
  refine spec_run e_field_Check fun G => ?_
  have e1 : (p.cs.length : Int) = (p.w : Int) * p.h := by rw [hlen]; push_cast; rfl
  have e2 : IntKind.i64.wrap ((p.w : Int) * p.h) = p.cs.length := by rw [← e1]; exact w64 (by omega)
  have e3 : ((p.cs.length : Int) != p.cs.length) = false := by simp
  have e4 : (gmax p.cs == 0) = false := by simp; omega
  simp only [go_sem, Pl.v, Pl.a, Pl.c4, vw]
  refine cP (within_yes (by omega)) ?_
  simp only [go_sem]
  refine cP (within_yes (by omega)) ?_
  simp only [go_sem, List.length_map, e2, e3]
  refine loop_ind k_field_Check_r11.eq_1 (fun a : Nat × Heap => a.1 ≤ p.cs.length) (fun a => p.cs.length - a.1)
    (fun a => (tsets 41 [(1, .ptr 0 0 0 1), (2, .int .i64 0), (25, vw p.cs), (26, .int .i64 p.cs.length), (27, .int .i64 a.1)], some (.cells false 4 [p.v]) :: a.2)) (0, []) (Nat.zero_le _) (by simp [go_sem, vw]) (by simp [Pl.v, Pl.a, Pl.c4, vw]) ?_
  rintro ⟨i, X⟩ hi ih
  dsimp only at hi ih ⊢
  by_cases h1 : i < p.cs.length
  · have h2 : (i : Int) < p.cs.length := by omega
    have h3 := idx_next h1 (by omega)
    have n0 : ¬ (i : Int) < 0 := by omega
    have hx := gt_get h1
    have hb := hp.cell _ (gt_mem h1)
    generalize gt p.cs i = z at *
    simp only [go_sem, vw, List.length_map, h2, n0, hx]
    refine cP (within_yes hb) ?_
    simp only [go_sem, h3]
    exact ih (i + 1, _) (by dsimp only; omega) h1 _ (by simp [go_sem, vw])
  · have h2 : ¬ (i : Int) < p.cs.length := by omega
    simp only [go_sem, vw, List.length_map, h2, Pl.v, Pl.a, Pl.c4]
    refine cP hmx ?_
    simp only [go_sem, e4, Pl.v, Pl.a, Pl.c4, vw]
    refine cP hlo ?_
    simp only [go_sem]

theorem VLen_of {p : Pl} (hp : PlOK p) {v : List Int} (h : (v.length : Int) = gmax p.cs) : VLen p v := fun c hc => by rw [h]; exact hp.max.2.2 c hc

theorem CheckVolts_ok {p : Pl} (hp : PlOK p) {v : List Int} (hv : VOK v) (hvl : (v.length : Int) = gmax p.cs) : Ans Try.prog n_field_CheckVolts [p.v, vw v] [] (.int .i64 0) [] := by
  have hw := hp.w; have hh := hp.h
  have hN : p.w * p.h ≤ 256 := Nat.mul_le_mul hw.2 hh.2
  have hlen := hp.len
  obtain ⟨m1, m2, m3⟩ := hp.max
  have hmx := max_ok (l := p.cs) hp.ne (fun c hc => (hp.cell c hc).1) (by omega)
  have hcn := checkNumbers_ok hv (by omega)
  refine spec_run e_field_CheckVolts fun G => ?_
  have e4 : ((v.length : Int) != gmax p.cs) = false := by simp [hvl]
  simp only [go_sem, Pl.v, Pl.a, Pl.c4, vw]
  refine cP (Check_ok hp) ?_
  simp only [go_sem, List.length_map]
  refine cP hmx ?_
  simp only [go_sem, e4]
  refine cP hcn ?_
  simp only [go_sem]

theorem Solve_ok {p : Pl} (hp : PlOK p) {v : List Int} (hv : VOK v) (hvl : (v.length : Int) = gmax p.cs) {n : Nat} (hn : n ≤ 200) :
    Ans Try.prog n_field_Solve [p.v, vw v, .int .i64 n] [] (.tup [fldV p.cs.length (cnt p v n) (stl p v (cnt p v n)) 0 1, .int .i64 0]) [some (.cells false 1 (iv (lowB p v (cnt p v n)))), some (.cells false 1 (iv (highB p v (cnt p v n))))] := by
  have hs := solve_ok hp hv (VLen_of hp hvl) hn
  refine Ans.keep (run_fn e_field_Solve fun G => ?_) (by simp) (by simp [go_sem, fldV]) ⟨iv_row _ _ _, iv_row _ _ _, trivial⟩
  simp only [go_sem, Pl.v, Pl.a, Pl.c4, vw]
  refine cP (CheckVolts_ok hp hv hvl) ?_
  simp only [go_sem]
  refine cP (checkSweeps_ok (by omega)) ?_
  simp only [go_sem, Pl.v, Pl.a, Pl.c4, vw]
  refine cN2 hs ?_ (hr := by simp [go_sem, fldV]) (hx := iv_row _ _ _) (hy := iv_row _ _ _)
  simp only [go_sem, ren, rens, fldV]
  exact kept_pair 2 3 (by decide) rfl (iv_row _ _ _) (iv_row _ _ _) rfl rfl
end Go.Proofs

namespace Go.Proofs
open Go Go.Sx

section
variable {P : Program} {G : Ctx} {k : Nat} {rd : Option Nat} {fs : List Sx.Frame} {Q : Sx.Goal}
theorem opA_less {ao : AOper} {s s' : St} {K : St → Prop} (hl : Less P G k s s') (h : OpA P G k rd ao s' K) : OpA P G k rd ao s K := fun ops draw i o Q hi hc μ ro a w h1 h2 => by
  obtain ⟨μ', h3, h4⟩ := hl μ a w h2
  exact wpOpIn_mono (fun _ _ ⟨μ'', s'', q1, q2, q3⟩ => ⟨μ'', s'', q1, Mu.leB_trans h4 q2, q3⟩) (h ops draw i o Q hi hc μ' ro a w (h1.mono h4) h3)
theorem areg_cut (n : Nat) {l1 l2 : List AOper} {s : St} {K : St → Prop} (h : Sx.Run P G k rd n (.ops l1) [] s (fun _ s' => Areg P G k rd l2 s' K)) : Areg P G k rd (l1 ++ l2) s K := by
  have h1 : Areg P G k rd l1 s (fun s' => Areg P G k rd l2 s' K) := run_mean n _ _ _ _ h
  clear h
  induction l1 generalizing s with
  | nil => exact h1
  | cons a l ih => exact OpA.mono (fun s' hs => ih hs) h1
theorem areg_wk {ao : AOper} {l : List AOper} {ρ ρ' : List AVal} {H : Heap} {ms : List Nat} {K : St → Prop} (hw : Wk ρ ρ') (h : Areg P G k rd (ao :: l) ⟨ρ', H, ms⟩ K) : Areg P G k rd (ao :: l) ⟨ρ, H, ms⟩ K := opA_less (less_wk hw) h
theorem areg_last (n : Nat) {l : List AOper} {s : St} (h : Sx.Run P G k rd n (.ops l) fs s Q) : Areg P G k rd l s (Sx.Fin P G k rd fs Q .normal) := run_mean n _ _ _ _ h
theorem run0_ops {l : List AOper} {s : St} (h : Areg P G k rd l s (Sx.Fin P G k rd fs Q .normal)) : Sx.Run P G k rd 0 (.ops l) fs s Q := h
end
attribute [local irreducible] Run

theorem Greatest_ok {p : Pl} (hlen : p.cs.length ≤ 1000000) : Ans Try.prog n_kit_Greatest [p.v] [] (.int .i64 (gmax p.cs)) [] := by
  generalize hRES : gmax p.cs = RES
  refine spec_run e_kit_Greatest fun G => ?_
  simp only [go_sem, Pl.v, Pl.a, Pl.c4, vw]
  refine loop_ind k_kit_Greatest_r6.eq_1 (fun a : Nat × Int × Heap => a.1 ≤ p.cs.length ∧ mxL a.2.1 (p.cs.drop a.1) = RES) (fun a => p.cs.length - a.1)
    (fun a => (tsets 20 [(1, .ptr 0 0 0 1), (3, .int .i64 a.2.1), (4, .int .i64 a.1)], some (.cells false 4 [p.v]) :: a.2.2)) (0, 0, []) ⟨Nat.zero_le _, hRES⟩ (by simp [go_sem]) (by simp [Pl.v, Pl.a, Pl.c4, vw]) ?_
  rintro ⟨i, m, X⟩ ⟨hi, hm⟩ ih
  dsimp only at hi hm ih ⊢
  by_cases h1 : i < p.cs.length
  · have h2 : (i : Int) < p.cs.length := by omega
    have h3 := idx_next h1 (by omega)
    have n0 : ¬ (i : Int) < 0 := by omega
    have hx := gt_get h1
    rw [drop_step h1, mxL] at hm
    generalize gt p.cs i = z at *
    simp only [go_sem, Pl.v, Pl.a, Pl.c4, vw, List.length_map, h2, n0, hx, h3]
    exact ih (i + 1, _, _) (by dsimp only; omega) ⟨h1, hm⟩ _ (by simp [go_sem]; rfl)
  · have h2 : ¬ (i : Int) < p.cs.length := by omega
    rw [drop_end (by omega)] at hm
    simp only [go_sem, Pl.v, Pl.a, Pl.c4, vw, List.length_map, h2]
    rw [← hm]; rfl

theorem One_ok (w n : Int) (hn : 1 ≤ n ∧ n ≤ 1000000) : Ans Try.prog n_kit_Dice_One [.ptr 0 0 0 1, .int .i64 n] [some (Dr w)] (.bool (upto w n == 0)) [some (Dr (dstep w))] := by
  refine spec_run e_kit_Dice_One fun G => ?_
  simp only [go_sem]
  refine cD (upto_ok w n (by omega)) ?_
  simp only [go_sem]
  exact ⟨_, rfl⟩

def VolsOf (p : Pl) (v : List Int) : Prop := (v.length : Int) = min 8 (gmax p.cs) ∧ VOK v

set_option maxHeartbeats 2000000 in
theorem VoltsOf_ok (w : Int) {p : Pl} (hlen : p.cs.length ≤ 1000000) (h0 : 0 ≤ gmax p.cs) (g : Bool) : AnsE Try.prog n_kit_VoltsOf [.ptr 0 0 0 1, p.a (.sl 1 0 p.cs.length)] [some (Dr w), some (.cells g 1 (iv p.cs))] (fun a : Int × List Int => VolsOf p a.2) (fun a => .sl 2 0 a.2.length)
    (fun a => [some (Dr a.1), some (.cells g 1 (iv p.cs)), some (.cells false 1 (iv a.2))]) := by
  refine AnsE.keep (run_fn e_kit_VoltsOf fun G => ?_) (fun a ha => ⟨by simp, by simp [go_sem], by simp only [go_sem], iv_row _ _ _, iv_row _ _ _, trivial⟩)
  have hG := Greatest_ok hlen
  generalize hgm : gmax p.cs = m at *
  generalize hk : (min 8 m).toNat = k
  have hkm : min 8 m = (k : Int) := by omega
  have hmm : (if m < 8 then m else 8) = (k : Int) := by rw [← hkm]; split <;> omega
  have hk8 : k ≤ 8 := by omega
  simp only [go_sem, Pl.a, Pl.c4]
  refine cF hG 6 ⟨.inl (pla_frz 3 (j := 1) (g := g) (p := p) rfl rfl), trivial⟩ ?_
  have q1 : (0 : Int) ≤ k := by omega
  have q2 : (k : Int) ≤ 2 ^ 44 := by omega
  have q3 : (k : Int) * 8 ≤ 2 ^ 44 := by omega
  simp only [go_sem, hmm, q1, q2, q3, Int.toNat_natCast]
  refine ⟨Int.le_refl _, ?_⟩
  refine loop_ind k_kit_VoltsOf_r6.eq_1 (fun a : Nat × Int × List Int × Heap => a.1 ≤ k ∧ a.2.2.1.length = k ∧ VOK a.2.2.1) (fun a => k - a.1)
    (fun a => (tsets 30 [(0, .ptr 0 0 0 1), (5, .sl 3 0 k), (6, .int .i64 a.1)], some (Dr a.2.1) :: some (.cells g 1 (iv p.cs)) :: some (.cells false 4 [p.a (.sl 1 0 p.cs.length)]) :: some (.cells false 1 (iv a.2.2.1)) :: a.2.2.2)) (0, w, List.replicate k 0, []) ⟨Nat.zero_le _, by simp, fun x hx => by rw [List.mem_replicate] at hx; omega⟩ (by simp [go_sem]) (by simp [Pl.a, Pl.c4, iv]) ?_
  rintro ⟨i, w, l, X⟩ ⟨hi, hl, hv⟩ ih
  dsimp only at hi hl hv ih ⊢
  by_cases h1 : i < k
  · have h2 : (i : Int) < k := by omega
    have h3 := idx_next h1 (by omega)
    have n0 : ¬ (i : Int) < 0 := by omega
    have b1 := btw_in (w := w) (show (-100 : Int) ≤ 100 by omega)
    have b2 := btw_in (w := dstep w) (show (-1000000 : Int) ≤ 1000000 by omega)
    have b3 := upto_in (w := dstep (dstep w)) (n := 4) (by omega)
    have t1 := between_ok w (-100) 100 (by omega) (by omega) (by omega)
    have t2 := between_ok (dstep w) (-1000000) 1000000 (by omega) (by omega) (by omega)
    have t3 := upto_ok (dstep (dstep w)) 4 (by omega)
    generalize btw w (-100) 100 = va at *
    generalize btw (dstep w) (-1000000) 1000000 = vb at *
    generalize upto (dstep (dstep w)) 4 = u at *
    obtain ⟨x, hx, hxb⟩ : ∃ x : Int, [AVal.int .i64 0, .int .i64 va, .int .i64 vb, .int .i64 1000000][u.toNat]? = some (.int .i64 x) ∧ -1000000 ≤ x ∧ x ≤ 1000000 := by
      have hu : u.toNat = 0 ∨ u.toNat = 1 ∨ u.toNat = 2 ∨ u.toNat = 3 := by omega
      rcases hu with h | h | h | h <;> rw [h]
      · exact ⟨0, rfl, by omega⟩
      · exact ⟨va, rfl, by omega⟩
      · exact ⟨vb, rfl, by omega⟩
      · exact ⟨1000000, rfl, by omega⟩
    have u1 : ¬ u < 0 := by omega
    have u2 : u < 4 := by omega
    have hgi := iv_get (l := l) (i := i) (by omega)
    have ihn := fun X => ih (i + 1, dstep (dstep (dstep w)), l.set i x, X) (by dsimp only; omega) ⟨h1, by simpa using hl, fun y hy => by
      rcases List.mem_or_eq_of_mem_set hy with h | h
      · exact hv y h
      · subst h; exact hxb⟩
    clear ih
    simp only [go_sem, h2]
    refine cD t1 ?_
    simp only [go_sem]
    refine cD t2 ?_
    simp only [go_sem]
    refine cD t3 ?_
    simp only [go_sem, u1, u2, hx, n0, h2, hgi, iv_set, h3]
    exact ihn _ _ (by simp [go_sem])
  · have h2 : ¬ (i : Int) < k := by omega
    simp only [go_sem, h2]
    refine ⟨(w, l), ⟨by rw [hgm, hl, ← hkm], hv⟩, ?_⟩
    refine kept_new (A := [some (Dr w), some (.cells g 1 (iv p.cs))]) 2 3 rfl rfl (by omega) (by rw [hl]; rfl) (fun i x hx => ?_) (iv_row _ _ _) rfl
    match i, hx with
    | 0, hx => simp at hx; subst hx; exact ⟨dr_bel _ _, rfl⟩
    | 1, hx => simp at hx; subst hx; exact ⟨iv_row _ _ _, rfl⟩
end Go.Proofs

namespace Go.Proofs
open Go Go.Sx
attribute [local irreducible] Run

theorem areg_wk' {P : Program} {G : Ctx} {k : Nat} {rd : Option Nat} {l : List AOper} {ρ ρ' : List AVal} {H : Heap} {ms : List Nat} {K : St → Prop} (hl : l ≠ []) (hw : Wk ρ ρ') (h : Areg P G k rd l ⟨ρ', H, ms⟩ K) : Areg P G k rd l ⟨ρ, H, ms⟩ K := by
  cases l with
  | nil => exact absurd rfl hl
  | cons a l => exact areg_wk hw h

def opA0 : List AOper := k_kit_Opened_r7.take 14
def opA1 : List AOper := (k_kit_Opened_r7.drop 14).take 11
def opA2 : List AOper := (k_kit_Opened_r7.drop 25).take 14
def opA3 : List AOper := (k_kit_Opened_r7.drop 39).take 15
def opA4 : List AOper := (k_kit_Opened_r7.drop 54).take 19
def opA5 : List AOper := k_kit_Opened_r7.drop 73
theorem opA_eq : k_kit_Opened_r7 = opA0 ++ (opA1 ++ (opA2 ++ (opA3 ++ (opA4 ++ opA5)))) := rfl

def opB (n i x : Nat) (rd : Int) : List (Nat × AVal) := [(1, .ptr 1 0 0 1), (2, .ptr 2 0 0 1), (3, .sl 3 0 n), (4, .int .i64 rd), (5, .int .i64 i), (6, .int .i64 x)]
def opC (n i x : Nat) (rd : Int) (t : Nat) (b : Bool) : List AVal := tsets 121 (opB n i x rd ++ [(30, .sl 3 0 n), (31, .int .i64 i), (t, .bool b)])
def opH (p : Pl) (g : Bool) (bs : List Bool) : Heap := [some (.cells g 1 (iv p.cs)), some (.cells false 4 [p.a (.sl 0 0 p.cs.length)]), some (.cells false 4 [.agg [.int .i64 0, .int .i64 0, .bool false, .nilsl]]), some (.cells false 1 (bv bs))]

section
variable {G : Ctx} {k : Nat} {p : Pl} (hlen : p.cs.length = p.w * p.h) (hn : p.cs.length ≤ 1000000) {g : Bool} {bs : List Bool} (hb : bs.length = p.cs.length) {i : Nat} (hi : i < p.cs.length) {rd : Int} {K : St → Prop} {R : List AOper}
include hlen hn hb hi

omit hn in
theorem op_0 (h : ∀ b, Areg Try.prog G k none (opA1 ++ R) ⟨opC p.cs.length i (i % p.w) rd 43 b, opH p g bs, []⟩ K) :
    Areg Try.prog G k none (opA0 ++ (opA1 ++ R)) ⟨tsets 121 (opB p.cs.length i (i % p.w) rd), opH p g bs, []⟩ K := by
  refine areg_cut 200 ?_
  have h2 : (i : Int) < p.cs.length := by omega
  have n0 : ¬ (i : Int) < 0 := by omega
  have hg := bv_get (bs := bs) (c := i) (by omega)
  have hc := iv_get (l := p.cs) hi
  have fin : ∀ b ρ', Wk ρ' (opC p.cs.length i (i % p.w) rd 43 b) → Areg Try.prog G k none (opA1 ++ R) ⟨ρ', opH p g bs, []⟩ K := fun b ρ' hw => areg_wk' (List.cons_ne_nil _ _) hw (h b)
  clear h
  generalize bs.getD i false = b0 at *
  generalize gt p.cs i = z at *
  generalize opA1 ++ R = L at *
  cases b0 with
  | true =>
    simp only [opA0, k_kit_Opened_r7, List.take_succ_cons, List.take_zero, opB, opH, go_sem, h2, n0, hg]
    exact fin _ _ (by simp [opC, opB, go_sem] <;> rfl)
  | false =>
    simp only [opA0, k_kit_Opened_r7, List.take_succ_cons, List.take_zero, opB, opH, go_sem, h2, n0, hg, hc, Pl.a, Pl.c4, iv_len]
    exact fin _ _ (by simp [opC, opB, go_sem] <;> rfl)

theorem op_1 {b : Bool} (h : ∀ b', Areg Try.prog G k none (opA2 ++ R) ⟨opC p.cs.length i (i % p.w) rd 54 b', opH p g bs, []⟩ K) :
    Areg Try.prog G k none (opA1 ++ (opA2 ++ R)) ⟨opC p.cs.length i (i % p.w) rd 43 b, opH p g bs, []⟩ K := by
  refine areg_cut 200 ?_
  have fin : ∀ b' ρ', Wk ρ' (opC p.cs.length i (i % p.w) rd 54 b') → Areg Try.prog G k none (opA2 ++ R) ⟨ρ', opH p g bs, []⟩ K := fun b' ρ' hw => areg_wk' (List.cons_ne_nil _ _) hw (h b')
  clear h
  generalize opA2 ++ R = L at *
  cases b with
  | true =>
    simp only [opA1, k_kit_Opened_r7, List.take_succ_cons, List.take_zero, List.drop_succ_cons, List.drop_zero, opC, List.cons_append, List.nil_append, opB, opH, go_sem]
    exact fin _ _ (by simp [opC, opB, go_sem] <;> rfl)
  | false =>
    by_cases hc : 0 < i % p.w
    · have h1 : (0 : Int) < ((i % p.w : Nat) : Int) := by omega
      have hle := Nat.mod_le i p.w
      have e1 : IntKind.i64.wrap ((i : Int) - 1) = ((i - 1 : Nat) : Int) := by rw [w64 (by omega)]; omega
      have n0 : ¬ ((i - 1 : Nat) : Int) < 0 := by omega
      have h2 : ((i - 1 : Nat) : Int) < p.cs.length := by omega
      have hg := bv_get (bs := bs) (c := i - 1) (by omega)
      simp only [opA1, k_kit_Opened_r7, List.take_succ_cons, List.take_zero, List.drop_succ_cons, List.drop_zero, opC, List.cons_append, List.nil_append, opB, opH, go_sem, Pl.a, Pl.c4, iv_len, h1, e1, n0, h2, hg]
      exact fin _ _ (by simp [opC, opB, go_sem] <;> rfl)
    · have h1 : ¬ (0 : Int) < ((i % p.w : Nat) : Int) := by omega
      simp only [opA1, k_kit_Opened_r7, List.take_succ_cons, List.take_zero, List.drop_succ_cons, List.drop_zero, opC, List.cons_append, List.nil_append, opB, opH, go_sem, Pl.a, Pl.c4, iv_len, h1]
      exact fin _ _ (by simp [opC, opB, go_sem] <;> rfl)

theorem op_2 {b : Bool} (h : ∀ b', Areg Try.prog G k none (opA3 ++ R) ⟨opC p.cs.length i (i % p.w) rd 68 b', opH p g bs, []⟩ K) :
    Areg Try.prog G k none (opA2 ++ (opA3 ++ R)) ⟨opC p.cs.length i (i % p.w) rd 54 b, opH p g bs, []⟩ K := by
  refine areg_cut 200 ?_
  have fin : ∀ b' ρ', Wk ρ' (opC p.cs.length i (i % p.w) rd 68 b') → Areg Try.prog G k none (opA3 ++ R) ⟨ρ', opH p g bs, []⟩ K := fun b' ρ' hw => areg_wk' (List.cons_ne_nil _ _) hw (h b')
  clear h
  generalize opA3 ++ R = L at *
  have hw0 : 0 < p.w := by
    rcases Nat.eq_zero_or_pos p.w with h0 | h0
    · rw [h0, Nat.zero_mul] at hlen; omega
    · exact h0
  have hwn : p.w ≤ 1000000 := by
    have h1 : p.w * 1 ≤ p.w * p.h := Nat.mul_le_mul_left _ (by
      rcases Nat.eq_zero_or_pos p.h with h0 | h0
      · rw [h0, Nat.mul_zero] at hlen; omega
      · exact h0)
    omega
  have e0 : IntKind.i64.wrap ((p.w : Int) - 1) = ((p.w - 1 : Nat) : Int) := by rw [w64 (by omega)]; omega
  cases b with
  | true =>
    simp only [opA2, k_kit_Opened_r7, List.take_succ_cons, List.take_zero, List.drop_succ_cons, List.drop_zero, opC, List.cons_append, List.nil_append, opB, opH, go_sem]
    exact fin _ _ (by simp [opC, opB, go_sem] <;> rfl)
  | false =>
    by_cases hc : i % p.w + 1 < p.w
    · have h1 : ((i % p.w : Nat) : Int) < ((p.w - 1 : Nat) : Int) := by omega
      have hi1 : i + 1 < p.cs.length := by
        rw [hlen]
        obtain ⟨k1, k2, k3⟩ := cell_lt (w := p.w) (h := p.h) (i := i) (by omega)
        have := cell_in (w := p.w) (h := p.h) hc k2
        omega
      have e1 : IntKind.i64.wrap ((i : Int) + 1) = ((i + 1 : Nat) : Int) := by rw [w64 (by omega)]; rfl
      have n0 : ¬ ((i + 1 : Nat) : Int) < 0 := by omega
      have h2 : ((i + 1 : Nat) : Int) < p.cs.length := by omega
      have hg := bv_get (bs := bs) (c := i + 1) (by omega)
      simp only [opA2, k_kit_Opened_r7, List.take_succ_cons, List.take_zero, List.drop_succ_cons, List.drop_zero, opC, List.cons_append, List.nil_append, opB, opH, go_sem, Pl.a, Pl.c4, iv_len, h1, e0, e1, n0, h2, hg]
      exact fin _ _ (by simp [opC, opB, go_sem] <;> rfl)
    · have h1 : ¬ ((i % p.w : Nat) : Int) < ((p.w - 1 : Nat) : Int) := by omega
      simp only [opA2, k_kit_Opened_r7, List.take_succ_cons, List.take_zero, List.drop_succ_cons, List.drop_zero, opC, List.cons_append, List.nil_append, opB, opH, go_sem, Pl.a, Pl.c4, iv_len, h1, e0]
      exact fin _ _ (by simp [opC, opB, go_sem] <;> rfl)

theorem op_3 {b : Bool} (h : ∀ b', Areg Try.prog G k none (opA4 ++ R) ⟨opC p.cs.length i (i % p.w) rd 83 b', opH p g bs, []⟩ K) :
    Areg Try.prog G k none (opA3 ++ (opA4 ++ R)) ⟨opC p.cs.length i (i % p.w) rd 68 b, opH p g bs, []⟩ K := by
  refine areg_cut 200 ?_
  have fin : ∀ b' ρ', Wk ρ' (opC p.cs.length i (i % p.w) rd 83 b') → Areg Try.prog G k none (opA4 ++ R) ⟨ρ', opH p g bs, []⟩ K := fun b' ρ' hw => areg_wk' (List.cons_ne_nil _ _) hw (h b')
  clear h
  generalize opA4 ++ R = L at *
  cases b with
  | true =>
    simp only [opA3, k_kit_Opened_r7, List.take_succ_cons, List.take_zero, List.drop_succ_cons, List.drop_zero, opC, List.cons_append, List.nil_append, opB, opH, go_sem]
    exact fin _ _ (by simp [opC, opB, go_sem] <;> rfl)
  | false =>
    by_cases hc : p.w ≤ i
    · have h1 : (p.w : Int) ≤ i := by omega
      have e1 : IntKind.i64.wrap ((i : Int) - p.w) = ((i - p.w : Nat) : Int) := by rw [w64 (by omega)]; omega
      have n0 : ¬ ((i - p.w : Nat) : Int) < 0 := by omega
      have h2 : ((i - p.w : Nat) : Int) < p.cs.length := by omega
      have hg := bv_get (bs := bs) (c := i - p.w) (by omega)
      simp only [opA3, k_kit_Opened_r7, List.take_succ_cons, List.take_zero, List.drop_succ_cons, List.drop_zero, opC, List.cons_append, List.nil_append, opB, opH, go_sem, Pl.a, Pl.c4, iv_len, h1, e1, n0, h2, hg]
      exact fin _ _ (by simp [opC, opB, go_sem] <;> rfl)
    · have h1 : ¬ (p.w : Int) ≤ i := by omega
      simp only [opA3, k_kit_Opened_r7, List.take_succ_cons, List.take_zero, List.drop_succ_cons, List.drop_zero, opC, List.cons_append, List.nil_append, opB, opH, go_sem, Pl.a, Pl.c4, iv_len, h1]
      exact fin _ _ (by simp [opC, opB, go_sem] <;> rfl)

theorem op_4 {b : Bool} (h : ∀ b', Areg Try.prog G k none (opA5 ++ R) ⟨opC p.cs.length i (i % p.w) rd 102 b', opH p g bs, []⟩ K) :
    Areg Try.prog G k none (opA4 ++ (opA5 ++ R)) ⟨opC p.cs.length i (i % p.w) rd 83 b, opH p g bs, []⟩ K := by
  refine areg_cut 200 ?_
  have fin : ∀ b' ρ', Wk ρ' (opC p.cs.length i (i % p.w) rd 102 b') → Areg Try.prog G k none (opA5 ++ R) ⟨ρ', opH p g bs, []⟩ K := fun b' ρ' hw => areg_wk' (List.cons_ne_nil _ _) hw (h b')
  clear h
  generalize opA5 ++ R = L at *
  have hwn : p.w ≤ 1000000 := by
    have h1 : p.w * 1 ≤ p.w * p.h := Nat.mul_le_mul_left _ (by
      rcases Nat.eq_zero_or_pos p.h with h0 | h0
      · rw [h0, Nat.mul_zero] at hlen; omega
      · exact h0)
    omega
  have e1 : IntKind.i64.wrap ((i : Int) + p.w) = ((i + p.w : Nat) : Int) := by rw [w64 (by omega)]; omega
  cases b with
  | true =>
    simp only [opA4, k_kit_Opened_r7, List.take_succ_cons, List.take_zero, List.drop_succ_cons, List.drop_zero, opC, List.cons_append, List.nil_append, opB, opH, go_sem]
    exact fin _ _ (by simp [opC, opB, go_sem] <;> rfl)
  | false =>
    by_cases hc : i + p.w < p.cs.length
    · have h1 : ((i + p.w : Nat) : Int) < p.cs.length := by omega
      have n0 : ¬ ((i + p.w : Nat) : Int) < 0 := by omega
      have hg := bv_get (bs := bs) (c := i + p.w) (by omega)
      simp only [opA4, k_kit_Opened_r7, List.take_succ_cons, List.take_zero, List.drop_succ_cons, List.drop_zero, opC, List.cons_append, List.nil_append, opB, opH, go_sem, Pl.a, Pl.c4, iv_len, h1, e1, n0, hg]
      exact fin _ _ (by simp [opC, opB, go_sem] <;> rfl)
    · have h1 : ¬ ((i + p.w : Nat) : Int) < p.cs.length := by omega
      simp only [opA4, k_kit_Opened_r7, List.take_succ_cons, List.take_zero, List.drop_succ_cons, List.drop_zero, opC, List.cons_append, List.nil_append, opB, opH, go_sem, Pl.a, Pl.c4, iv_len, h1, e1]
      exact fin _ _ (by simp [opC, opB, go_sem] <;> rfl)

theorem op_all (h : ∀ b, Areg Try.prog G k none opA5 ⟨opC p.cs.length i (i % p.w) rd 102 b, opH p g bs, []⟩ K) : Areg Try.prog G k none k_kit_Opened_r7 ⟨tsets 121 (opB p.cs.length i (i % p.w) rd), opH p g bs, []⟩ K := by
  rw [opA_eq]
  refine op_0 hlen hb hi fun b => ?_
  refine op_1 hlen hn hb hi fun b => ?_
  refine op_2 hlen hn hb hi fun b => ?_
  refine op_3 hlen hn hb hi fun b => ?_
  have := op_4 (R := []) hlen hn hb hi (K := K) (G := G) (k := k) (g := g) (rd := rd) (b := b) fun b => by rw [List.append_nil]; exact h b
  rwa [List.append_nil] at this
end

section
variable {P : Program} {G : Ctx} {k : Nat} {rd : Option Nat} {fs : List Sx.Frame} {ms : List Nat} {Q : Sx.Goal}
theorem loop_indN (n : Nat) {α : Type} {c c' : ACode} (hc : c = c') (Inv : α → Prop) (μ : α → Nat) (st : α → List AVal × Heap) {ρ : List AVal} {H : Heap} (a0 : α) (h0 : Inv a0) (hw : Wk ρ (st a0).1) (hH : H = (st a0).2)
    (step : ∀ a, Inv a → (∀ b, μ b < μ a → Inv b → ∀ ρ', Wk ρ' (st b).1 → Sx.Loop P G k rd c fs ⟨ρ', (st b).2, ms⟩ Q) → Run P G k rd n (.code c') (.rnd c :: fs) ⟨(st a).1, (st a).2, ms⟩ Q) : Sx.Loop P G k rd c fs ⟨ρ, H, ms⟩ Q := by
  have key : ∀ (m : Nat) (a : α), μ a = m → Inv a → ∀ ρ', Wk ρ' (st a).1 → Sx.Loop P G k rd c fs ⟨ρ', (st a).2, ms⟩ Q := by
    intro m
    induction m using Nat.strongRecOn with
    | ind m ih =>
      intro a ha hi ρ' hw
      exact loop_wk hw (loop_body n hc (step a hi fun b hb hib ρ'' hw'' => ih (μ b) (by omega) b rfl hib ρ'' hw''))
  subst hH
  exact key _ a0 rfl h0 ρ hw
end

def Opd (cs l : List Int) : Prop := l.length = cs.length ∧ ∀ i, i < cs.length → gt l i = gt cs i ∨ gt l i = 1

set_option maxHeartbeats 4000000 in
theorem Opened_ok {p : Pl} (hlen : p.cs.length = p.w * p.h) (hn : p.cs.length ≤ 1000000) (hw : 1 ≤ p.w) (g : Bool) : AnsE Try.prog n_kit_Opened [p.a (.sl 0 0 p.cs.length)] [some (.cells g 1 (iv p.cs))] (Opd p.cs) (fun _ => p.a (.sl 0 0 p.cs.length)) (fun l => [some (.cells g 1 (iv l))]) := by
  refine AnsE.keep (run_fn e_kit_Opened fun G => ?_) (fun a ha => ⟨by simp, by simp [go_sem, Pl.a, Pl.c4], iv_row _ _ _, trivial⟩)
  have q1 : (0 : Int) ≤ p.cs.length := by omega
  have q2 : (p.cs.length : Int) ≤ 2 ^ 44 := by omega
  have q3 : (p.cs.length : Int) * 1 ≤ 2 ^ 44 := by omega
  simp only [go_sem, Pl.a, Pl.c4, iv_len, q1, q2, q3, Int.toNat_natCast]
  refine ⟨Int.le_refl _, ?_⟩
  have hrep : List.replicate p.cs.length (AVal.bool false) = bv (List.replicate p.cs.length false) := by simp [bv]
  rw [hrep]
  have hOpd0 : Opd p.cs p.cs := ⟨rfl, fun i _ => .inl rfl⟩
  refine loop_ind k_kit_Opened_r11.eq_1 (fun a : Nat × List Bool => a.1 ≤ p.cs.length ∧ a.2.length = p.cs.length) (fun a => p.cs.length - a.1)
    (fun a => (tsets 121 [(1, .ptr 1 0 0 1), (2, .ptr 2 0 0 1), (3, .sl 3 0 p.cs.length), (4, .int .i64 a.1)], opH p g a.2)) (0, List.replicate p.cs.length false) ⟨Nat.zero_le _, by simp⟩ (by simp [go_sem]) rfl ?_
  rintro ⟨r, bs⟩ ⟨hr, hbs⟩ ih
  dsimp only at hr hbs ih ⊢
  by_cases h1 : r < p.cs.length
  · have h2 : (r : Int) < p.cs.length := by omega
    have h3 := idx_next h1 (by omega)
    simp only [opH, go_sem, Pl.a, Pl.c4, iv_len, h2]
    refine loop_indN 25 k_kit_Opened_r9.eq_1 (fun a : Nat × List Bool => a.1 ≤ p.cs.length ∧ a.2.length = p.cs.length) (fun a => p.cs.length - a.1)
      (fun a => (tsets 121 [(1, .ptr 1 0 0 1), (2, .ptr 2 0 0 1), (3, .sl 3 0 p.cs.length), (4, .int .i64 r), (5, .int .i64 a.1)], opH p g a.2)) (0, bs) ⟨Nat.zero_le _, hbs⟩ (by simp [go_sem]) rfl ?_
    rintro ⟨i, bs⟩ ⟨hi, hbs⟩ ih2
    dsimp only at hi hbs ih2 ⊢
    by_cases h4 : i < p.cs.length
    · have h5 : (i : Int) < p.cs.length := by omega
      have h6 := idx_next h4 (by omega)
      have hwz : ((p.w : Int) = 0) = False := eq_false (by omega)
      have e1 := nat_rem i p.w
      have ihn := fun b => ih2 (i + 1, bs.set i b) (by dsimp only; omega) ⟨h4, by simpa using hbs⟩
      clear ih2
      have hgb := bv_get (bs := bs) (c := i) (by omega)
      have hbset : ∀ b, (bv bs).set i (.bool b) = bv (bs.set i b) := fun b => by simp [bv, List.map_set]
      have n0 : ¬ (i : Int) < 0 := by omega
      simp only [opH, go_sem, Pl.a, Pl.c4, iv_len, h5, hwz, e1]
      refine run0_ops ?_
      show Areg Try.prog G 1 none k_kit_Opened_r7 ⟨_, opH p g bs, []⟩ _
      refine areg_wk' (List.cons_ne_nil _ _) (ρ' := tsets 121 (opB p.cs.length i (i % p.w) r)) (by simp [go_sem, opB]) ?_
      refine op_all hlen hn hbs h4 fun b => ?_
      refine areg_last 3000 ?_
      simp only [opA5, k_kit_Opened_r7, List.drop_succ_cons, List.drop_zero, opC, opB, opH, List.cons_append, List.nil_append, go_sem, h5, n0, hgb, hbset, bv_len, h6]
      exact ihn b _ (by simp [go_sem])
    · have h5 : ¬ (i : Int) < p.cs.length := by omega
      simp only [opH, go_sem, Pl.a, Pl.c4, iv_len, h5, h3]
      exact ih (r + 1, bs) (by dsimp only; omega) ⟨h1, hbs⟩ _ (by simp [go_sem])
  · have h2 : ¬ (r : Int) < p.cs.length := by omega
    simp only [opH, go_sem, Pl.a, Pl.c4, iv_len, h2]
    clear ih
    refine loop_ind k_kit_Opened_r17.eq_1 (fun a : Nat × List Int => a.1 ≤ p.cs.length ∧ Opd p.cs a.2) (fun a => p.cs.length - a.1)
      (fun a => (tsets 121 [(1, .ptr 1 0 0 1), (2, .ptr 2 0 0 1), (3, .sl 3 0 p.cs.length), (7, .int .i64 a.1)], [some (.cells g 1 (iv a.2)), some (.cells false 4 [p.a (.sl 0 0 p.cs.length)]), some (.cells false 4 [.agg [.int .i64 0, .int .i64 0, .bool false, .nilsl]]), some (.cells false 1 (bv bs))])) (0, p.cs) ⟨Nat.zero_le _, hOpd0⟩ (by simp [go_sem]) rfl ?_
    rintro ⟨i, l⟩ ⟨hi, hl⟩ ih
    dsimp only at hi hl ih ⊢
    by_cases h4 : i < p.cs.length
    · have h5 : (i : Int) < p.cs.length := by omega
      have h6 := idx_next h4 (by omega)
      have n0 : ¬ (i : Int) < 0 := by omega
      have hgb := bv_get (bs := bs) (c := i) (by omega)
      have hgl := iv_get (l := l) (i := i) (by rw [hl.1]; exact h4)
      have hl1 := hl.1
      have ihn := fun l' h => ih (i + 1, l') (by dsimp only; omega) ⟨h4, h⟩
      clear ih
      generalize bs.getD i false = b at *
      cases b with
      | true =>
        simp only [go_sem, Pl.a, Pl.c4, iv_len, hl1, h5, n0, hgb, h6]
        exact ihn l hl _ (by simp [go_sem])
      | false =>
        simp only [go_sem, Pl.a, Pl.c4, iv_len, hl1, h5, n0, hgb, hgl, iv_set, h6]
        refine ihn (l.set i 1) ⟨by rw [List.length_set]; exact hl1, fun j hj => ?_⟩ _ (by simp [go_sem])
        rw [gt_set _ _ _ _ (by rw [hl1]; exact h4)]
        split
        · exact .inr rfl
        · exact hl.2 j hj
    · have h5 : ¬ (i : Int) < p.cs.length := by omega
      have hl1 := hl.1
      simp only [go_sem, Pl.a, Pl.c4, iv_len, hl1, h5]
      refine ⟨l, hl, fun i => i, fun i hi => rfl, fun i k hi hk h => h, by simp [Pl.a, Pl.c4, ren, rens], fun i x hx => ?_⟩
      match i, hx with
      | 0, hx => simp at hx; subst hx; rw [Row.ren_same (iv_row _ _ _)]; rfl
end Go.Proofs

