/- Lists of numbers, one after another. -/
import Derived.Test.YtgikocfbedopmaaYdH
import Derived.Test.YtgikocfbedopmaaYdFirst
namespace Go.Proofs
open Go Go.Sx
attribute [local irreducible] Run

def ivs (l : List Int) : List AVal := l.map fun n => .int .i64 n
theorem ivs_len (l : List Int) : (ivs l).length = l.length := List.length_map _

theorem Backward_run (g : Bool) (sz : Nat) (es : List AVal) (n : Nat) (hb : (Row.cells g sz es).bel (fun _ => False)) : Ans Try.prog n_slices_Backward_int_int [.sl 0 0 n] [some (.cells g sz es)] (.fn (.func n_slices_Backward_int_int_1) [] [.ptr 1 0 0 1]) [some (.cells g sz es), some (.cells false 1 [.sl 0 0 n])] := by
  refine spec_run e_slices_Backward_int_int fun G => ?_
  simp only [go_sem]
  exact ⟨_, rfl⟩

/-- What the body of a range from the end has to do. -/
structure BackBody (G : Ctx) (n r j q : Nat) (val : Nat → Int) (Pre : Nat → Heap → Prop) (Stop : Heap → Prop) : Prop where
  row : ∀ i H, Pre i H → H[j]? = some (some (.cells false 1 [.sl q 0 n])) ∧ ∃ es, H[q]? = some (some (.cells false 1 es)) ∧ (i < n → es[n - 1 - i]? = some (.int .i64 (val i)))
  round : ∀ i H, i < n → Pre i H → RoundW Try.prog G r [.int .i64 ((n : Int) - 1 - i), .int .i64 (val i)] H fun v H' =>
    H.length ≤ H'.length ∧ ((v = .bool true ∧ Pre (i + 1) H') ∨ (v = .bool false ∧ Stop H'))

set_option maxHeartbeats 1000000 in
theorem back_iter {G : Ctx} {n r j q : Nat} {val : Nat → Int} {Pre : Nat → Heap → Prop} {Stop : Heap → Prop} (hn : 0 < n) (hn2 : n ≤ 1000) (hB : BackBody G n r j q val Pre Stop) {H0 : Heap} (h0 : Pre 0 H0) :
    CallW Try.prog G n_slices_Backward_int_int_1 [.yfn r, .ptr j 0 0 1] H0 fun v H' => v = .tup [] ∧ (Pre n H' ∨ Stop H') := by
  obtain ⟨hj0, es0, hq0, -⟩ := hB.row 0 H0 h0
  have w1 : IntKind.i64.wrap ((n : Int) - 1) = (n : Int) - 1 := w64 (by omega)
  refine callW_run 3000 e_slices_Backward_int_int_1 ?_
  simp only [go_sem, cells_at hj0, cells_at hq0, w1]
  refine loop_ind k_slices_Backward_int_int_1_r4.eq_1 (fun a : Nat × Heap => a.1 ≤ n ∧ H0.length ≤ a.2.length ∧ Pre a.1 a.2) (fun a => n - a.1)
    (fun a => (tsets 19 [(0, .yfn r), (1, .ptr j 0 0 1), (3, .int .i64 ((n : Int) - 1 - a.1))], a.2)) (0, H0) ⟨Nat.zero_le _, Nat.le_refl _, h0⟩ (by simp [go_sem]) rfl ?_
  rintro ⟨i, H⟩ ⟨hi, hH0, hp⟩ ih
  dsimp only at hi hH0 hp ih ⊢
  obtain ⟨hj, es, hq, he⟩ := hB.row i H hp
  by_cases h1 : i < n
  · have h2 : (n : Int) - 1 - i ≥ 0 := by omega
    have h3 : ¬ (n : Int) - 1 - i < 0 := by omega
    have h4 : (n : Int) - 1 - i < n := by omega
    have h5 : ((n : Int) - 1 - i).toNat = n - 1 - i := by omega
    have h6 : IntKind.i64.wrap ((n : Int) - 1 - i - 1) = (n : Int) - 1 - (i + 1 : Nat) := by rw [w64 (by omega)]; omega
    have he' := he h1
    have hrd := hB.round i H h1 hp
    simp only [go_sem, cells_at hj, cells_at hq, h2, h3, h4, h5, he']
    refine yieldR _ rfl rfl (by simp [go_sem]) (by simp [go_sem]) hH0 ?_
    refine hrd.mono ?_
    rintro v H' ⟨q1, ⟨rfl, q3⟩ | ⟨rfl, q3⟩⟩
    · refine ⟨fun q hq => by simp at hq, ?_⟩
      simp only [go_sem, h6]
      exact ih (i + 1, H') (by dsimp only; omega) ⟨h1, by dsimp only; omega, q3⟩ _ (by simp [go_sem])
    · refine ⟨fun q hq => by simp at hq, ?_⟩
      simp only [go_sem]
      exact .inr q3
  · have h2 : ¬ (n : Int) - 1 - i ≥ 0 := by omega
    have h3 : i = n := by omega
    simp only [go_sem, h2]
    exact .inl (h3 ▸ hp)

/-- The next list of numbers below c, the last number first. -/
def advR (c : Int) : List Int → List Int × Bool
  | [] => ([], false)
  | d :: r => if d + 1 < c then ((d + 1) :: r, true) else (0 :: (advR c r).1, (advR c r).2)
theorem advR_len (c : Int) : ∀ ds : List Int, (advR c ds).1.length = ds.length
  | [] => rfl
  | d :: r => by
    have := advR_len c r
    unfold advR
    split <;> simp_all

def advT (n : Nat) : List (Nat × AVal) := [(0, .sl 0 0 n), (2, .ptr 1 0 0 1), (3, .ptr 2 0 0 1), (4, .ptr 3 0 0 1), (8, .fn (.func n_slices_Backward_int_int_1) [] [.ptr 4 0 0 1])]
def advL (n : Nat) (st : LoopState) (pe : Option ACode) : Row := .loop (tsets 24 (advT n)) [9, 10] k_cathode_advance_r8 k_cathode_advance_r9 5 st pe
def advH (c : Int) (n : Nat) (l : List Int) (b : Bool) (lr : Row) : Heap :=
  [some (.cells false 1 (ivs l)), some (.cells false 1 [.sl 0 0 n]), some (.cells false 1 [.int .i64 c]), some (.cells false 1 [.bool b]), some (.cells false 1 [.sl 0 0 n]), some .dfr, some lr]

theorem ivs_get {l : List Int} {i : Nat} {x : Int} (h : l[i]? = some x) : (ivs l)[i]? = some (.int .i64 x) := by simp [ivs, h]
theorem ivs_set (l : List Int) (i : Nat) (x : Int) : (ivs l).set i (.int .i64 x) = ivs (l.set i x) := by simp [ivs, List.map_set]
theorem back_get {ds : List Int} {i : Nat} {x : Int} (h : ds[i]? = some x) (k : Nat) : ((ds.drop i).reverse ++ List.replicate k 0)[ds.length - 1 - i]? = some x := by
  obtain ⟨h1, h2⟩ := List.getElem?_eq_some_iff.1 h
  rw [List.getElem?_append_left (by simp; omega), List.getElem?_reverse (by simp; omega)]
  simp only [List.length_drop, List.getElem?_drop]
  rw [show i + (ds.length - i - 1 - (ds.length - 1 - i)) = i by omega]
  exact h
theorem back_set {ds : List Int} {i : Nat} {x : Int} (h : ds[i]? = some x) (k : Nat) (y : Int) : ((ds.drop i).reverse ++ List.replicate k 0).set (ds.length - 1 - i) y = (y :: ds.drop (i + 1)).reverse ++ List.replicate k 0 := by
  obtain ⟨h1, h2⟩ := List.getElem?_eq_some_iff.1 h
  rw [List.drop_eq_getElem_cons h1]
  simp only [List.reverse_cons, List.append_assoc, List.singleton_append]
  rw [List.set_append_right _ _ (by simp; omega)]
  rw [show ds.length - 1 - i - (ds.drop (i + 1)).reverse.length = 0 by simp; omega]
  rfl

theorem ivs_bel {S : Nat → Prop} (l : List Int) : Bels S (ivs l) := bels_map _ _ fun _ => .int _ _
theorem ivs_row {S : Nat → Prop} (g : Bool) (sz : Nat) (l : List Int) : (Row.cells g sz (ivs l)).bel S := by rw [row_bel_cells]; exact ivs_bel l

theorem rens_ivs (σ : Nat → Nat) : ∀ l : List Int, rens σ (ivs l) = ivs l
  | [] => rfl
  | x :: l => by
    have := rens_ivs σ l
    simp only [ivs, List.map_cons, rens, ren] at *
    rw [this]

set_option maxHeartbeats 1000000 in
theorem advance_run (c : Int) (hc : 0 < c ∧ c < 1000) (ds : List Int) (hds : ∀ d ∈ ds, 0 ≤ d ∧ d < 1000) (h0 : 0 < ds.length) (hl : ds.length ≤ 1000) :
    Ans Try.prog n_cathode_advance [.sl 0 0 ds.length, .int .i64 c] [some (.cells false 1 (ivs ds.reverse))] (.bool (advR c ds).2) [some (.cells false 1 (ivs (advR c ds).1.reverse))] := by
  generalize hRES : advR c ds = RES
  have hB := Backward_run false 1 (ivs ds.reverse) ds.length (ivs_row _ _ _)
  refine spec_run e_cathode_advance fun G => ?_
  simp only [go_sem]
  refine callS hB [0] (by simp) ⟨by rw [Row.ren_same (ivs_row _ _ _)]; rfl, trivial⟩ rfl ⟨by simp [go_sem], trivial⟩ ⟨ivs_row _ _ _, trivial⟩ (by simp) (by simp [go_sem]) ⟨ivs_row _ _ _, by rw [row_bel_cells]; simp [go_sem], trivial⟩ (by simp) (by simp) (by simp) ?_
  have en : nth [0] 0 = 0 := rfl
  simp only [go_sem, outΔ, outσ, ren, rens, Row.ren, rens_ivs, en]
  refine rangeF 2000 (ρ := tsets 24 (advT ds.length)) (by simp [go_sem, advT]) (by simp only [go_sem, advT]; rfl)
    (back_iter (r := 6) (j := 4) (q := 0) (val := fun i => ds.getD i 0) h0 hl (Pre := fun i H => i ≤ ds.length ∧ H = advH c ds.length ((ds.drop i).reverse ++ List.replicate i 0) false (advL ds.length .ready none) ∧ RES = (List.replicate i 0 ++ (advR c (ds.drop i)).1, (advR c (ds.drop i)).2))
      (Stop := fun H => H = advH c ds.length RES.1.reverse true (advL ds.length .done (some .ret)) ∧ RES.2 = true) ⟨?_, ?_⟩ ⟨Nat.zero_le _, by simp [advH]; rfl, by simp [hRES]⟩) (by simp) ?_
  · rintro i H ⟨hi, rfl, hR⟩
    refine ⟨rfl, _, rfl, fun h => ?_⟩
    have hx : ds[i]? = some ds[i] := List.getElem?_eq_getElem h
    rw [ivs_get (back_get hx i)]
    simp [hx]
  · rintro i H hi ⟨-, rfl, hR⟩
    have hx : ds[i]? = some ds[i] := List.getElem?_eq_getElem hi
    have hd := hds _ (List.getElem_mem hi)
    have hg : ds.getD i 0 = ds[i] := by simp [hx]
    rw [hg]
    have hdr : ds.drop i = ds[i] :: ds.drop (i + 1) := List.drop_eq_getElem_cons hi
    have hget := ivs_get (back_get hx i)
    have hset := fun y => ivs_set ((ds.drop i).reverse ++ List.replicate i 0) (ds.length - 1 - i) y
    have hset' := fun y => back_set hx i y
    have hb : ((ds.drop i).reverse ++ List.replicate i 0).length = ds.length := by simp; omega
    have w1 : IntKind.i64.wrap (ds[i] + 1) = ds[i] + 1 := w64 (by omega)
    have n1 : ¬ (ds.length : Int) - 1 - i < 0 := by omega
    have n2 : (ds.length : Int) - 1 - i < ds.length := by omega
    have n3 : ((ds.length : Int) - 1 - i).toNat = ds.length - 1 - i := by omega
    have hRx := hR
    rw [hdr] at hRx
    unfold advR at hRx
    generalize hL : (ds.drop i).reverse ++ List.replicate i 0 = L at *
    generalize ds[i] = x at *
    generalize hR' : (fun (v : AVal) (H' : Heap) => _) = R
    have hon : ¬ x + 1 < c → R (.bool true) (advH c ds.length (L.set (ds.length - 1 - i) 0) false (advL ds.length .ready none)) := fun h => by
      rw [← hR']
      refine ⟨by simp [advH], .inl ⟨rfl, hi, ?_, ?_⟩⟩
      · rw [hset']
        simp [List.replicate_succ]
      · rw [if_neg h] at hRx
        rw [hRx]
        simp [List.replicate_succ']
    have hst : x + 1 < c → R (.bool false) (advH c ds.length (L.set (ds.length - 1 - i) (x + 1)) true (advL ds.length .done (some .ret))) := fun h => by
      rw [← hR']
      rw [if_pos h] at hRx
      refine ⟨by simp [advH], .inr ⟨rfl, ?_, by rw [hRx]⟩⟩
      rw [hset', hRx]
      simp
    clear hR' hRx hR hset'
    refine roundW_run 500 k_cathode_advance_r8.eq_1 rfl rfl (ρ' := tsets 24 (advT ds.length ++ [(9, .int .i64 ((ds.length : Int) - 1 - i)), (10, .int .i64 x)])) rfl ?_
    simp only [go_sem, advT, advH]
    refine roundMid_run 500 k_cathode_advance_r9.eq_1 rfl rfl ?_
    simp only [go_sem, w1, n1, n2, n3, hget, hset]
    refine ⟨fun h => ?_, fun h => ?_⟩
    · refine roundEnd_ret rfl ?_
      simp only [go_sem]
      exact hst h
    · refine roundEnd_on rfl ?_
      simp only [go_sem]
      exact hon h
  · rintro v H' ⟨rfl, ⟨-, rfl, hR⟩ | ⟨rfl, hR⟩⟩
    · refine ⟨fun q hq => by simp at hq; subst hq; rfl, _, _, _, _, _, _, _, rfl, by decide, ?_⟩
      rw [List.drop_length, advR, List.append_nil] at hR
      simp only [go_sem, advH, advT, tsets, hR]
      simp
    · refine ⟨fun q hq => by simp at hq; subst hq; rfl, _, _, _, _, _, _, _, rfl, by decide, ?_⟩
      simp only [go_sem, advH, advT, tsets, hR]
      simp
end Go.Proofs
