/- A part of the proof. -/
import Derived.Test.YtdodlephmmpemaaPC
set_option linter.unusedSimpArgs false
set_option linter.unusedVariables false
namespace Go.Proofs
open Go Go.Sx
attribute [local irreducible] Run

def chC (p : Pl) (a : List Int) (e : Int) (i : Nat) : Nat → Int := fun n => if gt p.cs n = e then 0 else gt a i - gt a n
def chTo (p : Pl) (a : List Int) (e : Int) : Nat → Int
  | 0 => 0
  | i + 1 => chTo p a e i + if gt p.cs i = e then wsum (nbs p i) (chC p a e i) else 0
def chg (p : Pl) (a : List Int) (e : Int) : Int := chTo p a e (p.w * p.h)
theorem chC_bd {p : Pl} {a : List Int} (ha : AtOK p a) (e : Int) {i n : Nat} (hi : i < p.w * p.h) (hn : n < p.w * p.h) : -2000000 ≤ chC p a e i n ∧ chC p a e i n ≤ 2000000 := by
  have h1 := ha.bd i hi
  have h2 := ha.bd n hn
  unfold chC; split <;> omega
theorem chS_bd {p : Pl} (hp : PlOK p) {a : List Int} (ha : AtOK p a) (e : Int) {i : Nat} (hi : i < p.w * p.h) (k : Nat) : -256000000 ≤ wsum ((nbs p i).take k) (chC p a e i) ∧ wsum ((nbs p i).take k) (chC p a e i) ≤ 256000000 := by
  have hN := nbs_in p hp.w.2 hi
  have hl := nbs_len p i
  have h1 := wtot_bd (l := (nbs p i).take k) fun q hq => ⟨(hN q (List.mem_of_mem_take hq)).2.1, (hN q (List.mem_of_mem_take hq)).2.2.1⟩
  have h2 := wsum_in (l := (nbs p i).take k) (f := chC p a e i) (a := -2000000) (b := 2000000) fun q hq => by
    obtain ⟨k1, k2, _⟩ := hN q (List.mem_of_mem_take hq)
    exact ⟨by omega, chC_bd ha e hi k1⟩
  have h3 : ((nbs p i).take k).length ≤ 4 := by rw [List.length_take]; omega
  omega
theorem chTo_bd {p : Pl} (hp : PlOK p) {a : List Int} (ha : AtOK p a) (e : Int) : ∀ i, i ≤ p.w * p.h → -256000000 * (i : Int) ≤ chTo p a e i ∧ chTo p a e i ≤ 256000000 * (i : Int)
  | 0, _ => by simp [chTo]
  | i + 1, h => by
    have ih := chTo_bd hp ha e i (by omega)
    have h1 := chS_bd hp ha e (show i < p.w * p.h by omega) (nbs p i).length
    rw [List.take_length] at h1
    rw [chTo]
    push_cast
    split <;> omega

theorem freed_get : ∀ (ms : List Nat) (H : Heap) {j : Nat}, (∀ q ∈ ms, q ≠ j) → (freed H ms)[j]? = H[j]?
  | [], _, _, _ => rfl
  | m :: ms, H, j, h => by
    rw [freed, freed_get ms _ fun q hq => h q (by simp [hq]), List.getElem?_set_ne (h m (by simp))]
def chF (p : Pl) (f : AVal) (e lo hi : Int) : Heap :=
  [some (.cells false 4 [p.v]), some (.cells false 4 [f]), some (.cells false 1 [.int .i64 e]), some (.cells false 2 [.agg [.int .i64 0, .int .i64 0]]), some (.cells false 2 [.agg [.int .i64 lo, .int .i64 hi]])]
def chH (p : Pl) (f : AVal) (e lo hi : Int) (X T Y : Heap) : Heap := chF p f e lo hi ++ (X ++ (T ++ Y))
theorem chH_get (p : Pl) (f : AVal) (e lo hi : Int) (X T Y : Heap) {j : Nat} (hj : j < T.length) : (chH p f e lo hi X T Y)[X.length + 5 + j]? = T[j]? := by
  unfold chH
  rw [List.getElem?_append_right (by simp [chF]; omega), List.getElem?_append_right (by simp [chF]; omega), List.getElem?_append_left (by simp [chF]; omega)]
  congr 1
  simp [chF]; omega
theorem chH_old (p : Pl) (f : AVal) (e lo hi : Int) (X T Y : Heap) {k : Nat} (hk : k < X.length) : (chH p f e lo hi X T Y)[k + 5]? = X[k]? := by
  unfold chH
  rw [List.getElem?_append_right (by simp [chF]), List.getElem?_append_left (by simp [chF]; exact hk)]
  congr 1
theorem chH_set (p : Pl) (f : AVal) (e lo hi : Int) (a0 a b c d : Option Row) (X Y : Heap) (y : Option Row) : (chH p f e lo hi X [a0, a, b, c, d] Y).set (X.length + 9) y = chH p f e lo hi X [a0, a, b, c, y] Y := by
  unfold chH
  rw [List.set_append_right _ _ (by simp [chF]), List.set_append_right _ _ (by simp [chF]), List.set_append_left _ _ (by simp [chF])]
  have e : X.length + 9 - (chF p f e lo hi).length - X.length = 4 := by simp only [chF, List.length_cons, List.length_nil]; omega
  rw [e]; rfl
theorem chH_put (p : Pl) (f : AVal) (e lo hi : Int) (a0 a b c d : Option Row) (X Y : Heap) (y : Row) : Heap.put (chH p f e lo hi X [a0, a, b, c, d] Y) (X.length + 9) y = chH p f e lo hi X [a0, a, b, c, some y] Y := by
  rw [put_lt (by simp [chH, chF]; omega)]
  exact chH_set _ _ _ _ _ _ _ _ _ _ _ _ _
theorem chH_len (p : Pl) (f : AVal) (e lo hi : Int) (X T Y : Heap) : (chH p f e lo hi X T Y).length = X.length + T.length + Y.length + 5 := by
  simp [chH, chF]; omega
def chT (p : Pl) (n m : Nat) : List (Nat × AVal) := [(3, .ptr 0 0 0 1), (4, .ptr 1 0 0 1), (5, .ptr 2 0 0 1), (6, .ptr 3 0 0 1), (7, .ptr 4 0 0 1), (8, .ptr (m + 5) 0 0 1), (13, vw p.cs), (14, .int .i64 p.cs.length), (15, .int .i64 n), (25, .fn (.func n_field_neighbours_1) [] [.ptr (m + 7) 0 0 1, .ptr (m + 6) 0 0 1])]
def chL (p : Pl) (n m : Nat) (st : LoopState) (pe : Option ACode) : Row := .loop (tsets 71 (chT p n m)) [26, 27] k_field_charge_r12 k_field_charge_r13 (m + 8) st pe
def chR (p : Pl) (n m : Nat) (st : LoopState) : Heap := [some (.cells false 1 [.int .i64 n]), some (.cells false 4 [p.v]), some (.cells false 1 [.int .i64 n]), some .dfr, some (chL p n m st none)]

set_option maxHeartbeats 4000000 in
set_option maxRecDepth 8000 in
theorem charge_ok {p : Pl} (hp : PlOK p) {la ha : List Int} (hla : AtOK p la) (hha : AtOK p ha) (s : Nat) (t : Bool) (e : Int) : Ans Try.prog n_field_charge [p.v, fldW la ha s t, .int .i64 e] [] (Rg.v ⟨chg p ha e, chg p la e⟩) [] := by
  have hw := hp.w; have hh := hp.h
  have hN : p.w * p.h ≤ 256 := Nat.mul_le_mul hw.2 hh.2
  have hlen := hp.len
  refine spec_run e_field_charge fun G => ?_
  simp only [go_sem, Pl.v, Pl.a, Pl.c4, vw, fldW, List.length_map]
  refine loop_indM k_field_charge_r15.eq_1 (fun a : Nat × Heap × List Nat => a.1 ≤ p.cs.length ∧ a.2.2.Nodup ∧ ∀ q ∈ a.2.2, ∃ k, q = k + 5 ∧ a.2.1[k]? = some (some .dfr)) (fun a => p.cs.length - a.1)
    (fun a => (tsets 71 [(3, .ptr 0 0 0 1), (4, .ptr 1 0 0 1), (5, .ptr 2 0 0 1), (6, .ptr 3 0 0 1), (7, .ptr 4 0 0 1), (13, vw p.cs), (14, .int .i64 p.cs.length), (15, .int .i64 a.1)], chF p (fldW la ha s t) e (chTo p ha e a.1) (chTo p la e a.1) ++ a.2.1, a.2.2)) (0, [], []) ⟨Nat.zero_le _, List.nodup_nil, fun q hq => by simp at hq⟩ (by simp [go_sem, vw]) rfl rfl ?_
  rintro ⟨n, X, ms⟩ ⟨hn, hms1, hms2⟩ ih
  dsimp only at hn hms1 hms2 ih ⊢
  by_cases h1 : n < p.cs.length
  · have h2 : (n : Int) < p.cs.length := by omega
    have h3 := idx_next h1 (by omega)
    have n0 : ¬ (n : Int) < 0 := by omega
    have hnN : n < p.w * p.h := by rw [← hlen]; exact h1
    have hx := gt_get h1
    have b1 := chTo_bd hp hla e (n + 1) hnN
    have b2 := chTo_bd hp hha e (n + 1) hnN
    simp only [chTo] at b1 b2
    by_cases he : gt p.cs n = e
    · have he' : (gt p.cs n != e) = false := by simp [he]
      have hchT : chTo p la e (n + 1) = chTo p la e n + wsum (nbs p n) (chC p la e n) := by rw [chTo, if_pos he]
      have hchU : chTo p ha e (n + 1) = chTo p ha e n + wsum (nbs p n) (chC p ha e n) := by rw [chTo, if_pos he]
      have c1 := chTo_bd hp hla e n (by omega)
      have c2 := chTo_bd hp hha e n (by omega)
      have hdf : ∀ (L : Heap), ∀ q ∈ ms, (chF p (fldW la ha s t) e (chTo p ha e n) (chTo p la e n) ++ (X ++ L))[q]? = some (some .dfr) := fun L q hq => by
        obtain ⟨k, rfl, hk⟩ := hms2 q hq
        have hkl := (List.getElem?_eq_some_iff.1 hk).1
        have := chH_old p (fldW la ha s t) e (chTo p ha e n) (chTo p la e n) X [] L hkl
        unfold chH at this
        rw [List.nil_append] at this
        rw [this]; exact hk
      generalize chTo p la e n = ch0 at *
      generalize chTo p ha e n = cl0 at *
      simp only [chF, List.cons_append, List.nil_append]
      generalize hz : gt p.cs n = z at *
      simp only [go_sem, Pl.v, Pl.a, Pl.c4, vw, fldW, List.length_map, h2, n0, hx, he']
      refine cN2 (neighbours_ok p n) ?_ (hms := ?_)
      · simp only [go_sem, ren, rens]
        have hl : (chF p (fldW la ha s t) e cl0 ch0 ++ (X ++ [some (Row.cells false 1 [.int .i64 (n : Int)]), some (Row.cells false 4 [p.v]), some (Row.cells false 1 [.int .i64 (n : Int)])])).length = X.length + 8 := by simp [chF]
        show Mean Try.prog G 0 none _ _ ⟨_, chF p (fldW la ha s t) e cl0 ch0 ++ (X ++ [some (Row.cells false 1 [.int .i64 (n : Int)]), some (Row.cells false 4 [p.v]), some (Row.cells false 1 [.int .i64 (n : Int)])]), ms⟩ _
        refine rangeF 2000 (ρ := tsets 71 (chT p n X.length)) (by simp [go_sem, chT, vw]) (by simp only [go_sem, chT]; rfl)
          (R := fun v H' => v = .tup [] ∧ (H' = chH p (fldW la ha s t) e (cl0 + wsum (nbs p n) (chC p ha e n)) (ch0 + wsum (nbs p n) (chC p la e n)) X (chR p n X.length .ready) [] ∨ False)) ?_ (by simp) ?_
        · rw [hl]
          have hheap : chF p (fldW la ha s t) e cl0 ch0 ++ (X ++ [some (Row.cells false 1 [.int .i64 (n : Int)]), some (Row.cells false 4 [p.v]), some (Row.cells false 1 [.int .i64 (n : Int)])]) ++ [some .dfr] ++ [some (.loop (tsets 71 (chT p n X.length)) [26, 27] k_field_charge_r12 k_field_charge_r13 (X.length + 8) .ready none)] = chH p (fldW la ha s t) e cl0 ch0 X (chR p n X.length .ready) [] := by
            simp [chH, chR, chL]
          rw [hheap]
          have hit := nbs1_iter (G := G) hp hnN (r := X.length + 9) (jc := X.length + 7) (jp := X.length + 6) (N := X.length + 10) (Pre := fun k H => H = chH p (fldW la ha s t) e (cl0 + wsum ((nbs p n).take k) (chC p ha e n)) (ch0 + wsum ((nbs p n).take k) (chC p la e n)) X (chR p n X.length .ready) []) (Stop := fun _ => False) ⟨?_, ?_⟩
            (by rw [List.take_zero, wsum, wsum, Int.add_zero, Int.add_zero]) (by rw [chH_len]; simp [chR])
          · rw [List.take_length] at hit
            exact hit
          · rintro k H rfl
            exact ⟨by rw [chH_len]; simp [chR], chH_get _ _ _ _ _ X (chR p n X.length .ready) [] (j := 2) (by simp [chR]), chH_get _ _ _ _ _ X (chR p n X.length .ready) [] (j := 1) (by simp [chR])⟩
          · rintro k ⟨m, wt⟩ H hq rfl
            obtain ⟨hm, k2, k3, _⟩ := nbs_in p hw.2 hnN _ (List.mem_of_getElem? hq)
            dsimp only at hm k2 k3 ⊢
            have t1 : wsum ((nbs p n).take (k + 1)) (chC p ha e n) = wsum ((nbs p n).take k) (chC p ha e n) + wt * chC p ha e n m := wsum_take hq _
            have t2 : wsum ((nbs p n).take (k + 1)) (chC p la e n) = wsum ((nbs p n).take k) (chC p la e n) + wt * chC p la e n m := wsum_take hq _
            have d1 := chS_bd hp hha e hnN k
            have d2 := chS_bd hp hla e hnN k
            have d3 := chS_bd hp hha e hnN (k + 1)
            have d4 := chS_bd hp hla e hnN (k + 1)
            have hrow := fun u v => chH_get p (fldW la ha s t) e u v X (chR p n X.length .ready) [] (j := 4) (by simp [chR])
            have hmx := gt_get (l := p.cs) (i := m) (by omega)
            have ga := gt_get (l := la) (i := m) (by rw [hla.len]; exact hm)
            have gb := gt_get (l := ha) (i := m) (by rw [hha.len]; exact hm)
            have gc := gt_get (l := la) (i := n) (by rw [hla.len]; exact hnN)
            have gd := gt_get (l := ha) (i := n) (by rw [hha.len]; exact hnN)
            have q0 : ¬ (m : Int) < 0 := by omega
            have q1 : (m : Int) < p.cs.length := by omega
            have q2 : (m : Int) < la.length := by rw [hla.len]; omega
            have q3 : (m : Int) < ha.length := by rw [hha.len]; omega
            have q4 : (n : Int) < la.length := by rw [hla.len]; omega
            have q5 : (n : Int) < ha.length := by rw [hha.len]; omega
            have v1 := hla.bd n hnN
            have v2 := hha.bd n hnN
            have v3 := hla.bd m hm
            have v4 := hha.bd m hm
            have w1 : chC p ha e n m = if gt p.cs m = e then 0 else gt ha n - gt ha m := rfl
            have w2 : chC p la e n m = if gt p.cs m = e then 0 else gt la n - gt la m := rfl
            rw [w1] at t1
            rw [w2] at t2
            clear w1 w2
            generalize hR : (fun (v : AVal) (H' : Heap) => (v = .bool true ∧ H' = chH p (fldW la ha s t) e (cl0 + wsum ((nbs p n).take (k + 1)) (chC p ha e n)) (ch0 + wsum ((nbs p n).take (k + 1)) (chC p la e n)) X (chR p n X.length .ready) []) ∨ (v = .bool false ∧ False)) = R
            have hfin : R (.bool true) (chH p (fldW la ha s t) e (cl0 + wsum ((nbs p n).take (k + 1)) (chC p ha e n)) (ch0 + wsum ((nbs p n).take (k + 1)) (chC p la e n)) X (chR p n X.length .ready) []) := by rw [← hR]; exact .inl ⟨rfl, rfl⟩
            clear hR
            generalize wsum ((nbs p n).take (k + 1)) (chC p ha e n) = A1 at *
            generalize wsum ((nbs p n).take (k + 1)) (chC p la e n) = B1 at *
            generalize wsum ((nbs p n).take k) (chC p ha e n) = A0 at *
            generalize wsum ((nbs p n).take k) (chC p la e n) = B0 at *
            by_cases hme : gt p.cs m = e
            · rw [if_pos hme, Int.mul_zero, Int.add_zero] at t1 t2
              subst t1
              subst t2
              have hme' : (gt p.cs m != e) = false := by simp [hme]
              generalize gt p.cs m = zm at *
              refine roundW_run 500 k_field_charge_r12.eq_1 (hrow _ _) rfl (ρ' := tsets 71 (chT p n X.length ++ [(26, .int .i64 (m : Int)), (27, .int .i64 wt)])) rfl ?_
              simp only [go_sem, chT]
              refine roundMid_run 500 k_field_charge_r13.eq_1 (hrow _ _) (chH_put _ _ _ _ _ _ _ _ _ _ _ _ _) ?_
              have hci := fun u v => cells_at (chH_get p (fldW la ha s t) e u v X [some (.cells false 1 [.int .i64 n]), some (.cells false 4 [p.v]), some (.cells false 1 [.int .i64 n]), some .dfr, some (chL p n X.length .busy none)] [] (j := 0) (by simp))
              have hrow2 := fun u v => chH_get p (fldW la ha s t) e u v X [some (.cells false 1 [.int .i64 n]), some (.cells false 4 [p.v]), some (.cells false 1 [.int .i64 n]), some .dfr, some (chL p n X.length .busy none)] [] (j := 4) (by simp)
              have hput := fun u v => chH_put p (fldW la ha s t) e u v (some (.cells false 1 [.int .i64 n])) (some (.cells false 4 [p.v])) (some (.cells false 1 [.int .i64 n])) (some .dfr) (some (chL p n X.length .busy none)) X [] (chL p n X.length .ready none)
              simp only [chH, chF, Nat.add_zero, List.append_nil, List.cons_append, List.nil_append, Pl.v, Pl.a, Pl.c4, vw, fldW] at hci hrow2 hput hfin ⊢
              simp only [go_sem, hci, hmx, q0, q1, hme', List.length_map]
              refine roundEnd_on (hrow2 _ _) ?_
              exact Eq.mpr (congrArg (R (.bool true)) (hput _ _)) hfin
            · rw [if_neg hme] at t1 t2
              have hme' : (gt p.cs m != e) = true := by simp [hme]
              generalize gt p.cs m = zm at *
              generalize gt la n = y1 at *
              generalize gt ha n = y2 at *
              generalize gt la m = y3 at *
              generalize gt ha m = y4 at *
              have m1 : -64000000 ≤ wt * (y2 - y4) ∧ wt * (y2 - y4) ≤ 64000000 := by
                have h4 := Int.mul_le_mul_of_nonneg_left (show y2 - y4 ≤ 2000000 by omega) (show 0 ≤ wt by omega)
                have h5 := Int.mul_le_mul_of_nonneg_left (show -2000000 ≤ y2 - y4 by omega) (show 0 ≤ wt by omega)
                omega
              have m2 : -64000000 ≤ wt * (y1 - y3) ∧ wt * (y1 - y3) ≤ 64000000 := by
                have h4 := Int.mul_le_mul_of_nonneg_left (show y1 - y3 ≤ 2000000 by omega) (show 0 ≤ wt by omega)
                have h5 := Int.mul_le_mul_of_nonneg_left (show -2000000 ≤ y1 - y3 by omega) (show 0 ≤ wt by omega)
                omega
              have z1 : IntKind.i64.wrap (y2 - y4) = y2 - y4 := w64 (by omega)
              have z2 : IntKind.i64.wrap (y1 - y3) = y1 - y3 := w64 (by omega)
              have z3 : IntKind.i64.wrap (wt * (y2 - y4)) = wt * (y2 - y4) := w64 (by omega)
              have z4 : IntKind.i64.wrap (wt * (y1 - y3)) = wt * (y1 - y3) := w64 (by omega)
              have z5 : IntKind.i64.wrap (cl0 + A0 + wt * (y2 - y4)) = cl0 + A1 := by rw [w64 (by omega)]; omega
              have z6 : IntKind.i64.wrap (ch0 + B0 + wt * (y1 - y3)) = ch0 + B1 := by rw [w64 (by omega)]; omega
              clear t1 t2
              refine roundW_run 500 k_field_charge_r12.eq_1 (hrow _ _) rfl (ρ' := tsets 71 (chT p n X.length ++ [(26, .int .i64 (m : Int)), (27, .int .i64 wt)])) rfl ?_
              simp only [go_sem, chT]
              refine roundMid_run 500 k_field_charge_r13.eq_1 (hrow _ _) (chH_put _ _ _ _ _ _ _ _ _ _ _ _ _) ?_
              have hci := fun u v => cells_at (chH_get p (fldW la ha s t) e u v X [some (.cells false 1 [.int .i64 n]), some (.cells false 4 [p.v]), some (.cells false 1 [.int .i64 n]), some .dfr, some (chL p n X.length .busy none)] [] (j := 0) (by simp))
              have hrow2 := fun u v => chH_get p (fldW la ha s t) e u v X [some (.cells false 1 [.int .i64 n]), some (.cells false 4 [p.v]), some (.cells false 1 [.int .i64 n]), some .dfr, some (chL p n X.length .busy none)] [] (j := 4) (by simp)
              have hput := fun u v => chH_put p (fldW la ha s t) e u v (some (.cells false 1 [.int .i64 n])) (some (.cells false 4 [p.v])) (some (.cells false 1 [.int .i64 n])) (some .dfr) (some (chL p n X.length .busy none)) X [] (chL p n X.length .ready none)
              simp only [chH, chF, Nat.add_zero, List.append_nil, List.cons_append, List.nil_append, Pl.v, Pl.a, Pl.c4, vw, fldW] at hci hrow2 hput hfin ⊢
              simp only [go_sem, hci, hmx, q0, q1, hme', List.length_map, ga, gb, gc, gd, q2, q3, q4, q5, n0, z1, z2, z3, z4, z5, z6]
              refine roundEnd_on (hrow2 _ _) ?_
              exact Eq.mpr (congrArg (R (.bool true)) (hput _ _)) hfin
        · rintro v H' ⟨rfl, rfl | h⟩
          · rw [hl]
            refine ⟨fun q hq => ?_, _, _, _, _, _, _, _, chH_get _ _ _ _ _ X (chR p n X.length .ready) [] (j := 4) (by simp [chR]), by decide, ?_⟩
            · rcases List.mem_cons.1 hq with rfl | hq
              · exact chH_get _ _ _ _ _ X (chR p n X.length .ready) [] (j := 3) (by simp [chR])
              · obtain ⟨k, rfl, hk⟩ := hms2 q hq
                rw [chH_old _ _ _ _ _ _ _ _ (List.getElem?_eq_some_iff.1 hk).1]; exact hk
            · show Run Try.prog G 0 none 2000 (.out .normal) _ ⟨_, (chH p (fldW la ha s t) e _ _ X (chR p n X.length .ready) []).set (X.length + 9) none, _⟩ _
              unfold chR
              rw [chH_set]
              simp only [go_sem, chT, tsets, h3]
              have ihn := ih (n + 1, (X ++ ([some (.cells false 1 [.int .i64 n]), some (.cells false 4 [p.v]), some (.cells false 1 [.int .i64 n]), some .dfr, none] : Heap) : Heap), (X.length + 8) :: ms) (by dsimp only; omega)
              dsimp only at ihn
              rw [hchT, hchU] at ihn
              refine ihn ⟨h1, ?_, fun q hq => ?_⟩ _ (by simp [go_sem, vw])
              · refine List.nodup_cons.2 ⟨fun h => ?_, hms1⟩
                obtain ⟨k, hk1, hk2⟩ := hms2 _ h
                have := (List.getElem?_eq_some_iff.1 hk2).1
                omega
              · rcases List.mem_cons.1 hq with rfl | hq
                · refine ⟨X.length + 3, rfl, ?_⟩
                  rw [List.getElem?_append_right (by omega)]
                  simp
                · obtain ⟨k, hk1, hk2⟩ := hms2 q hq
                  exact ⟨k, hk1, by rw [List.getElem?_append_left (List.getElem?_eq_some_iff.1 hk2).1]; exact hk2⟩
          · exact h.elim
      · exact hdf [some (.cells false 1 [.int .i64 n])]
    · have he' : (gt p.cs n != e) = true := by simp [he]
      have ihn := ih (n + 1, X ++ [some (.cells false 1 [.int .i64 n])], ms) (by dsimp only; omega) ⟨h1, hms1, fun q hq => by
        obtain ⟨k, hk1, hk2⟩ := hms2 q hq
        exact ⟨k, hk1, by dsimp only; rw [List.getElem?_append_left (List.getElem?_eq_some_iff.1 hk2).1]; exact hk2⟩⟩
      simp only [chTo, if_neg he, Int.add_zero] at ihn
      simp only [chF, List.cons_append, List.nil_append] at ihn ⊢
      generalize gt p.cs n = z at *
      simp only [go_sem, Pl.v, Pl.a, Pl.c4, vw, fldW, List.length_map, h2, n0, hx, he', h3]
      exact ihn _ (by simp [go_sem, vw])
  · have h2 : ¬ (n : Int) < p.cs.length := by omega
    have hnN : n = p.w * p.h := by omega
    subst hnN
    have hne : ∀ q ∈ ms, q ≠ 3 := fun q hq => by obtain ⟨k, hk, _⟩ := hms2 q hq; omega
    have hc := fun L : Heap => freed_get ms (some (.cells false 4 [p.v]) :: some (.cells false 4 [fldW la ha s t]) :: some (.cells false 1 [.int .i64 e]) :: some (.cells false 2 [.agg [.int .i64 (chTo p ha e (p.w * p.h)), .int .i64 (chTo p la e (p.w * p.h))]]) :: L) hne
    have hc' := fun L : Heap => cells_at ((hc L).trans rfl)
    simp only [chF, go_sem, Pl.v, Pl.a, Pl.c4, vw, fldW, List.length_map, h2, List.cons_append, List.nil_append] at hc' ⊢
    simp only [hc', go_sem]
    exact ⟨hms1, rfl⟩
end Go.Proofs

namespace Go.Proofs
open Go Go.Sx
attribute [local irreducible] Run

end Go.Proofs

namespace Go.Proofs
open Go Go.Sx

end Go.Proofs

namespace Go.Proofs
open Go Go.Sx

end Go.Proofs

namespace Go.Proofs
open Go Go.Sx
attribute [local irreducible] Run

end Go.Proofs

namespace Go.Proofs
open Go Go.Sx
attribute [local irreducible] Run

end Go.Proofs

namespace Go.Proofs
open Go Go.Sx

end Go.Proofs

namespace Go.Proofs
open Go Go.Sx
attribute [local irreducible] Run

def Pl.put (p : Pl) (i : Nat) (c : Int) : Pl := { p with cs := p.cs.set i c }
end Go.Proofs

namespace Go.Proofs
open Go Go.Sx

end Go.Proofs

namespace Go.Proofs
open Go Go.Sx
attribute [local irreducible] Run

end Go.Proofs

namespace Go.Proofs
open Go Go.Sx

end Go.Proofs

namespace Go.Proofs
open Go Go.Sx
attribute [local irreducible] Run

end Go.Proofs

namespace Go.Proofs
open Go Go.Sx
attribute [local irreducible] Run

def inb (p : Pl) (i : Nat) (r d : Int) : Prop := (-((i % p.w : Nat) : Int) ≤ r ∧ r ≤ p.w - 1 - ((i % p.w : Nat) : Int)) ∧ (-((i / p.w : Nat) : Int) ≤ d ∧ d ≤ p.h - 1 - ((i / p.w : Nat) : Int))
instance (p : Pl) (i : Nat) (r d : Int) : Decidable (inb p i r d) := by unfold inb; infer_instance
def Stays (p : Pl) (e r d : Int) : Prop := ∀ i, i < p.w * p.h → gt p.cs i = e → inb p i r d
instance (p : Pl) (e r d : Int) : Decidable (Stays p e r d) := by unfold Stays; infer_instance

def wo (l : List Int) (e : Int) : List Int := l.map fun c => if c = e then 0 else c
def stepOf (p : Pl) (r d : Int) : Int := d * p.w + r
def Frees (p : Pl) (e r d : Int) : Prop := ∀ i, i < p.w * p.h → gt p.cs i = e → gt (wo p.cs e) ((i : Int) + stepOf p r d).toNat = 0
instance (p : Pl) (e r d : Int) : Decidable (Frees p e r d) := by unfold Frees; infer_instance
end Go.Proofs

namespace Go.Proofs
open Go Go.Sx
attribute [local irreducible] Run

end Go.Proofs

namespace Go.Proofs
open Go Go.Sx
attribute [local irreducible] Run

end Go.Proofs

namespace Go.Proofs
open Go Go.Sx
attribute [local irreducible] Run

structure Rp where
  w : Int
  h : Int
  rd : Bool
  cs : List Int
def Rp.v (p : Rp) : AVal := .agg [.int .i64 p.w, .int .i64 p.h, .bool p.rd, vw p.cs]
def Rp.pl (p : Rp) : Pl := ⟨p.w.toNat, p.h.toNat, p.rd, p.cs⟩
def Rp.err (p : Rp) : Int :=
  if ¬ ((1 ≤ p.w ∧ p.w ≤ 16) ∧ (1 ≤ p.h ∧ p.h ≤ 16)) then 2 else if (p.cs.length : Int) ≠ p.w * p.h then 3 else if ¬ ∀ c ∈ p.cs, 0 ≤ c ∧ c ≤ 6 then 2 else if gmax p.cs = 0 then 7 else 0
theorem Rp.ok {p : Rp} (h : p.err = 0) : PlOK p.pl ∧ p.v = p.pl.v := by
  unfold Rp.err at h
  by_cases h1 : (1 ≤ p.w ∧ p.w ≤ 16) ∧ (1 ≤ p.h ∧ p.h ≤ 16)
  · rw [if_neg (fun h => h h1)] at h
    by_cases h2 : (p.cs.length : Int) = p.w * p.h
    · rw [if_neg (fun h => h h2)] at h
      by_cases h3 : ∀ c ∈ p.cs, 0 ≤ c ∧ c ≤ 6
      · rw [if_neg (fun h => h h3)] at h
        by_cases h4 : gmax p.cs = 0
        · rw [if_pos h4] at h; omega
        · have ew : ((p.w.toNat : Nat) : Int) = p.w := by omega
          have eh : ((p.h.toNat : Nat) : Int) = p.h := by omega
          have hl : p.cs.length = p.w.toNat * p.h.toNat := by
            have : (p.cs.length : Int) = ((p.w.toNat * p.h.toNat : Nat) : Int) := by push_cast; rw [ew, eh, h2]
            omega
          refine ⟨⟨by show 1 ≤ p.w.toNat ∧ p.w.toNat ≤ 16; omega, by show 1 ≤ p.h.toNat ∧ p.h.toNat ≤ 16; omega, hl, h3, ?_⟩, ?_⟩
          · have hm : gmax p.cs ∈ p.cs := by
              rcases mxL_or p.cs 0 with h | h
              · exact absurd h h4
              · exact h
            obtain ⟨i, hi, hie⟩ := mem_gt hm
            exact ⟨i, by show i < p.w.toNat * p.h.toNat; omega, by show gt p.cs i ≠ 0; rw [hie]; exact h4⟩
          · unfold Rp.v Pl.v Pl.a Pl.c4 Rp.pl
            simp only [ew, eh]
      · rw [if_pos h3] at h; omega
    · rw [if_pos h2] at h; omega
  · rw [if_pos h1] at h; omega

set_option maxHeartbeats 2000000 in
theorem Check_raw (p : Rp) (hlen : p.cs.length ≤ 1000000) : Ans Try.prog n_field_Check [p.v] [] (.int .i64 p.err) [] := by
  by_cases hok : p.err = 0
  · obtain ⟨h1, h2⟩ := Rp.ok hok
    rw [hok, h2]
    exact Check_ok h1
  · unfold Rp.err at hok ⊢
    refine spec_run e_field_Check fun G => ?_
    simp only [go_sem, Rp.v, vw]
    by_cases hw : 1 ≤ p.w ∧ p.w ≤ 16
    · refine cP (within_yes hw) ?_
      simp only [go_sem]
      by_cases hh : 1 ≤ p.h ∧ p.h ≤ 16
      · rw [if_neg (fun h => h ⟨hw, hh⟩)] at hok ⊢
        refine cP (within_yes hh) ?_
        obtain ⟨w, hw'⟩ : ∃ w : Nat, (w : Int) = p.w := ⟨p.w.toNat, by omega⟩
        obtain ⟨h, hh'⟩ : ∃ h : Nat, (h : Int) = p.h := ⟨p.h.toNat, by omega⟩
        have hN : w * h ≤ 256 := Nat.mul_le_mul (show w ≤ 16 by omega) (show h ≤ 16 by omega)
        have em : IntKind.i64.wrap (p.w * p.h) = p.w * p.h := by rw [← hw', ← hh', w64 (by push_cast at *; omega)]
        by_cases hl : (p.cs.length : Int) = p.w * p.h
        · rw [if_neg (fun h => h hl)] at hok ⊢
          have hl' : ((p.cs.length : Int) != p.w * p.h) = false := by simp [hl]
          simp only [go_sem, List.length_map, em, hl']
          refine loop_ind k_field_Check_r11.eq_1 (fun a : Nat × Heap => a.1 ≤ p.cs.length ∧ ∀ c ∈ p.cs.take a.1, 0 ≤ c ∧ c ≤ 6) (fun a => p.cs.length - a.1)
            (fun a => (tsets 41 [(1, .ptr 0 0 0 1), (2, .int .i64 0), (25, vw p.cs), (26, .int .i64 p.cs.length), (27, .int .i64 a.1)], some (.cells false 4 [p.v]) :: a.2)) (0, []) ⟨Nat.zero_le _, by simp⟩ (by simp [go_sem, vw]) rfl ?_
          rintro ⟨i, X⟩ ⟨hi, hm⟩ ih
          dsimp only at hi hm ih ⊢
          by_cases h1 : i < p.cs.length
          · have h2 : (i : Int) < p.cs.length := by omega
            have h3 := idx_next h1 (by omega)
            have n0 : ¬ (i : Int) < 0 := by omega
            have hx := gt_get h1
            have hT : p.cs.take (i + 1) = p.cs.take i ++ [gt p.cs i] := by rw [List.take_add_one, gt_get h1]; rfl
            have hmem := gt_mem h1
            have ihn := fun X => ih (i + 1, X) (by dsimp only; omega)
            clear ih
            simp only [hT] at ihn
            generalize gt p.cs i = z at *
            simp only [go_sem, vw, List.length_map, h2, n0, hx]
            by_cases hz : 0 ≤ z ∧ z ≤ 6
            · refine cP (within_yes hz) ?_
              simp only [go_sem, h3]
              exact ihn _ ⟨h1, fun x hx' => by
                rcases List.mem_append.1 hx' with h | h
                · exact hm x h
                · simp only [List.mem_singleton] at h
                  rw [h]; exact hz⟩ _ (by simp [go_sem, vw])
            · rw [if_pos fun h => hz (h z hmem)]
              refine cP (within_no hz) ?_
              simp only [go_sem]
          · have h2 : ¬ (i : Int) < p.cs.length := by omega
            rw [List.take_of_length_le (by omega)] at hm
            rw [if_neg (fun h => h hm)] at hok ⊢
            have h4 : gmax p.cs = 0 := by
              by_cases h : gmax p.cs = 0
              · exact h
              · rw [if_neg h] at hok; omega
            rw [if_pos h4]
            have hne : p.cs ≠ [] := fun hn => by
              rw [hn] at hl
              simp only [List.length_nil] at hl
              have := Int.mul_pos (show (0 : Int) < p.w by omega) (show (0 : Int) < p.h by omega)
              omega
            have hmx := max_ok hne (fun c hc => (hm c hc).1) hlen
            rw [h4] at hmx
            simp only [go_sem, Rp.v, vw, List.length_map, h2]
            refine cP hmx ?_
            simp only [go_sem]
        · rw [if_pos hl]
          have hl' : ((p.cs.length : Int) != p.w * p.h) = true := by simp [hl]
          simp only [go_sem, List.length_map, em, hl']
      · rw [if_pos (fun h => hh h.2)]
        refine cP (within_no hh) ?_
        simp only [go_sem]
    · rw [if_pos (fun h => hw h.1)]
      refine cP (within_no hw) ?_
      simp only [go_sem]

def numErr (l : List Int) : Int := if ∀ x ∈ l, -1000000 ≤ x ∧ x ≤ 1000000 then 0 else 2
theorem checkNumbers_raw {l : List Int} (hlen : l.length ≤ 1000000) : Ans Try.prog n_field_checkNumbers [vw l] [] (.int .i64 (numErr l)) [] := by
  unfold numErr
  refine spec_run e_field_checkNumbers fun G => ?_
  simp only [go_sem, vw, List.length_map]
  refine loop_ind k_field_checkNumbers_r7.eq_1 (fun a : Nat × Heap => a.1 ≤ l.length ∧ ∀ x ∈ l.take a.1, -1000000 ≤ x ∧ x ≤ 1000000) (fun a => l.length - a.1)
    (fun a => (tsets 15 [(2, .int .i64 0), (5, vw l), (6, .int .i64 l.length), (7, .int .i64 a.1)], a.2)) (0, []) ⟨Nat.zero_le _, by simp⟩ (by simp [go_sem, vw]) rfl ?_
  rintro ⟨i, X⟩ ⟨hi, hm⟩ ih
  dsimp only at hi hm ih ⊢
  by_cases h1 : i < l.length
  · have h2 : (i : Int) < l.length := by omega
    have h3 := idx_next h1 (by omega)
    have n0 : ¬ (i : Int) < 0 := by omega
    have hx := gt_get h1
    have hT : l.take (i + 1) = l.take i ++ [gt l i] := by rw [List.take_add_one, gt_get h1]; rfl
    have hmem := gt_mem h1
    have ihn := fun X => ih (i + 1, X) (by dsimp only; omega)
    clear ih
    simp only [hT] at ihn
    generalize gt l i = z at *
    simp only [go_sem, vw, List.length_map, h2, n0, hx]
    by_cases hz : -1000000 ≤ z ∧ z ≤ 1000000
    · refine cP (within_yes hz) ?_
      simp only [go_sem, h3]
      exact ihn _ ⟨h1, fun x hx' => by
        rcases List.mem_append.1 hx' with h | h
        · exact hm x h
        · simp only [List.mem_singleton] at h
          rw [h]; exact hz⟩ _ (by simp [go_sem, vw])
    · rw [if_neg fun h => hz (h z hmem)]
      refine cP (within_no hz) ?_
      simp only [go_sem]
  · have h2 : ¬ (i : Int) < l.length := by omega
    rw [List.take_of_length_le (by omega)] at hm
    rw [if_pos hm]
    simp only [go_sem, vw, List.length_map, h2]

def Rp.errV (p : Rp) (v : List Int) : Int := if p.err ≠ 0 then p.err else if (v.length : Int) ≠ gmax p.cs then 3 else numErr v
theorem CheckVolts_raw (p : Rp) {v : List Int} (hlen : p.cs.length ≤ 1000000) (hv : v.length ≤ 1000000) : Ans Try.prog n_field_CheckVolts [p.v, vw v] [] (.int .i64 (p.errV v)) [] := by
  have c1 := Check_raw p hlen
  have c3 := checkNumbers_raw hv
  unfold Rp.errV
  refine spec_run e_field_CheckVolts fun G => ?_
  simp only [go_sem, Rp.v, vw]
  refine cP c1 ?_
  by_cases h : p.err = 0
  · obtain ⟨hp, _⟩ := Rp.ok h
    have hmx : Ans Try.prog n_slices_Max_int_int [vw p.cs] [] (.int .i64 (gmax p.cs)) [] := max_ok hp.ne (fun c hc => (hp.cell c hc).1) hlen
    have h' : (p.err != 0) = false := by simp [h]
    rw [if_neg fun h2 => h2 h]
    simp only [go_sem, List.length_map, h']
    refine cP hmx ?_
    by_cases h2 : (v.length : Int) = gmax p.cs
    · have h2' : ((v.length : Int) != gmax p.cs) = false := by simp [h2]
      rw [if_neg fun h3 => h3 h2]
      simp only [go_sem, h2', vw]
      refine cP c3 ?_
      simp only [go_sem]
    · have h2' : ((v.length : Int) != gmax p.cs) = true := by simp [h2]
      rw [if_pos h2]
      simp only [go_sem, h2']
  · have h' : (p.err != 0) = true := by simp [h]
    rw [if_pos h]
    simp only [go_sem, h']
end Go.Proofs

namespace Go.Proofs
open Go Go.Sx
attribute [local irreducible] Run

def Rp.errS (p : Rp) (v : List Int) (n : Int) : Int := if p.errV v ≠ 0 then p.errV v else if 0 ≤ n ∧ n ≤ 200 then 0 else 2
theorem Rp.okS {p : Rp} {v : List Int} {n : Int} (h : p.errS v n = 0) : (PlOK p.pl ∧ p.v = p.pl.v) ∧ VOK v ∧ (v.length : Int) = gmax p.pl.cs ∧ 0 ≤ n ∧ n ≤ 200 := by
  unfold Rp.errS at h
  by_cases h1 : p.errV v = 0
  · rw [if_neg fun h2 => h2 h1] at h
    have hn : 0 ≤ n ∧ n ≤ 200 := by
      by_cases h2 : 0 ≤ n ∧ n ≤ 200
      · exact h2
      · rw [if_neg h2] at h; omega
    unfold Rp.errV at h1
    by_cases h3 : p.err = 0
    · rw [if_neg fun h4 => h4 h3] at h1
      by_cases h4 : (v.length : Int) = gmax p.cs
      · rw [if_neg fun h5 => h5 h4] at h1
        refine ⟨Rp.ok h3, ?_, h4, hn⟩
        unfold numErr at h1
        by_cases h5 : ∀ x ∈ v, -1000000 ≤ x ∧ x ≤ 1000000
        · exact h5
        · rw [if_neg h5] at h1; omega
      · rw [if_pos h4] at h1; omega
    · rw [if_pos h3] at h1; exact absurd h1 h3
  · rw [if_pos h1] at h; exact absurd h h1

end Go.Proofs

