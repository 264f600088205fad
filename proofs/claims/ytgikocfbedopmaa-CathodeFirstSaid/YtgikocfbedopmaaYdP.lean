/- Chosen schedules, copies of lists, menus. -/
import Derived.Test.YtgikocfbedopmaaYdO
namespace Go.Proofs
open Go Go.Sx
attribute [local irreducible] Run

/-- The heatings of a list. -/
def pick (menu : List Ht) (l : List Int) : List Ht := l.map fun i => menu.getD i.toNat default
theorem pick_len (menu : List Ht) (l : List Int) : (pick menu l).length = l.length := by simp [pick]
theorem pick_take (menu : List Ht) {l : List Int} {i : Nat} {x : Int} (h : l[i]? = some x) : pick menu (l.take (i + 1)) = pick menu (l.take i) ++ [menu.getD x.toNat default] := by
  rw [List.take_add_one, h]; simp [pick]

theorem hts_belS {S : Nat → Prop} (l : List Ht) : Bels S (l.map Ht.v) := bels_map _ _ fun a => by simp only [go_sem, Ht.v, Ht.cs]
theorem hts_snoc (xs : List Ht) (y : Ht) : xs.map Ht.v ++ [.agg [.int .i64 y.ticks, .int .i64 y.heat, .int .i64 y.cur]] = (xs ++ [y]).map Ht.v := by
  simp [Ht.v, Ht.cs]

def choT (menu : List Ht) (l : List Int) (i : Nat) : List (Nat × AVal) := [(0, .view (menu.map Ht.v)), (5, .sl 1 0 i), (8, .view (ivs l)), (9, .int .i64 l.length), (10, .int .i64 i)]
set_option maxHeartbeats 1000000 in
theorem chosen_run (menu : List Ht) (l : List Int) (hl : l.length ≤ 1000) (h0 : 0 < l.length) (hi : ∀ x ∈ l, 0 ≤ x ∧ x < menu.length) :
    Ans Try.prog n_cathode_chosen [.view (menu.map Ht.v), .view (ivs l)] [] (.sl 0 0 l.length) [some (.cells true 3 ((pick menu l).map Ht.v))] := by
  refine Ans.keep (run_fn e_cathode_chosen fun G => ?_) (Nat.zero_le _) (by simp [go_sem]) ⟨by rw [row_bel_cells]; exact hts_belS _, trivial⟩
  have hd : ∀ i, i < l.length → l[i]? = some (l.getD i 0) := fun i h => by simp [h]
  have hv : ∀ i, i < l.length → (ivs l)[i]? = some (.int .i64 (l.getD i 0)) := fun i h => ivs_get (hd i h)
  have hm : ∀ i, i < l.length → (¬ l.getD i 0 < 0) ∧ menu[(l.getD i 0).toNat]? = some (menu.getD (l.getD i 0).toNat default) := fun i h => by
    have := hi _ (List.mem_of_getElem? (hd i h))
    have h1 : (l.getD i 0).toNat < menu.length := by omega
    generalize (l.getD i 0).toNat = k at *
    exact ⟨by omega, by simp [h1]⟩
  have g0 : (0 : Int) < l.length := by omega
  obtain ⟨m1, m2⟩ := hm 0 h0
  have v0 := hv 0 h0
  have d0 := hd 0 h0
  simp only [go_sem, ivs_len]
  refine loop_body 500 k_cathode_chosen_r7.eq_1 ?_
  simp only [go_sem, g0, v0, m1, m2, Ht.v, Ht.cs]
  refine ⟨by decide, ?_⟩
  refine loop_ind k_cathode_chosen_r7.eq_1 (fun a : Nat × Row × Heap => 1 ≤ a.1 ∧ a.1 ≤ l.length) (fun a => l.length - a.1)
    (fun a => (tsets 23 (choT menu l a.1), [some a.2.1, some (.cells true 3 ((pick menu (l.take a.1)).map Ht.v))] ++ a.2.2)) (1, _, []) ⟨Nat.le_refl _, h0⟩ (by simp [go_sem, choT]; rfl) (by rw [pick_take menu d0]; simp [pick, Ht.v, Ht.cs]; rfl) ?_
  rintro ⟨i, g, X⟩ ⟨hi1, hi2⟩ ih
  dsimp only at hi1 hi2 ih ⊢
  by_cases h1 : i < l.length
  · have h2 : (i : Int) < l.length := by omega
    have n0 : ¬ (i : Int) < 0 := by omega
    obtain ⟨m1, m2⟩ := hm i h1
    have v1 := hv i h1
    have d1 := hd i h1
    have h3 := idx_next h1 (by omega)
    have ht : (pick menu (l.take i)).length = i := by rw [pick_len]; simp; omega
    simp only [go_sem, choT, h2, n0, v1, m1, m2, ht, h3, Ht.v, Ht.cs, hts_snoc, ← pick_take menu d1]
    exact ⟨by omega, ih (i + 1, g, X ++ [_]) (by dsimp only; omega) ⟨by dsimp only; omega, h1⟩ _ (by simp [go_sem, choT])⟩
  · have h2 : ¬ (i : Int) < l.length := by omega
    have h3 : i = l.length := by omega
    subst h3
    simp only [go_sem, choT, h2, List.take_length]
    exact kept_one 1 rfl (by rw [row_bel_cells]; exact hts_belS _) rfl

theorem Clone_run (l : List Int) (h0 : 0 < l.length) (hl : l.length ≤ 1000) : Ans Try.prog n_slices_Clone_int_int [.sl 0 0 l.length] [some (.cells false 1 (ivs l))] (.sl 1 0 l.length) [some (.cells false 1 (ivs l)), some (.cells true 1 (ivs l))] := by
  refine spec_run e_slices_Clone_int_int fun G => ?_
  have ht : (ivs l).take l.length = ivs l := List.take_of_length_le (by rw [ivs_len]; exact Nat.le_refl _)
  have hs : sizedAll 1 (ivs l) = true := by
    unfold sizedAll
    rw [List.all_eq_true]
    intro v hv
    obtain ⟨n, _, rfl⟩ := List.mem_map.1 hv
    rfl
  simp only [go_sem, ivs_len, ht, hs]
  exact ⟨by omega, _, rfl⟩

set_option maxHeartbeats 1000000 in
theorem checkMenu_run (menu : List Ht) (hl : LsOK menu) (h0 : 1 ≤ menu.length ∧ menu.length ≤ 4) (ht : ∀ z ∈ menu, z.ticks ≤ 100) (m : Int) (hm : 1 ≤ m ∧ m ≤ 5) :
    Ans Try.prog n_cathode_checkMenu [.view (menu.map Ht.v), .int .i64 m] [] (.int .i64 0) [] := by
  have g1 : ((menu.length : Int) == 0) = false := by simp only [beq_eq_false_iff_ne, ne_eq]; omega
  have g2 : ¬ (4 : Int) < menu.length := by omega
  refine spec_run e_cathode_checkMenu fun G => ?_
  simp only [go_sem, g1, g2]
  refine cP (CheckSchedule_run menu hl) ?_
  simp only [go_sem]
  refine loop_ind k_cathode_checkMenu_r14.eq_1 (fun a : Nat × Heap => a.1 ≤ menu.length) (fun a => menu.length - a.1)
    (fun a => (tsets 32 [(1, .int .i64 m), (19, .view (menu.map Ht.v)), (20, .int .i64 menu.length), (21, .int .i64 a.1)], a.2)) (0, []) (Nat.zero_le _) (by simp [go_sem]) rfl ?_
  rintro ⟨i, X⟩ hi ih
  dsimp only at hi ih ⊢
  by_cases h1 : i < menu.length
  · have h2 : (i : Int) < menu.length := by omega
    have n0 : ¬ (i : Int) < 0 := by omega
    have hx : menu[i]? = some menu[i] := List.getElem?_eq_getElem h1
    have hz : ¬ (100 : Int) < menu[i].ticks := by have h := ht _ (List.getElem_mem h1); exact Int.not_lt.2 h
    have h3 := idx_next h1 (by omega)
    generalize menu[i] = z at *
    simp only [go_sem, h2, n0, hx, Ht.v, Ht.cs, hz, h3]
    exact ih (i + 1, X ++ [_]) (by dsimp only; omega) h1 _ (by simp [go_sem])
  · have h2 : ¬ (i : Int) < menu.length := by omega
    simp only [go_sem, h2]
    refine cP (within_yes hm) ?_
    simp only [go_sem]
end Go.Proofs
