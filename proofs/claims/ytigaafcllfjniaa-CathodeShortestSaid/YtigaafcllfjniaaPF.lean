/- A part of the proof. -/
import Derived.Test.YtigaafcllfjniaaPE
set_option linter.unusedSimpArgs false
set_option linter.unusedVariables false
namespace Go.Proofs
open Go Go.Sx
attribute [local irreducible] Run

def digR (c : Nat) : Nat → Nat → List Int
  | 0, _ => []
  | n + 1, w => ((w % c : Nat) : Int) :: digR c n (w / c)
def digL (c n w : Nat) : List Int := (digR c n w).reverse
theorem digR_len (c : Nat) : ∀ n w, (digR c n w).length = n
  | 0, _ => rfl
  | n + 1, w => by simp [digR, digR_len c n]
theorem digL_len (c n w : Nat) : (digL c n w).length = n := by simp [digL, digR_len]
theorem digR_in {c : Nat} (hc : 0 < c) : ∀ n w, ∀ d ∈ digR c n w, 0 ≤ d ∧ d < c
  | 0, _, d, h => by simp [digR] at h
  | n + 1, w, d, h => by
    rcases List.mem_cons.1 h with rfl | h
    · have := Nat.mod_lt w hc
      omega
    · exact digR_in hc n _ d h
theorem digL_in {c : Nat} (hc : 0 < c) (n w : Nat) : ∀ d ∈ digL c n w, 0 ≤ d ∧ d < c := fun d h => digR_in hc n w d (List.mem_reverse.1 h)
theorem digR_zero (c : Nat) : ∀ n, digR c n 0 = List.replicate n 0
  | 0 => rfl
  | n + 1 => by simp [digR, digR_zero c n, List.replicate_succ]
theorem digL_zero (c n : Nat) : ivs (digL c n 0) = List.replicate n (.int .i64 0) := by simp [digL, digR_zero, ivs]
theorem advR_dig {c : Nat} (hc : 0 < c) : ∀ n w, w < c ^ n → advR c (digR c n w) = if w + 1 < c ^ n then (digR c n (w + 1), true) else (digR c n 0, false)
  | 0, w, h => by
    have : w = 0 := by simpa using h
    subst this
    simp [digR, advR]
  | n + 1, w, h => by
    have hd : w / c < c ^ n := by rw [Nat.div_lt_iff_lt_mul hc]; rw [Nat.pow_succ] at h; exact h
    have ih := advR_dig hc n (w / c) hd
    have hm := Nat.mod_lt w hc
    have hdm := Nat.div_add_mod w c
    unfold digR advR
    by_cases h1 : w % c + 1 < c
    · have h2 : ((w % c : Nat) : Int) + 1 < c := by omega
      have h3 : (w + 1) / c = w / c := by
        rw [show w + 1 = (w % c + 1) + c * (w / c) by omega, Nat.add_mul_div_left _ _ hc, Nat.div_eq_of_lt h1]; omega
      have h4 : (w + 1) % c = w % c + 1 := by
        rw [show w + 1 = (w % c + 1) + c * (w / c) by omega, Nat.add_mul_mod_self_left, Nat.mod_eq_of_lt h1]
      have h5 : w + 1 < c ^ (n + 1) := by
        rw [Nat.pow_succ, ← Nat.div_lt_iff_lt_mul hc, h3]; exact hd
      rw [if_pos h2, if_pos h5, h3, h4]
      simp
    · have h2 : ¬ ((w % c : Nat) : Int) + 1 < c := by omega
      have h3 : (w + 1) / c = w / c + 1 := by
        rw [show w + 1 = 0 + c * (w / c + 1) by rw [Nat.mul_add]; omega, Nat.add_mul_div_left _ _ hc]; simp
      have h4 : (w + 1) % c = 0 := by
        rw [show w + 1 = 0 + c * (w / c + 1) by rw [Nat.mul_add]; omega, Nat.add_mul_mod_self_left]; simp
      have h5 : w + 1 < c ^ (n + 1) ↔ w / c + 1 < c ^ n := by
        rw [Nat.pow_succ, ← Nat.div_lt_iff_lt_mul hc, h3]
      rw [if_neg h2, ih, h3, h4]
      by_cases h6 : w / c + 1 < c ^ n
      · rw [if_pos h6, if_pos (h5.2 h6)]; simp
      · rw [if_neg h6, if_neg fun h => h6 (h5.1 h)]; simp

theorem lists_run (c m : Int) : Ans Try.prog n_cathode_lists [.int .i64 c, .int .i64 m] [] (.fn (.func n_cathode_lists_1) [] [.ptr 1 0 0 1, .ptr 0 0 0 1]) [some (.cells false 1 [.int .i64 c]), some (.cells false 1 [.int .i64 m])] := by
  refine spec_run e_cathode_lists fun G => ?_
  simp only [go_sem]
  exact ⟨_, rfl⟩

structure ListBody (G : Ctx) (c m r jm jc N : Nat) (Pre : Nat → Nat → Heap → Prop) (PreQ : Nat → Nat → Nat → Heap → Prop) : Prop where
  row : ∀ s w H, Pre s w H → N ≤ H.length ∧ H[jm]? = some (some (.cells false 1 [.int .i64 m])) ∧ H[jc]? = some (some (.cells false 1 [.int .i64 c]))
  fresh : ∀ s w H x, Pre s w H → PreQ s w H.length (H ++ [x])
  drop : ∀ s w q H, PreQ s w q H → Pre s w H
  set : ∀ s w q H x, PreQ s w q H → PreQ s w q (H.set q x)
  next : ∀ s H, 1 ≤ s → s ≤ m → Pre s (c ^ s) H → Pre (s + 1) 0 H
  round : ∀ s w H q, 1 ≤ s → s ≤ m → w < c ^ s → PreQ s w q H → H[q]? = some (some (.cells false 1 (ivs (digL c s w)))) → RoundW Try.prog G r [.sl q 0 s] H fun v H' =>
    (H.length ≤ H'.length ∧ H'[q]? = H[q]?) ∧ v = .bool true ∧ PreQ s (w + 1) q H'

set_option maxHeartbeats 1000000 in
theorem lists1_iter {G : Ctx} {c m r jm jc N : Nat} (hc : 0 < c ∧ c ≤ 100) (hm : m ≤ 100) {Pre : Nat → Nat → Heap → Prop} {PreQ : Nat → Nat → Nat → Heap → Prop} (hB : ListBody G c m r jm jc N Pre PreQ) {H0 : Heap} (h0 : Pre 1 0 H0) :
    CallW Try.prog G n_cathode_lists_1 [.yfn r, .ptr jm 0 0 1, .ptr jc 0 0 1] H0 fun v H' => v = .tup [] ∧ Pre (m + 1) 0 H' := by
  refine callW_run 3000 e_cathode_lists_1 ?_
  simp only [go_sem]
  refine loop_ind k_cathode_lists_1_r9.eq_1 (fun a : Nat × Heap => 1 ≤ a.1 ∧ a.1 ≤ m + 1 ∧ H0.length ≤ a.2.length ∧ Pre a.1 0 a.2) (fun a => m + 1 - a.1)
    (fun a => (tsets 22 [(0, .yfn r), (1, .ptr jm 0 0 1), (2, .ptr jc 0 0 1), (4, .int .i64 a.1)], a.2)) (1, H0) ⟨Nat.le_refl _, by simp, Nat.le_refl _, h0⟩ (by simp [go_sem]) rfl ?_
  rintro ⟨s, H⟩ ⟨hs1, hs, hH0, hp⟩ ih
  dsimp only at hs1 hs hH0 hp ih ⊢
  obtain ⟨hN, hjm, hjc⟩ := hB.row s 0 H hp
  by_cases h1 : s ≤ m
  · have h2 : (s : Int) ≤ m := by omega
    have w1 : IntKind.i64.wrap ((s : Int) + 1) = ((s + 1 : Nat) : Int) := by rw [w64 (by omega)]; omega
    have m1 : 0 ≤ (s : Int) ∧ (s : Int) ≤ s ∧ (s : Int) ≤ 2 ^ 44 ∧ (s : Int) * (8 : Nat) ≤ 2 ^ 44 := by omega
    have hcs : 0 < c ^ s := Nat.pow_pos hc.1
    have hz := digL_zero c s
    simp only [go_sem, cells_at hjm, h2, m1]
    refine ⟨by omega, ?_⟩
    rw [← hz]
    refine loop_ind k_cathode_lists_1_r7.eq_1 (fun a : Nat × Heap => a.1 ≤ c ^ s ∧ H0.length ≤ a.2.length ∧ PreQ s a.1 H.length a.2 ∧ (a.1 < c ^ s → a.2[H.length]? = some (some (.cells false 1 (ivs (digL c s a.1)))))) (fun a => c ^ s - a.1)
      (fun a => (tsets 22 [(0, .yfn r), (1, .ptr jm 0 0 1), (2, .ptr jc 0 0 1), (4, .int .i64 s), (5, .sl H.length 0 s), (6, .bool (decide (a.1 < c ^ s)))], a.2))
      (0, _) ⟨Nat.zero_le _, by simp; omega, hB.fresh _ _ _ _ hp, fun _ => get_end _ _⟩ (by simp [go_sem, hcs]) rfl ?_
    rintro ⟨w, J⟩ ⟨hw, hJ0, hpj, hJz⟩ ih2
    dsimp only at hw hJ0 hpj hJz ih2 ⊢
    by_cases h3 : w < c ^ s
    · have hq := hJz h3
      have hql := (List.getElem?_eq_some_iff.1 hq).1
      have hrd := hB.round s w J H.length hs1 h1 h3 hpj hq
      have hA := advance_run c (by omega) (digR c s w) (fun d hd => by have := digR_in hc.1 s w d hd; omega) (by rw [digR_len]; omega) (by rw [digR_len]; omega)
      rw [advR_dig hc.1 s w h3, digR_len] at hA
      simp only [go_sem, h3, decide_true]
      refine yieldR _ rfl rfl (by simp [go_sem]) (by simp [go_sem]) hJ0 ?_
      refine hrd.mono ?_
      rintro v J' ⟨⟨q1, q2⟩, rfl, q3⟩
      refine ⟨fun q hq => by simp at hq, ?_⟩
      obtain ⟨hN', hjm', hjc'⟩ := hB.row s (w + 1) J' (hB.drop _ _ _ _ q3)
      have hq' : J'[H.length]? = some (some (.cells false 1 (ivs (digL c s w)))) := by rw [q2]; exact hq
      have hql' := (List.getElem?_eq_some_iff.1 hq').1
      have en : nth [H.length] 0 = H.length := rfl
      have hput : ∀ x, Heap.put J' H.length x = J'.set H.length (some x) := fun x => put_lt hql'
      have hset : ∀ x, PreQ s (w + 1) H.length (J'.set H.length x) := fun x => hB.set _ _ _ _ _ q3
      have hget : ∀ x, (J'.set H.length (some x))[H.length]? = some (some x) := fun x => by simp [hql']
      simp only [go_sem, cells_at hjc']
      by_cases h5 : w + 1 < c ^ s
      · rw [if_pos h5] at hA
        refine callS hA [H.length] (by simp) ⟨by rw [Row.ren_same (ivs_row _ _ _)]; exact hq', trivial⟩ rfl ⟨by simp [go_sem], .int _ _, trivial⟩ ⟨ivs_row _ _ _, trivial⟩ (by simp) (.bool _) ⟨ivs_row _ _ _, trivial⟩ (by simpa using hql') (by omega) (by simp) ?_
        simp only [go_sem, outΔ, outσ, ren, Row.ren, rens_ivs, en, hput]
        refine ih2 (w + 1, _) (by dsimp only; omega) ⟨h3, by simp; omega, hset _, fun _ => hget _⟩ _ (by simp [go_sem, h5])
      · rw [if_neg h5] at hA
        refine callS hA [H.length] (by simp) ⟨by rw [Row.ren_same (ivs_row _ _ _)]; exact hq', trivial⟩ rfl ⟨by simp [go_sem], .int _ _, trivial⟩ ⟨ivs_row _ _ _, trivial⟩ (by simp) (.bool _) ⟨ivs_row _ _ _, trivial⟩ (by simpa using hql') (by omega) (by simp) ?_
        simp only [go_sem, outΔ, outσ, ren, Row.ren, rens_ivs, en, hput]
        refine ih2 (w + 1, _) (by dsimp only; omega) ⟨h3, by simp; omega, hset _, fun h => absurd h h5⟩ _ (by simp [go_sem, h5])
    · have h4 : w = c ^ s := by omega
      simp only [go_sem, h3, decide_false, w1]
      refine ih (s + 1, J) (by dsimp only; omega) ⟨by dsimp only; omega, by dsimp only; omega, hJ0, hB.next s J hs1 h1 (h4 ▸ hB.drop _ _ _ _ hpj)⟩ _ (by simp [go_sem])
  · have h2 : ¬ (s : Int) ≤ m := by omega
    simp only [go_sem, cells_at hjm, h2]
    exact (show s = m + 1 by omega) ▸ hp
end Go.Proofs

namespace Go.Proofs
open Go Go.Sx
attribute [local irreducible] Run

def pick (menu : List Ht) (l : List Int) : List Ht := l.map fun i => menu.getD i.toNat default
theorem pick_len (menu : List Ht) (l : List Int) : (pick menu l).length = l.length := by simp [pick]
theorem pick_take (menu : List Ht) {l : List Int} {i : Nat} {x : Int} (h : l[i]? = some x) : pick menu (l.take (i + 1)) = pick menu (l.take i) ++ [menu.getD x.toNat default] := by
  rw [List.take_add_one, h]; simp [pick]

theorem hts_belS {S : Nat → Prop} (l : List Ht) : Bels S (l.map Ht.v) := bels_map _ _ fun a => by simp only [go_sem, Ht.v, Ht.cs]
theorem hts_snoc (xs : List Ht) (y : Ht) : xs.map Ht.v ++ [.agg [.int .i64 y.ticks, .int .i64 y.heat, .int .i64 y.cur]] = (xs ++ [y]).map Ht.v := by
  simp [Ht.v, Ht.cs]

def choT (menu : List Ht) (l : List Int) (i : Nat) : List (Nat × AVal) := [(0, .view (menu.map Ht.v)), (5, .sl 1 0 i), (8, .view (ivs l)), (9, .int .i64 l.length), (10, .int .i64 i)]
set_option maxHeartbeats 1000000 in
theorem chosen_run (menu : List Ht) (l : List Int) (hl : l.length ≤ 1000) (h0 : 0 < l.length) (hi : ∀ x ∈ l, 0 ≤ x ∧ x < menu.length) :
    Ans Try.prog n_cathode_chosen [.view (menu.map Ht.v), .view (ivs l)] [] (.sl 0 0 l.length) [some (.cells true 3 ((pick menu l).map Ht.v))] := by
  refine Ans.keep (run_fn e_cathode_chosen fun G => ?_) (Nat.zero_le _) (by simp [go_sem]) ⟨by rw [row_bel_cells]; exact hts_belS _, trivial⟩
  have hd : ∀ i, i < l.length → l[i]? = some (l.getD i 0) := fun i h => by simp [h]
  have hv : ∀ i, i < l.length → (ivs l)[i]? = some (.int .i64 (l.getD i 0)) := fun i h => ivs_get (hd i h)
  have hm : ∀ i, i < l.length → (¬ l.getD i 0 < 0) ∧ menu[(l.getD i 0).toNat]? = some (menu.getD (l.getD i 0).toNat default) := fun i h => by
    have := hi _ (List.mem_of_getElem? (hd i h))
    have h1 : (l.getD i 0).toNat < menu.length := by omega
    generalize (l.getD i 0).toNat = k at *
    exact ⟨by omega, by simp [h1]⟩
  have g0 : (0 : Int) < l.length := by omega
  obtain ⟨m1, m2⟩ := hm 0 h0
  have v0 := hv 0 h0
  have d0 := hd 0 h0
  simp only [go_sem, ivs_len]
  refine loop_body 500 k_cathode_chosen_r7.eq_1 ?_
  simp only [go_sem, g0, v0, m1, m2, Ht.v, Ht.cs]
  refine ⟨by decide, ?_⟩
  refine loop_ind k_cathode_chosen_r7.eq_1 (fun a : Nat × Row × Heap => 1 ≤ a.1 ∧ a.1 ≤ l.length) (fun a => l.length - a.1)
    (fun a => (tsets 23 (choT menu l a.1), [some a.2.1, some (.cells true 3 ((pick menu (l.take a.1)).map Ht.v))] ++ a.2.2)) (1, _, []) ⟨Nat.le_refl _, h0⟩ (by simp [go_sem, choT]; rfl) (by rw [pick_take menu d0]; simp [pick, Ht.v, Ht.cs]; rfl) ?_
  rintro ⟨i, g, X⟩ ⟨hi1, hi2⟩ ih
  dsimp only at hi1 hi2 ih ⊢
  by_cases h1 : i < l.length
  · have h2 : (i : Int) < l.length := by omega
    have n0 : ¬ (i : Int) < 0 := by omega
    obtain ⟨m1, m2⟩ := hm i h1
    have v1 := hv i h1
    have d1 := hd i h1
    have h3 := idx_next h1 (by omega)
    have ht : (pick menu (l.take i)).length = i := by rw [pick_len]; simp; omega
    simp only [go_sem, choT, h2, n0, v1, m1, m2, ht, h3, Ht.v, Ht.cs, hts_snoc, ← pick_take menu d1]
    exact ⟨by omega, ih (i + 1, g, X ++ [_]) (by dsimp only; omega) ⟨by dsimp only; omega, h1⟩ _ (by simp [go_sem, choT])⟩
  · have h2 : ¬ (i : Int) < l.length := by omega
    have h3 : i = l.length := by omega
    subst h3
    simp only [go_sem, choT, h2, List.take_length]
    exact kept_one 1 rfl (by rw [row_bel_cells]; exact hts_belS _) rfl

theorem Clone_run (l : List Int) (h0 : 0 < l.length) (hl : l.length ≤ 1000) : Ans Try.prog n_slices_Clone_int_int [.sl 0 0 l.length] [some (.cells false 1 (ivs l))] (.sl 1 0 l.length) [some (.cells false 1 (ivs l)), some (.cells true 1 (ivs l))] := by
  refine spec_run e_slices_Clone_int_int fun G => ?_
  have ht : (ivs l).take l.length = ivs l := List.take_of_length_le (by rw [ivs_len]; exact Nat.le_refl _)
  have hs : sizedAll 1 (ivs l) = true := by
    unfold sizedAll
    rw [List.all_eq_true]
    intro v hv
    obtain ⟨n, _, rfl⟩ := List.mem_map.1 hv
    rfl
  simp only [go_sem, ivs_len, ht, hs]
  exact ⟨by omega, _, rfl⟩

set_option maxHeartbeats 1000000 in
theorem checkMenu_run (menu : List Ht) (hl : LsOK menu) (h0 : 1 ≤ menu.length ∧ menu.length ≤ 4) (ht : ∀ z ∈ menu, z.ticks ≤ 100) (m : Int) (hm : 1 ≤ m ∧ m ≤ 5) :
    Ans Try.prog n_cathode_checkMenu [.view (menu.map Ht.v), .int .i64 m] [] (.int .i64 0) [] := by
  have g1 : ((menu.length : Int) == 0) = false := by simp only [beq_eq_false_iff_ne, ne_eq]; omega
  have g2 : ¬ (4 : Int) < menu.length := by omega
  refine spec_run e_cathode_checkMenu fun G => ?_
  simp only [go_sem, g1, g2]
  refine cP (CheckSchedule_run menu hl) ?_
  simp only [go_sem]
  refine loop_ind k_cathode_checkMenu_r14.eq_1 (fun a : Nat × Heap => a.1 ≤ menu.length) (fun a => menu.length - a.1)
    (fun a => (tsets 32 [(1, .int .i64 m), (19, .view (menu.map Ht.v)), (20, .int .i64 menu.length), (21, .int .i64 a.1)], a.2)) (0, []) (Nat.zero_le _) (by simp [go_sem]) rfl ?_
  rintro ⟨i, X⟩ hi ih
  dsimp only at hi ih ⊢
  by_cases h1 : i < menu.length
  · have h2 : (i : Int) < menu.length := by omega
    have n0 : ¬ (i : Int) < 0 := by omega
    have hx : menu[i]? = some menu[i] := List.getElem?_eq_getElem h1
    have hz : ¬ (100 : Int) < menu[i].ticks := by have h := ht _ (List.getElem_mem h1); exact Int.not_lt.2 h
    have h3 := idx_next h1 (by omega)
    generalize menu[i] = z at *
    simp only [go_sem, h2, n0, hx, Ht.v, Ht.cs, hz, h3]
    exact ih (i + 1, X ++ [_]) (by dsimp only; omega) h1 _ (by simp [go_sem])
  · have h2 : ¬ (i : Int) < menu.length := by omega
    simp only [go_sem, h2]
    refine cP (within_yes hm) ?_
    simp only [go_sem]
end Go.Proofs

namespace Go.Proofs
open Go Go.Sx
attribute [local irreducible] Run

def better (c : Ct) (d : Dm) (menu : List Ht) (b : Option (List Int × Int)) (l : List Int) : Option (List Int × Int) :=
  match b with
  | none => if (judgeV c d (pick menu l)).1 = 1 then some (l, lenOfL (pick menu l)) else none
  | some (k, t) => if t ≤ lenOfL (pick menu l) then some (k, t) else if (judgeV c d (pick menu l)).1 = 1 then some (l, lenOfL (pick menu l)) else some (k, t)
def prevB (c : Ct) (d : Dm) (menu : List Ht) : Nat → Option (List Int × Int)
  | 0 => none
  | k + 1 => (List.range (menu.length ^ (k + 1))).foldl (fun b w => better c d menu b (digL menu.length (k + 1) w)) (prevB c d menu k)
def bst (c : Ct) (d : Dm) (menu : List Ht) (s w : Nat) : Option (List Int × Int) := (List.range w).foldl (fun b w => better c d menu b (digL menu.length s w)) (prevB c d menu (s - 1))
theorem bst_succ (c : Ct) (d : Dm) (menu : List Ht) (s w : Nat) : bst c d menu s (w + 1) = better c d menu (bst c d menu s w) (digL menu.length s w) := by
  unfold bst
  rw [List.range_succ, List.foldl_append]; rfl
theorem bst_next (c : Ct) (d : Dm) (menu : List Ht) {s : Nat} (hs : 1 ≤ s) : bst c d menu (s + 1) 0 = bst c d menu s (menu.length ^ s) := by
  obtain ⟨k, rfl⟩ : ∃ k, s = k + 1 := ⟨s - 1, by omega⟩
  rfl

def BR (b : Option (List Int × Int)) (v : AVal) (t : Int) (X : Heap) (p : Nat) : Prop :=
  match b with
  | none => v = .nilsl ∧ t = 0
  | some (l, n) => 0 < l.length ∧ t = n ∧ ∃ Q, v = .sl (Q + 9) 0 l.length ∧ X[Q]? = some (some (.cells true 1 (ivs l))) ∧ Q ≠ p
theorem BR.app {b : Option (List Int × Int)} {v : AVal} {t : Int} {X : Heap} {p : Nat} (h : BR b v t X p) (Y : Heap) : BR b v t (X ++ Y) p := by
  cases b with
  | none => exact h
  | some l =>
    obtain ⟨h0, h1, Q, h2, h3, h4⟩ := h
    refine ⟨h0, h1, Q, h2, ?_, h4⟩
    rw [List.getElem?_append_left (List.getElem?_eq_some_iff.1 h3).1]; exact h3
theorem BR.out {b : Option (List Int × Int)} {v : AVal} {t : Int} {X : Heap} {p : Nat} (h : BR b v t X p) : BR b v t X X.length := by
  cases b with
  | none => exact h
  | some l =>
    obtain ⟨h0, h1, Q, h2, h3, -⟩ := h
    exact ⟨h0, h1, Q, h2, h3, Nat.ne_of_lt (List.getElem?_eq_some_iff.1 h3).1⟩
theorem BR.put {b : Option (List Int × Int)} {v : AVal} {t : Int} {X : Heap} {p : Nat} (h : BR b v t X p) (x : Option Row) : BR b v t (X.set p x) p := by
  cases b with
  | none => exact h
  | some l =>
    obtain ⟨h0, h1, Q, h2, h3, h4⟩ := h
    exact ⟨h0, h1, Q, h2, by rw [List.getElem?_set_ne (Ne.symm h4)]; exact h3, h4⟩

def shT : List (Nat × AVal) := [(4, .ptr 0 0 0 1), (5, .ptr 1 0 0 1), (6, .ptr 2 0 0 1), (8, .ptr 3 0 0 1), (9, .ptr 4 0 0 1), (33, .fn (.func n_cathode_lists_1) [] [.ptr 6 0 0 1, .ptr 5 0 0 1])]
def shL (st : LoopState) (pe : Option ACode) : Row := .loop (tsets 63 shT) [34] k_cathode_Shortest_r15 k_cathode_Shortest_r16 7 st pe
def shH (c : Ct) (d : Dm) (menu : List Ht) (m : Nat) (v : AVal) (t : Int) (lr : Row) (X : Heap) : Heap :=
  [some (.cells false 7 [c.v (.view (c.bands.map Bd.v))]), some (.cells false 5 [d.v]), some (.cells false 1 [.view (menu.map Ht.v)]), some (.cells false 1 [v]), some (.cells false 1 [.int .i64 t]), some (.cells false 1 [.int .i64 menu.length]), some (.cells false 1 [.int .i64 m]), some .dfr, some lr] ++ X

theorem ivs_frz {l : List Int} {H : Heap} {j n : Nat} {gr : Bool} (h : H[j]? = some (some (.cells gr 1 (ivs l)))) (hn : n = l.length) : frz 6 H (.sl j 0 n) = .view (ivs l) := by
  rw [frz_sl (d := 5) h (by rw [ivs_len]; exact hn)]
  simp only [ivs, List.map_map]
  rfl
theorem lenOf_small : ∀ l : List Ht, (∀ z ∈ l, z.ticks ≤ 100) → lenOfL l ≤ 100 * l.length
  | [], _ => by simp [lenOfL]
  | z :: l, h => by
    have h1 := h z (by simp)
    have h2 := lenOf_small l fun y hy => h y (by simp [hy])
    simp only [lenOfL, List.length_cons]
    omega
theorem pick_ok {menu : List Ht} (hl : LsOK menu) (ht : ∀ z ∈ menu, z.ticks ≤ 100) {L : List Int} (hi : ∀ x ∈ L, 0 ≤ x ∧ x < menu.length) (h5 : L.length ≤ 5) : LsOK (pick menu L) := by
  have hmem : ∀ z ∈ pick menu L, z ∈ menu := fun z hz => by
    obtain ⟨x, hx, rfl⟩ := List.mem_map.1 hz
    have := hi x hx
    have h1 : x.toNat < menu.length := by omega
    rw [List.getD_eq_getElem?_getD, List.getElem?_eq_getElem h1]
    exact List.getElem_mem h1
  have hs := lenOf_small (pick menu L) fun z hz => ht z (hmem z hz)
  rw [pick_len] at hs
  exact ⟨by rw [pick_len]; omega, fun z hz => hl.all z (hmem z hz), by omega⟩

theorem hts_nvr (g : Bool) (l : List Ht) : (Row.cells g 3 (l.map Ht.v)).nv := row_nv_cells _ _ (nvs_map _ _ fun x => by simp only [go_sem, Ht.v, Ht.cs])

section
variable {P : Program} {G : Ctx} {g : FuncId} {args largs : List AVal} {H : Heap} {k : Nat} {rd : Option Nat} {R : Runner} {l : List AOper} {fs : List Sx.Frame} {ρ : List AVal} {ms : List Nat} {Q : Goal} {dst : Option Nat}
theorem cRN {x y : Row} {r : AVal} {j : Nat} (h : Ans P g largs [some x] r [some x, some y]) (hargs : args = largs.map (ren (nth [j]))) (hb : Bels (· < 1) largs) (h0 : H[j]? = some (some x)) (hx : x.bel (fun _ => False)) (hy : y.bel (fun _ => False)) (hr : Bel (· = 1) r)
    (hk : k ≤ H.length) (hms : ∀ q ∈ ms, q ≠ j ∧ H[q]? = some (some .dfr)) (hK : R (.ops l) fs ⟨setD ρ dst (ren (fun _ => H.length) r), H ++ [some y], ms⟩ Q) : CallR P G k R g args dst l fs ρ H ms Q := by
  have hlt := (List.getElem?_eq_some_iff.1 h0).1
  have e : outΔ (outσ [j] H.length) 0 [some x, some y] = [(j, x), (H.length, y)] := by
    simp only [outΔ, Row.ren_same hx, Row.ren_same hy]
    rfl
  refine callS h [j] (by simp) ⟨by rw [Row.ren_same hx]; exact h0, trivial⟩ hargs hb ⟨bel_mono_row hx fun _ h => h.elim, trivial⟩ (by simp) (hr.mono fun q hq => by subst hq; simp) ⟨bel_mono_row hx fun _ h => h.elim, bel_mono_row hy fun _ h => h.elim, trivial⟩ (by simpa using hlt) hk (fun q hq => ?_) ?_
  · rw [e]
    have := (List.getElem?_eq_some_iff.1 (hms q hq).2).1
    refine ⟨?_, (hms q hq).2⟩
    simp only [List.map_cons, List.map_nil, List.mem_cons, List.not_mem_nil, or_false, not_or]
    exact ⟨(hms q hq).1, by omega⟩
  · rw [e]
    have e2 : ren (outσ [j] H.length) r = ren (fun _ => H.length) r := ren_agree (fun q hq => by subst hq; simp [outσ]) hr
    rw [e2]
    simp only [Heap.puts]
    rw [put_same h0, Heap.put_end]
    exact hK
end

def shR : Option (List Int × Int) → AVal
  | none => .tup [.nilsl, .int .i64 0, .int .i64 7]
  | some (l, n) => .tup [.sl 0 0 l.length, .int .i64 n, .int .i64 0]
def shP : Option (List Int × Int) → Heap
  | none => []
  | some (l, _) => [some (.cells true 1 (ivs l))]

set_option maxHeartbeats 4000000 in
set_option maxRecDepth 4000 in
theorem Shortest_fn (c : Ct) (hc : CtOK c) (d : Dm) (hd : DmOK d) (menu : List Ht) (hl : LsOK menu) (h0 : 1 ≤ menu.length ∧ menu.length ≤ 4) (ht : ∀ z ∈ menu, z.ticks ≤ 100) (m : Nat) (hm : 1 ≤ m ∧ m ≤ 5) :
    Go.Sx.Fn Try.prog n_cathode_Shortest [c.v (.view (c.bands.map Bd.v)), d.v, .view (menu.map Ht.v), .int .i64 m] [] fun v H' => ∃ σ, Kept [] (shP (prevB c d menu m)) (shR (prevB c d menu m)) v H' σ := by
  generalize hRES : prevB c d menu m = RES
  refine run_fn e_cathode_Shortest fun G => ?_
  simp only [go_sem, Ct.v, Ct.cs, Dm.v, Dm.cs]
  refine cP (checkDemand_run c hc d hd) ?_
  simp only [go_sem]
  refine cP (checkMenu_run menu hl h0 ht m (by omega)) ?_
  simp only [go_sem, List.length_map]
  refine callS (lists_run menu.length m) [] (by simp) trivial (by simp [ren]) (by simp only [go_sem]) trivial (by simp) (by simp [go_sem]) ⟨by rw [row_bel_cells]; simp only [go_sem], by rw [row_bel_cells]; simp only [go_sem], trivial⟩ (by simp) (by simp) (by simp) ?_
  simp only [go_sem, outΔ, outσ, ren, rens, Row.ren]
  refine rangeF 2000 (ρ := tsets 63 shT) (by simp [go_sem, shT]) (by simp only [go_sem, shT]; rfl)
    (lists1_iter (c := menu.length) (m := m) (r := 8) (jm := 6) (jc := 5) (N := 9) (by omega) (by omega) (Pre := fun s w H => ∃ v t X, H = shH c d menu m v t (shL .ready none) X ∧ BR (bst c d menu s w) v t X X.length)
      (PreQ := fun s w q H => ∃ v t X p, q = p + 9 ∧ p < X.length ∧ H = shH c d menu m v t (shL .ready none) X ∧ BR (bst c d menu s w) v t X p) ⟨?_, ?_, ?_, ?_, ?_, ?_⟩ ⟨_, _, [], rfl, rfl, rfl⟩) (by simp) ?_
  · rintro s w H ⟨v, t, X, rfl, -⟩
    exact ⟨by simp [shH], rfl, rfl⟩
  · rintro s w H x ⟨v, t, X, rfl, h⟩
    exact ⟨v, t, X ++ [x], X.length, by simp [shH], by simp, by simp [shH], h.app [x]⟩
  · rintro s w q H ⟨v, t, X, p, rfl, hp, rfl, h⟩
    exact ⟨v, t, X, rfl, h.out⟩
  · rintro s w q H x ⟨v, t, X, p, rfl, hp, rfl, h⟩
    exact ⟨v, t, X.set p x, p, rfl, by simpa using hp, rfl, h.put x⟩
  · rintro s H hs - ⟨v, t, X, rfl, h⟩
    exact ⟨v, t, X, rfl, by rw [bst_next c d menu hs]; exact h⟩
  · rintro s w H q hs1 hs2 hw ⟨v, t, X, p, rfl, hp, rfl, h⟩ hq
    rw [bst_succ]
    have hXp : X[p]? = some (some (.cells false 1 (ivs (digL menu.length s w)))) := hq
    have hLl := digL_len menu.length s w
    have hLi := digL_in (c := menu.length) (by omega) s w
    generalize digL menu.length s w = L at *
    generalize bst c d menu s w = B at *
    subst hLl
    have hCh := chosen_run menu L (by omega) (by omega) hLi
    have hpl := pick_len menu L
    have hpo := pick_ok hl ht (fun x hx => hLi x hx) (by omega : L.length ≤ 5)
    have hlg := length_run (pick menu L) hpo
    have hJ := judge_run c hc d (pick menu L) hpo
    have hCl := Clone_run L (by omega) (by omega)
    generalize hR : (fun (v : AVal) (H' : Heap) => _) = R
    have hfin : ∀ v' t' Y, BR (better c d menu B L) v' t' (X ++ Y) p → R (.bool true) (shH c d menu m v' t' (shL .ready none) (X ++ Y)) := fun v' t' Y hb => by
      rw [← hR]
      refine ⟨⟨by simp [shH], ?_⟩, rfl, v', t', X ++ Y, p, rfl, by simp; omega, rfl, hb⟩
      show (X ++ Y)[p]? = X[p]?
      rw [List.getElem?_append_left hp]
    clear hR
    have hget : ∀ x, (X ++ [x])[p]? = some (some (.cells false 1 (ivs L))) := fun x => by rw [List.getElem?_append_left hp]; exact hXp
    have hmf : ∀ (H : Heap), frz 6 H (.view (menu.map Ht.v)) = .view (menu.map Ht.v) := fun H => by
      show AVal.view ((menu.map Ht.v).map (frz 5 H)) = _
      rw [hts_frz]
    have hcf : ∀ (H : Heap), frz 6 H (c.v (.view (c.bands.map Bd.v))) = c.v (.view (c.bands.map Bd.v)) := fun H => by simp only [go_sem, frz, bds_frz, Ct.v, Ct.cs]
    refine roundW_run 500 k_cathode_Shortest_r15.eq_1 rfl rfl (ρ' := tsets 63 (shT ++ [(34, .sl (p + 9) 0 L.length)])) rfl ?_
    simp only [go_sem, shT, shH]
    refine roundMid_run 500 k_cathode_Shortest_r16.eq_1 rfl rfl ?_
    simp only [go_sem]
    refine cFN hCh 6 ⟨.inl (hmf _), .inl (ivs_frz (H := _) hXp rfl), trivial⟩ ?_ (hx := by rw [row_bel_cells]; exact hts_belS _) (hxn := hts_nvr _ _)
    simp only [go_sem, ren]
    refine cF hlg 6 ⟨.inl (sch_frz (H := _) (get_end X _) hpl.symm), trivial⟩ ?_
    simp only [go_sem]
    rcases B with _ | ⟨bl, bn⟩
    · obtain ⟨rfl, rfl⟩ := h
      simp only [go_sem, Ct.v, Ct.cs, Dm.v, Dm.cs]
      refine cF hJ 6 ⟨.inl (hcf _), .inl rfl, .inl (sch_frz (H := _) (get_end X _) hpl.symm), trivial⟩ ?_
      simp only [go_sem]
      refine ⟨fun hs => ?_, fun hs => ?_⟩
      · refine cRN hCl (j := p + 9) rfl ⟨by simp [go_sem], trivial⟩ (hget _) (ivs_row _ _ _) (ivs_row _ _ _) (by simp [go_sem]) (by simp) (by simp) ?_
        simp only [go_sem, ren]
        refine roundEnd_on rfl ?_
        simp only [go_sem]
        have hf := fun r => hfin (.sl (X.length + 1 + 9) 0 L.length) (lenOfL (pick menu L)) [some r, some (.cells true 1 (ivs L))] (by
          unfold better
          rw [if_pos hs]
          exact ⟨by omega, rfl, X.length + 1, rfl, by simp, by omega⟩)
        exact hf _
      · refine roundEnd_on rfl ?_
        simp only [go_sem]
        have hf := fun r => hfin .nilsl 0 [some r] (by
          unfold better
          rw [if_neg hs]
          exact ⟨rfl, rfl⟩)
        exact hf _
    · have hbr : ∀ Y, BR (some (bl, bn)) v t (X ++ Y) p := fun Y => BR.app (b := some (bl, bn)) h Y
      obtain ⟨hb0, rfl, Q, rfl, hQ, hQp⟩ := h
      have hQ' := fun x => by
        have h := List.getElem?_append_left (l₂ := [x]) (List.getElem?_eq_some_iff.1 hQ).1
        rw [hQ] at h
        exact cells_at h
      simp only [go_sem, hQ', ivs_len, Ct.v, Ct.cs, Dm.v, Dm.cs]
      refine ⟨fun hn => ?_, fun hn => ?_⟩
      · refine roundEnd_on rfl ?_
        simp only [go_sem]
        have hf := fun r => hfin (.sl (Q + 9) 0 bl.length) t [some r] (by
          unfold better
          simp only [if_pos hn]
          exact hbr _)
        exact hf _
      · refine cF hJ 6 ⟨.inl (hcf _), .inl rfl, .inl (sch_frz (H := _) (get_end X _) hpl.symm), trivial⟩ ?_
        simp only [go_sem]
        refine ⟨fun hs => ?_, fun hs => ?_⟩
        · refine cRN hCl (j := p + 9) rfl ⟨by simp [go_sem], trivial⟩ (hget _) (ivs_row _ _ _) (ivs_row _ _ _) (by simp [go_sem]) (by simp) (by simp) ?_
          simp only [go_sem, ren]
          refine roundEnd_on rfl ?_
          simp only [go_sem]
          have hf := fun r => hfin (.sl (X.length + 1 + 9) 0 L.length) (lenOfL (pick menu L)) [some r, some (.cells true 1 (ivs L))] (by
            unfold better
            simp only [if_neg hn, if_pos hs]
            exact ⟨by omega, rfl, X.length + 1, rfl, by simp, by omega⟩)
          exact hf _
        · refine roundEnd_on rfl ?_
          simp only [go_sem]
          have hf := fun r => hfin (.sl (Q + 9) 0 bl.length) t [some r] (by
            unfold better
            simp only [if_neg hn, if_neg hs]
            exact hbr _)
          exact hf _
  · rintro v H' ⟨rfl, v, t, X, rfl, h⟩
    refine ⟨fun q hq => by simp at hq; subst hq; rfl, _, _, _, _, _, _, _, rfl, by decide, ?_⟩
    rw [show bst c d menu (m + 1) 0 = RES from hRES] at h
    rcases RES with _ | ⟨l, n⟩
    · obtain ⟨rfl, rfl⟩ := h
      simp only [go_sem, shH, shT, tsets]
      exact ⟨by simp, kept_id rfl (by simp only [go_sem, shR]) (by simp [shP])⟩
    · obtain ⟨h0, rfl, Q, rfl, hQ, -⟩ := h
      simp only [go_sem, shH, shT, tsets, cells_at hQ, ivs_len]
      exact ⟨by simp, kept_one (Q + 9) (by simp [shR, ren, rens]) (ivs_row _ _ _) hQ⟩

theorem Shortest_run (c : Ct) (hc : CtOK c) (d : Dm) (hd : DmOK d) (menu : List Ht) (hl : LsOK menu) (h0 : 1 ≤ menu.length ∧ menu.length ≤ 4) (ht : ∀ z ∈ menu, z.ticks ≤ 100) (m : Nat) (hm : 1 ≤ m ∧ m ≤ 5) :
    Ans Try.prog n_cathode_Shortest [c.v (.view (c.bands.map Bd.v)), d.v, .view (menu.map Ht.v), .int .i64 m] [] (shR (prevB c d menu m)) (shP (prevB c d menu m)) := by
  have h := Shortest_fn c hc d hd menu hl h0 ht m hm
  generalize prevB c d menu m = RES at *
  refine Ans.keep h (Nat.zero_le _) ?_ ?_
  · rcases RES with _ | ⟨l, n⟩
    · simp only [shR, go_sem]
    · simp [shR, shP, go_sem]
  · rcases RES with _ | ⟨l, n⟩
    · trivial
    · exact ⟨ivs_row _ _ _, trivial⟩
end Go.Proofs

namespace Go.Proofs
open Go Go.Sx
attribute [local irreducible] Run

def SlI (H : Heap) (v : AVal) (l : List Int) : Prop := (v = .nilsl ∧ l = []) ∨ ∃ q, v = .sl q 0 l.length ∧ H[q]? = some (some (.cells true 1 (ivs l)))
def Sls (H : Heap) : List AVal → List (List Int) → Prop
  | [], [] => True
  | v :: vs, l :: ls => SlI H v l ∧ Sls H vs ls
  | _, _ => False
theorem Sls.len {H : Heap} : ∀ {vs : List AVal} {ls : List (List Int)}, Sls H vs ls → vs.length = ls.length
  | [], [], _ => rfl
  | v :: vs, l :: ls, h => by simp [Sls.len h.2]
  | [], _ :: _, h => h.elim
  | _ :: _, [], h => h.elim
theorem Sls.get {H : Heap} : ∀ {vs : List AVal} {ls : List (List Int)}, Sls H vs ls → ∀ (i : Nat) (l : List Int), ls[i]? = some l → ∃ v, vs[i]? = some v ∧ SlI H v l
  | v :: vs, l :: ls, h, 0, k, hk => by
    simp at hk; subst hk
    exact ⟨v, rfl, h.1⟩
  | v :: vs, l :: ls, h, i + 1, k, hk => by
    obtain ⟨u, h1, h2⟩ := Sls.get h.2 i k (by simpa using hk)
    exact ⟨u, by simpa using h1, h2⟩
  | [], [], _, i, k, hk => by simp at hk
  | [], _ :: _, h, _, _, _ => h.elim
  | _ :: _, [], h, _, _, _ => h.elim
theorem Sls.snoc {H : Heap} {v : AVal} {l : List Int} (hv : SlI H v l) : ∀ {vs : List AVal} {ls : List (List Int)}, Sls H vs ls → Sls H (vs ++ [v]) (ls ++ [l])
  | [], [], _ => ⟨hv, trivial⟩
  | u :: vs, k :: ls, h => ⟨h.1, Sls.snoc hv h.2⟩
  | [], _ :: _, h => h.elim
  | _ :: _, [], h => h.elim
theorem Sls.map {H H' : Heap} (f : AVal → AVal) (hf : ∀ v l, SlI H v l → SlI H' (f v) l) : ∀ {vs : List AVal} {ls : List (List Int)}, Sls H vs ls → Sls H' (vs.map f) ls
  | [], [], _ => trivial
  | u :: vs, k :: ls, h => ⟨hf _ _ h.1, Sls.map f hf h.2⟩
  | [], _ :: _, h => h.elim
  | _ :: _, [], h => h.elim
theorem Sls.mono {H H' : Heap} (hf : ∀ v l, SlI H v l → SlI H' v l) {vs : List AVal} {ls : List (List Int)} (h : Sls H vs ls) : Sls H' vs ls := by
  have := Sls.map id hf h
  rwa [List.map_id] at this
theorem SlI.app {H : Heap} {v : AVal} {l : List Int} (h : SlI H v l) (Y : Heap) : SlI (H ++ Y) v l := by
  rcases h with h | ⟨q, h1, h2⟩
  · exact .inl h
  · exact .inr ⟨q, h1, by rw [List.getElem?_append_left (List.getElem?_eq_some_iff.1 h2).1]; exact h2⟩
def isSl : AVal → Prop
  | .sl .. => True
  | _ => False
theorem SlI.put {H : Heap} {v : AVal} {l : List Int} (h : SlI H v l) {j : Nat} {g : Bool} {sz : Nat} {u : AVal} {us : List AVal} (hj : H[j]? = some (some (.cells g sz (u :: us)))) (hu : isSl u) (x : Option Row) : SlI (H.set j x) v l := by
  rcases h with h | ⟨q, h1, h2⟩
  · exact .inl h
  · refine .inr ⟨q, h1, ?_⟩
    by_cases hq : j = q
    · subst hq
      rw [hj] at h2
      simp only [Option.some.injEq, Row.cells.injEq] at h2
      cases l with
      | nil => simp [ivs] at h2
      | cons a l =>
        simp only [ivs, List.map_cons, List.cons.injEq] at h2
        rw [h2.2.2.1] at hu
        exact hu.elim
    · rw [List.getElem?_set_ne hq]; exact h2

theorem cells_more {H : Heap} {j : Nat} {r : Bool × Nat × List AVal} (h : H.cellsAt j = some r) (Y : Heap) : (H ++ Y).cellsAt j = some r := by
  unfold Heap.cellsAt at *
  rcases hj : H[j]? with _ | _ | x
  · rw [hj] at h; simp at h
  · rw [hj] at h; simp at h
  · rw [List.getElem?_append_left (List.getElem?_eq_some_iff.1 hj).1, hj]
    rw [hj] at h
    exact h
theorem put_more {H : Heap} {j : Nat} (h : j < H.length) (Y : Heap) (x : Row) : Heap.put (H ++ Y) j x = H.set j (some x) ++ Y := by
  rw [put_lt (by simp; omega), List.set_append_left _ _ h]
def WF (H : Heap) : Prop := ∀ i, i < H.length → ∃ x, H[i]? = some (some x) ∧ x.bel (· < H.length)
theorem full_of {S : Nat → Prop} : ∀ {H : Heap}, (∀ i, i < H.length → ∃ x, H[i]? = some (some x) ∧ x.bel S) → Full S H
  | [], _ => trivial
  | some x :: H, h => by
    obtain ⟨y, hy, hb⟩ := h 0 (by simp)
    simp at hy; subst hy
    exact ⟨hb, full_of fun i hi => by
      obtain ⟨z, h1, h2⟩ := h (i + 1) (by simpa using hi)
      exact ⟨z, by simpa using h1, h2⟩⟩
  | none :: H, h => by
    obtain ⟨y, hy, _⟩ := h 0 (by simp)
    simp at hy
theorem WF.full {H : Heap} (h : WF H) : Full (· < H.length) H := full_of h
theorem WF.snoc {H : Heap} (h : WF H) {x : Row} (hx : x.bel (· < H.length + 1)) : WF (H ++ [some x]) := fun i hi => by
  simp only [List.length_append, List.length_singleton] at hi ⊢
  by_cases h1 : i < H.length
  · obtain ⟨y, h2, h3⟩ := h i h1
    exact ⟨y, by rw [List.getElem?_append_left h1]; exact h2, bel_mono_row h3 fun q hq => by omega⟩
  · obtain rfl : i = H.length := by omega
    exact ⟨x, by simp, hx⟩
theorem WF.set {H : Heap} (h : WF H) {x : Row} {j : Nat} (hx : x.bel (· < H.length)) : WF (H.set j (some x)) := fun i hi => by
  simp only [List.length_set] at hi ⊢
  by_cases hj : j = i
  · subst hj
    exact ⟨x, by simp [hi], hx⟩
  · obtain ⟨y, h2, h3⟩ := h i hi
    exact ⟨y, by rw [List.getElem?_set_ne hj]; exact h2, h3⟩
theorem WF.row {H : Heap} (h : WF H) {j : Nat} {x : Row} (hj : H[j]? = some (some x)) : x.bel (· < H.length) := by
  obtain ⟨y, h1, h2⟩ := h j (List.getElem?_eq_some_iff.1 hj).1
  rw [hj] at h1; cases h1
  exact h2
theorem ivs_bel' (g : Bool) (l : List Int) (S : Nat → Prop) : (Row.cells g 1 (ivs l)).bel S := by
  rw [row_bel_cells]; exact bels_map _ _ fun _ => .int _ _
def OutOK (H : Heap) (jr : Nat) (v : AVal) (ls : List (List Int)) : Prop :=
  (v = .nilsl ∧ ls = []) ∨ ∃ j u us, v = .sl j 0 ls.length ∧ j ≠ jr ∧ H[j]? = some (some (.cells true 1 (u :: us))) ∧ isSl u ∧ Sls H (u :: us) ls

structure LsInv (H : Heap) (jr : Nat) (gr : Bool) (rv : List AVal) (rest : List (List Int)) (v : AVal) (ls : List (List Int)) : Prop where
  wf : WF H
  row : H[jr]? = some (some (.cells gr 1 rv))
  rest : Sls H rv rest
  out : OutOK H jr v ls

theorem LsInv.old {H : Heap} {jr : Nat} {gr : Bool} {rv : List AVal} {rest : List (List Int)} {v : AVal} {ls : List (List Int)} (h : LsInv H jr gr rv rest v ls) : jr < H.length := (List.getElem?_eq_some_iff.1 h.row).1
theorem ls_first {J : Heap} {jr : Nat} {gr : Bool} {rv : List AVal} {rest : List (List Int)} (h : LsInv J jr gr rv rest .nilsl []) (x : List Int) {n : Nat} (hn : n = x.length) :
    LsInv (J ++ [some (.cells true 1 (ivs x)), some (.cells false 1 [.sl J.length 0 n]), some (.cells true 1 [.sl J.length 0 n])]) jr gr rv rest (.sl (J.length + 2) 0 1) ([] ++ [x]) := by
  subst hn
  have ho := h.old
  have e : J ++ [some (.cells true 1 (ivs x)), some (.cells false 1 [.sl J.length 0 x.length]), some (.cells true 1 [.sl J.length 0 x.length])] = ((J ++ [some (.cells true 1 (ivs x))]) ++ [some (.cells false 1 [.sl J.length 0 x.length])]) ++ [some (.cells true 1 [.sl J.length 0 x.length])] := by simp
  have w1 : WF (J ++ [some (.cells true 1 (ivs x))]) := h.wf.snoc (ivs_bel' _ _ _)
  have w2 : WF ((J ++ [some (.cells true 1 (ivs x))]) ++ [some (.cells false 1 [.sl J.length 0 x.length])]) := w1.snoc (by rw [row_bel_cells]; exact ⟨by rw [bel_sl]; simp only [List.length_append, List.length_cons, List.length_nil]; omega, trivial⟩)
  have w3 := w2.snoc (x := .cells true 1 [.sl J.length 0 x.length]) (by rw [row_bel_cells]; exact ⟨by rw [bel_sl]; simp only [List.length_append, List.length_cons, List.length_nil]; omega, trivial⟩)
  refine ⟨by rw [e]; exact w3, by rw [List.getElem?_append_left ho]; exact h.row, h.rest.mono fun v l hv => hv.app _, .inr ⟨J.length + 2, .sl J.length 0 x.length, [], rfl, by omega, ?_, trivial, ⟨.inr ⟨J.length, rfl, ?_⟩, trivial⟩⟩⟩
  · rw [List.getElem?_append_right (by omega), show J.length + 2 - J.length = 2 by omega]; rfl
  · rw [List.getElem?_append_right (by omega), show J.length - J.length = 0 by omega]; rfl
theorem ls_next {J : Heap} {jr : Nat} {gr : Bool} {rv : List AVal} {rest : List (List Int)} {jo : Nat} {w : AVal} {ws : List AVal} {ls : List (List Int)} (h : LsInv J jr gr rv rest (.sl jo 0 ls.length) ls) (hjo : jo ≠ jr) (hro : J[jo]? = some (some (.cells true 1 (w :: ws)))) (hw : isSl w) (hso : Sls J (w :: ws) ls)
    (x : List Int) {n : Nat} (hn : n = x.length) :
    LsInv (J.set jo (some (.cells true 1 (w :: (ws ++ [.sl J.length 0 n])))) ++ [some (.cells true 1 (ivs x)), some (.cells false 1 [.sl J.length 0 n])]) jr gr rv rest (.sl jo 0 (ls.length + 1)) (ls ++ [x]) := by
  subst hn
  have ho := h.old
  have hlt : jo < J.length := (List.getElem?_eq_some_iff.1 hro).1
  have hrb := h.wf.row hro
  rw [row_bel_cells] at hrb
  generalize hA : some (Row.cells true 1 (w :: (ws ++ [.sl J.length 0 x.length]))) = A
  have hlA : (J.set jo A).length = J.length := List.length_set
  have e : J.set jo A ++ [some (Row.cells true 1 (ivs x)), some (Row.cells false 1 [.sl J.length 0 x.length])] = ((J ++ [some (Row.cells true 1 (ivs x))]) ++ [some (Row.cells false 1 [.sl J.length 0 x.length])]).set jo A := by
    rw [List.append_assoc, List.set_append_left _ _ hlt]; rfl
  have w1 : WF (J ++ [some (.cells true 1 (ivs x))]) := h.wf.snoc (ivs_bel' _ _ _)
  have w2 : WF ((J ++ [some (.cells true 1 (ivs x))]) ++ [some (.cells false 1 [.sl J.length 0 x.length])]) := w1.snoc (by rw [row_bel_cells]; exact ⟨by rw [bel_sl]; simp only [List.length_append, List.length_cons, List.length_nil]; omega, trivial⟩)
  have w3 : WF (((J ++ [some (Row.cells true 1 (ivs x))]) ++ [some (Row.cells false 1 [.sl J.length 0 x.length])]).set jo A) := by
    rw [← hA]
    refine w2.set ?_
    rw [row_bel_cells, ← List.cons_append]
    refine bels_of fun v hv => ?_
    rcases List.mem_append.1 hv with hv | hv
    · exact (bels_mem hrb v hv).mono fun q hq => by simp; omega
    · simp at hv; subst hv; rw [bel_sl]; simp
  have hmv : ∀ v l, SlI J v l → SlI (J.set jo A ++ [some (Row.cells true 1 (ivs x)), some (Row.cells false 1 [.sl J.length 0 x.length])]) v l := fun v l hv => (hv.put hro hw A).app _
  refine ⟨by rw [e]; exact w3, ?_, h.rest.mono hmv, .inr ⟨jo, w, ws ++ [.sl J.length 0 x.length], by simp, hjo, ?_, hw, ?_⟩⟩
  · rw [List.getElem?_append_left (by rw [hlA]; exact ho), List.getElem?_set_ne hjo]; exact h.row
  · rw [List.getElem?_append_left (by rw [hlA]; exact hlt), ← hA]; simp [hlt]
  · have h1 := (hso.mono hmv).snoc (v := .sl J.length 0 x.length) (l := x) (.inr ⟨J.length, rfl, by rw [List.getElem?_append_right (by omega), hlA, Nat.sub_self]; rfl⟩)
    simpa using h1
def lsT (jr nr below : Nat) (v : AVal) (n : Nat) : List (Nat × AVal) := [(1, .int .i64 below), (5, v), (6, .sl jr 0 nr), (7, .int .i64 n)]
set_option maxHeartbeats 4000000 in
theorem ls_inner {G : Ctx} {Q : Goal} {fs : List Sx.Frame} {jr : Nat} {gr : Bool} {rv : List AVal} {rest : List (List Int)} {below n : Nat} {H : Heap} {v : AVal} {ls : List (List Int)} (h : LsInv H jr gr rv rest v ls) (hsz : ls.length + rest.length ≤ 100000) (hll : ∀ l ∈ rest, l.length ≤ 100)
    (hK : ∀ H' v', LsInv H' jr gr rv rest v' (ls ++ rest.map (fun l => (n : Int) :: l)) → Run Try.prog G 0 none 2986 (.out .normal) fs ⟨tsets 38 (lsT jr rest.length below v' n ++ [(8, .int .i64 rest.length), (21, .int .i64 rest.length), (22, .sl jr 0 rest.length), (23, .int .i64 rest.length), (24, .bool false)]), H', []⟩ Q)
    {ρ : List AVal} (hw : Wk ρ (tsets 38 (lsT jr rest.length below v n ++ [(8, .int .i64 0)]))) : Sx.Loop Try.prog G 0 none k_ref03_lists_r11 (.blk 2 :: fs) ⟨ρ, H, []⟩ Q := by
  refine loop_ind k_ref03_lists_r11.eq_1 (fun a : Nat × AVal × Heap => a.1 ≤ rest.length ∧ LsInv a.2.2 jr gr rv rest a.2.1 (ls ++ (rest.take a.1).map (fun l => (n : Int) :: l))) (fun a => rest.length - a.1)
    (fun a => (tsets 38 (lsT jr rest.length below a.2.1 n ++ [(8, .int .i64 a.1)]), a.2.2)) (0, v, H) ⟨Nat.zero_le _, by simpa using h⟩ hw rfl ?_
  rintro ⟨i, u, J⟩ ⟨hi, hI⟩ ih
  dsimp only at hi hI ih ⊢
  by_cases h1 : i < rest.length
  · have h2 : (i : Int) < rest.length := by omega
    have n0 : ¬ (i : Int) < 0 := by omega
    have h3 := idx_next h1 (by omega)
    have hx : rest[i]? = some rest[i] := List.getElem?_eq_getElem h1
    have hlx := hll _ (List.getElem_mem h1)
    have htk : (rest.take (i + 1)).map (fun l => (n : Int) :: l) = (rest.take i).map (fun l => (n : Int) :: l) ++ [(n : Int) :: rest[i]] := by
      rw [List.take_add_one, hx, List.map_append]; rfl
    have hlen : (ls ++ (rest.take i).map (fun l => (n : Int) :: l)).length = ls.length + i := by simp; omega
    obtain ⟨hwf, hrow, hrest, hout⟩ := hI
    obtain ⟨x, hvx, hsx⟩ := hrest.get i _ hx
    have hih := fun u' J' (hJ : LsInv J' jr gr rv rest u' (ls ++ (rest.take i).map (fun l => (n : Int) :: l) ++ [(n : Int) :: rest[i]])) => ih (i + 1, u', J') (by dsimp only; omega) ⟨h1, by dsimp only; rw [htk, ← List.append_assoc]; exact hJ⟩
    clear ih
    dsimp only at hih
    generalize rest[i] = l0 at *
    have hc0 := cells_at hrow
    have hrl := hrest.len
    have hil : i < rv.length := by omega
    have b1 : (1 + l0.length) * 8 ≤ 2 ^ 44 := by omega
    have ht : List.take l0.length (ivs l0) = ivs l0 := List.take_of_length_le (by rw [ivs_len]; exact Nat.le_refl _)
    have hsz1 : sizedAll 1 (ivs l0) = true := by
      unfold sizedAll
      rw [List.all_eq_true]
      intro e he
      obtain ⟨a, _, rfl⟩ := List.mem_map.1 he; rfl
    have hJ0 := fun Y => cells_more hc0 Y
    generalize ls ++ (rest.take i).map (fun l => (n : Int) :: l) = L at *
    clear hx htk
    rcases hout with ⟨rfl, rfl⟩ | ⟨jo, w, ws, rfl, hjo, hro, hw, hso⟩
    · rcases hsx with ⟨rfl, rfl⟩ | ⟨q, rfl, hq⟩
      · simp only [go_sem, lsT, h2, n0, hc0, hJ0, hvx, hrl, h3]
        refine ⟨by decide, by decide, ?_⟩
        exact hih _ _ (ls_first ⟨hwf, hrow, hrest, .inl ⟨rfl, rfl⟩⟩ [(n : Int)] rfl) _ (by simp [go_sem, lsT])
      · have hq0 := cells_at hq
        have hqY := fun Y => cells_more hq0 Y
        simp only [go_sem, lsT, h2, n0, hc0, hJ0, hvx, hrl, hq0, hqY, ivs_len, ht, hsz1, b1, h3]
        refine ⟨by decide, ?_⟩
        exact hih _ _ (ls_first ⟨hwf, hrow, hrest, .inl ⟨rfl, rfl⟩⟩ ((n : Int) :: l0) (by simp; omega)) _ (by simp [go_sem, lsT])
    · have hlo := hso.len
      have hjlt : jo < J.length := (List.getElem?_eq_some_iff.1 hro).1
      have hpm := fun Y x => put_more hjlt Y x
      have hco := fun Y => cells_more (cells_at hro) Y
      have b2 : (L.length + 1) * 24 ≤ 2 ^ 44 := by omega
      have hI0 : LsInv J jr gr rv rest (.sl jo 0 L.length) L := ⟨hwf, hrow, hrest, .inr ⟨jo, w, ws, rfl, hjo, hro, hw, hso⟩⟩
      rcases hsx with ⟨rfl, rfl⟩ | ⟨q, rfl, hq⟩
      · simp only [go_sem, lsT, h2, n0, hc0, hJ0, hvx, hrl, h3, hco, hpm, hlo, b2]
        refine ⟨by decide, ?_⟩
        exact hih _ _ (ls_next hI0 hjo hro hw hso [(n : Int)] rfl) _ (by simp [go_sem, lsT])
      · have hq0 := cells_at hq
        have hqY := fun Y => cells_more hq0 Y
        simp only [go_sem, lsT, h2, n0, hc0, hJ0, hvx, hrl, hq0, hqY, ivs_len, ht, hsz1, b1, h3, hco, hpm, hlo, b2]
        exact hih _ _ (ls_next hI0 hjo hro hw hso ((n : Int) :: l0) (by simp; omega)) _ (by simp [go_sem, lsT])
  · have h2 : ¬ (i : Int) < rest.length := by omega
    obtain rfl : i = rest.length := by omega
    rw [List.take_length] at hI
    have := hK J u hI
    simp only [go_sem, lsT] at this
    have hrl := hI.rest.len
    have hc0 := cells_at hI.row
    simp only [go_sem, lsT, h2, hc0, hrl]
    exact this
end Go.Proofs

namespace Go.Proofs
open Go Go.Sx
attribute [local irreducible] Run

def renH (k : Nat) (X : Heap) : Heap := X.map (Option.map (Row.ren (fun i => k + i)))
theorem renH_len (k : Nat) (X : Heap) : (renH k X).length = X.length := List.length_map _
theorem puts_all {k : Nat} : ∀ {X : Heap} {H : Heap} {i : Nat}, (∀ j, j < X.length → ∃ x, X[j]? = some (some x)) → H.length = k + i → H.puts (outΔ (outσ [] k) i X) = H ++ renH k X
  | [], H, i, _, _ => by simp [outΔ, renH, Heap.puts]
  | none :: X, H, i, h, _ => by
    obtain ⟨x, hx⟩ := h 0 (by simp)
    simp at hx
  | some x :: X, H, i, h, hl => by
    have e : outσ [] k = fun i => k + i := by funext i; simp [outσ]
    have hs : outσ [] k i = H.length := by rw [e]; exact hl.symm
    simp only [outΔ, Heap.puts]
    rw [hs, Heap.put_end, puts_all (k := k) (i := i + 1) (fun j hj => by
      obtain ⟨y, hy⟩ := h (j + 1) (by simpa using hj)
      exact ⟨y, by simpa using hy⟩) (by simp; omega), e]
    simp [renH]
theorem renH_get {k : Nat} {X H : Heap} {j : Nat} {x : Row} (hl : H.length = k) (h : X[j]? = some (some x)) : (H ++ renH k X)[k + j]? = some (some (x.ren fun i => k + i)) := by
  rw [List.getElem?_append_right (by omega), hl, show k + j - k = j by omega]
  unfold renH
  rw [List.getElem?_map, h]; rfl
theorem WF.ren {H X : Heap} (h : WF H) (hX : WF X) : WF (H ++ renH H.length X) := fun i hi => by
  rw [List.length_append, renH_len] at hi ⊢
  by_cases h1 : i < H.length
  · obtain ⟨x, h2, h3⟩ := h i h1
    exact ⟨x, by rw [List.getElem?_append_left h1]; exact h2, bel_mono_row h3 fun q hq => by omega⟩
  · obtain ⟨x, h2, h3⟩ := hX (i - H.length) (by omega)
    refine ⟨_, by have := renH_get (H := H) rfl h2; rwa [show H.length + (i - H.length) = i by omega] at this, Row.bel_push h3 fun q hq => by omega⟩
theorem SlI.ren {H X : Heap} {v : AVal} {l : List Int} (h : SlI X v l) : SlI (H ++ renH H.length X) (Sx.ren (fun i => H.length + i) v) l := by
  rcases h with ⟨rfl, rfl⟩ | ⟨q, rfl, h2⟩
  · exact .inl ⟨rfl, rfl⟩
  · refine .inr ⟨H.length + q, rfl, ?_⟩
    rw [renH_get (H := H) rfl h2, Row.ren_same (ivs_bel' _ _ _)]

section
variable {P : Program} {G : Ctx} {g : FuncId} {args : List AVal} {H : Heap} {k : Nat} {R : Runner} {l : List AOper} {fs : List Sx.Frame} {ρ : List AVal} {ms : List Nat} {Q : Goal} {dst : Option Nat} {α : Type} {Φ : α → Prop} {r : α → AVal} {X : α → Heap}
theorem callX (h : AnsE P g args [] Φ r X) (hb : Bels (fun _ => False) args) (hwf : ∀ a, Φ a → WF (X a) ∧ Bel (· < (X a).length) (r a)) (hk : k ≤ H.length) (hms : ∀ q ∈ ms, H[q]? = some (some .dfr))
    (hK : ∀ a, Φ a → R (.ops l) fs ⟨setD ρ dst (Sx.ren (fun i => H.length + i) (r a)), H ++ renH H.length (X a), ms⟩ Q) : CallR P G k R g args dst l fs ρ H ms Q := by
  have e : outσ [] H.length = fun i => H.length + i := by funext i; simp [outσ]
  refine callE h [] (by simp) trivial (by
    conv => lhs; rw [← List.map_id args]
    exact List.map_congr_left fun v hv => (ren_same (bels_mem hb v hv)).symm) (bels_of fun v hv => (bels_mem hb v hv).mono fun _ h => h.elim) trivial (fun a ha => ⟨by simp, (hwf a ha).2, (hwf a ha).1.full⟩) (fun q hq => by simp at hq) hk (fun a ha q hq => ⟨fun hm => ?_, hms q hq⟩) fun a ha => ?_
  · rw [List.mem_map] at hm
    obtain ⟨⟨r, x⟩, h1, rfl⟩ := hm
    obtain ⟨j, y, -, h2, -⟩ := outΔ_mem h1
    have := (List.getElem?_eq_some_iff.1 (hms _ hq)).1
    rw [e] at h2
    dsimp only at this h2
    omega
  · rw [puts_all (fun i hi => by obtain ⟨x, h, _⟩ := (hwf a ha).1 i hi; exact ⟨x, h⟩) rfl, e]
    exact hK a ha
end

def LS (c : Nat) : Nat → List (List Int)
  | 0 => [[]]
  | s + 1 => (List.range c).flatMap fun n : Nat => (LS c s).map fun l => (n : Int) :: l
theorem LS_len (c : Nat) : ∀ s, (LS c s).length = c ^ s
  | 0 => rfl
  | s + 1 => by
    have h : ∀ n : Nat, ((List.range n).flatMap fun n : Nat => (LS c s).map fun l => (n : Int) :: l).length = n * c ^ s := fun n => by
      induction n with
      | zero => simp
      | succ n ih => rw [List.range_succ, List.flatMap_append, List.length_append, ih]; simp [LS_len c s, Nat.succ_mul]
    rw [LS, h, Nat.pow_succ, Nat.mul_comm]
theorem LS_mem (c : Nat) : ∀ s, ∀ l ∈ LS c s, l.length = s
  | 0, l, h => by simp [LS] at h; subst h; rfl
  | s + 1, l, h => by
    simp only [LS, List.mem_flatMap, List.mem_map] at h
    obtain ⟨n, _, k, hk, rfl⟩ := h
    simp [LS_mem c s k hk]
def lsSome (c n s : Nat) : List (List Int) := (List.range n).flatMap fun n : Nat => (LS c s).map fun l => (n : Int) :: l
theorem lsSome_succ (c n s : Nat) : lsSome c (n + 1) s = lsSome c n s ++ (LS c s).map fun l => (n : Int) :: l := by
  unfold lsSome
  rw [List.range_succ, List.flatMap_append]; simp

theorem lsSome_len (c n s : Nat) : (lsSome c n s).length = n * c ^ s := by
  induction n with
  | zero => simp [lsSome]
  | succ n ih => rw [lsSome_succ, List.length_append, ih, List.length_map, LS_len, Nat.succ_mul]
structure LsAns (c s : Nat) (a : Heap × Nat × Bool × List AVal) : Prop where
  wf : WF a.1
  row : a.1[a.2.1]? = some (some (.cells a.2.2.1 1 a.2.2.2))
  all : Sls a.1 a.2.2.2 (LS c s)
set_option maxHeartbeats 4000000 in
theorem rlists_run (c : Nat) (hc : 1 ≤ c ∧ c ≤ 4) : ∀ s : Nat, s ≤ 5 → AnsE Try.prog n_ref03_lists [.int .i64 s, .int .i64 c] [] (LsAns c s) (fun a => .sl a.2.1 0 (LS c s).length) (fun a => a.1)
  | 0, _ => by
    refine run_fn e_ref03_lists fun G => ?_
    simp only [go_sem]
    exact ⟨([some (.cells false 1 [.nilsl])], 0, false, [.nilsl]), ⟨fun i hi => ⟨.cells false 1 [.nilsl], by simp at hi; subst hi; rfl, by rw [row_bel_cells]; exact ⟨.nilsl, trivial⟩⟩, rfl, ⟨.inl ⟨rfl, rfl⟩, trivial⟩⟩, rfl, [], rfl⟩
  | s + 1, hs => by
    have ihs := rlists_run c hc s (by omega)
    have hw1 : IntKind.i64.wrap (((s + 1 : Nat) : Int) - 1) = (s : Int) := by rw [w64 (by omega)]; omega
    have hz : (((s + 1 : Nat) : Int) == 0) = false := by simp; omega
    refine run_fn e_ref03_lists fun G => ?_
    simp only [go_sem, hw1, hz]
    refine callX ihs ⟨.int _ _, .int _ _, trivial⟩ (fun a ha => ⟨ha.wf, by rw [bel_sl]; exact (List.getElem?_eq_some_iff.1 ha.row).1⟩) (by simp) (by simp) ?_
    rintro ⟨X, j, g, vs⟩ ⟨h1, h2, h3⟩
    dsimp only at h1 h2 h3
    have hl := LS_len c s
    have hp1 : c ^ s ≤ 4 ^ s := Nat.pow_le_pow_left hc.2 _
    have hp2 : 4 ^ s ≤ 4 ^ 4 := Nat.pow_le_pow_right (by decide) (by omega)
    have hw : WF ([] : Heap) := fun i hi => by simp at hi
    have hI : LsInv ([] ++ renH 0 X) (0 + j) g (vs.map (Sx.ren fun i => 0 + i)) (LS c s) .nilsl [] := ⟨hw.ren h1, by
      have := renH_get (H := []) (k := 0) rfl h2
      simp only [Row.ren, rens_eq] at this
      exact this, h3.map _ fun v l hv => hv.ren (H := []), .inl ⟨rfl, rfl⟩⟩
    generalize ([] : Heap) ++ renH 0 X = J0 at hI
    generalize vs.map (Sx.ren fun i => 0 + i) = rv at hI
    rw [Nat.zero_add] at hI
    simp only [go_sem, Sx.ren]
    refine loop_ind k_ref03_lists_r13.eq_1 (fun a : Nat × AVal × Heap => a.1 ≤ c ∧ LsInv a.2.2 j g rv (LS c s) a.2.1 (lsSome c a.1 s)) (fun a => c - a.1)
      (fun a => (tsets 38 (lsT j (LS c s).length c a.2.1 a.1), a.2.2)) (0, .nilsl, J0) ⟨Nat.zero_le _, hI⟩ (by simp [go_sem, lsT]) rfl ?_
    rintro ⟨n, u, J⟩ ⟨hn, hJ⟩ ih
    dsimp only at hn hJ ih ⊢
    by_cases k1 : n < c
    · have k2 : (n : Int) < c := by omega
      have k3 := idx_next k1 (by omega)
      have hls : (lsSome c n s).length ≤ 1024 := by
        have := lsSome_len c n s
        have h4 : n * c ^ s ≤ 4 * 4 ^ 4 := Nat.mul_le_mul (by omega) (by omega)
        omega
      simp only [go_sem, lsT, k2]
      refine ls_inner (below := c) (n := n) hJ (by rw [hl]; omega) (fun l hl => by rw [LS_mem c s l hl]; omega) ?_ (by simp [go_sem, lsT])
      intro J' u' hJ'
      rw [← lsSome_succ] at hJ'
      simp only [go_sem, lsT, k3]
      exact ih (n + 1, u', J') (by dsimp only; omega) ⟨k1, hJ'⟩ _ (by simp [go_sem, lsT])
    · have k2 : ¬ (n : Int) < c := by omega
      obtain rfl : n = c := by omega
      have hpos : 0 < (LS n (s + 1)).length := by rw [LS_len]; exact Nat.pow_pos hc.1
      simp only [go_sem, lsT, k2]
      rcases hJ.out with ⟨rfl, h0⟩ | ⟨jo, w, ws, rfl, -, hro, -, hso⟩
      · have h0' : LS n (s + 1) = [] := h0
        rw [h0'] at hpos; simp at hpos
      · exact ⟨(J, jo, true, w :: ws), ⟨hJ.wf, hro, hso⟩, rfl, [], by simp⟩
end Go.Proofs

namespace Go.Proofs
open Go Go.Sx
attribute [local irreducible] Run

theorem digR_get {c : Nat} (hc : 0 < c) : ∀ (n w j : Nat), j < n → (digR c n w)[j]? = some (((w / c ^ j) % c : Nat) : Int)
  | 0, _, _, h => by omega
  | n + 1, w, 0, _ => by simp [digR]
  | n + 1, w, j + 1, h => by
    have := digR_get hc n (w / c) j (by omega)
    unfold digR
    rw [List.getElem?_cons_succ, this, Nat.div_div_eq_div_mul, Nat.pow_succ, Nat.mul_comm c]
theorem digL_get {c : Nat} (hc : 0 < c) {n w j : Nat} (hj : j < n) : (digL c n w)[j]? = some (((w % c ^ (n - j)) / c ^ (n - j - 1) : Nat) : Int) := by
  unfold digL
  rw [List.getElem?_reverse (by rw [digR_len]; exact hj), digR_len, digR_get hc _ _ _ (by omega)]
  have e : c ^ (n - j) = c ^ (n - j - 1) * c := by rw [← Nat.pow_succ]; congr 1; omega
  rw [e, Nat.mod_mul_right_div_self, show n - 1 - j = n - j - 1 by omega]

theorem cellsAt_add (H X : Heap) (k : Nat) : Heap.cellsAt (H ++ X) (H.length + k) = Heap.cellsAt X k := by
  unfold Heap.cellsAt
  rw [List.getElem?_append_right (by omega), show H.length + k - H.length = k by omega]
theorem cellsAt_app {H : Heap} {j : Nat} {r : Bool × Nat × List AVal} (h : H.cellsAt j = some r) (Y : Heap) : (H ++ Y).cellsAt j = some r := by
  unfold Heap.cellsAt at *
  rcases hj : H[j]? with _ | _ | x
  · rw [hj] at h; simp at h
  · rw [hj] at h; simp at h
  · rw [List.getElem?_append_left (List.getElem?_eq_some_iff.1 hj).1, hj]
    rw [hj] at h
    exact h
theorem take_snoc {α : Type} {l : List α} {i : Nat} {x : α} (h : l[i]? = some x) : l.take (i + 1) = l.take i ++ [x] := by
  rw [List.take_add_one, h]; rfl
theorem pick_snoc {M : List Ht} {L : List Int} {j dg : Nat} {z : Ht} (h : L[j]? = some (dg : Int)) (hz : M[dg]? = some z) : pick M (L.take (j + 1)) = pick M (L.take j) ++ [z] := by
  rw [pick_take M h, Int.toNat_natCast, List.getD_eq_getElem?_getD, hz]; rfl
theorem lenOf_snoc (l : List Ht) (z : Ht) : lenOfL (l ++ [z]) = lenOfL l + z.ticks := by rw [lenOfL_app]; simp [lenOfL]
theorem lenOf_nonneg : ∀ l : List Ht, (∀ z ∈ l, HtOK z) → 0 ≤ lenOfL l
  | [], _ => by simp [lenOfL]
  | z :: l, h => by
    have h1 := (h z (by simp)).ticks
    have h2 := lenOf_nonneg l fun y hy => h y (by simp [hy])
    simp only [lenOfL]
    omega
end Go.Proofs

namespace Go.Proofs
open Go Go.Sx
attribute [local irreducible] Run

theorem range_mul (N : Nat) : ∀ c : Nat, List.range (c * N) = (List.range c).flatMap fun n => (List.range N).map fun w => n * N + w
  | 0 => by simp
  | c + 1 => by
    rw [Nat.succ_mul, List.range_add, range_mul N c, List.range_succ, List.flatMap_append]
    simp
theorem digL_cons {c : Nat} (hc : 0 < c) {s n w : Nat} (hn : n < c) (hw : w < c ^ s) : digL c (s + 1) (n * c ^ s + w) = (n : Int) :: digL c s w := by
  have hp : 0 < c ^ s := Nat.pow_pos hc
  apply List.ext_getElem?
  intro j
  cases j with
  | zero =>
    rw [digL_get hc (by omega), List.getElem?_cons_zero]
    congr 2
    have h1 : n * c ^ s + w < c ^ (s + 1) := by
      have : (n + 1) * c ^ s ≤ c * c ^ s := Nat.mul_le_mul_right _ hn
      rw [Nat.succ_mul] at this
      rw [Nat.pow_succ, Nat.mul_comm (c ^ s)]
      omega
    rw [show s + 1 - 0 = s + 1 by omega, Nat.mod_eq_of_lt h1, show s + 1 - 1 = s by omega, Nat.mul_comm, Nat.mul_add_div hp, Nat.div_eq_of_lt hw, Nat.add_zero]
  | succ j =>
    rw [List.getElem?_cons_succ]
    by_cases hj : j < s
    · rw [digL_get hc (by omega), digL_get hc hj]
      congr 2
      rw [show s + 1 - (j + 1) = s - j by omega]
      have hd : c ^ s = c ^ (s - j) * c ^ j := by rw [← Nat.pow_add]; congr 1; omega
      have : (n * c ^ s + w) % c ^ (s - j) = w % c ^ (s - j) := by
        rw [hd, ← Nat.mul_assoc, Nat.mul_comm n, Nat.mul_assoc, Nat.mul_add_mod]
      rw [this]
    · rw [List.getElem?_eq_none (by rw [digL_len]; omega), List.getElem?_eq_none (by rw [digL_len]; omega)]
theorem LS_dig {c : Nat} (hc : 0 < c) : ∀ s, LS c s = (List.range (c ^ s)).map (digL c s)
  | 0 => rfl
  | s + 1 => by
    rw [LS, LS_dig hc s, Nat.pow_succ, Nat.mul_comm, range_mul, List.map_flatMap]
    have h : ∀ l : List Nat, (∀ n ∈ l, n < c) → (l.flatMap fun n : Nat => ((List.range (c ^ s)).map (digL c s)).map fun l => (n : Int) :: l) = l.flatMap fun n => ((List.range (c ^ s)).map fun w => n * c ^ s + w).map (digL c (s + 1)) := fun l => by
      induction l with
      | nil => intro _; rfl
      | cons n l ih =>
        intro hn
        rw [List.flatMap_cons, List.flatMap_cons, ih fun m hm => hn m (by simp [hm]), List.map_map, List.map_map]
        congr 1
        refine List.map_congr_left fun w hw => ?_
        exact (digL_cons hc (hn n (by simp)) (List.mem_range.1 hw)).symm
    exact h _ fun n hn => List.mem_range.1 hn
theorem prevB_LS (c : Ct) (d : Dm) (menu : List Ht) (hm : 0 < menu.length) (k : Nat) : prevB c d menu (k + 1) = (LS menu.length (k + 1)).foldl (better c d menu) (prevB c d menu k) := by
  rw [LS_dig hm, List.foldl_map]; rfl
theorem LS_in (c : Nat) : ∀ s, ∀ l ∈ LS c s, ∀ x ∈ l, 0 ≤ x ∧ x < c
  | 0, l, h, x, hx => by simp [LS] at h; subst h; simp at hx
  | s + 1, l, h, x, hx => by
    simp only [LS, List.mem_flatMap, List.mem_map, List.mem_range] at h
    obtain ⟨n, hn, k, hk, rfl⟩ := h
    rcases List.mem_cons.1 hx with rfl | hx
    · omega
    · exact LS_in c s k hk x hx
end Go.Proofs

namespace Go.Proofs
open Go Go.Sx
attribute [local irreducible] Run

structure Bo where
  r : Rg
  m : Int
  low : Bool
def Bo.cs (b : Bo) : List AVal := [.int .i64 b.r.lo, .int .i64 b.r.hi, .int .i64 b.m, .bool b.low]
def Bo.v (b : Bo) : AVal := .agg b.cs
def Bo.val (b : Bo) : Int := if b.low then alV b.r b.m else amV b.r b.m

theorem broken_run (b : Bo) (h : b.r.lo ≤ b.r.hi) : Ans Try.prog n_ref03_broken [b.v] [] (.bool (b.val == 2)) [] := by
  obtain ⟨⟨lo, hi⟩, m, low⟩ := b
  dsimp only at h
  cases low
  · have e : (Bo.val ⟨⟨lo, hi⟩, m, false⟩ == 2) = decide (m < lo) := by
      simp only [Bo.val, amV]
      by_cases h1 : hi ≤ m
      · have : ¬ m < lo := by omega
        simp [h1, this]
      · by_cases h2 : m < lo <;> simp [h1, h2]
    rw [e]
    refine spec_run e_ref03_broken fun G => ?_
    simp only [go_sem, Bo.v, Bo.cs]
  · have e : (Bo.val ⟨⟨lo, hi⟩, m, true⟩ == 2) = decide (hi < m) := by
      simp only [Bo.val, alV]
      by_cases h1 : m ≤ lo
      · have : ¬ hi < m := by omega
        simp [h1, this]
      · by_cases h2 : hi < m <;> simp [h1, h2]
    rw [e]
    refine spec_run e_ref03_broken fun G => ?_
    simp only [go_sem, Bo.v, Bo.cs]

theorem doubtful_run (b : Bo) (h : b.r.lo ≤ b.r.hi) : Ans Try.prog n_ref03_doubtful [b.v] [] (.bool (b.val == 3)) [] := by
  have hb := broken_run b h
  obtain ⟨⟨lo, hi⟩, m, low⟩ := b
  dsimp only at h
  cases low
  · refine spec_run e_ref03_doubtful fun G => ?_
    simp only [go_sem, Bo.v, Bo.cs]
    by_cases h1 : hi ≤ m
    · have h1' : ¬ m < hi := by omega
      have e : Bo.val ⟨⟨lo, hi⟩, m, false⟩ = 1 := by simp [Bo.val, amV, h1]
      simp only [go_sem, h1', e, Int.reduceBEq]
    · have h1' : m < hi := by omega
      simp only [go_sem, h1']
      refine cP hb ?_
      by_cases h2 : m < lo
      · have e : Bo.val ⟨⟨lo, hi⟩, m, false⟩ = 2 := by simp [Bo.val, amV, h1, h2]
        simp only [go_sem, e, Int.reduceBEq]
      · have e : Bo.val ⟨⟨lo, hi⟩, m, false⟩ = 3 := by simp [Bo.val, amV, h1, h2]
        simp only [go_sem, e, Int.reduceBEq]
  · refine spec_run e_ref03_doubtful fun G => ?_
    simp only [go_sem, Bo.v, Bo.cs]
    by_cases h1 : m ≤ lo
    · have h1' : ¬ lo < m := by omega
      have e : Bo.val ⟨⟨lo, hi⟩, m, true⟩ = 1 := by simp [Bo.val, alV, h1]
      simp only [go_sem, h1', e, Int.reduceBEq]
    · have h1' : lo < m := by omega
      simp only [go_sem, h1']
      refine cP hb ?_
      by_cases h2 : hi < m
      · have e : Bo.val ⟨⟨lo, hi⟩, m, true⟩ = 2 := by simp [Bo.val, alV, h1, h2]
        simp only [go_sem, e, Int.reduceBEq]
      · have e : Bo.val ⟨⟨lo, hi⟩, m, true⟩ = 3 := by simp [Bo.val, alV, h1, h2]
        simp only [go_sem, e, Int.reduceBEq]

def eachB (d : Dm) (x : Cg) : List Bo := [⟨x.gas, d.gas, false⟩, ⟨x.wear, d.wear, false⟩, ⟨x.lost, d.lost, false⟩]
def lastB (d : Dm) (x : Cg) : List Bo := [⟨x.carb, d.rest, false⟩, ⟨x.ba, d.ba, true⟩]
theorem bounds_ff (d : Dm) (x : Cg) : Ans Try.prog n_ref03_bounds [d.v, x.v, .bool false, .bool false] [] .nilsl [] := by
  refine spec_run e_ref03_bounds fun G => ?_
  simp only [go_sem, Dm.v, Dm.cs, Cg.v, Cg.cs]
theorem bounds_tf (d : Dm) (x : Cg) : Ans Try.prog n_ref03_bounds [d.v, x.v, .bool true, .bool false] [] (.sl 0 0 3) [some (.cells true 4 ((eachB d x).map Bo.v))] := by
  refine Ans.keep (run_fn e_ref03_bounds fun G => ?_) (Nat.zero_le _) (by simp [go_sem]) ⟨by rw [row_bel_cells]; simp [go_sem, eachB, Bo.v, Bo.cs], trivial⟩
  simp only [go_sem, Dm.v, Dm.cs, Cg.v, Cg.cs]
  refine ⟨by decide, ?_⟩
  exact kept_one (x := .cells true 4 ((eachB d x).map Bo.v)) 3 rfl (by rw [row_bel_cells]; simp [go_sem, eachB, Bo.v, Bo.cs]) rfl
theorem bounds_ft (d : Dm) (x : Cg) : Ans Try.prog n_ref03_bounds [d.v, x.v, .bool false, .bool true] [] (.sl 0 0 2) [some (.cells true 4 ((lastB d x).map Bo.v))] := by
  refine Ans.keep (run_fn e_ref03_bounds fun G => ?_) (Nat.zero_le _) (by simp [go_sem]) ⟨by rw [row_bel_cells]; simp [go_sem, lastB, Bo.v, Bo.cs], trivial⟩
  simp only [go_sem, Dm.v, Dm.cs, Cg.v, Cg.cs]
  refine ⟨by decide, ?_⟩
  exact kept_one (x := .cells true 4 ((lastB d x).map Bo.v)) 3 rfl (by rw [row_bel_cells]; simp [go_sem, lastB, Bo.v, Bo.cs]) rfl
theorem bounds_tt (d : Dm) (x : Cg) : Ans Try.prog n_ref03_bounds [d.v, x.v, .bool true, .bool true] [] (.sl 0 0 5) [some (.cells true 4 ((eachB d x ++ lastB d x).map Bo.v))] := by
  refine Ans.keep (run_fn e_ref03_bounds fun G => ?_) (Nat.zero_le _) (by simp [go_sem]) ⟨by rw [row_bel_cells]; simp [go_sem, eachB, lastB, Bo.v, Bo.cs], trivial⟩
  simp only [go_sem, Dm.v, Dm.cs, Cg.v, Cg.cs]
  refine ⟨by decide, by decide, ?_⟩
  exact kept_one (x := .cells true 4 ((eachB d x ++ lastB d x).map Bo.v)) 3 rfl (by rw [row_bel_cells]; simp [go_sem, eachB, lastB, Bo.v, Bo.cs]) rfl
end Go.Proofs

namespace Go.Proofs
open Go Go.Sx
attribute [local irreducible] Run

def bgo (i : Int) : Int × Int → List Int → (Int × Int) × Bool
  | st, [] => (st, false)
  | st, v :: vs => if v = 2 then ((2, i), true) else bgo i (noted st v i) vs
theorem bgo3 (i : Int) (st : Int × Int) {a b c : Int} (ha : a = 1 ∨ a = 2 ∨ a = 3) (hb : b = 1 ∨ b = 2 ∨ b = 3) (hc : c = 1 ∨ c = 2 ∨ c = 3) :
    bgo i st [a, b, c] = (noted st (worst 1 [a, b, c]) i, worst 1 [a, b, c] == 2) := by
  obtain ⟨v, t⟩ := st
  rcases ha with rfl | rfl | rfl <;> rcases hb with rfl | rfl | rfl <;> rcases hc with rfl | rfl | rfl <;> simp [bgo, worst, noted] <;> (try by_cases h : v = 1 <;> simp [h])
theorem bgo2 (i : Int) (st : Int × Int) {a b : Int} (ha : a = 1 ∨ a = 2 ∨ a = 3) (hb : b = 1 ∨ b = 2 ∨ b = 3) :
    (bgo i st [a, b]).1 = noted st (worst 1 [a, b]) i := by
  obtain ⟨v, t⟩ := st
  rcases ha with rfl | rfl | rfl <;> rcases hb with rfl | rfl | rfl <;> simp [bgo, worst, noted] <;> (try by_cases h : v = 1 <;> simp [h])
theorem bgo_app (i : Int) : ∀ (xs ys : List Int) (st : Int × Int), bgo i st (xs ++ ys) = if (bgo i st xs).2 = true then bgo i st xs else bgo i (bgo i st xs).1 ys
  | [], ys, st => by simp [bgo]
  | x :: xs, ys, st => by
    by_cases h : x = 2
    · simp [bgo, h]
    · have e : ∀ zs, bgo i st (x :: zs) = bgo i (noted st x i) zs := fun zs => by simp only [bgo]; rw [if_neg h]
      rw [List.cons_append, e, e]; exact bgo_app i xs ys _
def rjT (n : Nat) (v t : Int) (i : Nat) (b : AVal) : List (Nat × AVal) := [(3, .ptr 0 0 0 1), (4, .ptr 1 0 0 1), (8, .sl 2 0 n), (9, .int .i64 v), (10, .int .i64 t), (11, .int .i64 i), (12, b)]

set_option maxHeartbeats 4000000 in
theorem bd_loop {G : Ctx} {Q : Goal} {fs : List Sx.Frame} {H : Heap} {n j : Nat} {v t : Int} {i : Nat} {bs : List Bo} (hj : H.cellsAt j = some (true, 4, bs.map Bo.v)) (hl : bs.length ≤ 5) (hr : ∀ b ∈ bs, b.r.lo ≤ b.r.hi)
    (hv : v = 1 ∨ v = 3)
    (hret : ∀ (u s : Int) (p : Nat) (b : Bo), bgo i (v, t) (bs.map Bo.val) = ((2, (i : Int)), true) → Run Try.prog G 0 none 2962 (.out .ret) fs ⟨tsets 60 ([(3, .ptr 0 0 0 1), (4, .ptr 1 0 0 1), (6, .int .i64 2), (7, .int .i64 i), (8, .sl 2 0 n), (9, .int .i64 u), (10, .int .i64 s), (11, .int .i64 i), (12, .sl j 0 bs.length), (13, .int .i64 p), (36, .int .i64 p), (37, .sl j 0 bs.length), (38, .int .i64 bs.length), (39, .bool true), (42, .sl j 0 bs.length), (43, .int .i64 p), (44, .ptr j p 0 bs.length), (45, b.v), (46, .bool true), (47, .int .i64 i)]), H, []⟩ Q)
    (hgo : ∀ (u s : Int), (u = 1 ∨ u = 3) → bgo i (v, t) (bs.map Bo.val) = ((u, s), false) → Run Try.prog G 0 none 2986 (.out .normal) fs ⟨tsets 60 (rjT n u s i (.sl j 0 bs.length) ++ [(13, .int .i64 bs.length), (36, .int .i64 bs.length), (37, .sl j 0 bs.length), (38, .int .i64 bs.length), (39, .bool false)]), H, []⟩ Q)
    {ρ : List AVal} (hw : Wk ρ (tsets 60 (rjT n v t i (.sl j 0 bs.length) ++ [(13, .int .i64 0)]))) :
    Sx.Loop Try.prog G 0 none k_ref03_judge_r13 (.blk 2 :: fs) ⟨ρ, H, []⟩ Q := by
  generalize hRES : bgo i (v, t) (bs.map Bo.val) = RES
  refine loop_ind k_ref03_judge_r13.eq_1 (fun a : Nat × Int × Int => a.1 ≤ bs.length ∧ (a.2.1 = 1 ∨ a.2.1 = 3) ∧ bgo i (a.2.1, a.2.2) ((bs.drop a.1).map Bo.val) = RES) (fun a => bs.length - a.1)
    (fun a => (tsets 60 (rjT n a.2.1 a.2.2 i (.sl j 0 bs.length) ++ [(13, .int .i64 a.1)]), H)) (0, v, t) ⟨Nat.zero_le _, hv, hRES⟩ hw rfl ?_
  rintro ⟨p, u, s⟩ ⟨hp, hu, hR⟩ ih
  dsimp only at hp hu hR ih ⊢
  by_cases h1 : p < bs.length
  · have h2 : (p : Int) < bs.length := by omega
    have n0 : ¬ (p : Int) < 0 := by omega
    have hx : bs[p]? = some bs[p] := List.getElem?_eq_getElem h1
    have hbr := hr _ (List.getElem_mem h1)
    rw [List.drop_eq_getElem_cons h1] at hR
    have h3 := idx_next h1 (by omega)
    generalize bs[p] = b at *
    have g1 := broken_run b hbr
    have g2 := doubtful_run b hbr
    simp only [List.map_cons, bgo] at hR
    generalize b.val = e at *
    simp only [go_sem, rjT, hj, h2, n0, hx, List.length_map, Bo.v, Bo.cs]
    refine cP g1 ?_
    by_cases e2 : e = 2
    · rw [if_pos e2] at hR
      simp only [go_sem, e2, Int.reduceBEq]
      have := hret u s p b (by rw [hRES, ← hR])
      simp only [go_sem, Bo.v, Bo.cs] at this
      exact this
    · rw [if_neg e2] at hR
      have b2 : (e == 2) = false := by simp [e2]
      simp only [go_sem, b2, hj, h2, n0, hx, List.length_map, Bo.v, Bo.cs]
      refine cP g2 ?_
      by_cases e3 : e = 3
      · by_cases u1 : u = 1
        · simp only [go_sem, e3, u1, Int.reduceBEq, h3]
          exact ih (p + 1, 3, i) (by dsimp only; omega) ⟨h1, .inr rfl, by dsimp only; rw [← hR, e3, u1]; rfl⟩ _ (by simp [go_sem, rjT])
        · have b1 : (u == 1) = false := by simp [u1]
          simp only [go_sem, e3, b1, Int.reduceBEq, h3]
          exact ih (p + 1, u, s) (by dsimp only; omega) ⟨h1, hu, by dsimp only; rw [← hR, e3]; simp [noted, u1]⟩ _ (by simp [go_sem, rjT])
      · have b3 : (e == 3) = false := by simp [e3]
        simp only [go_sem, b3, h3]
        exact ih (p + 1, u, s) (by dsimp only; omega) ⟨h1, hu, by dsimp only; rw [← hR]; simp [noted, e2, e3]⟩ _ (by simp [go_sem, rjT])
  · have h2 : ¬ (p : Int) < bs.length := by omega
    rw [List.drop_of_length_le (by omega)] at hR
    obtain rfl : p = bs.length := by omega
    have := hgo u s hu (by rw [hRES, ← hR]; rfl)
    simp only [go_sem, rjT] at this
    simp only [go_sem, rjT, hj, h2, List.length_map]
    exact this
end Go.Proofs

namespace Go.Proofs
open Go Go.Sx

theorem at_struct {P : Program} {n : Nat} {t : TypeId} {fs : Array Field} (hu : P.underlying t = some (.struct fs)) {vs : List AVal} (h : AT P (n + 1) t vs) : ATs (AT P n) fs.toList vs := by
  unfold AT at h; rw [hu] at h; exact h
theorem at_int {P : Program} {n : Nat} {t : TypeId} {k : IntKind} (hu : P.underlying t = some (.int k)) {vs : List AVal} (h : AT P (n + 1) t vs) : ∃ m, vs = [.int k m] ∧ (Lit.int k m).wf = true := by
  unfold AT at h; rw [hu] at h; exact h
theorem at_slice {P : Program} {n : Nat} {t e : TypeId} (hu : P.underlying t = some (.slice e)) {vs : List AVal} (h : AT P (n + 1) t vs) : ∃ es, vs = [.view es] ∧ es.length ≤ maxLen ∧ ∀ x ∈ es, if aggT P e = true then ∃ ws, x = .agg ws ∧ AT P n e ws else AT P n e [x] := by
  unfold AT at h; rw [hu] at h; exact h

attribute [local irreducible] AT
set_option maxRecDepth 100000
theorem atn_int {n : Nat} {vs : List AVal} (h : AT Try.prog (n + 1) 3 vs) : ∃ m, vs = [.int .i64 m] ∧ (Lit.int .i64 m).wf = true := at_int Try.underlying3 h
theorem at_rg {n : Nat} {vs : List AVal} (h : AT Try.prog (n + 2) 23 vs) : ∃ r : Rg, vs = [.int .i64 r.lo, .int .i64 r.hi] ∧ (Lit.int .i64 r.lo).wf = true ∧ (Lit.int .i64 r.hi).wf = true := by
  obtain ⟨a, b, rfl, ha, c, d, rfl, hc, rfl⟩ := at_struct Try.underlying23 h
  obtain ⟨x, rfl, hx⟩ := atn_int ha
  obtain ⟨y, rfl, hy⟩ := atn_int hc
  exact ⟨⟨x, y⟩, rfl, hx, hy⟩
def I64 (n : Int) : Prop := (Lit.int .i64 n).wf = true
def RgW (r : Rg) : Prop := I64 r.lo ∧ I64 r.hi
def BdW (b : Bd) : Prop := I64 b.frm ∧ RgW b.conv ∧ RgW b.red ∧ RgW b.evap ∧ RgW b.sint
structure CtW (c : Ct) : Prop where
  amount : I64 c.amount
  slew : I64 c.slew
  aid : RgW c.aid
  yld : RgW c.yld
  len : c.bands.length ≤ maxLen
  all : ∀ b ∈ c.bands, BdW b
theorem at_band {n : Nat} {vs : List AVal} (h : AT Try.prog (n + 3) 49 vs) : ∃ b : Bd, vs = b.cs ∧ BdW b := by
  obtain ⟨a, _, rfl, ha, b, _, rfl, hb, c, _, rfl, hc, d, _, rfl, hd, e, _, rfl, he, rfl⟩ := at_struct Try.underlying49 h
  obtain ⟨x, rfl, hx⟩ := atn_int ha
  obtain ⟨r1, rfl, h1⟩ := at_rg hb
  obtain ⟨r2, rfl, h2⟩ := at_rg hc
  obtain ⟨r3, rfl, h3⟩ := at_rg hd
  obtain ⟨r4, rfl, h4⟩ := at_rg he
  exact ⟨⟨x, r1, r2, r3, r4⟩, rfl, hx, h1, h2, h3, h4⟩
theorem list_map {α β : Type} {f : α → β} {Q : α → Prop} : ∀ l : List β, (∀ x ∈ l, ∃ a, x = f a ∧ Q a) → ∃ l' : List α, l = l'.map f ∧ ∀ a ∈ l', Q a
  | [], _ => ⟨[], rfl, fun a ha => by simp at ha⟩
  | x :: l, h => by
    obtain ⟨a, rfl, ha⟩ := h x (by simp)
    obtain ⟨l', rfl, h'⟩ := list_map l fun y hy => h y (by simp [hy])
    exact ⟨a :: l', rfl, fun b hb => by
      rcases List.mem_cons.1 hb with rfl | hb
      · exact ha
      · exact h' b hb⟩
theorem at_bands {n : Nat} {vs : List AVal} (h : AT Try.prog (n + 4) 24 vs) : ∃ bs : List Bd, vs = [.view (bs.map Bd.v)] ∧ bs.length ≤ maxLen ∧ ∀ b ∈ bs, BdW b := by
  obtain ⟨es, rfl, hl, he⟩ := at_slice Try.underlying24 h
  have hg : aggT Try.prog 49 = true := by unfold aggT; rw [Try.underlying49]
  obtain ⟨bs, rfl, hb⟩ := list_map (f := Bd.v) (Q := BdW) es fun x hx => by
    have := he x hx
    rw [if_pos hg] at this
    obtain ⟨ws, rfl, hw⟩ := this
    obtain ⟨b, rfl, hb⟩ := at_band hw
    exact ⟨b, rfl, hb⟩
  exact ⟨bs, rfl, by simpa using hl, hb⟩
theorem at_coat {n : Nat} {vs : List AVal} (h : AT Try.prog (n + 5) 26 vs) : ∃ c : Ct, vs = c.cs (.view (c.bands.map Bd.v)) ∧ CtW c := by
  obtain ⟨a, _, rfl, ha, b, _, rfl, hb, c, _, rfl, hc, d, _, rfl, hd, e, _, rfl, he, rfl⟩ := at_struct Try.underlying26 h
  obtain ⟨x, rfl, hx⟩ := atn_int ha
  obtain ⟨y, rfl, hy⟩ := atn_int hb
  obtain ⟨r1, rfl, h1⟩ := at_rg hc
  obtain ⟨r2, rfl, h2⟩ := at_rg hd
  obtain ⟨bs, rfl, h3, h4⟩ := at_bands he
  exact ⟨⟨x, y, r1, r2, bs⟩, rfl, hx, hy, h1, h2, h3, h4⟩
theorem at_ints {n : Nat} {x : AVal} (h : AT Try.prog (n + 2) 30 [x]) : ∃ l : List Int, x = .view (l.map (.int .i64)) ∧ l.length ≤ maxLen := by
  obtain ⟨es, h1, hl, he⟩ := at_slice Try.underlying30 h
  obtain rfl : x = .view es := by simpa using h1
  have hg : ¬ aggT Try.prog 3 = true := by unfold aggT; rw [Try.underlying3]; decide
  obtain ⟨l, rfl, -⟩ := list_map (f := AVal.int .i64) (Q := fun _ => True) es fun x hx => by
    have := he x hx
    rw [if_neg hg] at this
    obtain ⟨m, hm, -⟩ := atn_int this
    exact ⟨m, by simpa using hm, trivial⟩
  exact ⟨l, rfl, by simpa using hl⟩
end Go.Proofs

namespace Go.Proofs
open Go Go.Sx
attribute [local irreducible] Run

def chkR (m : Int) : List Rg → Int
  | [] => 0
  | r :: rs => if 0 ≤ r.lo ∧ r.lo ≤ m then (if 0 ≤ r.hi ∧ r.hi ≤ m then (if r.hi < r.lo then 11 else chkR m rs) else 2) else 2
theorem within_no {n a b : Int} (h : ¬ (a ≤ n ∧ n ≤ b)) : Ans Try.prog n_cathode_within [.int .i64 n, .int .i64 a, .int .i64 b] [] (.bool false) [] := by
  have := within_ok n a b
  rwa [show (decide (a ≤ n) && decide (n ≤ b)) = false by simp; omega] at this

theorem checkRanges_raw (m : Int) (rs : List Rg) (hl : rs.length ≤ 1000) : Ans Try.prog n_cathode_checkRanges [.int .i64 m, .view (rs.map Rg.v)] [] (.int .i64 (chkR m rs)) [] := by
  generalize hRES : chkR m rs = RES
  refine spec_run e_cathode_checkRanges fun G => ?_
  simp only [go_sem]
  refine loop_ind k_cathode_checkRanges_r9.eq_1 (fun a : Nat × Heap => a.1 ≤ rs.length ∧ chkR m (rs.drop a.1) = RES) (fun a => rs.length - a.1)
    (fun a => ([.int .i64 m, .view (rs.map Rg.v), .any, .any, .int .i64 0, .any, .any, .view (rs.map Rg.v), .int .i64 rs.length, .int .i64 a.1] ++ List.replicate 21 .any, a.2)) (0, []) ⟨Nat.zero_le _, hRES⟩ (by simp [Wk]) rfl ?_
  rintro ⟨i, X⟩ ⟨hi, hR⟩ ih
  dsimp only at hi hR ih ⊢
  by_cases h1 : i < rs.length
  · have h2 : (i : Int) < rs.length := by omega
    have hx : rs[i]? = some rs[i] := List.getElem?_eq_getElem h1
    have h3 := idx_next h1 (by omega)
    rw [List.drop_eq_getElem_cons h1] at hR
    generalize rs[i] = z at *
    unfold chkR at hR
    simp only [go_sem, hx, h2, Rg.v]
    by_cases c1 : 0 ≤ z.lo ∧ z.lo ≤ m
    · rw [if_pos c1] at hR
      refine cP (within_yes c1) ?_
      simp only [go_sem]
      by_cases c2 : 0 ≤ z.hi ∧ z.hi ≤ m
      · rw [if_pos c2] at hR
        refine cP (within_yes c2) ?_
        simp only [go_sem, h3]
        refine ⟨fun c3 => ?_, fun c3 => ?_⟩
        · rw [if_pos c3] at hR
          exact hR
        · rw [if_neg c3] at hR
          exact ih (i + 1, _) (by dsimp only; omega) ⟨h1, hR⟩ _ (by simp [Wk])
      · rw [if_neg c2] at hR
        subst hR
        refine cP (within_no c2) ?_
        simp only [go_sem]
    · rw [if_neg c1] at hR
      subst hR
      refine cP (within_no c1) ?_
      simp only [go_sem]
  · have h2 : ¬ (i : Int) < rs.length := by omega
    rw [List.drop_of_length_le (by omega)] at hR
    subst hR
    simp only [go_sem, h2, chkR]
end Go.Proofs

namespace Go.Proofs
open Go Go.Sx
attribute [local irreducible] Run

def ordB (prev : Option Int) (x : Int) : Bool := match prev with | none => x == 0 | some p => decide (p < x)
def chkB (prev : Option Int) : List Bd → Int
  | [] => 0
  | b :: bs => if 0 ≤ b.frm ∧ b.frm ≤ 2000 then
      (if ordB prev b.frm = true then
        (if chkR 1000000 [b.conv, b.red, b.evap, b.sint] = 0 then chkB (some b.frm) bs else chkR 1000000 [b.conv, b.red, b.evap, b.sint])
      else 11) else 2
def chkC (c : Ct) : Int :=
  if 1 ≤ c.amount ∧ c.amount ≤ 1000000 then
    (if 1 ≤ c.slew ∧ c.slew ≤ 2000 then
      (if chkR 1000000 [c.aid, c.yld] = 0 then
        (if c.bands.length = 0 then 6 else if 16 < c.bands.length then 8 else chkB none c.bands)
      else chkR 1000000 [c.aid, c.yld]) else 2) else 2
def prevF (bs : List Bd) (i : Nat) : Option Int := if i = 0 then none else some (bs.getD (i - 1) default).frm

set_option maxHeartbeats 2000000 in
theorem Check_raw (c : Ct) (hl : c.bands.length ≤ 1000) : Ans Try.prog n_cathode_Check [c.v (.view (c.bands.map Bd.v))] [] (.int .i64 (chkC c)) [] := by
  have g1 := checkRanges_raw 1000000 [c.aid, c.yld] (by simp)
  generalize hRES : chkC c = RES
  unfold chkC at hRES
  refine spec_run e_cathode_Check fun G => ?_
  simp only [go_sem, Ct.v, Ct.cs]
  by_cases c1 : 1 ≤ c.amount ∧ c.amount ≤ 1000000
  rotate_left
  · rw [if_neg c1] at hRES
    subst hRES
    refine cP (within_no c1) ?_
    simp only [go_sem]
  rw [if_pos c1] at hRES
  refine cP (within_yes c1) ?_
  simp only [go_sem]
  by_cases c2 : 1 ≤ c.slew ∧ c.slew ≤ 2000
  rotate_left
  · rw [if_neg c2] at hRES
    subst hRES
    refine cP (within_no c2) ?_
    simp only [go_sem]
  rw [if_pos c2] at hRES
  refine cP (within_yes c2) ?_
  simp only [go_sem]
  refine callF0 g1 6 (by simp only [go_sem, frz, Rg.v]) ?_
  generalize chkR 1000000 [c.aid, c.yld] = e1 at *
  by_cases c3 : e1 = 0
  rotate_left
  · have b3 : (e1 != 0) = true := by simp [c3]
    rw [if_neg c3] at hRES
    subst hRES
    simp only [go_sem, b3]
    done
  rw [if_pos c3] at hRES
  subst c3
  simp only [go_sem, Int.reduceBNe]
  refine ⟨fun k1 => ?_, fun k1 => ⟨fun k2 => ?_, fun k2 => ?_⟩⟩
  · rw [if_pos (by omega)] at hRES; exact hRES
  · rw [if_neg (by omega), if_pos (by omega)] at hRES; exact hRES
  rw [if_neg (by omega), if_neg (by omega)] at hRES
  refine loop_ind k_cathode_Check_r21.eq_1 (fun a : Nat × Heap => a.1 ≤ c.bands.length ∧ chkB (prevF c.bands a.1) (c.bands.drop a.1) = RES) (fun a => c.bands.length - a.1)
    (fun a => (tsets 83 [(1, .ptr 0 0 0 1), (2, .int .i64 0), (35, .view (c.bands.map Bd.v)), (36, .int .i64 c.bands.length), (37, .int .i64 a.1)], some (.cells false 7 [c.v (.view (c.bands.map Bd.v))]) :: a.2)) (0, [_]) ⟨Nat.zero_le _, hRES⟩ (by simp [go_sem]) rfl ?_
  rintro ⟨i, X⟩ ⟨hi, hR⟩ ih
  dsimp only at hi hR ih ⊢
  by_cases h1 : i < c.bands.length
  · have h2 : (i : Int) < c.bands.length := by omega
    have hx : c.bands[i]? = some c.bands[i] := List.getElem?_eq_getElem h1
    have h3 := idx_next h1 (by omega)
    have hpn : prevF c.bands (i + 1) = some (c.bands[i]).frm := by
      unfold prevF
      rw [if_neg (by omega), Nat.add_sub_cancel, List.getD_eq_getElem?_getD, hx]; rfl
    have hpi : 0 < i → ∃ b : Bd, c.bands[i - 1]? = some b ∧ prevF c.bands i = some b.frm := fun h0 => by
      refine ⟨_, List.getElem?_eq_getElem (by omega), ?_⟩
      unfold prevF
      rw [if_neg (by omega), List.getD_eq_getElem?_getD, List.getElem?_eq_getElem (by omega)]; rfl
    have hp0 : i = 0 → prevF c.bands i = none := fun h0 => by unfold prevF; rw [if_pos h0]
    rw [List.drop_eq_getElem_cons h1] at hR
    generalize c.bands[i] = b at *
    unfold chkB at hR
    have g2 := checkRanges_raw 1000000 [b.conv, b.red, b.evap, b.sint] (by simp)
    generalize chkR 1000000 [b.conv, b.red, b.evap, b.sint] = e2 at *
    simp only [go_sem, hx, h2, Bd.v, Bd.cs, Ct.v, Ct.cs]
    by_cases c4 : 0 ≤ b.frm ∧ b.frm ≤ 2000
    rotate_left
    · rw [if_neg c4] at hR
      subst hR
      refine cP (within_no c4) ?_
      simp only [go_sem]
    rw [if_pos c4] at hR
    refine cP (within_yes c4) ?_
    by_cases h0 : i = 0
    · have hb : ((i : Int) == 0) = true := by simp [h0]
      have hg2 : ¬ (0 : Int) < i := by omega
      rw [hp0 h0] at hR
      by_cases c5 : b.frm = 0
      · have hb5 : (b.frm != 0) = false := by simp [c5]
        rw [if_pos (by simp [ordB, c5])] at hR
        simp only [go_sem, hb, hg2, hb5]
        refine callF0 g2 6 (by simp only [go_sem, frz, Rg.v]) ?_
        by_cases c6 : e2 = 0
        · rw [if_pos c6] at hR
          subst c6
          simp only [go_sem, Int.reduceBNe, h3]
          exact ih (i + 1, _) (by dsimp only; omega) ⟨h1, by dsimp only; rw [hpn]; exact hR⟩ _ (by simp [go_sem])
        · have b6 : (e2 != 0) = true := by simp [c6]
          rw [if_neg c6] at hR
          subst hR
          simp only [go_sem, b6]
      · have hb5 : (b.frm != 0) = true := by simp [c5]
        rw [if_neg (by simp [ordB, c5])] at hR
        subst hR
        simp only [go_sem, hb, hb5]
    · obtain ⟨b', hb1, hb2⟩ := hpi (by omega)
      have hb : ((i : Int) == 0) = false := by simp [h0]
      have hg2 : (0 : Int) < i := by omega
      have hg3 : IntKind.i64.wrap ((i : Int) - 1) = ((i - 1 : Nat) : Int) := by rw [w64 (by omega)]; omega
      rw [hb2] at hR
      simp only [go_sem, hb, hg2, hg3, hb1, Bd.v, Bd.cs]
      refine ⟨fun c5 => ?_, fun c5 => ?_⟩
      · have ho : ¬ ordB (some b'.frm) b.frm = true := by simp only [ordB, decide_eq_true_eq]; omega
        rw [if_neg ho] at hR
        exact hR
      · have ho : ordB (some b'.frm) b.frm = true := by simp only [ordB, decide_eq_true_eq]; omega
        rw [if_pos ho] at hR
        refine callF0 g2 6 (by simp only [go_sem, frz, Rg.v]) ?_
        by_cases c6 : e2 = 0
        · rw [if_pos c6] at hR
          subst c6
          simp only [go_sem, Int.reduceBNe, h3]
          exact ih (i + 1, _) (by dsimp only; omega) ⟨h1, by dsimp only; rw [hpn]; exact hR⟩ _ (by simp [go_sem])
        · have b6 : (e2 != 0) = true := by simp [c6]
          rw [if_neg c6] at hR
          subst hR
          simp only [go_sem, b6]
  · have h2 : ¬ (i : Int) < c.bands.length := by omega
    rw [List.drop_of_length_le (by omega)] at hR
    subst hR
    simp only [go_sem, h2, chkB]
end Go.Proofs

namespace Go.Proofs
open Go Go.Sx

theorem chkR_zero {m : Int} : ∀ {rs : List Rg}, chkR m rs = 0 → ∀ r ∈ rs, (0 ≤ r.lo ∧ r.lo ≤ m) ∧ (0 ≤ r.hi ∧ r.hi ≤ m) ∧ r.lo ≤ r.hi
  | [], _, r, hr => by simp at hr
  | x :: rs, h, r, hr => by
    unfold chkR at h
    by_cases c1 : 0 ≤ x.lo ∧ x.lo ≤ m
    rotate_left
    · rw [if_neg c1] at h; simp at h
    rw [if_pos c1] at h
    by_cases c2 : 0 ≤ x.hi ∧ x.hi ≤ m
    rotate_left
    · rw [if_neg c2] at h; simp at h
    rw [if_pos c2] at h
    by_cases c3 : x.hi < x.lo
    · rw [if_pos c3] at h; simp at h
    rw [if_neg c3] at h
    rcases List.mem_cons.1 hr with rfl | hr
    · exact ⟨c1, c2, by omega⟩
    · exact chkR_zero h r hr
theorem chkB_zero : ∀ {bs : List Bd} {prev : Option Int}, chkB prev bs = 0 → (∀ b ∈ bs, (0 ≤ b.frm ∧ b.frm ≤ 2000) ∧ chkR 1000000 [b.conv, b.red, b.evap, b.sint] = 0) ∧ (∀ b, bs[0]? = some b → ordB prev b.frm = true) ∧ ∀ i b b', bs[i]? = some b → bs[i + 1]? = some b' → b.frm < b'.frm
  | [], _, _ => ⟨fun b hb => by simp at hb, fun b hb => by simp at hb, fun i b b' hb => by simp at hb⟩
  | x :: bs, prev, h => by
    unfold chkB at h
    by_cases c1 : 0 ≤ x.frm ∧ x.frm ≤ 2000
    rotate_left
    · rw [if_neg c1] at h; simp at h
    rw [if_pos c1] at h
    by_cases c2 : ordB prev x.frm = true
    rotate_left
    · rw [if_neg c2] at h; simp at h
    rw [if_pos c2] at h
    by_cases c3 : chkR 1000000 [x.conv, x.red, x.evap, x.sint] = 0
    rotate_left
    · rw [if_neg c3] at h; exact absurd h c3
    rw [if_pos c3] at h
    obtain ⟨h1, h2, h3⟩ := chkB_zero h
    refine ⟨fun b hb => ?_, fun b hb => ?_, fun i b b' hb hb' => ?_⟩
    · rcases List.mem_cons.1 hb with rfl | hb
      · exact ⟨c1, c3⟩
      · exact h1 b hb
    · simp only [List.getElem?_cons_zero, Option.some.injEq] at hb
      subst hb; exact c2
    · cases i with
      | zero =>
        simp only [List.getElem?_cons_zero, Option.some.injEq] at hb
        subst hb
        have := h2 b' hb'
        simpa [ordB] using this
      | succ i => exact h3 i b b' hb hb'

theorem chkC_ok {c : Ct} (h : chkC c = 0) : CtOK c := by
  unfold chkC at h
  by_cases c1 : 1 ≤ c.amount ∧ c.amount ≤ 1000000
  rotate_left
  · rw [if_neg c1] at h; simp at h
  rw [if_pos c1] at h
  by_cases c2 : 1 ≤ c.slew ∧ c.slew ≤ 2000
  rotate_left
  · rw [if_neg c2] at h; simp at h
  rw [if_pos c2] at h
  by_cases c3 : chkR 1000000 [c.aid, c.yld] = 0
  rotate_left
  · rw [if_neg c3] at h; exact absurd h c3
  rw [if_pos c3] at h
  by_cases c4 : c.bands.length = 0
  · rw [if_pos c4] at h; simp at h
  rw [if_neg c4] at h
  by_cases c5 : 16 < c.bands.length
  · rw [if_pos c5] at h; simp at h
  rw [if_neg c5] at h
  obtain ⟨h1, h2, h3⟩ := chkB_zero h
  have hr := chkR_zero c3
  have ha := hr c.aid (by simp)
  have hy := hr c.yld (by simp)
  have g : ∀ i, i < c.bands.length → c.bands[i]? = some (c.bands.getD i default) := fun i hi => by simp [hi]
  refine ⟨c1, c2, ⟨by omega, by omega, by omega⟩, ⟨by omega, by omega, by omega⟩, by omega, ?_, fun i hi => h3 i _ _ (g i (by omega)) (g (i + 1) hi), fun b hb => ?_⟩
  · have := h2 _ (g 0 (by omega))
    simpa [ordB] using this
  · obtain ⟨q1, q2⟩ := h1 b hb
    have q := chkR_zero q2
    have r1 := q b.conv (by simp)
    have r2 := q b.red (by simp)
    have r3 := q b.evap (by simp)
    have r4 := q b.sint (by simp)
    exact ⟨q1, ⟨by omega, by omega, by omega⟩, ⟨by omega, by omega, by omega⟩, ⟨by omega, by omega, by omega⟩, ⟨by omega, by omega, by omega⟩⟩
end Go.Proofs

