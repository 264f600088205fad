/- All lists of numbers, handed out one by one. -/
import Derived.Test.YtgikocfbedopmaaYdN
namespace Go.Proofs
open Go Go.Sx
attribute [local irreducible] Run

/-- A number in base c, the last digit first. -/
def digR (c : Nat) : Nat → Nat → List Int
  | 0, _ => []
  | n + 1, w => ((w % c : Nat) : Int) :: digR c n (w / c)
def digL (c n w : Nat) : List Int := (digR c n w).reverse
theorem digR_len (c : Nat) : ∀ n w, (digR c n w).length = n
  | 0, _ => rfl
  | n + 1, w => by simp [digR, digR_len c n]
theorem digL_len (c n w : Nat) : (digL c n w).length = n := by simp [digL, digR_len]
theorem digR_in {c : Nat} (hc : 0 < c) : ∀ n w, ∀ d ∈ digR c n w, 0 ≤ d ∧ d < c
  | 0, _, d, h => by simp [digR] at h
  | n + 1, w, d, h => by
    rcases List.mem_cons.1 h with rfl | h
    · have := Nat.mod_lt w hc
      omega
    · exact digR_in hc n _ d h
theorem digL_in {c : Nat} (hc : 0 < c) (n w : Nat) : ∀ d ∈ digL c n w, 0 ≤ d ∧ d < c := fun d h => digR_in hc n w d (List.mem_reverse.1 h)
theorem digR_zero (c : Nat) : ∀ n, digR c n 0 = List.replicate n 0
  | 0 => rfl
  | n + 1 => by simp [digR, digR_zero c n, List.replicate_succ]
theorem digL_zero (c n : Nat) : ivs (digL c n 0) = List.replicate n (.int .i64 0) := by simp [digL, digR_zero, ivs]
theorem advR_dig {c : Nat} (hc : 0 < c) : ∀ n w, w < c ^ n → advR c (digR c n w) = if w + 1 < c ^ n then (digR c n (w + 1), true) else (digR c n 0, false)
  | 0, w, h => by
    have : w = 0 := by simpa using h
    subst this
    simp [digR, advR]
  | n + 1, w, h => by
    have hd : w / c < c ^ n := by rw [Nat.div_lt_iff_lt_mul hc]; rw [Nat.pow_succ] at h; exact h
    have ih := advR_dig hc n (w / c) hd
    have hm := Nat.mod_lt w hc
    have hdm := Nat.div_add_mod w c
    unfold digR advR
    by_cases h1 : w % c + 1 < c
    · have h2 : ((w % c : Nat) : Int) + 1 < c := by omega
      have h3 : (w + 1) / c = w / c := by
        rw [show w + 1 = (w % c + 1) + c * (w / c) by omega, Nat.add_mul_div_left _ _ hc, Nat.div_eq_of_lt h1]; omega
      have h4 : (w + 1) % c = w % c + 1 := by
        rw [show w + 1 = (w % c + 1) + c * (w / c) by omega, Nat.add_mul_mod_self_left, Nat.mod_eq_of_lt h1]
      have h5 : w + 1 < c ^ (n + 1) := by
        rw [Nat.pow_succ, ← Nat.div_lt_iff_lt_mul hc, h3]; exact hd
      rw [if_pos h2, if_pos h5, h3, h4]
      simp
    · have h2 : ¬ ((w % c : Nat) : Int) + 1 < c := by omega
      have h3 : (w + 1) / c = w / c + 1 := by
        rw [show w + 1 = 0 + c * (w / c + 1) by rw [Nat.mul_add]; omega, Nat.add_mul_div_left _ _ hc]; simp
      have h4 : (w + 1) % c = 0 := by
        rw [show w + 1 = 0 + c * (w / c + 1) by rw [Nat.mul_add]; omega, Nat.add_mul_mod_self_left]; simp
      have h5 : w + 1 < c ^ (n + 1) ↔ w / c + 1 < c ^ n := by
        rw [Nat.pow_succ, ← Nat.div_lt_iff_lt_mul hc, h3]
      rw [if_neg h2, ih, h3, h4]
      by_cases h6 : w / c + 1 < c ^ n
      · rw [if_pos h6, if_pos (h5.2 h6)]; simp
      · rw [if_neg h6, if_neg fun h => h6 (h5.1 h)]; simp

theorem lists_run (c m : Int) : Ans Try.prog n_cathode_lists [.int .i64 c, .int .i64 m] [] (.fn (.func n_cathode_lists_1) [] [.ptr 1 0 0 1, .ptr 0 0 0 1]) [some (.cells false 1 [.int .i64 c]), some (.cells false 1 [.int .i64 m])] := by
  refine spec_run e_cathode_lists fun G => ?_
  simp only [go_sem]
  exact ⟨_, rfl⟩

/-- What the body of a range over all lists has to do; 'PreQ' keeps row q apart. -/
structure ListBody (G : Ctx) (c m r jm jc N : Nat) (Pre : Nat → Nat → Heap → Prop) (PreQ : Nat → Nat → Nat → Heap → Prop) : Prop where
  row : ∀ s w H, Pre s w H → N ≤ H.length ∧ H[jm]? = some (some (.cells false 1 [.int .i64 m])) ∧ H[jc]? = some (some (.cells false 1 [.int .i64 c]))
  fresh : ∀ s w H x, Pre s w H → PreQ s w H.length (H ++ [x])
  drop : ∀ s w q H, PreQ s w q H → Pre s w H
  set : ∀ s w q H x, PreQ s w q H → PreQ s w q (H.set q x)
  next : ∀ s H, 1 ≤ s → s ≤ m → Pre s (c ^ s) H → Pre (s + 1) 0 H
  round : ∀ s w H q, 1 ≤ s → s ≤ m → w < c ^ s → PreQ s w q H → H[q]? = some (some (.cells false 1 (ivs (digL c s w)))) → RoundW Try.prog G r [.sl q 0 s] H fun v H' =>
    (H.length ≤ H'.length ∧ H'[q]? = H[q]?) ∧ v = .bool true ∧ PreQ s (w + 1) q H'

set_option maxHeartbeats 1000000 in
theorem lists1_iter {G : Ctx} {c m r jm jc N : Nat} (hc : 0 < c ∧ c ≤ 100) (hm : m ≤ 100) {Pre : Nat → Nat → Heap → Prop} {PreQ : Nat → Nat → Nat → Heap → Prop} (hB : ListBody G c m r jm jc N Pre PreQ) {H0 : Heap} (h0 : Pre 1 0 H0) :
    CallW Try.prog G n_cathode_lists_1 [.yfn r, .ptr jm 0 0 1, .ptr jc 0 0 1] H0 fun v H' => v = .tup [] ∧ Pre (m + 1) 0 H' := by
  refine callW_run 3000 e_cathode_lists_1 ?_
  simp only [go_sem]
  refine loop_ind k_cathode_lists_1_r9.eq_1 (fun a : Nat × Heap => 1 ≤ a.1 ∧ a.1 ≤ m + 1 ∧ H0.length ≤ a.2.length ∧ Pre a.1 0 a.2) (fun a => m + 1 - a.1)
    (fun a => (tsets 22 [(0, .yfn r), (1, .ptr jm 0 0 1), (2, .ptr jc 0 0 1), (4, .int .i64 a.1)], a.2)) (1, H0) ⟨Nat.le_refl _, by simp, Nat.le_refl _, h0⟩ (by simp [go_sem]) rfl ?_
  rintro ⟨s, H⟩ ⟨hs1, hs, hH0, hp⟩ ih
  dsimp only at hs1 hs hH0 hp ih ⊢
  obtain ⟨hN, hjm, hjc⟩ := hB.row s 0 H hp
  by_cases h1 : s ≤ m
  · have h2 : (s : Int) ≤ m := by omega
    have w1 : IntKind.i64.wrap ((s : Int) + 1) = ((s + 1 : Nat) : Int) := by rw [w64 (by omega)]; omega
    have m1 : 0 ≤ (s : Int) ∧ (s : Int) ≤ s ∧ (s : Int) ≤ 2 ^ 44 ∧ (s : Int) * (8 : Nat) ≤ 2 ^ 44 := by omega
    have hcs : 0 < c ^ s := Nat.pow_pos hc.1
    have hz := digL_zero c s
    simp only [go_sem, cells_at hjm, h2, m1]
    refine ⟨by omega, ?_⟩
    rw [← hz]
    refine loop_ind k_cathode_lists_1_r7.eq_1 (fun a : Nat × Heap => a.1 ≤ c ^ s ∧ H0.length ≤ a.2.length ∧ PreQ s a.1 H.length a.2 ∧ (a.1 < c ^ s → a.2[H.length]? = some (some (.cells false 1 (ivs (digL c s a.1)))))) (fun a => c ^ s - a.1)
      (fun a => (tsets 22 [(0, .yfn r), (1, .ptr jm 0 0 1), (2, .ptr jc 0 0 1), (4, .int .i64 s), (5, .sl H.length 0 s), (6, .bool (decide (a.1 < c ^ s)))], a.2))
      (0, _) ⟨Nat.zero_le _, by simp; omega, hB.fresh _ _ _ _ hp, fun _ => get_end _ _⟩ (by simp [go_sem, hcs]) rfl ?_
    rintro ⟨w, J⟩ ⟨hw, hJ0, hpj, hJz⟩ ih2
    dsimp only at hw hJ0 hpj hJz ih2 ⊢
    by_cases h3 : w < c ^ s
    · have hq := hJz h3
      have hql := (List.getElem?_eq_some_iff.1 hq).1
      have hrd := hB.round s w J H.length hs1 h1 h3 hpj hq
      have hA := advance_run c (by omega) (digR c s w) (fun d hd => by have := digR_in hc.1 s w d hd; omega) (by rw [digR_len]; omega) (by rw [digR_len]; omega)
      rw [advR_dig hc.1 s w h3, digR_len] at hA
      simp only [go_sem, h3, decide_true]
      refine yieldR _ rfl rfl (by simp [go_sem]) (by simp [go_sem]) hJ0 ?_
      refine hrd.mono ?_
      rintro v J' ⟨⟨q1, q2⟩, rfl, q3⟩
      refine ⟨fun q hq => by simp at hq, ?_⟩
      obtain ⟨hN', hjm', hjc'⟩ := hB.row s (w + 1) J' (hB.drop _ _ _ _ q3)
      have hq' : J'[H.length]? = some (some (.cells false 1 (ivs (digL c s w)))) := by rw [q2]; exact hq
      have hql' := (List.getElem?_eq_some_iff.1 hq').1
      have en : nth [H.length] 0 = H.length := rfl
      have hput : ∀ x, Heap.put J' H.length x = J'.set H.length (some x) := fun x => put_lt hql'
      have hset : ∀ x, PreQ s (w + 1) H.length (J'.set H.length x) := fun x => hB.set _ _ _ _ _ q3
      have hget : ∀ x, (J'.set H.length (some x))[H.length]? = some (some x) := fun x => by simp [hql']
      simp only [go_sem, cells_at hjc']
      by_cases h5 : w + 1 < c ^ s
      · rw [if_pos h5] at hA
        refine callS hA [H.length] (by simp) ⟨by rw [Row.ren_same (ivs_row _ _ _)]; exact hq', trivial⟩ rfl ⟨by simp [go_sem], .int _ _, trivial⟩ ⟨ivs_row _ _ _, trivial⟩ (by simp) (.bool _) ⟨ivs_row _ _ _, trivial⟩ (by simpa using hql') (by omega) (by simp) ?_
        simp only [go_sem, outΔ, outσ, ren, Row.ren, rens_ivs, en, hput]
        refine ih2 (w + 1, _) (by dsimp only; omega) ⟨h3, by simp; omega, hset _, fun _ => hget _⟩ _ (by simp [go_sem, h5])
      · rw [if_neg h5] at hA
        refine callS hA [H.length] (by simp) ⟨by rw [Row.ren_same (ivs_row _ _ _)]; exact hq', trivial⟩ rfl ⟨by simp [go_sem], .int _ _, trivial⟩ ⟨ivs_row _ _ _, trivial⟩ (by simp) (.bool _) ⟨ivs_row _ _ _, trivial⟩ (by simpa using hql') (by omega) (by simp) ?_
        simp only [go_sem, outΔ, outσ, ren, Row.ren, rens_ivs, en, hput]
        refine ih2 (w + 1, _) (by dsimp only; omega) ⟨h3, by simp; omega, hset _, fun h => absurd h h5⟩ _ (by simp [go_sem, h5])
    · have h4 : w = c ^ s := by omega
      simp only [go_sem, h3, decide_false, w1]
      refine ih (s + 1, J) (by dsimp only; omega) ⟨by dsimp only; omega, by dsimp only; omega, hJ0, hB.next s J hs1 h1 (h4 ▸ hB.drop _ _ _ _ hpj)⟩ _ (by simp [go_sem])
  · have h2 : ¬ (s : Int) ≤ m := by omega
    simp only [go_sem, cells_at hjm, h2]
    exact (show s = m + 1 by omega) ▸ hp
end Go.Proofs
