/- The ticks of a schedule, handed out one by one. -/
import Derived.Test.YtigaafcllfjniaaYcT
import Derived.Test.YtigaafcllfjniaaSxF
namespace Go.Proofs
open Go Go.Sx
attribute [local irreducible] Run

theorem ticks_run (l : List Ht) : Ans Try.prog n_cathode_ticks [.view (l.map Ht.v)] [] (.fn (.func n_cathode_ticks_1) [] [.ptr 0 0 0 1]) [some (.cells false 1 [.view (l.map Ht.v)])] := by
  refine spec_run e_cathode_ticks fun G => ?_
  simp only [go_sem]
  exact ⟨_, rfl⟩

/-- What the body of a range over ticks has to do. -/
structure TickBody (G : Ctx) (l : List Ht) (r j N : Nat) (Pre : Nat → Heap → Prop) (Stop : Heap → Prop) : Prop where
  row : ∀ i H, Pre i H → N ≤ H.length ∧ H[j]? = some (some (.cells false 1 [.view (l.map Ht.v)]))
  grow : ∀ i H x, Pre i H → Pre i (H ++ [x])
  round : ∀ i z H, (flat l)[i]? = some z → Pre i H → RoundW Try.prog G r [.int .i64 ((i : Int) + 1), z.v] H fun v H' =>
    (H.length ≤ H'.length ∧ ∀ q, N ≤ q → q < H.length → H'[q]? = H[q]?) ∧ ((v = .bool true ∧ Pre (i + 1) H') ∨ (v = .bool false ∧ Stop H'))

set_option maxHeartbeats 1000000 in
theorem ticks1_iter {G : Ctx} {l : List Ht} (hl : LsOK l) {r j N : Nat} {Pre : Nat → Heap → Prop} {Stop : Heap → Prop} (hB : TickBody G l r j N Pre Stop) {H0 : Heap} (h0 : Pre 0 H0) :
    CallW Try.prog G n_cathode_ticks_1 [.yfn r, .ptr j 0 0 1] H0 fun v H' => v = .tup [] ∧ (Pre (flat l).length H' ∨ Stop H') := by
  have hlen := hl.len
  have hsum := hl.sum
  obtain ⟨hN0, hj0⟩ := hB.row 0 H0 h0
  have hfl := flat_len hl.all
  refine callW_run 3000 e_cathode_ticks_1 ?_
  simp only [go_sem, cells_at hj0]
  refine loop_ind k_cathode_ticks_1_r11.eq_1 (fun a : Nat × Heap => a.1 ≤ l.length ∧ H0.length ≤ a.2.length ∧ Pre (flat (l.take a.1)).length a.2) (fun a => l.length - a.1)
    (fun a => (tsets 25 [(0, .yfn r), (1, .ptr j 0 0 1), (3, .int .i64 (flat (l.take a.1)).length), (6, .view (l.map Ht.v)), (7, .int .i64 l.length), (8, .int .i64 a.1)], a.2)) (0, H0) ⟨Nat.zero_le _, Nat.le_refl _, h0⟩ (by simp [go_sem, flat]) rfl ?_
  rintro ⟨i, H⟩ ⟨hi, hH0, hp⟩ ih
  dsimp only at hi hH0 hp ih ⊢
  by_cases h1 : i < l.length
  · have h2 : (i : Int) < l.length := by omega
    have n0 : ¬ (i : Int) < 0 := by omega
    have hx : l[i]? = some l[i] := List.getElem?_eq_getElem h1
    have hz := hl.all _ (List.getElem_mem h1)
    have hs := flat_succ hx
    have hlt := fun t => flat_at (t := t) hx
    have h3 := idx_next h1 (by omega)
    have hfi := flat_len (l := l.take i) fun x hx => hl.all x (List.mem_of_mem_take hx)
    have hr0 := lenOfL_take hl.all i
    have hr1 := lenOfL_take hl.all (i + 1)
    have hls := lenOfL_succ hx
    generalize l[i] = z at *
    have hzt := hz.ticks
    simp only [go_sem, h2, n0, hx, cells_end, get_end, put_at_end, Ht.v, Ht.cs]
    refine loop_ind k_cathode_ticks_1_r9.eq_1 (fun a : Nat × Heap => a.1 ≤ z.ticks.toNat ∧ H0.length ≤ a.2.length ∧ a.2[H.length]? = some (some (.cells false 3 [z.v])) ∧ Pre ((flat (l.take i)).length + a.1) a.2) (fun a => z.ticks.toNat - a.1)
      (fun a => (tsets 25 [(0, .yfn r), (1, .ptr j 0 0 1), (3, .int .i64 ((flat (l.take i)).length + a.1)), (5, .ptr H.length 0 0 1), (6, .view (l.map Ht.v)), (7, .int .i64 l.length), (8, .int .i64 i), (13, .int .i64 z.ticks), (14, .int .i64 a.1)], a.2))
      (0, _) ⟨Nat.zero_le _, by simp; omega, get_end _ _, hB.grow _ _ _ hp⟩ (by simp [go_sem]) rfl ?_
    rintro ⟨t, J⟩ ⟨ht, hJ0, hJz, hpj⟩ ih2
    dsimp only at ht hJ0 hJz hpj ih2 ⊢
    by_cases h4 : t < z.ticks.toNat
    · have h5 : (t : Int) < z.ticks := by omega
      have h6 := idx_next h4 (by omega)
      obtain ⟨f1, f2⟩ := hlt t h4
      have w1 : IntKind.i64.wrap ((flat (l.take i)).length + (t : Int) + 1) = (flat (l.take i)).length + (t : Int) + 1 := w64 (by omega)
      have hrd := hB.round _ z J f1 hpj
      have hNj := (hB.row _ J hpj).1
      simp only [go_sem, h5, w1, cells_at hJz, Ht.v, Ht.cs]
      refine yieldR _ rfl rfl (by simp [go_sem]) (by simp [go_sem]) hJ0 ?_
      simp only [Ht.v, Ht.cs] at hrd
      push_cast at hrd
      refine hrd.mono ?_
      rintro v J' ⟨⟨q1, q2⟩, ⟨rfl, q3⟩ | ⟨rfl, q3⟩⟩
      · refine ⟨fun q hq => by simp at hq, ?_⟩
        simp only [go_sem, h6]
        refine ih2 (t + 1, J') (by dsimp only; omega) ⟨h4, by dsimp only; omega, ?_, q3⟩ _ (by simp [go_sem]; omega)
        dsimp only
        rw [q2 H.length (hB.row _ H hp).1 (List.getElem?_eq_some_iff.1 hJz).1]; exact hJz
      · refine ⟨fun q hq => by simp at hq, ?_⟩
        simp only [go_sem]
        exact .inr q3
    · have h5 : ¬ (t : Int) < z.ticks := by omega
      have hte : t = z.ticks.toNat := by omega
      simp only [go_sem, h5, h3]
      refine ih (i + 1, J) (by dsimp only; omega) ⟨h1, hJ0, by dsimp only; rw [hs]; simpa [hte] using hpj⟩ _ ?_
      rw [hs]
      simp [go_sem, hte]
  · have h2 : ¬ (i : Int) < l.length := by omega
    simp only [go_sem, h2]
    rw [List.take_of_length_le (by omega)] at hp
    exact .inl hp
end Go.Proofs
