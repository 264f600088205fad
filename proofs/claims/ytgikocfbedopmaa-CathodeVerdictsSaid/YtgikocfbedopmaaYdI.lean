/- CathodeVerdicts: what is kept. -/
import Derived.Test.YtgikocfbedopmaaYdVerd
import Derived.Test.YtgikocfbedopmaaYdH
import Derived.Test.YtgikocfbedopmaaYdA
import Derived.Test.YtgikocfbedopmaaYdF
namespace Go.Proofs
open Go Go.Sx
attribute [local irreducible] Run

def keptL (d : Dm) : List Mx → Bool
  | [] => false
  | [m] => decide (m.carb ≤ d.rest) && decide (d.ba ≤ m.ba)
  | m1 :: m2 :: r => if d.gas < m1.carb - m2.carb ∨ d.lost < m2.lost then false else keptL d (m2 :: r)
theorem keptL_iff (d : Dm) : ∀ (w : List Mx), w ≠ [] → (keptL d w = true ↔ (∀ p, p + 1 < w.length → (w.getD p default).carb - (w.getD (p + 1) default).carb ≤ d.gas ∧ (w.getD (p + 1) default).lost ≤ d.lost) ∧ (w.getD (w.length - 1) default).carb ≤ d.rest ∧ d.ba ≤ (w.getD (w.length - 1) default).ba)
  | [], h => absurd rfl h
  | [m], _ => by simp [keptL]
  | m1 :: m2 :: r, _ => by
    have ih := keptL_iff d (m2 :: r) (by simp)
    unfold keptL
    by_cases h : d.gas < m1.carb - m2.carb ∨ d.lost < m2.lost
    · rw [if_pos h]
      simp only [Bool.false_eq_true, false_iff]
      rintro ⟨h1, _⟩
      have := h1 0 (by simp)
      simp at this
      omega
    · rw [if_neg h, ih]
      constructor
      · rintro ⟨h1, h2⟩
        refine ⟨fun p hp => ?_, by simpa using h2⟩
        cases p with
        | zero => simp; omega
        | succ p =>
          have := h1 p (by simpa using hp)
          simpa using this
      · rintro ⟨h1, h2⟩
        refine ⟨fun p hp => ?_, by simpa using h2⟩
        have := h1 (p + 1) (by simpa using hp)
        simpa using this

theorem mx_bound {c : Ct} (hc : CtOK c) {m : Mx} (h : MxOK c m) : 0 ≤ m.carb ∧ m.carb ≤ 1000000 ∧ 0 ≤ m.lost ∧ m.lost ≤ 1000000 := by
  have := hc.amount
  obtain ⟨h1, h2, h3, h4, h5⟩ := h
  omega

theorem kept_run (d : Dm) (w : List Mx) (h0 : w ≠ []) (hl : w.length ≤ 1000000) (hb : ∀ m ∈ w, 0 ≤ m.carb ∧ m.carb ≤ 1000000) : Ans Try.prog n_law03_kept [d.v, .view (w.map Mx.v)] [] (.bool (keptL d w)) [] := by
  have hlp := List.length_pos_iff.2 h0
  generalize hW : keptL d w = W
  refine spec_run e_law03_kept fun G => ?_
  simp only [go_sem, Dm.v, Dm.cs]
  refine loop_ind k_law03_kept_r6.eq_1 (fun a : Nat × Heap => a.1 + 1 ≤ w.length ∧ keptL d (w.drop a.1) = W) (fun a => w.length - a.1)
    (fun a => (tsets 56 [(1, .view (w.map Mx.v)), (2, .ptr 0 0 0 1), (4, .bool false), (5, .int .i64 ((a.1 : Int) + 1))], some (.cells false 5 [d.v]) :: a.2)) (0, []) ⟨by dsimp only; omega, hW⟩ (by simp [go_sem]) rfl ?_
  rintro ⟨i, X⟩ ⟨hi, hw⟩ ih
  dsimp only at hi hw ih ⊢
  have hx1 : w[i]? = some w[i] := List.getElem?_eq_getElem (by omega)
  have hb1 := hb _ (List.getElem_mem (show i < w.length by omega))
  have hd1 : w.drop i = w[i] :: w.drop (i + 1) := List.drop_eq_getElem_cons (by omega)
  generalize w[i] = m1 at *
  by_cases h1 : i + 1 < w.length
  · have h2 : (i : Int) + 1 < w.length := by omega
    have hx2 : w[i + 1]? = some w[i + 1] := List.getElem?_eq_getElem h1
    have hb2 := hb _ (List.getElem_mem h1)
    have hd2 : w.drop (i + 1) = w[i + 1] :: w.drop (i + 1 + 1) := List.drop_eq_getElem_cons h1
    rw [hd1, hd2] at hw
    have hih := hd2
    generalize w[i + 1] = m2 at *
    have n1 : ¬ (i : Int) < 0 := by omega
    have n2 : ¬ (i : Int) + 1 < 0 := by omega
    have n3 : (i : Int) < w.length := by omega
    have n4 : ((i : Int) + 1).toNat = i + 1 := by omega
    have w1 : IntKind.i64.wrap ((i : Int) + 1 - 1) = i := by rw [w64 (by omega)]; omega
    have w2 : IntKind.i64.wrap (m1.carb - m2.carb) = m1.carb - m2.carb := w64 (by omega)
    have w3 : IntKind.i64.wrap ((i : Int) + 1 + 1) = ((i + 1 : Nat) : Int) + 1 := by rw [w64 (by omega)]; omega
    unfold keptL at hw
    simp only [go_sem, h2, n1, n2, n3, n4, hx1, hx2, w1, w2, Mx.v, Mx.cs, Dm.v, Dm.cs, List.length_map]
    by_cases g1 : d.gas < m1.carb - m2.carb
    · rw [if_pos (.inl g1)] at hw
      simp only [go_sem, g1, hw]
    · by_cases g2 : d.lost < m2.lost
      · rw [if_pos (.inr g2)] at hw
        simp only [go_sem, h2, n1, n2, n3, n4, hx1, hx2, g1, g2, hw, Mx.v, Mx.cs, Dm.v, Dm.cs, List.length_map]
      · rw [if_neg (by omega), ← hd2] at hw
        simp only [go_sem, h2, n1, n2, n3, n4, hx1, hx2, g1, g2, w3, Mx.v, Mx.cs, Dm.v, Dm.cs, List.length_map]
        exact ih (i + 1, _) (by dsimp only; omega) ⟨h1, hw⟩ _ (by simp [go_sem])
  · have h2 : ¬ (i : Int) + 1 < w.length := by omega
    have w1 : IntKind.i64.wrap ((w.length : Int) - 1) = (i : Int) := by rw [w64 (by omega)]; omega
    have n1 : ¬ (i : Int) < 0 := by omega
    have n3 : (i : Int) < w.length := by omega
    rw [hd1, List.drop_of_length_le (by omega)] at hw
    unfold keptL at hw
    simp only [go_sem, h2, w1, n1, n3, hx1, Mx.v, Mx.cs, Dm.v, Dm.cs, List.length_map, Int.toNat_natCast]
    rw [← hw]
    by_cases g1 : m1.carb ≤ d.rest <;> by_cases g2 : d.ba ≤ m1.ba <;> simp [g1, g2]
end Go.Proofs
