/- Verdicts: what the demands say of a coating. -/
import Derived.Test.YtgikocfbedopmaaYdE
namespace Go.Proofs
open Go Go.Sx
attribute [local irreducible] Run

def amV (r : Rg) (m : Int) : Int := if r.hi ≤ m then 1 else if m < r.lo then 2 else 3
def alV (r : Rg) (m : Int) : Int := if m ≤ r.lo then 1 else if r.hi < m then 2 else 3
theorem atMost_run (r : Rg) (m : Int) : Ans Try.prog n_cathode_atMost [r.v, .int .i64 m] [] (.int .i64 (amV r m)) [] := by
  unfold amV
  refine spec_run e_cathode_atMost fun G => ?_
  by_cases h1 : r.hi ≤ m
  · simp only [go_sem, Rg.v, h1]
  · by_cases h2 : m < r.lo
    · simp only [go_sem, Rg.v, h1, h2]
    · simp only [go_sem, Rg.v, h1, h2]
theorem atLeast_run (r : Rg) (m : Int) : Ans Try.prog n_cathode_atLeast [r.v, .int .i64 m] [] (.int .i64 (alV r m)) [] := by
  unfold alV
  refine spec_run e_cathode_atLeast fun G => ?_
  by_cases h1 : m ≤ r.lo
  · simp only [go_sem, Rg.v, h1]
  · by_cases h2 : r.hi < m
    · simp only [go_sem, Rg.v, h1, h2]
    · simp only [go_sem, Rg.v, h1, h2]

theorem look1_run (x : Cg) (d : Dm) : Ans Try.prog n_cathode_looksOf_1 [x.v, .rptr d.v 0] [] (.int .i64 (amV x.gas d.gas)) [] := by
  refine spec_run e_cathode_looksOf_1 fun G => ?_
  simp only [go_sem, Cg.v, Cg.cs, Dm.v, Dm.cs]
  refine cP (atMost_run x.gas d.gas) ?_
  simp only [go_sem]
theorem look2_run (x : Cg) (d : Dm) : Ans Try.prog n_cathode_looksOf_2 [x.v, .rptr d.v 0] [] (.int .i64 (amV x.wear d.wear)) [] := by
  refine spec_run e_cathode_looksOf_2 fun G => ?_
  simp only [go_sem, Cg.v, Cg.cs, Dm.v, Dm.cs]
  refine cP (atMost_run x.wear d.wear) ?_
  simp only [go_sem]
theorem look3_run (x : Cg) (d : Dm) : Ans Try.prog n_cathode_looksOf_3 [x.v, .rptr d.v 0] [] (.int .i64 (amV x.lost d.lost)) [] := by
  refine spec_run e_cathode_looksOf_3 fun G => ?_
  simp only [go_sem, Cg.v, Cg.cs, Dm.v, Dm.cs]
  refine cP (atMost_run x.lost d.lost) ?_
  simp only [go_sem]
theorem look4_run (x : Cg) (d : Dm) : Ans Try.prog n_cathode_looksOf_4 [x.v, .rptr d.v 0] [] (.int .i64 (amV x.carb d.rest)) [] := by
  refine spec_run e_cathode_looksOf_4 fun G => ?_
  simp only [go_sem, Cg.v, Cg.cs, Dm.v, Dm.cs]
  refine cP (atMost_run x.carb d.rest) ?_
  simp only [go_sem]
theorem look5_run (x : Cg) (d : Dm) : Ans Try.prog n_cathode_looksOf_5 [x.v, .rptr d.v 0] [] (.int .i64 (alV x.ba d.ba)) [] := by
  refine spec_run e_cathode_looksOf_5 fun G => ?_
  simp only [go_sem, Cg.v, Cg.cs, Dm.v, Dm.cs]
  refine cP (atLeast_run x.ba d.ba) ?_
  simp only [go_sem]

/-- The worst that is said. -/
def worst : Int → List Int → Int
  | a, [] => a
  | a, v :: vs => if v = 2 then 2 else worst (if v = 3 then 3 else a) vs
def fnv (p : Nat × List AVal × Int) : AVal := .fn (.func p.1) [] p.2.1

theorem fnv_len (ps : List (Nat × List AVal × Int)) : (ps.map fnv).length = ps.length := List.length_map _
theorem looksAll_run (x : Cg) (ps : List (Nat × List AVal × Int)) (hl : ps.length ≤ 100) (hps : ∀ p ∈ ps, Ans Try.prog p.1 (x.v :: p.2.1) [] (.int .i64 p.2.2) [] ∧ Bels (fun _ => False) p.2.1) :
    Ans Try.prog n_cathode_looks_all [.view (ps.map fnv), x.v] [] (.int .i64 (worst 1 (ps.map (·.2.2)))) [] := by
  generalize hW : worst 1 (ps.map (·.2.2)) = W
  refine spec_run e_cathode_looks_all fun G => ?_
  simp only [go_sem, Cg.v, Cg.cs, List.length_map]
  refine loop_ind k_cathode_looks_all_r11.eq_1 (fun a : Nat × Int × Heap => a.1 ≤ ps.length ∧ worst a.2.1 ((ps.drop a.1).map (·.2.2)) = W) (fun a => ps.length - a.1)
    (fun a => (tsets 23 [(3, .ptr 0 0 0 1), (5, .int .i64 a.2.1), (8, .view (ps.map fnv)), (9, .int .i64 ps.length), (10, .int .i64 a.1)], some (.cells false 13 [x.v]) :: a.2.2)) (0, 1, []) ⟨Nat.zero_le _, hW⟩ (by simp [go_sem]) rfl ?_
  rintro ⟨i, a, X⟩ ⟨hi, hw⟩ ih
  dsimp only at hi hw ih ⊢
  by_cases h1 : i < ps.length
  · have h2 : (i : Int) < ps.length := by omega
    have n0 : ¬ (i : Int) < 0 := by omega
    have hx : ps[i]? = some ps[i] := List.getElem?_eq_getElem h1
    have hd : ps.drop i = ps[i] :: ps.drop (i + 1) := List.drop_eq_getElem_cons h1
    have h3 := idx_next h1 (by omega)
    obtain ⟨hp, hb⟩ := hps _ (List.getElem_mem h1)
    rw [hd] at hw
    generalize ps[i] = p at *
    obtain ⟨g, cs, v⟩ := p
    simp only [List.map_cons, worst] at hw
    dsimp only at hp hb
    simp only [go_sem, hx, h2, n0, fnv, Cg.v, Cg.cs, List.length_map]
    refine cP hp ?_ ⟨by simp only [go_sem], hb⟩
    by_cases v2 : v = 2
    · subst v2
      simp only [if_true] at hw
      simp only [go_sem, hw]
    · by_cases v3 : v = 3
      · subst v3
        simp only [if_true, if_neg (show ¬ (3 : Int) = 2 by decide)] at hw
        simp only [go_sem, h3]
        exact ih (i + 1, 3, _) (by dsimp only; omega) ⟨h1, hw⟩ _ (by simp [go_sem])
      · have b2 : (v == 2) = false := by simp [v2]
        have b3 : (v == 3) = false := by simp [v3]
        rw [if_neg v2, if_neg v3] at hw
        simp only [go_sem, b2, b3, h3]
        exact ih (i + 1, a, _) (by dsimp only; omega) ⟨h1, hw⟩ _ (by simp [go_sem])
  · have h2 : ¬ (i : Int) < ps.length := by omega
    rw [List.drop_of_length_le (by omega)] at hw
    simp only [List.map_nil, worst] at hw
    simp only [go_sem, h2, List.length_map, hw]

/-- What is said of a coating after a tick, and after the last. -/
def eachV (d : Dm) (x : Cg) : Int := worst 1 [amV x.gas d.gas, amV x.wear d.wear, amV x.lost d.lost]
def lastV (d : Dm) (x : Cg) : Int := worst 1 [amV x.carb d.rest, alV x.ba d.ba]
def eachF (c : AVal) : List AVal := [.fn (.func n_cathode_looksOf_1) [] [c], .fn (.func n_cathode_looksOf_2) [] [c], .fn (.func n_cathode_looksOf_3) [] [c]]
def lastF (c : AVal) : List AVal := [.fn (.func n_cathode_looksOf_4) [] [c], .fn (.func n_cathode_looksOf_5) [] [c]]
theorem each_run (d : Dm) (x : Cg) : Ans Try.prog n_cathode_looks_all [.view (eachF (.rptr d.v 0)), x.v] [] (.int .i64 (eachV d x)) [] := by
  refine looksAll_run x [(n_cathode_looksOf_1, [.rptr d.v 0], amV x.gas d.gas), (n_cathode_looksOf_2, [.rptr d.v 0], amV x.wear d.wear), (n_cathode_looksOf_3, [.rptr d.v 0], amV x.lost d.lost)] (by simp) ?_
  intro p hp
  simp only [List.mem_cons, List.not_mem_nil, or_false] at hp
  rcases hp with rfl | rfl | rfl
  · exact ⟨look1_run x d, by simp only [go_sem]⟩
  · exact ⟨look2_run x d, by simp only [go_sem]⟩
  · exact ⟨look3_run x d, by simp only [go_sem]⟩
theorem last_run (d : Dm) (x : Cg) : Ans Try.prog n_cathode_looks_all [.view (lastF (.rptr d.v 0)), x.v] [] (.int .i64 (lastV d x)) [] := by
  refine looksAll_run x [(n_cathode_looksOf_4, [.rptr d.v 0], amV x.carb d.rest), (n_cathode_looksOf_5, [.rptr d.v 0], alV x.ba d.ba)] (by simp) ?_
  intro p hp
  simp only [List.mem_cons, List.not_mem_nil, or_false] at hp
  rcases hp with rfl | rfl
  · exact ⟨look4_run x d, by simp only [go_sem]⟩
  · exact ⟨look5_run x d, by simp only [go_sem]⟩

theorem amV_in (r : Rg) (m : Int) : amV r m = 1 ∨ amV r m = 2 ∨ amV r m = 3 := by unfold amV; split <;> (try split) <;> simp
theorem alV_in (r : Rg) (m : Int) : alV r m = 1 ∨ alV r m = 2 ∨ alV r m = 3 := by unfold alV; split <;> (try split) <;> simp
theorem amV_sure {r : Rg} {m : Int} : amV r m = 1 ↔ r.hi ≤ m := by unfold amV; split <;> (try split) <;> simp <;> omega
theorem amV_never {r : Rg} {m : Int} (h : r.lo ≤ r.hi) : amV r m = 2 ↔ m < r.lo := by unfold amV; split <;> (try split) <;> simp <;> omega
theorem alV_sure {r : Rg} {m : Int} : alV r m = 1 ↔ m ≤ r.lo := by unfold alV; split <;> (try split) <;> simp <;> omega
theorem alV_never {r : Rg} {m : Int} (h : r.lo ≤ r.hi) : alV r m = 2 ↔ r.hi < m := by unfold alV; split <;> (try split) <;> simp <;> omega
theorem worst_never : ∀ (l : List Int) (a : Int), a ≠ 2 → (worst a l = 2 ↔ ∃ v ∈ l, v = 2)
  | [], a, h => by simp [worst, h]
  | v :: l, a, h => by
    unfold worst
    by_cases hv : v = 2
    · simp [hv]
    · rw [if_neg hv, worst_never l _ (by split <;> omega)]
      constructor
      · rintro ⟨u, hu, h2⟩
        exact ⟨u, by simp [hu], h2⟩
      · rintro ⟨u, hu, h2⟩
        rcases List.mem_cons.1 hu with rfl | hu
        · exact absurd h2 hv
        · exact ⟨u, hu, h2⟩
theorem worst_sure : ∀ (l : List Int) (a : Int), (∀ v ∈ l, v = 1 ∨ v = 2 ∨ v = 3) → (worst a l = 1 ↔ a = 1 ∧ ∀ v ∈ l, v = 1)
  | [], a, _ => by simp [worst]
  | v :: l, a, h => by
    have h0 := h v (by simp)
    have ih := fun a => worst_sure l a fun v hv => h v (by simp [hv])
    unfold worst
    by_cases hv : v = 2
    · subst hv; simp
    · by_cases hv3 : v = 3
      · subst hv3; rw [if_neg hv, if_pos rfl, ih]; simp
      · have : v = 1 := by omega
        subst this
        rw [if_neg hv, if_neg hv3, ih]; simp
theorem worst_in : ∀ (l : List Int) (a : Int), (a = 1 ∨ a = 2 ∨ a = 3) → worst a l = 1 ∨ worst a l = 2 ∨ worst a l = 3
  | [], a, h => h
  | v :: l, a, h => by
    unfold worst
    have h' : (if v = 3 then 3 else a) = 1 ∨ (if v = 3 then 3 else a) = 2 ∨ (if v = 3 then 3 else a) = 3 := by split <;> omega
    split
    · simp
    · exact worst_in l _ h'
end Go.Proofs
