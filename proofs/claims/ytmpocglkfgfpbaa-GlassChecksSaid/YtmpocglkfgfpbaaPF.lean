/- A part of the proof. -/
import Derived.Test.YtmpocglkfgfpbaaPE
set_option linter.unusedSimpArgs false
set_option linter.unusedVariables false
namespace Go.Proofs
open Go Go.Sx
attribute [local irreducible] Run

theorem ownStuff_raw (brk : Int) (zs : List Zn) (hl : zs.length ≤ 30) : Ans Try.prog n_kit_OwnStuff [stV brk zs] [] (.agg [.int .i64 brk, .sl 0 0 zs.length]) [some (.cells true 5 (zs.map Zn.v))] := by
  refine Ans.keep (run_fn e_kit_OwnStuff fun G => ?_) (by simp) (by simp [go_sem]) ⟨by rw [row_bel_cells]; simp only [go_sem], trivial⟩
  have hq : zs.length * 40 ≤ 2 ^ 44 := by omega
  simp only [go_sem, stV, List.length_map, hq]
  have hsz : sizedAll 5 (zs.map Zn.v) = true := by
    unfold sizedAll
    rw [List.all_eq_true]
    intro v hv
    obtain ⟨z, _, rfl⟩ := List.mem_map.1 hv
    rfl
  refine ⟨by rw [hsz]; decide, kept_one 2 ?_ ?_ rfl⟩
  · simp [ren, rens]
  · rw [row_bel_cells]; simp only [go_sem]
theorem ownOven_raw (f : Int) (ls : List Lg) (hl : ls.length ≤ 30) : Ans Try.prog n_kit_OwnOven [ovV f ls] [] (.agg [.int .i64 f, .sl 0 0 ls.length]) [some (.cells true 2 (ls.map Lg.v))] := by
  refine Ans.keep (run_fn e_kit_OwnOven fun G => ?_) (by simp) (by simp [go_sem]) ⟨by rw [row_bel_cells]; simp only [go_sem], trivial⟩
  have hq : ls.length * 16 ≤ 2 ^ 44 := by omega
  simp only [go_sem, ovV, List.length_map, hq]
  have hsz : sizedAll 2 (ls.map Lg.v) = true := by
    unfold sizedAll
    rw [List.all_eq_true]
    intro v hv
    obtain ⟨z, _, rfl⟩ := List.mem_map.1 hv
    rfl
  refine ⟨by rw [hsz]; decide, kept_one 2 ?_ ?_ rfl⟩
  · simp [ren, rens]
  · rw [row_bel_cells]; simp only [go_sem]
theorem own_raw (P : List Int) (hl : P.length ≤ 1000000) : Ans Try.prog n_kit_Own [.view (il P)] [] (.sl 0 0 P.length) [some (.cells true 1 (il P))] := by
  refine Ans.keep (run_fn e_kit_Own fun G => ?_) (by simp) (by simp [go_sem]) ⟨by rw [row_bel_cells]; exact il_bel _ _, trivial⟩
  have hq : P.length * 8 ≤ 2 ^ 44 := by omega
  have hb := fun S => il_bel P S
  simp only [go_sem, il_len, hq]
  have hsz : sizedAll 1 (il P) = true := by
    unfold sizedAll il
    rw [List.all_eq_true]
    intro v hv
    obtain ⟨z, _, rfl⟩ := List.mem_map.1 hv
    rfl
  refine ⟨by rw [hsz]; decide, kept_one 0 ?_ ?_ rfl⟩
  · simp [ren, rens]
  · rw [row_bel_cells]; exact il_bel _ _
theorem sameStuffs_run (b : Int) (zs : List Zn) (hl : zs.length ≤ 1000) : Ans Try.prog n_kit_SameStuffs [stV b zs, stV b zs] [] (.bool true) [] := by
  refine spec_run e_kit_SameStuffs fun G => ?_
  simp only [go_sem, stV, List.length_map, bne_self_eq_false]
  refine loop_indH k_kit_SameStuffs_r8.eq_1 (fun i : Nat => i ≤ zs.length) (fun i => zs.length - i)
    (fun i => tsets 38 [(2, .ptr 0 0 0 1), (3, .ptr 1 0 0 1), (4, .bool false), (5, .int .i64 i)]) 0 (Nat.zero_le _) (by simp [go_sem]) ?_
  intro i hi ih
  by_cases h1 : i < zs.length
  · have h2 : (i : Int) < zs.length := by omega
    have n0 : ¬ (i : Int) < 0 := by omega
    have h3 : IntKind.i64.wrap ((i : Int) + 1) = ((i + 1 : Nat) : Int) := by rw [w64 (by omega)]; rfl
    obtain ⟨z, hzi⟩ : ∃ z, zs[i]? = some z := ⟨_, List.getElem?_eq_getElem h1⟩
    have ihn := ih (i + 1) (by omega) h1
    clear ih
    simp only [go_sem, List.length_map, h2, n0, hzi, Zn.v, Zn.cs, h3]
    exact ihn _ (by simp [go_sem])
  · have h2 : ¬ (i : Int) < zs.length := by omega
    simp only [go_sem, List.length_map, h2]
theorem sameOvens_run (f : Int) (ls : List Lg) (hl : ls.length ≤ 1000) : Ans Try.prog n_ref05_SameOvens [ovV f ls, ovV f ls] [] (.bool true) [] := by
  refine spec_run e_ref05_SameOvens fun G => ?_
  simp only [go_sem, ovV, List.length_map, bne_self_eq_false]
  refine loop_indH k_ref05_SameOvens_r8.eq_1 (fun i : Nat => i ≤ ls.length) (fun i => ls.length - i)
    (fun i => tsets 38 [(2, .ptr 0 0 0 1), (3, .ptr 1 0 0 1), (4, .bool false), (5, .int .i64 i)]) 0 (Nat.zero_le _) (by simp [go_sem]) ?_
  intro i hi ih
  by_cases h1 : i < ls.length
  · have h2 : (i : Int) < ls.length := by omega
    have n0 : ¬ (i : Int) < 0 := by omega
    have h3 : IntKind.i64.wrap ((i : Int) + 1) = ((i + 1 : Nat) : Int) := by rw [w64 (by omega)]; rfl
    obtain ⟨z, hzi⟩ : ∃ z, ls[i]? = some z := ⟨_, List.getElem?_eq_getElem h1⟩
    have ihn := ih (i + 1) (by omega) h1
    clear ih
    simp only [go_sem, List.length_map, h2, n0, hzi, Lg.v, h3]
    exact ihn _ (by simp [go_sem])
  · have h2 : ¬ (i : Int) < ls.length := by omega
    simp only [go_sem, List.length_map, h2]
theorem long_run (l : List Fr) (hb : ∀ r ∈ l, r.bf.length ≤ 9223372036854775807) (hl : l.length ≤ 9223372036854775807) : ∃ b : Bool, Ans Try.prog n_law05_long [.view (l.map Fr.v)] [] (.bool b) [] ∧ (b = false → l.length ≤ 12 ∧ ∀ r ∈ l, r.bf.length ≤ 20) := by
  have gl : ∀ j : Nat, (∃ i r, j ≤ i ∧ l[i]? = some r ∧ r.bf.length > 20) ∨ (∀ i r, j ≤ i → l[i]? = some r → r.bf.length ≤ 20) := fun j => by
    by_cases h : ∃ i r, j ≤ i ∧ l[i]? = some r ∧ r.bf.length > 20
    · exact .inl h
    · exact .inr fun i r h1 h2 => by
        by_cases h3 : r.bf.length > 20
        · exact absurd ⟨i, r, h1, h2, h3⟩ h
        · omega
  rcases gl 0 with ⟨q, rq, -, hq, hlen⟩ | hno
  · refine ⟨true, ?_, fun h => by cases h⟩
    have ql := (List.getElem?_eq_some_iff.1 hq).1
    refine spec_run e_law05_long fun G => ?_
    simp only [go_sem]
    refine loop_indH k_law05_long_r6.eq_1 (fun i : Nat => i ≤ q) (fun i => q - i) (fun i => tsets 20 [(0, .view (l.map Fr.v)), (2, .bool false), (3, .int .i64 i)]) 0 (Nat.zero_le _) (by simp [go_sem]) ?_
    intro i hi ih
    have i2 : (i : Int) < l.length := by omega
    have n0 : ¬ (i : Int) < 0 := by omega
    have h3 : IntKind.i64.wrap ((i : Int) + 1) = ((i + 1 : Nat) : Int) := by rw [w64 (by omega)]; rfl
    obtain ⟨r, hri⟩ : ∃ r, l[i]? = some r := ⟨_, List.getElem?_eq_getElem (by omega)⟩
    by_cases c : (r.bf.length : Int) > 20
    · clear ih
      simp only [go_sem, List.length_map, i2, n0, hri, Fr.v, il_len, c]
    · have hne : i ≠ q := fun e => by
        subst e; rw [hq] at hri; cases hri; omega
      have ihn := ih (i + 1) (by omega) (by omega)
      clear ih
      simp only [go_sem, List.length_map, i2, n0, hri, Fr.v, il_len, c, h3]
      exact ihn _ (by simp [go_sem])
  · refine ⟨decide ((l.length : Int) > 12), ?_, fun h => ⟨by have := of_decide_eq_false h; omega, fun r hr => by
      obtain ⟨i, hi⟩ := List.getElem?_of_mem hr
      exact hno i r (Nat.zero_le _) hi⟩⟩
    refine spec_run e_law05_long fun G => ?_
    simp only [go_sem]
    refine loop_indH k_law05_long_r6.eq_1 (fun i : Nat => i ≤ l.length) (fun i => l.length - i) (fun i => tsets 20 [(0, .view (l.map Fr.v)), (2, .bool false), (3, .int .i64 i)]) 0 (Nat.zero_le _) (by simp [go_sem]) ?_
    intro i hi ih
    by_cases i1 : i < l.length
    · have i2 : (i : Int) < l.length := by omega
      have n0 : ¬ (i : Int) < 0 := by omega
      have h3 : IntKind.i64.wrap ((i : Int) + 1) = ((i + 1 : Nat) : Int) := by rw [w64 (by omega)]; rfl
      obtain ⟨r, hri⟩ : ∃ r, l[i]? = some r := ⟨_, List.getElem?_eq_getElem (by omega)⟩
      have c : ¬ (r.bf.length : Int) > 20 := by have := hno i r (Nat.zero_le _) hri; omega
      have ihn := ih (i + 1) (by omega) (by omega)
      clear ih
      simp only [go_sem, List.length_map, i2, n0, hri, Fr.v, il_len, c, h3]
      exact ihn _ (by simp [go_sem])
    · have i2 : ¬ (i : Int) < l.length := by omega
      simp only [go_sem, List.length_map, i2]
end Go.Proofs

namespace Go.Proofs
open Go Go.Sx
attribute [local irreducible] Run

abbrev FL := List (Bool × Fr)
def rowF (x : Bool × Fr) : Row := if x.2.bf = [] then .cells false 3 [.agg [.int .i64 x.2.a, .int .i64 x.2.b, .nilsl]] else .cells x.1 1 (il x.2.bf)
def entF (q : Nat) (r : Fr) : AVal := .agg [.int .i64 r.a, .int .i64 r.b, slv q (il r.bf)]
def entsF (k : Nat) : FL → List AVal
  | [] => []
  | x :: F => entF k x.2 :: entsF (k + 1) F
def rws (F : FL) : Heap := F.map fun x => some (rowF x)
def LR (k : Nat) (F : FL) : Row := .cells true 3 (entsF k F)
theorem entsF_len : ∀ (k : Nat) (F : FL), (entsF k F).length = F.length
  | _, [] => rfl
  | k, _ :: F => by rw [entsF, List.length_cons, List.length_cons, entsF_len (k + 1) F]
theorem entsF_snoc (x : Bool × Fr) : ∀ (k : Nat) (F : FL), entsF k (F ++ [x]) = entsF k F ++ [entF (k + F.length) x.2]
  | _, [] => rfl
  | k, y :: F => by
    rw [List.cons_append, entsF, entsF, entsF_snoc x (k + 1) F, List.cons_append, List.length_cons, show k + 1 + F.length = k + (F.length + 1) by omega]
theorem entF_ren {σ : Nat → Nat} {q q' : Nat} (r : Fr) (h : σ q = q') : ren σ (entF q r) = entF q' r := by
  unfold entF slv
  split <;> simp [ren, rens, h]
theorem entsF_ren {σ : Nat → Nat} : ∀ {k k0 : Nat} {F : FL}, (∀ m, m < F.length → σ (k + m) = k0 + m) → (entsF k F).map (ren σ) = entsF k0 F
  | _, _, [], _ => rfl
  | k, k0, x :: F, h => by
    have h0 : σ k = k0 := by simpa using h 0 (by simp)
    rw [entsF, entsF, List.map_cons, entF_ren x.2 h0, entsF_ren (k0 := k0 + 1) fun m hm => by
      have := h (m + 1) (by rw [List.length_cons]; omega)
      rw [show k + 1 + m = k + (m + 1) by omega, this]; omega]
theorem entF_bel {q n : Nat} (r : Fr) (h : q < n) : Bel (· < n) (entF q r) := by
  unfold entF slv
  split <;> simp [go_sem, h]
theorem entsF_bel {n : Nat} : ∀ {k : Nat} {F : FL}, k + F.length ≤ n → Bels (· < n) (entsF k F)
  | _, [], _ => by simp only [entsF, go_sem]
  | k, x :: F, h => by
    rw [List.length_cons] at h
    have h1 := entF_bel (n := n) (q := k) x.2 (by omega)
    have h2 := entsF_bel (n := n) (k := k + 1) (F := F) (by omega)
    simp only [entsF, go_sem, h1, h2]
theorem rowF_bel (x : Bool × Fr) (S : Nat → Prop) : (rowF x).bel S := by
  unfold rowF
  split
  · rw [row_bel_cells]; simp only [go_sem]
  · rw [row_bel_cells]; exact il_bel _ _
theorem rws_len (F : FL) : (rws F).length = F.length := by simp [rws]
theorem rws_get {F : FL} {m : Nat} {x : Bool × Fr} (h : F[m]? = some x) : (rws F)[m]? = some (some (rowF x)) := by unfold rws; rw [List.getElem?_map, h]; rfl
theorem rws_snoc (F : FL) (x : Bool × Fr) : rws (F ++ [x]) = rws F ++ [some (rowF x)] := by simp [rws]
theorem LR_ren {σ : Nat → Nat} {k k0 : Nat} {F : FL} (h : ∀ m, m < F.length → σ (k + m) = k0 + m) : (LR k F).ren σ = LR k0 F := by
  unfold LR
  show Row.cells true 3 (rens σ (entsF k F)) = _
  rw [rens_eq, entsF_ren h]
theorem LR_bel {n k : Nat} {F : FL} (h : k + F.length ≤ n) : (LR k F).bel (· < n) := by
  unfold LR; rw [row_bel_cells]; exact entsF_bel h
theorem rows_at {σ : Nat → Nat} {H A : Heap} {k k0 : Nat} {F : FL} (hA : ∀ m x, F[m]? = some x → A[k + m]? = some (some (rowF x))) (hσ : ∀ m, m < F.length → σ (k + m) = k0 + m) (hH : ∀ m x, F[m]? = some x → H[k0 + m]? = some (some (rowF x)))
    {i : Nat} {x : Row} (hi : k ≤ i ∧ i < k + F.length) (hx : A[i]? = some (some x)) {S : Nat → Prop} : H[σ i]? = some (some (x.ren σ)) ∧ x.bel S := by
  obtain ⟨m, rfl⟩ : ∃ m, i = k + m := ⟨i - k, by omega⟩
  obtain ⟨y, hy⟩ : ∃ y, F[m]? = some y := ⟨_, List.getElem?_eq_getElem (by omega)⟩
  rw [hA m y hy] at hx
  simp only [Option.some.injEq] at hx
  subst hx
  exact ⟨by rw [hσ m (by omega), Row.ren_same (rowF_bel _ _)]; exact hH m y hy, rowF_bel _ _⟩
end Go.Proofs

namespace Go.Proofs
open Go Go.Sx
attribute [local irreducible] Run

def foT (n m i : Nat) (v : AVal) : List AVal := tsets 58 [(0, .ptr 0 0 0 1), (1, .int .i64 n), (4, .nilsl), (5, v), (6, .int .i64 m), (7, .int .i64 i)]
def fnT (n m i j : Nat) (v : AVal) : List AVal := tsets 58 [(0, .ptr 0 0 0 1), (1, .int .i64 n), (4, .nilsl), (5, v), (6, .int .i64 m), (7, .int .i64 i), (8, .ptr 2 0 0 1), (9, .int .i64 j)]
def oH (w : Int) (F : FL) : Heap := some (Dr w) :: some (LR 2 F) :: rws F
def boxF (a b : Int) (v : AVal) : Row := .cells false 3 [.agg [.int .i64 a, .int .i64 b, v]]
def nH (w a b : Int) (F : FL) (P : List Int) (X : Heap) : Heap :=
  if P = [] then some (Dr w) :: some (LR 3 F) :: some (boxF a b .nilsl) :: rws F else some (Dr w) :: some (LR 4 F) :: some (boxF a b (.sl 3 0 P.length)) :: some (.cells true 1 (il P)) :: X
section
variable {G : Ctx} {rd : Option Nat} {c : ACode} {fs : List Sx.Frame} {Q : Sx.Goal} {ρ : List AVal} {n m i j : Nat} {w a b : Int} {F : FL}
theorem boxF_bel (S : Nat → Prop) (a b : Int) : (boxF a b .nilsl).bel S := by unfold boxF; rw [row_bel_cells]; simp only [go_sem]
theorem to_inner (hW : Wk ρ (tsets 58 [(0, .ptr 0 0 0 1), (1, .int .i64 n), (4, .nilsl), (5, .sl 1 0 F.length), (6, .int .i64 m), (7, .int .i64 i), (8, .ptr (2 + F.length) 0 0 1), (9, .int .i64 j)]))
    (h : Sx.Loop Try.prog G 1 rd c fs ⟨fnT n m i j (.sl 1 0 F.length), nH w a b F [] [], []⟩ Q) : Sx.Loop Try.prog G 1 rd c fs ⟨ρ, some (Dr w) :: some (LR 2 F) :: (rws F ++ [some (boxF a b .nilsl)]), []⟩ Q := by
  refine loop_wk hW ?_
  unfold nH at h
  rw [if_pos rfl] at h
  have hl := rws_len F
  refine loop_gc (fun i => if i < 2 then i else if i = 2 then 2 + F.length else i - 1) (fun i hi => by simp; omega) (by simp) (fun i k hi hk e => ?_) ?_ ?_ (fun i x hx => ?_) h
  · simp only [List.length_cons, hl] at hi hk
    split at e <;> split at e <;> (try split at e) <;> (try split at e) <;> omega
  · simp [go_sem, fnT, ren]
  · simp [go_sem, fnT]
  · have hi := (List.getElem?_eq_some_iff.1 hx).1
    simp only [List.length_cons, hl] at hi
    by_cases c0 : i = 0
    · subst c0
      simp only [List.getElem?_cons_zero, Option.some.injEq] at hx
      subst hx
      exact ⟨by rw [Row.ren_same (dr_bel _ _)]; rfl, dr_bel _ _⟩
    by_cases c1 : i = 1
    · subst c1
      simp only [List.getElem?_cons_succ, List.getElem?_cons_zero, Option.some.injEq] at hx
      subst hx
      refine ⟨?_, LR_bel (by simp [hl]; omega)⟩
      rw [LR_ren (k0 := 2) fun m hm => by
        rw [if_neg (by omega), if_neg (by omega)]; omega]
      rfl
    by_cases c2 : i = 2
    · subst c2
      simp only [List.getElem?_cons_succ, List.getElem?_cons_zero, Option.some.injEq] at hx
      subst hx
      refine ⟨?_, boxF_bel _ _ _⟩
      rw [Row.ren_same (boxF_bel _ _ _), if_neg (by omega), if_pos rfl, show 2 + F.length = F.length + 1 + 1 by omega]
      simp only [List.getElem?_cons_succ]
      rw [List.getElem?_append_right (by rw [hl]; exact Nat.le_refl _), hl, Nat.sub_self]; rfl
    refine rows_at (k := 3) (k0 := 2) (F := F) (A := some (Dr w) :: some (LR 3 F) :: some (boxF a b .nilsl) :: rws F) (σ := fun i => if i < 2 then i else if i = 2 then 2 + F.length else i - 1) (fun m x hm => ?_) (fun m hm => ?_) (fun m x hm => ?_) ⟨by omega, by omega⟩ hx
    · rw [show 3 + m = m + 1 + 1 + 1 by omega]; simp only [List.getElem?_cons_succ]; exact rws_get hm
    · rw [if_neg (by omega), if_neg (by omega)]; omega
    · rw [show 2 + m = m + 1 + 1 by omega]
      simp only [List.getElem?_cons_succ]
      rw [List.getElem?_append_left (by rw [hl]; exact (List.getElem?_eq_some_iff.1 hm).1)]; exact rws_get hm
theorem to_list (hW : Wk ρ (fnT n m i j (.sl 1 0 F.length))) {y : Option Row} {p : Int}
    (h : Sx.Loop Try.prog G 1 rd c fs ⟨fnT n m i j (.sl 1 0 F.length), nH w a b F [p] (rws F), []⟩ Q) : Sx.Loop Try.prog G 1 rd c fs ⟨ρ, some (Dr w) :: some (LR 3 F) :: some (boxF a b (.sl (F.length + 1 + 1 + 1 + 1) 0 1)) :: (rws F ++ [y, some (.cells true 1 [.int .i64 p])]), []⟩ Q := by
  refine loop_wk hW ?_
  unfold nH at h
  rw [if_neg (by simp)] at h
  have hl := rws_len F
  have cb : ∀ S : Nat → Prop, (Row.cells true 1 (il [p])).bel S := fun S => by rw [row_bel_cells]; exact il_bel _ _
  refine loop_gc (fun i => if i < 3 then i else if i = 3 then F.length + 4 else i - 1) (fun i hi => by simp; omega) (by simp) (fun i k hi hk e => ?_) ?_ ?_ (fun i x hx => ?_) h
  · simp only [List.length_cons, hl] at hi hk
    split at e <;> split at e <;> (try split at e) <;> (try split at e) <;> omega
  · simp [go_sem, fnT, ren]
  · simp [go_sem, fnT]
  · have hi := (List.getElem?_eq_some_iff.1 hx).1
    simp only [List.length_cons, hl] at hi
    by_cases c0 : i = 0
    · subst c0
      simp only [List.getElem?_cons_zero, Option.some.injEq] at hx
      subst hx
      exact ⟨by rw [Row.ren_same (dr_bel _ _)]; rfl, dr_bel _ _⟩
    by_cases c1 : i = 1
    · subst c1
      simp only [List.getElem?_cons_succ, List.getElem?_cons_zero, Option.some.injEq] at hx
      subst hx
      refine ⟨?_, LR_bel (by simp [hl]; omega)⟩
      rw [LR_ren (k0 := 3) fun m hm => by
        rw [if_neg (by omega), if_neg (by omega)]; omega]
      rfl
    by_cases c2 : i = 2
    · subst c2
      simp only [List.getElem?_cons_succ, List.getElem?_cons_zero, Option.some.injEq] at hx
      subst hx
      refine ⟨?_, ?_⟩
      · simp [boxF, Row.ren, ren, rens]
      · unfold boxF; rw [row_bel_cells]; simp [go_sem]
    by_cases c3 : i = 3
    · subst c3
      simp only [List.getElem?_cons_succ, List.getElem?_cons_zero, Option.some.injEq] at hx
      subst hx
      refine ⟨?_, cb _⟩
      rw [Row.ren_same (cb _)]
      simp [hl, il]
    refine rows_at (k := 4) (k0 := 3) (F := F) (A := some (Dr w) :: some (LR 4 F) :: some (boxF a b (.sl 3 0 1)) :: some (.cells true 1 (il [p])) :: rws F) (σ := fun i => if i < 3 then i else if i = 3 then F.length + 4 else i - 1) (fun m x hm => ?_) (fun m hm => ?_) (fun m x hm => ?_) ⟨by omega, by omega⟩ hx
    · rw [show 4 + m = m + 1 + 1 + 1 + 1 by omega]; simp only [List.getElem?_cons_succ]; exact rws_get hm
    · rw [if_neg (by omega), if_neg (by omega)]; omega
    · rw [show 3 + m = m + 1 + 1 + 1 by omega]
      simp only [List.getElem?_cons_succ]
      rw [List.getElem?_append_left (by rw [hl]; exact (List.getElem?_eq_some_iff.1 hm).1)]; exact rws_get hm
theorem to_outer (hW : Wk ρ (foT n m i (.sl 1 0 (F.length + 1)))) {P : List Int} {v : AVal} {X Y : Heap} (hv : v = slv (if P = [] then 2 else 3) (il P)) (hX : P ≠ [] → ∀ (m : Nat) (x : Bool × Fr), F[m]? = some x → X[m]? = some (some (rowF x))) {H : Heap}
    (hH : H = if P = [] then some (Dr w) :: some (.cells true 3 (entsF 3 F ++ [.agg [.int .i64 a, .int .i64 b, .nilsl]])) :: some (boxF a b .nilsl) :: (rws F ++ Y) else some (Dr w) :: some (.cells true 3 (entsF 4 F ++ [.agg [.int .i64 a, .int .i64 b, .sl 3 0 P.length]])) :: some (boxF a b (.sl 3 0 P.length)) :: some (.cells true 1 (il P)) :: X)
    (h : Sx.Loop Try.prog G 1 rd c fs ⟨foT n m i (.sl 1 0 (F.length + 1)), oH w (F ++ [(true, ⟨a, b, P⟩)]), []⟩ Q) : Sx.Loop Try.prog G 1 rd c fs ⟨ρ, H, []⟩ Q := by
  refine loop_wk hW ?_
  have hl := rws_len F
  unfold oH at h
  rw [rws_snoc] at h
  subst hH
  clear hv
  by_cases hP : P = []
  · rw [if_pos hP]
    subst hP
    refine loop_gc (fun i => if i < 2 then i else if i < 2 + F.length then i + 1 else 2) (fun i hi => by simp; omega) (by simp) (fun i k hi hk e => ?_) ?_ ?_ (fun i x hx => ?_) h
    · simp only [List.length_cons, List.length_append, List.length_nil, hl] at hi hk
      split at e <;> split at e <;> (try split at e) <;> (try split at e) <;> omega
    · simp [go_sem, foT, ren]
    · simp [go_sem, foT]
    · have hi := (List.getElem?_eq_some_iff.1 hx).1
      simp only [List.length_cons, List.length_append, List.length_nil, hl] at hi
      by_cases c0 : i = 0
      · subst c0
        simp only [List.getElem?_cons_zero, Option.some.injEq] at hx
        subst hx
        exact ⟨by rw [Row.ren_same (dr_bel _ _)]; rfl, dr_bel _ _⟩
      by_cases c1 : i = 1
      · subst c1
        simp only [List.getElem?_cons_succ, List.getElem?_cons_zero, Option.some.injEq] at hx
        subst hx
        refine ⟨?_, LR_bel (by simp [hl]; omega)⟩
        show _ = some (some (Row.cells true 3 (rens _ (entsF 2 (F ++ [(true, ⟨a, b, []⟩)])))))
        rw [rens_eq, entsF_snoc, List.map_append, entsF_ren (k0 := 3) fun m hm => by
          rw [if_neg (by omega), if_pos (by omega)]; omega]
        simp [entF, slv, il, ren, rens]
      by_cases c2 : i < 2 + F.length
      · refine rows_at (k := 2) (k0 := 3) (F := F) (A := some (Dr w) :: some (LR 2 (F ++ [(true, ⟨a, b, []⟩)])) :: (rws F ++ [some (rowF (true, ⟨a, b, []⟩))])) (σ := fun i => if i < 2 then i else if i < 2 + F.length then i + 1 else 2) (fun m x hm => ?_) (fun m hm => ?_) (fun m x hm => ?_) ⟨by omega, by omega⟩ hx
        · rw [show 2 + m = m + 1 + 1 by omega]; simp only [List.getElem?_cons_succ]
          rw [List.getElem?_append_left (by rw [hl]; exact (List.getElem?_eq_some_iff.1 hm).1)]; exact rws_get hm
        · rw [if_neg (by omega), if_pos (by omega)]; omega
        · rw [show 3 + m = m + 1 + 1 + 1 by omega]
          simp only [List.getElem?_cons_succ]
          rw [List.getElem?_append_left (by rw [hl]; exact (List.getElem?_eq_some_iff.1 hm).1)]; exact rws_get hm
      · obtain rfl : i = 2 + F.length := by omega
        rw [show 2 + F.length = F.length + 1 + 1 by omega] at hx
        simp only [List.getElem?_cons_succ] at hx
        rw [List.getElem?_append_right (by rw [hl]; exact Nat.le_refl _), hl, Nat.sub_self] at hx
        simp only [List.getElem?_cons_zero, Option.some.injEq] at hx
        subst hx
        refine ⟨?_, rowF_bel _ _⟩
        rw [Row.ren_same (rowF_bel _ _), if_neg (by omega), if_neg (by omega)]
        rfl
  · rw [if_neg hP]
    have hX := hX hP
    have hPn := il_ne hP
    refine loop_gc (fun i => if i < 2 then i else if i < 2 + F.length then i + 2 else 3) (fun i hi => by simp; omega) (by simp) (fun i k hi hk e => ?_) ?_ ?_ (fun i x hx => ?_) h
    · simp only [List.length_cons, List.length_append, List.length_nil, hl] at hi hk
      split at e <;> split at e <;> (try split at e) <;> (try split at e) <;> omega
    · simp [go_sem, foT, ren]
    · simp [go_sem, foT]
    · have hi := (List.getElem?_eq_some_iff.1 hx).1
      simp only [List.length_cons, List.length_append, List.length_nil, hl] at hi
      by_cases c0 : i = 0
      · subst c0
        simp only [List.getElem?_cons_zero, Option.some.injEq] at hx
        subst hx
        exact ⟨by rw [Row.ren_same (dr_bel _ _)]; rfl, dr_bel _ _⟩
      by_cases c1 : i = 1
      · subst c1
        simp only [List.getElem?_cons_succ, List.getElem?_cons_zero, Option.some.injEq] at hx
        subst hx
        refine ⟨?_, LR_bel (by simp [hl]; omega)⟩
        show _ = some (some (Row.cells true 3 (rens _ (entsF 2 (F ++ [(true, ⟨a, b, P⟩)])))))
        rw [rens_eq, entsF_snoc, List.map_append, entsF_ren (k0 := 4) fun m hm => by
          rw [if_neg (by omega), if_pos (by omega)]; omega]
        unfold entF
        rw [(slr_some hPn true 1 _).1, il_len]
        simp [ren, rens]
        try omega
      by_cases c2 : i < 2 + F.length
      · refine rows_at (k := 2) (k0 := 4) (F := F) (A := some (Dr w) :: some (LR 2 (F ++ [(true, ⟨a, b, P⟩)])) :: (rws F ++ [some (rowF (true, ⟨a, b, P⟩))])) (σ := fun i => if i < 2 then i else if i < 2 + F.length then i + 2 else 3) (fun m x hm => ?_) (fun m hm => ?_) (fun m x hm => ?_) ⟨by omega, by omega⟩ hx
        · rw [show 2 + m = m + 1 + 1 by omega]; simp only [List.getElem?_cons_succ]
          rw [List.getElem?_append_left (by rw [hl]; exact (List.getElem?_eq_some_iff.1 hm).1)]; exact rws_get hm
        · rw [if_neg (by omega), if_pos (by omega)]; omega
        · rw [show 4 + m = m + 1 + 1 + 1 + 1 by omega]
          simp only [List.getElem?_cons_succ]
          exact hX m x hm
      · obtain rfl : i = 2 + F.length := by omega
        rw [show 2 + F.length = F.length + 1 + 1 by omega] at hx
        simp only [List.getElem?_cons_succ] at hx
        rw [List.getElem?_append_right (by rw [hl]; exact Nat.le_refl _), hl, Nat.sub_self] at hx
        simp only [List.getElem?_cons_zero, Option.some.injEq] at hx
        subst hx
        refine ⟨?_, rowF_bel _ _⟩
        rw [Row.ren_same (rowF_bel _ _), if_neg (by omega), if_neg (by omega)]
        unfold rowF
        rw [if_neg hP]
        rfl
end
end Go.Proofs

namespace Go.Proofs
open Go Go.Sx
attribute [local irreducible] Run

section
variable {G : Ctx} {rd : Option Nat} {c : ACode} {fs : List Sx.Frame} {Q : Sx.Goal} {ρ : List AVal} {n m i j : Nat} {w a b : Int} {F : FL}
theorem to_first (hW : Wk ρ (foT n m i (.sl 3 0 1))) {y : Option Row}
    (h : Sx.Loop Try.prog G 1 rd c fs ⟨foT n m i (.sl 1 0 1), oH w [(true, ⟨a, b, []⟩)], []⟩ Q) : Sx.Loop Try.prog G 1 rd c fs ⟨ρ, [some (Dr w), some (boxF a b .nilsl), y, some (.cells true 3 [.agg [.int .i64 a, .int .i64 b, .nilsl]])], []⟩ Q := by
  refine loop_wk hW ?_
  refine loop_gc (H' := oH w [(true, ⟨a, b, []⟩)]) (fun i => if i = 0 then 0 else if i = 1 then 3 else if i = 2 then 1 else i + 9) (fun i hi => by rw [if_pos (by omega)]; omega) (by simp [oH]) (fun i k hi hk e => ?_) ?_ ?_ (fun i x hx => ?_) h
  · simp only [oH, rws, List.length_cons, List.length_map, List.length_nil] at hi hk
    split at e <;> split at e <;> (try split at e) <;> (try split at e) <;> (try split at e) <;> (try split at e) <;> omega
  · simp [go_sem, foT, ren]
  · simp [go_sem, foT, oH, rws]
  · have hi := (List.getElem?_eq_some_iff.1 hx).1
    simp only [oH, rws, List.length_cons, List.length_map, List.length_nil] at hi
    obtain rfl | rfl | rfl : i = 0 ∨ i = 1 ∨ i = 2 := by omega
    · simp only [oH, List.getElem?_cons_zero, Option.some.injEq] at hx
      subst hx
      exact ⟨by rw [Row.ren_same (dr_bel _ _)]; rfl, dr_bel _ _⟩
    · simp only [oH, List.getElem?_cons_succ, List.getElem?_cons_zero, Option.some.injEq] at hx
      subst hx
      refine ⟨?_, LR_bel (by simp [oH, rws])⟩
      simp [LR, entsF, entF, slv, il, Row.ren, ren, rens]
    · simp only [oH, rws, List.map_cons, List.map_nil, List.getElem?_cons_succ, List.getElem?_cons_zero, Option.some.injEq] at hx
      subst hx
      exact ⟨by rw [Row.ren_same (rowF_bel _ _)]; rfl, rowF_bel _ _⟩
end
theorem nH_ne {w a b : Int} {F : FL} {P : List Int} {X : Heap} (h : P ≠ []) : nH w a b F P X = some (Dr w) :: some (LR 4 F) :: some (boxF a b (.sl 3 0 P.length)) :: some (.cells true 1 (il P)) :: X := if_neg h
def fiH (w : Int) (F : FL) : Heap := some (Dr w) :: (if F = [] then [] else some (LR 2 F) :: rws F)
theorem full_rws (F : FL) (S : Nat → Prop) : Full S (rws F) := by
  induction F with
  | nil => exact trivial
  | cons x F ih => exact ⟨rowF_bel x S, ih⟩
set_option maxHeartbeats 16000000 in
set_option maxRecDepth 20000 in
theorem firesOf_run (w : Int) (n : Nat) (hn : n ≤ 99) : AnsE Try.prog n_kit_FiresOf [.ptr 0 0 0 1, .int .i64 n] [some (Dr w)] (fun a : FL × Int => a.1.length ≤ n ∧ ∀ x ∈ a.1, x.2.bf.length ≤ 99)
    (fun a => slv 1 (entsF 2 a.1)) (fun a => fiH a.2 a.1) := by
  refine AnsE.keep (run_fn e_kit_FiresOf fun G => ?_) (fun a ha => ?_)
  rotate_left
  · unfold fiH
    by_cases hF : a.1 = []
    · rw [if_pos hF, hF]
      exact ⟨by simp, by simp [entsF, slv, go_sem], dr_bel _ _, trivial⟩
    · rw [if_neg hF]
      have hne : entsF 2 a.1 ≠ [] := fun e => hF (List.length_eq_zero_iff.1 (by rw [← entsF_len 2 a.1, e]; rfl))
      rw [(slr_some hne true 1 1).1]
      refine ⟨by simp, by simp [go_sem], dr_bel _ _, LR_bel (by simp [rws_len]; omega), full_rws _ _⟩
  have hkF : ∀ (F : FL) (w' : Int), F ≠ [] → F.length ≤ n → (∀ x ∈ F, x.2.bf.length ≤ 99) → ∀ Y : Heap, ∃ a : FL × Int, (a.1.length ≤ n ∧ ∀ x ∈ a.1, x.2.bf.length ≤ 99) ∧ ∃ σ, Kept [some (Dr w)] (fiH a.2 a.1) (slv 1 (entsF 2 a.1)) (.sl 1 0 F.length) (some (Dr w') :: some (LR 2 F) :: (rws F ++ Y)) σ := by
    intro F w' hF hl hb Y
    refine ⟨(F, w'), ⟨hl, hb⟩, fun i => i, fun i hi => rfl, fun i k hi hk h => h, ?_, fun i x hx => ?_⟩
    · have hne : entsF 2 F ≠ [] := fun e => hF (List.length_eq_zero_iff.1 (by rw [← entsF_len 2 F, e]; rfl))
      dsimp only
      rw [(slr_some hne true 1 1).1, entsF_len]
      simp [ren]
    · dsimp only at hx
      unfold fiH at hx
      rw [if_neg hF] at hx
      have hi := (List.getElem?_eq_some_iff.1 hx).1
      simp only [List.length_cons, rws_len] at hi
      by_cases c0 : i = 0
      · subst c0
        simp only [List.getElem?_cons_zero, Option.some.injEq] at hx
        subst hx
        rw [Row.ren_same (dr_bel _ _)]; rfl
      by_cases c1 : i = 1
      · subst c1
        simp only [List.getElem?_cons_succ, List.getElem?_cons_zero, Option.some.injEq] at hx
        subst hx
        rw [LR_ren (k0 := 2) fun m hm => rfl]; rfl
      obtain ⟨m, rfl⟩ : ∃ m, i = m + 1 + 1 := ⟨i - 2, by omega⟩
      simp only [List.getElem?_cons_succ] at hx ⊢
      obtain ⟨y, hy⟩ : ∃ y, F[m]? = some y := ⟨_, List.getElem?_eq_getElem (by omega)⟩
      rw [rws_get hy] at hx
      simp only [Option.some.injEq] at hx
      subst hx
      rw [Row.ren_same (rowF_bel _ _), List.getElem?_append_left (by rw [rws_len]; omega)]
      exact rws_get hy
  have wn : IntKind.i64.wrap ((n : Int) + 1) = (n : Int) + 1 := w64 (by omega)
  have u0 := upto_in (w := w) (n := (n : Int) + 1) (by omega)
  simp only [go_sem, wn]
  refine cD (upto_ok w ((n : Int) + 1) (by omega)) ?_
  obtain ⟨M, hM⟩ : ∃ M : Nat, upto w ((n : Int) + 1) = M := ⟨(upto w ((n : Int) + 1)).toNat, by omega⟩
  rw [hM] at u0 ⊢
  obtain ⟨w1, hw1⟩ : ∃ t, dstep w = t := ⟨_, rfl⟩
  rw [hw1]
  simp only [go_sem]
  by_cases hM0 : M = 0
  · subst hM0
    refine loop_body 400 k_kit_FiresOf_r14.eq_1 ?_
    simp only [go_sem]
    refine ⟨([], w1), ⟨Nat.zero_le _, fun x hx => by simp at hx⟩, ?_⟩
    exact kept_id rfl (by simp [go_sem, slv, entsF]) fun i x hx => by
      rcases i with _ | i
      · cases hx; exact ⟨dr_bel _ _, rfl⟩
      · exact absurd hx (by simp [fiH])
  have q0 : (0 : Int) < M := by omega
  have mul10 : ∀ v N : Int, 0 ≤ v → v < N → N ≤ 14 → IntKind.i64.wrap (10 * v) = 10 * v ∧ IntKind.i64.wrap (900 + 10 * v) = 900 + 10 * v := fun v N h1 h2 h3 => ⟨w64 (by omega), w64 (by omega)⟩
  refine loop_body 400 k_kit_FiresOf_r14.eq_1 ?_
  have ua := upto_in (w := w1) (n := 9) (by decide)
  have ub := upto_in (w := dstep w1) (n := 14) (by decide)
  have ma := mul10 _ _ ua.1 ua.2 (by decide)
  have mb := mul10 _ _ ub.1 ub.2 (by decide)
  simp only [go_sem, q0]
  refine cD (upto_ok w1 9 (by decide)) ?_
  simp only [go_sem, ma.1, ma.2]
  refine cD (upto_ok (dstep w1) 14 (by decide)) ?_
  simp only [go_sem, mb.1, mb.2]
  refine loop_body 400 k_kit_FiresOf_r11.eq_1 ?_
  have q40 : 40 ≤ 2 ^ 44 := by decide
  have x1 : IntKind.i64.wrap 1 = 1 := by decide
  simp only [go_sem, q40, x1]
  obtain ⟨a0, ha0⟩ : ∃ t, 900 + 10 * upto w1 9 = t := ⟨_, rfl⟩
  obtain ⟨b0, hb0⟩ : ∃ t, 900 + 10 * upto (dstep w1) 14 = t := ⟨_, rfl⟩
  obtain ⟨w2, hw2⟩ : ∃ t, dstep (dstep w1) = t := ⟨_, rfl⟩
  rw [ha0, hb0, hw2]
  clear ha0 hb0 hw2 ma mb ua ub
  refine to_first (n := n) (m := M) (i := 1) (w := w2) (a := a0) (b := b0) (by simp [go_sem, foT]) ?_
  refine loop_ind k_kit_FiresOf_r14.eq_1 (fun s : FL × Int => s.1 ≠ [] ∧ s.1.length ≤ M ∧ ∀ x ∈ s.1, x.2.bf.length ≤ 99) (fun s => M - s.1.length)
    (fun s => (foT n M s.1.length (.sl 1 0 s.1.length), oH s.2 s.1)) ([(true, ⟨a0, b0, []⟩)], w2) ⟨by simp, by simp; omega, fun x hx => by simp at hx; subst hx; simp⟩ (wk_refl _) rfl ?_
  clear a0 b0 w2
  rintro ⟨F, w2⟩ ⟨hF, hlM, hbf⟩ ih
  dsimp only at hF hlM hbf ih ⊢
  have hrl := rws_len F
  have hel := fun k => entsF_len k F
  by_cases h1 : F.length < M
  · have h2 : (F.length : Int) < M := by omega
    have ua := upto_in (w := w2) (n := 9) (by decide)
    have ub := upto_in (w := dstep w2) (n := 14) (by decide)
    have ma := mul10 _ _ ua.1 ua.2 (by decide)
    have mb := mul10 _ _ ub.1 ub.2 (by decide)
    have w9 : IntKind.i64.wrap ((F.length : Int) + 1) = ((F.length + 1 : Nat) : Int) := by rw [w64 (by omega)]; rfl
    unfold oH
    simp only [go_sem, foT, h2]
    refine cD (upto_ok w2 9 (by decide)) ?_
    simp only [go_sem, ma.1, ma.2]
    refine cD (upto_ok (dstep w2) 14 (by decide)) ?_
    simp only [go_sem, mb.1, mb.2]
    obtain ⟨a, ha⟩ : ∃ t, 900 + 10 * upto w2 9 = t := ⟨_, rfl⟩
    obtain ⟨b, hb⟩ : ∃ t, 900 + 10 * upto (dstep w2) 14 = t := ⟨_, rfl⟩
    obtain ⟨w3, hw3⟩ : ∃ t, dstep (dstep w2) = t := ⟨_, rfl⟩
    rw [ha, hb, hw3]
    clear ha hb hw3 ma mb ua ub
    simp only [hrl]
    refine to_inner (n := n) (m := M) (i := F.length) (j := 0) (w := w3) (a := a) (b := b) (F := F) ?_ ?_
    · simp [go_sem]; try omega
    refine loop_ind k_kit_FiresOf_r11.eq_1 (fun s : Nat × List Int × Int × Heap => s.1 ≤ F.length ∧ s.2.1.length ≤ s.1 ∧ (s.2.1 ≠ [] → ∀ (m : Nat) (x : Bool × Fr), F[m]? = some x → s.2.2.2[m]? = some (some (rowF x)))) (fun s => F.length - s.1)
      (fun s => (fnT n M F.length s.1 (.sl 1 0 F.length), nH s.2.2.1 a b F s.2.1 s.2.2.2)) (0, [], w3, []) ⟨Nat.zero_le _, Nat.le_refl _, fun h => absurd rfl h⟩ (wk_refl _) rfl ?_
    clear w3
    rintro ⟨j, P, w3, X⟩ ⟨hj, hPl, hX⟩ ihj
    dsimp only at hj hPl hX ihj ⊢
    by_cases j1 : j < F.length
    · have j2 : (j : Int) < F.length := by omega
      have j9 : IntKind.i64.wrap ((j : Int) + 1) = ((j + 1 : Nat) : Int) := by rw [w64 (by omega)]; rfl
      have q8 : 8 ≤ 2 ^ 44 := by decide
      by_cases hP : P = []
      · subst hP
        unfold nH
        rw [if_pos rfl]
        simp only [go_sem, fnT, j2, boxF]
        refine cD (one_ok w3 6 (by decide)) ?_
        by_cases o : upto w3 6 = 0
        · have o1 : (upto w3 6 == 0) = true := by rw [o]; rfl
          simp only [go_sem, o1, q8, j9]
          simp only [hrl]
          refine to_list (n := n) (m := M) (i := F.length) (j := j + 1) (w := dstep w3) (a := a) (b := b) (F := F) (p := j) ?_ (ihj (j + 1, [(j : Int)], dstep w3, rws F) (by dsimp only; omega) ⟨by dsimp only; omega, by simp, fun _ m x hm => rws_get hm⟩ _ (wk_refl _))
          simp [go_sem, fnT]
        · have o1 : (upto w3 6 == 0) = false := beq_eq_false_iff_ne.2 o
          have ihn := ihj (j + 1, [], dstep w3, []) (by dsimp only; omega) ⟨by dsimp only; omega, by simp, fun h => absurd rfl h⟩
          dsimp only at ihn
          unfold nH at ihn
          rw [if_pos rfl] at ihn
          simp only [go_sem, o1, j9]
          exact ihn _ (by simp [go_sem, fnT])
      · have hPn := il_ne hP
        unfold nH
        rw [if_neg hP]
        simp only [go_sem, fnT, j2, boxF]
        refine cD (one_ok w3 6 (by decide)) ?_
        by_cases o : upto w3 6 = 0
        · have o1 : (upto w3 6 == 0) = true := by rw [o]; rfl
          have q8' : (P.length + 1) * 8 ≤ 2 ^ 44 := by omega
          have ihn := fun Y => ihj (j + 1, P ++ [(j : Int)], dstep w3, X ++ [Y]) (by dsimp only; omega) ⟨by dsimp only; omega, by simp; omega, fun _ m x hm => by
            have h := hX hP m x hm
            dsimp only
            rw [List.getElem?_append_left (List.getElem?_eq_some_iff.1 h).1]; exact h⟩
          dsimp only at ihn
          have hne : P ++ [(j : Int)] ≠ [] := by simp
          simp only [nH_ne hne, List.length_append, List.length_singleton, boxF] at ihn
          simp only [go_sem, o1, q8', j9, il_len, il_snoc]
          refine ihn _ _ ?_
          simp [go_sem, fnT]
          done
        · have o1 : (upto w3 6 == 0) = false := beq_eq_false_iff_ne.2 o
          have ihn := ihj (j + 1, P, dstep w3, X) (by dsimp only; omega) ⟨by dsimp only; omega, by dsimp only; omega, hX⟩
          dsimp only at ihn
          unfold nH at ihn
          rw [if_neg hP] at ihn
          simp only [go_sem, o1, j9]
          exact ihn _ (by simp [go_sem, fnT])
    · have j2 : ¬ (j : Int) < F.length := by omega
      clear ihj
      have q40' : (F.length + 1) * 40 ≤ 2 ^ 44 := by omega
      have ihn := ih (F ++ [(true, ⟨a, b, P⟩)], w3) (by simp; omega) ⟨by simp, by simp; omega, fun x hx => by
        rcases List.mem_append.1 hx with h | h
        · exact hbf x h
        · simp at h; subst h; dsimp only; omega⟩
      dsimp only at ihn
      rw [List.length_append, List.length_singleton] at ihn
      by_cases hP : P = []
      · subst hP
        unfold nH
        rw [if_pos rfl]
        simp only [go_sem, fnT, j2, boxF, LR, hel, q40', w9]
        refine to_outer (n := n) (m := M) (i := F.length + 1) (w := w3) (a := a) (b := b) (F := F) (P := []) (v := .nilsl) (X := []) (Y := [_]) ?_ rfl (fun h => absurd rfl h) rfl (ihn _ (wk_refl _))
        simp [go_sem, foT]
      · unfold nH
        rw [if_neg hP]
        simp only [go_sem, fnT, j2, boxF, LR, hel, q40', w9]
        refine to_outer (n := n) (m := M) (i := F.length + 1) (w := w3) (a := a) (b := b) (F := F) (P := P) (v := slv 3 (il P)) (X := X ++ [_]) (Y := []) ?_ (by rw [if_neg hP]) (fun _ m x hm => ?_) (by rw [if_neg hP]; rfl) (ihn _ (wk_refl _))
        · simp [go_sem, foT]
        · have h := hX hP m x hm
          rw [List.getElem?_append_left (List.getElem?_eq_some_iff.1 h).1]; exact h
  · have h2 : ¬ (F.length : Int) < M := by omega
    clear ih
    obtain ⟨x0, F', rfl⟩ : ∃ x F', F = x :: F' := by
      cases F with
      | nil => exact absurd rfl hF
      | cons x F' => exact ⟨x, F', rfl⟩
    have h2' : ¬ ((F'.length + 1 : Nat) : Int) < M := h2
    unfold oH
    by_cases hM1 : (M : Int) > 1
    · have wM : IntKind.i64.wrap ((M : Int) - 1) = (M : Int) - 1 := w64 (by omega)
      simp only [go_sem, foT, List.length_cons, h2', hM1]
      refine cD (one_ok w2 9 (by decide)) ?_
      by_cases o : upto w2 9 = 0
      · have o1 : (upto w2 9 == 0) = true := by rw [o]; rfl
        simp only [go_sem, o1, wM, LR, entsF, entF]
        have hl' := rws_len F'
        have hrl' : (rws (x0 :: F')).length = F'.length + 1 := hrl
        refine ⟨⟨(entsF_len 3 F').symm, by omega⟩, ((false, ⟨x0.2.a, x0.2.b, [(M : Int) - 1]⟩) :: F', dstep w2), ⟨by rw [List.length_cons] at hlM; show F'.length + 1 ≤ n; omega, fun x hx => ?_⟩, fun i => if i = 2 then F'.length + 3 else i, fun i hi => ?_, fun i k hi hk h => ?_, ?_, fun i x hx => ?_⟩
        · rcases List.mem_cons.1 hx with rfl | h
          · show 1 ≤ 99; decide
          · exact hbf x (List.mem_cons_of_mem _ h)
        · have : i < 1 := hi
          show (if i = 2 then F'.length + 3 else i) = i
          rw [if_neg (by omega)]
        · have e1 : i < F'.length + 3 := by simpa [fiH, rws] using hi
          have e2 : k < F'.length + 3 := by simpa [fiH, rws] using hk
          change (if i = 2 then F'.length + 3 else i) = (if k = 2 then F'.length + 3 else k) at h
          split at h <;> split at h <;> omega
        · have hne : entsF 2 (((false, ⟨x0.2.a, x0.2.b, [(M : Int) - 1]⟩) : Bool × Fr) :: F') ≠ [] := by rw [entsF]; simp
          dsimp only
          rw [(slr_some hne true 1 1).1, entsF_len]
          simp [ren]
        · have hi : i < F'.length + 3 := by simpa [fiH, rws] using (List.getElem?_eq_some_iff.1 hx).1
          unfold fiH at hx
          rw [if_neg (by simp)] at hx
          by_cases c0 : i = 0
          · subst c0
            simp only [List.getElem?_cons_zero, Option.some.injEq] at hx
            subst hx
            rw [Row.ren_same (dr_bel _ _)]; rfl
          by_cases c1 : i = 1
          · subst c1
            simp only [List.getElem?_cons_succ, List.getElem?_cons_zero, Option.some.injEq] at hx
            subst hx
            show _ = some (some (Row.cells true 3 (rens _ (entsF 2 (((false, ⟨x0.2.a, x0.2.b, [(M : Int) - 1]⟩) : Bool × Fr) :: F')))))
            rw [rens_eq, entsF, List.map_cons, entsF_ren (k := 2 + 1) (k0 := 3) fun m hm => by rw [if_neg (by omega)], hrl']
            simp [entF, slv, il, ren, rens]
          by_cases c2 : i = 2
          · subst c2
            simp only [rws, List.map_cons, List.getElem?_cons_succ, List.getElem?_cons_zero, Option.some.injEq] at hx
            subst hx
            rw [Row.ren_same (rowF_bel _ _), if_pos rfl]
            show (rws (x0 :: F') ++ [some (Row.cells false 1 [AVal.int IntKind.i64 ((M : Int) - 1)])])[F'.length + 1]? = _
            rw [List.getElem?_append_right (by rw [hrl']; exact Nat.le_refl _), hrl', Nat.sub_self]
            rfl
          obtain ⟨m, rfl⟩ : ∃ m, i = m + 1 + 1 + 1 := ⟨i - 3, by omega⟩
          obtain ⟨y, hy⟩ : ∃ y, F'[m]? = some y := ⟨_, List.getElem?_eq_getElem (by omega)⟩
          have hy2 := rws_get hy
          simp only [rws, List.map_cons, List.getElem?_cons_succ] at hx hy2
          rw [hy2] at hx
          simp only [Option.some.injEq] at hx
          subst hx
          rw [Row.ren_same (rowF_bel _ _), if_neg (by omega)]
          show (rws (x0 :: F') ++ _)[m + 1]? = _
          rw [List.getElem?_append_left (by rw [hrl']; omega)]
          exact rws_get (F := x0 :: F') (m := m + 1) hy
      · have o1 : (upto w2 9 == 0) = false := beq_eq_false_iff_ne.2 o
        simp only [go_sem, o1]
        have kk := hkF (x0 :: F') (dstep w2) hF (by omega) hbf []
        rw [List.append_nil] at kk
        exact kk
    · simp only [go_sem, foT, List.length_cons, h2', hM1]
      have kk := hkF (x0 :: F') w2 hF (by omega) hbf []
      rw [List.append_nil] at kk
      exact kk
end Go.Proofs

namespace Go.Proofs
open Go Go.Sx
attribute [local irreducible] Run

@[go_sem] theorem il_belT (P : List Int) (S : Nat → Prop) : Bels S (il P) = True := eq_true (il_bel P S)
theorem ksame_il (P : List Int) (h : P.length ≤ 1000000) : Ans Try.prog n_kit_Same [.view (il P), .view (il P)] [] (.bool true) [] := kSame_run h
set_option maxHeartbeats 4000000 in
theorem sameFires_run (l : List Fr) (hl : l.length ≤ 1000000) (hb : ∀ r ∈ l, r.bf.length ≤ 1000000) : Ans Try.prog n_kit_SameFires [.view (l.map Fr.v), .view (l.map Fr.v)] [] (.bool true) [] := by
  refine spec_run e_kit_SameFires fun G => ?_
  simp only [go_sem, List.length_map, bne_self_eq_false]
  refine loop_indH k_kit_SameFires_r8.eq_1 (fun i : Nat => i ≤ l.length) (fun i => l.length - i)
    (fun i => tsets 55 [(0, .view (l.map Fr.v)), (1, .view (l.map Fr.v)), (4, .bool false), (5, .int .i64 i)]) 0 (Nat.zero_le _) (by simp [go_sem]) ?_
  intro i hi ih
  by_cases h1 : i < l.length
  · have h2 : (i : Int) < l.length := by omega
    have n0 : ¬ (i : Int) < 0 := by omega
    have h3 : IntKind.i64.wrap ((i : Int) + 1) = ((i + 1 : Nat) : Int) := by rw [w64 (by omega)]; rfl
    obtain ⟨r, hri⟩ : ∃ z, l[i]? = some z := ⟨_, List.getElem?_eq_getElem h1⟩
    have ks := ksame_il r.bf (hb r (List.mem_of_getElem? hri))
    have ilb : ∀ S : Nat → Prop, Bels S (il r.bf) := il_bel _
    have ihn := ih (i + 1) (by omega) h1
    clear ih
    simp only [go_sem, List.length_map, h2, n0, hri, Fr.v, bne_self_eq_false]
    refine cP ks ?_
    simp only [go_sem, h3, Bool.not_true]
    exact ihn _ (by simp [go_sem])
  · have h2 : ¬ (i : Int) < l.length := by omega
    simp only [go_sem, List.length_map, h2]
def ownE (k : Nat) : List Fr → List AVal
  | [] => []
  | r :: l => .agg [.int .i64 r.a, .int .i64 r.b, .sl k 0 r.bf.length] :: ownE (k + 1) l
def ownR (l : List Fr) : Heap := l.map fun r => some (.cells true 1 (il r.bf))
theorem ownE_len : ∀ (k : Nat) (l : List Fr), (ownE k l).length = l.length
  | _, [] => rfl
  | k, _ :: l => by rw [ownE, List.length_cons, List.length_cons, ownE_len (k + 1) l]
theorem ownE_snoc (x : Fr) : ∀ (k : Nat) (l : List Fr), ownE k (l ++ [x]) = ownE k l ++ [.agg [.int .i64 x.a, .int .i64 x.b, .sl (k + l.length) 0 x.bf.length]]
  | _, [] => rfl
  | k, y :: l => by
    rw [List.cons_append, ownE, ownE, ownE_snoc x (k + 1) l, List.cons_append, List.length_cons, show k + 1 + l.length = k + (l.length + 1) by omega]
theorem ownR_len (l : List Fr) : (ownR l).length = l.length := by simp [ownR]
theorem ownR_snoc (l : List Fr) (r : Fr) : ownR (l ++ [r]) = ownR l ++ [some (.cells true 1 (il r.bf))] := by simp [ownR]
def ownM (k : Nat) (l : List Fr) (i : Nat) : List AVal := ownE k (l.take i) ++ (l.drop i).map Fr.v
theorem ownM_len (k : Nat) (l : List Fr) (i : Nat) : (ownM k l i).length = l.length := by simp [ownM, ownE_len]; omega
theorem ownM_get {k : Nat} {l : List Fr} {i : Nat} {r : Fr} (h : l[i]? = some r) : (ownM k l i)[i]? = some r.v := by
  have hl := (List.getElem?_eq_some_iff.1 h).1
  unfold ownM
  rw [List.getElem?_append_right (by rw [ownE_len]; simp; omega), ownE_len]
  simp [Nat.min_eq_left (Nat.le_of_lt hl), h]
theorem ownM_succ {k : Nat} {l : List Fr} {i : Nat} {r : Fr} (h : l[i]? = some r) : (ownM k l i).set i (.agg [.int .i64 r.a, .int .i64 r.b, .sl (k + i) 0 r.bf.length]) = ownM k l (i + 1) := by
  have hl := (List.getElem?_eq_some_iff.1 h).1
  have hz : l[i] = r := (List.getElem?_eq_some_iff.1 h).2
  unfold ownM
  rw [List.set_append_right _ _ (by rw [ownE_len]; simp; omega), ownE_len]
  simp only [List.length_take, Nat.min_eq_left (Nat.le_of_lt hl), Nat.sub_self]
  rw [List.take_add_one, h, Option.toList_some, ownE_snoc, List.append_assoc, List.drop_eq_getElem_cons hl, List.map_cons, List.set_cons_zero, List.length_take, Nat.min_eq_left (Nat.le_of_lt hl)]
  rfl
theorem ownM_all (k : Nat) (l : List Fr) : ownM k l l.length = ownE k l := by simp [ownM]
theorem ownM_zero (k : Nat) (l : List Fr) : ownM k l 0 = l.map Fr.v := by simp [ownM, ownE]
theorem ownE_ren {σ : Nat → Nat} : ∀ {k k0 : Nat} {l : List Fr}, (∀ m, m < l.length → σ (k + m) = k0 + m) → (ownE k l).map (ren σ) = ownE k0 l
  | _, _, [], _ => rfl
  | k, k0, x :: l, h => by
    have h0 : σ k = k0 := by simpa using h 0 (by simp)
    rw [ownE, ownE, List.map_cons, ownE_ren (k0 := k0 + 1) fun m hm => by
      have := h (m + 1) (by rw [List.length_cons]; omega)
      rw [show k + 1 + m = k + (m + 1) by omega, this]; omega]
    simp [ren, rens, h0]
theorem ownE_bel {n : Nat} : ∀ {k : Nat} {l : List Fr}, k + l.length ≤ n → Bels (· < n) (ownE k l)
  | _, [], _ => by simp only [ownE, go_sem]
  | k, x :: l, h => by
    rw [List.length_cons] at h
    have h2 := ownE_bel (n := n) (k := k + 1) (l := l) (by omega)
    have h3 : k < n := by omega
    simp only [ownE, go_sem, h2, h3]
theorem full_own (l : List Fr) (S : Nat → Prop) : Full S (ownR l) := by
  induction l with
  | nil => exact trivial
  | cons x l ih => exact ⟨by rw [row_bel_cells]; exact il_bel _ _, ih⟩
set_option maxHeartbeats 8000000 in
set_option maxRecDepth 20000 in
theorem ownFires_run (l : List Fr) (hl : l.length ≤ 1000) (hb : ∀ r ∈ l, r.bf.length ≤ 1000000) : Ans Try.prog n_kit_OwnFires [.view (l.map Fr.v)] [] (.sl 0 0 l.length) (some (.cells true 3 (ownE 1 l)) :: ownR l) := by
  refine Ans.keep (run_fn e_kit_OwnFires fun G => ?_) (by simp) (by simp [go_sem]) ⟨by rw [row_bel_cells]; exact ownE_bel (by simp [ownR_len]; omega), full_own _ _⟩
  have hq : l.length * 40 ≤ 2 ^ 44 := by omega
  simp only [go_sem, List.length_map, hq]
  have hsz : sizedAll 3 (l.map Fr.v) = true := by
    unfold sizedAll
    rw [List.all_eq_true]
    intro v hv
    obtain ⟨z, _, rfl⟩ := List.mem_map.1 hv
    rfl
  refine ⟨by rw [hsz]; decide, ?_⟩
  have hz0 := ownM_zero 1 l
  refine loop_ind k_kit_OwnFires_r6.eq_1 (fun i : Nat => i ≤ l.length) (fun i => l.length - i)
    (fun i => (tsets 25 [(2, .nilsl), (3, .sl 0 0 l.length), (4, .int .i64 i)], some (.cells true 3 (ownM 1 l i)) :: ownR (l.take i))) 0 (Nat.zero_le _) (by simp [go_sem]) (by rw [hz0]; rfl) ?_
  intro i hi ih
  dsimp only at hi ih ⊢
  have hml := ownM_len 1 l i
  by_cases h1 : i < l.length
  · have h2 : (i : Int) < l.length := by omega
    have n0 : ¬ (i : Int) < 0 := by omega
    have h3 : IntKind.i64.wrap ((i : Int) + 1) = ((i + 1 : Nat) : Int) := by rw [w64 (by omega)]; rfl
    obtain ⟨r, hri⟩ : ∃ z, l[i]? = some z := ⟨_, List.getElem?_eq_getElem h1⟩
    have ko := own_raw r.bf (hb r (List.mem_of_getElem? hri))
    have hg := ownM_get (k := 1) hri
    have hs := ownM_succ (k := 1) hri
    have hrl : (ownR (l.take i)).length = i := by rw [ownR_len, List.length_take]; omega
    have htk : ownR (l.take (i + 1)) = ownR (l.take i) ++ [some (.cells true 1 (il r.bf))] := by rw [List.take_add_one, hri, Option.toList_some, ownR_snoc]
    have ihn := ih (i + 1) (by omega) h1
    clear ih
    rw [Nat.add_comm 1 i] at hs
    rw [htk, ← hs] at ihn
    simp only [go_sem, h2, n0, h1, hg, Fr.v, hml]
    refine cN1 ko ?_
    simp only [go_sem, ren, rens, h2, n0, h1, hg, Fr.v, hml, h3, hrl]
    exact ihn _ (by simp [go_sem])
  · have h2 : ¬ (i : Int) < l.length := by omega
    obtain rfl : i = l.length := by omega
    clear ih
    rw [ownM_all, List.take_length]
    simp only [go_sem, h2, ownE_len]
    refine ⟨fun i => i, fun i hi => rfl, fun i k hi hk h => h, by simp [ren], fun i x hx => ?_⟩
    by_cases c0 : i = 0
    · subst c0
      simp only [List.getElem?_cons_zero, Option.some.injEq] at hx
      subst hx
      show _ = some (some (Row.cells true 3 (rens _ (ownE 1 l))))
      rw [rens_eq, ownE_ren (k0 := 1) fun m hm => rfl]; rfl
    · obtain ⟨m, rfl⟩ : ∃ m, i = m + 1 := ⟨i - 1, by omega⟩
      have hx2 := hx
      simp only [List.getElem?_cons_succ, ownR, List.getElem?_map] at hx2
      obtain ⟨r, hr, e⟩ := Option.map_eq_some_iff.1 hx2
      simp only [Option.some.injEq] at e
      subst e
      rw [Row.ren_same (by rw [row_bel_cells]; exact il_bel _ _)]; exact hx
end Go.Proofs

namespace Go.Proofs
open Go Go.Sx
attribute [local irreducible] Run

theorem puts_new {σ : Nat → Nat} {S : Nat → Prop} : ∀ (L : Heap) (k : Nat) (H : Heap), (∀ m, m < L.length → σ (k + m) = H.length + m) → Full S L → H.puts (outΔ σ k L) = H ++ L.map (Option.map (Row.ren σ))
  | [], _, H, _, _ => by simp [outΔ, Heap.puts]
  | none :: _, _, _, _, h => h.elim
  | some x :: L, k, H, h, hf => by
    have h0 : σ k = H.length := by simpa using h 0 (by simp)
    rw [outΔ, Heap.puts, h0, Heap.put_end, puts_new L (k + 1) (H ++ [some (x.ren σ)]) (fun m hm => by
      have := h (m + 1) (by rw [List.length_cons]; omega)
      rw [show k + 1 + m = k + (m + 1) by omega, this, List.length_append, List.length_singleton]; omega) hf.2]
    simp
theorem outΔ_keys {σ : Nat → Nat} {S : Nat → Prop} : ∀ (L : Heap) (k : Nat), Full S L → ∀ q ∈ (outΔ σ k L).map (·.1), ∃ m, m < L.length ∧ q = σ (k + m)
  | [], _, _, q, hq => by simp [outΔ] at hq
  | none :: _, _, h, _, _ => h.elim
  | some x :: L, k, hf, q, hq => by
    rw [outΔ, List.map_cons, List.mem_cons] at hq
    rcases hq with rfl | hq
    · exact ⟨0, by simp, rfl⟩
    · obtain ⟨m, hm, e⟩ := outΔ_keys L (k + 1) hf.2 q hq
      exact ⟨m + 1, by rw [List.length_cons]; omega, by rw [e]; congr 1; omega⟩
theorem rws_ren (F : FL) (σ : Nat → Nat) : (rws F).map (Option.map (Row.ren σ)) = rws F := by
  unfold rws
  rw [List.map_map]
  refine List.map_congr_left fun x hx => ?_
  show some ((rowF x).ren σ) = _
  rw [Row.ren_same (rowF_bel x _)]
theorem ownR_ren (l : List Fr) (σ : Nat → Nat) : (ownR l).map (Option.map (Row.ren σ)) = ownR l := by
  unfold ownR
  rw [List.map_map]
  refine List.map_congr_left fun x hx => ?_
  show some (Row.ren σ _) = _
  rw [Row.ren_same (by rw [row_bel_cells]; exact il_bel _ _)]
section
variable {P : Program} {G : Ctx} {g : FuncId} {largs args : List AVal} {H : Heap} {k : Nat} {R : Runner} {l : List AOper} {fs : List Sx.Frame} {ρ : List AVal} {ms : List Nat} {Q : Sx.Goal} {dst : Option Nat}
theorem callFires {Φ : FL × Int → Prop} {w : Int} {j : Nat} (h : AnsE P g (.ptr 0 0 0 1 :: args) [some (Dr w)] Φ (fun a => slv 1 (entsF 2 a.1)) fun a => fiH a.2 a.1) (hj : H[j]? = some (some (Dr w))) (hb : Bels (fun _ => False) args) (hk : k ≤ H.length) (hms : ∀ q ∈ ms, q ≠ j ∧ H[q]? = some (some .dfr))
    (hK : ∀ a, Φ a → R (.ops l) fs ⟨setD ρ dst (slv H.length (entsF (H.length + 1) a.1)), H.set j (some (Dr a.2)) ++ (if a.1 = [] then [] else some (LR (H.length + 1) a.1) :: rws a.1), ms⟩ Q) : CallR P G k R g (.ptr j 0 0 1 :: args) dst l fs ρ H ms Q := by
  have hlt : j < H.length := (List.getElem?_eq_some_iff.1 hj).1
  have hargs : args.map (ren (nth [j])) = args := by
    conv => rhs; rw [← List.map_id args]
    exact List.map_congr_left fun v hv => ren_same (bels_mem hb v hv)
  have hwf : ∀ a : FL × Int, [j].length ≤ (fiH a.2 a.1).length ∧ Bel (· < (fiH a.2 a.1).length) (slv 1 (entsF 2 a.1)) ∧ Full (· < (fiH a.2 a.1).length) (fiH a.2 a.1) := fun a => by
    unfold fiH
    by_cases hF : a.1 = []
    · rw [if_pos hF, hF]
      exact ⟨by simp, by simp [entsF, slv, go_sem], dr_bel _ _, trivial⟩
    · rw [if_neg hF]
      have hne : entsF 2 a.1 ≠ [] := fun e => hF (List.length_eq_zero_iff.1 (by rw [← entsF_len 2 a.1, e]; rfl))
      rw [(slr_some hne true 1 1).1]
      refine ⟨by simp, by simp [go_sem], dr_bel _ _, LR_bel (by simp [rws_len]; omega), full_rws _ _⟩
  have hσ : ∀ m : Nat, outσ [j] H.length (1 + m) = H.length + m := fun m => by
    unfold outσ; rw [if_neg (by simp)]; simp
  have hσ0 : outσ [j] H.length 0 = j := rfl
  refine callE h [j] (by simp) ⟨by rw [Row.ren_same (dr_bel _ _)]; exact hj, trivial⟩ (by simp only [List.map_cons, hargs]; rfl) ⟨by rw [bel_ptr]; simp, bels_of fun v hv => (bels_mem hb v hv).mono fun _ h => h.elim⟩ ⟨dr_bel _ _, trivial⟩
    (fun a _ => hwf a) (by simpa using hlt) hk (fun a ha q hq => ?_) fun a ha => ?_
  · refine ⟨fun hm => ?_, (hms q hq).2⟩
    obtain ⟨m, _, e⟩ := outΔ_keys _ _ (hwf a).2.2 q hm
    have h2 := (List.getElem?_eq_some_iff.1 (hms q hq).2).1
    rcases m with _ | m
    · rw [show (0 : Nat) + 0 = 0 from rfl, hσ0] at e; exact (hms q hq).1 e
    · rw [show (0 : Nat) + (m + 1) = 1 + m by omega, hσ] at e; omega
  · have := hK a ha
    have e1 : H.puts (outΔ (outσ [j] H.length) 0 (fiH a.2 a.1)) = H.set j (some (Dr a.2)) ++ (if a.1 = [] then [] else some (LR (H.length + 1) a.1) :: rws a.1) := by
      unfold fiH
      rw [outΔ, Heap.puts, hσ0, Row.ren_same (dr_bel _ _), put_lt hlt]
      by_cases hF : a.1 = []
      · rw [if_pos hF, if_pos hF]; simp [outΔ, Heap.puts]
      · rw [if_neg hF, if_neg hF]
        have hf2 : Full (fun _ => True) (some (LR 2 a.1) :: rws a.1) := ⟨by
          have := LR_bel (n := 2 + a.1.length) (k := 2) (F := a.1) (Nat.le_refl _)
          exact bel_mono_row this fun _ _ => trivial, full_rws _ _⟩
        rw [puts_new _ _ _ (fun m hm => by rw [show 0 + 1 + m = 1 + m by omega, hσ, List.length_set]) hf2]
        rw [List.map_cons, rws_ren]
        show _ ++ (some ((LR 2 a.1).ren _) :: _) = _
        rw [LR_ren (k0 := H.length + 1) fun m hm => by rw [show 2 + m = 1 + (m + 1) by omega, hσ]; omega]
    have e2 : ren (outσ [j] H.length) (slv 1 (entsF 2 a.1)) = slv H.length (entsF (H.length + 1) a.1) := by
      by_cases hF : a.1 = []
      · rw [hF]; rfl
      · have hne : ∀ k, entsF k a.1 ≠ [] := fun k e => hF (List.length_eq_zero_iff.1 (by rw [← entsF_len k a.1, e]; rfl))
        rw [(slr_some (hne 2) true 1 1).1, (slr_some (hne _) true 1 _).1, entsF_len, entsF_len]
        have := hσ 0
        simp only [ren]
        rw [show outσ [j] H.length 1 = H.length from by simpa using this]
    rw [e1, e2]
    exact this
end
def Fr.nv (r : Fr) : AVal := .agg [.int .i64 r.a, .int .i64 r.b, if r.bf = [] then .nilsl else .view (il r.bf)]
theorem il_frz4 {H : Heap} {P : List Int} {j n : Nat} {g : Bool} (h : H[j]? = some (some (.cells g 1 (il P)))) (hn : n = P.length) : frz 4 H (.sl j 0 n) = .view (il P) := by
  rw [frz_sl (d := 3) h (by rw [il_len]; exact hn)]
  unfold il
  rw [List.map_map]; rfl
theorem own_frz {H : Heap} {l : List Fr} {k : Nat} (hr : ∀ m r, l[m]? = some r → H[k + m]? = some (some (.cells true 1 (il r.bf)))) : (ownE k l).map (frz 5 H) = l.map Fr.v := by
  induction l generalizing k with
  | nil => rfl
  | cons r l ih =>
    have h1 := il_frz4 (by simpa using hr 0 r rfl) rfl
    rw [ownE, List.map_cons, List.map_cons, ih fun m x hm => by rw [show k + 1 + m = k + (m + 1) by omega]; exact hr (m + 1) x hm]
    congr 1
    show AVal.agg [_, _, frz 4 H (.sl k 0 r.bf.length)] = _
    rw [h1]; rfl
theorem ents_frz {H : Heap} {F : FL} {k : Nat} (hr : ∀ m x, F[m]? = some x → H[k + m]? = some (some (rowF x))) : (entsF k F).map (frz 5 H) = F.map fun x => x.2.nv := by
  induction F generalizing k with
  | nil => rfl
  | cons x F ih =>
    have h0 : H[k]? = some (some (rowF x)) := by simpa using hr 0 x rfl
    rw [entsF, List.map_cons, List.map_cons, ih fun m y hm => by rw [show k + 1 + m = k + (m + 1) by omega]; exact hr (m + 1) y hm]
    congr 1
    unfold entF Fr.nv
    by_cases hb : x.2.bf = []
    · rw [if_pos hb, hb]; rfl
    · unfold rowF at h0
      rw [if_neg hb] at h0
      rw [if_neg hb, (slr_some (il_ne hb) true 1 k).1, il_len]
      show AVal.agg [_, _, frz 4 H (.sl k 0 x.2.bf.length)] = _
      rw [il_frz4 h0 rfl]; rfl
theorem vr_fires {G : Ctx} {μ : Mu} (ls : List Fr) {c : Value} (h : VR G μ (.view (ls.map Fr.nv)) c) : VR G μ (.view (ls.map Fr.v)) c := by
  have key : ∀ i, (i < ls.length) → ((acells ((ls.map Fr.nv).getD i .any)).length = (acells ((ls.map Fr.v).getD i .any)).length ∧ ∀ j d, VR G μ ((acells ((ls.map Fr.nv).getD i .any)).getD j .any) d → VR G μ ((acells ((ls.map Fr.v).getD i .any)).getD j .any) d) := fun i hi => by
    obtain ⟨l, hl⟩ : ∃ l, ls[i]? = some l := ⟨_, List.getElem?_eq_getElem hi⟩
    have e1 : (ls.map Fr.nv).getD i .any = Fr.nv l := by rw [List.getD_eq_getElem?_getD, List.getElem?_map, hl]; rfl
    have e2 : (ls.map Fr.v).getD i .any = Fr.v l := by rw [List.getD_eq_getElem?_getD, List.getElem?_map, hl]; rfl
    rw [e1, e2]
    refine ⟨rfl, fun j d hd => ?_⟩
    rcases j with _ | _ | _ | j
    · exact hd
    · exact hd
    · show VR G μ (.view (il l.bf)) d
      have h2 : VR G μ (if l.bf = [] then .nilsl else .view (il l.bf)) d := hd
      by_cases hb : l.bf = []
      · rw [if_pos hb] at h2
        rw [hb]
        cases h2
        exact .viewnil _ _
      · rw [if_neg hb] at h2; exact h2
    · exact hd
  generalize hes : ls.map Fr.nv = es at h
  cases h with
  | view es b o sz cap f hb hcap hs hf hv =>
    subst hes
    have e : (ls.map Fr.nv).length = (ls.map Fr.v).length := by simp
    rw [e]
    refine .view (ls.map Fr.v) b o sz cap f hb (by simpa using hcap) (fun i hi => ?_) (fun i j hi hj => hf i j (by simpa using hi) hj) fun i j hi hj => ?_
    · have hi' : i < ls.length := by simpa using hi
      rw [← (key i hi').1]; exact hs i (by simpa using hi)
    · have hi' : i < ls.length := by simpa using hi
      exact (key i hi').2 j _ (hv i j (by simpa using hi) hj)
  | viewnil a cap =>
    have : ls = [] := by simpa using hes
    subst this
    exact .viewnil _ _
theorem Ans.fires {P : Program} {g : FuncId} {ls : List Fr} {LH LH' : Heap} {r : AVal} (h : Ans P g [.view (ls.map Fr.v)] LH r LH') : Ans P g [.view (ls.map Fr.nv)] LH r LH' :=
  h.weak rfl fun G μ i v hi hv => by
    match i, hi with
    | 0, _ => exact vr_fires ls hv
end Go.Proofs

namespace Go.Proofs
open Go Go.Sx
attribute [local irreducible] Run

section
variable {P : Program} {G : Ctx} {g : FuncId} {largs args : List AVal} {H LH' : Heap} {r : AVal} {k : Nat} {rd : Option Nat} {R : Runner} {l : List AOper} {fs : List Sx.Frame} {ρ : List AVal} {ms : List Nat} {Q : Sx.Goal} {dst : Option Nat}
  {ao : AOper} {lo hi : Nat} {tr : List (List Nat × List Nat)} {ss : List (List AOper)}
theorem outΔ_range {S : Nat → Prop} {N : Nat} : ∀ (L : Heap) (k : Nat), Full S L → (outΔ (fun i => N + i) k L).map (·.1) = List.range' (N + k) L.length
  | [], _, _ => rfl
  | none :: _, _, h => h.elim
  | some x :: L, k, hf => by
    rw [outΔ, List.map_cons, outΔ_range L (k + 1) hf.2, List.length_cons, List.range'_succ]; rfl
theorem dNew (h : Ans P g args [] r LH') (hb : Bels (fun _ => False) args) (hr : Bel (· < LH'.length) r) (hf' : Full (· < LH'.length) LH') (hms : ∀ q ∈ ms, q < H.length) (hd : dynOK ao.free [] (List.range' H.length LH'.length) tr lo = true)
    (hK : R (.grp lo l (tr ++ [([], List.range' H.length LH'.length)]) hi ss) fs ⟨setD ρ ao.dst (ren (fun i => H.length + i) r), H ++ LH'.map (Option.map (Row.ren fun i => H.length + i)), ms⟩ Q) : DCallR P R g args ao lo l tr hi ss fs ρ H ms Q := by
  have eσ : outσ [] H.length = fun i => H.length + i := by funext i; simp [outσ]
  have hargs : args = args.map (ren (nth [])) := by
    conv => lhs; rw [← List.map_id args]
    exact List.map_congr_left fun v hv => (ren_same (bels_mem hb v hv)).symm
  have hp : H.puts (outΔ (fun i => H.length + i) 0 LH') = H ++ LH'.map (Option.map (Row.ren fun i => H.length + i)) := puts_new LH' 0 H (fun m hm => by simp) hf'
  have hk := outΔ_range (N := H.length) LH' 0 hf'
  rw [Nat.add_zero] at hk
  have h1 := h.dcall (H := H) (args := args) [] (by simp) trivial hargs (bels_of fun v hv => (bels_mem hb v hv).mono fun _ h => h.elim) trivial (by simp) hr hf' (fun q hq => by simp at hq)
  rw [eσ, show LH'.length - ([] : List Nat).length = LH'.length from rfl] at h1
  refine dcallR (deps := []) h1 ⟨fun q hq hm => ?_, fun q hq => ?_, by rw [hk]; exact hd, ?_⟩
  · have := hms q hq
    unfold Oc.rows at hm
    dsimp only at hm
    rw [hk] at hm
    simp only [List.mem_append, List.mem_range'_1, mem_newNames] at hm
    omega
  · have := mem_newNames.1 hq
    dsimp only
    rw [hp]
    simp; omega
  · dsimp only; rw [hp, hk]; exact hK
end
end Go.Proofs

namespace Go.Proofs
open Go Go.Sx
attribute [local irreducible] Run

section
variable {P : Program} {G : Ctx} {g : FuncId} {largs args : List AVal} {H LH' : Heap} {r : AVal} {k : Nat} {rd : Option Nat} {R : Runner} {l : List AOper} {fs : List Sx.Frame} {ρ : List AVal} {ms : List Nat} {Q : Sx.Goal} {dst : Option Nat}
  {ao : AOper} {lo hi : Nat} {tr : List (List Nat × List Nat)} {ss : List (List AOper)}
theorem dN1 {x : Row} (h : Ans P g args [] r [some x]) (hK : R (.grp lo l (tr ++ [([], [H.length])]) hi ss) fs ⟨setD ρ ao.dst (ren (fun i => H.length + i) r), H ++ [some x], ms⟩ Q) (hx : x.bel (fun _ => False)) (hb : Bels (fun _ => False) args := by simp only [go_sem]) (hr : Bel (· < 1) r := by simp [go_sem]) (hms : ∀ q ∈ ms, q < H.length := by simp)
    (hd : dynOK ao.free [] [H.length] tr lo = true := by first | (simp only [go_sem]; done) | (simp [go_sem]; done) | (simp [go_sem]; omega)) : DCallR P R g args ao lo l tr hi ss fs ρ H ms Q := by
  refine dNew h hb (by simpa using hr) ⟨bel_mono_row hx fun _ h => h.elim, trivial⟩ hms ?_ ?_
  · simpa using hd
  · have e : ([some x] : Heap).map (Option.map (Row.ren fun i => H.length + i)) = [some x] := by simp [Row.ren_same hx]
    rw [e]
    simpa using hK
end
theorem disj_range {a n : Nat} {L : List Nat} (h : ∀ b ∈ L, a + n ≤ b ∨ b < a) : disj (List.range' a n) L = true := by
  unfold disj
  rw [List.all_eq_true]
  intro x hx
  rw [List.mem_range'_1] at hx
  simp only [Bool.not_eq_true', List.contains_eq_mem, decide_eq_false_iff_not]
  intro hm
  have := h x hm
  omega
end Go.Proofs

