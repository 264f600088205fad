/- A part of the proof. -/
import Derived.Test.YtenbikniminggaaDoorPC
set_option linter.unusedSimpArgs false
set_option linter.unusedVariables false
namespace Go.Proofs
open Go Go.Sx Go.Fam
attribute [local irreducible] Run

def bs (p : Nat → Bool) (pr : Nat → Rg) : Nat → Nat → Nat → Rg → Nat × Rg
  | 0, i, _, w => (i, w)
  | n + 1, i, j, w => if i < j then (if p ((i + j) / 2) = true then bs p pr n i ((i + j) / 2) (pr ((i + j) / 2)) else bs p pr n ((i + j) / 2 + 1) j (pr ((i + j) / 2))) else (i, w)
theorem bs_end (p : Nat → Bool) (pr : Nat → Rg) (f i j : Nat) (w : Rg) (h : ¬ i < j) : bs p pr f i j w = (i, w) := by
  cases f <;> simp [bs, h]
theorem bs_least {p : Nat → Bool} {pr : Nat → Rg} {m : Nat} : ∀ (f i j : Nat) (w : Rg), j - i ≤ f → i ≤ m → m ≤ j → (∀ h, i ≤ h → h < j → p h = decide (m ≤ h)) → (bs p pr f i j w).1 = m
  | 0, i, j, w, h1, h2, h3, _ => by simp only [bs]; omega
  | f + 1, i, j, w, h1, h2, h3, hp => by
    simp only [bs]
    split
    · rename_i hij
      rw [hp ((i + j) / 2) (by omega) (by omega)]
      by_cases h : m ≤ (i + j) / 2
      · rw [if_pos (by simpa using h)]
        exact bs_least f _ _ _ (by omega) h2 h fun q h4 h5 => hp q h4 (by omega)
      · rw [if_neg (by simpa using h)]
        exact bs_least f _ _ _ (by omega) (by omega) h3 fun q h4 h5 => hp q (by omega) h5
    · simp only; omega

def Rc (r : Rg) : Row := .cells false 2 [r.v]
def Bv (g : Nat) : AVal := .fn (.func g) [] [.ptr 4 0 0 1, .ptr 2 0 0 1]
def Bc (g : Nat) : Row := .cells false 1 [Bv g]
@[go_sem] theorem rc_bel (r : Rg) (S : Nat → Prop) : (Rc r).bel S = True := by unfold Rc; rw [row_bel_cells]; simp only [go_sem, Rg.v]

def Probe (m : Lw) (k : Nat) (d : Rd) (g : Nat) (q : Int → Bool) (lo hi : Int) : Prop := ∀ (v : Rg) (x : Int), lo ≤ x → x ≤ hi →
  Ans Tryd.prog g [.int .i64 x, .ptr 4 0 0 1, .ptr 2 0 0 1] [some (Lr (m.set k v)), some Lc, some (Rr d), some (Pc k), some (Wc 3)]
    (.bool (q x)) [some (Lr (m.set k ⟨x, x⟩)), some Lc, some (Rr d), some (Pc k), some (Wc 3)]
def Kh (m : Lw) (k : Nat) (v : Rg) (d : Rd) (r : Rg) (gb ga : Nat) : Heap := [some (Lr (m.set k v)), some Lc, some (Rr d), some (Pc k), some (Wc 3), some (Rc r), some (Bc gb), some (Bc ga)]

variable {m : Lw} {k : Nat} {d : Rd} {gb ga : Nat} {qb qa : Int → Bool} {r : Rg}

theorem wc_bel (S : Nat → Prop) (h1 : S 1) (h2 : S 2) (h3 : S 3) : (Wc 3).bel S := by unfold Wc Wv; rw [row_bel_cells]; simp [go_sem, h1, h2, h3]
theorem bc_bel (g : Nat) (S : Nat → Prop) (h1 : S 4) (h2 : S 2) : (Bc g).bel S := by unfold Bc Bv; rw [row_bel_cells]; simp [go_sem, h1, h2]
theorem kept1_ok (hb : Probe m k d gb qb r.lo r.hi) (hr : -1000000 ≤ r.lo ∧ r.hi ≤ 1000000) (v : Rg) (i : Nat) (hi : r.lo + i ≤ r.hi) :
    Ans Tryd.prog n_curve_kept_1 [.int .i64 i, .ptr 6 0 0 1, .ptr 5 0 0 1] (Kh m k v d r gb ga) (.bool (!qb (r.lo + i))) (Kh m k ⟨r.lo + i, r.lo + i⟩ d r gb ga) := by
  have hw := hb v (r.lo + i) (by omega) hi
  have w1 : IntKind.i64.wrap (r.lo + i) = r.lo + i := w64 (by omega)
  refine spec_run e_curve_kept_1 fun G => ?_
  unfold Kh
  simp only [go_sem, Rc, Bc, Bv, Rg.v, w1]
  refine cS1 hw 0 [1, 2, 3, 4] (by decide) ⟨rfl, rfl, rfl, rfl, rfl, trivial⟩ rfl (by simp [go_sem]) ⟨by simp [go_sem], by simp [go_sem], by simp [go_sem], by simp [go_sem], wc_bel _ (by decide) (by decide) (by decide), trivial⟩ (by simp only [go_sem])
    (by simp [go_sem]) (by simp) (by simp) rfl ?_
  show Run Tryd.prog G _ none _ _ _ ⟨_, [some (Lr (m.set k ⟨r.lo + i, r.lo + i⟩)), some Lc, some (Rr d), some (Pc k), some (Wc 3), some (Rc r), some (Bc gb), some (Bc ga)], []⟩ _
  simp only [go_sem, Rc, Bc, Bv, Rg.v]
  exact ⟨_, rfl⟩

theorem kept2_ok (ha : Probe m k d ga qa r.lo r.hi) (hr : -1000000 ≤ r.lo ∧ r.hi ≤ 1000000) (v : Rg) (i : Nat) (hi : r.lo + i ≤ r.hi) :
    Ans Tryd.prog n_curve_kept_2 [.int .i64 i, .ptr 7 0 0 1, .ptr 5 0 0 1] (Kh m k v d r gb ga) (.bool (qa (r.lo + i))) (Kh m k ⟨r.lo + i, r.lo + i⟩ d r gb ga) := by
  have hw := ha v (r.lo + i) (by omega) hi
  have w1 : IntKind.i64.wrap (r.lo + i) = r.lo + i := w64 (by omega)
  refine spec_run e_curve_kept_2 fun G => ?_
  unfold Kh
  simp only [go_sem, Rc, Bc, Bv, Rg.v, w1]
  refine cS1 hw 0 [1, 2, 3, 4] (by decide) ⟨rfl, rfl, rfl, rfl, rfl, trivial⟩ rfl (by simp [go_sem]) ⟨by simp [go_sem], by simp [go_sem], by simp [go_sem], by simp [go_sem], wc_bel _ (by decide) (by decide) (by decide), trivial⟩ (by simp only [go_sem])
    (by simp [go_sem]) (by simp) (by simp) rfl ?_
  show Run Tryd.prog G _ none _ _ _ ⟨_, [some (Lr (m.set k ⟨r.lo + i, r.lo + i⟩)), some Lc, some (Rr d), some (Pc k), some (Wc 3), some (Rc r), some (Bc gb), some (Bc ga)], []⟩ _
  simp only [go_sem, Rc, Bc, Bv, Rg.v]
  exact ⟨_, rfl⟩

theorem shr_u64' (x n : Int) : shrW .u64 x n = x / 2 ^ (min n.toNat 64) := by
  unfold shrW; rw [Int.fdiv_eq_ediv_of_nonneg _ (by exact Int.pow_nonneg (by decide))]; rfl
theorem s1' (x : Int) : shrW .u64 x 1 = x / 2 := by rw [shr_u64']; rfl

theorem search_ok (n : Nat) (hn : n ≤ 1000000000) (g : Nat) (a b : Nat) (hab : a < 8 ∧ b < 8) (p : Nat → Bool) (v : Rg)
    (hp : ∀ (v : Rg) (i : Nat), i < n → Ans Tryd.prog g [.int .i64 i, .ptr a 0 0 1, .ptr b 0 0 1] (Kh m k v d r gb ga) (.bool (p i)) (Kh m k ⟨r.lo + i, r.lo + i⟩ d r gb ga)) :
    Ans Tryd.prog n_sort_Search [.int .i64 n, .fn (.func g) [] [.ptr a 0 0 1, .ptr b 0 0 1]] (Kh m k v d r gb ga) (.int .i64 (bs p (fun h => ⟨r.lo + h, r.lo + h⟩) n 0 n v).1)
      (Kh m k (bs p (fun h => ⟨r.lo + h, r.lo + h⟩) n 0 n v).2 d r gb ga) := by
  obtain ⟨pr, hpr⟩ : ∃ pr : Nat → Rg, pr = fun (h : Nat) => ⟨r.lo + h, r.lo + h⟩ := ⟨_, rfl⟩
  rw [← hpr]
  obtain ⟨out, hout⟩ : ∃ out, bs p pr n 0 n v = out := ⟨_, rfl⟩
  rw [hout]
  refine spec_run e_sort_Search fun G => ?_
  simp only [go_sem]
  refine loop_ind k_sort_Search_r7.eq_1 (fun s : Nat × Nat × Rg × Nat => s.2.1 ≤ n ∧ s.2.1 - s.1 ≤ s.2.2.2 ∧ bs p pr s.2.2.2 s.1 s.2.1 s.2.2.1 = out) (fun s => s.2.2.2)
    (fun s => ([.int .i64 n, .fn (.func g) [] [.ptr a 0 0 1, .ptr b 0 0 1], .any, .any, .int .i64 0, .int .i64 s.1, .int .i64 s.2.1] ++ List.replicate 19 .any, Kh m k s.2.2.1 d r gb ga)) (0, n, v, n) ⟨Nat.le_refl _, by simp, hout⟩ (by simp [Wk]) rfl ?_
  rintro ⟨i, j, w, f⟩ ⟨hj, hf, hb⟩ ih
  dsimp only at hj hf hb ih ⊢
  by_cases h1 : i < j
  · have h2 : (i : Int) < j := by omega
    have e1 : IntKind.i64.wrap ((i : Int) + j) = i + j := w64 (by omega)
    have e2 : IntKind.u64.wrap ((i : Int) + j) = i + j := IntWalk.u64_in _ (by omega)
    have e3 : IntKind.i64.wrap (((i : Int) + j) / 2) = (((i + j) / 2 : Nat) : Int) := by rw [w64 (by omega)]; omega
    have e4 : IntKind.i64.wrap ((((i + j) / 2 : Nat) : Int) + 1) = (((i + j) / 2 + 1 : Nat) : Int) := by rw [w64 (by omega)]; omega
    have hq := hp w ((i + j) / 2) (by omega)
    obtain ⟨f', rfl⟩ : ∃ f', f = f' + 1 := ⟨f - 1, by omega⟩
    simp only [bs, if_pos h1] at hb
    have hpe : pr ((i + j) / 2) = ⟨r.lo + (((i + j) / 2 : Nat) : Int), r.lo + (((i + j) / 2 : Nat) : Int)⟩ := by rw [hpr]
    have hK : ∀ (w : Rg), Kh m k w d r gb ga = some (Lr (m.set k w)) :: [some Lc, some (Rr d), some (Pc k), some (Wc 3), some (Rc r), some (Bc gb), some (Bc ga)] := fun _ => rfl
    simp only [go_sem, h2, e1, e2, s1', e3]
    rw [hK w, hK] at hq
    refine cS1 hq 0 [1, 2, 3, 4, 5, 6, 7] (by decide) ⟨rfl, rfl, rfl, rfl, rfl, rfl, rfl, rfl, trivial⟩ ?_ (by simp [go_sem, hab]) ⟨by simp [go_sem], by simp [go_sem], by simp [go_sem], by simp [go_sem], wc_bel _ (by decide) (by decide) (by decide), by simp [go_sem], bc_bel _ _ (by decide) (by decide), bc_bel _ _ (by decide) (by decide), trivial⟩ (by simp only [go_sem])
      (by simp [go_sem]) (by simp [Kh]) (by simp [Kh]) rfl ?_
    · have hn : ∀ a, a < 8 → nth [0, 1, 2, 3, 4, 5, 6, 7] a = a := by decide
      simp [ren, hn _ hab.1, hn _ hab.2]
    show Run Tryd.prog G _ none _ _ _ ⟨_, Kh m k ⟨r.lo + (((i + j) / 2 : Nat) : Int), r.lo + (((i + j) / 2 : Nat) : Int)⟩ d r gb ga, []⟩ _
    rw [hpe] at hb
    by_cases h3 : p ((i + j) / 2) = true
    · rw [if_pos h3] at hb
      simp only [go_sem, h3]
      exact ih (i, (i + j) / 2, _, f') (by dsimp only; omega) ⟨by dsimp only; omega, by dsimp only; omega, hb⟩ _ (by simp [Wk])
    · rw [if_neg h3] at hb
      simp only [go_sem, h3, e4]
      exact ih ((i + j) / 2 + 1, j, _, f') (by dsimp only; omega) ⟨hj, by dsimp only; omega, hb⟩ _ (by simp [Wk])
  · have h2 : ¬ (i : Int) < j := by omega
    rw [bs_end _ _ _ _ _ _ h1] at hb
    subst hb
    simp only [go_sem, h2]

def ks1 (qb : Int → Bool) (r v : Rg) : Nat × Rg := bs (fun i => !qb (r.lo + i)) (fun h => ⟨r.lo + h, r.lo + h⟩) (r.hi - r.lo + 1).toNat 0 (r.hi - r.lo + 1).toNat v
def ks2 (qb qa : Int → Bool) (r v : Rg) : Nat × Rg := bs (fun i => qa (r.lo + i)) (fun h => ⟨r.lo + h, r.lo + h⟩) (r.hi - r.lo + 1).toNat 0 (r.hi - r.lo + 1).toNat (ks1 qb r v).2
def keptR (qb qa : Int → Bool) (r v : Rg) : Rg := if (ks2 qb qa r v).1 ≤ (ks1 qb r v).1 then ⟨1, 0⟩ else ⟨r.lo + (ks1 qb r v).1, r.lo + (ks2 qb qa r v).1 - 1⟩
theorem bs_in (p : Nat → Bool) (pr : Nat → Rg) : ∀ (f i j : Nat) (w : Rg), i ≤ j → (bs p pr f i j w).1 ≤ j
  | 0, i, j, w, h => h
  | f + 1, i, j, w, h => by
    simp only [bs]
    split
    · split
      · have := bs_in p pr f i ((i + j) / 2) (pr ((i + j) / 2)) (by omega); omega
      · exact bs_in p pr f ((i + j) / 2 + 1) j (pr ((i + j) / 2)) (by omega)
    · exact h

theorem kept_ok (hb : Probe m k d gb qb r.lo r.hi) (ha : Probe m k d ga qa r.lo r.hi) (hr : -1000000 ≤ r.lo ∧ r.lo ≤ r.hi ∧ r.hi ≤ 1000000) (v : Rg) :
    Ans Tryd.prog n_curve_kept [r.v, Bv gb, Bv ga] [some (Lr (m.set k v)), some Lc, some (Rr d), some (Pc k), some (Wc 3)]
      (keptR qb qa r v).v [some (Lr (m.set k (ks2 qb qa r v).2)), some Lc, some (Rr d), some (Pc k), some (Wc 3)] := by
  obtain ⟨n, hn⟩ : ∃ n : Nat, (n : Int) = r.hi - r.lo + 1 := ⟨(r.hi - r.lo + 1).toNat, by omega⟩
  have hn' : (r.hi - r.lo + 1).toNat = n := by omega
  have S1 := search_ok (m := m) (k := k) (d := d) (r := r) (gb := gb) (ga := ga) n (by omega) n_curve_kept_1 6 5 (by decide) (fun i => !qb (r.lo + i)) v fun w i hi => kept1_ok hb (by omega) w i (by omega)
  have S2 := search_ok (m := m) (k := k) (d := d) (r := r) (gb := gb) (ga := ga) n (by omega) n_curve_kept_2 7 5 (by decide) (fun i => qa (r.lo + i)) (ks1 qb r v).2 fun w i hi => kept2_ok ha (by omega) w i (by omega)
  have b1 := bs_in (fun i => !qb (r.lo + i)) (fun h => ⟨r.lo + h, r.lo + h⟩) n 0 n v (Nat.zero_le _)
  have b2 := bs_in (fun i => qa (r.lo + i)) (fun h => ⟨r.lo + h, r.lo + h⟩) n 0 n (ks1 qb r v).2 (Nat.zero_le _)
  have E1 : bs (fun i => !qb (r.lo + i)) (fun h => ⟨r.lo + h, r.lo + h⟩) n 0 n v = ks1 qb r v := by unfold ks1; rw [hn']
  have E2 : bs (fun i => qa (r.lo + i)) (fun h => ⟨r.lo + h, r.lo + h⟩) n 0 n (ks1 qb r v).2 = ks2 qb qa r v := by unfold ks2; rw [hn']
  rw [E1] at S1 b1
  rw [E2] at S2 b2
  unfold keptR
  generalize ks1 qb r v = s1 at *
  generalize ks2 qb qa r v = s2 at *
  clear E1 E2
  have w1 : IntKind.i64.wrap (r.hi - r.lo) = r.hi - r.lo := w64 (by omega)
  have w2 : IntKind.i64.wrap (r.hi - r.lo + 1) = n := by rw [w64 (by omega)]; exact hn.symm
  have w3 : IntKind.i64.wrap (r.lo + (s1.1 : Int)) = r.lo + s1.1 := w64 (by omega)
  have w4 : IntKind.i64.wrap (r.lo + (s2.1 : Int)) = r.lo + s2.1 := w64 (by omega)
  have w5 : IntKind.i64.wrap (r.lo + (s2.1 : Int) - 1) = r.lo + s2.1 - 1 := w64 (by omega)
  have hK : ∀ (w : Rg), Kh m k w d r gb ga = some (Lr (m.set k w)) :: [some Lc, some (Rr d), some (Pc k), some (Wc 3), some (Rc r), some (Bc gb), some (Bc ga)] := fun _ => rfl
  rw [hK, hK] at S1 S2
  refine spec_run e_curve_kept fun G => ?_
  simp only [go_sem, Bv, Rg.v, w1, w2]
  refine cS1 S1 0 [1, 2, 3, 4, 5, 6, 7] (by decide) ⟨rfl, rfl, rfl, rfl, rfl, rfl, rfl, rfl, trivial⟩ rfl (by simp [go_sem]) ⟨by simp [go_sem], by simp [go_sem], by simp [go_sem], by simp [go_sem], wc_bel _ (by decide) (by decide) (by decide), by simp [go_sem], bc_bel _ _ (by decide) (by decide), bc_bel _ _ (by decide) (by decide), trivial⟩ (by simp only [go_sem])
      (by simp [go_sem]) (by simp) (by simp) rfl ?_
  show Run Tryd.prog G _ none _ _ _ ⟨_, [some (Lr (m.set k s1.2)), some Lc, some (Rr d), some (Pc k), some (Wc 3), some (Rc r), some (Bc gb), some (Bc ga), some (.cells false 2 [.agg [.int .i64 0, .int .i64 0]])], []⟩ _
  simp only [go_sem]
  refine cS1 S2 0 [1, 2, 3, 4, 5, 6, 7] (by decide) ⟨rfl, rfl, rfl, rfl, rfl, rfl, rfl, rfl, trivial⟩ rfl (by simp [go_sem]) ⟨by simp [go_sem], by simp [go_sem], by simp [go_sem], by simp [go_sem], wc_bel _ (by decide) (by decide) (by decide), by simp [go_sem], bc_bel _ _ (by decide) (by decide), bc_bel _ _ (by decide) (by decide), trivial⟩ (by simp only [go_sem])
      (by simp [go_sem]) (by simp) (by simp) rfl ?_
  show Run Tryd.prog G _ none _ _ _ ⟨_, [some (Lr (m.set k s2.2)), some Lc, some (Rr d), some (Pc k), some (Wc 3), some (Rc r), some (Bc gb), some (Bc ga), some (.cells false 2 [.agg [.int .i64 0, .int .i64 0]])], []⟩ _
  by_cases hc : s2.1 ≤ s1.1
  · have hc' : (s2.1 : Int) ≤ s1.1 := by omega
    rw [if_pos hc]
    simp only [go_sem, hc', Rc, Rg.v]
    exact ⟨_, rfl⟩
  · have hc' : ¬ (s2.1 : Int) ≤ s1.1 := by omega
    rw [if_neg hc]
    simp only [go_sem, hc', Rc, Rg.v, w3, w4, w5]
    exact ⟨_, rfl⟩
end Go.Proofs

namespace Go.Proofs
open Go Go.Sx Go.Fam
attribute [local irreducible] Run

def nar1 (m : Lw) (k : Nat) (d : Rd) : Rg := if k = 1 then keptR (tooHigh m k d) (tooLow m k d) (m.get k) (m.get k) else keptR (tooLow m k d) (tooHigh m k d) (m.get k) (m.get k)
def narK : List Nat → Lw → Rd → Bool × Lw
  | [], m, _ => (true, m)
  | k :: ks, m, d => if (nar1 m k d).lo = 1 ∧ (nar1 m k d).hi = 0 then (false, m.set k (nar1 m k d)) else narK ks (m.set k (nar1 m k d)) d

theorem keptR_in (qb qa : Int → Bool) {r v : Rg} (h : r.lo ≤ r.hi) : keptR qb qa r v = ⟨1, 0⟩ ∨ (r.lo ≤ (keptR qb qa r v).lo ∧ (keptR qb qa r v).lo ≤ (keptR qb qa r v).hi ∧ (keptR qb qa r v).hi ≤ r.hi) := by
  have b2 : (ks2 qb qa r v).1 ≤ (r.hi - r.lo + 1).toNat := bs_in _ _ _ 0 _ _ (Nat.zero_le _)
  unfold keptR
  split
  · exact .inl rfl
  · refine .inr ⟨?_, ?_, ?_⟩ <;> dsimp only <;> omega
theorem Lw.get_in {l : Lw} (h : LwOK l) (k : Nat) : -1000000 ≤ (l.get k).lo ∧ (l.get k).lo ≤ (l.get k).hi ∧ (l.get k).hi ≤ 1000000 := by
  obtain ⟨p1, p2, p3, p4, p5⟩ := h
  match k with
  | 0 => simp only [Lw.get]; omega
  | 1 => simp only [Lw.get]; omega
  | 2 => simp only [Lw.get]; omega
  | 3 => simp only [Lw.get]; omega
  | k + 4 => simp only [Lw.get]; omega
theorem Lw.set_get (l : Lw) (k : Nat) : l.set k (l.get k) = l := by
  match k with
  | 0 => rfl
  | 1 => rfl
  | 2 => rfl
  | 3 => rfl
  | k + 4 => rfl
theorem Lw.set_rg {l : Lw} (h : LwOK l) (k : Nat) {r : Rg} (h1 : (l.get k).lo ≤ r.lo) (h2 : r.lo ≤ r.hi) (h3 : r.hi ≤ (l.get k).hi) : LwOK (l.set k r) := by
  obtain ⟨p1, p2, p3, p4, p5⟩ := h
  match k with
  | 0 =>
    have h1 : l.perv.lo ≤ r.lo := h1
    have h3 : r.hi ≤ l.perv.hi := h3
    exact ⟨⟨by show 0 ≤ r.lo; omega, h2, by show r.hi ≤ _; omega⟩, p2, p3, p4, p5⟩
  | 1 =>
    have h1 : l.gain.lo ≤ r.lo := h1
    have h3 : r.hi ≤ l.gain.hi := h3
    exact ⟨p1, ⟨by show 1 ≤ r.lo; omega, h2, by show r.hi ≤ _; omega⟩, p3, p4, p5⟩
  | 2 =>
    have h1 : l.shift.lo ≤ r.lo := h1
    have h3 : r.hi ≤ l.shift.hi := h3
    exact ⟨p1, p2, ⟨by show -1000000 ≤ r.lo; omega, h2, by show r.hi ≤ _; omega⟩, p4, p5⟩
  | 3 =>
    have h1 : l.full.lo ≤ r.lo := h1
    have h3 : r.hi ≤ l.full.hi := h3
    exact ⟨p1, p2, p3, ⟨by show 0 ≤ r.lo; omega, h2, by show r.hi ≤ _; omega⟩, p5⟩
  | k + 4 =>
    have h1 : l.part.lo ≤ r.lo := h1
    have h3 : r.hi ≤ l.part.hi := h3
    exact ⟨p1, p2, p3, p4, ⟨by show 0 ≤ r.lo; omega, h2, by show r.hi ≤ _; omega⟩⟩
theorem nar1_in {m : Lw} (h : LwOK m) (k : Nat) (d : Rd) (hn : ¬ ((nar1 m k d).lo = 1 ∧ (nar1 m k d).hi = 0)) : LwOK (m.set k (nar1 m k d)) := by
  have hg := (Lw.get_in h k).2.1
  have : nar1 m k d = ⟨1, 0⟩ ∨ ((m.get k).lo ≤ (nar1 m k d).lo ∧ (nar1 m k d).lo ≤ (nar1 m k d).hi ∧ (nar1 m k d).hi ≤ (m.get k).hi) := by
    unfold nar1
    split
    · exact keptR_in _ _ hg
    · exact keptR_in _ _ hg
  rcases this with e | ⟨h1, h2, h3⟩
  · rw [e] at hn; exact absurd ⟨rfl, rfl⟩ hn
  · exact Lw.set_rg h k h1 h2 h3

theorem low_pr {m : Lw} (h : LwOK m) (k : Nat) (hk : k < 5) (d : Rd) (hd : d.ok) : Probe m k d n_curve_narrow_2 (tooLow m k d) (m.get k).lo (m.get k).hi := fun v x h1 h2 => low_ok k hk v d hd x (Lw.set_in h k h1 h2)
theorem high_pr {m : Lw} (h : LwOK m) (k : Nat) (hk : k < 5) (d : Rd) (hd : d.ok) : Probe m k d n_curve_narrow_3 (tooHigh m k d) (m.get k).lo (m.get k).hi := fun v x h1 h2 => high_ok k hk v d hd x (Lw.set_in h k h1 h2)

theorem keep_ok {m : Lw} (h : LwOK m) (k : Nat) (hk : k < 5) (hk1 : k ≠ 1) (d : Rd) (hd : d.ok) : ∃ w, Ans Tryd.prog n_curve_kept [(m.get k).v, Bv n_curve_narrow_2, Bv n_curve_narrow_3] [some (Lr m), some Lc, some (Rr d), some (Pc k), some (Wc 3)]
    (nar1 m k d).v [some (Lr (m.set k w)), some Lc, some (Rr d), some (Pc k), some (Wc 3)] := by
  have hA := kept_ok (low_pr h k hk d hd) (high_pr h k hk d hd) (Lw.get_in h k) (m.get k)
  rw [Lw.set_get] at hA
  unfold nar1
  rw [if_neg hk1]
  exact ⟨_, hA⟩
theorem keep_gain {m : Lw} (h : LwOK m) (d : Rd) (hd : d.ok) : ∃ w, Ans Tryd.prog n_curve_kept [(m.get 1).v, Bv n_curve_narrow_3, Bv n_curve_narrow_2] [some (Lr m), some Lc, some (Rr d), some (Pc 1), some (Wc 3)]
    (nar1 m 1 d).v [some (Lr (m.set 1 w)), some Lc, some (Rr d), some (Pc 1), some (Wc 3)] := by
  have hA := kept_ok (high_pr h 1 (by decide) d hd) (low_pr h 1 (by decide) d hd) (Lw.get_in h 1) (m.get 1)
  rw [Lw.set_get] at hA
  unfold nar1
  rw [if_pos rfl]
  exact ⟨_, hA⟩
end Go.Proofs

namespace Go.Proofs
open Go Go.Sx Go.Fam

structure UpR (a b : Rg) : Prop where
  lo : a.lo ≤ b.lo
  hi : a.hi ≤ b.hi
structure UpL (a b : Lw) : Prop where
  perv : UpR a.perv b.perv
  gain : UpR b.gain a.gain
  shift : UpR a.shift b.shift
  full : UpR a.full b.full
  part : UpR a.part b.part
theorem UpR.refl (r : Rg) : UpR r r := ⟨Int.le_refl _, Int.le_refl _⟩

theorem drive_up {a b : Lw} (ha : LwOK a) (hb : LwOK b) (h : UpL a b) {g p : Int} (hp : 0 ≤ p) : UpR (driveOf a g p) (driveOf b g p) := by
  have k1 := div_anti (n := 1000 * p) (by omega) (show 1 ≤ b.gain.hi by have := hb.gain; omega) h.gain.hi
  have k2 := rup_anti (n := 1000 * p) (by omega) hb.gain.1 h.gain.lo
  have s1 := h.shift.lo; have s2 := h.shift.hi
  exact ⟨bnd_mono (by omega), bnd_mono (by omega)⟩

theorem cur_up {a b : Lw} (ha : LwOK a) (hb : LwOK b) (h : UpL a b) {g p : Int} (hp : 0 ≤ p) : UpR (curOf a g p) (curOf b g p) := by
  have hd := drive_up ha hb h (g := g) hp
  have e0 : 0 ≤ (driveOf a g p).lo := (bnd_in _).1
  have e1 : 0 ≤ (driveOf a g p).hi := (bnd_in _).1
  have lp := ha.perv; have mp := hb.perv; have lq := ha.part; have mq := hb.part; have lf := ha.full; have mf := hb.full
  have hp1 := h.perv.lo; have hp2 := h.perv.hi; have hq1 := h.part.lo; have hq2 := h.part.hi
  unfold curOf
  generalize driveOf a g p = dl at *
  generalize driveOf b g p = dm at *
  obtain ⟨r0, _, _⟩ := root_ok (cube_nonneg e0)
  obtain ⟨r1, _, _⟩ := root_ok (cube_nonneg e1)
  obtain ⟨u0, _, _⟩ := rootU_ok (cube_nonneg e1)
  have a1 := root_mono (cube_nonneg e0) (cube_le e0 hd.lo)
  have a2 := rootU_mono (cube_nonneg e1) (cube_le e1 hd.hi)
  have b1 : a.perv.lo * root (cube dl.lo) ≤ b.perv.lo * root (cube dm.lo) := Int.mul_le_mul hp1 a1 r0 (by omega)
  have b2 : a.perv.hi * rootU (cube dl.hi) ≤ b.perv.hi * rootU (cube dm.hi) := Int.mul_le_mul hp2 a2 (by omega) (by omega)
  have c1 : spaceLo a dl ≤ spaceLo b dm := Int.ediv_le_ediv (by decide) b1
  have c2 : spaceHi a dl ≤ spaceHi b dm := rup_mono b2 (by decide)
  have z1 : 0 ≤ spaceLo a dl := Int.ediv_nonneg (Int.mul_nonneg lp.1 r0) (by decide)
  have z2 : 0 ≤ spaceHi a dl := (rup_in (Int.mul_nonneg (by omega) (by omega)) (by decide)).1
  have f1 := mn_mono2 c1 h.full.lo
  have f2 := mn_mono2 c2 h.full.hi
  have y1 : 0 ≤ mn (spaceLo a dl) a.full.lo := (mn_in z1 lf.1).1
  have y2 : 0 ≤ mn (spaceHi a dl) a.full.hi := (mn_in z2 (by omega)).1
  exact ⟨Int.ediv_le_ediv (by decide) (Int.mul_le_mul hq1 f1 y1 (by omega)), rup_mono (Int.mul_le_mul hq2 f2 y2 (by omega)) (by decide)⟩

theorem set_up (m : Lw) (k : Nat) (hk : k ≠ 1) {x y : Int} (h : x ≤ y) : UpL (m.set k ⟨x, x⟩) (m.set k ⟨y, y⟩) := by
  have hr : UpR ⟨x, x⟩ ⟨y, y⟩ := ⟨h, h⟩
  match k, hk with
  | 0, _ => exact ⟨hr, .refl _, .refl _, .refl _, .refl _⟩
  | 2, _ => exact ⟨.refl _, .refl _, hr, .refl _, .refl _⟩
  | 3, _ => exact ⟨.refl _, .refl _, .refl _, hr, .refl _⟩
  | k + 4, _ => exact ⟨.refl _, .refl _, .refl _, .refl _, hr⟩
theorem set_down (m : Lw) {x y : Int} (h : x ≤ y) : UpL (m.set 1 ⟨y, y⟩) (m.set 1 ⟨x, x⟩) := ⟨.refl _, ⟨h, h⟩, .refl _, .refl _, .refl _⟩

theorem thr (p : Nat → Bool) : ∀ n : Nat, (∀ i j, i ≤ j → j < n → p i = true → p j = true) → ∃ m, m ≤ n ∧ ∀ h, h < n → p h = decide (m ≤ h)
  | 0, _ => ⟨0, Nat.le_refl _, fun h hh => by omega⟩
  | n + 1, hp => by
    obtain ⟨m, h1, h2⟩ := thr p n fun i j hij hj => hp i j hij (by omega)
    by_cases hm : m < n
    · have hn : p n = true := hp m n (by omega) (by omega) (by rw [h2 m hm]; simp)
      refine ⟨m, by omega, fun h hh => ?_⟩
      by_cases e : h = n
      · subst e; rw [hn]; simp; omega
      · exact h2 h (by omega)
    · obtain rfl : m = n := by omega
      by_cases hn : p m = true
      · refine ⟨m, by omega, fun h hh => ?_⟩
        by_cases e : h = m
        · subst e; rw [hn]; simp
        · exact h2 h (by omega)
      · refine ⟨m + 1, by omega, fun h hh => ?_⟩
        by_cases e : h = m
        · subst e; simp only [Bool.not_eq_true] at hn; rw [hn]; simp
        · rw [h2 h (by omega)]; simp; omega

theorem keptR_mem {qb qa : Int → Bool} {r v : Rg} (h1 : ∀ x y, r.lo ≤ x → x ≤ y → y ≤ r.hi → qb y = true → qb x = true) (h2 : ∀ x y, r.lo ≤ x → x ≤ y → y ≤ r.hi → qa x = true → qa y = true)
    {x : Int} (hx : r.lo ≤ x ∧ x ≤ r.hi) (hb : qb x = false) (ha : qa x = false) : (keptR qb qa r v).lo ≤ x ∧ x ≤ (keptR qb qa r v).hi := by
  obtain ⟨n, hn⟩ : ∃ n : Nat, (r.hi - r.lo + 1).toNat = n := ⟨_, rfl⟩
  obtain ⟨i, hi⟩ : ∃ i : Nat, x = r.lo + i := ⟨(x - r.lo).toNat, by omega⟩
  have hin : i < n := by omega
  obtain ⟨m1, a1, a2⟩ := thr (fun i => !qb (r.lo + i)) n fun i j hij hj hp => by
    simp only [Bool.not_eq_true'] at hp ⊢
    cases hq : qb (r.lo + j) with
    | false => rfl
    | true => rw [h1 (r.lo + i) (r.lo + j) (by omega) (by omega) (by omega) hq] at hp; cases hp
  obtain ⟨m2, b1, b2⟩ := thr (fun i => qa (r.lo + i)) n fun i j hij hj hp => h2 _ _ (by omega) (by omega) (by omega) hp
  have e1 : (ks1 qb r v).1 = m1 := by
    unfold ks1; rw [hn]
    exact bs_least n 0 n v (by omega) (Nat.zero_le _) a1 fun h _ hh => a2 h hh
  have e2 : (ks2 qb qa r v).1 = m2 := by
    unfold ks2; rw [hn]
    exact bs_least n 0 n _ (by omega) (Nat.zero_le _) b1 fun h _ hh => b2 h hh
  have c1 := a2 i hin
  have c2 := b2 i hin
  rw [← hi] at c1 c2
  rw [hb] at c1
  rw [ha] at c2
  simp only [Bool.not_false] at c1
  have d1 : m1 ≤ i := by simpa using c1.symm
  have d2 : ¬ m2 ≤ i := by simpa using c2.symm
  unfold keptR
  rw [e1, e2, if_neg (by omega)]
  dsimp only
  omega

def Exact (y : Lw) : Prop := ∀ k, (y.get k).lo = (y.get k).hi
def agr (y : Lw) (d : Rd) : Prop := (curOf y d.g d.p).lo ≤ d.hi ∧ d.lo ≤ (curOf y d.g d.p).hi

theorem SubL.get {a b : Lw} (h : SubL a b) (k : Nat) : SubR (a.get k) (b.get k) := by
  match k with
  | 0 => exact h.perv
  | 1 => exact h.gain
  | 2 => exact h.shift
  | 3 => exact h.full
  | k + 4 => exact h.part
theorem SubL.set {a b : Lw} (h : SubL a b) (k : Nat) {r : Rg} (hr : SubR (a.get k) r) : SubL a (b.set k r) := by
  match k with
  | 0 => exact ⟨hr, h.gain, h.shift, h.full, h.part⟩
  | 1 => exact ⟨h.perv, hr, h.shift, h.full, h.part⟩
  | 2 => exact ⟨h.perv, h.gain, hr, h.full, h.part⟩
  | 3 => exact ⟨h.perv, h.gain, h.shift, hr, h.part⟩
  | k + 4 => exact ⟨h.perv, h.gain, h.shift, h.full, hr⟩

theorem nar1_keeps {m y : Lw} (hm : LwOK m) (hy : LwOK y) (he : Exact y) (hs : SubL y m) {d : Rd} (hd : d.ok) (ha : agr y d) (k : Nat) :
    (nar1 m k d).lo ≤ (y.get k).lo ∧ (y.get k).hi ≤ (nar1 m k d).hi := by
  have hk := hs.get k
  have hin := Lw.get_in hy k
  obtain ⟨x, hx⟩ : ∃ x, (y.get k).lo = x := ⟨_, rfl⟩
  have hx2 : (y.get k).hi = x := by rw [← he k]; exact hx
  have hxl : (m.get k).lo ≤ x := by rw [← hx]; exact hk.lo
  have hxh : x ≤ (m.get k).hi := by rw [← hx2]; exact hk.hi
  have hok : ∀ z, (m.get k).lo ≤ z → z ≤ (m.get k).hi → LwOK (m.set k ⟨z, z⟩) := fun z h1 h2 => Lw.set_in hm k h1 h2
  have hsub : SubL y (m.set k ⟨x, x⟩) := hs.set k ⟨by rw [hx]; exact Int.le_refl _, by rw [hx2]; exact Int.le_refl _⟩
  have hc := cur_sub (hok x hxl hxh) hy hsub (g := d.g) (p := d.p) hd.2.1
  have f1 : tooLow m k d x = false := by
    unfold tooLow; rw [decide_eq_false_iff_not]; have := hc.hi; have := ha.2; omega
  have f2 : tooHigh m k d x = false := by
    unfold tooHigh; rw [decide_eq_false_iff_not]; have := hc.lo; have := ha.1; omega
  rw [hx, hx2]
  unfold nar1
  by_cases h1 : k = 1
  · subst h1
    rw [if_pos rfl]
    refine keptR_mem ?_ ?_ ⟨hxl, hxh⟩ f2 f1
    · intro u w hu huw hw hq
      have := (cur_up (hok w (by omega) hw) (hok u hu (by omega)) (set_down m huw) (g := d.g) (p := d.p) hd.2.1).lo
      unfold tooHigh at hq ⊢
      rw [decide_eq_true_eq] at hq ⊢; omega
    · intro u w hu huw hw hq
      have := (cur_up (hok w (by omega) hw) (hok u hu (by omega)) (set_down m huw) (g := d.g) (p := d.p) hd.2.1).hi
      unfold tooLow at hq ⊢
      rw [decide_eq_true_eq] at hq ⊢; omega
  · rw [if_neg h1]
    refine keptR_mem ?_ ?_ ⟨hxl, hxh⟩ f1 f2
    · intro u w hu huw hw hq
      have := (cur_up (hok u hu (by omega)) (hok w (by omega) hw) (set_up m k h1 huw) (g := d.g) (p := d.p) hd.2.1).hi
      unfold tooLow at hq ⊢
      rw [decide_eq_true_eq] at hq ⊢; omega
    · intro u w hu huw hw hq
      have := (cur_up (hok u hu (by omega)) (hok w (by omega) hw) (set_up m k h1 huw) (g := d.g) (p := d.p) hd.2.1).lo
      unfold tooHigh at hq ⊢
      rw [decide_eq_true_eq] at hq ⊢; omega
end Go.Proofs

namespace Go.Proofs
open Go Go.Sx Go.Fam
attribute [local irreducible] Run

theorem fullK (m : Lw) (d : Rd) (k : Nat) : Full (· < 5) [some (Lr m), some Lc, some (Rr d), some (Pc k), some (Wc 3)] :=
  ⟨by simp [go_sem], by simp [go_sem], by simp [go_sem], by simp [go_sem], wc_bel _ (by decide) (by decide) (by decide), trivial⟩

theorem Lr_eq (m : Lw) : Lr m = .cells false 10 [.agg [.int .i64 m.perv.lo, .int .i64 m.perv.hi, .int .i64 m.gain.lo, .int .i64 m.gain.hi, .int .i64 m.shift.lo, .int .i64 m.shift.hi, .int .i64 m.full.lo, .int .i64 m.full.hi, .int .i64 m.part.lo, .int .i64 m.part.hi]] := rfl
@[go_sem] theorem lr_ren (m : Lw) (f : Nat → Nat) : (Lr m).ren f = Lr m := Row.ren_same (by simp only [go_sem])
theorem wr1 : IntKind.i64.wrap 1 = 1 := by decide
theorem wr2 : IntKind.i64.wrap 2 = 2 := by decide
theorem wr3 : IntKind.i64.wrap 3 = 3 := by decide
theorem wr4 : IntKind.i64.wrap 4 = 4 := by decide
theorem wr5 : IntKind.i64.wrap 5 = 5 := by decide
set_option maxHeartbeats 4000000 in
theorem narrow_ok {m : Lw} (h : LwOK m) (d : Rd) (hd : d.ok) : Ans Tryd.prog n_curve_narrow [.ptr 0 0 0 1, d.v] [some (Lr m)] (.bool (narK [0, 1, 2, 3, 4] m d).1) [some (Lr (narK [0, 1, 2, 3, 4] m d).2)] := by
  obtain ⟨res, hres⟩ : ∃ x, narK [0, 1, 2, 3, 4] m d = x := ⟨_, rfl⟩
  rw [hres]
  refine spec_run e_curve_narrow fun G => ?_
  simp only [go_sem, Rd.v, Lr_eq]
  refine loop_body 800 k_curve_narrow_r14.eq_1 ?_
  obtain ⟨w0, c0⟩ := keep_ok (m := m) h 0 (by decide) (by decide) d hd
  have i0 := nar1_in (m := m) h 0 d
  have n0 : narK [0, 1, 2, 3, 4] m d = if (nar1 m 0 d).lo = 1 ∧ (nar1 m 0 d).hi = 0 then (false, m.set 0 (nar1 m 0 d)) else narK [1, 2, 3, 4] (m.set 0 (nar1 m 0 d)) d := rfl
  obtain ⟨r0, hr0⟩ : ∃ r, nar1 m 0 d = r := ⟨_, rfl⟩
  rw [hr0] at c0 i0 n0
  rw [n0] at hres
  simp only [go_sem]
  refine dS1 c0 0 [1, 2, 4, 6] (by decide) ⟨rfl, rfl, rfl, rfl, rfl, trivial⟩ rfl (by simp [go_sem, Rg.v, Bv]) (fullK _ d 0) (by simp only [go_sem, Rg.v]) (by simp [go_sem]) (by simp) (by simp) (by simp only [go_sem]) ?_
  rw [lr_ren]
  by_cases e0 : r0.lo = 1 ∧ r0.hi = 0
  · rw [if_pos e0] at hres
    subst hres
    simp only [go_sem, Lr_eq, Lw.set, Rg.v, e0.1, e0.2]
    exact ⟨_, rfl⟩
  rw [if_neg e0] at hres
  have b0 : (r0.lo == 1 && r0.hi == 0) = false := by
    rw [Bool.eq_false_iff]; simpa using e0
  have h := i0 e0
  simp only [go_sem, Lr_eq, Lw.set, Rg.v, b0, wr1]
  refine loop_body 800 k_curve_narrow_r14.eq_1 ?_
  obtain ⟨w1, c1⟩ := keep_gain (m := (m.set 0 r0)) h d hd
  have i1 := nar1_in (m := (m.set 0 r0)) h 1 d
  have n1 : narK [1, 2, 3, 4] (m.set 0 r0) d = if (nar1 (m.set 0 r0) 1 d).lo = 1 ∧ (nar1 (m.set 0 r0) 1 d).hi = 0 then (false, (m.set 0 r0).set 1 (nar1 (m.set 0 r0) 1 d)) else narK [2, 3, 4] ((m.set 0 r0).set 1 (nar1 (m.set 0 r0) 1 d)) d := rfl
  obtain ⟨r1, hr1⟩ : ∃ r, nar1 (m.set 0 r0) 1 d = r := ⟨_, rfl⟩
  rw [hr1] at c1 i1 n1
  rw [n1] at hres
  simp only [go_sem]
  refine dS1 c1 0 [1, 2, 7, 9] (by decide) ⟨rfl, rfl, rfl, rfl, rfl, trivial⟩ rfl (by simp [go_sem, Rg.v, Bv]) (fullK _ d 1) (by simp only [go_sem, Rg.v]) (by simp [go_sem]) (by simp) (by simp) (by simp only [go_sem]) ?_
  rw [lr_ren]
  by_cases e1 : r1.lo = 1 ∧ r1.hi = 0
  · rw [if_pos e1] at hres
    subst hres
    simp only [go_sem, Lr_eq, Lw.set, Rg.v, e1.1, e1.2]
    exact ⟨_, rfl⟩
  rw [if_neg e1] at hres
  have b1 : (r1.lo == 1 && r1.hi == 0) = false := by
    rw [Bool.eq_false_iff]; simpa using e1
  have h := i1 e1
  simp only [go_sem, Lr_eq, Lw.set, Rg.v, b1, wr2]
  refine loop_body 800 k_curve_narrow_r14.eq_1 ?_
  obtain ⟨w2, c2⟩ := keep_ok (m := ((m.set 0 r0).set 1 r1)) h 2 (by decide) (by decide) d hd
  have i2 := nar1_in (m := ((m.set 0 r0).set 1 r1)) h 2 d
  have n2 : narK [2, 3, 4] ((m.set 0 r0).set 1 r1) d = if (nar1 ((m.set 0 r0).set 1 r1) 2 d).lo = 1 ∧ (nar1 ((m.set 0 r0).set 1 r1) 2 d).hi = 0 then (false, ((m.set 0 r0).set 1 r1).set 2 (nar1 ((m.set 0 r0).set 1 r1) 2 d)) else narK [3, 4] (((m.set 0 r0).set 1 r1).set 2 (nar1 ((m.set 0 r0).set 1 r1) 2 d)) d := rfl
  obtain ⟨r2, hr2⟩ : ∃ r, nar1 ((m.set 0 r0).set 1 r1) 2 d = r := ⟨_, rfl⟩
  rw [hr2] at c2 i2 n2
  rw [n2] at hres
  simp only [go_sem]
  refine dS1 c2 0 [1, 2, 10, 12] (by decide) ⟨rfl, rfl, rfl, rfl, rfl, trivial⟩ rfl (by simp [go_sem, Rg.v, Bv]) (fullK _ d 2) (by simp only [go_sem, Rg.v]) (by simp [go_sem]) (by simp) (by simp) (by simp only [go_sem]) ?_
  rw [lr_ren]
  by_cases e2 : r2.lo = 1 ∧ r2.hi = 0
  · rw [if_pos e2] at hres
    subst hres
    simp only [go_sem, Lr_eq, Lw.set, Rg.v, e2.1, e2.2]
    exact ⟨_, rfl⟩
  rw [if_neg e2] at hres
  have b2 : (r2.lo == 1 && r2.hi == 0) = false := by
    rw [Bool.eq_false_iff]; simpa using e2
  have h := i2 e2
  simp only [go_sem, Lr_eq, Lw.set, Rg.v, b2, wr3]
  refine loop_body 800 k_curve_narrow_r14.eq_1 ?_
  obtain ⟨w3, c3⟩ := keep_ok (m := (((m.set 0 r0).set 1 r1).set 2 r2)) h 3 (by decide) (by decide) d hd
  have i3 := nar1_in (m := (((m.set 0 r0).set 1 r1).set 2 r2)) h 3 d
  have n3 : narK [3, 4] (((m.set 0 r0).set 1 r1).set 2 r2) d = if (nar1 (((m.set 0 r0).set 1 r1).set 2 r2) 3 d).lo = 1 ∧ (nar1 (((m.set 0 r0).set 1 r1).set 2 r2) 3 d).hi = 0 then (false, (((m.set 0 r0).set 1 r1).set 2 r2).set 3 (nar1 (((m.set 0 r0).set 1 r1).set 2 r2) 3 d)) else narK [4] ((((m.set 0 r0).set 1 r1).set 2 r2).set 3 (nar1 (((m.set 0 r0).set 1 r1).set 2 r2) 3 d)) d := rfl
  obtain ⟨r3, hr3⟩ : ∃ r, nar1 (((m.set 0 r0).set 1 r1).set 2 r2) 3 d = r := ⟨_, rfl⟩
  rw [hr3] at c3 i3 n3
  rw [n3] at hres
  simp only [go_sem]
  refine dS1 c3 0 [1, 2, 13, 15] (by decide) ⟨rfl, rfl, rfl, rfl, rfl, trivial⟩ rfl (by simp [go_sem, Rg.v, Bv]) (fullK _ d 3) (by simp only [go_sem, Rg.v]) (by simp [go_sem]) (by simp) (by simp) (by simp only [go_sem]) ?_
  rw [lr_ren]
  by_cases e3 : r3.lo = 1 ∧ r3.hi = 0
  · rw [if_pos e3] at hres
    subst hres
    simp only [go_sem, Lr_eq, Lw.set, Rg.v, e3.1, e3.2]
    exact ⟨_, rfl⟩
  rw [if_neg e3] at hres
  have b3 : (r3.lo == 1 && r3.hi == 0) = false := by
    rw [Bool.eq_false_iff]; simpa using e3
  have h := i3 e3
  simp only [go_sem, Lr_eq, Lw.set, Rg.v, b3, wr4]
  refine loop_body 800 k_curve_narrow_r14.eq_1 ?_
  obtain ⟨w4, c4⟩ := keep_ok (m := ((((m.set 0 r0).set 1 r1).set 2 r2).set 3 r3)) h 4 (by decide) (by decide) d hd
  have i4 := nar1_in (m := ((((m.set 0 r0).set 1 r1).set 2 r2).set 3 r3)) h 4 d
  have n4 : narK [4] ((((m.set 0 r0).set 1 r1).set 2 r2).set 3 r3) d = if (nar1 ((((m.set 0 r0).set 1 r1).set 2 r2).set 3 r3) 4 d).lo = 1 ∧ (nar1 ((((m.set 0 r0).set 1 r1).set 2 r2).set 3 r3) 4 d).hi = 0 then (false, ((((m.set 0 r0).set 1 r1).set 2 r2).set 3 r3).set 4 (nar1 ((((m.set 0 r0).set 1 r1).set 2 r2).set 3 r3) 4 d)) else narK [] (((((m.set 0 r0).set 1 r1).set 2 r2).set 3 r3).set 4 (nar1 ((((m.set 0 r0).set 1 r1).set 2 r2).set 3 r3) 4 d)) d := rfl
  obtain ⟨r4, hr4⟩ : ∃ r, nar1 ((((m.set 0 r0).set 1 r1).set 2 r2).set 3 r3) 4 d = r := ⟨_, rfl⟩
  rw [hr4] at c4 i4 n4
  rw [n4] at hres
  simp only [go_sem]
  refine dS1 c4 0 [1, 2, 16, 18] (by decide) ⟨rfl, rfl, rfl, rfl, rfl, trivial⟩ rfl (by simp [go_sem, Rg.v, Bv]) (fullK _ d 4) (by simp only [go_sem, Rg.v]) (by simp [go_sem]) (by simp) (by simp) (by simp only [go_sem]) ?_
  rw [lr_ren]
  by_cases e4 : r4.lo = 1 ∧ r4.hi = 0
  · rw [if_pos e4] at hres
    subst hres
    simp only [go_sem, Lr_eq, Lw.set, Rg.v, e4.1, e4.2]
    exact ⟨_, rfl⟩
  rw [if_neg e4] at hres
  have b4 : (r4.lo == 1 && r4.hi == 0) = false := by
    rw [Bool.eq_false_iff]; simpa using e4
  have h := i4 e4
  simp only [go_sem, Lr_eq, Lw.set, Rg.v, b4, wr5]
  refine loop_body 800 k_curve_narrow_r14.eq_1 ?_
  subst hres
  simp only [go_sem, narK, Lr_eq, Lw.set]
  exact ⟨_, rfl⟩
end Go.Proofs

namespace Go.Proofs
open Go Go.Sx Go.Fam
attribute [local irreducible] Run

def chkR : List (Rg × Int × Int) → Int
  | [] => 0
  | (r, a, b) :: t => if r.hi < r.lo then 11 else if r.lo < a ∨ b < r.hi then 2 else chkR t
theorem chkR_order {r : Rg} {a b : Int} {t : List (Rg × Int × Int)} (h : r.hi < r.lo) : chkR ((r, a, b) :: t) = 11 := by unfold chkR; rw [if_pos h]
theorem chkR_range {r : Rg} {a b : Int} {t : List (Rg × Int × Int)} (h : ¬ r.hi < r.lo) (h2 : r.lo < a ∨ b < r.hi) : chkR ((r, a, b) :: t) = 2 := by unfold chkR; rw [if_neg h, if_pos h2]
theorem chkR_next {r : Rg} {a b : Int} {t : List (Rg × Int × Int)} (h : ¬ r.hi < r.lo) (h1 : ¬ r.lo < a) (h2 : ¬ b < r.hi) : chkR ((r, a, b) :: t) = chkR t := by
  show (if r.hi < r.lo then 11 else if r.lo < a ∨ b < r.hi then 2 else chkR t) = chkR t
  rw [if_neg h, if_neg (by omega)]
theorem chkR_zero {r : Rg} {a b : Int} {t : List (Rg × Int × Int)} (h : chkR ((r, a, b) :: t) = 0) : (a ≤ r.lo ∧ r.lo ≤ r.hi ∧ r.hi ≤ b) ∧ chkR t = 0 := by
  have h : (if r.hi < r.lo then 11 else if r.lo < a ∨ b < r.hi then 2 else chkR t) = 0 := h
  by_cases h1 : r.hi < r.lo
  · rw [if_pos h1] at h; cases h
  · rw [if_neg h1] at h
    by_cases h2 : r.lo < a ∨ b < r.hi
    · rw [if_pos h2] at h; cases h
    · rw [if_neg h2] at h
      exact ⟨by omega, h⟩
def lawE (l : Lw) : Int := chkR [(l.perv, 0, 1000000), (l.gain, 1, 1000000), (l.shift, -1000000, 1000000), (l.full, 0, 1000000), (l.part, 0, 1000000)]
theorem lawE_ok {l : Lw} (h : lawE l = 0) : LwOK l := by
  obtain ⟨a0, h⟩ := chkR_zero h
  obtain ⟨a1, h⟩ := chkR_zero h
  obtain ⟨a2, h⟩ := chkR_zero h
  obtain ⟨a3, h⟩ := chkR_zero h
  obtain ⟨a4, h⟩ := chkR_zero h
  exact ⟨a0, a1, a2, a3, a4⟩
theorem lawE_of {l : Lw} (h : LwOK l) : lawE l = 0 := by
  obtain ⟨a0, a1, a2, a3, a4⟩ := h
  unfold lawE
  rw [chkR_next (by omega) (by omega) (by omega), chkR_next (by omega) (by omega) (by omega), chkR_next (by omega) (by omega) (by omega), chkR_next (by omega) (by omega) (by omega), chkR_next (by omega) (by omega) (by omega)]
  rfl

set_option maxRecDepth 20000 in
theorem checkLaw_raw (l : Lw) : Ans Tryd.prog n_curve_CheckLaw [l.v] [] (.int .i64 (lawE l)) [] := by
  obtain ⟨R, hR⟩ : ∃ R, lawE l = R := ⟨_, rfl⟩
  rw [hR]
  unfold lawE at hR
  have u1 : IntKind.i64.wrap 1 = 1 := rfl
  have u2 : IntKind.i64.wrap 2 = 2 := rfl
  have u3 : IntKind.i64.wrap 3 = 3 := rfl
  have u4 : IntKind.i64.wrap 4 = 4 := rfl
  have u5 : IntKind.i64.wrap 5 = 5 := rfl
  refine spec_run e_curve_CheckLaw fun G => ?_
  simp only [go_sem, Lw.v, Lw.cs]
  refine loop_body 200 k_curve_CheckLaw_r10.eq_1 ?_
  by_cases o0 : l.perv.hi < l.perv.lo
  · rw [chkR_order o0] at hR; subst hR
    simp only [go_sem, o0]
  by_cases p0 : l.perv.lo < 0
  · rw [chkR_range o0 (.inl p0)] at hR; subst hR
    simp only [go_sem, o0, p0]
  by_cases q0 : 1000000 < l.perv.hi
  · rw [chkR_range o0 (.inr q0)] at hR; subst hR
    simp only [go_sem, o0, p0, q0]
  rw [chkR_next o0 p0 q0] at hR
  simp only [go_sem, o0, p0, q0, u1]
  refine loop_body 200 k_curve_CheckLaw_r10.eq_1 ?_
  by_cases o1 : l.gain.hi < l.gain.lo
  · rw [chkR_order o1] at hR; subst hR
    simp only [go_sem, o1]
  by_cases p1 : l.gain.lo < 1
  · rw [chkR_range o1 (.inl p1)] at hR; subst hR
    simp only [go_sem, o1, p1]
  by_cases q1 : 1000000 < l.gain.hi
  · rw [chkR_range o1 (.inr q1)] at hR; subst hR
    simp only [go_sem, o1, p1, q1]
  rw [chkR_next o1 p1 q1] at hR
  simp only [go_sem, o1, p1, q1, u2]
  refine loop_body 200 k_curve_CheckLaw_r10.eq_1 ?_
  by_cases o2 : l.shift.hi < l.shift.lo
  · rw [chkR_order o2] at hR; subst hR
    simp only [go_sem, o2]
  by_cases p2 : l.shift.lo < -1000000
  · rw [chkR_range o2 (.inl p2)] at hR; subst hR
    simp only [go_sem, o2, p2]
  by_cases q2 : 1000000 < l.shift.hi
  · rw [chkR_range o2 (.inr q2)] at hR; subst hR
    simp only [go_sem, o2, p2, q2]
  rw [chkR_next o2 p2 q2] at hR
  simp only [go_sem, o2, p2, q2, u3]
  refine loop_body 200 k_curve_CheckLaw_r10.eq_1 ?_
  by_cases o3 : l.full.hi < l.full.lo
  · rw [chkR_order o3] at hR; subst hR
    simp only [go_sem, o3]
  by_cases p3 : l.full.lo < 0
  · rw [chkR_range o3 (.inl p3)] at hR; subst hR
    simp only [go_sem, o3, p3]
  by_cases q3 : 1000000 < l.full.hi
  · rw [chkR_range o3 (.inr q3)] at hR; subst hR
    simp only [go_sem, o3, p3, q3]
  rw [chkR_next o3 p3 q3] at hR
  simp only [go_sem, o3, p3, q3, u4]
  refine loop_body 200 k_curve_CheckLaw_r10.eq_1 ?_
  by_cases o4 : l.part.hi < l.part.lo
  · rw [chkR_order o4] at hR; subst hR
    simp only [go_sem, o4]
  by_cases p4 : l.part.lo < 0
  · rw [chkR_range o4 (.inl p4)] at hR; subst hR
    simp only [go_sem, o4, p4]
  by_cases q4 : 1000000 < l.part.hi
  · rw [chkR_range o4 (.inr q4)] at hR; subst hR
    simp only [go_sem, o4, p4, q4]
  rw [chkR_next o4 p4 q4] at hR
  simp only [go_sem, o4, p4, q4, u5]
  refine loop_body 200 k_curve_CheckLaw_r10.eq_1 ?_
  subst hR
  simp only [go_sem, chkR]

end Go.Proofs

namespace Go.Proofs
open Go Go.Sx Go.Fam
attribute [local irreducible] Run

theorem loop_drop {P : Program} {G : Ctx} {k : Nat} {ρ ρ' : List AVal} {A Y : Heap} {rd : Option Nat} {c : ACode} {fs : List Sx.Frame} {Q : Goal} (hk : k ≤ A.length) (hA : ∀ (i : Nat) (x : Row), A[i]? = some (some x) → x.ren (fun i => i) = x ∧ x.bel (· < A.length)) (hρ : WkR (fun i => i) ρ ρ') (hb : Bels (· < A.length) ρ')
    (h : Sx.Loop P G k rd c fs ⟨ρ', A, []⟩ Q) : Sx.Loop P G k rd c fs ⟨ρ, A ++ Y, []⟩ Q :=
  loop_gc (fun i => i) (fun _ _ => rfl) hk (fun _ _ _ _ e => e) hρ hb (fun i x hx => ⟨by rw [(hA i x hx).1, List.getElem?_append_left (List.getElem?_eq_some_iff.1 hx).1]; exact hx, (hA i x hx).2⟩) h

instance (d : Rd) : Decidable d.ok := by unfold Rd.ok; infer_instance
def rdE1 (d : Rd) : Int := if d.ok then (if d.hi < d.lo then 11 else 0) else 2
def rdsE : List Rd → Int
  | [] => 0
  | d :: t => if rdE1 d = 0 then rdsE t else rdE1 d
def readsE (rs : List Rd) : Int := if 60 < rs.length then 8 else rdsE rs
def Rds (rs : List Rd) : AVal := .view (rs.map Rd.v)

theorem wk_refl : ∀ ρ : List AVal, Wk ρ ρ
  | [] => trivial
  | _ :: ρ => ⟨.inr rfl, wk_refl ρ⟩
@[go_sem] theorem rdv_ren (f : Nat → Nat) (d : Rd) : ren f d.v = d.v := ren_same (by unfold Rd.v; simp only [go_sem])
@[go_sem] theorem rdv_bel (S : Nat → Prop) (d : Rd) : Bel S d.v = True := by unfold Rd.v; simp only [go_sem]
theorem rds_ren (f : Nat → Nat) (rs : List Rd) : ren f (Rds rs) = Rds rs := ren_same (by unfold Rds; rw [bel_view]; exact bels_map _ _ fun d => by rw [rdv_bel]; trivial)
@[go_sem] theorem rdl_rens (f : Nat → Nat) (rs : List Rd) : rens f (rs.map Rd.v) = rs.map Rd.v := by have := rds_ren f rs; simpa [Rds, ren] using this
@[go_sem] theorem rdl_bels (S : Nat → Prop) (rs : List Rd) : Bels S (rs.map Rd.v) = True := eq_true (bels_map _ _ fun d => by rw [rdv_bel]; trivial)
theorem rds_get {rs : List Rd} {i : Nat} (h : i < rs.length) : (rs.map Rd.v)[i]? = some (rs[i]).v := by simp [h]
theorem rds_drop {rs : List Rd} {i : Nat} (h : i < rs.length) : rs.drop i = rs[i] :: rs.drop (i + 1) := List.drop_eq_getElem_cons h

theorem checkReads_ok (rs : List Rd) (hl : rs.length ≤ 9223372036854775807) : Ans Tryd.prog n_curve_checkReads [Rds rs] [] (.int .i64 (readsE rs)) [] := by
  refine spec_run e_curve_checkReads fun G => ?_
  by_cases h60 : 60 < rs.length
  · have h2 : (rs.length : Int) > 60 := by omega
    unfold readsE; rw [if_pos h60]
    simp only [go_sem, Rds, List.length_map, h2]
  have h2 : ¬ (rs.length : Int) > 60 := by omega
  unfold readsE; rw [if_neg h60]
  obtain ⟨out, hout⟩ : ∃ out, rdsE rs = out := ⟨_, rfl⟩
  rw [hout]
  simp only [go_sem, Rds, List.length_map, h2]
  refine loop_ind k_curve_checkReads_r11.eq_1 (fun i : Nat => i ≤ rs.length ∧ rdsE (rs.drop i) = out) (fun i => rs.length - i)
    (fun i => (tsets 32 [(2, .int .i64 0), (8, .view (rs.map Rd.v)), (9, .int .i64 rs.length), (10, .int .i64 i)], [])) 0 ⟨Nat.zero_le _, hout⟩ (by simp [go_sem]) rfl ?_
  rintro i ⟨hi, hE⟩ ih
  dsimp only at hi hE ih ⊢
  by_cases h1 : i < rs.length
  · have g1 : (i : Int) < rs.length := by omega
    have n0 : ¬ (i : Int) < 0 := by omega
    have h3 : IntKind.i64.wrap ((i : Int) + 1) = ((i + 1 : Nat) : Int) := by rw [w64 (by omega)]; rfl
    have hx := rds_get h1
    rw [rds_drop h1] at hE
    obtain ⟨d, hd⟩ : ∃ d, rs[i] = d := ⟨_, rfl⟩
    rw [hd] at hx hE
    simp only [rdsE] at hE
    have kg := rightGrid_ok d.g
    have kp := rightPlate_ok d.p
    simp only [go_sem, g1, n0, hx, Rd.v, Int.toNat_natCast]
    refine cP kg ?_
    by_cases c1 : -1000000 ≤ d.g ∧ d.g ≤ 1000000
    · simp only [go_sem, c1]
      refine cP kp ?_
      by_cases c2 : 0 ≤ d.p ∧ d.p ≤ 1000000
      · have ok : d.ok := ⟨c1, c2⟩
        by_cases c3 : d.hi < d.lo
        · have e : rdE1 d = 11 := by unfold rdE1; rw [if_pos ok, if_pos c3]
          rw [e, if_neg (by decide)] at hE
          have c3' : d.lo > d.hi := c3
          simp only [go_sem, c2, c3']
          exact hE
        · have e : rdE1 d = 0 := by unfold rdE1; rw [if_pos ok, if_neg c3]
          rw [e, if_pos rfl] at hE
          have c3' : ¬ d.lo > d.hi := c3
          simp only [go_sem, c2, c3', h3]
          refine loop_drop (A := []) (Y := [_]) (by simp) (fun i x hx => by simp at hx) ?_ ?_ (ih (i + 1) (by omega) ⟨h1, hE⟩ _ (wk_refl _))
          · simp [go_sem, ren]
          · simp [go_sem]
      · have e : rdE1 d = 2 := by unfold rdE1; rw [if_neg fun h => c2 h.2]
        rw [e, if_neg (by decide)] at hE
        have c2' : (decide (0 ≤ d.p) && decide (d.p ≤ 1000000)) = false := by rw [Bool.eq_false_iff]; simpa using c2
        simp only [go_sem, c2']
        exact hE
    · have e : rdE1 d = 2 := by unfold rdE1; rw [if_neg fun h => c1 h.1]
      rw [e, if_neg (by decide)] at hE
      have c1' : (decide (-1000000 ≤ d.g) && decide (d.g ≤ 1000000)) = false := by rw [Bool.eq_false_iff]; simpa using c1
      simp only [go_sem, c1']
      exact hE
  · have g1 : ¬ (i : Int) < rs.length := by omega
    have : rs.drop i = [] := List.drop_eq_nil_of_le (by omega)
    rw [this] at hE
    simp only [go_sem, g1]
    rw [← hE]; rfl

def zlw : Lw := ⟨⟨0, 0⟩, ⟨0, 0⟩, ⟨0, 0⟩, ⟨0, 0⟩, ⟨0, 0⟩⟩
def narL : List Rd → Lw → Bool × Lw
  | [], m => (true, m)
  | d :: t, m => if (narK [0, 1, 2, 3, 4] m d).1 = true then narL t (narK [0, 1, 2, 3, 4] m d).2 else (false, m)
def narV (l : Lw) (rs : List Rd) : AVal :=
  if lawE l = 0 then (if readsE rs = 0 then (if (narL rs l).1 = true then .tup [(narL rs l).2.v, .int .i64 0] else .tup [zlw.v, .int .i64 12]) else .tup [zlw.v, .int .i64 (readsE rs)]) else .tup [zlw.v, .int .i64 (lawE l)]

theorem narK_in (d : Rd) : ∀ (ks : List Nat) {m : Lw}, LwOK m → (narK ks m d).1 = true → LwOK (narK ks m d).2
  | [], _, h, _ => h
  | k :: ks, m, h, hn => by
    unfold narK at hn ⊢
    split
    · rename_i hz; rw [if_pos hz] at hn; cases hn
    · rename_i hz
      rw [if_neg hz] at hn
      exact narK_in d ks (nar1_in h k d hz) hn

theorem rdE1_ok {d : Rd} (h : rdE1 d = 0) : d.ok ∧ d.lo ≤ d.hi := by
  unfold rdE1 at h
  split at h
  · rename_i hd
    split at h
    · cases h
    · exact ⟨hd, by omega⟩
  · cases h
theorem rdsE_ok : ∀ {rs : List Rd}, rdsE rs = 0 → ∀ d ∈ rs, d.ok ∧ d.lo ≤ d.hi
  | [], _, d, hd => by cases hd
  | x :: t, h, d, hd => by
    unfold rdsE at h
    split at h
    · rename_i hx
      rcases List.mem_cons.1 hd with rfl | hd
      · exact rdE1_ok hx
      · exact rdsE_ok h d hd
    · rename_i hx; exact absurd h hx

def Zr : Row := .cells false 10 [.agg [.int .i64 0, .int .i64 0, .int .i64 0, .int .i64 0, .int .i64 0, .int .i64 0, .int .i64 0, .int .i64 0, .int .i64 0, .int .i64 0]]
@[go_sem] theorem zr_bel (S : Nat → Prop) : Zr.bel S = True := by unfold Zr; rw [row_bel_cells]; simp only [go_sem]
theorem nar_rows (m : Lw) : ∀ (i : Nat) (x : Row), ([some (Lr m), some Zr] : Heap)[i]? = some (some x) → x.ren (fun i => i) = x ∧ x.bel (· < ([some (Lr m), some Zr] : Heap).length) := by
  intro i x hx
  match i with
  | 0 => cases hx; exact ⟨Row.ren_same (by simp only [go_sem]), by simp only [go_sem]⟩
  | 1 => cases hx; exact ⟨Row.ren_same (by simp only [go_sem]), by simp only [go_sem]⟩
  | i + 2 => simp at hx

set_option maxHeartbeats 1000000 in
theorem Narrow_ok (l : Lw) (rs : List Rd) (hl : rs.length ≤ 9223372036854775807) : Ans Tryd.prog n_curve_Narrow [l.v, Rds rs] [] (narV l rs) [] := by
  have kl := checkLaw_raw l
  have kr := checkReads_ok rs hl
  unfold narV
  refine spec_run e_curve_Narrow fun G => ?_
  simp only [Lw.v, Lw.cs, Rds] at kl kr ⊢
  simp only [go_sem]
  refine cP kl ?_
  by_cases c1 : lawE l = 0
  · rw [if_pos c1]
    simp only [go_sem, c1]
    refine cP kr ?_ (by simp only [go_sem])
    by_cases c2 : readsE rs = 0
    · rw [if_pos c2]
      obtain ⟨out, hout⟩ : ∃ out, narL rs l = out := ⟨_, rfl⟩
      rw [hout]
      simp only [go_sem, c2, List.length_map]
      have hv : ∀ d ∈ rs, d.ok ∧ d.lo ≤ d.hi := by
        unfold readsE at c2
        split at c2
        · cases c2
        · exact rdsE_ok c2
      have h0 := lawE_ok c1
      refine loop_ind k_curve_Narrow_r13.eq_1 (fun a : Nat × Lw => a.1 ≤ rs.length ∧ LwOK a.2 ∧ narL (rs.drop a.1) a.2 = out) (fun a => rs.length - a.1)
        (fun a => (tsets 34 [(2, .ptr 0 0 0 1), (4, .ptr 1 0 0 1), (5, .int .i64 0), (22, .view (rs.map Rd.v)), (23, .int .i64 rs.length), (24, .int .i64 a.1)], [some (Lr a.2), some Zr])) (0, l) ⟨Nat.zero_le _, h0, hout⟩ (by simp [go_sem]) rfl ?_
      rintro ⟨i, m⟩ ⟨hi, hm, hE⟩ ih
      dsimp only at hi hm hE ih ⊢
      by_cases h1 : i < rs.length
      · have g1 : (i : Int) < rs.length := by omega
        have n0 : ¬ (i : Int) < 0 := by omega
        have h3 : IntKind.i64.wrap ((i : Int) + 1) = ((i + 1 : Nat) : Int) := by rw [w64 (by omega)]; rfl
        have hx := rds_get h1
        rw [rds_drop h1] at hE
        have hd := hv _ (List.getElem_mem h1)
        obtain ⟨d, hde⟩ : ∃ d, rs[i] = d := ⟨_, rfl⟩
        rw [hde] at hx hE hd
        simp only [narL] at hE
        have kn := narrow_ok hm d hd.1
        have hin := narK_in d [0, 1, 2, 3, 4] hm
        generalize narK [0, 1, 2, 3, 4] m d = R at *
        simp only [Rd.v] at kn hx
        simp only [go_sem, g1, n0, hx, Int.toNat_natCast]
        refine cD kn ?_
        by_cases hR : R.1 = true
        · rw [if_pos hR] at hE
          simp only [go_sem, hR, h3]
          refine loop_drop (A := [some (Lr R.2), some Zr]) (Y := [_]) (by simp) (nar_rows _) ?_ ?_ (ih (i + 1, R.2) (by dsimp only; omega) ⟨h1, hin hR, hE⟩ _ (wk_refl _))
          · simp [go_sem, ren]
          · simp [go_sem]
        · rw [if_neg hR] at hE
          subst hE
          simp only [go_sem, hR, Zr, zlw]
      · have g1 : ¬ (i : Int) < rs.length := by omega
        have : rs.drop i = [] := List.drop_eq_nil_of_le (by omega)
        rw [this] at hE
        subst hE
        simp only [go_sem, g1, Lr_eq, Zr]
        rfl
    · rw [if_neg c2]
      generalize readsE rs = e at *
      simp only [go_sem, c2, zlw]
  · rw [if_neg c1]
    generalize lawE l = e at *
    simp only [go_sem, c1, zlw]
end Go.Proofs

namespace Go.Proofs
open Go Go.Sx Go.Fam
attribute [local irreducible] Run

theorem rCurrent_ok (l : Lw) (h : LwOK l) (g p : Int) (h1 : -1000000 ≤ g ∧ g ≤ 1000000) (h2 : 0 ≤ p ∧ p ≤ 1000000) : Ans Tryd.prog n_ref02_Current [l.v, .int .i64 g, .int .i64 p] [] (.tup [(curOf l g p).v, .int .i64 0]) [] := by
  have k1 := rCheckLaw_ok l h
  have k2 := rright_run g p
  have k3 := rcurrent_run l h g p h1 h2
  refine spec_run e_ref02_Current fun G => ?_
  simp only [Lw.v, Lw.cs] at k1 k3 ⊢
  simp only [go_sem]
  refine cP k1 ?_
  simp only [go_sem]
  refine cP k2 ?_
  simp only [go_sem, h1, h2]
  refine cP k3 ?_
  simp only [go_sem, Rg.v]

theorem cur_in {l : Lw} (h : LwOK l) (g p : Int) : 0 ≤ (curOf l g p).lo ∧ (curOf l g p).lo ≤ 1000000 := by
  have e0 : 0 ≤ (driveOf l g p).lo := (bnd_in _).1
  have lp := h.perv; have lq := h.part; have lf := h.full
  unfold curOf curLo
  dsimp only
  generalize driveOf l g p = d at *
  obtain ⟨r0, _, _⟩ := root_ok (cube_nonneg e0)
  have z1 : 0 ≤ spaceLo l d := Int.ediv_nonneg (Int.mul_nonneg lp.1 r0) (by decide)
  have y1 := mn_in z1 lf.1
  have hm := mul_in (a := l.part.lo) (A := 1000000) (b := mn (spaceLo l d) l.full.lo) (B := 1000000) (by omega) (by omega)
  refine ⟨Int.ediv_nonneg hm.1 (by decide), ?_⟩
  have := Int.ediv_le_ediv (c := 1000000) (by decide) hm.2
  simpa using this

def d4 (w : Int) : Int := dstep (dstep (dstep (dstep w)))
def rdOf (w : Int) (x : Lw) : Rd :=
  ⟨btw w (-6000) 3000, btw (dstep w) 0 300000, (curOf x (btw w (-6000) 3000) (btw (dstep w) 0 300000)).lo - upto (dstep (dstep w)) 20, (curOf x (btw w (-6000) 3000) (btw (dstep w) 0 300000)).lo + upto (dstep (dstep (dstep w))) 20⟩
def rdsGo (x : Lw) : Nat → Int → List Rd → List Rd × Int
  | 0, w, out => (out, w)
  | n + 1, w, out => rdsGo x n (d4 w) (out ++ [rdOf w x])
theorem rdOf_ok {x : Lw} (h : LwOK x) (w : Int) : (rdOf w x).ok ∧ (rdOf w x).lo ≤ (rdOf w x).hi ∧ agr x (rdOf w x) := by
  have h1 := btw_in (w := w) (lo := -6000) (hi := 3000) (by decide)
  have h2 := btw_in (w := dstep w) (lo := 0) (hi := 300000) (by decide)
  have h3 := upto_in (w := dstep (dstep w)) (n := 20) (by decide)
  have h4 := upto_in (w := dstep (dstep (dstep w))) (n := 20) (by decide)
  have h5 := cur_le h (d := driveOf x (btw w (-6000) 3000) (btw (dstep w) 0 300000)) (bnd_in _).1 (drive_le h h2.1)
  unfold agr rdOf Rd.ok
  dsimp only
  unfold curOf
  dsimp only
  refine ⟨⟨?_, ?_⟩, ?_, ?_, ?_⟩ <;> omega

def rdT : List (Nat × AVal) := [(0, .ptr 0 0 0 1), (3, .ptr 1 0 0 1), (4, .nilsl)]
def rdH (w : Int) (x : Lw) (out : List Rd) : Heap := if out = [] then [some (Dr w), some (Lr x)] else [some (Dr w), some (Lr x), some (.cells true 4 (out.map Rd.v))]
def rdV (j : Nat) (out : List Rd) : AVal := if out = [] then .nilsl else .sl j 0 out.length
@[go_sem] theorem rdrow_bel (g : Bool) (out : List Rd) (S : Nat → Prop) : (Row.cells g 4 (out.map Rd.v)).bel S = True := by rw [row_bel_cells, rdl_bels]
@[go_sem high] theorem rd_sized (out : List Rd) : sizedAll 4 (out.map Rd.v) = true := by
  unfold sizedAll
  rw [List.all_eq_true]
  intro v hv
  obtain ⟨d, _, rfl⟩ := List.mem_map.1 hv
  rfl

set_option maxRecDepth 20000 in
theorem rd_back {P : Program} {G : Ctx} {rd : Option Nat} {c : ACode} {fs : List Sx.Frame} {Q : Goal} {ρ : List AVal} {H : Heap} {w : Int} {x : Lw} {out : List Rd} {j m : Nat} (hW : Wk ρ (tsets 47 (rdT ++ [(5, .sl j 0 out.length), (6, .int .i64 m)])))
    (h0 : H[0]? = some (some (Dr w))) (h1 : H[1]? = some (some (Lr x))) (hj : H[j]? = some (some (.cells true 4 (out.map Rd.v)))) (hj1 : 2 ≤ j) (hne : out ≠ []) (h : Sx.Loop P G 1 rd c fs ⟨tsets 47 (rdT ++ [(5, rdV 2 out), (6, .int .i64 m)]), rdH w x out, []⟩ Q) : Sx.Loop P G 1 rd c fs ⟨ρ, H, []⟩ Q := by
  unfold rdV rdH at h
  rw [if_neg hne, if_neg hne] at h
  refine loop_wk hW (loop_gc (ρ' := tsets 47 (rdT ++ [(5, .sl 2 0 out.length), (6, .int .i64 m)])) (H' := [some (Dr w), some (Lr x), some (.cells true 4 (out.map Rd.v))]) (fun i => if i = 0 then 0 else if i = 1 then 1 else j) (fun i hi => by simp [show i = 0 by omega]) (by simp) (fun i k hi hk e => ?_) ?_ ?_ (fun i x hx => ?_) h)
  · simp only [List.length_cons, List.length_nil] at hi hk
    by_cases a : i = 0 <;> by_cases b : k = 0 <;> by_cases a1 : i = 1 <;> by_cases b1 : k = 1 <;> simp [a, b, a1, b1] at e <;> omega
  · simp [go_sem, rdT, ren]
  · simp [go_sem, rdT]
  · have hi := (List.getElem?_eq_some_iff.1 hx).1
    simp only [List.length_cons, List.length_nil] at hi
    obtain rfl | rfl | rfl : i = 0 ∨ i = 1 ∨ i = 2 := by omega
    · simp only [List.getElem?_cons_zero, Option.some.injEq] at hx
      subst hx
      exact ⟨by rw [Row.ren_same (dr_bel _ _)]; exact h0, dr_bel _ _⟩
    · simp only [List.getElem?_cons_succ, List.getElem?_cons_zero, Option.some.injEq] at hx
      subst hx
      exact ⟨by rw [Row.ren_same (by simp only [go_sem])]; exact h1, by simp only [go_sem]⟩
    · simp only [List.getElem?_cons_succ, List.getElem?_cons_zero, Option.some.injEq] at hx
      subst hx
      exact ⟨by rw [Row.ren_same (by simp only [go_sem])]; exact hj, by simp only [go_sem]⟩

def rdsN (w : Int) : Nat := (upto w 5).toNat
theorem nat_of {a : Int} (h : 0 ≤ a ∧ a < 5) : a.toNat ≤ 4 ∧ a = (a.toNat : Int) := by omega
theorem rdsN_in (w : Int) : rdsN w ≤ 4 ∧ upto w 5 = (rdsN w : Int) := nat_of (upto_in (w := w) (n := 5) (by decide))
theorem rdOf_eq {w : Int} {x : Lw} {g p a b : Int} (h1 : btw w (-6000) 3000 = g) (h2 : btw (dstep w) 0 300000 = p) (h3 : upto (dstep (dstep w)) 20 = a) (h4 : upto (dstep (dstep (dstep w))) 20 = b) :
    rdOf w x = ⟨g, p, (curOf x g p).lo - a, (curOf x g p).lo + b⟩ := by subst h1 h2 h3 h4; rfl
structure RdD (w g p a b : Int) : Prop where
  hg : btw w (-6000) 3000 = g
  hp : btw (dstep w) 0 300000 = p
  ha : upto (dstep (dstep w)) 20 = a
  hb : upto (dstep (dstep (dstep w))) 20 = b
  ig : -6000 ≤ g ∧ g ≤ 3000
  ip : 0 ≤ p ∧ p ≤ 300000
  ia : 0 ≤ a ∧ a < 20
  ib : 0 ≤ b ∧ b < 20
theorem rdD (w : Int) : ∃ g p a b, RdD w g p a b := ⟨_, _, _, _, rfl, rfl, rfl, rfl, btw_in (by decide), btw_in (by decide), upto_in (by decide), upto_in (by decide)⟩
structure RdK (w g p a b : Int) : Prop where
  kg : Ans Tryd.prog n_kit_Dice_Between [.ptr 0 0 0 1, .int .i64 (-6000), .int .i64 3000] [some (Dr w)] (.int .i64 g) [some (Dr (dstep w))]
  kp : Ans Tryd.prog n_kit_Dice_Between [.ptr 0 0 0 1, .int .i64 0, .int .i64 300000] [some (Dr (dstep w))] (.int .i64 p) [some (Dr (dstep (dstep w)))]
  ka : Ans Tryd.prog n_kit_Dice_Upto [.ptr 0 0 0 1, .int .i64 20] [some (Dr (dstep (dstep w)))] (.int .i64 a) [some (Dr (dstep (dstep (dstep w))))]
  kb : Ans Tryd.prog n_kit_Dice_Upto [.ptr 0 0 0 1, .int .i64 20] [some (Dr (dstep (dstep (dstep w))))] (.int .i64 b) [some (Dr (d4 w))]
theorem RdD.k {w g p a b : Int} (h : RdD w g p a b) : RdK w g p a b := by
  have kg := between_ok w (-6000) 3000 (by omega) (by omega) (by omega)
  have kp := between_ok (dstep w) 0 300000 (by omega) (by omega) (by omega)
  have ka := upto_ok (dstep (dstep w)) 20 (by omega)
  have kb := upto_ok (dstep (dstep (dstep w))) 20 (by omega)
  rw [h.hg] at kg; rw [h.hp] at kp; rw [h.ha] at ka; rw [h.hb] at kb
  exact ⟨kg, kp, ka, kb⟩

set_option maxHeartbeats 2000000 in
set_option maxRecDepth 20000 in
theorem ReadsOf_gen (w : Int) {x : Lw} (hx : LwOK x) (n : Nat) (hn5 : n ≤ 4) (hnu : upto w 5 = (n : Int)) (R : List Rd × Int) (hR : rdsGo x n (dstep w) [] = R) : Ans Tryd.prog n_kit_ReadsOf [.ptr 0 0 0 1, x.v] [some (Dr w)] (slv 1 (R.1.map Rd.v)) (some (Dr R.2) :: slrG true 4 (R.1.map Rd.v)) := by
  have k1 := upto_ok w 5 (by decide)
  rw [hnu] at k1
  refine Ans.keep (run_fn e_kit_ReadsOf fun G => ?_) (by simp) (by unfold slv slrG; split <;> simp [go_sem]) (by unfold slrG; split <;> simp [go_sem, Full]) 
  simp only [go_sem, Lw.v, Lw.cs]
  refine cD k1 ?_
  simp only [go_sem]
  refine loop_ind k_kit_ReadsOf_r9.eq_1 (fun a : Nat × Int × List Rd => rdsGo x a.1 a.2.1 a.2.2 = R ∧ a.2.2.length + a.1 ≤ 4) (fun a => a.1)
    (fun a => (tsets 47 (rdT ++ [(5, rdV 2 a.2.2), (6, .int .i64 a.1)]), rdH a.2.1 x a.2.2)) (n, dstep w, []) ⟨hR, by simp only [List.length_nil]; omega⟩ (by simp [go_sem, rdT, rdV]) (by simp [rdH, List.set, Lr, Lw.v, Lw.cs]) ?_
  rintro ⟨m, w, out⟩ ⟨hG, hl⟩ ih
  dsimp only at hG hl ih ⊢
  cases m with
  | zero =>
    have e0 : ¬ ((0 : Nat) : Int) > 0 := by omega
    simp only [rdsGo] at hG
    subst hG
    by_cases hne : out = []
    · subst hne
      simp only [go_sem, rdT, rdV, rdH, if_true, e0, slv, slrG, List.map_nil]
      exact ⟨fun i => i, fun i _ => rfl, fun i j _ _ h => h, rfl, fun i y hy => by
        match i with
        | 0 =>
          simp only [List.getElem?_cons_zero, Option.some.injEq] at hy
          subst hy
          rw [Row.ren_same (dr_bel _ _)]; rfl
        | i + 1 => simp at hy⟩
    · have hne2 : out.map Rd.v ≠ [] := by simpa using hne
      simp only [go_sem, rdT, rdV, rdH, hne, if_false, e0, slv, slrG, hne2, List.length_map]
      exact kept_two 2 (by decide) rfl (dr_bel _ _) (by simp only [go_sem]) rfl rfl
  | succ m =>
    have e0 : ((m + 1 : Nat) : Int) > 0 := by omega
    have e1 : IntKind.i64.wrap (((m + 1 : Nat) : Int) - 1) = m := by rw [w64 (by omega)]; omega
    obtain ⟨g, p, a, b, hD⟩ := rdD w
    obtain ⟨kg, kp, ka, kb⟩ := hD.k
    have he := rdOf_eq (x := x) hD.hg hD.hp hD.ha hD.hb
    have ig := hD.ig; have ip := hD.ip; have ia := hD.ia; have ib := hD.ib
    clear hD
    simp only [rdsGo] at hG
    rw [he] at hG
    clear he
    obtain ⟨w', hw'⟩ : ∃ w', d4 w = w' := ⟨_, rfl⟩
    rw [hw'] at hG kb
    obtain ⟨w1, hw1⟩ : ∃ w', dstep w = w' := ⟨_, rfl⟩
    rw [hw1] at kg kp ka kb
    obtain ⟨w2, hw2⟩ : ∃ w', dstep w1 = w' := ⟨_, rfl⟩
    rw [hw2] at kp ka kb
    obtain ⟨w3, hw3⟩ : ∃ w', dstep w2 = w' := ⟨_, rfl⟩
    rw [hw3] at ka kb
    clear hw' hw1 hw2 hw3
    have kc := rCurrent_ok x hx g p (by omega) (by omega)
    have hc := cur_in hx g p
    simp only [Lw.v, Lw.cs] at kc
    obtain ⟨c1, hc1⟩ : ∃ c, (curOf x g p).lo = c := ⟨_, rfl⟩
    simp only [Rg.v, hc1] at kc hc hG
    obtain ⟨c2, hc2⟩ : ∃ c, (curOf x g p).hi = c := ⟨_, rfl⟩
    rw [hc2] at kc
    have u1 : IntKind.i64.wrap (c1 - a) = c1 - a := w64 (by omega)
    have u2 : IntKind.i64.wrap (c1 + b) = c1 + b := w64 (by omega)
    by_cases hne : out = []
    · subst hne
      simp only [go_sem, rdT, rdV, rdH, if_true, e0]
      refine cD kg ?_
      simp only [go_sem]
      refine cD kp ?_
      simp only [go_sem, Lr_eq]
      refine cP kc ?_
      simp only [go_sem]
      refine dD ka ?_
      simp only [go_sem, u1]
      refine dD kb ?_
      simp only [go_sem, u2, e1]
      refine ⟨by decide, rd_back (x := x) (m := m) (j := 5) (out := [⟨g, p, c1 - a, c1 + b⟩]) (w := w') (by simp [go_sem, rdT]) rfl rfl rfl (by omega) (by simp) ?_⟩
      exact ih (m, w', [⟨g, p, c1 - a, c1 + b⟩]) (Nat.lt_succ_self _) ⟨hG, by simp only [List.length_singleton]; simp at hl; omega⟩ _ (wk_refl _)
    · have hlen : (32 : Nat) * out.length ≤ 128 := by omega
      have bb : (out.length + 1) * 32 ≤ 2 ^ 44 := by omega
      simp only [go_sem, rdT, rdV, rdH, hne, if_false, e0]
      refine cD kg ?_
      simp only [go_sem]
      refine cD kp ?_
      simp only [go_sem, Lr_eq]
      refine cP kc ?_
      simp only [go_sem]
      refine dD ka ?_
      simp only [go_sem, u1]
      refine dD kb ?_
      simp only [go_sem, u2, e1, List.length_map, bb]
      have hl1 : (out ++ [(⟨g, p, c1 - a, c1 + b⟩ : Rd)]).length = out.length + 1 := by simp
      refine rd_back (x := x) (m := m) (j := 2) (out := out ++ [⟨g, p, c1 - a, c1 + b⟩]) (w := w') (by simp [go_sem, rdT, hl1]) rfl rfl (by rw [List.map_append]; rfl) (by omega) (by simp) ?_
      exact ih (m, w', out ++ [⟨g, p, c1 - a, c1 + b⟩]) (Nat.lt_succ_self _) ⟨hG, by rw [hl1]; omega⟩ _ (wk_refl _)

theorem rdsGo_mem {x : Lw} (hx : LwOK x) : ∀ (n : Nat) (w : Int) (out : List Rd), (∀ d ∈ out, d.ok ∧ d.lo ≤ d.hi ∧ agr x d) → ∀ d ∈ (rdsGo x n w out).1, d.ok ∧ d.lo ≤ d.hi ∧ agr x d
  | 0, _, _, h => h
  | n + 1, w, out, h => by
    unfold rdsGo
    refine rdsGo_mem hx n (d4 w) _ fun d hd => ?_
    rcases List.mem_append.1 hd with hd | hd
    · exact h d hd
    · rw [List.mem_singleton.1 hd]; exact rdOf_ok hx w
theorem rdsGo_len {x : Lw} : ∀ (n : Nat) (w : Int) (out : List Rd), (rdsGo x n w out).1.length = out.length + n
  | 0, _, _ => rfl
  | n + 1, w, out => by
    unfold rdsGo
    rw [rdsGo_len n (d4 w)]
    simp; omega
theorem ReadsOf_ok (w : Int) {x : Lw} (hx : LwOK x) : ∃ (rs : List Rd) (w' : Int), rs.length ≤ 4 ∧ (∀ d ∈ rs, d.ok ∧ d.lo ≤ d.hi ∧ agr x d) ∧
    Ans Tryd.prog n_kit_ReadsOf [.ptr 0 0 0 1, x.v] [some (Dr w)] (slv 1 (rs.map Rd.v)) (some (Dr w') :: slrG true 4 (rs.map Rd.v)) := by
  obtain ⟨h1, h2⟩ := rdsN_in w
  generalize rdsN w = n at h1 h2
  exact ⟨(rdsGo x n (dstep w) []).1, (rdsGo x n (dstep w) []).2, by rw [rdsGo_len]; simpa using h1, rdsGo_mem hx n _ [] (fun d hd => by cases hd), ReadsOf_gen w hx n h1 h2 _ rfl⟩
end Go.Proofs

namespace Go.Proofs
open Go Go.Sx Go.Fam

theorem SubR.refl (r : Rg) : SubR r r := ⟨Int.le_refl _, Int.le_refl _⟩
theorem SubL.refl (l : Lw) : SubL l l := ⟨.refl _, .refl _, .refl _, .refl _, .refl _⟩
theorem SubR.trans {a b c : Rg} (h : SubR a b) (k : SubR b c) : SubR a c := ⟨Int.le_trans k.lo h.lo, Int.le_trans h.hi k.hi⟩
theorem SubL.trans {a b c : Lw} (h : SubL a b) (k : SubL b c) : SubL a c := ⟨h.perv.trans k.perv, h.gain.trans k.gain, h.shift.trans k.shift, h.full.trans k.full, h.part.trans k.part⟩
theorem SubL.shrink (m : Lw) (k : Nat) {r : Rg} (h : SubR r (m.get k)) : SubL (m.set k r) m := by
  match k with
  | 0 => exact ⟨h, .refl _, .refl _, .refl _, .refl _⟩
  | 1 => exact ⟨.refl _, h, .refl _, .refl _, .refl _⟩
  | 2 => exact ⟨.refl _, .refl _, h, .refl _, .refl _⟩
  | 3 => exact ⟨.refl _, .refl _, .refl _, h, .refl _⟩
  | k + 4 => exact ⟨.refl _, .refl _, .refl _, .refl _, h⟩
theorem nar1_sub {m : Lw} (h : LwOK m) (k : Nat) (d : Rd) (hn : ¬ ((nar1 m k d).lo = 1 ∧ (nar1 m k d).hi = 0)) : SubR (nar1 m k d) (m.get k) := by
  have hg := (Lw.get_in h k).2.1
  have : nar1 m k d = ⟨1, 0⟩ ∨ ((m.get k).lo ≤ (nar1 m k d).lo ∧ (nar1 m k d).lo ≤ (nar1 m k d).hi ∧ (nar1 m k d).hi ≤ (m.get k).hi) := by
    unfold nar1
    split
    · exact keptR_in _ _ hg
    · exact keptR_in _ _ hg
  rcases this with e | ⟨h1, h2, h3⟩
  · rw [e] at hn; exact absurd ⟨rfl, rfl⟩ hn
  · exact ⟨h1, h3⟩

theorem narK_keeps {y : Lw} (hy : LwOK y) (he : Exact y) {d : Rd} (hd : d.ok) (ha : agr y d) : ∀ (ks : List Nat) {m : Lw}, LwOK m → SubL y m →
    (narK ks m d).1 = true ∧ LwOK (narK ks m d).2 ∧ SubL y (narK ks m d).2 ∧ SubL (narK ks m d).2 m
  | [], m, hm, hs => ⟨rfl, hm, hs, .refl m⟩
  | k :: ks, m, hm, hs => by
    have h1 := nar1_keeps hm hy he hs hd ha k
    have h0 := he k
    have hn : ¬ ((nar1 m k d).lo = 1 ∧ (nar1 m k d).hi = 0) := by omega
    have h2 := nar1_in hm k d hn
    obtain ⟨a, b, c, e⟩ := narK_keeps hy he hd ha ks h2 (hs.set k ⟨h1.1, h1.2⟩)
    unfold narK
    rw [if_neg hn]
    exact ⟨a, b, c, e.trans (SubL.shrink m k (nar1_sub hm k d hn))⟩

theorem narL_keeps {y : Lw} (hy : LwOK y) (he : Exact y) : ∀ (rs : List Rd) {m : Lw}, LwOK m → SubL y m → (∀ d ∈ rs, d.ok ∧ agr y d) →
    (narL rs m).1 = true ∧ LwOK (narL rs m).2 ∧ SubL y (narL rs m).2 ∧ SubL (narL rs m).2 m
  | [], m, hm, hs, _ => ⟨rfl, hm, hs, .refl m⟩
  | d :: t, m, hm, hs, hr => by
    obtain ⟨hd, ha⟩ := hr d (List.mem_cons_self ..)
    obtain ⟨a, b, c, e⟩ := narK_keeps hy he hd ha [0, 1, 2, 3, 4] hm hs
    obtain ⟨a', b', c', e'⟩ := narL_keeps hy he t b c fun x hx => hr x (List.mem_cons_of_mem _ hx)
    unfold narL
    rw [if_pos a]
    exact ⟨a', b', c', e'.trans e⟩

theorem inLaw_exact (w : Int) (l : Lw) : Exact (inLaw w l true) := by
  intro k
  match k with
  | 0 => rfl
  | 1 => rfl
  | 2 => rfl
  | 3 => rfl
  | k + 4 => rfl

theorem rdsE_zero : ∀ {rs : List Rd}, (∀ d ∈ rs, d.ok ∧ d.lo ≤ d.hi) → rdsE rs = 0
  | [], _ => rfl
  | d :: t, h => by
    have h1 := h d (List.mem_cons_self ..)
    have : rdE1 d = 0 := by unfold rdE1; rw [if_pos h1.1, if_neg (by omega)]
    unfold rdsE
    rw [if_pos this]
    exact rdsE_zero fun x hx => h x (List.mem_cons_of_mem _ hx)
theorem readsE_zero {rs : List Rd} (hl : rs.length ≤ 4) (h : ∀ d ∈ rs, d.ok ∧ d.lo ≤ d.hi) : readsE rs = 0 := by
  unfold readsE; rw [if_neg (by omega)]; exact rdsE_zero h
end Go.Proofs

namespace Go.Proofs
open Go Go.Sx
def yes : Option (AVal × Heap) → Bool
  | some (.bool b, _) => b
  | _ => false
theorem yes_ans {P : Program} (hm : P.follows .mixedOrders = true) {tab : Nat → Option AFun} (hT : ∀ g af, tab g = some af → EntryOK P g af) {m n g : Nat} (h : yes (exFn tab m n g [] []) = true) : Ans P g [] [] (.bool true) [] := by
  match hx : exFn tab m n g [] [] with
  | none => rw [hx] at h; cases h
  | some (v, H') =>
    rw [hx] at h
    cases v <;> try (cases h; done)
    rename_i b
    have hb : b = true := h
    subst hb
    exact (spec_ex hm hT hx).mono fun v H'' hv => ⟨hv.1, H'', rfl⟩
end Go.Proofs

namespace Go.Proofs
open Go Go.Sx
theorem awake_yes : yes (exFn tab 3000 40 n_law02_awake [] []) = true := by kernel_rfl
theorem awake_ok : Ans Tryd.prog n_law02_awake [] [] (.bool true) [] := yes_ans mixed tab_ok awake_yes
end Go.Proofs

namespace Go.Proofs
open Go Go.Sx Go.Fam
attribute [local irreducible] Run

theorem Meet_ok (c : Rg) (lo hi : Int) : Ans Tryd.prog n_kit_Meet [c.v, .agg [.int .i64 lo, .int .i64 hi]] [] (.bool (decide (c.lo ≤ hi ∧ lo ≤ c.hi))) [] := by
  refine spec_run e_kit_Meet fun G => ?_
  by_cases h1 : c.lo ≤ hi
  · by_cases h2 : lo ≤ c.hi
    · simp only [go_sem, Rg.v, h1, h2]
    · simp only [go_sem, Rg.v, h1, h2]
  · simp only [go_sem, Rg.v, h1]

theorem inLaw_fn {a b : Lw} (h : SubL a b) : Ans Tryd.prog n_law02_inLaw [a.v, b.v] [] (.bool true) [] := by
  have c0 := within2_ok a.perv b.perv ⟨h.perv.lo, h.perv.hi⟩
  have c1 := within2_ok a.gain b.gain ⟨h.gain.lo, h.gain.hi⟩
  have c2 := within2_ok a.shift b.shift ⟨h.shift.lo, h.shift.hi⟩
  have c3 := within2_ok a.full b.full ⟨h.full.lo, h.full.hi⟩
  have c4 := within2_ok a.part b.part ⟨h.part.lo, h.part.hi⟩
  simp only [Rg.v] at c0 c1 c2 c3 c4
  refine spec_run e_law02_inLaw fun G => ?_
  simp only [go_sem, Lw.v, Lw.cs]
  refine cP c0 ?_
  simp only [go_sem]
  refine cP c1 ?_
  simp only [go_sem]
  refine cP c2 ?_
  simp only [go_sem]
  refine cP c3 ?_
  simp only [go_sem]
  refine cP c4 ?_
  simp only [go_sem]

section
variable {P : Program} {G : Ctx} {g : FuncId} {args : List AVal} {H : Heap} {k : Nat} {R : Runner} {l : List AOper} {fs : List Sx.Frame} {ρ : List AVal} {ms : List Nat} {Q : Goal} {dst : Option Nat} {x x' : Row} {j : Nat} {es : List AVal} {gr : Bool} {sz : Nat}
theorem cDs (h : Ans P g (.ptr 0 0 0 1 :: args) [some x] (slv 1 es) (some x' :: slrG gr sz es)) (hK : R (.ops l) fs ⟨setD ρ dst (slv H.length es), H.set j (some x') ++ slrG gr sz es, ms⟩ Q) (hes : Bels (fun _ => False) es) (hj : H[j]? = some (some x) := by first | rfl | simp only [go_sem])
    (hb : Bels (fun _ => False) args := by simp only [go_sem]) (hx : x.bel (fun _ => False) := by simp only [go_sem]) (hx' : x'.bel (fun _ => False) := by simp only [go_sem])
    (hk : k ≤ H.length := by simp) (hms : ∀ q ∈ ms, q ≠ j ∧ H[q]? = some (some .dfr) := by simp) : CallR P G k R g (.ptr j 0 0 1 :: args) dst l fs ρ H ms Q :=
  callDS (Φ := fun _ : Unit => True) (es := fun _ => es) (x' := fun _ => x') (gr := gr) (sz := sz) (Ans.toE (a := ()) (r := fun _ : Unit => slv 1 es) (L' := fun _ => some x' :: slrG gr sz es) h trivial) hj hb hx (fun _ _ => ⟨hx', hes⟩) hk hms fun _ _ => hK
end

theorem frz_rds {d : Nat} {H : Heap} {j : Nat} {gr : Bool} {rs : List Rd} (h : H[j]? = some (some (.cells gr 4 (rs.map Rd.v)))) : frz (d + 3) H (.sl j 0 rs.length) = Rds rs := by
  rw [frz_sl h (by simp)]
  unfold Rds
  rw [List.map_map]
  congr 1

def nwA (w : Int) (L x N o : Lw) (rs : List Rd) : Heap := [some (Dr w), some (Lr L), some (Lr x), some (.cells true 4 (rs.map Rd.v)), some (Lr N), some (Lr o)]
def nwT (n i : Nat) : List AVal := tsets 84 [(2, .bool false), (6, .sl 3 0 n), (7, .ptr 4 0 0 1), (9, .ptr 5 0 0 1), (10, .int .i64 i)]
theorem nwA_ok (w : Int) (L x N o : Lw) (rs : List Rd) : ∀ (i : Nat) (y : Row), (nwA w L x N o rs)[i]? = some (some y) → y.ren (fun i => i) = y ∧ y.bel (· < (nwA w L x N o rs).length) := by
  intro i y hy
  have hb : ∀ {y : Row}, y.bel (fun _ => False) → y.ren (fun i => i) = y ∧ y.bel (· < (nwA w L x N o rs).length) := fun h => ⟨Row.ren_same h, bel_mono_row h fun _ h => h.elim⟩
  match i with
  | 0 => cases hy; exact hb (dr_bel _ _)
  | 1 => cases hy; exact hb (by simp only [go_sem])
  | 2 => cases hy; exact hb (by simp only [go_sem])
  | 3 => cases hy; exact hb (by simp only [go_sem])
  | 4 => cases hy; exact hb (by simp only [go_sem])
  | 5 => cases hy; exact hb (by simp only [go_sem])
  | i + 6 => simp [nwA] at hy

set_option maxHeartbeats 2000000 in
set_option maxRecDepth 20000 in
theorem narrowed_law (xs : List Int) (hl : xs.length ≤ 9223372036854775807) : Ans Tryd.prog n_law02_CurveNarrowed [.view (xs.map (.int .i64))] [] (.bool true) [] := by
  have hd := newdice_ok xs hl
  generalize feed (IntKind.u64.wrap (IntKind.u64.wrap xs.length + 1374496523)) xs = w at *
  have hlaw := lawof_ok w
  have hin := lawOf_in w
  generalize lawOf w = L at *
  generalize lawEnd w = w1 at *
  have hwl := withinLaw_ok w1 L hin true
  obtain ⟨hxm, hxs⟩ := inLaw_ok (w := w1) (b := true) hin
  have hxe := inLaw_exact w1 L
  generalize inLaw w1 L true = x at *
  generalize d2 (d2 (d2 (d2 (d2 w1)))) = w2 at *
  obtain ⟨rs, w3, hr4, hrs, hro⟩ := ReadsOf_ok w2 hxm
  have hwl2 := withinLaw_ok w3 L hin true
  obtain ⟨hom, hos⟩ := inLaw_ok (w := w3) (b := true) hin
  have hoe := inLaw_exact w3 L
  generalize inLaw w3 L true = o at *
  generalize d2 (d2 (d2 (d2 (d2 w3)))) = w4 at *
  have hN := Narrow_ok L rs (by omega)
  obtain ⟨n1, n2, n3, n4⟩ := narL_keeps hxm hxe rs hin hxs fun d hd => ⟨(hrs d hd).1, (hrs d hd).2.2⟩
  have hE := readsE_zero hr4 fun d hd => ⟨(hrs d hd).1, (hrs d hd).2.1⟩
  have hO : (∀ d ∈ rs, agr o d) → SubL o (narL rs L).2 := fun h => (narL_keeps hom hoe rs hin hos fun d hd => ⟨(hrs d hd).1, h d hd⟩).2.2.1
  have hlE : lawE L = 0 := lawE_of hin
  unfold narV at hN
  rw [if_pos hlE, if_pos hE, if_pos n1] at hN
  generalize (narL rs L).2 = N at *
  have i1 := inLaw_fn n4
  have i2 := inLaw_fn n3
  simp only [Lw.v, Lw.cs] at hlaw hwl hro hN hwl2 i1 i2
  refine spec_run e_law02_CurveNarrowed fun G => ?_
  simp only [go_sem]
  refine callN1 hd ⟨by rw [bel_view]; exact bels_map _ _ fun _ => .int _ _, trivial⟩ (dr_bel _ _) (by simp) (by simp) ?_
  simp only [go_sem]
  refine cD hlaw ?_
  simp only [go_sem]
  refine cD hwl ?_
  simp only [go_sem]
  refine cDs hro ?_ (by rw [rdl_bels]; trivial)
  by_cases hne : rs = []
  · subst hne
    simp only [go_sem, slv, slrG, List.map_nil, if_true]
    refine cF hN 6 ⟨.inl rfl, .inr ⟨rfl, rfl⟩, trivial⟩ ?_
    simp only [go_sem]
    refine cP i1 ?_
    simp only [go_sem]
    refine cP i2 ?_
    simp only [go_sem]
    refine cD hwl2 ?_
    simp only [go_sem]
    refine loop_body 800 k_law02_CurveNarrowed_r17.eq_1 ?_
    have i3 := inLaw_fn (hO fun d hd => by cases hd)
    simp only [Lw.v, Lw.cs] at i3
    simp only [go_sem]
    refine cP i3 ?_
    simp only [go_sem]
    refine cP awake_ok ?_
    simp only [go_sem]
  · have hne2 : rs.map Rd.v ≠ [] := by simpa using hne
    simp only [go_sem, slv, slrG, hne2, if_false, List.length_map]
    refine cF hN 6 ⟨.inl rfl, .inl (frz_rds rfl), trivial⟩ ?_
    simp only [go_sem]
    refine cP i1 ?_
    simp only [go_sem]
    refine cP i2 ?_
    simp only [go_sem]
    refine cD hwl2 ?_
    simp only [go_sem]
    refine loop_ind k_law02_CurveNarrowed_r17.eq_1 (fun i : Nat => i ≤ rs.length ∧ ∀ d ∈ rs.take i, agr o d) (fun i => rs.length - i)
      (fun i => (nwT rs.length i, nwA w4 L x N o rs)) 0 ⟨Nat.zero_le _, fun d hd => by simp at hd⟩ (by simp [go_sem, nwT]) (by simp only [nwA, Lr_eq]) ?_
    rintro i ⟨hi, hA⟩ ih
    dsimp only at hi hA ih ⊢
    by_cases h1 : i < rs.length
    · have g1 : (i : Int) < rs.length := by omega
      have n0 : ¬ (i : Int) < 0 := by omega
      have h3 : IntKind.i64.wrap ((i : Int) + 1) = ((i + 1 : Nat) : Int) := by rw [w64 (by omega)]; rfl
      have hx := rds_get h1
      have hdm := hrs _ (List.getElem_mem h1)
      have htk : rs.take (i + 1) = rs.take i ++ [rs[i]] := by rw [List.take_add_one, List.getElem?_eq_getElem h1]; rfl
      obtain ⟨d, hde⟩ : ∃ d, rs[i] = d := ⟨_, rfl⟩
      rw [hde] at hx hdm htk
      have kc := Current_ok o hom d.g d.p hdm.1.1 hdm.1.2
      have km := Meet_ok (curOf o d.g d.p) d.lo d.hi
      have hag : agr o d ↔ ((curOf o d.g d.p).lo ≤ d.hi ∧ d.lo ≤ (curOf o d.g d.p).hi) := Iff.rfl
      generalize curOf o d.g d.p = C at *
      simp only [Rd.v] at hx
      simp only [Lw.v, Lw.cs, Rg.v] at kc km
      simp only [go_sem, nwT, nwA, Lr_eq, g1, n0, hx, Int.toNat_natCast]
      refine dP kc ?_
      simp only [go_sem, hx, g1]
      refine cP km ?_
      by_cases ha : C.lo ≤ d.hi ∧ d.lo ≤ C.hi
      · simp only [go_sem, ha, h3]
        refine loop_drop (A := nwA w4 L x N o rs) (Y := [_]) (by simp) (nwA_ok _ _ _ _ _ _) ?_ ?_ (ih (i + 1) (by omega) ⟨h1, fun e he => ?_⟩ _ (wk_refl _))
        · simp [go_sem, nwT, ren]
        · simp [go_sem, nwT, nwA]
        · rw [htk] at he
          rcases List.mem_append.1 he with he | he
          · exact hA e he
          · rw [List.mem_singleton.1 he]; exact hag.2 ha
      · simp only [go_sem, ha]
        refine cP awake_ok ?_
        simp only [go_sem]
    · have g1 : ¬ (i : Int) < rs.length := by omega
      have hall : rs.take i = rs := List.take_of_length_le (by omega)
      rw [hall] at hA
      have i3 := inLaw_fn (hO hA)
      simp only [Lw.v, Lw.cs] at i3
      simp only [go_sem, nwT, nwA, Lr_eq, g1]
      refine cP i3 ?_
      simp only [go_sem]
      refine cP awake_ok ?_
      simp only [go_sem]
end Go.Proofs

namespace Go.Proofs
open Go Go.Sx

theorem gNo : Tryd.prog.globalNamed "thermion/curve.nothing" = some 0 := by kernel_rfl
theorem tNo : (Tryd.prog.globals[0]?).map (·.type) = some 23 := by kernel_rfl
theorem cNo : Tryd.prog.cellsOf 3 = 1 := by kernel_rfl
theorem uNoE : Tryd.prog.underlying 3 = some (.int .i64) := by kernel_rfl
theorem uNo : ∃ fs f0 f1, Tryd.prog.underlying 23 = some (.struct fs) ∧ fs[0]? = some f0 ∧ fs[1]? = some f1 ∧ (f0.type = 3 ∧ f0.offset = 0) ∧ (f1.type = 3 ∧ f1.offset = 1) :=
  ⟨_, _, _, Tryd.underlying23, rfl, rfl, ⟨rfl, rfl⟩, ⟨rfl, rfl⟩⟩
theorem v0 : gvOf Tryd.prog 0 = some (.agg [.int .i64 1, .int .i64 0]) := by kernel_rfl
theorem nV : Tryd.prog.globals.size = 1 := by kernel_rfl
theorem vMore (g : Nat) : gvOf Tryd.prog (g + 1) = none := by
  have hg : Tryd.prog.globals[g + 1]? = none := Array.getElem?_eq_none (by rw [nV]; omega)
  unfold gvOf
  rw [hg]; rfl

theorem glob_of {laid : List (String × DataW Unit)} {W : World} (h : laidMet Tryd.prog laid W)
    (h0 : ("thermion/curve.nothing", DataW.agg [.lit (.int .i64 1), .lit (.int .i64 0)]) ∈ laid) : GlobOK Tryd.prog (topG W) := by
  intro g e he
  match g, he with
  | 0, he =>
    rw [v0] at he; cases he
    obtain ⟨fs, f0, f1, hu, hf0, hf1, ht0, ht1⟩ := uNo
    obtain ⟨k0, k1⟩ := laid_two h h0 gNo tNo hu hf0 hf1 ht0 ht1 uNoE cNo
    exact glob_ints (xs := [(.i64, 1), (.i64, 0)]) (by simp) fun j hj => match j, hj with
      | 0, _ => k0
      | 1, _ => k1
      | j + 2, hj => absurd hj (by simp)
  | g + 1, he => rw [vMore] at he; cases he
end Go.Proofs

namespace Go.Proofs
open Go Go.Sx
theorem curve_narrowed (xs : List Int) (hl : xs.length ≤ 9223372036854775807) : Ans Tryd.prog n_law02_CurveNarrowed [.view (xs.map (.int .i64))] [] (.bool true) [] := narrowed_law xs hl
end Go.Proofs

