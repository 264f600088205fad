/- A part of the proof. -/
import Derived.Test.YtoipalbjmbkdeaaPE
set_option linter.unusedSimpArgs false
set_option linter.unusedVariables false
namespace Go.Proofs
open Go Go.Sx Go.Fam
attribute [local irreducible] Run

@[go_sem] theorem upFrom_contains (k n r : Nat) : (upFrom k n).contains r = decide (k ≤ r ∧ r < k + n) := by
  rw [Bool.eq_iff_iff]; simp [upFrom_mem]
@[go_sem] theorem disj_up (k n : Nat) (l : List Nat) : disj (upFrom k n) l = l.all fun r => !decide (k ≤ r ∧ r < k + n) := by
  unfold disj
  rw [Bool.eq_iff_iff]
  simp only [List.all_eq_true, upFrom_mem, Bool.not_eq_true', List.contains_eq_mem, decide_eq_false_iff_not]
  exact ⟨fun h r hr hk => h r hk hr, fun h r hk hr => h r hr hk⟩
@[go_sem] theorem dr_nv (w : Int) : (Dr w).nv = True := eq_true (by unfold Dr; exact row_nv_cells _ _ ⟨.agg _ (by intro i hi; simp at hi; subst hi; exact .int _ _), trivial⟩)
def atE (f : Fa) (g p : Int) : Int := if famE f = 0 then (if (-1000000 ≤ g ∧ g ≤ 1000000) ∧ 0 ≤ p ∧ p ≤ 1000000 then 0 else 2) else famE f
def atL (f : Fa) (g p : Int) : Int × Int := if famE f = 0 then (if (-1000000 ≤ g ∧ g ≤ 1000000) ∧ 0 ≤ p ∧ p ≤ 1000000 then atV f g p else (0, 0)) else (0, 0)
theorem atA_eq (f : Fa) (g p : Int) : atA f g p = .tup [.agg [.int .i64 (atL f g p).1, .int .i64 (atL f g p).2], .int .i64 (atE f g p)] := by
  unfold atA atL atE
  by_cases c1 : famE f = 0
  · by_cases c2 : (-1000000 ≤ g ∧ g ≤ 1000000) ∧ 0 ≤ p ∧ p ≤ 1000000
    · simp only [if_pos c1, if_pos c2]
    · simp only [if_pos c1, if_neg c2]
  · simp only [if_neg c1]
theorem lrg_no {f : Fa} (h : lrgB f = false) : f.g.length ≤ 50 ∧ f.p.length ≤ 50 ∧ f.lo.length ≤ 50 ∧ f.hi.length ≤ 50 := by
  unfold lrgB at h
  by_cases c : 50 < f.lo.length ∨ 50 < f.hi.length ∨ lngB [f.g, f.p] = true
  · rw [if_pos c] at h; cases h
  · have c3 : ¬ lngB [f.g, f.p] = true := fun h => c (.inr (.inr h))
    have : lngB [f.g, f.p] = (decide (50 < f.g.length) || (decide (50 < f.p.length) || false)) := rfl
    rw [this] at c3
    simp at c3
    omega

set_option maxHeartbeats 4000000 in
set_option maxRecDepth 20000 in
theorem curveAt_ok (f : Fa) (g p : Int) (xs : List Int) (hl : xs.length ≤ 9223372036854775807) : Ans Try.prog n_law02_CurveAt [Fv f, .int .i64 g, .int .i64 p, .view (xs.map (.int .i64))] [] (.bool true) [] := by
  have kl := large_run f
  refine spec_run e_law02_CurveAt fun G => ?_
  simp only [Fv, Fcs] at kl
  simp only [go_sem, Fv, Fcs]
  refine cP kl ?_
  by_cases c : lrgB f = true
  · rw [c]
    simp only [go_sem]
    refine cP awake_ok ?_
    simp only [go_sem]
  · rw [Bool.not_eq_true] at c
    obtain ⟨s1, s2, s3, s4⟩ := lrg_no c
    rw [c]
    have kd := newdice_ok xs hl
    obtain ⟨w, hw⟩ : ∃ w, feed (IntKind.u64.wrap (IntKind.u64.wrap xs.length + 1374496523)) xs = w := ⟨_, rfl⟩
    rw [hw] at kd
    have kf := FamilyOf_run w
    have hne := famOf_ne w
    obtain ⟨F, hF⟩ : ∃ F, famOf w = F := ⟨_, rfl⟩
    obtain ⟨w1, hw1⟩ : ∃ x, famEnd w = x := ⟨_, rfl⟩
    rw [hF] at kf hne
    rw [hw1] at kf
    simp only [go_sem]
    refine callN1 kd ⟨by rw [bel_view, bels_ints]; trivial, trivial⟩ (dr_bel _ _) (by simp) (by simp) ?_
    simp only [go_sem]
    refine dMD kf hne.pure 1 [] (by simp) trivial ?_
    obtain ⟨a, b, c', d, e⟩ := thaw_fv F 2
    have hD := fun (A : Heap) (hA : A.length = 2) => thaw_dat (H := A ++ (thaw 6 2 (Fv F)).2) 2 hne.pure fun i hi => by rw [get_new hA]
    simp only [List.length_cons, List.length_nil, e] at hD ⊢
    generalize (thaw 6 2 (Fv F)).2 = Y at *
    have v1 := between_ok w1 (-10000) 4000 (by omega) (by omega) (by omega)
    obtain ⟨w2, hw2⟩ : ∃ x, dstep w1 = x := ⟨_, rfl⟩
    obtain ⟨x1, hx1⟩ : ∃ x, btw w1 (-10000) 4000 = x := ⟨_, rfl⟩
    rw [hw2, hx1] at v1
    have v2 := between_ok w2 (-10000) 4000 (by omega) (by omega) (by omega)
    obtain ⟨w3, hw3⟩ : ∃ x, dstep w2 = x := ⟨_, rfl⟩
    obtain ⟨x2, hx2⟩ : ∃ x, btw w2 (-10000) 4000 = x := ⟨_, rfl⟩
    rw [hw3, hx2] at v2
    have v3 := upto_ok w3 350000 (by omega)
    obtain ⟨w4, hw4⟩ : ∃ x, dstep w3 = x := ⟨_, rfl⟩
    obtain ⟨x3, hx3⟩ : ∃ x, upto w3 350000 = x := ⟨_, rfl⟩
    rw [hw4, hx3] at v3
    have v4 := upto_ok w4 350000 (by omega)
    obtain ⟨w5, hw5⟩ : ∃ x, dstep w4 = x := ⟨_, rfl⟩
    obtain ⟨x4, hx4⟩ : ∃ x, upto w4 350000 = x := ⟨_, rfl⟩
    rw [hw5, hx4] at v4
    clear hw hF hw1 hw2 hw3 hw4 hw5 hx1 hx2 hx3 hx4 kf kd
    simp only [go_sem, vw, tw]
    refine dD v1 ?_
    simp only [go_sem]
    refine dD v2 ?_
    simp only [go_sem]
    refine ⟨by simp, dD v3 ?_⟩
    simp only [go_sem]
    refine dD v4 ?_
    simp only [go_sem]
    refine ⟨by simp, loop_body 3000 k_law02_CurveAt_r12.eq_1 ?_⟩
    simp only [go_sem]
    have A := fun g p => At_run f (by omega) (by omega) (by omega) (by omega) g p
    have B := fun g p => rAt_run f (by omega) (by omega) (by omega) (by omega) g p
    have A' := fun g p => At_run F (by have := hne.g.2; omega) (by have := hne.p.2; omega) (by have := hne.lo.1; have := hne.g.2; omega) (by have := hne.hi.1; have := hne.g.2; omega) g p
    have B' := fun g p => rAt_run F (by have := hne.g.2; omega) (by have := hne.p.2; omega) (by have := hne.lo.1; have := hne.g.2; omega) (by have := hne.hi.1; have := hne.g.2; omega) g p
    simp only [Fv, Fcs, vw, tw, atA_eq] at A B
    simp only [atA_eq] at A' B'
    refine dP (A g p) ?_
    simp only [go_sem]
    have hE : ∀ (r1 r2 : Option Row) (R : Heap), frz 6 (Heap.onlyR (r1 :: r2 :: (Y ++ R)) (upFrom 2 Y.length)) (.agg [AVal.sl a 0 F.g.length, AVal.sl b 0 F.p.length, AVal.sl c' 0 F.lo.length, AVal.sl d 0 F.hi.length]) = Fv F := fun r1 r2 R => (((hD [r1, r2] rfl).app R (fun r hr => by rw [upFrom_mem] at hr; simp; omega)).onlyR (fun _ h => h)).frz
    refine ⟨by simp, dP (B g p) ?_⟩
    simp only [go_sem]
    have w1' : IntKind.i64.wrap 1 = 1 := by decide
    refine ⟨by simp, loop_body 3000 k_law02_CurveAt_r12.eq_1 ?_⟩
    simp only [go_sem, w1']
    refine dF (A' x1 x3) 6 (upFrom 2 Y.length) ?_ ?_
    · exact ⟨.inl (hE _ _ _), .inl rfl, .inl rfl, trivial⟩
    simp only [go_sem, w1']
    refine ⟨by simp; omega, dF (B' x1 x3) 6 (upFrom 2 Y.length) ?_ ?_⟩
    · exact ⟨.inl (hE _ _ _), .inl rfl, .inl rfl, trivial⟩
    have w2' : IntKind.i64.wrap 2 = 2 := by decide
    simp only [go_sem, w1', w2']
    refine ⟨by simp; omega, loop_body 3000 k_law02_CurveAt_r12.eq_1 ?_⟩
    simp only [go_sem, w1', w2']
    refine dP (A x2 x4) ?_
    simp only [go_sem, w1', w2']
    refine ⟨by simp, dP (B x2 x4) ?_⟩
    simp only [go_sem, w1', w2']
    have w3' : IntKind.i64.wrap 3 = 3 := by decide
    refine ⟨by simp, loop_body 3000 k_law02_CurveAt_r12.eq_1 ?_⟩
    simp only [go_sem, w3']
    refine cP awake_ok ?_
    simp only [go_sem]
end Go.Proofs

namespace Go.Proofs
open Go Go.Sx Go.Fam

theorem at_struct {P : Program} {n : Nat} {t : TypeId} {fs : Array Field} (hu : P.underlying t = some (.struct fs)) {vs : List AVal} (h : AT P (n + 1) t vs) : ATs (AT P n) fs.toList vs := by
  unfold AT at h; rw [hu] at h; exact h
theorem at_int {P : Program} {n : Nat} {t : TypeId} {k : IntKind} (hu : P.underlying t = some (.int k)) {vs : List AVal} (h : AT P (n + 1) t vs) : ∃ m, vs = [.int k m] ∧ (Lit.int k m).wf = true := by
  unfold AT at h; rw [hu] at h; exact h
theorem at_slice {P : Program} {n : Nat} {t e : TypeId} (hu : P.underlying t = some (.slice e)) {vs : List AVal} (h : AT P (n + 1) t vs) : ∃ es, vs = [.view es] ∧ es.length ≤ maxLen ∧ ∀ x ∈ es, if aggT P e = true then ∃ ws, x = .agg ws ∧ AT P n e ws else AT P n e [x] := by
  unfold AT at h; rw [hu] at h; exact h
theorem list_mapQ {α β : Type} {f : α → β} {Q : α → Prop} : ∀ l : List β, (∀ x ∈ l, ∃ a, x = f a ∧ Q a) → ∃ l' : List α, l = l'.map f ∧ ∀ a ∈ l', Q a
  | [], _ => ⟨[], rfl, fun a ha => by simp at ha⟩
  | x :: l, h => by
    obtain ⟨a, rfl, ha⟩ := h x (by simp)
    obtain ⟨l', rfl, h'⟩ := list_mapQ l fun y hy => h y (by simp [hy])
    exact ⟨a :: l', rfl, fun b hb => by
      rcases List.mem_cons.1 hb with rfl | hb
      · exact ha
      · exact h' b hb⟩

attribute [local irreducible] AT
set_option maxRecDepth 100000
theorem atn_int {n : Nat} {vs : List AVal} (h : AT Try.prog (n + 1) 3 vs) : ∃ m, vs = [.int .i64 m] ∧ (Lit.int .i64 m).wf = true := at_int Try.underlying3 h
theorem at_ints {n : Nat} {x : AVal} (h : AT Try.prog (n + 2) 26 [x]) : ∃ l : List Int, x = vw l ∧ l.length ≤ 9223372036854775807 := by
  obtain ⟨es, h1, hl, he⟩ := at_slice Try.underlying26 h
  obtain rfl : x = .view es := by simpa using h1
  have hg : ¬ aggT Try.prog 3 = true := by unfold aggT; rw [Try.underlying3]; decide
  obtain ⟨l, rfl, -⟩ := list_mapQ (f := AVal.int .i64) (Q := fun _ => True) es fun x hx => by
    have := he x hx
    rw [if_neg hg] at this
    obtain ⟨m, hm, -⟩ := atn_int this
    exact ⟨m, by simpa using hm, trivial⟩
  have hm : maxLen = 9223372036854775807 := rfl
  rw [hm] at hl
  exact ⟨l, rfl, by simpa using hl⟩
theorem at_tab {n : Nat} {x : AVal} (h : AT Try.prog (n + 3) 40 [x]) : ∃ l : List (List Int), x = tw l ∧ l.length ≤ 9223372036854775807 ∧ ∀ r ∈ l, r.length ≤ 9223372036854775807 := by
  obtain ⟨es, h1, hl, he⟩ := at_slice Try.underlying40 h
  obtain rfl : x = .view es := by simpa using h1
  have hg : ¬ aggT Try.prog 26 = true := by unfold aggT; rw [Try.underlying26]; decide
  obtain ⟨l, rfl, hq⟩ := list_mapQ (f := vw) (Q := fun r : List Int => r.length ≤ 9223372036854775807) es fun x hx => by
    have := he x hx
    rw [if_neg hg] at this
    obtain ⟨m, hm, hl⟩ := at_ints this
    exact ⟨m, hm, hl⟩
  have hm : maxLen = 9223372036854775807 := rfl
  rw [hm] at hl
  exact ⟨l, rfl, by simpa using hl, hq⟩
structure FaL (f : Fa) : Prop where
  g : f.g.length ≤ 9223372036854775807
  p : f.p.length ≤ 9223372036854775807
  lo : f.lo.length ≤ 9223372036854775807 ∧ ∀ r ∈ f.lo, r.length ≤ 9223372036854775807
  hi : f.hi.length ≤ 9223372036854775807 ∧ ∀ r ∈ f.hi, r.length ≤ 9223372036854775807
theorem at_family {n : Nat} {ws : List AVal} (h : AT Try.prog (n + 4) 42 ws) : ∃ f : Fa, .agg ws = Fv f ∧ FaL f := by
  obtain ⟨a, _, rfl, ha, b, _, rfl, hb, c, _, rfl, hc, d, _, rfl, hd, rfl⟩ := at_struct Try.underlying42 h
  obtain ⟨x, rfl, -⟩ := at_slice Try.underlying26 ha
  obtain ⟨y, rfl, -⟩ := at_slice Try.underlying26 hb
  obtain ⟨z, rfl, -⟩ := at_slice Try.underlying40 hc
  obtain ⟨w, rfl, -⟩ := at_slice Try.underlying40 hd
  obtain ⟨l1, h1, q1⟩ := at_ints ha
  obtain ⟨l2, h2, q2⟩ := at_ints hb
  obtain ⟨l3, h3, q3⟩ := at_tab hc
  obtain ⟨l4, h4, q4⟩ := at_tab hd
  exact ⟨⟨l1, l2, l3, l4⟩, by rw [List.cons_append, h1, List.cons_append, h2, List.cons_append, h3, List.cons_append, h4]; rfl, q1, q2, q3, q4⟩
end Go.Proofs

