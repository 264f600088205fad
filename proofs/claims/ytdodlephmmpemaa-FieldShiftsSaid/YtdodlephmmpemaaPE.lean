/- A part of the proof. -/
import Derived.Test.YtdodlephmmpemaaPD
set_option linter.unusedSimpArgs false
set_option linter.unusedVariables false
namespace Go.Proofs
open Go Go.Sx
attribute [local irreducible] Run

def inb (p : Pl) (i : Nat) (r d : Int) : Prop := (-((i % p.w : Nat) : Int) ≤ r ∧ r ≤ p.w - 1 - ((i % p.w : Nat) : Int)) ∧ (-((i / p.w : Nat) : Int) ≤ d ∧ d ≤ p.h - 1 - ((i / p.w : Nat) : Int))
instance (p : Pl) (i : Nat) (r d : Int) : Decidable (inb p i r d) := by unfold inb; infer_instance
def Stays (p : Pl) (e r d : Int) : Prop := ∀ i, i < p.w * p.h → gt p.cs i = e → inb p i r d
instance (p : Pl) (e r d : Int) : Decidable (Stays p e r d) := by unfold Stays; infer_instance

set_option maxHeartbeats 2000000 in
theorem leaves_ok {p : Pl} (hp : PlOK p) (e r d : Int) : Ans Try.prog n_field_leaves [p.v, .int .i64 e, .int .i64 r, .int .i64 d] [] (.bool (decide (¬ Stays p e r d))) [] := by
  have hw := hp.w; have hh := hp.h
  have hN : p.w * p.h ≤ 256 := Nat.mul_le_mul hw.2 hh.2
  have hlen := hp.len
  refine spec_run e_field_leaves fun G => ?_
  simp only [go_sem, Pl.v, Pl.a, Pl.c4, vw, List.length_map]
  refine loop_ind k_field_leaves_r8.eq_1 (fun a : Nat × Heap => a.1 ≤ p.cs.length ∧ ∀ j, j < a.1 → gt p.cs j = e → inb p j r d) (fun a => p.cs.length - a.1)
    (fun a => (tsets 57 [(1, .int .i64 e), (2, .int .i64 r), (3, .int .i64 d), (4, .ptr 0 0 0 1), (14, vw p.cs), (15, .int .i64 p.cs.length), (16, .int .i64 a.1)], some (.cells false 4 [p.v]) :: a.2)) (0, []) ⟨Nat.zero_le _, fun j hj => absurd hj (Nat.not_lt_zero _)⟩ (by simp [go_sem, vw]) rfl ?_
  rintro ⟨i, X⟩ ⟨hi, hm⟩ ih
  dsimp only at hi hm ih ⊢
  by_cases h1 : i < p.cs.length
  · have h2 : (i : Int) < p.cs.length := by omega
    have h3 := idx_next h1 (by omega)
    have n0 : ¬ (i : Int) < 0 := by omega
    have hx := gt_get h1
    have hiN : i < p.w * p.h := by omega
    obtain ⟨c1, c2, c3⟩ := cell_lt hiN
    have ihn := fun X => ih (i + 1, X) (by dsimp only; omega)
    clear ih
    have hbad : gt p.cs i = e → ¬ inb p i r d → ¬ Stays p e r d := fun h h4 h5 => h4 (h5 i hiN h)
    have hgo : (gt p.cs i = e → inb p i r d) → ∀ j, j < i + 1 → gt p.cs j = e → inb p j r d := fun h j hj h5 => by
      by_cases e1 : j = i
      · subst e1; exact h h5
      · exact hm j (by omega) h5
    have e1 := nat_rem i p.w
    have e2 := nat_quo i p.w
    have wne : ¬ (p.w : Int) = 0 := by omega
    unfold inb at hbad hgo
    clear hm
    generalize i % p.w = x0 at *
    generalize i / p.w = y0 at *
    have w1 : IntKind.i64.wrap (p.w - 1) = p.w - 1 := w64 (by omega)
    have w2 : IntKind.i64.wrap (p.h - 1) = p.h - 1 := w64 (by omega)
    have w3 : IntKind.i64.wrap ((x0 : Nat) : Int) = x0 := w64 (by omega)
    have w4 : IntKind.i64.wrap ((y0 : Nat) : Int) = y0 := w64 (by omega)
    have w5 : IntKind.i64.wrap ((p.w : Int) - 1 - x0) = p.w - 1 - x0 := w64 (by omega)
    have w6 : IntKind.i64.wrap ((p.h : Int) - 1 - y0) = p.h - 1 - y0 := w64 (by omega)
    have w7 : IntKind.i64.wrap (0 - (x0 : Int)) = - x0 := by rw [w64 (by omega)]; omega
    have w8 : IntKind.i64.wrap (0 - (y0 : Int)) = - y0 := by rw [w64 (by omega)]; omega
    generalize gt p.cs i = z at *
    by_cases hz : z = e
    · have hz' : (z == e) = true := by simp [hz]
      simp only [go_sem, Pl.v, Pl.a, Pl.c4, vw, List.length_map, h2, n0, hx, hz', e1, e2, wne, w1, w2, w3, w4, w5, w6, w7, w8]
      by_cases b1 : -(x0 : Int) ≤ r ∧ r ≤ p.w - 1 - x0
      · refine cP (within_yes b1) ?_
        simp only [go_sem, Pl.v, Pl.a, Pl.c4, vw, w1, w2, w3, w4, w5, w6, w7, w8]
        by_cases b2 : -(y0 : Int) ≤ d ∧ d ≤ p.h - 1 - y0
        · refine cP (within_yes b2) ?_
          simp only [go_sem, h3]
          exact ihn _ ⟨h1, hgo fun _ => ⟨b1, b2⟩⟩ _ (by simp [go_sem, vw])
        · refine cP (within_no b2) ?_
          simp only [go_sem]
          simp [hbad hz fun h => b2 h.2]
      · refine cP (within_no b1) ?_
        simp only [go_sem]
        simp [hbad hz fun h => b1 h.1]
    · have hz' : (z == e) = false := by simp [hz]
      simp only [go_sem, Pl.v, Pl.a, Pl.c4, vw, List.length_map, h2, n0, hx, hz', e1, e2, wne, w1, w2, w3, w4, w5, w6, w7, w8, h3]
      exact ihn _ ⟨h1, hgo fun h => absurd h hz⟩ _ (by simp [go_sem, vw])
  · have h2 : ¬ (i : Int) < p.cs.length := by omega
    have hst : Stays p e r d := fun j hj h => hm j (by omega) h
    simp only [go_sem, vw, List.length_map, h2]
    simp [hst]

theorem fCopy_ok {p : Pl} (hlen : p.cs.length ≤ 1000000) (hne : 1 ≤ p.cs.length) : Ans Try.prog n_field_Copy [p.v] [] (p.a (.sl 0 0 p.cs.length)) [some (.cells true 1 (iv p.cs))] := by
  refine Ans.keep (run_fn e_field_Copy fun G => ?_) (by simp) (by simp [go_sem, Pl.a, Pl.c4]) ⟨iv_row _ _ _, trivial⟩
  have hnz : p.cs ≠ [] := fun h => by rw [h] at hne; simp at hne
  simp only [go_sem, Pl.v, Pl.a, Pl.c4, vw]
  have hs : sizedAll 1 (List.map (AVal.int IntKind.i64) p.cs) = true := by simp [sizedAll, acells, AVal.one]
  refine ⟨by rw [hs]; simp, fun h => absurd (List.map_eq_nil_iff.1 h) hnz, fun _ => ⟨by omega, ?_⟩⟩
  exact kept_new (A := []) 0 2 rfl rfl (by omega) (by simp [ren, rens]) (fun i x hx => by simp at hx) (iv_row _ _ _) rfl

def wo (l : List Int) (e : Int) : List Int := l.map fun c => if c = e then 0 else c
theorem wo_len (l : List Int) (e : Int) : (wo l e).length = l.length := by simp [wo]
theorem gt_wo (l : List Int) (e : Int) {i : Nat} (h : i < l.length) : gt (wo l e) i = if gt l i = e then 0 else gt l i := by
  unfold wo gt
  rw [List.getD_eq_getElem?_getD, List.getD_eq_getElem?_getD, List.getElem?_map, List.getElem?_eq_getElem h]; rfl
theorem without_ok {p : Pl} (hlen : p.cs.length ≤ 1000000) (hne : 1 ≤ p.cs.length) (e : Int) : Ans Try.prog n_field_without [p.v, .int .i64 e] [] (p.a (.sl 0 0 p.cs.length)) [some (.cells true 1 (iv (wo p.cs e)))] := by
  refine Ans.keep (run_fn e_field_without fun G => ?_) (by simp) (by simp [go_sem, Pl.a, Pl.c4]) ⟨iv_row _ _ _, trivial⟩
  have hc := fCopy_ok hlen hne
  have hwl := wo_len p.cs e
  simp only [go_sem, Pl.v, Pl.a, Pl.c4, vw]
  refine cN1 hc ?_ (hr := by simp [go_sem, Pl.a, Pl.c4]) (hx := iv_row _ _ _)
  simp only [go_sem, Pl.a, Pl.c4, ren, rens, iv_len]
  have hm0 : p.cs = mixTo (wo p.cs e) p.cs 0 := by simp [mixTo]
  refine loop_ind k_field_without_r8.eq_1 (fun a : Nat => a ≤ p.cs.length) (fun a => p.cs.length - a)
    (fun a => (tsets 27 [(1, .int .i64 e), (4, .ptr 1 0 0 1), (5, .ptr 3 0 0 1), (11, .sl 2 0 p.cs.length), (12, .int .i64 p.cs.length), (13, .int .i64 a)],
      [some (.cells false 4 [p.v]), some (.cells false 4 [.agg [.int .i64 0, .int .i64 0, .bool false, .nilsl]]), some (.cells true 1 (iv (mixTo (wo p.cs e) p.cs a))), some (.cells false 4 [p.a (.sl 2 0 p.cs.length)])])) 0 (Nat.zero_le _) (by simp [go_sem]) (by rw [← hm0]; rfl) ?_
  intro i hi ih
  dsimp only at hi ih ⊢
  by_cases h1 : i < p.cs.length
  · have h2 : (i : Int) < p.cs.length := by omega
    have h3 := idx_next h1 (by omega)
    have n0 : ¬ (i : Int) < 0 := by omega
    have f1 := mix_len (a := wo p.cs e) (b := p.cs) hwl (i := i) (by omega)
    rw [hwl] at f1
    have s1 := mix_set (a := wo p.cs e) (b := p.cs) hwl (i := i) (by omega)
    have g1 := mix_gt (a := wo p.cs e) (b := p.cs) hwl (i := i) (by omega)
    have gi : (iv (mixTo (wo p.cs e) p.cs i))[i]? = some (.int .i64 (gt p.cs i)) := by rw [iv_get (by omega), g1]
    rw [gt_wo _ _ h1] at s1
    have ihn := ih (i + 1) (by omega) h1
    clear ih
    by_cases hz : gt p.cs i = e
    · have hz' : (gt p.cs i == e) = true := by simp [hz]
      rw [if_pos hz] at s1
      generalize gt p.cs i = z at *
      simp only [go_sem, Pl.v, Pl.a, Pl.c4, vw, iv_len, h2, n0, f1, gi, hz', iv_set, s1, h3]
      exact ihn _ (by simp [go_sem])
    · have hz' : (gt p.cs i == e) = false := by simp [hz]
      rw [if_neg hz] at s1
      have s2 : mixTo (wo p.cs e) p.cs (i + 1) = mixTo (wo p.cs e) p.cs i := by
        rw [← s1, ← g1]
        refine gt_ext (by simp) fun j hj => ?_
        rw [gt_set _ _ _ _ (by omega)]
        split
        · rename_i h; rw [h]
        · rfl
      rw [s2] at ihn
      generalize gt p.cs i = z at *
      simp only [go_sem, Pl.v, Pl.a, Pl.c4, vw, iv_len, h2, n0, f1, gi, hz', h3]
      exact ihn _ (by simp [go_sem])
  · have h2 : ¬ (i : Int) < p.cs.length := by omega
    have hie : i = p.cs.length := by omega
    have hf1 : mixTo (wo p.cs e) p.cs i = wo p.cs e := by have := mix_end hwl; rwa [hwl, ← hie] at this
    rw [hf1]
    simp only [go_sem, Pl.v, Pl.a, Pl.c4, vw, iv_len, h2]
    exact kept_new (A := []) 0 2 rfl rfl (by omega) (by simp [ren, rens]) (fun i x hx => by simp at hx) (iv_row _ _ _) rfl

def shT (l : List Int) (e δ : Int) (i : Nat) : List Int := (List.range l.length).map fun j : Nat => if 0 ≤ (j : Int) - δ ∧ (j : Int) - δ < i ∧ gt l ((j : Int) - δ).toNat = e then e else gt (wo l e) j
theorem shT_len (l : List Int) (e δ : Int) (i : Nat) : (shT l e δ i).length = l.length := by simp [shT]
theorem gt_shT (l : List Int) (e δ : Int) (i : Nat) {j : Nat} (h : j < l.length) : gt (shT l e δ i) j = if 0 ≤ (j : Int) - δ ∧ (j : Int) - δ < i ∧ gt l ((j : Int) - δ).toNat = e then e else gt (wo l e) j := by
  unfold shT; conv => lhs; unfold gt
  rw [List.getD_eq_getElem?_getD, List.getElem?_map, List.getElem?_range h]; rfl
theorem shT_zero (l : List Int) (e δ : Int) : shT l e δ 0 = wo l e := gt_ext (by rw [shT_len, wo_len]) fun j hj => by
  rw [shT_len] at hj
  rw [gt_shT _ _ _ _ hj, if_neg (by omega)]
theorem shT_skip {l : List Int} {e : Int} (δ : Int) {i : Nat} (h : gt l i ≠ e) : shT l e δ (i + 1) = shT l e δ i := gt_ext (by rw [shT_len, shT_len]) fun j hj => by
  rw [shT_len] at hj
  rw [gt_shT _ _ _ _ hj, gt_shT _ _ _ _ hj]
  by_cases h1 : (j : Int) - δ = i
  · rw [if_neg (by rw [h1]; simp only [Int.toNat_natCast]; exact fun h2 => h h2.2.2), if_neg (by omega)]
  · by_cases h2 : 0 ≤ (j : Int) - δ ∧ (j : Int) - δ < i ∧ gt l ((j : Int) - δ).toNat = e
    · rw [if_pos ⟨h2.1, by omega, h2.2.2⟩, if_pos h2]
    · rw [if_neg (fun h3 => h2 ⟨h3.1, by omega, h3.2.2⟩), if_neg h2]
theorem shT_put {l : List Int} {e : Int} (δ : Int) {i k : Nat} (h : gt l i = e) (hk : (k : Int) = i + δ) (hkl : k < l.length) : shT l e δ (i + 1) = (shT l e δ i).set k e := gt_ext (by rw [shT_len, List.length_set, shT_len]) fun j hj => by
  rw [shT_len] at hj
  rw [gt_shT _ _ _ _ hj, gt_set _ _ _ _ (by rw [shT_len]; exact hkl), gt_shT _ _ _ _ hj]
  by_cases h1 : j = k
  · have h2 : (j : Int) - δ = i := by omega
    rw [if_pos ⟨by omega, by omega, by rw [h2]; exact h⟩, if_pos h1]
  · rw [if_neg h1]
    by_cases h2 : 0 ≤ (j : Int) - δ ∧ (j : Int) - δ < i ∧ gt l ((j : Int) - δ).toNat = e
    · rw [if_pos ⟨h2.1, by omega, h2.2.2⟩, if_pos h2]
    · rw [if_neg (fun h3 => h2 ⟨h3.1, by omega, h3.2.2⟩), if_neg h2]
theorem shT_at {l : List Int} {e : Int} (δ : Int) {i k : Nat} (hk : (k : Int) = i + δ) (hkl : k < l.length) : gt (shT l e δ i) k = gt (wo l e) k := by
  rw [gt_shT _ _ _ _ hkl, if_neg (by omega)]

def stepOf (p : Pl) (r d : Int) : Int := d * p.w + r
def Frees (p : Pl) (e r d : Int) : Prop := ∀ i, i < p.w * p.h → gt p.cs i = e → gt (wo p.cs e) ((i : Int) + stepOf p r d).toNat = 0
instance (p : Pl) (e r d : Int) : Decidable (Frees p e r d) := by unfold Frees; infer_instance
def Pl.shift (p : Pl) (e r d : Int) : Pl := { p with cs := shT p.cs e (stepOf p r d) (p.w * p.h) }

theorem inb_to {p : Pl} {i : Nat} (hi : i < p.w * p.h) {r d : Int} (h : inb p i r d) : 0 ≤ (i : Int) + stepOf p r d ∧ (i : Int) + stepOf p r d < (p.w * p.h : Nat) := by
  obtain ⟨c1, c2, c3⟩ := cell_lt hi
  unfold inb at h
  unfold stepOf
  generalize i % p.w = x at *
  generalize i / p.w = y at *
  obtain ⟨X, hX⟩ : ∃ X : Nat, (X : Int) = x + r := ⟨(x + r).toNat, by omega⟩
  obtain ⟨Y, hY⟩ : ∃ Y : Nat, (Y : Int) = y + d := ⟨(y + d).toNat, by omega⟩
  have h1 := cell_in (w := p.w) (h := p.h) (x := X) (y := Y) (by omega) (by omega)
  have h2 : (i : Int) + (d * p.w + r) = ((Y * p.w + X : Nat) : Int) := by
    push_cast
    rw [← c3, hX, hY, Int.add_mul]
    push_cast
    omega
  omega
theorem shift_ok {p : Pl} (hp : PlOK p) {e : Int} (he : 1 ≤ e ∧ e ≤ 6) {r d : Int} (hst : Stays p e r d) (hin : e ∈ p.cs) : PlOK (p.shift e r d) := by
  have hl : (shT p.cs e (stepOf p r d) (p.w * p.h)).length = p.w * p.h := by rw [shT_len, hp.len]
  refine ⟨hp.w, hp.h, hl, fun c hc => ?_, ?_⟩
  · obtain ⟨j, hj, rfl⟩ := mem_gt (l := shT p.cs e (stepOf p r d) (p.w * p.h)) hc
    rw [shT_len] at hj
    rw [gt_shT _ _ _ _ hj]
    split
    · omega
    · rw [gt_wo _ _ hj]
      have := hp.cell _ (gt_mem hj)
      split <;> omega
  · obtain ⟨i, hi, hie⟩ := mem_gt hin
    rw [hp.len] at hi
    obtain ⟨h1, h2⟩ := inb_to hi (hst i hi hie)
    refine ⟨((i : Int) + stepOf p r d).toNat, by show _ < p.w * p.h; omega, ?_⟩
    show gt (shT p.cs e (stepOf p r d) (p.w * p.h)) _ ≠ 0
    have hx : gt p.cs (((((i : Int) + stepOf p r d).toNat : Nat) : Int) - stepOf p r d).toNat = e := by
      rw [show ((((i : Int) + stepOf p r d).toNat : Nat) : Int) - stepOf p r d = i by omega]; exact hie
    rw [gt_shT _ _ _ _ (by rw [hp.len]; omega), if_pos ⟨by omega, by omega, hx⟩]
    omega

def noPl : AVal := .agg [.int .i64 0, .int .i64 0, .bool false, .nilsl]
def shErr (p : Pl) (e r d : Int) : Int := if ¬ (e ≠ 0 ∧ e ∈ p.cs) then 7 else if ¬ Stays p e r d then 2 else if ¬ Frees p e r d then 9 else 0

theorem step_64 {p : Pl} (hp : PlOK p) {i : Nat} (hi : i < p.w * p.h) {r d : Int} (h : inb p i r d) : IntKind.i64.wrap (d * p.w) = d * p.w ∧ IntKind.i64.wrap ((i : Int) + d * p.w) = i + d * p.w ∧ IntKind.i64.wrap ((i : Int) + d * p.w + r) = i + stepOf p r d := by
  have hN : p.w * p.h ≤ 256 := Nat.mul_le_mul hp.w.2 hp.h.2
  have hw := hp.w
  have hb := inb_to hi h
  obtain ⟨c1, c2, c3⟩ := cell_lt hi
  unfold inb at h
  unfold stepOf at hb ⊢
  have hr : -256 ≤ r ∧ r ≤ 256 := by
    generalize i % p.w = x at *
    omega
  have e1 : (i : Int) + d * p.w + r = i + (d * p.w + r) := by omega
  exact ⟨w64 (by omega), w64 (by omega), by rw [e1]; exact w64 (by omega)⟩

set_option maxHeartbeats 4000000 in
set_option maxRecDepth 4000 in
theorem Shift_no {p : Pl} (hp : PlOK p) (e r d : Int) (hE : shErr p e r d ≠ 0) : Ans Try.prog n_field_Shift [p.v, .int .i64 e, .int .i64 r, .int .i64 d] [] (.tup [noPl, .int .i64 (shErr p e r d)]) [] := by
  have hw := hp.w; have hh := hp.h
  have hN : p.w * p.h ≤ 256 := Nat.mul_le_mul hw.2 hh.2
  have hlen := hp.len
  have hN1 : 1 ≤ p.cs.length := by
    obtain ⟨i, hi, _⟩ := hp.some
    rw [hlen]; omega
  have c1 := Check_ok hp
  have c2 := has_ok (p := p) (by omega) e
  have c3 := leaves_ok hp e r d
  have c4 := without_ok (p := p) (by omega) hN1 e
  refine spec_run e_field_Shift fun G => ?_
  simp only [go_sem, Pl.v, Pl.a, Pl.c4, vw]
  refine cP c1 ?_
  simp only [go_sem, Pl.v, Pl.a, Pl.c4, vw]
  refine cP c2 ?_
  unfold shErr at hE ⊢
  by_cases h1 : e ≠ 0 ∧ e ∈ p.cs
  · rw [if_neg (fun h => h h1)] at hE ⊢
    rw [decide_eq_true h1]
    simp only [go_sem, Pl.v, Pl.a, Pl.c4, vw]
    refine cP c3 ?_
    by_cases h2 : Stays p e r d
    · rw [if_neg (fun h => h h2)] at hE ⊢
      rw [decide_eq_false (fun h => h h2)]
      have h3 : ¬ Frees p e r d := fun h => hE (if_neg fun h4 => h4 h)
      rw [if_pos h3]
      clear hE
      simp only [go_sem, Pl.v, Pl.a, Pl.c4, vw]
      refine cN1 c4 ?_ (hr := by simp [go_sem, Pl.a, Pl.c4]) (hx := iv_row _ _ _)
      simp only [go_sem, Pl.v, Pl.a, Pl.c4, vw, ren, rens, List.length_map]
      have hs0 := shT_zero p.cs e (stepOf p r d)
      refine loop_ind k_field_Shift_r18.eq_1 (fun i : Nat => i ≤ p.cs.length ∧ ∀ j, j < i → gt p.cs j = e → gt (wo p.cs e) ((j : Int) + stepOf p r d).toNat = 0) (fun i => p.cs.length - i)
        (fun i => (tsets 75 [(1, .int .i64 e), (2, .int .i64 r), (3, .int .i64 d), (4, .ptr 0 0 0 1), (8, .ptr 1 0 0 1), (9, .int .i64 0), (11, .ptr 3 0 0 1), (37, vw p.cs), (38, .int .i64 p.cs.length), (39, .int .i64 i)],
          [some (.cells false 4 [p.v]), some (.cells false 4 [noPl]), some (.cells true 1 (iv (shT p.cs e (stepOf p r d) i))), some (.cells false 4 [p.a (.sl 2 0 p.cs.length)])])) 0 ⟨Nat.zero_le _, fun j hj => absurd hj (Nat.not_lt_zero _)⟩ (by simp [go_sem, vw]) (by rw [hs0]; rfl) ?_
      rintro i ⟨hi, hm⟩ ih
      dsimp only at hi hm ih ⊢
      by_cases h4 : i < p.cs.length
      · have h5 : (i : Int) < p.cs.length := by omega
        have h6 := idx_next h4 (by omega)
        have n0 : ¬ (i : Int) < 0 := by omega
        have hx := gt_get h4
        have hiN : i < p.w * p.h := by omega
        by_cases hz : gt p.cs i = e
        · have hz' : (gt p.cs i != e) = false := by simp [hz]
          have hb := h2 i hiN hz
          obtain ⟨t1, t2⟩ := inb_to hiN hb
          obtain ⟨w1, w2, w3⟩ := step_64 hp hiN hb
          obtain ⟨k, hk⟩ : ∃ k : Nat, (k : Int) = i + stepOf p r d := ⟨((i : Int) + stepOf p r d).toNat, by omega⟩
          have hkl : k < p.cs.length := by omega
          have hkI : (k : Int) < p.cs.length := by omega
          have nk : ¬ (k : Int) < 0 := by omega
          have gk := shT_at (l := p.cs) (e := e) (stepOf p r d) hk hkl
          have gI : (iv (shT p.cs e (stepOf p r d) i))[k]? = some (.int .i64 (gt (wo p.cs e) k)) := by rw [iv_get (by rw [shT_len]; exact hkl), gk]
          have pu := shT_put (stepOf p r d) hz hk hkl
          have sl := shT_len p.cs e (stepOf p r d) i
          rw [← hk] at w3
          have hto : gt (wo p.cs e) ((i : Int) + stepOf p r d).toNat = gt (wo p.cs e) k := by rw [← hk]; rfl
          have ihn := ih (i + 1) (by omega)
          rw [pu] at ihn
          clear ih
          by_cases h8 : gt (wo p.cs e) k = 0
          · have h8' : (gt (wo p.cs e) k != 0) = false := by simp [h8]
            have hgo : ∀ j, j < i + 1 → gt p.cs j = e → gt (wo p.cs e) ((j : Int) + stepOf p r d).toNat = 0 := fun j hj h7 => by
              by_cases e1 : j = i
              · subst e1; rw [hto]; exact h8
              · exact hm j (by omega) h7
            simp only [go_sem, Pl.v, Pl.a, Pl.c4, vw, List.length_map, iv_len, h5, n0, hx, hz', w1, w2, w3, nk, hkI, gI, sl, iv_set, h6, h8']
            exact ihn ⟨h4, hgo⟩ _ (by simp [go_sem, vw])
          · have h8' : (gt (wo p.cs e) k != 0) = true := by simp [h8]
            simp only [go_sem, Pl.v, Pl.a, Pl.c4, vw, List.length_map, iv_len, h5, n0, hx, hz', w1, w2, w3, nk, hkI, gI, sl, iv_set, h6, h8', noPl]
        · have hz' : (gt p.cs i != e) = true := by simp [hz]
          have sk := shT_skip (l := p.cs) (e := e) (stepOf p r d) hz
          have ihn := ih (i + 1) (by omega)
          rw [sk] at ihn
          clear ih
          have hz0 := hz
          have hx0 : p.cs[i]? = some (gt p.cs i) := hx
          simp only [go_sem, vw, List.length_map, h5, n0, hx0, hz', h6]
          exact ihn ⟨h4, fun j hj h7 => by
            by_cases e1 : j = i
            · subst e1; exact absurd h7 hz0
            · exact hm j (by omega) h7⟩ _ (by simp [go_sem, vw])
      · exact absurd (fun j hj h7 => hm j (by omega) h7) h3
    · rw [if_pos h2, decide_eq_true h2]
      simp only [go_sem, noPl]
  · rw [if_pos h1, decide_eq_false h1]
    simp only [go_sem, noPl]

set_option maxHeartbeats 4000000 in
set_option maxRecDepth 4000 in
theorem Shift_yes {p : Pl} (hp : PlOK p) {e r d : Int} (he : 1 ≤ e ∧ e ≤ 6) (hE : shErr p e r d = 0) : Ans Try.prog n_field_Shift [p.v, .int .i64 e, .int .i64 r, .int .i64 d] [] (.tup [p.a (.sl 0 0 p.cs.length), .int .i64 0]) [some (.cells true 1 (iv (p.shift e r d).cs))] := by
  have hw := hp.w; have hh := hp.h
  have hN : p.w * p.h ≤ 256 := Nat.mul_le_mul hw.2 hh.2
  have hlen := hp.len
  have hN1 : 1 ≤ p.cs.length := by
    obtain ⟨i, hi, _⟩ := hp.some
    rw [hlen]; omega
  have c1 := Check_ok hp
  have c2 := has_ok (p := p) (by omega) e
  have c3 := leaves_ok hp e r d
  have c4 := without_ok (p := p) (by omega) hN1 e
  unfold shErr at hE
  have h1 : e ≠ 0 ∧ e ∈ p.cs := by
    by_cases h : e ≠ 0 ∧ e ∈ p.cs
    · exact h
    · rw [if_pos h] at hE; omega
  rw [if_neg (fun h => h h1)] at hE
  have h2 : Stays p e r d := by
    by_cases h : Stays p e r d
    · exact h
    · rw [if_pos h] at hE; omega
  rw [if_neg (fun h => h h2)] at hE
  have h3 : Frees p e r d := by
    by_cases h : Frees p e r d
    · exact h
    · rw [if_pos h] at hE; omega
  clear hE
  have c5 := Check_ok (shift_ok hp he h2 h1.2)
  have hql : (p.shift e r d).cs.length = p.cs.length := shT_len _ _ _ _
  refine Ans.keep (run_fn e_field_Shift fun G => ?_) (by simp) (by simp [go_sem, Pl.a, Pl.c4]) ⟨iv_row _ _ _, trivial⟩
  simp only [go_sem, Pl.v, Pl.a, Pl.c4, vw]
  refine cP c1 ?_
  simp only [go_sem, Pl.v, Pl.a, Pl.c4, vw]
  refine cP c2 ?_
  rw [decide_eq_true h1]
  simp only [go_sem, Pl.v, Pl.a, Pl.c4, vw]
  refine cP c3 ?_
  rw [decide_eq_false (fun h => h h2)]
  simp only [go_sem, Pl.v, Pl.a, Pl.c4, vw]
  refine cN1 c4 ?_ (hr := by simp [go_sem, Pl.a, Pl.c4]) (hx := iv_row _ _ _)
  simp only [go_sem, Pl.v, Pl.a, Pl.c4, vw, ren, rens, List.length_map]
  have hs0 := shT_zero p.cs e (stepOf p r d)
  refine loop_ind k_field_Shift_r18.eq_1 (fun i : Nat => i ≤ p.cs.length) (fun i => p.cs.length - i)
        (fun i => (tsets 75 [(1, .int .i64 e), (2, .int .i64 r), (3, .int .i64 d), (4, .ptr 0 0 0 1), (8, .ptr 1 0 0 1), (9, .int .i64 0), (11, .ptr 3 0 0 1), (37, vw p.cs), (38, .int .i64 p.cs.length), (39, .int .i64 i)],
          [some (.cells false 4 [p.v]), some (.cells false 4 [noPl]), some (.cells true 1 (iv (shT p.cs e (stepOf p r d) i))), some (.cells false 4 [p.a (.sl 2 0 p.cs.length)])])) 0 (Nat.zero_le _) (by simp [go_sem, vw]) (by rw [hs0]; rfl) ?_
  rintro i hi ih
  dsimp only at hi ih ⊢
  by_cases h4 : i < p.cs.length
  · have h5 : (i : Int) < p.cs.length := by omega
    have h6 := idx_next h4 (by omega)
    have n0 : ¬ (i : Int) < 0 := by omega
    have hx := gt_get h4
    have hiN : i < p.w * p.h := by omega
    by_cases hz : gt p.cs i = e
    · have hz' : (gt p.cs i != e) = false := by simp [hz]
      have hb := h2 i hiN hz
      obtain ⟨t1, t2⟩ := inb_to hiN hb
      obtain ⟨w1, w2, w3⟩ := step_64 hp hiN hb
      obtain ⟨k, hk⟩ : ∃ k : Nat, (k : Int) = i + stepOf p r d := ⟨((i : Int) + stepOf p r d).toNat, by omega⟩
      have hkl : k < p.cs.length := by omega
      have hkI : (k : Int) < p.cs.length := by omega
      have nk : ¬ (k : Int) < 0 := by omega
      have gk := shT_at (l := p.cs) (e := e) (stepOf p r d) hk hkl
      have gI : (iv (shT p.cs e (stepOf p r d) i))[k]? = some (.int .i64 (gt (wo p.cs e) k)) := by rw [iv_get (by rw [shT_len]; exact hkl), gk]
      have pu := shT_put (stepOf p r d) hz hk hkl
      have sl := shT_len p.cs e (stepOf p r d) i
      rw [← hk] at w3
      have hto : gt (wo p.cs e) ((i : Int) + stepOf p r d).toNat = gt (wo p.cs e) k := by rw [← hk]; rfl
      have ihn := ih (i + 1) (by omega)
      rw [pu] at ihn
      clear ih
      have h8 : gt (wo p.cs e) k = 0 := by rw [← hto]; exact h3 i hiN hz
      have h8' : (gt (wo p.cs e) k != 0) = false := by simp [h8]
      simp only [go_sem, Pl.v, Pl.a, Pl.c4, vw, List.length_map, iv_len, h5, n0, hx, hz', w1, w2, w3, nk, hkI, gI, sl, iv_set, h6, h8']
      exact ihn h4 _ (by simp [go_sem, vw])
    · have hz' : (gt p.cs i != e) = true := by simp [hz]
      have sk := shT_skip (l := p.cs) (e := e) (stepOf p r d) hz
      have ihn := ih (i + 1) (by omega)
      rw [sk] at ihn
      clear ih
      generalize gt p.cs i = z at *
      simp only [go_sem, vw, List.length_map, h5, n0, hx, hz', h6]
      exact ihn h4 _ (by simp [go_sem, vw])
  · have h5 : ¬ (i : Int) < p.cs.length := by omega
    have hie : i = p.w * p.h := by omega
    subst hie
    have hsh : shT p.cs e (stepOf p r d) (p.w * p.h) = (p.shift e r d).cs := rfl
    simp only [go_sem, Pl.v, Pl.a, Pl.c4, vw, h5, hsh, noPl]
    refine cF c5 6 ⟨.inl (pla_frz 3 (p := p.shift e r d) (j := 2) (g := true) rfl hql.symm), trivial⟩ ?_
    simp only [go_sem, Pl.v, Pl.a, Pl.c4, vw, noPl]
    exact kept_new (A := []) 0 2 rfl rfl (by omega) (by simp [ren, rens]) (fun i x hx => by simp at hx) (iv_row _ _ _) rfl

end Go.Proofs

namespace Go.Proofs
open Go Go.Sx
attribute [local irreducible] Run

set_option maxHeartbeats 8000000 in
set_option maxRecDepth 4000 in
theorem Tube_ok (w0 : Int) (a b : Int) (ha : 4 ≤ a ∧ a ≤ 16) (hb : 1 ≤ b ∧ b ≤ 16) : AnsE Try.prog n_kit_Tube [.ptr 0 0 0 1, .int .i64 a, .int .i64 b] [some (Dr w0)] (fun q : Int × Pl => PlOK q.2) (fun q => q.2.a (.sl 1 0 q.2.cs.length))
    (fun q => [some (Dr q.1), some (.cells true 1 (iv q.2.cs))]) := by
  refine AnsE.keep (run_fn e_kit_Tube fun G => ?_) (fun q hq => ⟨by simp, by simp [go_sem, Pl.a, Pl.c4], by simp only [go_sem], iv_row _ _ _, trivial⟩)
  have b1 := btw_in (w := w0) (show (4 : Int) ≤ a by omega)
  have b2 := btw_in (w := dstep w0) (show (1 : Int) ≤ b by omega)
  have t1 := between_ok w0 4 a (by omega) (by omega) (by omega)
  have t2 := between_ok (dstep w0) 1 b (by omega) (by omega) (by omega)
  have t3 := One_ok (dstep (dstep w0)) 2 (by omega)
  generalize btw w0 4 a = wi at *
  generalize btw (dstep w0) 1 b = hi at *
  generalize (upto (dstep (dstep w0)) 2 == 0) = rd at *
  obtain ⟨w, rfl⟩ : ∃ w : Nat, wi = w := ⟨wi.toNat, by omega⟩
  obtain ⟨h, rfl⟩ : ∃ h : Nat, hi = h := ⟨hi.toNat, by omega⟩
  have t4 := between_ok (dstep (dstep (dstep w0))) 1 ((w : Int) - 2) (by omega) (by omega) (by omega)
  have t5 := upto_ok (dstep (dstep (dstep (dstep w0)))) h (by omega)
  generalize btw (dstep (dstep (dstep w0))) 1 ((w : Int) - 2) = ga at *
  generalize upto (dstep (dstep (dstep (dstep w0)))) h = wi at *
  have hN : w * h ≤ 256 := by have := Nat.mul_le_mul (show w ≤ 16 by omega) (show h ≤ 16 by omega); omega
  have hN1 : 1 ≤ w * h := Nat.mul_pos (by omega) (by omega)
  have em : IntKind.i64.wrap ((w : Int) * h) = ((w * h : Nat) : Int) := by rw [w64 (by push_cast at *; omega)]; push_cast; rfl
  have ew2 : IntKind.i64.wrap ((w : Int) - 2) = (w : Int) - 2 := w64 (by omega)
  have ew1 : IntKind.i64.wrap ((w : Int) - 1) = (w : Int) - 1 := w64 (by omega)
  have wne : ¬ (w : Int) = 0 := by omega
  have hmax : (if 4 < a then a else 4) = a := by split <;> omega
  simp only [go_sem, hmax]
  refine cD t1 ?_
  simp only [go_sem]
  refine cD t2 ?_
  simp only [go_sem]
  refine cD t3 ?_
  simp only [go_sem, ew2]
  refine cD t4 ?_
  simp only [go_sem]
  refine cD t5 ?_
  simp only [go_sem]
  generalize dstep (dstep (dstep (dstep (dstep w0)))) = d0
  refine loop_ind k_kit_Tube_r16.eq_1 (fun q : Nat × Int × List Int × Heap => q.1 ≤ w * h ∧ q.2.2.1.length = q.1 ∧ Cel q.2.2.1 ∧ (1 ≤ q.1 → gt q.2.2.1 0 = 1) ∧ ((q.2.2.1 = [] ∧ q.2.2.2 = plA w h rd q.2.1) ∨ (q.2.2.1 ≠ [] ∧ ∃ g X, q.2.2.2 = plB w h rd q.2.1 q.2.2.1 g ++ X))) (fun q => w * h - q.1)
    (fun q => (tsets 84 [(0, .ptr 0 0 0 1), (6, .ptr 1 0 0 1), (7, .ptr 2 0 0 1), (8, .int .i64 ga), (9, .int .i64 wi), (10, .int .i64 q.1)], q.2.2.2)) (0, d0, [], plA w h rd d0) ⟨Nat.zero_le _, rfl, fun c hc => by simp at hc, fun h => absurd h (by omega), .inl ⟨rfl, rfl⟩⟩ (by simp [go_sem]) rfl ?_
  rintro ⟨i, d, l, H⟩ ⟨hi, hl, hc, hf, hH⟩ ih
  dsimp only at hi hl hc hf hH ih ⊢
  by_cases h1 : i < w * h
  · have h2 : (i : Int) < ((w * h : Nat) : Int) := by omega
    have h3 := idx_next h1 (by omega)
    have p1 := One_ok d 3 (by omega)
    have e1 := nat_rem i w
    have e2 := nat_quo i w
    obtain ⟨c1, c2, c3⟩ := cell_lt h1
    have ihn := fun d' c' (hc' : 0 ≤ c' ∧ c' ≤ 3) (hc1 : i = 0 → c' = 1) g X => ih (i + 1, d', l ++ [c'], plB w h rd d' (l ++ [c']) g ++ X) (by dsimp only; omega) ⟨h1, by simp [hl], hc.snoc hc', fun _ => by
      by_cases hi0 : i = 0
      · have hl0 : l = [] := List.length_eq_zero_iff.1 (by omega)
        rw [hl0, hc1 hi0]; rfl
      · have hl1 : 0 < l.length := by omega
        have := hf (by omega)
        unfold gt at this ⊢
        rw [List.getD_eq_getElem?_getD, List.getElem?_append_left hl1, ← List.getD_eq_getElem?_getD]; exact this, .inr ⟨by simp, g, X, rfl⟩⟩
    clear ih
    have hx0 : i = 0 → i % w = 0 := fun h => by rw [h]; exact Nat.zero_mod _
    simp only [plB, List.length_append, List.length_cons, List.length_nil, Nat.zero_add, List.cons_append, List.nil_append] at ihn
    generalize i % w = x0 at *
    generalize i / w = y0 at *
    have w3 : IntKind.i64.wrap ((x0 : Nat) : Int) = x0 := w64 (by omega)
    have w4 : IntKind.i64.wrap ((y0 : Nat) : Int) = y0 := w64 (by omega)
    rcases hH with ⟨rfl, rfl⟩ | ⟨hne, g, X, rfl⟩
    · simp only [List.length_nil, Nat.zero_add, List.nil_append] at ihn
      have hi0 : i = 0 := by simpa using hl.symm
      have hxz : ((x0 : Int) == 0) = true := by simp [hx0 hi0]
      simp only [plA, go_sem, em, h2, e1, e2, wne, w3, w4, hxz, h3]
      exact ⟨by decide, ihn _ 1 (by omega) (fun _ => rfl) _ [] _ (by simp [go_sem])⟩
    · have hi0 : i ≠ 0 := fun h => hne (List.length_eq_zero_iff.1 (by omega))
      cases hx : ((x0 : Int) == 0) with
      | true =>
        simp only [plB, List.cons_append, List.nil_append, go_sem, em, h2, e1, e2, wne, w3, w4, hx, h3, iv_len, iv_app]
        exact ⟨by omega, ihn _ 1 (by omega) (fun _ => rfl) _ _ _ (by simp [go_sem])⟩
      | false =>
        cases hx2 : ((x0 : Int) == (w : Int) - 1) with
        | true =>
          simp only [plB, List.cons_append, List.nil_append, go_sem, em, h2, e1, e2, wne, w3, w4, hx, ew1, hx2, h3, iv_len, iv_app]
          exact ⟨by omega, ihn _ 3 (by omega) (fun h => absurd h hi0) _ _ _ (by simp [go_sem])⟩
        | false =>
          cases hx3 : ((x0 : Int) == ga) with
          | true =>
            cases hy : ((y0 : Int) == wi) with
            | true =>
              by_cases hh1 : (1 : Int) < h
              · simp only [plB, List.cons_append, List.nil_append, go_sem, em, h2, e1, e2, wne, w3, w4, hx, ew1, hx2, hx3, hy, hh1, h3, iv_len, iv_app]
                exact ⟨by omega, ihn _ 2 (by omega) (fun h => absurd h hi0) _ _ _ (by simp [go_sem])⟩
              · simp only [plB, List.cons_append, List.nil_append, go_sem, em, h2, e1, e2, wne, w3, w4, hx, ew1, hx2, hx3, hy, hh1, h3, iv_len, iv_app]
                exact ⟨by omega, ihn _ 0 (by omega) (fun h => absurd h hi0) _ _ _ (by simp [go_sem])⟩
            | false =>
              simp only [plB, List.cons_append, List.nil_append, go_sem, em, h2, e1, e2, wne, w3, w4, hx, ew1, hx2, hx3, hy]
              refine cD p1 ?_
              cases hcase : (upto d 3 == 0) with
              | true =>
                by_cases hh1 : (1 : Int) < h
                · simp only [go_sem, hh1, h3, iv_len, iv_app]
                  exact ⟨by omega, ihn _ 2 (by omega) (fun h => absurd h hi0) _ _ _ (by simp [go_sem])⟩
                · simp only [go_sem, hh1, h3, iv_len, iv_app]
                  exact ⟨by omega, ihn _ 0 (by omega) (fun h => absurd h hi0) _ _ _ (by simp [go_sem])⟩
              | false =>
                simp only [go_sem, h3, iv_len, iv_app]
                exact ⟨by omega, ihn _ 0 (by omega) (fun h => absurd h hi0) _ _ _ (by simp [go_sem])⟩
          | false =>
            simp only [plB, List.cons_append, List.nil_append, go_sem, em, h2, e1, e2, wne, w3, w4, hx, ew1, hx2, hx3, h3, iv_len, iv_app]
            exact ⟨by omega, ihn _ 0 (by omega) (fun h => absurd h hi0) _ _ _ (by simp [go_sem])⟩
  · have h2 : ¬ (i : Int) < ((w * h : Nat) : Int) := by omega
    have hle : l.length = w * h := by omega
    have hne : l ≠ [] := fun h => by rw [h] at hle; simp at hle; omega
    obtain ⟨g, X, rfl⟩ : ∃ g X, H = plB w h rd d l g ++ X := by
      rcases hH with ⟨h, _⟩ | ⟨_, h⟩
      · exact absurd h hne
      · exact h
    simp only [plB, List.cons_append, List.nil_append, go_sem, em, h2]
    refine ⟨(d, ⟨w, h, rd, l⟩), ⟨⟨by show 1 ≤ w; omega, by show w ≤ 16; omega⟩, ⟨by show 1 ≤ h; omega, by show h ≤ 16; omega⟩, hle, fun c hcm => by have := hc c hcm; omega, 0, by show 0 < w * h; omega, by show gt l 0 ≠ 0; rw [hf (by omega)]; omega⟩, ?_⟩
    refine kept_new (A := [some (Dr d)]) 1 4 rfl rfl (by omega) ?_ (fun i x hx => ?_) (iv_row _ _ _) rfl
    · simp only [Pl.a, Pl.c4, ren, rens]; rfl
    · match i, hx with
      | 0, hx => simp at hx; subst hx; exact ⟨dr_bel _ _, rfl⟩
end Go.Proofs

namespace Go.Proofs
open Go Go.Sx
attribute [local irreducible] Run

def gm (p : Pl) : Nat := (gmax p.cs).toNat
theorem gm_eq {p : Pl} (hp : PlOK p) : (gm p : Int) = gmax p.cs := by have := hp.max; unfold gm; omega
theorem shErr_parts {p : Pl} {e r d : Int} (hE : shErr p e r d = 0) : (e ≠ 0 ∧ e ∈ p.cs) ∧ Stays p e r d := by
  unfold shErr at hE
  have h1 : e ≠ 0 ∧ e ∈ p.cs := by
    by_cases h : e ≠ 0 ∧ e ∈ p.cs
    · exact h
    · rw [if_pos h] at hE; omega
  rw [if_neg (fun h => h h1)] at hE
  refine ⟨h1, ?_⟩
  by_cases h : Stays p e r d
  · exact h
  · rw [if_pos h] at hE; omega
theorem shift_of {p : Pl} (hp : PlOK p) {e r d : Int} (he : 1 ≤ e ∧ e ≤ 6) (hE : shErr p e r d = 0) : PlOK (p.shift e r d) := shift_ok hp he (shErr_parts hE).2 (shErr_parts hE).1.2

theorem rdn_in {x c : Int} (hx : -100000000000000 ≤ x ∧ x ≤ 100000000000000) (hc : 1 ≤ c) : -100000000000000 ≤ rdn x c ∧ rdn x c ≤ 100000000000000 := by
  unfold rdn
  exact ⟨Int.le_ediv_of_mul_le (by omega) (by have := Int.mul_le_mul_of_nonneg_left hc (show (0 : Int) ≤ 100000000000000 by omega); omega), Int.ediv_le_of_le_mul (by omega) (by have := Int.mul_le_mul_of_nonneg_left hc (show (0 : Int) ≤ 100000000000000 by omega); omega)⟩
theorem rup_in {x c : Int} (hx : -100000000000000 ≤ x ∧ x ≤ 100000000000000) (hc : 1 ≤ c) : -100000000000000 ≤ rup x c ∧ rup x c ≤ 100000000000000 := by
  have := rdn_in (x := -x) (c := c) (by omega) hc
  unfold rup; unfold rdn at this; omega
theorem ampR_in {p : Pl} (hp : PlOK p) (n : Nat) {k g : Int} (hgk : g ≠ k) (a : Int) : (ampR p n k g a (gm p)).1.lo ≤ (ampR p n k g a (gm p)).1.hi ∧ -100000000000000 ≤ (ampR p n k g a (gm p)).1.lo ∧ (ampR p n k g a (gm p)).1.hi ≤ 100000000000000 := by
  unfold ampR
  by_cases hb : chkA p [k, g, a] = 0
  · have hal : ∀ x ∈ [k, g, a], x ≠ 0 ∧ x ∈ p.cs := by
      by_cases h : ∀ x ∈ [k, g, a], x ≠ 0 ∧ x ∈ p.cs
      · exact h
      · unfold chkA at hb; rw [if_neg h] at hb; omega
    have in1 := fun x (hx : x ∈ [k, g, a]) => show 1 ≤ x ∧ x ≤ gm p from by
      have h := hal x hx
      have h2 := hp.cell x h.2
      have h3 := hp.max.2.2 x h.2
      rw [gm_eq hp]; omega
    have b1 := inflR_in hp n a (k := k) (hal k (by simp)).1 (gm p)
    have b2 := inflR_in hp n g (k := k) (hal k (by simp)).1 (gm p)
    have b3 := infl_pos hp (gm_eq hp) (in1 g (by simp)) (in1 k (by simp)).1 hgk (cnt p (unitV (gm p) g) n)
    have b4 : 0 ≤ (inflR p n g k (gm p)).lo := by unfold inflR; dsimp only; omega
    rw [if_pos hb]
    split
    · exact ⟨Int.le_refl _, by show (-100000000000000 : Int) ≤ 0; omega, by show (0 : Int) ≤ 100000000000000; omega⟩
    · rename_i hl
      generalize inflR p n a k (gm p) = pl at *
      generalize inflR p n g k (gm p) = gr at *
      have r1 := rdn_in (x := 1000 * gr.lo) (c := pl.hi) (by omega) (by omega)
      have r2 := rup_in (x := 1000 * gr.hi) (c := pl.lo) (by omega) (by omega)
      exact ⟨rdn_up b4 b2.1 (by omega) b1.1, r1.1, r2.2⟩
  · rw [if_neg hb]
    exact ⟨Int.le_refl _, by show (-100000000000000 : Int) ≤ 0; omega, by show (0 : Int) ≤ 100000000000000; omega⟩

def mx3 (a b c : Int) : Int := if (if a < b then b else a) < c then c else (if a < b then b else a)
def playStep (p : Pl) (n : Nat) (k g a s0 s1 acc r d : Int) : Int :=
  if shErr p g r d = 0 then (if (ampR (p.shift g r d) n k g a (gm (p.shift g r d))).2 = 0 then mx3 acc ((ampR (p.shift g r d) n k g a (gm (p.shift g r d))).1.hi - s0) (s1 - (ampR (p.shift g r d) n k g a (gm (p.shift g r d))).1.lo) else acc) else acc
def playTo (p : Pl) (n : Nat) (k g a s0 s1 : Int) : Nat → Int
  | 0 => 0
  | 1 => playStep p n k g a s0 s1 0 1 0
  | 2 => playStep p n k g a s0 s1 (playStep p n k g a s0 s1 0 1 0) (-1) 0
  | 3 => playStep p n k g a s0 s1 (playStep p n k g a s0 s1 (playStep p n k g a s0 s1 0 1 0) (-1) 0) 0 1
  | _ => playStep p n k g a s0 s1 (playStep p n k g a s0 s1 (playStep p n k g a s0 s1 (playStep p n k g a s0 s1 0 1 0) (-1) 0) 0 1) 0 (-1)
theorem playStep_in {p : Pl} (hp : PlOK p) (n : Nat) {k g : Int} (hg : 1 ≤ g ∧ g ≤ 6) (hgk : g ≠ k) (a : Int) {s0 s1 : Int} (hs : s0 ≤ s1 ∧ -100000000000000 ≤ s0 ∧ s1 ≤ 100000000000000) {acc : Int} (h : 0 ≤ acc ∧ acc ≤ 200000000000000) (r d : Int) :
    acc ≤ playStep p n k g a s0 s1 acc r d ∧ playStep p n k g a s0 s1 acc r d ≤ 200000000000000 := by
  unfold playStep
  by_cases hE : shErr p g r d = 0
  · have ab := ampR_in (shift_of hp hg hE) n hgk a
    rw [if_pos hE]
    generalize ampR (p.shift g r d) n k g a (gm (p.shift g r d)) = am at *
    split
    · unfold mx3
      split <;> split <;> omega
    · omega
  · rw [if_neg hE]; omega
theorem playTo_in {p : Pl} (hp : PlOK p) (n : Nat) {k g : Int} (hg : 1 ≤ g ∧ g ≤ 6) (hgk : g ≠ k) (a : Int) {s0 s1 : Int} (hs : s0 ≤ s1 ∧ -100000000000000 ≤ s0 ∧ s1 ≤ 100000000000000) (i : Nat) (hi : i ≤ 4) : 0 ≤ playTo p n k g a s0 s1 i ∧ playTo p n k g a s0 s1 i ≤ 200000000000000 := by
  have e0 : (0 : Int) ≤ 0 ∧ (0 : Int) ≤ 200000000000000 := by omega
  have e1 := playStep_in hp n hg hgk a hs e0 1 0
  have e2 := playStep_in hp n hg hgk a hs (acc := playStep p n k g a s0 s1 0 1 0) (by omega) (-1) 0
  have e3 := playStep_in hp n hg hgk a hs (acc := playStep p n k g a s0 s1 (playStep p n k g a s0 s1 0 1 0) (-1) 0) (by omega) 0 1
  have e4 := playStep_in hp n hg hgk a hs (acc := playStep p n k g a s0 s1 (playStep p n k g a s0 s1 (playStep p n k g a s0 s1 0 1 0) (-1) 0) 0 1) (by omega) 0 (-1)
  have hc : i = 0 ∨ i = 1 ∨ i = 2 ∨ i = 3 ∨ i = 4 := by omega
  rcases hc with rfl | rfl | rfl | rfl | rfl <;> simp only [playTo] <;> omega

def playR (p : Pl) (n : Nat) (k g a : Int) : Int × Int := if (ampR p n k g a (gm p)).2 = 0 then (playTo p n k g a (ampR p n k g a (gm p)).1.lo (ampR p n k g a (gm p)).1.hi 4, 0) else (0, (ampR p n k g a (gm p)).2)

set_option maxHeartbeats 8000000 in
set_option maxRecDepth 4000 in
theorem Play_ok {p : Pl} (hp : PlOK p) {n : Nat} (hn : n ≤ 200) {k g : Int} (hg : 1 ≤ g ∧ g ≤ 6) (hgk : g ≠ k) (a : Int) :
    Ans Try.prog n_field_Play [p.v, .int .i64 n, .int .i64 k, .int .i64 g, .int .i64 a] [] (.tup [.int .i64 (playR p n k g a).1, .int .i64 (playR p n k g a).2]) [] := by
  have A0 := Amp_ok hp (gm_eq hp) hn k g a
  have hs := ampR_in hp n hgk a
  unfold playR
  generalize ampR p n k g a (gm p) = A at *
  obtain ⟨⟨s0, s1⟩, se⟩ := A
  dsimp only at A0 hs ⊢
  have u1 : IntKind.i64.wrap 1 = 1 := rfl
  have u2 : IntKind.i64.wrap 2 = 2 := rfl
  have u3 : IntKind.i64.wrap 3 = 3 := rfl
  have u4 : IntKind.i64.wrap 4 = 4 := rfl
  refine spec_run e_field_Play fun G => ?_
  simp only [go_sem, Pl.v, Pl.a, Pl.c4, vw]
  refine cP A0 ?_ (hr := by simp only [go_sem, Rg.v])
  by_cases hse : se = 0
  · have hse' : (se != 0) = false := by simp [hse]
    rw [if_pos hse]
    generalize hP : playTo p n k g a s0 s1 4 = P4
    simp only [go_sem, Rg.v, hse']
    refine loop_ind k_field_Play_r14.eq_1 (fun q : Nat × Heap => q.1 ≤ 4) (fun q => 4 - q.1)
      (fun q => (tsets 78 [(1, .int .i64 n), (2, .int .i64 k), (3, .int .i64 g), (4, .int .i64 a), (5, .ptr 0 0 0 1), (12, .ptr 1 0 0 1), (14, .int .i64 (playTo p n k g a s0 s1 q.1)), (37, .agg [.int .i64 1, .int .i64 0, .int .i64 (-1), .int .i64 0, .int .i64 0, .int .i64 1, .int .i64 0, .int .i64 (-1)]), (38, .int .i64 q.1)],
        some (.cells false 4 [p.v]) :: some (.cells false 2 [.agg [.int .i64 s0, .int .i64 s1]]) :: q.2)) (0, []) (Nat.zero_le _) (by simp [go_sem, playTo]) rfl ?_
    rintro ⟨i, X⟩ hi ih
    dsimp only at hi ih ⊢
    have hc : i = 0 ∨ i = 1 ∨ i = 2 ∨ i = 3 ∨ i = 4 := by omega
    rcases hc with rfl | rfl | rfl | rfl | rfl
    · -- step 0
      have ihn := fun X => ih (0 + 1, X) (by dsimp only; omega) (by show 0 + 1 ≤ 4; omega)
      clear ih hP
      have hpt : playTo p n k g a s0 s1 (0 + 1) = playStep p n k g a s0 s1 (playTo p n k g a s0 s1 0) 1 0 := rfl
      have bnd := playTo_in hp n hg hgk a hs 0 (by omega)
      simp only [hpt] at ihn
      unfold playStep at ihn
      clear hpt
      generalize playTo p n k g a s0 s1 0 = acc at *
      by_cases hE : shErr p g 1 0 = 0
      · have SY := Shift_yes hp hg hE
        have hq := shift_of hp hg hE
        have hql : (p.shift g 1 0).cs.length = p.cs.length := shT_len _ _ _ _
        have AM := Amp_ok hq (gm_eq hq) hn k g a
        have ab := ampR_in hq n hgk a
        rw [if_pos hE] at ihn
        generalize ampR (p.shift g 1 0) n k g a (gm (p.shift g 1 0)) = am at *
        obtain ⟨⟨a0, a1⟩, ae⟩ := am
        dsimp only at AM ihn ab
        simp only [go_sem, Rg.v, u1, u2, u3, u4, Pl.v, Pl.a, Pl.c4, vw]
        refine cN1 SY ?_ (hr := by simp [go_sem, Pl.a, Pl.c4]) (hx := iv_row _ _ _)
        simp only [go_sem, ren, rens, Pl.a, Pl.c4, vw, Pl.v]
        refine cF AM 6 ⟨.inl (pla_frz 3 (p := p.shift g 1 0) (j := X.length + 3) (g := true) (by simp) hql.symm), .inl rfl, .inl rfl, .inl rfl, .inl rfl, trivial⟩ ?_ (hr := by simp only [go_sem, Rg.v]) (hnv := by simp only [go_sem, Rg.v])
        by_cases hae : ae = 0
        · have hae' : (ae == 0) = true := by simp [hae]
          have z1 : IntKind.i64.wrap (a1 - s0) = a1 - s0 := w64 (by omega)
          have z2 : IntKind.i64.wrap (s1 - a0) = s1 - a0 := w64 (by omega)
          rw [if_pos hae] at ihn
          unfold mx3 at ihn
          simp only [go_sem, Rg.v, hae', z1, z2, u1, u2, u3, u4]
          exact ihn _ _ (by simp [go_sem, u1, u2, u3, u4])
        · have hae' : (ae == 0) = false := by simp [hae]
          rw [if_neg hae] at ihn
          simp only [go_sem, Rg.v, hae', u1, u2, u3, u4]
          exact ihn _ _ (by simp [go_sem, u1, u2, u3, u4])
      · have SN := Shift_no hp g 1 0 hE
        have hE' : (shErr p g 1 0 != 0) = true := by simp [hE]
        rw [if_neg hE] at ihn
        simp only [go_sem, Rg.v, u1, u2, u3, u4, Pl.v, Pl.a, Pl.c4, vw]
        refine cP SN ?_ (hb := by simp only [go_sem, noPl]) (hr := by simp only [go_sem, noPl])
        simp only [go_sem, noPl, hE', u1, u2, u3, u4, Pl.v, Pl.a, Pl.c4, vw]
        exact ihn _ _ (by simp [go_sem, u1, u2, u3, u4])
    · -- step 1
      have ihn := fun X => ih (1 + 1, X) (by dsimp only; omega) (by show 1 + 1 ≤ 4; omega)
      clear ih hP
      have hpt : playTo p n k g a s0 s1 (1 + 1) = playStep p n k g a s0 s1 (playTo p n k g a s0 s1 1) (-1) 0 := rfl
      have bnd := playTo_in hp n hg hgk a hs 1 (by omega)
      simp only [hpt] at ihn
      unfold playStep at ihn
      clear hpt
      generalize playTo p n k g a s0 s1 1 = acc at *
      by_cases hE : shErr p g (-1) 0 = 0
      · have SY := Shift_yes hp hg hE
        have hq := shift_of hp hg hE
        have hql : (p.shift g (-1) 0).cs.length = p.cs.length := shT_len _ _ _ _
        have AM := Amp_ok hq (gm_eq hq) hn k g a
        have ab := ampR_in hq n hgk a
        rw [if_pos hE] at ihn
        generalize ampR (p.shift g (-1) 0) n k g a (gm (p.shift g (-1) 0)) = am at *
        obtain ⟨⟨a0, a1⟩, ae⟩ := am
        dsimp only at AM ihn ab
        simp only [go_sem, Rg.v, u1, u2, u3, u4, Pl.v, Pl.a, Pl.c4, vw]
        refine cN1 SY ?_ (hr := by simp [go_sem, Pl.a, Pl.c4]) (hx := iv_row _ _ _)
        simp only [go_sem, ren, rens, Pl.a, Pl.c4, vw, Pl.v]
        refine cF AM 6 ⟨.inl (pla_frz 3 (p := p.shift g (-1) 0) (j := X.length + 3) (g := true) (by simp) hql.symm), .inl rfl, .inl rfl, .inl rfl, .inl rfl, trivial⟩ ?_ (hr := by simp only [go_sem, Rg.v]) (hnv := by simp only [go_sem, Rg.v])
        by_cases hae : ae = 0
        · have hae' : (ae == 0) = true := by simp [hae]
          have z1 : IntKind.i64.wrap (a1 - s0) = a1 - s0 := w64 (by omega)
          have z2 : IntKind.i64.wrap (s1 - a0) = s1 - a0 := w64 (by omega)
          rw [if_pos hae] at ihn
          unfold mx3 at ihn
          simp only [go_sem, Rg.v, hae', z1, z2, u1, u2, u3, u4]
          exact ihn _ _ (by simp [go_sem, u1, u2, u3, u4])
        · have hae' : (ae == 0) = false := by simp [hae]
          rw [if_neg hae] at ihn
          simp only [go_sem, Rg.v, hae', u1, u2, u3, u4]
          exact ihn _ _ (by simp [go_sem, u1, u2, u3, u4])
      · have SN := Shift_no hp g (-1) 0 hE
        have hE' : (shErr p g (-1) 0 != 0) = true := by simp [hE]
        rw [if_neg hE] at ihn
        simp only [go_sem, Rg.v, u1, u2, u3, u4, Pl.v, Pl.a, Pl.c4, vw]
        refine cP SN ?_ (hb := by simp only [go_sem, noPl]) (hr := by simp only [go_sem, noPl])
        simp only [go_sem, noPl, hE', u1, u2, u3, u4, Pl.v, Pl.a, Pl.c4, vw]
        exact ihn _ _ (by simp [go_sem, u1, u2, u3, u4])
    · -- step 2
      have ihn := fun X => ih (2 + 1, X) (by dsimp only; omega) (by show 2 + 1 ≤ 4; omega)
      clear ih hP
      have hpt : playTo p n k g a s0 s1 (2 + 1) = playStep p n k g a s0 s1 (playTo p n k g a s0 s1 2) 0 1 := rfl
      have bnd := playTo_in hp n hg hgk a hs 2 (by omega)
      simp only [hpt] at ihn
      unfold playStep at ihn
      clear hpt
      generalize playTo p n k g a s0 s1 2 = acc at *
      by_cases hE : shErr p g 0 1 = 0
      · have SY := Shift_yes hp hg hE
        have hq := shift_of hp hg hE
        have hql : (p.shift g 0 1).cs.length = p.cs.length := shT_len _ _ _ _
        have AM := Amp_ok hq (gm_eq hq) hn k g a
        have ab := ampR_in hq n hgk a
        rw [if_pos hE] at ihn
        generalize ampR (p.shift g 0 1) n k g a (gm (p.shift g 0 1)) = am at *
        obtain ⟨⟨a0, a1⟩, ae⟩ := am
        dsimp only at AM ihn ab
        simp only [go_sem, Rg.v, u1, u2, u3, u4, Pl.v, Pl.a, Pl.c4, vw]
        refine cN1 SY ?_ (hr := by simp [go_sem, Pl.a, Pl.c4]) (hx := iv_row _ _ _)
        simp only [go_sem, ren, rens, Pl.a, Pl.c4, vw, Pl.v]
        refine cF AM 6 ⟨.inl (pla_frz 3 (p := p.shift g 0 1) (j := X.length + 3) (g := true) (by simp) hql.symm), .inl rfl, .inl rfl, .inl rfl, .inl rfl, trivial⟩ ?_ (hr := by simp only [go_sem, Rg.v]) (hnv := by simp only [go_sem, Rg.v])
        by_cases hae : ae = 0
        · have hae' : (ae == 0) = true := by simp [hae]
          have z1 : IntKind.i64.wrap (a1 - s0) = a1 - s0 := w64 (by omega)
          have z2 : IntKind.i64.wrap (s1 - a0) = s1 - a0 := w64 (by omega)
          rw [if_pos hae] at ihn
          unfold mx3 at ihn
          simp only [go_sem, Rg.v, hae', z1, z2, u1, u2, u3, u4]
          exact ihn _ _ (by simp [go_sem, u1, u2, u3, u4])
        · have hae' : (ae == 0) = false := by simp [hae]
          rw [if_neg hae] at ihn
          simp only [go_sem, Rg.v, hae', u1, u2, u3, u4]
          exact ihn _ _ (by simp [go_sem, u1, u2, u3, u4])
      · have SN := Shift_no hp g 0 1 hE
        have hE' : (shErr p g 0 1 != 0) = true := by simp [hE]
        rw [if_neg hE] at ihn
        simp only [go_sem, Rg.v, u1, u2, u3, u4, Pl.v, Pl.a, Pl.c4, vw]
        refine cP SN ?_ (hb := by simp only [go_sem, noPl]) (hr := by simp only [go_sem, noPl])
        simp only [go_sem, noPl, hE', u1, u2, u3, u4, Pl.v, Pl.a, Pl.c4, vw]
        exact ihn _ _ (by simp [go_sem, u1, u2, u3, u4])
    · -- step 3
      have ihn := fun X => ih (3 + 1, X) (by dsimp only; omega) (by show 3 + 1 ≤ 4; omega)
      clear ih hP
      have hpt : playTo p n k g a s0 s1 (3 + 1) = playStep p n k g a s0 s1 (playTo p n k g a s0 s1 3) 0 (-1) := rfl
      have bnd := playTo_in hp n hg hgk a hs 3 (by omega)
      simp only [hpt] at ihn
      unfold playStep at ihn
      clear hpt
      generalize playTo p n k g a s0 s1 3 = acc at *
      by_cases hE : shErr p g 0 (-1) = 0
      · have SY := Shift_yes hp hg hE
        have hq := shift_of hp hg hE
        have hql : (p.shift g 0 (-1)).cs.length = p.cs.length := shT_len _ _ _ _
        have AM := Amp_ok hq (gm_eq hq) hn k g a
        have ab := ampR_in hq n hgk a
        rw [if_pos hE] at ihn
        generalize ampR (p.shift g 0 (-1)) n k g a (gm (p.shift g 0 (-1))) = am at *
        obtain ⟨⟨a0, a1⟩, ae⟩ := am
        dsimp only at AM ihn ab
        simp only [go_sem, Rg.v, u1, u2, u3, u4, Pl.v, Pl.a, Pl.c4, vw]
        refine cN1 SY ?_ (hr := by simp [go_sem, Pl.a, Pl.c4]) (hx := iv_row _ _ _)
        simp only [go_sem, ren, rens, Pl.a, Pl.c4, vw, Pl.v]
        refine cF AM 6 ⟨.inl (pla_frz 3 (p := p.shift g 0 (-1)) (j := X.length + 3) (g := true) (by simp) hql.symm), .inl rfl, .inl rfl, .inl rfl, .inl rfl, trivial⟩ ?_ (hr := by simp only [go_sem, Rg.v]) (hnv := by simp only [go_sem, Rg.v])
        by_cases hae : ae = 0
        · have hae' : (ae == 0) = true := by simp [hae]
          have z1 : IntKind.i64.wrap (a1 - s0) = a1 - s0 := w64 (by omega)
          have z2 : IntKind.i64.wrap (s1 - a0) = s1 - a0 := w64 (by omega)
          rw [if_pos hae] at ihn
          unfold mx3 at ihn
          simp only [go_sem, Rg.v, hae', z1, z2, u1, u2, u3, u4]
          exact ihn _ _ (by simp [go_sem, u1, u2, u3, u4])
        · have hae' : (ae == 0) = false := by simp [hae]
          rw [if_neg hae] at ihn
          simp only [go_sem, Rg.v, hae', u1, u2, u3, u4]
          exact ihn _ _ (by simp [go_sem, u1, u2, u3, u4])
      · have SN := Shift_no hp g 0 (-1) hE
        have hE' : (shErr p g 0 (-1) != 0) = true := by simp [hE]
        rw [if_neg hE] at ihn
        simp only [go_sem, Rg.v, u1, u2, u3, u4, Pl.v, Pl.a, Pl.c4, vw]
        refine cP SN ?_ (hb := by simp only [go_sem, noPl]) (hr := by simp only [go_sem, noPl])
        simp only [go_sem, noPl, hE', u1, u2, u3, u4, Pl.v, Pl.a, Pl.c4, vw]
        exact ihn _ _ (by simp [go_sem, u1, u2, u3, u4])
    · rw [hP]
      simp only [go_sem]
  · have hse' : (se != 0) = true := by simp [hse]
    rw [if_neg hse]
    simp only [go_sem, Rg.v, hse']
end Go.Proofs

namespace Go.Proofs
open Go Go.Sx
attribute [local irreducible] Run

structure Rp where
  w : Int
  h : Int
  rd : Bool
  cs : List Int
def Rp.v (p : Rp) : AVal := .agg [.int .i64 p.w, .int .i64 p.h, .bool p.rd, vw p.cs]
def Rp.pl (p : Rp) : Pl := ⟨p.w.toNat, p.h.toNat, p.rd, p.cs⟩
def Rp.err (p : Rp) : Int :=
  if ¬ ((1 ≤ p.w ∧ p.w ≤ 16) ∧ (1 ≤ p.h ∧ p.h ≤ 16)) then 2 else if (p.cs.length : Int) ≠ p.w * p.h then 3 else if ¬ ∀ c ∈ p.cs, 0 ≤ c ∧ c ≤ 6 then 2 else if gmax p.cs = 0 then 7 else 0
theorem Rp.ok {p : Rp} (h : p.err = 0) : PlOK p.pl ∧ p.v = p.pl.v := by
  unfold Rp.err at h
  by_cases h1 : (1 ≤ p.w ∧ p.w ≤ 16) ∧ (1 ≤ p.h ∧ p.h ≤ 16)
  · rw [if_neg (fun h => h h1)] at h
    by_cases h2 : (p.cs.length : Int) = p.w * p.h
    · rw [if_neg (fun h => h h2)] at h
      by_cases h3 : ∀ c ∈ p.cs, 0 ≤ c ∧ c ≤ 6
      · rw [if_neg (fun h => h h3)] at h
        by_cases h4 : gmax p.cs = 0
        · rw [if_pos h4] at h; omega
        · have ew : ((p.w.toNat : Nat) : Int) = p.w := by omega
          have eh : ((p.h.toNat : Nat) : Int) = p.h := by omega
          have hl : p.cs.length = p.w.toNat * p.h.toNat := by
            have : (p.cs.length : Int) = ((p.w.toNat * p.h.toNat : Nat) : Int) := by push_cast; rw [ew, eh, h2]
            omega
          refine ⟨⟨by show 1 ≤ p.w.toNat ∧ p.w.toNat ≤ 16; omega, by show 1 ≤ p.h.toNat ∧ p.h.toNat ≤ 16; omega, hl, h3, ?_⟩, ?_⟩
          · have hm : gmax p.cs ∈ p.cs := by
              rcases mxL_or p.cs 0 with h | h
              · exact absurd h h4
              · exact h
            obtain ⟨i, hi, hie⟩ := mem_gt hm
            exact ⟨i, by show i < p.w.toNat * p.h.toNat; omega, by show gt p.cs i ≠ 0; rw [hie]; exact h4⟩
          · unfold Rp.v Pl.v Pl.a Pl.c4 Rp.pl
            simp only [ew, eh]
      · rw [if_pos h3] at h; omega
    · rw [if_pos h2] at h; omega
  · rw [if_pos h1] at h; omega

set_option maxHeartbeats 2000000 in
theorem Check_raw (p : Rp) (hlen : p.cs.length ≤ 1000000) : Ans Try.prog n_field_Check [p.v] [] (.int .i64 p.err) [] := by
  by_cases hok : p.err = 0
  · obtain ⟨h1, h2⟩ := Rp.ok hok
    rw [hok, h2]
    exact Check_ok h1
  · unfold Rp.err at hok ⊢
    refine spec_run e_field_Check fun G => ?_
    simp only [go_sem, Rp.v, vw]
    by_cases hw : 1 ≤ p.w ∧ p.w ≤ 16
    · refine cP (within_yes hw) ?_
      simp only [go_sem]
      by_cases hh : 1 ≤ p.h ∧ p.h ≤ 16
      · rw [if_neg (fun h => h ⟨hw, hh⟩)] at hok ⊢
        refine cP (within_yes hh) ?_
        obtain ⟨w, hw'⟩ : ∃ w : Nat, (w : Int) = p.w := ⟨p.w.toNat, by omega⟩
        obtain ⟨h, hh'⟩ : ∃ h : Nat, (h : Int) = p.h := ⟨p.h.toNat, by omega⟩
        have hN : w * h ≤ 256 := Nat.mul_le_mul (show w ≤ 16 by omega) (show h ≤ 16 by omega)
        have em : IntKind.i64.wrap (p.w * p.h) = p.w * p.h := by rw [← hw', ← hh', w64 (by push_cast at *; omega)]
        by_cases hl : (p.cs.length : Int) = p.w * p.h
        · rw [if_neg (fun h => h hl)] at hok ⊢
          have hl' : ((p.cs.length : Int) != p.w * p.h) = false := by simp [hl]
          simp only [go_sem, List.length_map, em, hl']
          refine loop_ind k_field_Check_r11.eq_1 (fun a : Nat × Heap => a.1 ≤ p.cs.length ∧ ∀ c ∈ p.cs.take a.1, 0 ≤ c ∧ c ≤ 6) (fun a => p.cs.length - a.1)
            (fun a => (tsets 41 [(1, .ptr 0 0 0 1), (2, .int .i64 0), (25, vw p.cs), (26, .int .i64 p.cs.length), (27, .int .i64 a.1)], some (.cells false 4 [p.v]) :: a.2)) (0, []) ⟨Nat.zero_le _, by simp⟩ (by simp [go_sem, vw]) rfl ?_
          rintro ⟨i, X⟩ ⟨hi, hm⟩ ih
          dsimp only at hi hm ih ⊢
          by_cases h1 : i < p.cs.length
          · have h2 : (i : Int) < p.cs.length := by omega
            have h3 := idx_next h1 (by omega)
            have n0 : ¬ (i : Int) < 0 := by omega
            have hx := gt_get h1
            have hT : p.cs.take (i + 1) = p.cs.take i ++ [gt p.cs i] := by rw [List.take_add_one, gt_get h1]; rfl
            have hmem := gt_mem h1
            have ihn := fun X => ih (i + 1, X) (by dsimp only; omega)
            clear ih
            simp only [hT] at ihn
            generalize gt p.cs i = z at *
            simp only [go_sem, vw, List.length_map, h2, n0, hx]
            by_cases hz : 0 ≤ z ∧ z ≤ 6
            · refine cP (within_yes hz) ?_
              simp only [go_sem, h3]
              exact ihn _ ⟨h1, fun x hx' => by
                rcases List.mem_append.1 hx' with h | h
                · exact hm x h
                · simp only [List.mem_singleton] at h
                  rw [h]; exact hz⟩ _ (by simp [go_sem, vw])
            · rw [if_pos fun h => hz (h z hmem)]
              refine cP (within_no hz) ?_
              simp only [go_sem]
          · have h2 : ¬ (i : Int) < p.cs.length := by omega
            rw [List.take_of_length_le (by omega)] at hm
            rw [if_neg (fun h => h hm)] at hok ⊢
            have h4 : gmax p.cs = 0 := by
              by_cases h : gmax p.cs = 0
              · exact h
              · rw [if_neg h] at hok; omega
            rw [if_pos h4]
            have hne : p.cs ≠ [] := fun hn => by
              rw [hn] at hl
              simp only [List.length_nil] at hl
              have := Int.mul_pos (show (0 : Int) < p.w by omega) (show (0 : Int) < p.h by omega)
              omega
            have hmx := max_ok hne (fun c hc => (hm c hc).1) hlen
            rw [h4] at hmx
            simp only [go_sem, Rp.v, vw, List.length_map, h2]
            refine cP hmx ?_
            simp only [go_sem]
        · rw [if_pos hl]
          have hl' : ((p.cs.length : Int) != p.w * p.h) = true := by simp [hl]
          simp only [go_sem, List.length_map, em, hl']
      · rw [if_pos (fun h => hh h.2)]
        refine cP (within_no hh) ?_
        simp only [go_sem]
    · rw [if_pos (fun h => hw h.1)]
      refine cP (within_no hw) ?_
      simp only [go_sem]

def numErr (l : List Int) : Int := if ∀ x ∈ l, -1000000 ≤ x ∧ x ≤ 1000000 then 0 else 2
def Rp.errV (p : Rp) (v : List Int) : Int := if p.err ≠ 0 then p.err else if (v.length : Int) ≠ gmax p.cs then 3 else numErr v
end Go.Proofs

namespace Go.Proofs
open Go Go.Sx
attribute [local irreducible] Run

def Rp.errS (p : Rp) (v : List Int) (n : Int) : Int := if p.errV v ≠ 0 then p.errV v else if 0 ≤ n ∧ n ≤ 200 then 0 else 2
theorem Rp.okS {p : Rp} {v : List Int} {n : Int} (h : p.errS v n = 0) : (PlOK p.pl ∧ p.v = p.pl.v) ∧ VOK v ∧ (v.length : Int) = gmax p.pl.cs ∧ 0 ≤ n ∧ n ≤ 200 := by
  unfold Rp.errS at h
  by_cases h1 : p.errV v = 0
  · rw [if_neg fun h2 => h2 h1] at h
    have hn : 0 ≤ n ∧ n ≤ 200 := by
      by_cases h2 : 0 ≤ n ∧ n ≤ 200
      · exact h2
      · rw [if_neg h2] at h; omega
    unfold Rp.errV at h1
    by_cases h3 : p.err = 0
    · rw [if_neg fun h4 => h4 h3] at h1
      by_cases h4 : (v.length : Int) = gmax p.cs
      · rw [if_neg fun h5 => h5 h4] at h1
        refine ⟨Rp.ok h3, ?_, h4, hn⟩
        unfold numErr at h1
        by_cases h5 : ∀ x ∈ v, -1000000 ≤ x ∧ x ≤ 1000000
        · exact h5
        · rw [if_neg h5] at h1; omega
      · rw [if_pos h4] at h1; omega
    · rw [if_pos h3] at h1; exact absurd h1 h3
  · rw [if_pos h1] at h; exact absurd h h1

end Go.Proofs

