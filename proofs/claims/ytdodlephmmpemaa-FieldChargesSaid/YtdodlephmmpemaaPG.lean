/- A part of the proof. -/
import Derived.Test.YtdodlephmmpemaaPF
set_option linter.unusedSimpArgs false
set_option linter.unusedVariables false
namespace Go.Proofs
open Go Go.Sx
attribute [local irreducible] Run

theorem lsum_lim {p : Pl} (hp : PlOK p) (i : Nat) {f : Nat → Int} : ∀ l : List Int, (∀ b ∈ l, -2000000 ≤ f b.toNat ∧ f b.toNat ≤ 2000000) → -64000000 * (l.length : Int) ≤ lsum p i f l ∧ lsum p i f l ≤ 64000000 * (l.length : Int)
  | [], _ => by simp [lsum]
  | b :: l, h => by
    have ih := lsum_lim hp i l fun c hc => h c (by simp [hc])
    have h2 := h b (by simp)
    have h3 := wgI_le hp i b
    have h4 := wgI_nonneg p i b
    have h5 := Int.mul_le_mul_of_nonneg_left h2.1 h4
    have h6 := Int.mul_le_mul_of_nonneg_left h2.2 h4
    rw [lsum, List.length_cons]
    push_cast
    omega
def chV (p : Pl) (v a : List Int) (e : Int) : Nat → Int := fun n => if gt p.cs n = e then 0 else vo v e - gt a n
theorem chV_sum {p : Pl} (hp : PlOK p) {v a : List Int} {e : Int} (hA : ∀ i, i < p.w * p.h → p.el i → gt a i = vo v (gt p.cs i)) {i : Nat} (hi : i < p.w * p.h) (he0 : e ≠ 0) (he : gt p.cs i = e) : wsum (nbs p i) (chC p a e i) = lsum p i (chV p v a e) (nrL p i) := by
  rw [nr_sum hp hi]
  refine wsum_congr fun q _ => ?_
  unfold chC chV
  rw [hA i hi (by unfold Pl.el; rw [he]; exact he0), he]
theorem chV_bd {p : Pl} {v a : List Int} (hv : VOK v) (ha : AtOK p a) (e : Int) {n : Nat} (hn : n < p.w * p.h) : -2000000 ≤ chV p v a e n ∧ chV p v a e n ≤ 2000000 := by
  have h1 := ha.bd n hn
  have h2 := vo_in hv e
  unfold chV
  split <;> omega

set_option maxHeartbeats 4000000 in
theorem rCharge_ok {p : Pl} (hp : PlOK p) {v : List Int} (hv : VOK v) {la ha : List Int} (hla : AtOK p la) (hha : AtOK p ha) (eL : ∀ i, i < p.w * p.h → p.el i → gt la i = vo v (gt p.cs i)) (eH : ∀ i, i < p.w * p.h → p.el i → gt ha i = vo v (gt p.cs i)) (s : Nat) (t : Bool) (e : Int) (he : 1 ≤ e ∧ e ≤ v.length ∧ v.length ≤ 1000000) :
    Ans Try.prog n_ref01_charge [p.v, vw v, fldW la ha s t, .int .i64 e] [] (Rg.v ⟨chg p ha e, chg p la e⟩) [] := by
  have hw := hp.w; have hh := hp.h
  have hN : p.w * p.h ≤ 256 := Nat.mul_le_mul hw.2 hh.2
  have hlen := hp.len
  have z1 : IntKind.i64.wrap (e - 1) = e - 1 := w64 (by omega)
  have z2 : ¬ e - 1 < 0 := by omega
  have z3 : e - 1 < v.length := by omega
  have hxv : v[(e - 1).toNat]? = some (vo v e) := gt_get (by omega)
  have hvb := vo_in hv e
  refine spec_run e_ref01_charge fun G => ?_
  simp only [go_sem, Pl.v, Pl.a, Pl.c4, vw, fldW]
  refine loop_ind k_ref01_charge_r15.eq_1 (fun a : Nat × Heap => a.1 ≤ p.cs.length) (fun a => p.cs.length - a.1)
    (fun a => (tsets 89 [(1, vw v), (3, .int .i64 e), (4, .ptr 0 0 0 1), (6, .ptr 1 0 0 1), (8, .ptr 2 0 0 1), (9, .ptr 3 0 0 1), (10, .int .i64 a.1)],
      some (.cells false 4 [p.v]) :: some (.cells false 4 [fldW la ha s t]) :: some (.cells false 2 [.agg [.int .i64 0, .int .i64 0]]) :: some (.cells false 2 [.agg [.int .i64 (chTo p ha e a.1), .int .i64 (chTo p la e a.1)]]) :: a.2)) (0, []) (Nat.zero_le _) (by simp [go_sem, vw]) (by simp [Pl.v, Pl.a, Pl.c4, vw, fldW, chTo]) ?_
  rintro ⟨i, X⟩ hi ih
  dsimp only at hi ih ⊢
  by_cases h1 : i < p.cs.length
  · have h2 : (i : Int) < p.cs.length := by omega
    have h3 := idx_next h1 (by omega)
    have n0 : ¬ (i : Int) < 0 := by omega
    have hiN : i < p.w * p.h := by rw [← hlen]; exact h1
    have hx := gt_get h1
    have ihn := fun X => ih (i + 1, X) (by dsimp only; omega) h1
    clear ih
    dsimp only at ihn
    by_cases hz : gt p.cs i = e
    · have hz' : (gt p.cs i != e) = false := by simp [hz]
      have hA := around_ok' hp hiN
      have c1 := chTo_bd hp hla e i (by omega)
      have c2 := chTo_bd hp hha e i (by omega)
      have q1 := chV_sum hp eL hiN (by omega) hz
      have q2 := chV_sum hp eH hiN (by omega) hz
      have hmem := fun b (hb : b ∈ nrL p i) => nr_in hb
      have hnl := nr_len p i
      have hW := fun b => weightI_ok hp hiN b
      have t1 : chTo p la e (i + 1) = chTo p la e i + lsum p i (chV p v la e) (nrL p i) := by rw [chTo, if_pos hz, q1]
      have t2 : chTo p ha e (i + 1) = chTo p ha e i + lsum p i (chV p v ha e) (nrL p i) := by rw [chTo, if_pos hz, q2]
      rw [t1, t2] at ihn
      clear t1 t2 q1 q2
      generalize chTo p la e i = ch0 at *
      generalize chTo p ha e i = cl0 at *
      generalize nrL p i = l at *
      generalize gt p.cs i = z at *
      simp only [go_sem, Pl.v, Pl.a, Pl.c4, vw, fldW, List.length_map, h2, n0, hx, hz']
      by_cases hne : iv l = []
      · have hl : l = [] := List.map_eq_nil_iff.1 hne
        unfold slv slrG at hA
        rw [if_pos hne, if_pos hne] at hA
        subst hl
        simp only [lsum, Int.add_zero] at ihn
        refine cP hA ?_
        simp only [go_sem]
        refine loop_body 3000 k_ref01_charge_r13.eq_1 ?_
        simp only [go_sem, h3]
        exact ihn X _ (by simp [go_sem, vw])
      · unfold slv slrG at hA
        rw [if_neg hne, if_neg hne] at hA
        refine cN1 hA ?_ (hr := by simp [go_sem]) (hx := iv_row _ _ _)
        simp only [go_sem, ren, rens, iv_len]
        refine loop_ind k_ref01_charge_r13.eq_1 (fun k : Nat => k ≤ l.length) (fun k => l.length - k)
          (fun k => (tsets 89 [(1, vw v), (3, .int .i64 e), (4, .ptr 0 0 0 1), (6, .ptr 1 0 0 1), (8, .ptr 2 0 0 1), (9, .ptr 3 0 0 1), (10, .int .i64 i), (11, .sl (X.length + 4) 0 l.length), (12, .int .i64 k)],
            some (.cells false 4 [p.v]) :: some (.cells false 4 [fldW la ha s t]) :: some (.cells false 2 [.agg [.int .i64 0, .int .i64 0]]) :: some (.cells false 2 [.agg [.int .i64 (cl0 + lsum p i (chV p v ha e) (l.take k)), .int .i64 (ch0 + lsum p i (chV p v la e) (l.take k))]]) :: (X ++ [some (.cells true 1 (iv l))]))) 0 (Nat.zero_le _) (by simp [go_sem, vw]) (by simp [lsum, Pl.v, Pl.a, Pl.c4, vw, fldW]) ?_
        intro k hk ih
        dsimp only at hk ih ⊢
        by_cases hk1 : k < l.length
        · have hk2 : (k : Int) < l.length := by omega
          have hk3 := idx_next hk1 (by omega)
          have k0 : ¬ (k : Int) < 0 := by omega
          have hg := iv_get hk1
          have hT : l.take (k + 1) = l.take k ++ [gt l k] := by rw [List.take_add_one, gt_get hk1]; rfl
          have hm := hmem _ (gt_mem hk1)
          have hlt : (l.take k).length = k := by rw [List.length_take]; omega
          have b1 := lsum_lim hp i (f := chV p v la e) (l.take k) fun b hb => by have := hmem b (List.mem_of_mem_take hb); exact chV_bd hv hla e (by omega)
          have b2 := lsum_lim hp i (f := chV p v ha e) (l.take k) fun b hb => by have := hmem b (List.mem_of_mem_take hb); exact chV_bd hv hha e (by omega)
          have ihk := ih (k + 1) (by omega) hk1
          rw [hT, lsum_app, lsum_app] at ihk
          simp only [lsum, Int.add_zero] at ihk
          clear ih hT
          rw [hlt] at b1 b2
          have hWz := hW (gt l k)
          have hw32 := wgI_le hp i (gt l k)
          generalize gt l k = y at *
          obtain ⟨j, rfl⟩ : ∃ j : Nat, (j : Int) = y := ⟨y.toNat, by omega⟩
          rw [Int.toNat_natCast] at ihk
          have hjN : j < p.w * p.h := by omega
          have gc := gt_get (l := p.cs) (i := j) (by omega)
          have ga := gt_get (l := la) (i := j) (by rw [hla.len]; omega)
          have gb := gt_get (l := ha) (i := j) (by rw [hha.len]; omega)
          have j0 : ¬ (j : Int) < 0 := by omega
          have j1 : (j : Int) < p.cs.length := by omega
          have j2 : (j : Int) < la.length := by rw [hla.len]; omega
          have j3 : (j : Int) < ha.length := by rw [hha.len]; omega
          have d1 := hla.bd j hjN
          have d2 := hha.bd j hjN
          have u1 : chV p v la e j = if gt p.cs j = e then 0 else vo v e - gt la j := rfl
          have u2 : chV p v ha e j = if gt p.cs j = e then 0 else vo v e - gt ha j := rfl
          rw [u1, u2] at ihk
          clear u1 u2
          generalize lsum p i (chV p v la e) (l.take k) = A0 at *
          generalize lsum p i (chV p v ha e) (l.take k) = B0 at *
          generalize wgI p i (j : Int) = wt at *
          have hca := fun r3 : Option Row => cells_at (show (some (Row.cells false 4 [p.v]) :: some (.cells false 4 [fldW la ha s t]) :: some (.cells false 2 [.agg [.int .i64 0, .int .i64 0]]) :: r3 :: (X ++ [some (Row.cells true 1 (iv l))]))[X.length + 4]? = some (some (Row.cells true 1 (iv l))) by simp)
          simp only [Pl.v, Pl.a, Pl.c4, vw, fldW] at hca
          by_cases hje : gt p.cs j = e
          · have hje' : (gt p.cs j != e) = false := by simp [hje]
            rw [if_pos hje, if_pos hje, Int.mul_zero, Int.add_zero, Int.add_zero] at ihk
            generalize gt p.cs j = zj at *
            simp only [go_sem, Pl.v, Pl.a, Pl.c4, vw, fldW, List.length_map, iv_len, hk2, k0, hca, hg, j0, j1, gc, hje', hk3]
            exact ihk _ (by simp [go_sem, vw])
          · have hje' : (gt p.cs j != e) = true := by simp [hje]
            rw [if_neg hje, if_neg hje] at ihk
            generalize gt p.cs j = zj at *
            generalize gt la j = y1 at *
            generalize gt ha j = y2 at *
            generalize vo v e = ve at *
            have m1 : -64000000 ≤ wt * (ve - y1) ∧ wt * (ve - y1) ≤ 64000000 := by
              have h4 := Int.mul_le_mul_of_nonneg_left (show ve - y1 ≤ 2000000 by omega) (show 0 ≤ wt by omega)
              have h5 := Int.mul_le_mul_of_nonneg_left (show -2000000 ≤ ve - y1 by omega) (show 0 ≤ wt by omega)
              omega
            have m2 : -64000000 ≤ wt * (ve - y2) ∧ wt * (ve - y2) ≤ 64000000 := by
              have h4 := Int.mul_le_mul_of_nonneg_left (show ve - y2 ≤ 2000000 by omega) (show 0 ≤ wt by omega)
              have h5 := Int.mul_le_mul_of_nonneg_left (show -2000000 ≤ ve - y2 by omega) (show 0 ≤ wt by omega)
              omega
            have w1 : IntKind.i64.wrap (ve - y1) = ve - y1 := w64 (by omega)
            have w2 : IntKind.i64.wrap (ve - y2) = ve - y2 := w64 (by omega)
            have w3 : IntKind.i64.wrap (wt * (ve - y1)) = wt * (ve - y1) := w64 (by omega)
            have w4 : IntKind.i64.wrap (wt * (ve - y2)) = wt * (ve - y2) := w64 (by omega)
            have w5 : IntKind.i64.wrap (ch0 + A0 + wt * (ve - y1)) = ch0 + (A0 + wt * (ve - y1)) := by rw [w64 (by omega)]; omega
            have w6 : IntKind.i64.wrap (cl0 + B0 + wt * (ve - y2)) = cl0 + (B0 + wt * (ve - y2)) := by rw [w64 (by omega)]; omega
            simp only [go_sem, Pl.v, Pl.a, Pl.c4, vw, fldW, List.length_map, iv_len, hk2, k0, hca, hg, j0, j1, gc, hje']
            refine dP hWz ?_
            simp only [go_sem, Pl.v, Pl.a, Pl.c4, vw, fldW, z1, z2, z3, hxv, j0, j1, j2, j3, ga, gb, List.length_map, w1, w2, w3, w4, w5, w6]
            refine dP hWz ?_
            simp only [go_sem, Pl.v, Pl.a, Pl.c4, vw, fldW, z1, z2, z3, hxv, j0, j1, j2, j3, ga, gb, List.length_map, w1, w2, w3, w4, w5, w6, hk3]
            exact ihk _ (by simp [go_sem, vw])
        · have hk2 : ¬ (k : Int) < l.length := by omega
          rw [List.take_of_length_le (by omega)]
          simp only [go_sem, iv_len, hk2, h3]
          exact ihn _ _ (by simp [go_sem, vw])
    · have hz' : (gt p.cs i != e) = true := by simp [hz]
      have t1 : chTo p la e (i + 1) = chTo p la e i := by rw [chTo, if_neg hz, Int.add_zero]
      have t2 : chTo p ha e (i + 1) = chTo p ha e i := by rw [chTo, if_neg hz, Int.add_zero]
      rw [t1, t2] at ihn
      generalize gt p.cs i = z at *
      simp only [go_sem, Pl.v, Pl.a, Pl.c4, vw, fldW, List.length_map, h2, n0, hx, hz', h3]
      exact ihn X _ (by simp [go_sem, vw, fldW, Pl.v, Pl.a, Pl.c4])
  · have h2 : ¬ (i : Int) < p.cs.length := by omega
    have hie : i = p.w * p.h := by omega
    subst hie
    simp only [go_sem, Pl.v, Pl.a, Pl.c4, vw, fldW, List.length_map, h2, Rg.v, chg]
end Go.Proofs

namespace Go.Proofs
open Go Go.Sx
attribute [local irreducible] Run

theorem rCharge_raw (p : Rp) {v : List Int} (n e : Int) (hlen : p.cs.length ≤ 1000000) (hv : v.length ≤ 1000000) :
    Ans Try.prog n_ref01_Charge [p.v, vw v, .int .i64 n, .int .i64 e] [] (if p.errS v n = 0 then chgA p.pl v n.toNat e else .tup [Rg.v ⟨0, 0⟩, .int .i64 (p.errS v n)]) [] := by
  by_cases h : p.errS v n = 0
  · have hs := rSolve_ok h
    obtain ⟨⟨hp, hpv⟩, hvv, hvl, hn⟩ := Rp.okS h
    rw [if_pos h]
    rw [hpv] at hs ⊢
    obtain ⟨n, rfl⟩ : ∃ m : Nat, (m : Int) = n := ⟨n.toNat, by omega⟩
    rw [Int.toNat_natCast] at hs ⊢
    generalize p.pl = p at *
    clear h hpv
    have hlen := hp.len
    have hh := rHas_ok hp e
    have lo := low_ok hp v (cnt p v n)
    have hi := high_ok hp v (cnt p v n)
    have A := lo.at hvv
    have B := hi.at hvv
    have L1 := A.len; have L2 := B.len
    rw [← hlen] at L1 L2
    unfold chgA
    refine spec_run e_ref01_Charge fun G => ?_
    simp only [go_sem, Pl.v, Pl.a, Pl.c4, vw]
    refine cN2 hs ?_ (hr := by simp [go_sem, fldV]) (hx := iv_row _ _ _) (hy := iv_row _ _ _)
    simp only [go_sem, ren, rens, fldV, Pl.v, Pl.a, Pl.c4, vw]
    refine cP hh ?_
    by_cases hb : e ≠ 0 ∧ e ∈ p.cs
    · have hb' : decide (e ≠ 0 ∧ e ∈ p.cs) = true := by simp [hb]
      have hec := hp.cell e hb.2
      have hem := hp.max.2.2 e hb.2
      have hc := rCharge_ok hp hvv A B lo.elec hi.elec (cnt p v n) (stl p v (cnt p v n)) e ⟨by omega, by omega, hv⟩
      rw [if_pos hb, hb']
      simp only [go_sem, Pl.v, Pl.a, Pl.c4, vw]
      refine cF hc 6 ⟨.inl (plv_frz 3 _ p), .inl (vw_frz 4 _ v), .inl (fldW_frz (j0 := 2) (j1 := 3) rfl rfl L1.symm L2.symm), .inl rfl, trivial⟩ ?_
      simp only [go_sem, Rg.v]
    · have hb' : decide (e ≠ 0 ∧ e ∈ p.cs) = false := by simp [hb]
      rw [if_neg hb, hb']
      simp only [go_sem, Pl.v, Pl.a, Pl.c4, vw]
      rfl
  · rw [if_neg h]
    have c1 := rSolve_bad p hlen hv h
    refine spec_run e_ref01_Charge fun G => ?_
    have h' : (p.errS v n != 0) = true := by simp [h]
    simp only [go_sem, Rp.v, vw]
    refine cP c1 ?_ (hr := by simp only [go_sem, noFl])
    simp only [go_sem, noFl, h', Rg.v]
end Go.Proofs

namespace Go.Proofs
open Go Go.Sx

theorem at_struct {P : Program} {n : Nat} {t : TypeId} {fs : Array Field} (hu : P.underlying t = some (.struct fs)) {vs : List AVal} (h : AT P (n + 1) t vs) : ATs (AT P n) fs.toList vs := by
  unfold AT at h; rw [hu] at h; exact h
theorem at_int {P : Program} {n : Nat} {t : TypeId} {k : IntKind} (hu : P.underlying t = some (.int k)) {vs : List AVal} (h : AT P (n + 1) t vs) : ∃ m, vs = [.int k m] ∧ (Lit.int k m).wf = true := by
  unfold AT at h; rw [hu] at h; exact h
theorem at_bool {P : Program} {n : Nat} {t : TypeId} (hu : P.underlying t = some .bool) {vs : List AVal} (h : AT P (n + 1) t vs) : ∃ b, vs = [.bool b] := by
  unfold AT at h; rw [hu] at h; exact h
theorem at_slice {P : Program} {n : Nat} {t e : TypeId} (hu : P.underlying t = some (.slice e)) {vs : List AVal} (h : AT P (n + 1) t vs) : ∃ es, vs = [.view es] ∧ es.length ≤ maxLen ∧ ∀ x ∈ es, if aggT P e = true then ∃ ws, x = .agg ws ∧ AT P n e ws else AT P n e [x] := by
  unfold AT at h; rw [hu] at h; exact h
theorem list_map {α β : Type} {f : α → β} {Q : α → Prop} : ∀ l : List β, (∀ x ∈ l, ∃ a, x = f a ∧ Q a) → ∃ l' : List α, l = l'.map f ∧ ∀ a ∈ l', Q a
  | [], _ => ⟨[], rfl, fun a ha => by simp at ha⟩
  | x :: l, h => by
    obtain ⟨a, rfl, ha⟩ := h x (by simp)
    obtain ⟨l', rfl, h'⟩ := list_map l fun y hy => h y (by simp [hy])
    exact ⟨a :: l', rfl, fun b hb => by
      rcases List.mem_cons.1 hb with rfl | hb
      · exact ha
      · exact h' b hb⟩

attribute [local irreducible] AT
set_option maxRecDepth 100000
theorem atn_int {n : Nat} {vs : List AVal} (h : AT Try.prog (n + 1) 3 vs) : ∃ m, vs = [.int .i64 m] ∧ (Lit.int .i64 m).wf = true := at_int Try.underlying3 h
theorem atn_bool {n : Nat} {vs : List AVal} (h : AT Try.prog (n + 1) 4 vs) : ∃ b, vs = [.bool b] := at_bool Try.underlying4 h
theorem at_ints {n : Nat} {x : AVal} (h : AT Try.prog (n + 2) 22 [x]) : ∃ l : List Int, x = vw l ∧ l.length ≤ 9223372036854775807 := by
  obtain ⟨es, h1, hl, he⟩ := at_slice Try.underlying22 h
  obtain rfl : x = .view es := by simpa using h1
  have hg : ¬ aggT Try.prog 3 = true := by unfold aggT; rw [Try.underlying3]; decide
  obtain ⟨l, rfl, -⟩ := list_map (f := AVal.int .i64) (Q := fun _ => True) es fun x hx => by
    have := he x hx
    rw [if_neg hg] at this
    obtain ⟨m, hm, -⟩ := atn_int this
    exact ⟨m, by simpa using hm, trivial⟩
  have hm : maxLen = 9223372036854775807 := rfl
  rw [hm] at hl
  exact ⟨l, rfl, by simpa using hl⟩
theorem at_plan {n : Nat} {ws : List AVal} (h : AT Try.prog (n + 3) 24 ws) : ∃ p : Rp, .agg ws = p.v ∧ p.cs.length ≤ 9223372036854775807 := by
  obtain ⟨a, _, rfl, ha, b, _, rfl, hb, c, _, rfl, hc, d, _, rfl, hd, rfl⟩ := at_struct Try.underlying24 h
  obtain ⟨x, rfl, -⟩ := atn_int ha
  obtain ⟨y, rfl, -⟩ := atn_int hb
  obtain ⟨r, rfl⟩ := atn_bool hc
  obtain ⟨es, rfl, -⟩ := at_slice Try.underlying22 hd
  obtain ⟨l, h1, h2⟩ := at_ints hd
  exact ⟨⟨x, y, r, l⟩, by show AVal.agg [_, _, _, AVal.view es] = _; rw [h1]; rfl, h2⟩
end Go.Proofs

namespace Go.Proofs
open Go Go.Sx
attribute [local irreducible] Run

def bigL (v : List Int) : AVal := .view [vw v]
theorem big_no (p : Rp) {v : List Int} (hp : p.cs.length ≤ 300) (hv : v.length ≤ 300) : Ans Try.prog n_law01_big [p.v, bigL v] [] (.bool false) [] := by
  refine spec_run e_law01_big fun G => ?_
  have h1 : ¬ (300 : Int) < p.cs.length := by omega
  have h2 : ¬ (300 : Int) < v.length := by omega
  have w1 : IntKind.i64.wrap 1 = 1 := by decide
  have w2 : ¬ (1 : Int) < 1 := by omega
  simp only [go_sem, Rp.v, vw, bigL]
  refine loop_body 3000 k_law01_big_r6.eq_1 ?_
  simp only [go_sem, List.length_map, h2]
  refine loop_body 3000 k_law01_big_r6.eq_1 ?_
  simp only [go_sem, List.length_map, h1, w1, w2]
theorem big_yes (p : Rp) {v : List Int} (h : ¬ (p.cs.length ≤ 300 ∧ v.length ≤ 300)) (hvl : v.length ≤ 9223372036854775807) : Ans Try.prog n_law01_big [p.v, bigL v] [] (.bool true) [] := by
  refine spec_run e_law01_big fun G => ?_
  simp only [go_sem, Rp.v, vw, bigL]
  refine loop_body 3000 k_law01_big_r6.eq_1 ?_
  by_cases h2 : (300 : Int) < v.length
  · simp only [go_sem, List.length_map, h2]
  · have h1 : (300 : Int) < p.cs.length := by omega
    have w1 : IntKind.i64.wrap 1 = 1 := by decide
    have w2 : ¬ (1 : Int) < 1 := by omega
    simp only [go_sem, List.length_map, h2]
    refine loop_body 3000 k_law01_big_r6.eq_1 ?_
    simp only [go_sem, List.length_map, h1, w1, w2]

theorem bigL_frz {H : Heap} {j : Nat} {v : List Int} (h : H[j]? = some (some (.cells false 1 [vw v]))) : frz 6 H (.sl j 0 1) = bigL v := by
  refine (frz_sl (d := 5) h rfl).trans ?_
  show AVal.view [frz 5 H (vw v)] = _
  rw [vw_frz 3]; rfl
theorem rp_frz (d : Nat) (H : Heap) (p : Rp) : frz (d + 3) H p.v = p.v := by
  show AVal.agg [_, _, _, frz (d + 2) H (vw p.cs)] = _
  rw [vw_frz]; rfl

def Pl.rp (p : Pl) : Rp := ⟨p.w, p.h, p.rd, p.cs⟩
theorem Pl.rp_v (p : Pl) : p.rp.v = p.v := rfl
theorem PlOK.err {p : Pl} (hp : PlOK p) : p.rp.err = 0 := by
  have hw := hp.w; have hh := hp.h
  have hm := hp.max
  unfold Rp.err Pl.rp
  dsimp only
  rw [if_neg (by omega), if_neg (by rw [hp.len]; push_cast; omega), if_neg (by intro h; exact h hp.cell), if_neg (by omega)]
theorem PlOK.errV {p : Pl} (hp : PlOK p) {v : List Int} (hv : VOK v) (hvl : (v.length : Int) = gmax p.cs) : p.rp.errV v = 0 := by
  unfold Rp.errV
  rw [if_neg (fun h => h hp.err), if_neg (fun h => h hvl)]
  unfold numErr
  rw [if_pos (show ∀ x ∈ v, -1000000 ≤ x ∧ x ≤ 1000000 from hv)]
theorem PlOK.errS {p : Pl} (hp : PlOK p) {v : List Int} (hv : VOK v) (hvl : (v.length : Int) = gmax p.cs) {n : Int} (hn : 0 ≤ n ∧ n ≤ 200) : p.rp.errS v n = 0 := by
  unfold Rp.errS
  rw [if_neg (fun h => h (hp.errV hv hvl)), if_pos hn]

theorem chgA_form (p : Pl) (v : List Int) (n : Nat) (e : Int) : ∃ a b f : Int, chgA p v n e = .tup [.agg [.int .i64 a, .int .i64 b], .int .i64 f] := by
  unfold chgA Rg.v
  split
  · exact ⟨_, _, _, rfl⟩
  · exact ⟨_, _, _, rfl⟩

set_option maxHeartbeats 4000000 in
theorem charges_law (p : Rp) (v : List Int) (sw e : Int) (zs : List Int) (hvl : v.length ≤ 9223372036854775807) (hl : zs.length ≤ 9223372036854775807) : Ans Try.prog n_law01_FieldCharges [p.v, vw v, .int .i64 sw, .int .i64 e, .view (zs.map (.int .i64))] [] (.bool true) [] := by
  by_cases hb : p.cs.length ≤ 300 ∧ v.length ≤ 300
  rotate_left
  · refine spec_run e_law01_FieldCharges fun G => ?_
    have hB := big_yes p hb hvl
    simp only [go_sem, Rp.v, vw]
    refine cF hB 6 ⟨.inl (rp_frz 3 _ p), .inl (bigL_frz rfl), trivial⟩ ?_
    simp only [go_sem]
    refine cP awake_ok ?_
    simp only [go_sem]
  have hB := big_no p hb.1 hb.2
  have c1 := Charge_raw p (v := v) sw e (by omega) (by omega)
  have c2 := rCharge_raw p (v := v) sw e (by omega) (by omega)
  obtain ⟨x, y, z, hxyz⟩ : ∃ x y z : Int, (if p.errS v sw = 0 then chgA p.pl v sw.toNat e else .tup [Rg.v ⟨0, 0⟩, .int .i64 (p.errS v sw)]) = AVal.tup [.agg [.int .i64 x, .int .i64 y], .int .i64 z] := by
    split
    · exact chgA_form _ _ _ _
    · exact ⟨_, _, _, rfl⟩
  rw [hxyz] at c1 c2
  clear hxyz
  have m1 := mod_pos sw 41 (by omega)
  have m2 := mod_pos e 5 (by omega)
  have hn : 0 ≤ sw % 41 ∧ sw % 41 ≤ 40 := by omega
  generalize sw % 41 = n at *
  generalize e % 5 = k at *
  refine spec_run e_law01_FieldCharges fun G => ?_
  simp only [go_sem, Rp.v, vw]
  refine cF hB 6 ⟨.inl (rp_frz 3 _ p), .inl (bigL_frz rfl), trivial⟩ ?_
  simp only [go_sem]
  refine callN1 (newdice_ok zs hl) (by simp only [go_sem]) (dr_bel _ _) (by simp) (by simp) ?_
  generalize seedW zs = w
  simp only [go_sem]
  refine callDN (PlanOf_ok w 8 6 (by omega) (by omega)) rfl (by simp only [go_sem]) (dr_bel _ _) (fun q hq => ⟨pla_bel _ _ _ _ rfl, dr_bel _ _, iv_row _ _ _⟩) (by simp) (by simp) ?_
  rintro ⟨w1, q⟩ hq
  dsimp only at hq ⊢
  have hqo := hq.ok
  have hql : q.cs.length ≤ 1000000 := by
    rw [hqo.len]; have := Nat.mul_le_mul hqo.w.2 hqo.h.2; omega
  have hmx := hqo.max
  simp only [go_sem, Pl.a, Pl.c4, ren, rens]
  refine callR1 (VoltsOf_ok w1 hql (by omega) true) (j0 := 2) (j1 := 3) rfl (by simp [go_sem, Pl.a, Pl.c4]) rfl rfl (dr_bel _ _) (iv_row _ _ _) (by decide) (fun q hq => ⟨by simp [go_sem], dr_bel _ _, iv_row _ _ _⟩) (by simp) (by simp) ?_
  rintro ⟨w2, u⟩ hvv
  dsimp only at hvv ⊢
  have hu := hvv.2
  have hul := hvv.len hq
  have d1 := Charge_raw q.rp (v := u) n k hql (by omega)
  have d2 := rCharge_raw q.rp (v := u) n k hql (by omega)
  rw [if_pos (hqo.errS hu hul (by omega))] at d1 d2
  obtain ⟨x', y', z', h'⟩ := chgA_form q.rp.pl u n.toNat k
  rw [h', Pl.rp_v] at d1 d2
  clear h'
  simp only [go_sem, Pl.a, Pl.c4, ren, rens, Rp.v, vw]
  refine cP c1 ?_
  simp only [go_sem, Rp.v, vw]
  refine cP c2 ?_
  simp only [go_sem, Rp.v, vw]
  refine cP m1 ?_
  simp only [go_sem]
  refine cP m2 ?_
  simp only [go_sem, Pl.a, Pl.c4]
  refine cF d1 6 ⟨.inl (pla_frz 3 (j := 3) (g := true) (p := q) rfl rfl), .inl (iv_frz_sl (d := 4) (j := 5) (g := false) rfl rfl), .inl rfl, .inl rfl, trivial⟩ ?_
  simp only [go_sem, Pl.a, Pl.c4]
  refine cF d2 6 ⟨.inl (pla_frz 3 (j := 3) (g := true) (p := q) rfl rfl), .inl (iv_frz_sl (d := 4) (j := 5) (g := false) rfl rfl), .inl rfl, .inl rfl, trivial⟩ ?_
  simp only [go_sem]
  refine cP awake_ok ?_
  simp only [go_sem]
end Go.Proofs

