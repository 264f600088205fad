/- A part of the proof. -/
import Derived.Test.YtdodlephmmpemaaPG
set_option linter.unusedSimpArgs false
set_option linter.unusedVariables false
namespace Go.Proofs
open Go Go.Sx
attribute [local irreducible] Run

theorem lsum_lim {p : Pl} (hp : PlOK p) (i : Nat) {f : Nat → Int} : ∀ l : List Int, (∀ b ∈ l, -2000000 ≤ f b.toNat ∧ f b.toNat ≤ 2000000) → -64000000 * (l.length : Int) ≤ lsum p i f l ∧ lsum p i f l ≤ 64000000 * (l.length : Int)
  | [], _ => by simp [lsum]
  | b :: l, h => by
    have ih := lsum_lim hp i l fun c hc => h c (by simp [hc])
    have h2 := h b (by simp)
    have h3 := wgI_le hp i b
    have h4 := wgI_nonneg p i b
    have h5 := Int.mul_le_mul_of_nonneg_left h2.1 h4
    have h6 := Int.mul_le_mul_of_nonneg_left h2.2 h4
    rw [lsum, List.length_cons]
    push_cast
    omega
def chV (p : Pl) (v a : List Int) (e : Int) : Nat → Int := fun n => if gt p.cs n = e then 0 else vo v e - gt a n
theorem chV_sum {p : Pl} (hp : PlOK p) {v a : List Int} {e : Int} (hA : ∀ i, i < p.w * p.h → p.el i → gt a i = vo v (gt p.cs i)) {i : Nat} (hi : i < p.w * p.h) (he0 : e ≠ 0) (he : gt p.cs i = e) : wsum (nbs p i) (chC p a e i) = lsum p i (chV p v a e) (nrL p i) := by
  rw [nr_sum hp hi]
  refine wsum_congr fun q _ => ?_
  unfold chC chV
  rw [hA i hi (by unfold Pl.el; rw [he]; exact he0), he]
theorem chV_bd {p : Pl} {v a : List Int} (hv : VOK v) (ha : AtOK p a) (e : Int) {n : Nat} (hn : n < p.w * p.h) : -2000000 ≤ chV p v a e n ∧ chV p v a e n ≤ 2000000 := by
  have h1 := ha.bd n hn
  have h2 := vo_in hv e
  unfold chV
  split <;> omega

set_option maxHeartbeats 4000000 in
theorem rCharge_ok {p : Pl} (hp : PlOK p) {v : List Int} (hv : VOK v) {la ha : List Int} (hla : AtOK p la) (hha : AtOK p ha) (eL : ∀ i, i < p.w * p.h → p.el i → gt la i = vo v (gt p.cs i)) (eH : ∀ i, i < p.w * p.h → p.el i → gt ha i = vo v (gt p.cs i)) (s : Nat) (t : Bool) (e : Int) (he : 1 ≤ e ∧ e ≤ v.length ∧ v.length ≤ 1000000) :
    Ans Try.prog n_ref01_charge [p.v, vw v, fldW la ha s t, .int .i64 e] [] (Rg.v ⟨chg p ha e, chg p la e⟩) [] := by
  have hw := hp.w; have hh := hp.h
  have hN : p.w * p.h ≤ 256 := Nat.mul_le_mul hw.2 hh.2
  have hlen := hp.len
  have z1 : IntKind.i64.wrap (e - 1) = e - 1 := w64 (by omega)
  have z2 : ¬ e - 1 < 0 := by omega
  have z3 : e - 1 < v.length := by omega
  have hxv : v[(e - 1).toNat]? = some (vo v e) := gt_get (by omega)
  have hvb := vo_in hv e
  refine spec_run e_ref01_charge fun G => ?_
  simp only [go_sem, Pl.v, Pl.a, Pl.c4, vw, fldW]
  refine loop_ind k_ref01_charge_r15.eq_1 (fun a : Nat × Heap => a.1 ≤ p.cs.length) (fun a => p.cs.length - a.1)
    (fun a => (tsets 89 [(1, vw v), (3, .int .i64 e), (4, .ptr 0 0 0 1), (6, .ptr 1 0 0 1), (8, .ptr 2 0 0 1), (9, .ptr 3 0 0 1), (10, .int .i64 a.1)],
      some (.cells false 4 [p.v]) :: some (.cells false 4 [fldW la ha s t]) :: some (.cells false 2 [.agg [.int .i64 0, .int .i64 0]]) :: some (.cells false 2 [.agg [.int .i64 (chTo p ha e a.1), .int .i64 (chTo p la e a.1)]]) :: a.2)) (0, []) (Nat.zero_le _) (by simp [go_sem, vw]) (by simp [Pl.v, Pl.a, Pl.c4, vw, fldW, chTo]) ?_
  rintro ⟨i, X⟩ hi ih
  dsimp only at hi ih ⊢
  by_cases h1 : i < p.cs.length
  · have h2 : (i : Int) < p.cs.length := by omega
    have h3 := idx_next h1 (by omega)
    have n0 : ¬ (i : Int) < 0 := by omega
    have hiN : i < p.w * p.h := by rw [← hlen]; exact h1
    have hx := gt_get h1
    have ihn := fun X => ih (i + 1, X) (by dsimp only; omega) h1
    clear ih
    dsimp only at ihn
    by_cases hz : gt p.cs i = e
    · have hz' : (gt p.cs i != e) = false := by simp [hz]
      have hA := around_ok' hp hiN
      have c1 := chTo_bd hp hla e i (by omega)
      have c2 := chTo_bd hp hha e i (by omega)
      have q1 := chV_sum hp eL hiN (by omega) hz
      have q2 := chV_sum hp eH hiN (by omega) hz
      have hmem := fun b (hb : b ∈ nrL p i) => nr_in hb
      have hnl := nr_len p i
      have hW := fun b => weightI_ok hp hiN b
      have t1 : chTo p la e (i + 1) = chTo p la e i + lsum p i (chV p v la e) (nrL p i) := by rw [chTo, if_pos hz, q1]
      have t2 : chTo p ha e (i + 1) = chTo p ha e i + lsum p i (chV p v ha e) (nrL p i) := by rw [chTo, if_pos hz, q2]
      rw [t1, t2] at ihn
      clear t1 t2 q1 q2
      generalize chTo p la e i = ch0 at *
      generalize chTo p ha e i = cl0 at *
      generalize nrL p i = l at *
      generalize gt p.cs i = z at *
      simp only [go_sem, Pl.v, Pl.a, Pl.c4, vw, fldW, List.length_map, h2, n0, hx, hz']
      by_cases hne : iv l = []
      · have hl : l = [] := List.map_eq_nil_iff.1 hne
        unfold slv slrG at hA
        rw [if_pos hne, if_pos hne] at hA
        subst hl
        simp only [lsum, Int.add_zero] at ihn
        refine cP hA ?_
        simp only [go_sem]
        refine loop_body 3000 k_ref01_charge_r13.eq_1 ?_
        simp only [go_sem, h3]
        exact ihn X _ (by simp [go_sem, vw])
      · unfold slv slrG at hA
        rw [if_neg hne, if_neg hne] at hA
        refine cN1 hA ?_ (hr := by simp [go_sem]) (hx := iv_row _ _ _)
        simp only [go_sem, ren, rens, iv_len]
        refine loop_ind k_ref01_charge_r13.eq_1 (fun k : Nat => k ≤ l.length) (fun k => l.length - k)
          (fun k => (tsets 89 [(1, vw v), (3, .int .i64 e), (4, .ptr 0 0 0 1), (6, .ptr 1 0 0 1), (8, .ptr 2 0 0 1), (9, .ptr 3 0 0 1), (10, .int .i64 i), (11, .sl (X.length + 4) 0 l.length), (12, .int .i64 k)],
            some (.cells false 4 [p.v]) :: some (.cells false 4 [fldW la ha s t]) :: some (.cells false 2 [.agg [.int .i64 0, .int .i64 0]]) :: some (.cells false 2 [.agg [.int .i64 (cl0 + lsum p i (chV p v ha e) (l.take k)), .int .i64 (ch0 + lsum p i (chV p v la e) (l.take k))]]) :: (X ++ [some (.cells true 1 (iv l))]))) 0 (Nat.zero_le _) (by simp [go_sem, vw]) (by simp [lsum, Pl.v, Pl.a, Pl.c4, vw, fldW]) ?_
        intro k hk ih
        dsimp only at hk ih ⊢
        by_cases hk1 : k < l.length
        · have hk2 : (k : Int) < l.length := by omega
          have hk3 := idx_next hk1 (by omega)
          have k0 : ¬ (k : Int) < 0 := by omega
          have hg := iv_get hk1
          have hT : l.take (k + 1) = l.take k ++ [gt l k] := by rw [List.take_add_one, gt_get hk1]; rfl
          have hm := hmem _ (gt_mem hk1)
          have hlt : (l.take k).length = k := by rw [List.length_take]; omega
          have b1 := lsum_lim hp i (f := chV p v la e) (l.take k) fun b hb => by have := hmem b (List.mem_of_mem_take hb); exact chV_bd hv hla e (by omega)
          have b2 := lsum_lim hp i (f := chV p v ha e) (l.take k) fun b hb => by have := hmem b (List.mem_of_mem_take hb); exact chV_bd hv hha e (by omega)
          have ihk := ih (k + 1) (by omega) hk1
          rw [hT, lsum_app, lsum_app] at ihk
          simp only [lsum, Int.add_zero] at ihk
          clear ih hT
          rw [hlt] at b1 b2
          have hWz := hW (gt l k)
          have hw32 := wgI_le hp i (gt l k)
          generalize gt l k = y at *
          obtain ⟨j, rfl⟩ : ∃ j : Nat, (j : Int) = y := ⟨y.toNat, by omega⟩
          rw [Int.toNat_natCast] at ihk
          have hjN : j < p.w * p.h := by omega
          have gc := gt_get (l := p.cs) (i := j) (by omega)
          have ga := gt_get (l := la) (i := j) (by rw [hla.len]; omega)
          have gb := gt_get (l := ha) (i := j) (by rw [hha.len]; omega)
          have j0 : ¬ (j : Int) < 0 := by omega
          have j1 : (j : Int) < p.cs.length := by omega
          have j2 : (j : Int) < la.length := by rw [hla.len]; omega
          have j3 : (j : Int) < ha.length := by rw [hha.len]; omega
          have d1 := hla.bd j hjN
          have d2 := hha.bd j hjN
          have u1 : chV p v la e j = if gt p.cs j = e then 0 else vo v e - gt la j := rfl
          have u2 : chV p v ha e j = if gt p.cs j = e then 0 else vo v e - gt ha j := rfl
          rw [u1, u2] at ihk
          clear u1 u2
          generalize lsum p i (chV p v la e) (l.take k) = A0 at *
          generalize lsum p i (chV p v ha e) (l.take k) = B0 at *
          generalize wgI p i (j : Int) = wt at *
          have hca := fun r3 : Option Row => cells_at (show (some (Row.cells false 4 [p.v]) :: some (.cells false 4 [fldW la ha s t]) :: some (.cells false 2 [.agg [.int .i64 0, .int .i64 0]]) :: r3 :: (X ++ [some (Row.cells true 1 (iv l))]))[X.length + 4]? = some (some (Row.cells true 1 (iv l))) by simp)
          simp only [Pl.v, Pl.a, Pl.c4, vw, fldW] at hca
          by_cases hje : gt p.cs j = e
          · have hje' : (gt p.cs j != e) = false := by simp [hje]
            rw [if_pos hje, if_pos hje, Int.mul_zero, Int.add_zero, Int.add_zero] at ihk
            generalize gt p.cs j = zj at *
            simp only [go_sem, Pl.v, Pl.a, Pl.c4, vw, fldW, List.length_map, iv_len, hk2, k0, hca, hg, j0, j1, gc, hje', hk3]
            exact ihk _ (by simp [go_sem, vw])
          · have hje' : (gt p.cs j != e) = true := by simp [hje]
            rw [if_neg hje, if_neg hje] at ihk
            generalize gt p.cs j = zj at *
            generalize gt la j = y1 at *
            generalize gt ha j = y2 at *
            generalize vo v e = ve at *
            have m1 : -64000000 ≤ wt * (ve - y1) ∧ wt * (ve - y1) ≤ 64000000 := by
              have h4 := Int.mul_le_mul_of_nonneg_left (show ve - y1 ≤ 2000000 by omega) (show 0 ≤ wt by omega)
              have h5 := Int.mul_le_mul_of_nonneg_left (show -2000000 ≤ ve - y1 by omega) (show 0 ≤ wt by omega)
              omega
            have m2 : -64000000 ≤ wt * (ve - y2) ∧ wt * (ve - y2) ≤ 64000000 := by
              have h4 := Int.mul_le_mul_of_nonneg_left (show ve - y2 ≤ 2000000 by omega) (show 0 ≤ wt by omega)
              have h5 := Int.mul_le_mul_of_nonneg_left (show -2000000 ≤ ve - y2 by omega) (show 0 ≤ wt by omega)
              omega
            have w1 : IntKind.i64.wrap (ve - y1) = ve - y1 := w64 (by omega)
            have w2 : IntKind.i64.wrap (ve - y2) = ve - y2 := w64 (by omega)
            have w3 : IntKind.i64.wrap (wt * (ve - y1)) = wt * (ve - y1) := w64 (by omega)
            have w4 : IntKind.i64.wrap (wt * (ve - y2)) = wt * (ve - y2) := w64 (by omega)
            have w5 : IntKind.i64.wrap (ch0 + A0 + wt * (ve - y1)) = ch0 + (A0 + wt * (ve - y1)) := by rw [w64 (by omega)]; omega
            have w6 : IntKind.i64.wrap (cl0 + B0 + wt * (ve - y2)) = cl0 + (B0 + wt * (ve - y2)) := by rw [w64 (by omega)]; omega
            simp only [go_sem, Pl.v, Pl.a, Pl.c4, vw, fldW, List.length_map, iv_len, hk2, k0, hca, hg, j0, j1, gc, hje']
            refine dP hWz ?_
            simp only [go_sem, Pl.v, Pl.a, Pl.c4, vw, fldW, z1, z2, z3, hxv, j0, j1, j2, j3, ga, gb, List.length_map, w1, w2, w3, w4, w5, w6]
            refine dP hWz ?_
            simp only [go_sem, Pl.v, Pl.a, Pl.c4, vw, fldW, z1, z2, z3, hxv, j0, j1, j2, j3, ga, gb, List.length_map, w1, w2, w3, w4, w5, w6, hk3]
            exact ihk _ (by simp [go_sem, vw])
        · have hk2 : ¬ (k : Int) < l.length := by omega
          rw [List.take_of_length_le (by omega)]
          simp only [go_sem, iv_len, hk2, h3]
          exact ihn _ _ (by simp [go_sem, vw])
    · have hz' : (gt p.cs i != e) = true := by simp [hz]
      have t1 : chTo p la e (i + 1) = chTo p la e i := by rw [chTo, if_neg hz, Int.add_zero]
      have t2 : chTo p ha e (i + 1) = chTo p ha e i := by rw [chTo, if_neg hz, Int.add_zero]
      rw [t1, t2] at ihn
      generalize gt p.cs i = z at *
      simp only [go_sem, Pl.v, Pl.a, Pl.c4, vw, fldW, List.length_map, h2, n0, hx, hz', h3]
      exact ihn X _ (by simp [go_sem, vw, fldW, Pl.v, Pl.a, Pl.c4])
  · have h2 : ¬ (i : Int) < p.cs.length := by omega
    have hie : i = p.w * p.h := by omega
    subst hie
    simp only [go_sem, Pl.v, Pl.a, Pl.c4, vw, fldW, List.length_map, h2, Rg.v, chg]
end Go.Proofs

namespace Go.Proofs
open Go Go.Sx
attribute [local irreducible] Run

end Go.Proofs

namespace Go.Proofs
open Go Go.Sx

theorem at_struct {P : Program} {n : Nat} {t : TypeId} {fs : Array Field} (hu : P.underlying t = some (.struct fs)) {vs : List AVal} (h : AT P (n + 1) t vs) : ATs (AT P n) fs.toList vs := by
  unfold AT at h; rw [hu] at h; exact h
theorem at_int {P : Program} {n : Nat} {t : TypeId} {k : IntKind} (hu : P.underlying t = some (.int k)) {vs : List AVal} (h : AT P (n + 1) t vs) : ∃ m, vs = [.int k m] ∧ (Lit.int k m).wf = true := by
  unfold AT at h; rw [hu] at h; exact h
theorem at_bool {P : Program} {n : Nat} {t : TypeId} (hu : P.underlying t = some .bool) {vs : List AVal} (h : AT P (n + 1) t vs) : ∃ b, vs = [.bool b] := by
  unfold AT at h; rw [hu] at h; exact h
theorem at_slice {P : Program} {n : Nat} {t e : TypeId} (hu : P.underlying t = some (.slice e)) {vs : List AVal} (h : AT P (n + 1) t vs) : ∃ es, vs = [.view es] ∧ es.length ≤ maxLen ∧ ∀ x ∈ es, if aggT P e = true then ∃ ws, x = .agg ws ∧ AT P n e ws else AT P n e [x] := by
  unfold AT at h; rw [hu] at h; exact h
theorem list_map {α β : Type} {f : α → β} {Q : α → Prop} : ∀ l : List β, (∀ x ∈ l, ∃ a, x = f a ∧ Q a) → ∃ l' : List α, l = l'.map f ∧ ∀ a ∈ l', Q a
  | [], _ => ⟨[], rfl, fun a ha => by simp at ha⟩
  | x :: l, h => by
    obtain ⟨a, rfl, ha⟩ := h x (by simp)
    obtain ⟨l', rfl, h'⟩ := list_map l fun y hy => h y (by simp [hy])
    exact ⟨a :: l', rfl, fun b hb => by
      rcases List.mem_cons.1 hb with rfl | hb
      · exact ha
      · exact h' b hb⟩

attribute [local irreducible] AT
set_option maxRecDepth 100000
theorem atn_int {n : Nat} {vs : List AVal} (h : AT Try.prog (n + 1) 3 vs) : ∃ m, vs = [.int .i64 m] ∧ (Lit.int .i64 m).wf = true := at_int Try.underlying3 h
theorem atn_bool {n : Nat} {vs : List AVal} (h : AT Try.prog (n + 1) 4 vs) : ∃ b, vs = [.bool b] := at_bool Try.underlying4 h
theorem at_ints {n : Nat} {x : AVal} (h : AT Try.prog (n + 2) 22 [x]) : ∃ l : List Int, x = vw l ∧ l.length ≤ 9223372036854775807 := by
  obtain ⟨es, h1, hl, he⟩ := at_slice Try.underlying22 h
  obtain rfl : x = .view es := by simpa using h1
  have hg : ¬ aggT Try.prog 3 = true := by unfold aggT; rw [Try.underlying3]; decide
  obtain ⟨l, rfl, -⟩ := list_map (f := AVal.int .i64) (Q := fun _ => True) es fun x hx => by
    have := he x hx
    rw [if_neg hg] at this
    obtain ⟨m, hm, -⟩ := atn_int this
    exact ⟨m, by simpa using hm, trivial⟩
  have hm : maxLen = 9223372036854775807 := rfl
  rw [hm] at hl
  exact ⟨l, rfl, by simpa using hl⟩
theorem at_plan {n : Nat} {ws : List AVal} (h : AT Try.prog (n + 3) 24 ws) : ∃ p : Rp, .agg ws = p.v ∧ p.cs.length ≤ 9223372036854775807 := by
  obtain ⟨a, _, rfl, ha, b, _, rfl, hb, c, _, rfl, hc, d, _, rfl, hd, rfl⟩ := at_struct Try.underlying24 h
  obtain ⟨x, rfl, -⟩ := atn_int ha
  obtain ⟨y, rfl, -⟩ := atn_int hb
  obtain ⟨r, rfl⟩ := atn_bool hc
  obtain ⟨es, rfl, -⟩ := at_slice Try.underlying22 hd
  obtain ⟨l, h1, h2⟩ := at_ints hd
  exact ⟨⟨x, y, r, l⟩, by show AVal.agg [_, _, _, AVal.view es] = _; rw [h1]; rfl, h2⟩
end Go.Proofs

namespace Go.Proofs
open Go Go.Sx
attribute [local irreducible] Run

theorem rp_frz (d : Nat) (H : Heap) (p : Rp) : frz (d + 3) H p.v = p.v := by
  show AVal.agg [_, _, _, frz (d + 2) H (vw p.cs)] = _
  rw [vw_frz]; rfl

def Pl.rp (p : Pl) : Rp := ⟨p.w, p.h, p.rd, p.cs⟩
theorem Pl.rp_v (p : Pl) : p.rp.v = p.v := rfl
theorem Pl.rp_pl (p : Pl) : p.rp.pl = p := by
  show (⟨((p.w : Int)).toNat, ((p.h : Int)).toNat, p.rd, p.cs⟩ : Pl) = p
  rw [Int.toNat_natCast, Int.toNat_natCast]
theorem PlOK.err {p : Pl} (hp : PlOK p) : p.rp.err = 0 := by
  have hw := hp.w; have hh := hp.h
  have hm := hp.max
  unfold Rp.err Pl.rp
  dsimp only
  rw [if_neg (by omega), if_neg (by rw [hp.len]; push_cast; omega), if_neg (by intro h; exact h hp.cell), if_neg (by omega)]
theorem PlOK.errV {p : Pl} (hp : PlOK p) {v : List Int} (hv : VOK v) (hvl : (v.length : Int) = gmax p.cs) : p.rp.errV v = 0 := by
  unfold Rp.errV
  rw [if_neg (fun h => h hp.err), if_neg (fun h => h hvl)]
  unfold numErr
  rw [if_pos (show ∀ x ∈ v, -1000000 ≤ x ∧ x ≤ 1000000 from hv)]
theorem PlOK.errS {p : Pl} (hp : PlOK p) {v : List Int} (hv : VOK v) (hvl : (v.length : Int) = gmax p.cs) {n : Int} (hn : 0 ≤ n ∧ n ≤ 200) : p.rp.errS v n = 0 := by
  unfold Rp.errS
  rw [if_neg (fun h => h (hp.errV hv hvl)), if_pos hn]

end Go.Proofs

namespace Go.Proofs
open Go Go.Sx

end Go.Proofs

namespace Go.Proofs
open Go Go.Sx
attribute [local irreducible] Run

def Bnd (p : Pl) (l : List Int) : Prop := l.length = p.cs.length ∧ ∀ x ∈ l, -1000000 ≤ x ∧ x ≤ 1000000
theorem Bnd.at {p : Pl} (hp : PlOK p) {l : List Int} (h : Bnd p l) : AtOK p l := ⟨by rw [h.1, hp.len], fun i hi => h.2 _ (gt_mem (by rw [h.1, hp.len]; exact hi))⟩
theorem no_of {b : Bool} {P : Prop} (hb : b = true ↔ P) (h : ¬ P) : b = false := by
  cases b with
  | false => rfl
  | true => exact absurd (hb.1 rfl) h
theorem all_take {l : List Int} {i : Nat} {Q : Int → Prop} (h : ∀ x ∈ l.take i, Q x) (hi : i < l.length) (hq : Q (gt l i)) : ∀ x ∈ l.take (i + 1), Q x := fun x hx => by
  rw [List.take_add_one, gt_get hi] at hx
  rcases List.mem_append.1 hx with h1 | h1
  · exact h x h1
  · simp at h1; rw [h1]; exact hq

end Go.Proofs

namespace Go.Proofs
open Go Go.Sx
attribute [local irreducible] Run

end Go.Proofs

namespace Go.Proofs
open Go Go.Sx
attribute [local irreducible] Run

theorem SameInts_self {l : List Int} (hlen : l.length ≤ 1000000) : Ans Try.prog n_ref01_SameInts [vw l, vw l] [] (.bool true) [] := by
  refine spec_run e_ref01_SameInts fun G => ?_
  simp only [go_sem, vw, bne_self_eq_false]
  refine loop_ind k_ref01_SameInts_r8.eq_1 (fun i : Nat => i ≤ l.length) (fun i => l.length - i)
    (fun i => (tsets 26 [(0, vw l), (1, vw l), (5, .int .i64 i)], [])) 0 (Nat.zero_le _) (by simp [go_sem, vw]) rfl ?_
  intro i hi ih
  dsimp only at hi ih ⊢
  by_cases h1 : i < l.length
  · have h2 : (i : Int) < l.length := by omega
    have h3 := idx_next h1 (by omega)
    have n0 : ¬ (i : Int) < 0 := by omega
    have hx := gt_get h1
    generalize gt l i = z at *
    simp only [go_sem, vw, List.length_map, h2, n0, hx, bne_self_eq_false, h3]
    exact ih (i + 1) (by omega) h1 _ (by simp [go_sem, vw])
  · have h2 : ¬ (i : Int) < l.length := by omega
    simp only [go_sem, vw, List.length_map, h2]
theorem refSame_self {p : Pl} (hlen : p.cs.length ≤ 1000000) : Ans Try.prog n_ref01_Same [p.v, p.v] [] (.bool true) [] := by
  have h := SameInts_self hlen
  refine spec_run e_ref01_Same fun G => ?_
  have e1 : ((p.w : Int) == p.w) = true := by simp
  have e2 : ((p.h : Int) == p.h) = true := by simp
  have e3 : (p.rd == p.rd) = true := by simp
  simp only [go_sem, Pl.v, Pl.a, Pl.c4, vw, e1, e2, e3]
  refine cP h ?_
  simp only [go_sem]

end Go.Proofs

namespace Go.Proofs
open Go Go.Sx
attribute [local irreducible] Run

theorem big_gen (p : Rp) (ls : List (List Int)) (hls : ls.length ≤ 1000) (b : Bool) (hb : b = true ↔ ((∃ l ∈ ls, 300 < l.length) ∨ 300 < p.cs.length)) : Ans Try.prog n_law01_big [p.v, .view (ls.map vw)] [] (.bool b) [] := by
  refine spec_run e_law01_big fun G => ?_
  simp only [go_sem, Rp.v]
  refine loop_ind k_law01_big_r6.eq_1 (fun i : Nat => i ≤ ls.length ∧ ∀ l ∈ ls.take i, ¬ 300 < l.length) (fun i => ls.length - i)
    (fun i => (tsets 22 [(1, .view (ls.map vw)), (2, .ptr 0 0 0 1), (5, .int .i64 i)], [some (.cells false 4 [p.v])])) 0 ⟨Nat.zero_le _, fun l hl => by simp at hl⟩ (by simp [go_sem]) rfl ?_
  rintro i ⟨hi, hall⟩ ih
  dsimp only at hi hall ih ⊢
  by_cases h1 : i < ls.length
  · have h2 : (i : Int) < ls.length := by omega
    have h3 := idx_next h1 (by omega)
    have n0 : ¬ (i : Int) < 0 := by omega
    have hx : ls[i]? = some ls[i] := List.getElem?_eq_getElem h1
    have hm : ls[i] ∈ ls := List.getElem_mem h1
    have hT : ls.take (i + 1) = ls.take i ++ [ls[i]] := by rw [List.take_add_one, hx]; rfl
    have ihn := fun hq : ¬ 300 < ls[i].length => ih (i + 1) (by omega) ⟨h1, fun l hl => by
      rw [hT] at hl
      rcases List.mem_append.1 hl with h | h
      · exact hall l h
      · simp at h; rw [h]; exact hq⟩
    clear ih hT
    generalize ls[i] = l at *
    by_cases hq : (300 : Int) < l.length
    · rw [hb.2 (.inl ⟨l, hm, by omega⟩)]
      simp only [go_sem, List.length_map, h2, n0, hx, vw, hq]
    · simp only [go_sem, List.length_map, h2, n0, hx, vw, hq, h3]
      exact ihn (by omega) _ (by simp [go_sem])
  · have h2 : ¬ (i : Int) < ls.length := by omega
    rw [List.take_of_length_le (by omega)] at hall
    by_cases hq : (300 : Int) < p.cs.length
    · rw [hb.2 (.inr (by omega))]
      simp only [go_sem, Rp.v, List.length_map, h2, vw, hq]
    · rw [no_of hb fun h => by
        rcases h with ⟨l, hl, h⟩ | h
        · exact hall l hl h
        · omega]
      simp only [go_sem, Rp.v, List.length_map, h2, vw, hq]
end Go.Proofs

namespace Go.Proofs
open Go Go.Sx

def k_ref01_Amplification_r0 : List AOper := [
  ⟨(some (5)), .box (.tmp 0), none, []⟩, 
  ⟨(some (10)), .box (.const (.agg [.int .i64 0, .int .i64 0])), none, []⟩, 
  ⟨(some (11)), .move (.const (.int .i64 0)), none, []⟩]
def k_ref01_Amplification_r1 : List AOper := [
  ⟨(some (15)), .load (some (4)) (.tmp 5), none, []⟩, 
  ⟨(some (16)), .move (.tmp 1), none, []⟩, 
  ⟨(some (17)), .move (.tmp 2), none, []⟩, 
  ⟨(some (18)), .move (.tmp 3), none, []⟩, 
  ⟨(some (19)), .move (.tmp 4), none, []⟩, 
  ⟨(some (20)), .buildSlice 1 [.tmp 17, .tmp 18, .tmp 19], none, []⟩, 
  ⟨(some (21)), .call (.const (.fn (.func 90) [] [])) [.tmp 15, .tmp 16, .tmp 20], none, []⟩, 
  ⟨(some (12)), .move (.tmp 21), none, []⟩]
def k_ref01_Amplification_r2 : List AOper := [
  ⟨(some (22)), .move (.tmp 12), none, []⟩, 
  ⟨(some (23)), .bin .plain .neq (.tmp 22) (.const (.int .i64 0)), none, []⟩]
def k_ref01_Amplification_r3 : List AOper := [
  ⟨(some (24)), .build [.int .i64 0, .int .i64 0] [], none, []⟩, 
  ⟨(some (25)), .move (.tmp 12), none, []⟩, 
  ⟨none, .store 2 (.tmp 10) (.tmp 24), none, []⟩, 
  ⟨(some (11)), .move (.tmp 25), none, []⟩]
def k_ref01_Amplification_r4 : List AOper := [
  ⟨(some (26)), .load (some (4)) (.tmp 5), none, []⟩, 
  ⟨(some (27)), .move (.tmp 1), none, [0]⟩, 
  ⟨(some (28)), .move (.tmp 3), none, [0, 1]⟩, 
  ⟨(some (29)), .move (.tmp 2), none, [0, 1, 2]⟩, 
  ⟨(some (30)), .call (.const (.fn (.func 91) [] [])) [.tmp 26, .tmp 27, .tmp 28, .tmp 29], none, []⟩, 
  ⟨(some (31)), .load (some (4)) (.tmp 5), none, [0, 1, 2, 3, 4]⟩, 
  ⟨(some (32)), .move (.tmp 1), none, [0, 1, 2, 3, 4, 5]⟩, 
  ⟨(some (33)), .move (.tmp 4), none, [0, 1, 2, 3, 4, 5, 6]⟩, 
  ⟨(some (34)), .move (.tmp 2), none, [0, 1, 2, 3, 4, 5, 6, 7]⟩, 
  ⟨(some (35)), .call (.const (.fn (.func 91) [] [])) [.tmp 31, .tmp 32, .tmp 33, .tmp 34], none, []⟩, 
  ⟨(some (13)), .box (.const (.agg [.int .i64 0, .int .i64 0])), none, [0, 1, 2, 3, 4, 5, 6, 7, 8, 9]⟩, 
  ⟨(some (14)), .box (.const (.agg [.int .i64 0, .int .i64 0])), none, [0, 1, 2, 3, 4, 5, 6, 7, 8, 9, 10]⟩, 
  ⟨none, .store 2 (.tmp 13) (.tmp 30), none, []⟩, 
  ⟨none, .store 2 (.tmp 14) (.tmp 35), none, []⟩]
def k_ref01_Amplification_r4s : List (List AOper) := [
  [
  ⟨(some (26)), .load (some (4)) (.tmp 5), none, []⟩, 
  ⟨(some (27)), .move (.tmp 1), none, [0]⟩, 
  ⟨(some (28)), .move (.tmp 3), none, [0, 1]⟩, 
  ⟨(some (29)), .move (.tmp 2), none, [0, 1, 2]⟩, 
  ⟨(some (30)), .call (.const (.fn (.func 91) [] [])) [.tmp 26, .tmp 27, .tmp 28, .tmp 29], none, []⟩, 
  ⟨(some (31)), .load (some (4)) (.tmp 5), none, [0, 1, 2, 3, 4]⟩, 
  ⟨(some (32)), .move (.tmp 1), none, [0, 1, 2, 3, 4, 5]⟩, 
  ⟨(some (33)), .move (.tmp 4), none, [0, 1, 2, 3, 4, 5, 6]⟩, 
  ⟨(some (34)), .move (.tmp 2), none, [0, 1, 2, 3, 4, 5, 6, 7]⟩, 
  ⟨(some (35)), .call (.const (.fn (.func 91) [] [])) [.tmp 31, .tmp 32, .tmp 33, .tmp 34], none, []⟩, 
  ⟨(some (13)), .box (.const (.agg [.int .i64 0, .int .i64 0])), none, [0, 1, 2, 3, 4, 5, 6, 7, 8, 9]⟩, 
  ⟨(some (14)), .box (.const (.agg [.int .i64 0, .int .i64 0])), none, [0, 1, 2, 3, 4, 5, 6, 7, 8, 9, 10]⟩], 
  [
  ⟨none, .store 2 (.tmp 13) (.tmp 30), none, []⟩], 
  [
  ⟨none, .store 2 (.tmp 14) (.tmp 35), none, []⟩]]
theorem k_ref01_Amplification_r4_sg : segs k_ref01_Amplification_r4 = k_ref01_Amplification_r4s := by kernel_rfl
theorem k_ref01_Amplification_r4_st : statOK k_ref01_Amplification_r4 = true := by kernel_rfl
def k_ref01_Amplification_r5 : List AOper := [
  ⟨(some (36)), .fieldAddr 0 (.tmp 14), none, []⟩, 
  ⟨(some (37)), .load none (.tmp 36), none, []⟩, 
  ⟨(some (38)), .bin .plain .lss (.tmp 37) (.const (.int .i64 1)), none, []⟩]
def k_ref01_Amplification_r6 : List AOper := [
  ⟨(some (39)), .build [.int .i64 0, .int .i64 0] [], none, []⟩, 
  ⟨none, .store 2 (.tmp 10) (.tmp 39), none, []⟩, 
  ⟨(some (11)), .move (.const (.int .i64 10)), none, []⟩]
def k_ref01_Amplification_r7 : List AOper := [
  ⟨(some (40)), .fieldAddr 0 (.tmp 13), none, []⟩, 
  ⟨(some (41)), .load none (.tmp 40), none, []⟩, 
  ⟨(some (42)), .bin .plain .mul (.const (.int .i64 1000)) (.tmp 41), none, []⟩, 
  ⟨(some (43)), .fieldAddr 1 (.tmp 14), none, [0, 1, 2]⟩, 
  ⟨(some (44)), .load none (.tmp 43), none, [0, 1, 2]⟩, 
  ⟨(some (45)), .call (.const (.fn (.func 94) [] [])) [.tmp 42, .tmp 44], none, []⟩, 
  ⟨(some (46)), .fieldAddr 1 (.tmp 13), none, [0, 1, 2, 3, 4, 5]⟩, 
  ⟨(some (47)), .load none (.tmp 46), none, [0, 1, 2, 3, 4, 5]⟩, 
  ⟨(some (48)), .bin .plain .mul (.const (.int .i64 1000)) (.tmp 47), none, [0, 1, 2, 3, 4, 5]⟩, 
  ⟨(some (49)), .fieldAddr 0 (.tmp 14), none, [0, 1, 2, 3, 4, 5, 6, 7, 8]⟩, 
  ⟨(some (50)), .load none (.tmp 49), none, [0, 1, 2, 3, 4, 5, 6, 7, 8]⟩, 
  ⟨(some (51)), .call (.const (.fn (.func 95) [] [])) [.tmp 48, .tmp 50], none, []⟩, 
  ⟨(some (52)), .build [.int .i64 0, .int .i64 0] [(0, 1, .tmp 45), (1, 1, .tmp 51)], none, []⟩, 
  ⟨none, .store 2 (.tmp 10) (.tmp 52), none, []⟩, 
  ⟨(some (11)), .move (.const (.int .i64 0)), none, []⟩]
def k_ref01_Amplification_r7s : List (List AOper) := [
  [
  ⟨(some (40)), .fieldAddr 0 (.tmp 13), none, []⟩, 
  ⟨(some (41)), .load none (.tmp 40), none, []⟩, 
  ⟨(some (42)), .bin .plain .mul (.const (.int .i64 1000)) (.tmp 41), none, []⟩, 
  ⟨(some (43)), .fieldAddr 1 (.tmp 14), none, [0, 1, 2]⟩, 
  ⟨(some (44)), .load none (.tmp 43), none, [0, 1, 2]⟩, 
  ⟨(some (45)), .call (.const (.fn (.func 94) [] [])) [.tmp 42, .tmp 44], none, []⟩, 
  ⟨(some (46)), .fieldAddr 1 (.tmp 13), none, [0, 1, 2, 3, 4, 5]⟩, 
  ⟨(some (47)), .load none (.tmp 46), none, [0, 1, 2, 3, 4, 5]⟩, 
  ⟨(some (48)), .bin .plain .mul (.const (.int .i64 1000)) (.tmp 47), none, [0, 1, 2, 3, 4, 5]⟩, 
  ⟨(some (49)), .fieldAddr 0 (.tmp 14), none, [0, 1, 2, 3, 4, 5, 6, 7, 8]⟩, 
  ⟨(some (50)), .load none (.tmp 49), none, [0, 1, 2, 3, 4, 5, 6, 7, 8]⟩], 
  [
  ⟨(some (51)), .call (.const (.fn (.func 95) [] [])) [.tmp 48, .tmp 50], none, []⟩], 
  [
  ⟨(some (52)), .build [.int .i64 0, .int .i64 0] [(0, 1, .tmp 45), (1, 1, .tmp 51)], none, []⟩], 
  [
  ⟨none, .store 2 (.tmp 10) (.tmp 52), none, []⟩], 
  [
  ⟨(some (11)), .move (.const (.int .i64 0)), none, []⟩]]
theorem k_ref01_Amplification_r7_sg : segs k_ref01_Amplification_r7 = k_ref01_Amplification_r7s := by kernel_rfl
theorem k_ref01_Amplification_r7_st : statOK k_ref01_Amplification_r7 = true := by kernel_rfl
def k_ref01_Amplification : AFun := { params := 5, ntmps := 53, body := (.seq (.reg k_ref01_Amplification_r0 false) (.seq (.seq (.reg k_ref01_Amplification_r1 false) (.seq (.reg k_ref01_Amplification_r2 false) (.cond (.tmp 23) (.seq (.reg k_ref01_Amplification_r3 false) .ret) .skip))) (.seq (.reg k_ref01_Amplification_r4 true) (.seq (.seq (.reg k_ref01_Amplification_r5 false) (.cond (.tmp 38) (.seq (.reg k_ref01_Amplification_r6 false) .ret) .skip)) (.seq (.reg k_ref01_Amplification_r7 true) .ret))))), res := [.cell 10 (some ((some (2)))), .tmp 11] }
theorem k_ref01_Amplification_ok : cfun Try.prog Try.f50 = k_ref01_Amplification := by kernel_rfl

def k_ref01_askable_r0 : List AOper := [
  ⟨(some (3)), .box (.tmp 0), none, []⟩, 
  ⟨(some (6)), .move (.const (.int .i64 0)), none, []⟩]
def k_ref01_askable_r1 : List AOper := [
  ⟨(some (11)), .load (some (4)) (.tmp 3), none, []⟩, 
  ⟨(some (12)), .call (.const (.fn (.func 27) [] [])) [.tmp 11], none, []⟩, 
  ⟨(some (7)), .move (.tmp 12), none, []⟩]
def k_ref01_askable_r2 : List AOper := [
  ⟨(some (13)), .move (.tmp 7), none, []⟩, 
  ⟨(some (14)), .bin .plain .neq (.tmp 13) (.const (.int .i64 0)), none, []⟩]
def k_ref01_askable_r3 : List AOper := [
  ⟨(some (15)), .move (.tmp 7), none, []⟩, 
  ⟨(some (6)), .move (.tmp 15), none, []⟩]
def k_ref01_askable_r4 : List AOper := [
  ⟨(some (16)), .move (.tmp 1), none, []⟩, 
  ⟨(some (17)), .call (.const (.fn (.func 71) [] [])) [.tmp 16, .const (.int .i64 0), .const (.int .i64 200)], none, []⟩]
def k_ref01_askable_r5 : List AOper := [
  ⟨(some (6)), .move (.const (.int .i64 2)), none, []⟩]
def k_ref01_askable_r6 : List AOper := [
  ⟨(some (8)), .move (.const (.int .i64 0)), none, []⟩]
def k_ref01_askable_r7 : List AOper := [
  ⟨(some (18)), .move (.tmp 8), none, []⟩, 
  ⟨(some (19)), .move (.tmp 2), none, []⟩, 
  ⟨(some (20)), .len false (.tmp 19), none, []⟩, 
  ⟨(some (21)), .bin .plain .lss (.tmp 18) (.tmp 20), none, []⟩]
def k_ref01_askable_r8 : List AOper := [
  ⟨(some (24)), .load (some (4)) (.tmp 3), none, []⟩, 
  ⟨(some (25)), .move (.tmp 2), none, [0]⟩, 
  ⟨(some (26)), .move (.tmp 8), none, [0, 1]⟩, 
  ⟨(some (27)), .indexAddr 1 (.tmp 25) (.tmp 26), none, [0]⟩, 
  ⟨(some (28)), .load none (.tmp 27), none, [0]⟩, 
  ⟨(some (29)), .call (.const (.fn (.func 76) [] [])) [.tmp 24, .tmp 28], none, []⟩, 
  ⟨(some (30)), .not (.tmp 29), none, []⟩]
def k_ref01_askable_r8s : List (List AOper) := [
  [
  ⟨(some (24)), .load (some (4)) (.tmp 3), none, []⟩, 
  ⟨(some (25)), .move (.tmp 2), none, [0]⟩, 
  ⟨(some (26)), .move (.tmp 8), none, [0, 1]⟩, 
  ⟨(some (27)), .indexAddr 1 (.tmp 25) (.tmp 26), none, [0]⟩, 
  ⟨(some (28)), .load none (.tmp 27), none, [0]⟩], 
  [
  ⟨(some (29)), .call (.const (.fn (.func 76) [] [])) [.tmp 24, .tmp 28], none, []⟩], 
  [
  ⟨(some (30)), .not (.tmp 29), none, []⟩]]
theorem k_ref01_askable_r8_sg : segs k_ref01_askable_r8 = k_ref01_askable_r8s := by kernel_rfl
theorem k_ref01_askable_r8_st : statOK k_ref01_askable_r8 = true := by kernel_rfl
def k_ref01_askable_r9 : List AOper := [
  ⟨(some (6)), .move (.const (.int .i64 7)), none, []⟩]
def k_ref01_askable_r10 : List AOper := [
  ⟨(some (22)), .move (.tmp 8), none, []⟩, 
  ⟨(some (23)), .bin .plain .add (.tmp 22) (.const (.int .i64 1)), none, []⟩, 
  ⟨(some (8)), .move (.tmp 23), none, []⟩]
def k_ref01_askable_r11 : ACode := (.seq (.seq (.reg k_ref01_askable_r7 false) (.cond (.tmp 21) .skip (.exit 0))) (.seq (.block 1 (.seq (.reg k_ref01_askable_r8 true) (.cond (.tmp 30) (.seq (.reg k_ref01_askable_r9 false) .ret) .skip))) (.reg k_ref01_askable_r10 false)))
def k_ref01_askable_r12 : List AOper := [
  ⟨(some (9)), .move (.const (.int .i64 0)), none, []⟩]
def k_ref01_askable_r13 : List AOper := [
  ⟨(some (31)), .move (.tmp 9), none, []⟩, 
  ⟨(some (32)), .move (.tmp 2), none, []⟩, 
  ⟨(some (33)), .len false (.tmp 32), none, []⟩, 
  ⟨(some (34)), .bin .plain .lss (.tmp 31) (.tmp 33), none, []⟩]
def k_ref01_askable_r14 : List AOper := [
  ⟨(some (10)), .move (.const (.int .i64 0)), none, []⟩]
def k_ref01_askable_r15 : List AOper := [
  ⟨(some (37)), .move (.tmp 10), none, []⟩, 
  ⟨(some (38)), .move (.tmp 9), none, []⟩, 
  ⟨(some (39)), .bin .plain .lss (.tmp 37) (.tmp 38), none, []⟩]
def k_ref01_askable_r16 : List AOper := [
  ⟨(some (42)), .move (.tmp 2), none, []⟩, 
  ⟨(some (43)), .move (.tmp 9), none, [0]⟩, 
  ⟨(some (44)), .indexAddr 1 (.tmp 42) (.tmp 43), none, []⟩, 
  ⟨(some (45)), .load none (.tmp 44), none, []⟩, 
  ⟨(some (46)), .move (.tmp 2), none, [0, 1, 2, 3]⟩, 
  ⟨(some (47)), .move (.tmp 10), none, [0, 1, 2, 3, 4]⟩, 
  ⟨(some (48)), .indexAddr 1 (.tmp 46) (.tmp 47), none, [0, 1, 2, 3]⟩, 
  ⟨(some (49)), .load none (.tmp 48), none, [0, 1, 2, 3]⟩, 
  ⟨(some (50)), .bin .plain .eql (.tmp 45) (.tmp 49), none, []⟩]
def k_ref01_askable_r16s : List (List AOper) := [
  [
  ⟨(some (42)), .move (.tmp 2), none, []⟩, 
  ⟨(some (43)), .move (.tmp 9), none, [0]⟩, 
  ⟨(some (44)), .indexAddr 1 (.tmp 42) (.tmp 43), none, []⟩, 
  ⟨(some (45)), .load none (.tmp 44), none, []⟩, 
  ⟨(some (46)), .move (.tmp 2), none, [0, 1, 2, 3]⟩, 
  ⟨(some (47)), .move (.tmp 10), none, [0, 1, 2, 3, 4]⟩, 
  ⟨(some (48)), .indexAddr 1 (.tmp 46) (.tmp 47), none, [0, 1, 2, 3]⟩, 
  ⟨(some (49)), .load none (.tmp 48), none, [0, 1, 2, 3]⟩], 
  [
  ⟨(some (50)), .bin .plain .eql (.tmp 45) (.tmp 49), none, []⟩]]
theorem k_ref01_askable_r16_sg : segs k_ref01_askable_r16 = k_ref01_askable_r16s := by kernel_rfl
theorem k_ref01_askable_r16_st : statOK k_ref01_askable_r16 = true := by kernel_rfl
def k_ref01_askable_r17 : List AOper := [
  ⟨(some (6)), .move (.const (.int .i64 9)), none, []⟩]
def k_ref01_askable_r18 : List AOper := [
  ⟨(some (40)), .move (.tmp 10), none, []⟩, 
  ⟨(some (41)), .bin .plain .add (.tmp 40) (.const (.int .i64 1)), none, []⟩, 
  ⟨(some (10)), .move (.tmp 41), none, []⟩]
def k_ref01_askable_r19 : ACode := (.seq (.seq (.reg k_ref01_askable_r15 false) (.cond (.tmp 39) .skip (.exit 4))) (.seq (.block 5 (.seq (.reg k_ref01_askable_r16 true) (.cond (.tmp 50) (.seq (.reg k_ref01_askable_r17 false) .ret) .skip))) (.reg k_ref01_askable_r18 false)))
def k_ref01_askable_r20 : List AOper := [
  ⟨(some (35)), .move (.tmp 9), none, []⟩, 
  ⟨(some (36)), .bin .plain .add (.tmp 35) (.const (.int .i64 1)), none, []⟩, 
  ⟨(some (9)), .move (.tmp 36), none, []⟩]
def k_ref01_askable_r21 : ACode := (.seq (.seq (.reg k_ref01_askable_r13 false) (.cond (.tmp 34) .skip (.exit 2))) (.seq (.block 3 (.seq (.reg k_ref01_askable_r14 false) (.block 4 (.loop k_ref01_askable_r19)))) (.reg k_ref01_askable_r20 false)))
def k_ref01_askable_r22 : List AOper := [
  ⟨(some (6)), .move (.const (.int .i64 0)), none, []⟩]
def k_ref01_askable : AFun := { params := 3, ntmps := 51, body := (.seq (.reg k_ref01_askable_r0 false) (.seq (.seq (.reg k_ref01_askable_r1 false) (.seq (.reg k_ref01_askable_r2 false) (.cond (.tmp 14) (.seq (.reg k_ref01_askable_r3 false) .ret) .skip))) (.seq (.seq (.reg k_ref01_askable_r4 false) (.cond (.tmp 17) (.seq (.reg k_ref01_askable_r5 false) .ret) .skip)) (.seq (.seq (.reg k_ref01_askable_r6 false) (.block 0 (.loop k_ref01_askable_r11))) (.seq (.seq (.reg k_ref01_askable_r12 false) (.block 2 (.loop k_ref01_askable_r21))) (.seq (.reg k_ref01_askable_r22 false) .ret)))))), res := [.tmp 6] }
theorem k_ref01_askable_ok : cfun Try.prog Try.f90 = k_ref01_askable := by kernel_rfl

def k_ref01_influence_r0 : List AOper := [
  ⟨(some (4)), .box (.tmp 0), none, []⟩, 
  ⟨(some (8)), .box (.const (.agg [.int .i64 0, .int .i64 0])), none, []⟩]
def k_ref01_influence_r1 : List AOper := [
  ⟨(some (13)), .load (some (4)) (.tmp 4), none, []⟩, 
  ⟨(some (14)), .call (.const (.fn (.func 74) [] [])) [.tmp 13], none, []⟩, 
  ⟨(some (15)), .makeSlice (.int .i64 0) 8 (.tmp 14) (.tmp 14), none, []⟩, 
  ⟨(some (9)), .move (.tmp 15), none, []⟩]
def k_ref01_influence_r2 : List AOper := [
  ⟨(some (16)), .move (.tmp 9), none, []⟩, 
  ⟨(some (17)), .move (.tmp 2), none, []⟩, 
  ⟨(some (18)), .bin .plain .sub (.tmp 17) (.const (.int .i64 1)), none, []⟩, 
  ⟨(some (19)), .indexAddr 1 (.tmp 16) (.tmp 18), none, []⟩, 
  ⟨none, .store 1 (.tmp 19) (.const (.int .i64 1000000)), none, []⟩]
def k_ref01_influence_r3 : List AOper := [
  ⟨(some (21)), .load (some (4)) (.tmp 4), none, []⟩, 
  ⟨(some (22)), .move (.tmp 9), none, []⟩, 
  ⟨(some (23)), .move (.tmp 1), none, []⟩, 
  ⟨(some (24)), .call (.const (.fn (.func 39) [] [])) [.tmp 21, .tmp 22, .tmp 23], none, []⟩, 
  ⟨(some (20)), .move (.tmp 24), none, []⟩, 
  ⟨(some (25)), .extract (.tmp 20) 0, none, []⟩, 
  ⟨(some (26)), .extract (.tmp 20) 1, none, []⟩, 
  ⟨(some (10)), .box (.const (.agg [.nilsl, .nilsl, .int .i64 0, .bool false])), none, []⟩, 
  ⟨none, .store 4 (.tmp 10) (.tmp 25), none, []⟩, 
  ⟨(some (11)), .move (.tmp 26), none, []⟩]
def k_ref01_influence_r4 : List AOper := [
  ⟨(some (27)), .load (some (4)) (.tmp 4), none, []⟩, 
  ⟨(some (28)), .move (.tmp 9), none, []⟩, 
  ⟨(some (29)), .load (some (4)) (.tmp 10), none, []⟩, 
  ⟨(some (30)), .move (.tmp 3), none, []⟩, 
  ⟨(some (31)), .call (.const (.fn (.func 87) [] [])) [.tmp 27, .tmp 28, .tmp 29, .tmp 30], none, []⟩, 
  ⟨(some (12)), .box (.const (.agg [.int .i64 0, .int .i64 0])), none, []⟩, 
  ⟨none, .store 2 (.tmp 12) (.tmp 31), none, []⟩]
def k_ref01_influence_r5 : List AOper := [
  ⟨(some (32)), .fieldAddr 1 (.tmp 12), none, []⟩, 
  ⟨(some (33)), .load none (.tmp 32), none, []⟩, 
  ⟨(some (34)), .neg (.tmp 33), none, []⟩, 
  ⟨(some (35)), .fieldAddr 0 (.tmp 12), none, []⟩, 
  ⟨(some (36)), .load none (.tmp 35), none, []⟩, 
  ⟨(some (37)), .neg (.tmp 36), none, []⟩, 
  ⟨(some (38)), .build [.int .i64 0, .int .i64 0] [(0, 1, .tmp 34), (1, 1, .tmp 37)], none, []⟩, 
  ⟨none, .store 2 (.tmp 8) (.tmp 38), none, []⟩]
def k_ref01_influence : AFun := { params := 4, ntmps := 39, body := (.seq (.reg k_ref01_influence_r0 false) (.seq (.reg k_ref01_influence_r1 false) (.seq (.reg k_ref01_influence_r2 false) (.seq (.reg k_ref01_influence_r3 false) (.seq (.reg k_ref01_influence_r4 false) (.seq (.reg k_ref01_influence_r5 false) .ret)))))), res := [.cell 8 (some ((some (2))))] }
theorem k_ref01_influence_ok : cfun Try.prog Try.f91 = k_ref01_influence := by kernel_rfl


abbrev n_ref01_Amplification : Nat := 50
theorem e_ref01_Amplification : EntryOK Try.prog n_ref01_Amplification k_ref01_Amplification := ⟨Try.f50, Try.func50, k_ref01_Amplification_ok, by kernel_rfl⟩
abbrev n_ref01_askable : Nat := 90
theorem e_ref01_askable : EntryOK Try.prog n_ref01_askable k_ref01_askable := ⟨Try.f90, Try.func90, k_ref01_askable_ok, by kernel_rfl⟩
abbrev n_ref01_influence : Nat := 91
theorem e_ref01_influence : EntryOK Try.prog n_ref01_influence k_ref01_influence := ⟨Try.f91, Try.func91, k_ref01_influence_ok, by kernel_rfl⟩

attribute [go_sem] k_ref01_Amplification_r0 k_ref01_Amplification_r1 k_ref01_Amplification_r2 k_ref01_Amplification_r3 k_ref01_Amplification_r4s k_ref01_Amplification_r5 k_ref01_Amplification_r6 k_ref01_Amplification_r7s k_ref01_askable_r0 k_ref01_askable_r1 k_ref01_askable_r2
attribute [go_sem] k_ref01_askable_r3 k_ref01_askable_r4 k_ref01_askable_r5 k_ref01_askable_r6 k_ref01_askable_r7 k_ref01_askable_r8s k_ref01_askable_r9 k_ref01_askable_r10 k_ref01_askable_r12 k_ref01_askable_r13 k_ref01_askable_r14 k_ref01_askable_r15
attribute [go_sem] k_ref01_askable_r16s k_ref01_askable_r17 k_ref01_askable_r18 k_ref01_askable_r20 k_ref01_askable_r22 k_ref01_influence_r0 k_ref01_influence_r1 k_ref01_influence_r2 k_ref01_influence_r3 k_ref01_influence_r4 k_ref01_influence_r5 k_ref01_Amplification_r4_sg
attribute [go_sem] k_ref01_Amplification_r7_sg k_ref01_askable_r16_sg k_ref01_askable_r8_sg k_ref01_Amplification_r4_st k_ref01_Amplification_r7_st k_ref01_askable_r16_st k_ref01_askable_r8_st k_ref01_Amplification
attribute [go_sem] k_ref01_askable k_ref01_influence
end Go.Proofs

namespace Go.Proofs
open Go Go.Sx
attribute [local irreducible] Run

def Rp.errQ (p : Rp) (n : Int) (l : List Int) : Int := if p.err ≠ 0 then p.err else if 0 ≤ n ∧ n ≤ 200 then chkA p.pl l else 2

set_option maxHeartbeats 4000000 in
theorem rAskable_gen {p : Pl} (hp : PlOK p) (hC : Ans Try.prog n_ref01_Check [p.v] [] (.int .i64 0) []) {n : Int} (hn : 0 ≤ n ∧ n ≤ 200) {l : List Int} (hl : l.length ≤ 1000) : Ans Try.prog n_ref01_askable [p.v, .int .i64 n, vw l] [] (.int .i64 (chkA p l)) [] := by
  have c3 := fun x => rHas_ok hp x
  refine spec_run e_ref01_askable fun G => ?_
  simp only [go_sem, Pl.v, Pl.a, Pl.c4, vw]
  refine cP hC ?_
  simp only [go_sem]
  refine cP (beyond_no hn) ?_
  simp only [go_sem]
  unfold chkA
  refine loop_ind k_ref01_askable_r11.eq_1 (fun i : Nat => i ≤ l.length ∧ ∀ x ∈ l.take i, x ≠ 0 ∧ x ∈ p.cs) (fun i => l.length - i)
    (fun i => (tsets 51 [(2, vw l), (3, .ptr 0 0 0 1), (8, .int .i64 i)], [some (.cells false 4 [p.v])])) 0 ⟨Nat.zero_le _, by simp⟩ (by simp [go_sem, vw]) rfl ?_
  rintro i ⟨hi, hm⟩ ih
  dsimp only at hi hm ih ⊢
  by_cases h1 : i < l.length
  · have h2 : (i : Int) < l.length := by omega
    have h3 := idx_next h1 (by omega)
    have n0 : ¬ (i : Int) < 0 := by omega
    have hx := gt_get h1
    have hmem := gt_mem h1
    have ck := c3 (gt l i)
    have ihn := fun hq => ih (i + 1) (by omega) ⟨h1, all_take hm h1 hq⟩
    clear ih
    generalize gt l i = z at *
    by_cases hz : z ≠ 0 ∧ z ∈ p.cs
    · have hz' : decide (z ≠ 0 ∧ z ∈ p.cs) = true := by simp [hz]
      rw [hz'] at ck
      simp only [go_sem, vw, List.length_map, h2, n0, hx, Pl.v, Pl.a, Pl.c4]
      refine cP ck ?_
      simp only [go_sem, h3]
      exact ihn hz _ (by simp [go_sem, vw])
    · have hz' : decide (z ≠ 0 ∧ z ∈ p.cs) = false := by simpa using hz
      rw [hz'] at ck
      rw [if_neg fun h => hz (h z hmem)]
      simp only [go_sem, vw, List.length_map, h2, n0, hx, Pl.v, Pl.a, Pl.c4]
      refine cP ck ?_
      simp only [go_sem]
  · have h2 : ¬ (i : Int) < l.length := by omega
    rw [List.take_of_length_le (by omega)] at hm
    clear ih c3
    simp only [go_sem, vw, List.length_map, h2, Pl.v, Pl.a, Pl.c4]
    rw [if_pos hm]
    refine loop_ind k_ref01_askable_r21.eq_1 (fun i : Nat => i ≤ l.length ∧ (l.take i).Nodup) (fun i => l.length - i)
      (fun i => (tsets 51 [(2, vw l), (3, .ptr 0 0 0 1), (9, .int .i64 i)], [some (.cells false 4 [p.v])])) 0 ⟨Nat.zero_le _, by simp⟩ (by simp [go_sem, vw]) rfl ?_
    clear h1 h2 hm
    rintro i ⟨hi, hm⟩ ih
    dsimp only at hi hm ih ⊢
    by_cases h1 : i < l.length
    · have h2 : (i : Int) < l.length := by omega
      have h3 := idx_next h1 (by omega)
      have n0 : ¬ (i : Int) < 0 := by omega
      have hx := gt_get h1
      have hT : l.take (i + 1) = l.take i ++ [gt l i] := by rw [List.take_add_one, gt_get h1]; rfl
      have ihn := fun hq => ih (i + 1) (by omega) ⟨h1, hq⟩
      clear ih
      simp only [go_sem, vw, List.length_map, h2]
      refine loop_ind k_ref01_askable_r19.eq_1 (fun k : Nat => k ≤ i ∧ ∀ x ∈ l.take k, x ≠ gt l i) (fun k => i - k)
        (fun k => (tsets 51 [(2, vw l), (3, .ptr 0 0 0 1), (9, .int .i64 i), (10, .int .i64 k)], [some (.cells false 4 [p.v])])) 0 ⟨Nat.zero_le _, by simp⟩ (by simp [go_sem, vw]) rfl ?_
      rintro k ⟨hk, hkm⟩ ih
      dsimp only at hk hkm ih ⊢
      by_cases g1 : k < i
      · have g2 : (k : Int) < i := by omega
        have g3 := idx_next g1 (by omega)
        have g4 : (k : Int) < l.length := by omega
        have k0 : ¬ (k : Int) < 0 := by omega
        have hy := gt_get (l := l) (i := k) (by omega)
        have ihk := fun hq => ih (k + 1) (by omega) ⟨g1, all_take hkm (by omega) hq⟩
        clear ih
        by_cases he : gt l k = gt l i
        · have he' : gt l i = gt l k := he.symm
          rw [if_neg fun hnd => by
            have e1 := gt_get (l := l) (i := k) (by omega)
            have e3 : l[k]? = l[i]? := by rw [e1, hx, he]
            have := (List.getElem?_inj (by omega : k < l.length) hnd).1 e3
            omega]
          have he2 : (gt l i == gt l k) = true := by simp [he]
          generalize gt l k = y at *
          generalize gt l i = z at *
          simp only [go_sem, vw, List.length_map, h2, n0, hx, g2, g4, k0, hy, he2]
        · have he2 : (gt l i == gt l k) = false := by simp; exact fun h => he h.symm
          generalize gt l k = y at *
          generalize gt l i = z at *
          simp only [go_sem, vw, List.length_map, h2, n0, hx, g2, g4, k0, hy, he2, g3]
          exact ihk he _ (by simp [go_sem, vw])
      · have g2 : ¬ (k : Int) < i := by omega
        have hki : k = i := by omega
        subst hki
        simp only [go_sem, g2, h3]
        refine ihn ?_ _ (by simp [go_sem, vw])
        rw [hT, List.nodup_append]
        exact ⟨hm, by simp, fun a ha b hb => by simp only [List.mem_singleton] at hb; rw [hb]; exact hkm a ha⟩
    · have h2 : ¬ (i : Int) < l.length := by omega
      rw [List.take_of_length_le (by omega)] at hm
      rw [if_pos hm]
      simp only [go_sem, vw, List.length_map, h2]

theorem rAskable_raw (p : Rp) (n : Int) {l : List Int} (hlen : p.cs.length ≤ 1000000) (hl : l.length ≤ 1000) : Ans Try.prog n_ref01_askable [p.v, .int .i64 n, vw l] [] (.int .i64 (p.errQ n l)) [] := by
  have c1 := rCheck_raw p hlen
  unfold Rp.errQ
  by_cases h1 : p.err = 0
  · rw [if_neg fun h => h h1]
    rw [h1] at c1
    obtain ⟨hp, hpv⟩ := Rp.ok h1
    by_cases h2 : 0 ≤ n ∧ n ≤ 200
    · rw [if_pos h2]
      rw [hpv] at c1 ⊢
      exact rAskable_gen hp c1 h2 hl
    · rw [if_neg h2]
      refine spec_run e_ref01_askable fun G => ?_
      simp only [go_sem, Rp.v, vw]
      refine cP c1 ?_
      simp only [go_sem]
      refine cP (beyond_yes h2) ?_
      simp only [go_sem]
  · rw [if_pos h1]
    have h1' : (p.err != 0) = true := by simp [h1]
    refine spec_run e_ref01_askable fun G => ?_
    simp only [go_sem, Rp.v, vw]
    refine cP c1 ?_
    simp only [go_sem, h1']

set_option maxHeartbeats 2000000 in
theorem rInfluence_ok {p : Pl} (hp : PlOK p) {n : Nat} (hn : n ≤ 200) {a k : Int} (ha : 1 ≤ a ∧ a ≤ gm p) (hk : 1 ≤ k ∧ k ≤ gm p) :
    Ans Try.prog n_ref01_influence [p.v, .int .i64 n, .int .i64 a, .int .i64 k] [] (inflR p n a k (gm p)).v [] := by
  have hN : p.w * p.h ≤ 256 := Nat.mul_le_mul hp.w.2 hp.h.2
  have hlen := hp.len
  have hg := gm_eq hp
  have hmx := hp.max
  have hm := rGreatest_ok p.rp (by show p.cs.length ≤ _; omega)
  rw [Pl.rp_v] at hm
  have hm' : Ans Try.prog n_ref01_greatest [p.v] [] (.int .i64 (gm p)) [] := by rw [hg]; exact hm
  clear hm
  unfold inflR
  generalize gm p = g at *
  have hv := unitV_vok g a
  have hs := rSolve_ok (p := p.rp) (v := unitV g a) (n := n) (hp.errS hv (by rw [unitV_len]; exact hg) (by omega))
  rw [Pl.rp_v, Pl.rp_pl, Int.toNat_natCast] at hs
  have A' := low_ok hp (unitV g a) (cnt p (unitV g a) n)
  have B' := high_ok hp (unitV g a) (cnt p (unitV g a) n)
  have A := A'.at hv
  have B := B'.at hv
  have hc := rCharge_ok hp hv A B A'.elec B'.elec (cnt p (unitV g a) n) (stl p (unitV g a) (cnt p (unitV g a) n)) k ⟨hk.1, by rw [unitV_len]; exact hk.2, by rw [unitV_len]; omega⟩
  clear A' B'
  have L1 := A.len; have L2 := B.len
  rw [← hlen] at L1 L2
  have b1 := chg_bd hp A k
  have b2 := chg_bd hp B k
  have hul := unitV_len g a
  have hu : (iv (List.replicate g 0)).set (a - 1).toNat (.int .i64 1000000) = iv (unitV g a) := by rw [iv_set]; rfl
  have hr0 : List.replicate g (AVal.int .i64 0) = iv (List.replicate g 0) := by simp [iv]
  generalize lowB p (unitV g a) (cnt p (unitV g a) n) = la at *
  generalize highB p (unitV g a) (cnt p (unitV g a) n) = ha' at *
  generalize stl p (unitV g a) (cnt p (unitV g a) n) = t1 at *
  generalize cnt p (unitV g a) n = c1 at *
  generalize unitV g a = u at *
  have q1 : (0 : Int) ≤ g := by omega
  have q2 : (g : Int) ≤ 2 ^ 44 := by omega
  have q3 : (g : Int) * 8 ≤ 2 ^ 44 := by omega
  have w1 : IntKind.i64.wrap (a - 1) = a - 1 := w64 (by omega)
  have k1 : ¬ a - 1 < 0 := by omega
  have k2 : a - 1 < g := by omega
  have k3 : (a - 1).toNat < g := by omega
  have hge : (iv (List.replicate g 0))[(a - 1).toNat]? = some (.int .i64 (gt (List.replicate g 0) (a - 1).toNat)) := iv_get (by simpa using k3)
  generalize gt (List.replicate g 0) (a - 1).toNat = z0 at *
  have z1 : IntKind.i64.wrap (0 - chg p la k) = - chg p la k := by rw [w64 (by omega)]; omega
  have z2 : IntKind.i64.wrap (0 - chg p ha' k) = - chg p ha' k := by rw [w64 (by omega)]; omega
  refine spec_run e_ref01_influence fun G => ?_
  simp only [go_sem, Pl.v, Pl.a, Pl.c4, vw]
  refine cP hm' ?_
  simp only [go_sem, q1, q2, q3, Int.toNat_natCast, hr0, w1, k1, k2, hge, hu]
  refine ⟨Int.le_refl _, ?_⟩
  refine cFN2 hs 6 ⟨.inl (plv_frz 3 _ p), .inl (iv_frz_sl (d := 4) (j := 2) (g := false) rfl hul.symm), .inl rfl, trivial⟩ ?_ (by simp [go_sem, fldV]) (by simp only [go_sem, fldV]) (iv_row _ _ _) (iv_nv _ _) (iv_row _ _ _) (iv_nv _ _)
  simp only [go_sem, ren, rens, fldV, Pl.v, Pl.a, Pl.c4, vw]
  refine cF hc 6 ⟨.inl (plv_frz 3 _ p), .inl (iv_frz_sl (d := 4) (j := 2) (g := false) rfl hul.symm), .inl (fldW_frz (j0 := 3) (j1 := 4) rfl rfl L1.symm L2.symm), .inl rfl, trivial⟩ ?_ (hr := by simp only [go_sem, Rg.v]) (hnv := by simp only [go_sem, Rg.v])
  simp only [go_sem, Rg.v, z1, z2]
end Go.Proofs

namespace Go.Proofs
open Go Go.Sx
attribute [local irreducible] Run

theorem rDown2_ok (n b : Int) (hb : 0 < b ∧ b ≤ 1000000000000) (hn : -1000000000000000 ≤ n ∧ n ≤ 1000000000000000) : Ans Try.prog n_ref01_Down [.int .i64 n, .int .i64 b] [] (.int .i64 (rdn n b)) [] := by
  have e := Int.tdiv_eq_ediv (a := n) (b := b)
  have e' := Int.tmod_eq_emod (a := n) (b := b)
  have h1 := Int.emod_nonneg n (show b ≠ 0 by omega)
  have h2 := Int.emod_lt_of_pos n (show 0 < b by omega)
  have hd := Int.dvd_iff_emod_eq_zero (a := b) (b := n)
  have hq1 : n / b ≤ 1000000000000000 := Int.ediv_le_of_le_mul (by omega) (by have := Int.mul_le_mul_of_nonneg_left (show (1 : Int) ≤ b by omega) (show (0 : Int) ≤ 1000000000000000 by omega); omega)
  have hq2 : -1000000000000000 ≤ n / b := Int.le_ediv_of_mul_le (by omega) (by have := Int.mul_le_mul_of_nonneg_left (show (1 : Int) ≤ b by omega) (show (0 : Int) ≤ 1000000000000000 by omega); omega)
  refine spec_run e_ref01_Down fun G => ?_
  have hs : b.sign = 1 := Int.sign_eq_one_of_pos (by omega)
  rw [hs] at e
  have e'' : n.tmod b = if 0 ≤ n ∨ b ∣ n then n % b else n % b - b := by
    rw [e']; split
    · omega
    · rw [Int.natAbs_of_nonneg (by omega)]
  have w1 : IntKind.i64.wrap (n.tdiv b) = n.tdiv b := w64 (by rw [e]; split <;> omega)
  unfold rdn
  simp only [go_sem, w1]
  by_cases hc : 0 ≤ n ∨ b ∣ n
  · rw [if_pos hc] at e e''
    have h3 : ¬ n.tmod b < 0 := by omega
    have h4 : b ≠ 0 := by omega
    simp only [go_sem, h3, h4]
    rw [e]; simp
  · rw [if_neg hc] at e e''
    have h3 : n.tmod b < 0 := by omega
    have h4 : b ≠ 0 := by omega
    have w2 : IntKind.i64.wrap (n.tdiv b - 1) = n.tdiv b - 1 := w64 (by rw [e]; omega)
    simp only [go_sem, h3, h4, w2]
    rw [e]; simp

theorem rUp2_ok (n b : Int) (hb : 0 < b ∧ b ≤ 1000000000000) (hn : -1000000000000000 ≤ n ∧ n ≤ 1000000000000000) : Ans Try.prog n_ref01_Up [.int .i64 n, .int .i64 b] [] (.int .i64 (rup n b)) [] := by
  have hq1 : -n / b ≤ 1000000000000000 := Int.ediv_le_of_le_mul (by omega) (by have := Int.mul_le_mul_of_nonneg_left (show (1 : Int) ≤ b by omega) (show (0 : Int) ≤ 1000000000000000 by omega); omega)
  have hq2 : -1000000000000000 ≤ -n / b := Int.le_ediv_of_mul_le (by omega) (by have := Int.mul_le_mul_of_nonneg_left (show (1 : Int) ≤ b by omega) (show (0 : Int) ≤ 1000000000000000 by omega); omega)
  have w0 : IntKind.i64.wrap (0 - n) = -n := by rw [w64 (by omega)]; omega
  have w1 : IntKind.i64.wrap (0 - rdn (-n) b) = -rdn (-n) b := by unfold rdn; rw [w64 (by omega)]; omega
  refine spec_run e_ref01_Up fun G => ?_
  unfold rup
  simp only [go_sem, w0]
  refine cP (rDown2_ok (-n) b hb (by omega)) ?_
  simp only [go_sem, w1]
  rfl



theorem Rp.okQ {p : Rp} {n : Int} {l : List Int} (h : p.errQ n l = 0) : (PlOK p.pl ∧ p.v = p.pl.v) ∧ (0 ≤ n ∧ n ≤ 200) ∧ chkA p.pl l = 0 ∧ ∀ x ∈ l, 1 ≤ x ∧ x ≤ gm p.pl := by
  unfold Rp.errQ at h
  by_cases h1 : p.err = 0
  · rw [if_neg fun h => h h1] at h
    obtain ⟨hp, hpv⟩ := Rp.ok h1
    by_cases h2 : 0 ≤ n ∧ n ≤ 200
    · rw [if_pos h2] at h
      refine ⟨⟨hp, hpv⟩, h2, h, fun x hx => ?_⟩
      have hal : ∀ x ∈ l, x ≠ 0 ∧ x ∈ p.pl.cs := by
        by_cases h3 : ∀ x ∈ l, x ≠ 0 ∧ x ∈ p.pl.cs
        · exact h3
        · unfold chkA at h; rw [if_neg h3] at h; omega
      have h4 := hal x hx
      have h5 := hp.cell x h4.2
      have h6 := hp.max.2.2 x h4.2
      have h7 := gm_eq hp
      omega
    · rw [if_neg h2] at h; omega
  · rw [if_pos h1] at h; exact absurd h h1

def amR (p : Rp) (n k g a : Int) : Rg × Int := if p.errQ n [k, g, a] = 0 then ampR p.pl n.toNat k g a (gm p.pl) else (⟨0, 0⟩, p.errQ n [k, g, a])

set_option maxHeartbeats 4000000 in
theorem rAmp_raw (p : Rp) (n k g a : Int) (hlen : p.cs.length ≤ 1000000) : Ans Try.prog n_ref01_Amplification [p.v, .int .i64 n, .int .i64 k, .int .i64 g, .int .i64 a] [] (.tup [(amR p n k g a).1.v, .int .i64 (amR p n k g a).2]) [] := by
  have h1 := rAskable_raw p n (l := [k, g, a]) hlen (by simp)
  unfold amR
  refine spec_run e_ref01_Amplification fun G => ?_
  simp only [go_sem, Rp.v, vw]
  refine cF h1 6 ⟨.inl (rp_frz 3 _ p), .inl rfl, .inl (iv_frz_sl (d := 4) (j := 2) (g := false) (l := [k, g, a]) rfl rfl), trivial⟩ ?_
  by_cases hb : p.errQ n [k, g, a] = 0
  · rw [if_pos hb, hb]
    obtain ⟨⟨hp, hpv⟩, hn, hch, hx⟩ := Rp.okQ hb
    unfold ampR
    rw [if_pos hch]
    have i1 := rInfluence_ok hp (n := n.toNat) (by omega) (a := a) (k := k) (hx a (by simp)) (hx k (by simp))
    have i2 := rInfluence_ok hp (n := n.toNat) (by omega) (a := g) (k := k) (hx g (by simp)) (hx k (by simp))
    rw [show ((n.toNat : Nat) : Int) = n by omega, ← hpv] at i1 i2
    have k0 : k ≠ 0 := by have := hx k (by simp); omega
    have b1 := inflR_in hp n.toNat a k0 (gm p.pl)
    have b2 := inflR_in hp n.toNat g k0 (gm p.pl)
    generalize inflR p.pl n.toNat a k (gm p.pl) = pl at *
    generalize inflR p.pl n.toNat g k (gm p.pl) = gr at *
    obtain ⟨pl0, pl1⟩ := pl
    obtain ⟨gr0, gr1⟩ := gr
    dsimp only at b1 b2 ⊢
    simp only [go_sem, Rp.v, vw]
    refine dF i2 6 [] ⟨.inl (rp_frz 3 _ p), .inl rfl, .inl rfl, .inl rfl, trivial⟩ ?_ (hr := by simp only [go_sem, Rg.v]) (hnv := by simp only [go_sem, Rg.v])
    simp only [go_sem, Rg.v, Rp.v, vw]
    refine dF i1 6 [] ⟨.inl (rp_frz 3 _ p), .inl rfl, .inl rfl, .inl rfl, trivial⟩ ?_ (hr := by simp only [go_sem, Rg.v]) (hnv := by simp only [go_sem, Rg.v])
    by_cases hl : pl0 < 1
    · rw [if_pos hl]
      simp only [go_sem, Rg.v, hl, Rp.v, vw]
    · rw [if_neg hl]
      have w1 : IntKind.i64.wrap (1000 * gr0) = 1000 * gr0 := w64 (by omega)
      have w2 : IntKind.i64.wrap (1000 * gr1) = 1000 * gr1 := w64 (by omega)
      simp only [go_sem, Rg.v, hl, Rp.v, vw, w1]
      refine dP (rDown2_ok (1000 * gr0) pl1 (by omega) (by omega)) ?_
      simp only [go_sem, Rg.v, Rp.v, vw, w1, w2]
      refine cP (rUp2_ok (1000 * gr1) pl0 (by omega) (by omega)) ?_
      simp only [go_sem, Rg.v]
  · rw [if_neg hb]
    have hb' : (p.errQ n [k, g, a] != 0) = true := by simp [hb]
    simp only [go_sem, Rg.v, hb']
end Go.Proofs

namespace Go.Proofs
open Go Go.Sx
attribute [local irreducible] Run

section
variable {G : Ctx} {k : Nat} {p : Pl} (hlen : p.cs.length = p.w * p.h) (hn : p.cs.length ≤ 1000000) {g : Bool} {bs : List Bool} (hb : bs.length = p.cs.length) {i : Nat} (hi : i < p.cs.length) {rd : Int} {K : St → Prop} {R : List AOper}
include hlen hn hb hi

omit hn in
theorem oq_0 (h : ∀ b, ((bs.getD i false = true ∨ 0 < gt p.cs i) → b = true) → Areg Try.prog G k none (opA1 ++ R) ⟨opC p.cs.length i (i % p.w) rd 43 b, opH p g bs, []⟩ K) :
    Areg Try.prog G k none (opA0 ++ (opA1 ++ R)) ⟨tsets 121 (opB p.cs.length i (i % p.w) rd), opH p g bs, []⟩ K := by
  refine areg_cut 200 ?_
  have h2 : (i : Int) < p.cs.length := by omega
  have n0 : ¬ (i : Int) < 0 := by omega
  have hg := bv_get (bs := bs) (c := i) (by omega)
  have hc := iv_get (l := p.cs) hi
  have fin : ∀ b ρ', Wk ρ' (opC p.cs.length i (i % p.w) rd 43 b) → ((bs.getD i false = true ∨ 0 < gt p.cs i) → b = true) → Areg Try.prog G k none (opA1 ++ R) ⟨ρ', opH p g bs, []⟩ K := fun b ρ' hw hq => areg_wk' (List.cons_ne_nil _ _) hw (h b hq)
  clear h
  generalize bs.getD i false = b0 at *
  generalize gt p.cs i = z at *
  generalize opA1 ++ R = L at *
  cases b0 with
  | true =>
    simp only [opA0, k_kit_Opened_r7, List.take_succ_cons, List.take_zero, opB, opH, go_sem, h2, n0, hg]
    refine fin _ _ (by simp [opC, opB, go_sem] <;> rfl) ?_
    first | exact fun _ => rfl | (intro h; simpa using h)
  | false =>
    simp only [opA0, k_kit_Opened_r7, List.take_succ_cons, List.take_zero, opB, opH, go_sem, h2, n0, hg, hc, Pl.a, Pl.c4, iv_len]
    refine fin _ _ (by simp [opC, opB, go_sem] <;> rfl) ?_
    first | exact fun _ => rfl | (intro h; simpa using h)

theorem oq_1 {b : Bool} (h : ∀ b', ((b = true ∨ (0 < i % p.w ∧ bs.getD (i - 1) false = true)) → b' = true) → Areg Try.prog G k none (opA2 ++ R) ⟨opC p.cs.length i (i % p.w) rd 54 b', opH p g bs, []⟩ K) :
    Areg Try.prog G k none (opA1 ++ (opA2 ++ R)) ⟨opC p.cs.length i (i % p.w) rd 43 b, opH p g bs, []⟩ K := by
  refine areg_cut 200 ?_
  have fin : ∀ b' ρ', Wk ρ' (opC p.cs.length i (i % p.w) rd 54 b') → ((b = true ∨ (0 < i % p.w ∧ bs.getD (i - 1) false = true)) → b' = true) → Areg Try.prog G k none (opA2 ++ R) ⟨ρ', opH p g bs, []⟩ K := fun b' ρ' hw hq => areg_wk' (List.cons_ne_nil _ _) hw (h b' hq)
  clear h
  generalize opA2 ++ R = L at *
  cases b with
  | true =>
    simp only [opA1, k_kit_Opened_r7, List.take_succ_cons, List.take_zero, List.drop_succ_cons, List.drop_zero, opC, List.cons_append, List.nil_append, opB, opH, go_sem]
    refine fin _ _ (by simp [opC, opB, go_sem] <;> rfl) ?_
    first | exact fun _ => rfl | exact fun h => h.elim (fun h => by cases h) (fun h => by first | exact h.2 | exact absurd h.1 hc)
  | false =>
    by_cases hc : 0 < i % p.w
    · have h1 : (0 : Int) < ((i % p.w : Nat) : Int) := by omega
      have hle := Nat.mod_le i p.w
      have e1 : IntKind.i64.wrap ((i : Int) - 1) = ((i - 1 : Nat) : Int) := by rw [w64 (by omega)]; omega
      have n0 : ¬ ((i - 1 : Nat) : Int) < 0 := by omega
      have h2 : ((i - 1 : Nat) : Int) < p.cs.length := by omega
      have hg := bv_get (bs := bs) (c := i - 1) (by omega)
      simp only [opA1, k_kit_Opened_r7, List.take_succ_cons, List.take_zero, List.drop_succ_cons, List.drop_zero, opC, List.cons_append, List.nil_append, opB, opH, go_sem, Pl.a, Pl.c4, iv_len, h1, e1, n0, h2, hg]
      refine fin _ _ (by simp [opC, opB, go_sem] <;> rfl) ?_
      first | exact fun _ => rfl | exact fun h => h.elim (fun h => by cases h) (fun h => by first | exact h.2 | exact absurd h.1 hc)
    · have h1 : ¬ (0 : Int) < ((i % p.w : Nat) : Int) := by omega
      simp only [opA1, k_kit_Opened_r7, List.take_succ_cons, List.take_zero, List.drop_succ_cons, List.drop_zero, opC, List.cons_append, List.nil_append, opB, opH, go_sem, Pl.a, Pl.c4, iv_len, h1]
      refine fin _ _ (by simp [opC, opB, go_sem] <;> rfl) ?_
      first | exact fun _ => rfl | exact fun h => h.elim (fun h => by cases h) (fun h => by first | exact h.2 | exact absurd h.1 hc)

theorem oq_2 {b : Bool} (h : ∀ b', ((b = true) → b' = true) → Areg Try.prog G k none (opA3 ++ R) ⟨opC p.cs.length i (i % p.w) rd 68 b', opH p g bs, []⟩ K) :
    Areg Try.prog G k none (opA2 ++ (opA3 ++ R)) ⟨opC p.cs.length i (i % p.w) rd 54 b, opH p g bs, []⟩ K := by
  refine areg_cut 200 ?_
  have fin : ∀ b' ρ', Wk ρ' (opC p.cs.length i (i % p.w) rd 68 b') → ((b = true) → b' = true) → Areg Try.prog G k none (opA3 ++ R) ⟨ρ', opH p g bs, []⟩ K := fun b' ρ' hw hq => areg_wk' (List.cons_ne_nil _ _) hw (h b' hq)
  clear h
  generalize opA3 ++ R = L at *
  have hw0 : 0 < p.w := by
    rcases Nat.eq_zero_or_pos p.w with h0 | h0
    · rw [h0, Nat.zero_mul] at hlen; omega
    · exact h0
  have hwn : p.w ≤ 1000000 := by
    have h1 : p.w * 1 ≤ p.w * p.h := Nat.mul_le_mul_left _ (by
      rcases Nat.eq_zero_or_pos p.h with h0 | h0
      · rw [h0, Nat.mul_zero] at hlen; omega
      · exact h0)
    omega
  have e0 : IntKind.i64.wrap ((p.w : Int) - 1) = ((p.w - 1 : Nat) : Int) := by rw [w64 (by omega)]; omega
  cases b with
  | true =>
    simp only [opA2, k_kit_Opened_r7, List.take_succ_cons, List.take_zero, List.drop_succ_cons, List.drop_zero, opC, List.cons_append, List.nil_append, opB, opH, go_sem]
    refine fin _ _ (by simp [opC, opB, go_sem] <;> rfl) ?_
    first | exact fun _ => rfl | (intro h; cases h)
  | false =>
    by_cases hc : i % p.w + 1 < p.w
    · have h1 : ((i % p.w : Nat) : Int) < ((p.w - 1 : Nat) : Int) := by omega
      have hi1 : i + 1 < p.cs.length := by
        rw [hlen]
        obtain ⟨k1, k2, k3⟩ := cell_lt (w := p.w) (h := p.h) (i := i) (by omega)
        have := cell_in (w := p.w) (h := p.h) hc k2
        omega
      have e1 : IntKind.i64.wrap ((i : Int) + 1) = ((i + 1 : Nat) : Int) := by rw [w64 (by omega)]; rfl
      have n0 : ¬ ((i + 1 : Nat) : Int) < 0 := by omega
      have h2 : ((i + 1 : Nat) : Int) < p.cs.length := by omega
      have hg := bv_get (bs := bs) (c := i + 1) (by omega)
      simp only [opA2, k_kit_Opened_r7, List.take_succ_cons, List.take_zero, List.drop_succ_cons, List.drop_zero, opC, List.cons_append, List.nil_append, opB, opH, go_sem, Pl.a, Pl.c4, iv_len, h1, e0, e1, n0, h2, hg]
      refine fin _ _ (by simp [opC, opB, go_sem] <;> rfl) ?_
      first | exact fun _ => rfl | (intro h; cases h)
    · have h1 : ¬ ((i % p.w : Nat) : Int) < ((p.w - 1 : Nat) : Int) := by omega
      simp only [opA2, k_kit_Opened_r7, List.take_succ_cons, List.take_zero, List.drop_succ_cons, List.drop_zero, opC, List.cons_append, List.nil_append, opB, opH, go_sem, Pl.a, Pl.c4, iv_len, h1, e0]
      refine fin _ _ (by simp [opC, opB, go_sem] <;> rfl) ?_
      first | exact fun _ => rfl | (intro h; cases h)

theorem oq_3 {b : Bool} (h : ∀ b', ((b = true ∨ (p.w ≤ i ∧ bs.getD (i - p.w) false = true)) → b' = true) → Areg Try.prog G k none (opA4 ++ R) ⟨opC p.cs.length i (i % p.w) rd 83 b', opH p g bs, []⟩ K) :
    Areg Try.prog G k none (opA3 ++ (opA4 ++ R)) ⟨opC p.cs.length i (i % p.w) rd 68 b, opH p g bs, []⟩ K := by
  refine areg_cut 200 ?_
  have fin : ∀ b' ρ', Wk ρ' (opC p.cs.length i (i % p.w) rd 83 b') → ((b = true ∨ (p.w ≤ i ∧ bs.getD (i - p.w) false = true)) → b' = true) → Areg Try.prog G k none (opA4 ++ R) ⟨ρ', opH p g bs, []⟩ K := fun b' ρ' hw hq => areg_wk' (List.cons_ne_nil _ _) hw (h b' hq)
  clear h
  generalize opA4 ++ R = L at *
  cases b with
  | true =>
    simp only [opA3, k_kit_Opened_r7, List.take_succ_cons, List.take_zero, List.drop_succ_cons, List.drop_zero, opC, List.cons_append, List.nil_append, opB, opH, go_sem]
    refine fin _ _ (by simp [opC, opB, go_sem] <;> rfl) ?_
    first | exact fun _ => rfl | exact fun h => h.elim (fun h => by cases h) (fun h => by first | exact h.2 | exact absurd h.1 hc)
  | false =>
    by_cases hc : p.w ≤ i
    · have h1 : (p.w : Int) ≤ i := by omega
      have e1 : IntKind.i64.wrap ((i : Int) - p.w) = ((i - p.w : Nat) : Int) := by rw [w64 (by omega)]; omega
      have n0 : ¬ ((i - p.w : Nat) : Int) < 0 := by omega
      have h2 : ((i - p.w : Nat) : Int) < p.cs.length := by omega
      have hg := bv_get (bs := bs) (c := i - p.w) (by omega)
      simp only [opA3, k_kit_Opened_r7, List.take_succ_cons, List.take_zero, List.drop_succ_cons, List.drop_zero, opC, List.cons_append, List.nil_append, opB, opH, go_sem, Pl.a, Pl.c4, iv_len, h1, e1, n0, h2, hg]
      refine fin _ _ (by simp [opC, opB, go_sem] <;> rfl) ?_
      first | exact fun _ => rfl | exact fun h => h.elim (fun h => by cases h) (fun h => by first | exact h.2 | exact absurd h.1 hc)
    · have h1 : ¬ (p.w : Int) ≤ i := by omega
      simp only [opA3, k_kit_Opened_r7, List.take_succ_cons, List.take_zero, List.drop_succ_cons, List.drop_zero, opC, List.cons_append, List.nil_append, opB, opH, go_sem, Pl.a, Pl.c4, iv_len, h1]
      refine fin _ _ (by simp [opC, opB, go_sem] <;> rfl) ?_
      first | exact fun _ => rfl | exact fun h => h.elim (fun h => by cases h) (fun h => by first | exact h.2 | exact absurd h.1 hc)

theorem oq_4 {b : Bool} (h : ∀ b', ((b = true) → b' = true) → Areg Try.prog G k none (opA5 ++ R) ⟨opC p.cs.length i (i % p.w) rd 102 b', opH p g bs, []⟩ K) :
    Areg Try.prog G k none (opA4 ++ (opA5 ++ R)) ⟨opC p.cs.length i (i % p.w) rd 83 b, opH p g bs, []⟩ K := by
  refine areg_cut 200 ?_
  have fin : ∀ b' ρ', Wk ρ' (opC p.cs.length i (i % p.w) rd 102 b') → ((b = true) → b' = true) → Areg Try.prog G k none (opA5 ++ R) ⟨ρ', opH p g bs, []⟩ K := fun b' ρ' hw hq => areg_wk' (List.cons_ne_nil _ _) hw (h b' hq)
  clear h
  generalize opA5 ++ R = L at *
  have hwn : p.w ≤ 1000000 := by
    have h1 : p.w * 1 ≤ p.w * p.h := Nat.mul_le_mul_left _ (by
      rcases Nat.eq_zero_or_pos p.h with h0 | h0
      · rw [h0, Nat.mul_zero] at hlen; omega
      · exact h0)
    omega
  have e1 : IntKind.i64.wrap ((i : Int) + p.w) = ((i + p.w : Nat) : Int) := by rw [w64 (by omega)]; omega
  cases b with
  | true =>
    simp only [opA4, k_kit_Opened_r7, List.take_succ_cons, List.take_zero, List.drop_succ_cons, List.drop_zero, opC, List.cons_append, List.nil_append, opB, opH, go_sem]
    refine fin _ _ (by simp [opC, opB, go_sem] <;> rfl) ?_
    first | exact fun _ => rfl | (intro h; cases h)
  | false =>
    by_cases hc : i + p.w < p.cs.length
    · have h1 : ((i + p.w : Nat) : Int) < p.cs.length := by omega
      have n0 : ¬ ((i + p.w : Nat) : Int) < 0 := by omega
      have hg := bv_get (bs := bs) (c := i + p.w) (by omega)
      simp only [opA4, k_kit_Opened_r7, List.take_succ_cons, List.take_zero, List.drop_succ_cons, List.drop_zero, opC, List.cons_append, List.nil_append, opB, opH, go_sem, Pl.a, Pl.c4, iv_len, h1, e1, n0, hg]
      refine fin _ _ (by simp [opC, opB, go_sem] <;> rfl) ?_
      first | exact fun _ => rfl | (intro h; cases h)
    · have h1 : ¬ ((i + p.w : Nat) : Int) < p.cs.length := by omega
      simp only [opA4, k_kit_Opened_r7, List.take_succ_cons, List.take_zero, List.drop_succ_cons, List.drop_zero, opC, List.cons_append, List.nil_append, opB, opH, go_sem, Pl.a, Pl.c4, iv_len, h1, e1]
      refine fin _ _ (by simp [opC, opB, go_sem] <;> rfl) ?_
      first | exact fun _ => rfl | (intro h; cases h)


end

end Go.Proofs

namespace Go.Proofs
open Go Go.Sx
attribute [local irreducible] Run

end Go.Proofs

namespace Go.Proofs
open Go Go.Sx
attribute [local irreducible] Run

end Go.Proofs

namespace Go.Proofs
open Go Go.Sx
attribute [local irreducible] Run

section
variable {P : Program} {g : FuncId} {args largs : List AVal} {H : Heap} {R : Runner} {l : List AOper} {fs : List Sx.Frame} {ρ : List AVal} {ms : List Nat} {Q : Sx.Goal} {ao : AOper} {lo hi : Nat} {tr : List (List Nat × List Nat)} {ss : List (List AOper)}
end

end Go.Proofs

