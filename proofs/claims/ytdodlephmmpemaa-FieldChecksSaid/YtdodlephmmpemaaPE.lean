/- A part of the proof. -/
import Derived.Test.YtdodlephmmpemaaPD
set_option linter.unusedSimpArgs false
set_option linter.unusedVariables false
namespace Go.Proofs
open Go Go.Sx
attribute [local irreducible] Run

theorem gmax_pos {l : List Int} (h : ∀ c ∈ l, 0 ≤ c) : gmax l = 0 ↔ ¬ ∃ c ∈ l, 0 < c := by
  have h1 := (mxL_ge l 0).2
  constructor
  · rintro h0 ⟨c, hc, hp⟩
    have : c ≤ gmax l := h1 c hc
    omega
  · intro hn
    rcases mxL_or l 0 with h2 | h2
    · exact h2
    · have h3 : mxL 0 l = gmax l := rfl
      rw [h3] at h2
      have := h _ h2
      have h4 : ¬ 0 < gmax l := fun h5 => hn ⟨_, h2, h5⟩
      omega

set_option maxHeartbeats 4000000 in
theorem rCheck_raw (p : Rp) (hlen : p.cs.length ≤ 1000000) : Ans Try.prog n_ref01_Check [p.v] [] (.int .i64 p.err) [] := by
  have herr := @Rp.ok p
  unfold Rp.err at herr ⊢
  refine spec_run e_ref01_Check fun G => ?_
  simp only [go_sem, Rp.v, vw]
  by_cases hw : 1 ≤ p.w ∧ p.w ≤ 16
  · refine cP (beyond_no hw) ?_
    simp only [go_sem]
    by_cases hh : 1 ≤ p.h ∧ p.h ≤ 16
    · rw [if_neg (fun h => h ⟨hw, hh⟩)] at herr ⊢
      refine cP (beyond_no hh) ?_
      obtain ⟨w, hw'⟩ : ∃ w : Nat, (w : Int) = p.w := ⟨p.w.toNat, by omega⟩
      obtain ⟨h, hh'⟩ : ∃ h : Nat, (h : Int) = p.h := ⟨p.h.toNat, by omega⟩
      have hN : w * h ≤ 256 := Nat.mul_le_mul (show w ≤ 16 by omega) (show h ≤ 16 by omega)
      have em : IntKind.i64.wrap (p.w * p.h) = p.w * p.h := by rw [← hw', ← hh', w64 (by push_cast at *; omega)]
      by_cases hl : (p.cs.length : Int) = p.w * p.h
      · rw [if_neg (fun h => h hl)] at herr ⊢
        have hl' : ((p.cs.length : Int) != p.w * p.h) = false := by simp [hl]
        simp only [go_sem, List.length_map, em, hl']
        refine loop_ind k_ref01_Check_r12.eq_1 (fun a : Nat × Bool × Heap => a.1 ≤ p.cs.length ∧ (∀ c ∈ p.cs.take a.1, 0 ≤ c ∧ c ≤ 6) ∧ (a.2.1 = true ↔ ∃ c ∈ p.cs.take a.1, 0 < c)) (fun a => p.cs.length - a.1)
          (fun a => (tsets 61 [(1, .ptr 0 0 0 1), (2, .int .i64 0), (3, .bool a.2.1), (4, .int .i64 a.1)], some (.cells false 4 [p.v]) :: a.2.2)) (0, false, []) ⟨Nat.zero_le _, by simp, by simp⟩ (by simp [go_sem]) rfl ?_
        rintro ⟨i, s, X⟩ ⟨hi, hm, hs⟩ ih
        dsimp only at hi hm hs ih ⊢
        by_cases h1 : i < p.cs.length
        · have h2 : (i : Int) < p.cs.length := by omega
          have h3 := idx_next h1 (by omega)
          have n0 : ¬ (i : Int) < 0 := by omega
          have hx := gt_get h1
          have hT : p.cs.take (i + 1) = p.cs.take i ++ [gt p.cs i] := by rw [List.take_add_one, gt_get h1]; rfl
          have hmem := gt_mem h1
          have ihn := fun s' X => ih (i + 1, s', X) (by dsimp only; omega)
          clear ih
          simp only [hT] at ihn
          generalize gt p.cs i = z at *
          simp only [go_sem, Rp.v, vw, List.length_map, h2, n0, hx]
          by_cases hz : 0 ≤ z ∧ z ≤ 6
          · have hmn : ∀ x ∈ p.cs.take i ++ [z], 0 ≤ x ∧ x ≤ 6 := fun x hx' => by
              rcases List.mem_append.1 hx' with h | h
              · exact hm x h
              · simp only [List.mem_singleton] at h
                rw [h]; exact hz
            refine cP (beyond_no hz) ?_
            cases s with
            | true =>
              obtain ⟨c, hc, hc0⟩ := hs.1 rfl
              simp only [go_sem, h3]
              exact ihn true _ ⟨h1, hmn, fun _ => ⟨c, List.mem_append_left _ hc, hc0⟩, fun _ => rfl⟩ _ (by simp [go_sem])
            | false =>
              have hno : ¬ ∃ c ∈ p.cs.take i, 0 < c := fun h => by have := hs.2 h; cases this
              by_cases hz0 : 0 < z
              · simp only [go_sem, Rp.v, vw, List.length_map, h2, n0, hx, hz0, h3]
                exact ihn true _ ⟨h1, hmn, fun _ => ⟨z, by simp, hz0⟩, fun _ => rfl⟩ _ (by simp [go_sem])
              · simp only [go_sem, Rp.v, vw, List.length_map, h2, n0, hx, hz0, h3]
                have hno2 : ¬ ∃ c ∈ p.cs.take i ++ [z], 0 < c := by
                  rintro ⟨c, hc, hc0⟩
                  rcases List.mem_append.1 hc with h | h
                  · exact hno ⟨c, h, hc0⟩
                  · simp only [List.mem_singleton] at h
                    omega
                exact ihn false _ ⟨h1, hmn, (fun h => by cases h), fun h => absurd h hno2⟩ _ (by simp [go_sem])
          · rw [if_pos fun h => hz (h z hmem)]
            refine cP (beyond_yes hz) ?_
            simp only [go_sem]
        · have h2 : ¬ (i : Int) < p.cs.length := by omega
          rw [List.take_of_length_le (by omega)] at hm hs
          rw [if_neg (fun h => h hm)] at herr ⊢
          have hg := gmax_pos fun c hc => (hm c hc).1
          clear ih
          cases s with
          | false =>
            have hno : ¬ ∃ c ∈ p.cs, 0 < c := fun h => by have := hs.2 h; cases this
            rw [if_pos (hg.2 hno)]
            simp only [go_sem, Rp.v, vw, List.length_map, h2]
          | true =>
            have hne : gmax p.cs ≠ 0 := fun h => hg.1 h (hs.1 rfl)
            rw [if_neg hne] at herr ⊢
            obtain ⟨hp, hv⟩ := herr rfl
            have hE := held_ok hp
            have hpn : p.pl.w * p.pl.h = p.cs.length := hp.len.symm
            rw [← hv, hpn] at hE
            have hE' : Ans Try.prog n_ref01_held [p.v] [] (.sl 0 0 p.cs.length) [some (.cells false 1 (bv (List.replicate p.cs.length true)))] := hE
            simp only [go_sem, Rp.v, vw, List.length_map, h2]
            refine cN1 hE' ?_ (hr := by simp [go_sem]) (hx := by rw [row_bel_cells]; unfold bv; simp only [go_sem])
            simp only [go_sem, ren, rens]
            have hnr : ∀ r0 : Option Row, (r0 :: (X ++ [some (Row.cells false 1 (bv (List.replicate p.cs.length true)))]))[X.length + 1]? = some (some (Row.cells false 1 (bv (List.replicate p.cs.length true)))) := fun r0 => by simp
            refine loop_ind k_ref01_Check_r21.eq_1 (fun j : Nat => j ≤ p.cs.length) (fun j => p.cs.length - j)
              (fun j => (tsets 61 [(2, .int .i64 0), (5, .sl (X.length + 1) 0 p.cs.length), (6, .int .i64 j)], some (.cells false 4 [p.v]) :: (X ++ [some (Row.cells false 1 (bv (List.replicate p.cs.length true)))]))) 0 (Nat.zero_le _) (by simp [go_sem]) rfl ?_
            intro j hj ih
            dsimp only at hj ih ⊢
            have hca := cells_at (hnr (some (.cells false 4 [p.v])))
            simp only [Rp.v, vw] at hca
            have hbl : (bv (List.replicate p.cs.length true)).length = p.cs.length := by simp [bv]
            by_cases h4 : j < p.cs.length
            · have h5 : (j : Int) < p.cs.length := by omega
              have h6 := idx_next h4 (by omega)
              have n0 : ¬ (j : Int) < 0 := by omega
              have gj := bv_get (bs := List.replicate p.cs.length true) (c := j) (by simpa using h4)
              have g1 : (List.replicate p.cs.length true).getD j false = true := by rw [List.getD_eq_getElem?_getD, List.getElem?_replicate, if_pos h4]; rfl
              rw [g1] at gj
              simp only [go_sem, Rp.v, vw, hca, hbl, h5, n0, gj, h6]
              exact ih (j + 1) (by omega) h4 _ (by simp [go_sem])
            · have h5 : ¬ (j : Int) < p.cs.length := by omega
              simp only [go_sem, Rp.v, vw, hca, hbl, h5]
      · rw [if_pos hl]
        have hl' : ((p.cs.length : Int) != p.w * p.h) = true := by simp [hl]
        simp only [go_sem, List.length_map, em, hl']
    · rw [if_pos (fun h => hh h.2)]
      refine cP (beyond_yes hh) ?_
      simp only [go_sem]
  · rw [if_pos (fun h => hw h.1)]
    refine cP (beyond_yes hw) ?_
    simp only [go_sem]

theorem rGreatest_ok (p : Rp) (hlen : p.cs.length ≤ 1000000) : Ans Try.prog n_ref01_greatest [p.v] [] (.int .i64 (gmax p.cs)) [] := by
  generalize hRES : gmax p.cs = RES
  refine spec_run e_ref01_greatest fun G => ?_
  simp only [go_sem, Rp.v, vw]
  refine loop_ind k_ref01_greatest_r6.eq_1 (fun a : Nat × Int × Heap => a.1 ≤ p.cs.length ∧ mxL a.2.1 (p.cs.drop a.1) = RES) (fun a => p.cs.length - a.1)
    (fun a => (tsets 20 [(1, .ptr 0 0 0 1), (3, .int .i64 a.2.1), (4, .int .i64 a.1)], some (.cells false 4 [p.v]) :: a.2.2)) (0, 0, []) ⟨Nat.zero_le _, hRES⟩ (by simp [go_sem]) rfl ?_
  rintro ⟨i, m, X⟩ ⟨hi, hm⟩ ih
  dsimp only at hi hm ih ⊢
  by_cases h1 : i < p.cs.length
  · have h2 : (i : Int) < p.cs.length := by omega
    have h3 := idx_next h1 (by omega)
    have n0 : ¬ (i : Int) < 0 := by omega
    have hx := gt_get h1
    rw [drop_step h1, mxL] at hm
    generalize gt p.cs i = z at *
    simp only [go_sem, Rp.v, vw, List.length_map, h2, n0, hx, h3]
    exact ih (i + 1, _, _) (by dsimp only; omega) ⟨h1, hm⟩ _ (by simp [go_sem]; rfl)
  · have h2 : ¬ (i : Int) < p.cs.length := by omega
    rw [drop_end (by omega)] at hm
    simp only [go_sem, Rp.v, vw, List.length_map, h2]
    rw [← hm]; rfl

theorem rCheckVolts_raw (p : Rp) {v : List Int} (hlen : p.cs.length ≤ 1000000) (hv : v.length ≤ 1000000) : Ans Try.prog n_ref01_CheckVolts [p.v, vw v] [] (.int .i64 (p.errV v)) [] := by
  have c1 := rCheck_raw p hlen
  have c2 := rGreatest_ok p hlen
  unfold Rp.errV
  refine spec_run e_ref01_CheckVolts fun G => ?_
  simp only [go_sem, Rp.v, vw]
  refine cP c1 ?_
  by_cases h : p.err = 0
  · have h' : (p.err != 0) = false := by simp [h]
    rw [if_neg fun h2 => h2 h]
    simp only [go_sem, List.length_map, h']
    refine cP c2 ?_
    by_cases h2 : (v.length : Int) = gmax p.cs
    · have h2' : ((v.length : Int) != gmax p.cs) = false := by simp [h2]
      rw [if_neg fun h3 => h3 h2]
      simp only [go_sem, h2', vw]
      unfold numErr
      refine loop_ind k_ref01_CheckVolts_r11.eq_1 (fun a : Nat × Heap => a.1 ≤ v.length ∧ ∀ x ∈ v.take a.1, -1000000 ≤ x ∧ x ≤ 1000000) (fun a => v.length - a.1)
        (fun a => (tsets 28 [(1, vw v), (4, .int .i64 0), (6, .int .i64 a.1)], a.2)) (0, _) ⟨Nat.zero_le _, by simp⟩ (by simp [go_sem, vw]) rfl ?_
      rintro ⟨i, X⟩ ⟨hi, hm⟩ ih
      dsimp only at hi hm ih ⊢
      by_cases h1 : i < v.length
      · have h2 : (i : Int) < v.length := by omega
        have h3 := idx_next h1 (by omega)
        have n0 : ¬ (i : Int) < 0 := by omega
        have hx := gt_get h1
        have hT : v.take (i + 1) = v.take i ++ [gt v i] := by rw [List.take_add_one, gt_get h1]; rfl
        have hmem := gt_mem h1
        have ihn := fun X => ih (i + 1, X) (by dsimp only; omega)
        clear ih
        simp only [hT] at ihn
        generalize gt v i = z at *
        simp only [go_sem, vw, List.length_map, h2, n0, hx]
        by_cases hz : -1000000 ≤ z ∧ z ≤ 1000000
        · refine cP (beyond_no hz) ?_
          simp only [go_sem, h3]
          exact ihn _ ⟨h1, fun x hx' => by
            rcases List.mem_append.1 hx' with h | h
            · exact hm x h
            · simp only [List.mem_singleton] at h
              rw [h]; exact hz⟩ _ (by simp [go_sem, vw])
        · rw [if_neg fun h => hz (h z hmem)]
          refine cP (beyond_yes hz) ?_
          simp only [go_sem]
      · have h2 : ¬ (i : Int) < v.length := by omega
        rw [List.take_of_length_le (by omega)] at hm
        rw [if_pos hm]
        simp only [go_sem, vw, List.length_map, h2]
    · have h2' : ((v.length : Int) != gmax p.cs) = true := by simp [h2]
      rw [if_pos h2]
      simp only [go_sem, h2']
  · have h' : (p.err != 0) = true := by simp [h]
    rw [if_pos h]
    simp only [go_sem, h']

theorem rHas_ok {p : Pl} (hp : PlOK p) (e : Int) : Ans Try.prog n_ref01_has [p.v, .int .i64 e] [] (.bool (decide (e ≠ 0 ∧ e ∈ p.cs))) [] := by
  have hN : p.w * p.h ≤ 256 := Nat.mul_le_mul hp.w.2 hp.h.2
  have hlen := hp.len
  have hRES : decide (e ≠ 0 ∧ e ∈ p.cs) = decide (0 < e ∧ e ∈ p.cs) := decide_eq_decide.2 ⟨fun ⟨h1, h2⟩ => ⟨by have := hp.cell e h2; omega, h2⟩, fun ⟨h1, h2⟩ => ⟨by omega, h2⟩⟩
  rw [hRES]
  clear hRES
  generalize hRES : decide (0 < e ∧ e ∈ p.cs) = RES
  refine spec_run e_ref01_has fun G => ?_
  simp only [go_sem, Pl.v, Pl.a, Pl.c4, vw]
  refine loop_ind k_ref01_has_r6.eq_1 (fun a : Nat × Heap => a.1 ≤ p.cs.length ∧ decide (0 < e ∧ e ∈ p.cs.drop a.1) = RES) (fun a => p.cs.length - a.1)
    (fun a => (tsets 24 [(1, .int .i64 e), (2, .ptr 0 0 0 1), (5, .int .i64 a.1)], some (.cells false 4 [p.v]) :: a.2)) (0, []) ⟨Nat.zero_le _, by simpa using hRES⟩ (by simp [go_sem]) rfl ?_
  rintro ⟨i, X⟩ ⟨hi, hm⟩ ih
  dsimp only at hi hm ih ⊢
  by_cases h1 : i < p.cs.length
  · have h2 : (i : Int) < p.cs.length := by omega
    have h3 := idx_next h1 (by omega)
    have n0 : ¬ (i : Int) < 0 := by omega
    have hx := gt_get h1
    rw [drop_step h1] at hm
    generalize gt p.cs i = z at *
    by_cases he : 0 < e
    · by_cases hz : z = e
      · have hz' : (z == e) = true := by simp [hz]
        simp only [go_sem, Pl.v, Pl.a, Pl.c4, vw, List.length_map, h2, n0, hx, he, hz']
        rw [← hm, decide_eq_true ⟨he, by rw [hz]; simp⟩]
      · have hz' : (z == e) = false := by simp [hz]
        have hz2 : ¬ e = z := fun h => hz h.symm
        simp only [go_sem, Pl.v, Pl.a, Pl.c4, vw, List.length_map, h2, n0, hx, he, hz', h3]
        exact ih (i + 1, _) (by dsimp only; omega) ⟨h1, by rw [← hm]; simp [hz2]⟩ _ (by simp [go_sem])
    · simp only [go_sem, Pl.v, Pl.a, Pl.c4, vw, List.length_map, h2, n0, hx, he, h3]
      exact ih (i + 1, _) (by dsimp only; omega) ⟨h1, by rw [← hm]; simp [he]⟩ _ (by simp [go_sem])
  · have h2 : ¬ (i : Int) < p.cs.length := by omega
    rw [drop_end (by omega)] at hm
    simp only [go_sem, Pl.v, Pl.a, Pl.c4, vw, List.length_map, h2]
    rw [← hm]; simp

end Go.Proofs

namespace Go.Proofs
open Go Go.Sx
attribute [local irreducible] Run

end Go.Proofs

namespace Go.Proofs
open Go Go.Sx
attribute [local irreducible] Run

end Go.Proofs

namespace Go.Proofs
open Go Go.Sx
attribute [local irreducible] Run

end Go.Proofs

namespace Go.Proofs
open Go Go.Sx
attribute [local irreducible] Run

end Go.Proofs

namespace Go.Proofs
open Go Go.Sx
attribute [local irreducible] Run

end Go.Proofs

namespace Go.Proofs
open Go Go.Sx

theorem at_struct {P : Program} {n : Nat} {t : TypeId} {fs : Array Field} (hu : P.underlying t = some (.struct fs)) {vs : List AVal} (h : AT P (n + 1) t vs) : ATs (AT P n) fs.toList vs := by
  unfold AT at h; rw [hu] at h; exact h
theorem at_int {P : Program} {n : Nat} {t : TypeId} {k : IntKind} (hu : P.underlying t = some (.int k)) {vs : List AVal} (h : AT P (n + 1) t vs) : ∃ m, vs = [.int k m] ∧ (Lit.int k m).wf = true := by
  unfold AT at h; rw [hu] at h; exact h
theorem at_bool {P : Program} {n : Nat} {t : TypeId} (hu : P.underlying t = some .bool) {vs : List AVal} (h : AT P (n + 1) t vs) : ∃ b, vs = [.bool b] := by
  unfold AT at h; rw [hu] at h; exact h
theorem at_slice {P : Program} {n : Nat} {t e : TypeId} (hu : P.underlying t = some (.slice e)) {vs : List AVal} (h : AT P (n + 1) t vs) : ∃ es, vs = [.view es] ∧ es.length ≤ maxLen ∧ ∀ x ∈ es, if aggT P e = true then ∃ ws, x = .agg ws ∧ AT P n e ws else AT P n e [x] := by
  unfold AT at h; rw [hu] at h; exact h
theorem list_map {α β : Type} {f : α → β} {Q : α → Prop} : ∀ l : List β, (∀ x ∈ l, ∃ a, x = f a ∧ Q a) → ∃ l' : List α, l = l'.map f ∧ ∀ a ∈ l', Q a
  | [], _ => ⟨[], rfl, fun a ha => by simp at ha⟩
  | x :: l, h => by
    obtain ⟨a, rfl, ha⟩ := h x (by simp)
    obtain ⟨l', rfl, h'⟩ := list_map l fun y hy => h y (by simp [hy])
    exact ⟨a :: l', rfl, fun b hb => by
      rcases List.mem_cons.1 hb with rfl | hb
      · exact ha
      · exact h' b hb⟩

attribute [local irreducible] AT
set_option maxRecDepth 100000
theorem atn_int {n : Nat} {vs : List AVal} (h : AT Try.prog (n + 1) 3 vs) : ∃ m, vs = [.int .i64 m] ∧ (Lit.int .i64 m).wf = true := at_int Try.underlying3 h
theorem atn_bool {n : Nat} {vs : List AVal} (h : AT Try.prog (n + 1) 4 vs) : ∃ b, vs = [.bool b] := at_bool Try.underlying4 h
theorem at_ints {n : Nat} {x : AVal} (h : AT Try.prog (n + 2) 22 [x]) : ∃ l : List Int, x = vw l ∧ l.length ≤ 9223372036854775807 := by
  obtain ⟨es, h1, hl, he⟩ := at_slice Try.underlying22 h
  obtain rfl : x = .view es := by simpa using h1
  have hg : ¬ aggT Try.prog 3 = true := by unfold aggT; rw [Try.underlying3]; decide
  obtain ⟨l, rfl, -⟩ := list_map (f := AVal.int .i64) (Q := fun _ => True) es fun x hx => by
    have := he x hx
    rw [if_neg hg] at this
    obtain ⟨m, hm, -⟩ := atn_int this
    exact ⟨m, by simpa using hm, trivial⟩
  have hm : maxLen = 9223372036854775807 := rfl
  rw [hm] at hl
  exact ⟨l, rfl, by simpa using hl⟩
theorem at_plan {n : Nat} {ws : List AVal} (h : AT Try.prog (n + 3) 24 ws) : ∃ p : Rp, .agg ws = p.v ∧ p.cs.length ≤ 9223372036854775807 := by
  obtain ⟨a, _, rfl, ha, b, _, rfl, hb, c, _, rfl, hc, d, _, rfl, hd, rfl⟩ := at_struct Try.underlying24 h
  obtain ⟨x, rfl, -⟩ := atn_int ha
  obtain ⟨y, rfl, -⟩ := atn_int hb
  obtain ⟨r, rfl⟩ := atn_bool hc
  obtain ⟨es, rfl, -⟩ := at_slice Try.underlying22 hd
  obtain ⟨l, h1, h2⟩ := at_ints hd
  exact ⟨⟨x, y, r, l⟩, by show AVal.agg [_, _, _, AVal.view es] = _; rw [h1]; rfl, h2⟩
end Go.Proofs

namespace Go.Proofs
open Go Go.Sx
attribute [local irreducible] Run

def bigL (v : List Int) : AVal := .view [vw v]
theorem big_no (p : Rp) {v : List Int} (hp : p.cs.length ≤ 300) (hv : v.length ≤ 300) : Ans Try.prog n_law01_big [p.v, bigL v] [] (.bool false) [] := by
  refine spec_run e_law01_big fun G => ?_
  have h1 : ¬ (300 : Int) < p.cs.length := by omega
  have h2 : ¬ (300 : Int) < v.length := by omega
  have w1 : IntKind.i64.wrap 1 = 1 := by decide
  have w2 : ¬ (1 : Int) < 1 := by omega
  simp only [go_sem, Rp.v, vw, bigL]
  refine loop_body 3000 k_law01_big_r6.eq_1 ?_
  simp only [go_sem, List.length_map, h2]
  refine loop_body 3000 k_law01_big_r6.eq_1 ?_
  simp only [go_sem, List.length_map, h1, w1, w2]
theorem big_yes (p : Rp) {v : List Int} (h : ¬ (p.cs.length ≤ 300 ∧ v.length ≤ 300)) (hvl : v.length ≤ 9223372036854775807) : Ans Try.prog n_law01_big [p.v, bigL v] [] (.bool true) [] := by
  refine spec_run e_law01_big fun G => ?_
  simp only [go_sem, Rp.v, vw, bigL]
  refine loop_body 3000 k_law01_big_r6.eq_1 ?_
  by_cases h2 : (300 : Int) < v.length
  · simp only [go_sem, List.length_map, h2]
  · have h1 : (300 : Int) < p.cs.length := by omega
    have w1 : IntKind.i64.wrap 1 = 1 := by decide
    have w2 : ¬ (1 : Int) < 1 := by omega
    simp only [go_sem, List.length_map, h2]
    refine loop_body 3000 k_law01_big_r6.eq_1 ?_
    simp only [go_sem, List.length_map, h1, w1, w2]

theorem bigL_frz {H : Heap} {j : Nat} {v : List Int} (h : H[j]? = some (some (.cells false 1 [vw v]))) : frz 6 H (.sl j 0 1) = bigL v := by
  refine (frz_sl (d := 5) h rfl).trans ?_
  show AVal.view [frz 5 H (vw v)] = _
  rw [vw_frz 3]; rfl
theorem rp_frz (d : Nat) (H : Heap) (p : Rp) : frz (d + 3) H p.v = p.v := by
  show AVal.agg [_, _, _, frz (d + 2) H (vw p.cs)] = _
  rw [vw_frz]; rfl

def Pl.rp (p : Pl) : Rp := ⟨p.w, p.h, p.rd, p.cs⟩
theorem Pl.rp_v (p : Pl) : p.rp.v = p.v := rfl
theorem PlOK.err {p : Pl} (hp : PlOK p) : p.rp.err = 0 := by
  have hw := hp.w; have hh := hp.h
  have hm := hp.max
  unfold Rp.err Pl.rp
  dsimp only
  rw [if_neg (by omega), if_neg (by rw [hp.len]; push_cast; omega), if_neg (by intro h; exact h hp.cell), if_neg (by omega)]
theorem PlOK.errV {p : Pl} (hp : PlOK p) {v : List Int} (hv : VOK v) (hvl : (v.length : Int) = gmax p.cs) : p.rp.errV v = 0 := by
  unfold Rp.errV
  rw [if_neg (fun h => h hp.err), if_neg (fun h => h hvl)]
  unfold numErr
  rw [if_pos (show ∀ x ∈ v, -1000000 ≤ x ∧ x ≤ 1000000 from hv)]
end Go.Proofs

namespace Go.Proofs
open Go Go.Sx

def k_kit_Own_r0 : List AOper := [
  ⟨(some (2)), .move (.const (.nilsl)), none, []⟩]
def k_kit_Own_r1 : List AOper := [
  ⟨(some (3)), .buildSlice 1 [], none, []⟩, 
  ⟨(some (4)), .move (.tmp 0), none, []⟩, 
  ⟨(some (5)), .append 1 8 false (.tmp 3) (.tmp 4), none, []⟩, 
  ⟨(some (2)), .move (.tmp 5), none, []⟩]
def k_kit_Own : AFun := { params := 1, ntmps := 6, body := (.seq (.reg k_kit_Own_r0 false) (.seq (.reg k_kit_Own_r1 false) .ret)), res := [.tmp 2] }
theorem k_kit_Own_ok : cfun Try.prog Try.f25 = k_kit_Own := by kernel_rfl

abbrev n_kit_Own : Nat := 25
theorem e_kit_Own : EntryOK Try.prog n_kit_Own k_kit_Own := ⟨Try.f25, Try.func25, k_kit_Own_ok, by kernel_rfl⟩
attribute [go_sem] k_kit_Own_r0 k_kit_Own_r1
attribute [go_sem] k_kit_Own
end Go.Proofs

namespace Go.Proofs
open Go Go.Sx
attribute [local irreducible] Run

def Bnd (p : Pl) (l : List Int) : Prop := l.length = p.cs.length ∧ ∀ x ∈ l, -1000000 ≤ x ∧ x ≤ 1000000
theorem Bnd.at {p : Pl} (hp : PlOK p) {l : List Int} (h : Bnd p l) : AtOK p l := ⟨by rw [h.1, hp.len], fun i hi => h.2 _ (gt_mem (by rw [h.1, hp.len]; exact hi))⟩
theorem no_of {b : Bool} {P : Prop} (hb : b = true ↔ P) (h : ¬ P) : b = false := by
  cases b with
  | false => rfl
  | true => exact absurd (hb.1 rfl) h
theorem boolOf (P : Prop) : ∃ b : Bool, b = true ↔ P := by
  by_cases h : P
  · exact ⟨true, by simp [h]⟩
  · exact ⟨false, by simp [h]⟩
end Go.Proofs

namespace Go.Proofs
open Go Go.Sx
attribute [local irreducible] Run

end Go.Proofs

namespace Go.Proofs
open Go Go.Sx
attribute [local irreducible] Run

end Go.Proofs

namespace Go.Proofs
open Go Go.Sx
attribute [local irreducible] Run

theorem big_gen (p : Rp) (ls : List (List Int)) (hls : ls.length ≤ 1000) (b : Bool) (hb : b = true ↔ ((∃ l ∈ ls, 300 < l.length) ∨ 300 < p.cs.length)) : Ans Try.prog n_law01_big [p.v, .view (ls.map vw)] [] (.bool b) [] := by
  refine spec_run e_law01_big fun G => ?_
  simp only [go_sem, Rp.v]
  refine loop_ind k_law01_big_r6.eq_1 (fun i : Nat => i ≤ ls.length ∧ ∀ l ∈ ls.take i, ¬ 300 < l.length) (fun i => ls.length - i)
    (fun i => (tsets 22 [(1, .view (ls.map vw)), (2, .ptr 0 0 0 1), (5, .int .i64 i)], [some (.cells false 4 [p.v])])) 0 ⟨Nat.zero_le _, fun l hl => by simp at hl⟩ (by simp [go_sem]) rfl ?_
  rintro i ⟨hi, hall⟩ ih
  dsimp only at hi hall ih ⊢
  by_cases h1 : i < ls.length
  · have h2 : (i : Int) < ls.length := by omega
    have h3 := idx_next h1 (by omega)
    have n0 : ¬ (i : Int) < 0 := by omega
    have hx : ls[i]? = some ls[i] := List.getElem?_eq_getElem h1
    have hm : ls[i] ∈ ls := List.getElem_mem h1
    have hT : ls.take (i + 1) = ls.take i ++ [ls[i]] := by rw [List.take_add_one, hx]; rfl
    have ihn := fun hq : ¬ 300 < ls[i].length => ih (i + 1) (by omega) ⟨h1, fun l hl => by
      rw [hT] at hl
      rcases List.mem_append.1 hl with h | h
      · exact hall l h
      · simp at h; rw [h]; exact hq⟩
    clear ih hT
    generalize ls[i] = l at *
    by_cases hq : (300 : Int) < l.length
    · rw [hb.2 (.inl ⟨l, hm, by omega⟩)]
      simp only [go_sem, List.length_map, h2, n0, hx, vw, hq]
    · simp only [go_sem, List.length_map, h2, n0, hx, vw, hq, h3]
      exact ihn (by omega) _ (by simp [go_sem])
  · have h2 : ¬ (i : Int) < ls.length := by omega
    rw [List.take_of_length_le (by omega)] at hall
    by_cases hq : (300 : Int) < p.cs.length
    · rw [hb.2 (.inr (by omega))]
      simp only [go_sem, Rp.v, List.length_map, h2, vw, hq]
    · rw [no_of hb fun h => by
        rcases h with ⟨l, hl, h⟩ | h
        · exact hall l hl h
        · omega]
      simp only [go_sem, Rp.v, List.length_map, h2, vw, hq]
theorem own_ok {l : List Int} (hlen : l.length ≤ 1000000) (hne : 1 ≤ l.length) : Ans Try.prog n_kit_Own [vw l] [] (.sl 0 0 l.length) [some (.cells true 1 (iv l))] := by
  refine Ans.keep (run_fn e_kit_Own fun G => ?_) (by simp) (by simp [go_sem]) ⟨iv_row _ _ _, trivial⟩
  have hnz : l ≠ [] := fun h => by rw [h] at hne; simp at hne
  simp only [go_sem, vw]
  have hs : sizedAll 1 (List.map (AVal.int IntKind.i64) l) = true := by simp [sizedAll, acells, AVal.one]
  refine ⟨by rw [hs]; simp, by omega, ?_⟩
  exact kept_new (A := []) 0 0 rfl rfl (by omega) (by simp [ren, rens]) (fun i x hx => by simp at hx) (iv_row _ _ _) rfl
theorem kSame_self {l : List Int} (hlen : l.length ≤ 1000000) : Ans Try.prog n_kit_Same [vw l, vw l] [] (.bool true) [] := by
  have h := Same_ok (a := l) (b := l) hlen
  simpa using h
end Go.Proofs

namespace Go.Proofs
open Go Go.Sx

end Go.Proofs

namespace Go.Proofs
open Go Go.Sx
attribute [local irreducible] Run

end Go.Proofs

namespace Go.Proofs
open Go Go.Sx
attribute [local irreducible] Run

end Go.Proofs

namespace Go.Proofs
open Go Go.Sx
attribute [local irreducible] Run

section
variable {G : Ctx} {k : Nat} {p : Pl} (hlen : p.cs.length = p.w * p.h) (hn : p.cs.length ≤ 1000000) {g : Bool} {bs : List Bool} (hb : bs.length = p.cs.length) {i : Nat} (hi : i < p.cs.length) {rd : Int} {K : St → Prop} {R : List AOper}
include hlen hn hb hi

omit hn in
theorem oq_0 (h : ∀ b, ((bs.getD i false = true ∨ 0 < gt p.cs i) → b = true) → Areg Try.prog G k none (opA1 ++ R) ⟨opC p.cs.length i (i % p.w) rd 43 b, opH p g bs, []⟩ K) :
    Areg Try.prog G k none (opA0 ++ (opA1 ++ R)) ⟨tsets 121 (opB p.cs.length i (i % p.w) rd), opH p g bs, []⟩ K := by
  refine areg_cut 200 ?_
  have h2 : (i : Int) < p.cs.length := by omega
  have n0 : ¬ (i : Int) < 0 := by omega
  have hg := bv_get (bs := bs) (c := i) (by omega)
  have hc := iv_get (l := p.cs) hi
  have fin : ∀ b ρ', Wk ρ' (opC p.cs.length i (i % p.w) rd 43 b) → ((bs.getD i false = true ∨ 0 < gt p.cs i) → b = true) → Areg Try.prog G k none (opA1 ++ R) ⟨ρ', opH p g bs, []⟩ K := fun b ρ' hw hq => areg_wk' (List.cons_ne_nil _ _) hw (h b hq)
  clear h
  generalize bs.getD i false = b0 at *
  generalize gt p.cs i = z at *
  generalize opA1 ++ R = L at *
  cases b0 with
  | true =>
    simp only [opA0, k_kit_Opened_r7, List.take_succ_cons, List.take_zero, opB, opH, go_sem, h2, n0, hg]
    refine fin _ _ (by simp [opC, opB, go_sem] <;> rfl) ?_
    first | exact fun _ => rfl | (intro h; simpa using h)
  | false =>
    simp only [opA0, k_kit_Opened_r7, List.take_succ_cons, List.take_zero, opB, opH, go_sem, h2, n0, hg, hc, Pl.a, Pl.c4, iv_len]
    refine fin _ _ (by simp [opC, opB, go_sem] <;> rfl) ?_
    first | exact fun _ => rfl | (intro h; simpa using h)

theorem oq_1 {b : Bool} (h : ∀ b', ((b = true ∨ (0 < i % p.w ∧ bs.getD (i - 1) false = true)) → b' = true) → Areg Try.prog G k none (opA2 ++ R) ⟨opC p.cs.length i (i % p.w) rd 54 b', opH p g bs, []⟩ K) :
    Areg Try.prog G k none (opA1 ++ (opA2 ++ R)) ⟨opC p.cs.length i (i % p.w) rd 43 b, opH p g bs, []⟩ K := by
  refine areg_cut 200 ?_
  have fin : ∀ b' ρ', Wk ρ' (opC p.cs.length i (i % p.w) rd 54 b') → ((b = true ∨ (0 < i % p.w ∧ bs.getD (i - 1) false = true)) → b' = true) → Areg Try.prog G k none (opA2 ++ R) ⟨ρ', opH p g bs, []⟩ K := fun b' ρ' hw hq => areg_wk' (List.cons_ne_nil _ _) hw (h b' hq)
  clear h
  generalize opA2 ++ R = L at *
  cases b with
  | true =>
    simp only [opA1, k_kit_Opened_r7, List.take_succ_cons, List.take_zero, List.drop_succ_cons, List.drop_zero, opC, List.cons_append, List.nil_append, opB, opH, go_sem]
    refine fin _ _ (by simp [opC, opB, go_sem] <;> rfl) ?_
    first | exact fun _ => rfl | exact fun h => h.elim (fun h => by cases h) (fun h => by first | exact h.2 | exact absurd h.1 hc)
  | false =>
    by_cases hc : 0 < i % p.w
    · have h1 : (0 : Int) < ((i % p.w : Nat) : Int) := by omega
      have hle := Nat.mod_le i p.w
      have e1 : IntKind.i64.wrap ((i : Int) - 1) = ((i - 1 : Nat) : Int) := by rw [w64 (by omega)]; omega
      have n0 : ¬ ((i - 1 : Nat) : Int) < 0 := by omega
      have h2 : ((i - 1 : Nat) : Int) < p.cs.length := by omega
      have hg := bv_get (bs := bs) (c := i - 1) (by omega)
      simp only [opA1, k_kit_Opened_r7, List.take_succ_cons, List.take_zero, List.drop_succ_cons, List.drop_zero, opC, List.cons_append, List.nil_append, opB, opH, go_sem, Pl.a, Pl.c4, iv_len, h1, e1, n0, h2, hg]
      refine fin _ _ (by simp [opC, opB, go_sem] <;> rfl) ?_
      first | exact fun _ => rfl | exact fun h => h.elim (fun h => by cases h) (fun h => by first | exact h.2 | exact absurd h.1 hc)
    · have h1 : ¬ (0 : Int) < ((i % p.w : Nat) : Int) := by omega
      simp only [opA1, k_kit_Opened_r7, List.take_succ_cons, List.take_zero, List.drop_succ_cons, List.drop_zero, opC, List.cons_append, List.nil_append, opB, opH, go_sem, Pl.a, Pl.c4, iv_len, h1]
      refine fin _ _ (by simp [opC, opB, go_sem] <;> rfl) ?_
      first | exact fun _ => rfl | exact fun h => h.elim (fun h => by cases h) (fun h => by first | exact h.2 | exact absurd h.1 hc)

theorem oq_2 {b : Bool} (h : ∀ b', ((b = true) → b' = true) → Areg Try.prog G k none (opA3 ++ R) ⟨opC p.cs.length i (i % p.w) rd 68 b', opH p g bs, []⟩ K) :
    Areg Try.prog G k none (opA2 ++ (opA3 ++ R)) ⟨opC p.cs.length i (i % p.w) rd 54 b, opH p g bs, []⟩ K := by
  refine areg_cut 200 ?_
  have fin : ∀ b' ρ', Wk ρ' (opC p.cs.length i (i % p.w) rd 68 b') → ((b = true) → b' = true) → Areg Try.prog G k none (opA3 ++ R) ⟨ρ', opH p g bs, []⟩ K := fun b' ρ' hw hq => areg_wk' (List.cons_ne_nil _ _) hw (h b' hq)
  clear h
  generalize opA3 ++ R = L at *
  have hw0 : 0 < p.w := by
    rcases Nat.eq_zero_or_pos p.w with h0 | h0
    · rw [h0, Nat.zero_mul] at hlen; omega
    · exact h0
  have hwn : p.w ≤ 1000000 := by
    have h1 : p.w * 1 ≤ p.w * p.h := Nat.mul_le_mul_left _ (by
      rcases Nat.eq_zero_or_pos p.h with h0 | h0
      · rw [h0, Nat.mul_zero] at hlen; omega
      · exact h0)
    omega
  have e0 : IntKind.i64.wrap ((p.w : Int) - 1) = ((p.w - 1 : Nat) : Int) := by rw [w64 (by omega)]; omega
  cases b with
  | true =>
    simp only [opA2, k_kit_Opened_r7, List.take_succ_cons, List.take_zero, List.drop_succ_cons, List.drop_zero, opC, List.cons_append, List.nil_append, opB, opH, go_sem]
    refine fin _ _ (by simp [opC, opB, go_sem] <;> rfl) ?_
    first | exact fun _ => rfl | (intro h; cases h)
  | false =>
    by_cases hc : i % p.w + 1 < p.w
    · have h1 : ((i % p.w : Nat) : Int) < ((p.w - 1 : Nat) : Int) := by omega
      have hi1 : i + 1 < p.cs.length := by
        rw [hlen]
        obtain ⟨k1, k2, k3⟩ := cell_lt (w := p.w) (h := p.h) (i := i) (by omega)
        have := cell_in (w := p.w) (h := p.h) hc k2
        omega
      have e1 : IntKind.i64.wrap ((i : Int) + 1) = ((i + 1 : Nat) : Int) := by rw [w64 (by omega)]; rfl
      have n0 : ¬ ((i + 1 : Nat) : Int) < 0 := by omega
      have h2 : ((i + 1 : Nat) : Int) < p.cs.length := by omega
      have hg := bv_get (bs := bs) (c := i + 1) (by omega)
      simp only [opA2, k_kit_Opened_r7, List.take_succ_cons, List.take_zero, List.drop_succ_cons, List.drop_zero, opC, List.cons_append, List.nil_append, opB, opH, go_sem, Pl.a, Pl.c4, iv_len, h1, e0, e1, n0, h2, hg]
      refine fin _ _ (by simp [opC, opB, go_sem] <;> rfl) ?_
      first | exact fun _ => rfl | (intro h; cases h)
    · have h1 : ¬ ((i % p.w : Nat) : Int) < ((p.w - 1 : Nat) : Int) := by omega
      simp only [opA2, k_kit_Opened_r7, List.take_succ_cons, List.take_zero, List.drop_succ_cons, List.drop_zero, opC, List.cons_append, List.nil_append, opB, opH, go_sem, Pl.a, Pl.c4, iv_len, h1, e0]
      refine fin _ _ (by simp [opC, opB, go_sem] <;> rfl) ?_
      first | exact fun _ => rfl | (intro h; cases h)

theorem oq_3 {b : Bool} (h : ∀ b', ((b = true ∨ (p.w ≤ i ∧ bs.getD (i - p.w) false = true)) → b' = true) → Areg Try.prog G k none (opA4 ++ R) ⟨opC p.cs.length i (i % p.w) rd 83 b', opH p g bs, []⟩ K) :
    Areg Try.prog G k none (opA3 ++ (opA4 ++ R)) ⟨opC p.cs.length i (i % p.w) rd 68 b, opH p g bs, []⟩ K := by
  refine areg_cut 200 ?_
  have fin : ∀ b' ρ', Wk ρ' (opC p.cs.length i (i % p.w) rd 83 b') → ((b = true ∨ (p.w ≤ i ∧ bs.getD (i - p.w) false = true)) → b' = true) → Areg Try.prog G k none (opA4 ++ R) ⟨ρ', opH p g bs, []⟩ K := fun b' ρ' hw hq => areg_wk' (List.cons_ne_nil _ _) hw (h b' hq)
  clear h
  generalize opA4 ++ R = L at *
  cases b with
  | true =>
    simp only [opA3, k_kit_Opened_r7, List.take_succ_cons, List.take_zero, List.drop_succ_cons, List.drop_zero, opC, List.cons_append, List.nil_append, opB, opH, go_sem]
    refine fin _ _ (by simp [opC, opB, go_sem] <;> rfl) ?_
    first | exact fun _ => rfl | exact fun h => h.elim (fun h => by cases h) (fun h => by first | exact h.2 | exact absurd h.1 hc)
  | false =>
    by_cases hc : p.w ≤ i
    · have h1 : (p.w : Int) ≤ i := by omega
      have e1 : IntKind.i64.wrap ((i : Int) - p.w) = ((i - p.w : Nat) : Int) := by rw [w64 (by omega)]; omega
      have n0 : ¬ ((i - p.w : Nat) : Int) < 0 := by omega
      have h2 : ((i - p.w : Nat) : Int) < p.cs.length := by omega
      have hg := bv_get (bs := bs) (c := i - p.w) (by omega)
      simp only [opA3, k_kit_Opened_r7, List.take_succ_cons, List.take_zero, List.drop_succ_cons, List.drop_zero, opC, List.cons_append, List.nil_append, opB, opH, go_sem, Pl.a, Pl.c4, iv_len, h1, e1, n0, h2, hg]
      refine fin _ _ (by simp [opC, opB, go_sem] <;> rfl) ?_
      first | exact fun _ => rfl | exact fun h => h.elim (fun h => by cases h) (fun h => by first | exact h.2 | exact absurd h.1 hc)
    · have h1 : ¬ (p.w : Int) ≤ i := by omega
      simp only [opA3, k_kit_Opened_r7, List.take_succ_cons, List.take_zero, List.drop_succ_cons, List.drop_zero, opC, List.cons_append, List.nil_append, opB, opH, go_sem, Pl.a, Pl.c4, iv_len, h1]
      refine fin _ _ (by simp [opC, opB, go_sem] <;> rfl) ?_
      first | exact fun _ => rfl | exact fun h => h.elim (fun h => by cases h) (fun h => by first | exact h.2 | exact absurd h.1 hc)

theorem oq_4 {b : Bool} (h : ∀ b', ((b = true) → b' = true) → Areg Try.prog G k none (opA5 ++ R) ⟨opC p.cs.length i (i % p.w) rd 102 b', opH p g bs, []⟩ K) :
    Areg Try.prog G k none (opA4 ++ (opA5 ++ R)) ⟨opC p.cs.length i (i % p.w) rd 83 b, opH p g bs, []⟩ K := by
  refine areg_cut 200 ?_
  have fin : ∀ b' ρ', Wk ρ' (opC p.cs.length i (i % p.w) rd 102 b') → ((b = true) → b' = true) → Areg Try.prog G k none (opA5 ++ R) ⟨ρ', opH p g bs, []⟩ K := fun b' ρ' hw hq => areg_wk' (List.cons_ne_nil _ _) hw (h b' hq)
  clear h
  generalize opA5 ++ R = L at *
  have hwn : p.w ≤ 1000000 := by
    have h1 : p.w * 1 ≤ p.w * p.h := Nat.mul_le_mul_left _ (by
      rcases Nat.eq_zero_or_pos p.h with h0 | h0
      · rw [h0, Nat.mul_zero] at hlen; omega
      · exact h0)
    omega
  have e1 : IntKind.i64.wrap ((i : Int) + p.w) = ((i + p.w : Nat) : Int) := by rw [w64 (by omega)]; omega
  cases b with
  | true =>
    simp only [opA4, k_kit_Opened_r7, List.take_succ_cons, List.take_zero, List.drop_succ_cons, List.drop_zero, opC, List.cons_append, List.nil_append, opB, opH, go_sem]
    refine fin _ _ (by simp [opC, opB, go_sem] <;> rfl) ?_
    first | exact fun _ => rfl | (intro h; cases h)
  | false =>
    by_cases hc : i + p.w < p.cs.length
    · have h1 : ((i + p.w : Nat) : Int) < p.cs.length := by omega
      have n0 : ¬ ((i + p.w : Nat) : Int) < 0 := by omega
      have hg := bv_get (bs := bs) (c := i + p.w) (by omega)
      simp only [opA4, k_kit_Opened_r7, List.take_succ_cons, List.take_zero, List.drop_succ_cons, List.drop_zero, opC, List.cons_append, List.nil_append, opB, opH, go_sem, Pl.a, Pl.c4, iv_len, h1, e1, n0, hg]
      refine fin _ _ (by simp [opC, opB, go_sem] <;> rfl) ?_
      first | exact fun _ => rfl | (intro h; cases h)
    · have h1 : ¬ ((i + p.w : Nat) : Int) < p.cs.length := by omega
      simp only [opA4, k_kit_Opened_r7, List.take_succ_cons, List.take_zero, List.drop_succ_cons, List.drop_zero, opC, List.cons_append, List.nil_append, opB, opH, go_sem, Pl.a, Pl.c4, iv_len, h1, e1]
      refine fin _ _ (by simp [opC, opB, go_sem] <;> rfl) ?_
      first | exact fun _ => rfl | (intro h; cases h)


end

end Go.Proofs

namespace Go.Proofs
open Go Go.Sx
attribute [local irreducible] Run

end Go.Proofs

namespace Go.Proofs
open Go Go.Sx
attribute [local irreducible] Run

end Go.Proofs

namespace Go.Proofs
open Go Go.Sx
attribute [local irreducible] Run

section
variable {P : Program} {g : FuncId} {args largs : List AVal} {H : Heap} {R : Runner} {l : List AOper} {fs : List Sx.Frame} {ρ : List AVal} {ms : List Nat} {Q : Sx.Goal} {ao : AOper} {lo hi : Nat} {tr : List (List Nat × List Nat)} {ss : List (List AOper)}
end

end Go.Proofs

namespace Go.Proofs
open Go Go.Sx

end Go.Proofs

namespace Go.Proofs
open Go Go.Sx
attribute [local irreducible] Run

end Go.Proofs

namespace Go.Proofs
open Go Go.Sx
attribute [local irreducible] Run

end Go.Proofs

namespace Go.Proofs
open Go Go.Sx
attribute [local irreducible] Run

end Go.Proofs

namespace Go.Proofs
open Go Go.Sx

end Go.Proofs

namespace Go.Proofs
open Go Go.Sx

def k_law01_FieldChecks_r0 : List AOper := [
  ⟨(some (6)), .box (.tmp 0), none, []⟩, 
  ⟨(some (7)), .box (.tmp 1), none, []⟩, 
  ⟨(some (12)), .move (.const (.bool false)), none, []⟩]
def k_law01_FieldChecks_r1 : List AOper := [
  ⟨(some (20)), .load (some (4)) (.tmp 6), none, []⟩, 
  ⟨(some (21)), .move (.tmp 2), none, []⟩, 
  ⟨(some (22)), .buildSlice 1 [.tmp 21], none, []⟩, 
  ⟨(some (23)), .call (.const (.fn (.func 19) [] [])) [.tmp 20, .tmp 22], none, []⟩, 
  ⟨(some (24)), .move (.tmp 23), none, []⟩, 
  ⟨(some (25)), .load (some (4)) (.tmp 7), (some (24, false)), []⟩, 
  ⟨(some (26)), .call (.const (.fn (.func 19) [] [])) [.tmp 25, .const (.nilsl)], (some (24, false)), []⟩, 
  ⟨(some (27)), .pick (.tmp 24) (.const (.bool true)) (.tmp 26), none, []⟩]
def k_law01_FieldChecks_r2 : List AOper := [
  ⟨(some (28)), .call (.const (.fn (.func 20) [] [])) [], none, []⟩, 
  ⟨(some (12)), .move (.tmp 28), none, []⟩]
def k_law01_FieldChecks_r3 : List AOper := [
  ⟨(some (29)), .move (.tmp 3), none, []⟩, 
  ⟨(some (30)), .call (.const (.fn (.func 22) [] [])) [.tmp 29], none, []⟩, 
  ⟨(some (31)), .call (.const (.fn (.func 21) [] [])) [.tmp 30, .const (.int .i64 8), .const (.int .i64 6)], none, []⟩, 
  ⟨(some (13)), .box (.const (.agg [.int .i64 0, .int .i64 0, .bool false, .nilsl])), none, []⟩, 
  ⟨none, .store 4 (.tmp 13) (.tmp 31), none, []⟩]
def k_law01_FieldChecks_r4 : List AOper := [
  ⟨(some (32)), .move (.tmp 5), none, []⟩, 
  ⟨(some (33)), .bin .plain .rem (.tmp 32) (.const (.int .i64 3)), none, []⟩, 
  ⟨(some (34)), .bin .plain .eql (.tmp 33) (.const (.int .i64 0)), none, []⟩]
def k_law01_FieldChecks_r5 : List AOper := [
  ⟨(some (35)), .fieldAddr 3 (.tmp 13), none, []⟩, 
  ⟨(some (36)), .load none (.tmp 35), none, []⟩, 
  ⟨(some (37)), .move (.tmp 4), none, [0, 1]⟩, 
  ⟨(some (38)), .fieldAddr 3 (.tmp 13), none, [0, 1, 2]⟩, 
  ⟨(some (39)), .load none (.tmp 38), none, [0, 1, 2]⟩, 
  ⟨(some (40)), .len false (.tmp 39), none, [0, 1, 2]⟩, 
  ⟨(some (41)), .call (.const (.fn (.func 23) [] [])) [.tmp 37, .tmp 40], none, [0, 1]⟩, 
  ⟨(some (42)), .move (.tmp 5), none, [0, 1, 2, 3, 4, 5, 6]⟩, 
  ⟨(some (43)), .call (.const (.fn (.func 23) [] [])) [.tmp 42, .const (.int .i64 9)], none, [0, 1]⟩, 
  ⟨(some (44)), .bin .plain .sub (.tmp 43) (.const (.int .i64 1)), none, [0, 1]⟩, 
  ⟨(some (45)), .indexAddr 1 (.tmp 36) (.tmp 41), none, []⟩, 
  ⟨none, .store 1 (.tmp 45) (.tmp 44), none, []⟩]
def k_law01_FieldChecks_r5s : List (List AOper) := [
  [
  ⟨(some (35)), .fieldAddr 3 (.tmp 13), none, []⟩, 
  ⟨(some (36)), .load none (.tmp 35), none, []⟩, 
  ⟨(some (37)), .move (.tmp 4), none, [0, 1]⟩, 
  ⟨(some (38)), .fieldAddr 3 (.tmp 13), none, [0, 1, 2]⟩, 
  ⟨(some (39)), .load none (.tmp 38), none, [0, 1, 2]⟩, 
  ⟨(some (40)), .len false (.tmp 39), none, [0, 1, 2]⟩, 
  ⟨(some (41)), .call (.const (.fn (.func 23) [] [])) [.tmp 37, .tmp 40], none, [0, 1]⟩, 
  ⟨(some (42)), .move (.tmp 5), none, [0, 1, 2, 3, 4, 5, 6]⟩, 
  ⟨(some (43)), .call (.const (.fn (.func 23) [] [])) [.tmp 42, .const (.int .i64 9)], none, [0, 1]⟩, 
  ⟨(some (44)), .bin .plain .sub (.tmp 43) (.const (.int .i64 1)), none, [0, 1]⟩], 
  [
  ⟨(some (45)), .indexAddr 1 (.tmp 36) (.tmp 41), none, []⟩], 
  [
  ⟨none, .store 1 (.tmp 45) (.tmp 44), none, []⟩]]
theorem k_law01_FieldChecks_r5_sg : segs k_law01_FieldChecks_r5 = k_law01_FieldChecks_r5s := by kernel_rfl
theorem k_law01_FieldChecks_r5_st : statOK k_law01_FieldChecks_r5 = true := by kernel_rfl
def k_law01_FieldChecks_r6 : List AOper := [
  ⟨(some (46)), .load (some (4)) (.tmp 6), none, []⟩, 
  ⟨(some (47)), .load (some (4)) (.tmp 13), none, []⟩, 
  ⟨(some (48)), .buildSlice 4 [.tmp 46, .tmp 47], none, []⟩, 
  ⟨(some (14)), .move (.tmp 48), none, []⟩]
def k_law01_FieldChecks_r7 : List AOper := [
  ⟨(some (15)), .move (.const (.int .i64 0)), none, []⟩]
def k_law01_FieldChecks_r8 : List AOper := [
  ⟨(some (49)), .move (.tmp 15), none, []⟩, 
  ⟨(some (50)), .move (.tmp 14), none, []⟩, 
  ⟨(some (51)), .len false (.tmp 50), none, []⟩, 
  ⟨(some (52)), .bin .plain .lss (.tmp 49) (.tmp 51), none, []⟩]
def k_law01_FieldChecks_r9 : List AOper := [
  ⟨(some (55)), .move (.tmp 14), none, []⟩, 
  ⟨(some (56)), .move (.tmp 15), none, []⟩, 
  ⟨(some (57)), .indexAddr 4 (.tmp 55) (.tmp 56), none, []⟩, 
  ⟨(some (58)), .load (some (4)) (.tmp 57), none, []⟩, 
  ⟨(some (59)), .call (.const (.fn (.func 24) [] [])) [.tmp 58], none, []⟩, 
  ⟨(some (60)), .move (.tmp 2), none, []⟩, 
  ⟨(some (61)), .call (.const (.fn (.func 25) [] [])) [.tmp 60], none, []⟩, 
  ⟨(some (16)), .box (.const (.agg [.int .i64 0, .int .i64 0, .bool false, .nilsl])), none, []⟩, 
  ⟨none, .store 4 (.tmp 16) (.tmp 59), none, []⟩, 
  ⟨(some (17)), .move (.tmp 61), none, []⟩]
def k_law01_FieldChecks_r10 : List AOper := [
  ⟨(some (62)), .load (some (4)) (.tmp 16), none, []⟩, 
  ⟨(some (63)), .call (.const (.fn (.func 26) [] [])) [.tmp 62], none, []⟩, 
  ⟨(some (64)), .move (.tmp 14), none, [0, 1]⟩, 
  ⟨(some (65)), .move (.tmp 15), none, [0, 1, 2]⟩, 
  ⟨(some (66)), .indexAddr 4 (.tmp 64) (.tmp 65), none, [0, 1]⟩, 
  ⟨(some (67)), .load (some (4)) (.tmp 66), none, [0, 1]⟩, 
  ⟨(some (68)), .call (.const (.fn (.func 27) [] [])) [.tmp 67], none, []⟩, 
  ⟨(some (69)), .bin .plain .neq (.tmp 63) (.tmp 68), none, []⟩, 
  ⟨(some (70)), .move (.tmp 69), none, []⟩, 
  ⟨(some (71)), .load (some (4)) (.tmp 16), (some (70, false)), []⟩, 
  ⟨(some (72)), .move (.tmp 17), (some (70, false)), [9]⟩, 
  ⟨(some (73)), .call (.const (.fn (.func 28) [] [])) [.tmp 71, .tmp 72], (some (70, false)), []⟩, 
  ⟨(some (74)), .move (.tmp 14), (some (70, false)), [9, 10, 11]⟩, 
  ⟨(some (75)), .move (.tmp 15), (some (70, false)), [9, 10, 11, 12]⟩, 
  ⟨(some (76)), .indexAddr 4 (.tmp 74) (.tmp 75), (some (70, false)), [9, 10, 11]⟩, 
  ⟨(some (77)), .load (some (4)) (.tmp 76), (some (70, false)), [9, 10, 11]⟩, 
  ⟨(some (78)), .move (.tmp 2), (some (70, false)), [9, 10, 11, 12, 13, 14, 15]⟩, 
  ⟨(some (79)), .call (.const (.fn (.func 29) [] [])) [.tmp 77, .tmp 78], (some (70, false)), []⟩, 
  ⟨(some (80)), .bin .plain .neq (.tmp 73) (.tmp 79), (some (70, false)), []⟩, 
  ⟨(some (81)), .pick (.tmp 70) (.const (.bool true)) (.tmp 80), none, []⟩, 
  ⟨(some (82)), .move (.tmp 81), none, []⟩, 
  ⟨(some (83)), .load (some (4)) (.tmp 16), (some (82, false)), []⟩, 
  ⟨(some (84)), .call (.const (.fn (.func 31) [] [])) [.tmp 83], (some (82, false)), []⟩, 
  ⟨(some (85)), .move (.tmp 14), (some (82, false)), [21, 22]⟩, 
  ⟨(some (86)), .move (.tmp 15), (some (82, false)), [21, 22, 23]⟩, 
  ⟨(some (87)), .indexAddr 4 (.tmp 85) (.tmp 86), (some (82, false)), [21, 22]⟩, 
  ⟨(some (88)), .load (some (4)) (.tmp 87), (some (82, false)), [21, 22]⟩, 
  ⟨(some (89)), .call (.const (.fn (.func 32) [] [])) [.tmp 88], (some (82, false)), []⟩, 
  ⟨(some (90)), .call (.const (.fn (.func 30) [] [])) [.tmp 84, .tmp 89], (some (82, false)), []⟩, 
  ⟨(some (91)), .not (.tmp 90), (some (82, false)), []⟩, 
  ⟨(some (92)), .pick (.tmp 82) (.const (.bool true)) (.tmp 91), none, []⟩]
def k_law01_FieldChecks_r10s : List (List AOper) := [
  [
  ⟨(some (62)), .load (some (4)) (.tmp 16), none, []⟩, 
  ⟨(some (63)), .call (.const (.fn (.func 26) [] [])) [.tmp 62], none, []⟩, 
  ⟨(some (64)), .move (.tmp 14), none, [0, 1]⟩, 
  ⟨(some (65)), .move (.tmp 15), none, [0, 1, 2]⟩, 
  ⟨(some (66)), .indexAddr 4 (.tmp 64) (.tmp 65), none, [0, 1]⟩, 
  ⟨(some (67)), .load (some (4)) (.tmp 66), none, [0, 1]⟩], 
  [
  ⟨(some (68)), .call (.const (.fn (.func 27) [] [])) [.tmp 67], none, []⟩], 
  [
  ⟨(some (69)), .bin .plain .neq (.tmp 63) (.tmp 68), none, []⟩], 
  [
  ⟨(some (70)), .move (.tmp 69), none, []⟩], 
  [
  ⟨(some (71)), .load (some (4)) (.tmp 16), (some (70, false)), []⟩, 
  ⟨(some (72)), .move (.tmp 17), (some (70, false)), [9]⟩, 
  ⟨(some (73)), .call (.const (.fn (.func 28) [] [])) [.tmp 71, .tmp 72], (some (70, false)), []⟩, 
  ⟨(some (74)), .move (.tmp 14), (some (70, false)), [9, 10, 11]⟩, 
  ⟨(some (75)), .move (.tmp 15), (some (70, false)), [9, 10, 11, 12]⟩, 
  ⟨(some (76)), .indexAddr 4 (.tmp 74) (.tmp 75), (some (70, false)), [9, 10, 11]⟩, 
  ⟨(some (77)), .load (some (4)) (.tmp 76), (some (70, false)), [9, 10, 11]⟩, 
  ⟨(some (78)), .move (.tmp 2), (some (70, false)), [9, 10, 11, 12, 13, 14, 15]⟩], 
  [
  ⟨(some (79)), .call (.const (.fn (.func 29) [] [])) [.tmp 77, .tmp 78], (some (70, false)), []⟩], 
  [
  ⟨(some (80)), .bin .plain .neq (.tmp 73) (.tmp 79), (some (70, false)), []⟩], 
  [
  ⟨(some (81)), .pick (.tmp 70) (.const (.bool true)) (.tmp 80), none, []⟩], 
  [
  ⟨(some (82)), .move (.tmp 81), none, []⟩], 
  [
  ⟨(some (83)), .load (some (4)) (.tmp 16), (some (82, false)), []⟩, 
  ⟨(some (84)), .call (.const (.fn (.func 31) [] [])) [.tmp 83], (some (82, false)), []⟩, 
  ⟨(some (85)), .move (.tmp 14), (some (82, false)), [21, 22]⟩, 
  ⟨(some (86)), .move (.tmp 15), (some (82, false)), [21, 22, 23]⟩, 
  ⟨(some (87)), .indexAddr 4 (.tmp 85) (.tmp 86), (some (82, false)), [21, 22]⟩, 
  ⟨(some (88)), .load (some (4)) (.tmp 87), (some (82, false)), [21, 22]⟩], 
  [
  ⟨(some (89)), .call (.const (.fn (.func 32) [] [])) [.tmp 88], (some (82, false)), []⟩], 
  [
  ⟨(some (90)), .call (.const (.fn (.func 30) [] [])) [.tmp 84, .tmp 89], (some (82, false)), []⟩], 
  [
  ⟨(some (91)), .not (.tmp 90), (some (82, false)), []⟩], 
  [
  ⟨(some (92)), .pick (.tmp 82) (.const (.bool true)) (.tmp 91), none, []⟩]]
theorem k_law01_FieldChecks_r10_sg : segs k_law01_FieldChecks_r10 = k_law01_FieldChecks_r10s := by kernel_rfl
theorem k_law01_FieldChecks_r10_st : statOK k_law01_FieldChecks_r10 = true := by kernel_rfl
def k_law01_FieldChecks_r11 : List AOper := [
  ⟨(some (12)), .move (.const (.bool false)), none, []⟩]
def k_law01_FieldChecks_r12 : List AOper := [
  ⟨(some (93)), .load (some (4)) (.tmp 16), none, []⟩, 
  ⟨(some (94)), .call (.const (.fn (.func 33) [] [])) [.tmp 93], none, []⟩, 
  ⟨(some (18)), .box (.const (.agg [.int .i64 0, .int .i64 0, .bool false, .nilsl])), none, []⟩, 
  ⟨none, .store 4 (.tmp 18) (.tmp 94), none, []⟩]
def k_law01_FieldChecks_r13 : List AOper := [
  ⟨(some (95)), .load (some (4)) (.tmp 18), none, []⟩, 
  ⟨(some (96)), .move (.tmp 14), none, [0]⟩, 
  ⟨(some (97)), .move (.tmp 15), none, [0, 1]⟩, 
  ⟨(some (98)), .indexAddr 4 (.tmp 96) (.tmp 97), none, [0]⟩, 
  ⟨(some (99)), .load (some (4)) (.tmp 98), none, [0]⟩, 
  ⟨(some (100)), .call (.const (.fn (.func 34) [] [])) [.tmp 95, .tmp 99], none, []⟩, 
  ⟨(some (101)), .not (.tmp 100), none, []⟩, 
  ⟨(some (102)), .move (.tmp 101), none, []⟩, 
  ⟨(some (103)), .load (some (4)) (.tmp 18), (some (102, false)), []⟩, 
  ⟨(some (104)), .load (some (4)) (.tmp 16), (some (102, false)), [8]⟩, 
  ⟨(some (105)), .call (.const (.fn (.func 35) [] [])) [.tmp 103, .tmp 104], (some (102, false)), []⟩, 
  ⟨(some (106)), .not (.tmp 105), (some (102, false)), []⟩, 
  ⟨(some (107)), .pick (.tmp 102) (.const (.bool true)) (.tmp 106), none, []⟩, 
  ⟨(some (108)), .move (.tmp 107), none, []⟩, 
  ⟨(some (109)), .load (some (4)) (.tmp 16), (some (108, false)), []⟩, 
  ⟨(some (110)), .load (some (4)) (.tmp 7), (some (108, false)), [14]⟩, 
  ⟨(some (111)), .call (.const (.fn (.func 35) [] [])) [.tmp 109, .tmp 110], (some (108, false)), []⟩, 
  ⟨(some (112)), .move (.tmp 14), (some (108, false)), [14, 15, 16]⟩, 
  ⟨(some (113)), .move (.tmp 15), (some (108, false)), [14, 15, 16, 17]⟩, 
  ⟨(some (114)), .indexAddr 4 (.tmp 112) (.tmp 113), (some (108, false)), [14, 15, 16]⟩, 
  ⟨(some (115)), .load (some (4)) (.tmp 114), (some (108, false)), [14, 15, 16]⟩, 
  ⟨(some (116)), .load (some (4)) (.tmp 7), (some (108, false)), [14, 15, 16, 17, 18, 19, 20]⟩, 
  ⟨(some (117)), .call (.const (.fn (.func 34) [] [])) [.tmp 115, .tmp 116], (some (108, false)), []⟩, 
  ⟨(some (118)), .bin .bool .neq (.tmp 111) (.tmp 117), (some (108, false)), []⟩, 
  ⟨(some (119)), .pick (.tmp 108) (.const (.bool true)) (.tmp 118), none, []⟩]
def k_law01_FieldChecks_r13s : List (List AOper) := [
  [
  ⟨(some (95)), .load (some (4)) (.tmp 18), none, []⟩, 
  ⟨(some (96)), .move (.tmp 14), none, [0]⟩, 
  ⟨(some (97)), .move (.tmp 15), none, [0, 1]⟩, 
  ⟨(some (98)), .indexAddr 4 (.tmp 96) (.tmp 97), none, [0]⟩, 
  ⟨(some (99)), .load (some (4)) (.tmp 98), none, [0]⟩], 
  [
  ⟨(some (100)), .call (.const (.fn (.func 34) [] [])) [.tmp 95, .tmp 99], none, []⟩], 
  [
  ⟨(some (101)), .not (.tmp 100), none, []⟩], 
  [
  ⟨(some (102)), .move (.tmp 101), none, []⟩], 
  [
  ⟨(some (103)), .load (some (4)) (.tmp 18), (some (102, false)), []⟩, 
  ⟨(some (104)), .load (some (4)) (.tmp 16), (some (102, false)), [8]⟩], 
  [
  ⟨(some (105)), .call (.const (.fn (.func 35) [] [])) [.tmp 103, .tmp 104], (some (102, false)), []⟩], 
  [
  ⟨(some (106)), .not (.tmp 105), (some (102, false)), []⟩], 
  [
  ⟨(some (107)), .pick (.tmp 102) (.const (.bool true)) (.tmp 106), none, []⟩], 
  [
  ⟨(some (108)), .move (.tmp 107), none, []⟩], 
  [
  ⟨(some (109)), .load (some (4)) (.tmp 16), (some (108, false)), []⟩, 
  ⟨(some (110)), .load (some (4)) (.tmp 7), (some (108, false)), [14]⟩, 
  ⟨(some (111)), .call (.const (.fn (.func 35) [] [])) [.tmp 109, .tmp 110], (some (108, false)), []⟩, 
  ⟨(some (112)), .move (.tmp 14), (some (108, false)), [14, 15, 16]⟩, 
  ⟨(some (113)), .move (.tmp 15), (some (108, false)), [14, 15, 16, 17]⟩, 
  ⟨(some (114)), .indexAddr 4 (.tmp 112) (.tmp 113), (some (108, false)), [14, 15, 16]⟩, 
  ⟨(some (115)), .load (some (4)) (.tmp 114), (some (108, false)), [14, 15, 16]⟩, 
  ⟨(some (116)), .load (some (4)) (.tmp 7), (some (108, false)), [14, 15, 16, 17, 18, 19, 20]⟩], 
  [
  ⟨(some (117)), .call (.const (.fn (.func 34) [] [])) [.tmp 115, .tmp 116], (some (108, false)), []⟩], 
  [
  ⟨(some (118)), .bin .bool .neq (.tmp 111) (.tmp 117), (some (108, false)), []⟩], 
  [
  ⟨(some (119)), .pick (.tmp 108) (.const (.bool true)) (.tmp 118), none, []⟩]]
theorem k_law01_FieldChecks_r13_sg : segs k_law01_FieldChecks_r13 = k_law01_FieldChecks_r13s := by kernel_rfl
theorem k_law01_FieldChecks_r13_st : statOK k_law01_FieldChecks_r13 = true := by kernel_rfl
def k_law01_FieldChecks_r14 : List AOper := [
  ⟨(some (12)), .move (.const (.bool false)), none, []⟩]
def k_law01_FieldChecks_r15 : List AOper := [
  ⟨(some (19)), .move (.const (.int .i64 0)), none, []⟩]
def k_law01_FieldChecks_r16 : List AOper := [
  ⟨(some (120)), .move (.tmp 19), none, []⟩, 
  ⟨(some (121)), .fieldAddr 3 (.tmp 18), none, []⟩, 
  ⟨(some (122)), .load none (.tmp 121), none, []⟩, 
  ⟨(some (123)), .len false (.tmp 122), none, []⟩, 
  ⟨(some (124)), .bin .plain .lss (.tmp 120) (.tmp 123), none, []⟩]
def k_law01_FieldChecks_r17 : List AOper := [
  ⟨(some (127)), .fieldAddr 3 (.tmp 18), none, []⟩, 
  ⟨(some (128)), .load none (.tmp 127), none, []⟩, 
  ⟨(some (129)), .move (.tmp 19), none, []⟩, 
  ⟨(some (130)), .indexAddr 1 (.tmp 128) (.tmp 129), none, []⟩, 
  ⟨(some (131)), .load none (.tmp 130), none, []⟩, 
  ⟨(some (132)), .bin .plain .add (.tmp 131) (.const (.int .i64 1)), none, []⟩, 
  ⟨(some (133)), .indexAddr 1 (.tmp 128) (.tmp 129), none, []⟩, 
  ⟨none, .store 1 (.tmp 133) (.tmp 132), none, []⟩]
def k_law01_FieldChecks_r18 : List AOper := [
  ⟨(some (125)), .move (.tmp 19), none, []⟩, 
  ⟨(some (126)), .bin .plain .add (.tmp 125) (.const (.int .i64 1)), none, []⟩, 
  ⟨(some (19)), .move (.tmp 126), none, []⟩]
def k_law01_FieldChecks_r19 : ACode := (.seq (.seq (.reg k_law01_FieldChecks_r16 false) (.cond (.tmp 124) .skip (.exit 2))) (.seq (.block 3 (.reg k_law01_FieldChecks_r17 false)) (.reg k_law01_FieldChecks_r18 false)))
def k_law01_FieldChecks_r20 : List AOper := [
  ⟨(some (134)), .load (some (4)) (.tmp 16), none, []⟩, 
  ⟨(some (135)), .move (.tmp 14), none, [0]⟩, 
  ⟨(some (136)), .move (.tmp 15), none, [0, 1]⟩, 
  ⟨(some (137)), .indexAddr 4 (.tmp 135) (.tmp 136), none, [0]⟩, 
  ⟨(some (138)), .load (some (4)) (.tmp 137), none, [0]⟩, 
  ⟨(some (139)), .call (.const (.fn (.func 34) [] [])) [.tmp 134, .tmp 138], none, []⟩, 
  ⟨(some (140)), .not (.tmp 139), none, []⟩, 
  ⟨(some (141)), .move (.tmp 140), none, []⟩, 
  ⟨(some (142)), .move (.tmp 17), (some (141, false)), []⟩, 
  ⟨(some (143)), .move (.tmp 2), (some (141, false)), [8]⟩, 
  ⟨(some (144)), .call (.const (.fn (.func 30) [] [])) [.tmp 142, .tmp 143], (some (141, false)), []⟩, 
  ⟨(some (145)), .not (.tmp 144), (some (141, false)), []⟩, 
  ⟨(some (146)), .pick (.tmp 141) (.const (.bool true)) (.tmp 145), none, []⟩]
def k_law01_FieldChecks_r20s : List (List AOper) := [
  [
  ⟨(some (134)), .load (some (4)) (.tmp 16), none, []⟩, 
  ⟨(some (135)), .move (.tmp 14), none, [0]⟩, 
  ⟨(some (136)), .move (.tmp 15), none, [0, 1]⟩, 
  ⟨(some (137)), .indexAddr 4 (.tmp 135) (.tmp 136), none, [0]⟩, 
  ⟨(some (138)), .load (some (4)) (.tmp 137), none, [0]⟩], 
  [
  ⟨(some (139)), .call (.const (.fn (.func 34) [] [])) [.tmp 134, .tmp 138], none, []⟩], 
  [
  ⟨(some (140)), .not (.tmp 139), none, []⟩], 
  [
  ⟨(some (141)), .move (.tmp 140), none, []⟩], 
  [
  ⟨(some (142)), .move (.tmp 17), (some (141, false)), []⟩, 
  ⟨(some (143)), .move (.tmp 2), (some (141, false)), [8]⟩], 
  [
  ⟨(some (144)), .call (.const (.fn (.func 30) [] [])) [.tmp 142, .tmp 143], (some (141, false)), []⟩], 
  [
  ⟨(some (145)), .not (.tmp 144), (some (141, false)), []⟩], 
  [
  ⟨(some (146)), .pick (.tmp 141) (.const (.bool true)) (.tmp 145), none, []⟩]]
theorem k_law01_FieldChecks_r20_sg : segs k_law01_FieldChecks_r20 = k_law01_FieldChecks_r20s := by kernel_rfl
theorem k_law01_FieldChecks_r20_st : statOK k_law01_FieldChecks_r20 = true := by kernel_rfl
def k_law01_FieldChecks_r21 : List AOper := [
  ⟨(some (12)), .move (.const (.bool false)), none, []⟩]
def k_law01_FieldChecks_r22 : List AOper := [
  ⟨(some (53)), .move (.tmp 15), none, []⟩, 
  ⟨(some (54)), .bin .plain .add (.tmp 53) (.const (.int .i64 1)), none, []⟩, 
  ⟨(some (15)), .move (.tmp 54), none, []⟩]
def k_law01_FieldChecks_r23 : ACode := (.seq (.seq (.reg k_law01_FieldChecks_r8 false) (.cond (.tmp 52) .skip (.exit 0))) (.seq (.block 1 (.seq (.reg k_law01_FieldChecks_r9 false) (.seq (.seq (.reg k_law01_FieldChecks_r10 true) (.cond (.tmp 92) (.seq (.reg k_law01_FieldChecks_r11 false) .ret) .skip)) (.seq (.reg k_law01_FieldChecks_r12 false) (.seq (.seq (.reg k_law01_FieldChecks_r13 true) (.cond (.tmp 119) (.seq (.reg k_law01_FieldChecks_r14 false) .ret) .skip)) (.seq (.seq (.reg k_law01_FieldChecks_r15 false) (.block 2 (.loop k_law01_FieldChecks_r19))) (.seq (.reg k_law01_FieldChecks_r20 true) (.cond (.tmp 146) (.seq (.reg k_law01_FieldChecks_r21 false) .ret) .skip)))))))) (.reg k_law01_FieldChecks_r22 false)))
def k_law01_FieldChecks_r24 : List AOper := [
  ⟨(some (147)), .load (some (4)) (.tmp 6), none, []⟩, 
  ⟨(some (148)), .move (.tmp 3), none, []⟩, 
  ⟨(some (149)), .move (.tmp 4), none, []⟩, 
  ⟨(some (150)), .move (.tmp 5), none, []⟩, 
  ⟨(some (151)), .call (.const (.fn (.func 36) [] [])) [.tmp 147, .tmp 148, .tmp 149, .tmp 150], none, []⟩, 
  ⟨(some (152)), .move (.tmp 151), none, []⟩, 
  ⟨(some (153)), .call (.const (.fn (.func 20) [] [])) [], (some (152, true)), []⟩, 
  ⟨(some (154)), .pick (.tmp 152) (.tmp 153) (.const (.bool false)), none, []⟩, 
  ⟨(some (12)), .move (.tmp 154), none, []⟩]
def k_law01_FieldChecks : AFun := { params := 6, ntmps := 155, body := (.seq (.reg k_law01_FieldChecks_r0 false) (.seq (.seq (.reg k_law01_FieldChecks_r1 false) (.cond (.tmp 27) (.seq (.reg k_law01_FieldChecks_r2 false) .ret) .skip)) (.seq (.reg k_law01_FieldChecks_r3 false) (.seq (.seq (.reg k_law01_FieldChecks_r4 false) (.cond (.tmp 34) (.reg k_law01_FieldChecks_r5 true) .skip)) (.seq (.reg k_law01_FieldChecks_r6 false) (.seq (.seq (.reg k_law01_FieldChecks_r7 false) (.block 0 (.loop k_law01_FieldChecks_r23))) (.seq (.reg k_law01_FieldChecks_r24 false) .ret))))))), res := [.tmp 12] }
theorem k_law01_FieldChecks_ok : cfun Try.prog Try.f3 = k_law01_FieldChecks := by kernel_rfl

def k_field_Electrodes_r0 : List AOper := [
  ⟨(some (1)), .box (.tmp 0), none, []⟩, 
  ⟨(some (2)), .move (.const (.nilsl)), none, []⟩]
def k_field_Electrodes_r1 : List AOper := [
  ⟨(some (5)), .load (some (4)) (.tmp 1), none, []⟩, 
  ⟨(some (6)), .call (.const (.fn (.func 26) [] [])) [.tmp 5], none, []⟩, 
  ⟨(some (7)), .bin .plain .neq (.tmp 6) (.const (.int .i64 0)), none, []⟩]
def k_field_Electrodes_r2 : List AOper := [
  ⟨(some (2)), .move (.const (.nilsl)), none, []⟩]
def k_field_Electrodes_r3 : List AOper := [
  ⟨(some (3)), .move (.const (.nilsl)), none, []⟩]
def k_field_Electrodes_r4 : List AOper := [
  ⟨(some (4)), .move (.const (.int .i64 1)), none, []⟩]
def k_field_Electrodes_r5 : List AOper := [
  ⟨(some (8)), .move (.tmp 4), none, []⟩, 
  ⟨(some (9)), .bin .plain .leq (.tmp 8) (.const (.int .i64 6)), none, []⟩]
def k_field_Electrodes_r6 : List AOper := [
  ⟨(some (12)), .load (some (4)) (.tmp 1), none, []⟩, 
  ⟨(some (13)), .move (.tmp 4), none, []⟩, 
  ⟨(some (14)), .call (.const (.fn (.func 75) [] [])) [.tmp 12, .tmp 13], none, []⟩]
def k_field_Electrodes_r7 : List AOper := [
  ⟨(some (15)), .move (.tmp 3), none, []⟩, 
  ⟨(some (16)), .move (.tmp 4), none, []⟩, 
  ⟨(some (17)), .buildSlice 1 [.tmp 16], none, []⟩, 
  ⟨(some (18)), .append 1 8 false (.tmp 15) (.tmp 17), none, []⟩, 
  ⟨(some (3)), .move (.tmp 18), none, []⟩]
def k_field_Electrodes_r8 : List AOper := [
  ⟨(some (10)), .move (.tmp 4), none, []⟩, 
  ⟨(some (11)), .bin .plain .add (.tmp 10) (.const (.int .i64 1)), none, []⟩, 
  ⟨(some (4)), .move (.tmp 11), none, []⟩]
def k_field_Electrodes_r9 : ACode := (.seq (.seq (.reg k_field_Electrodes_r5 false) (.cond (.tmp 9) .skip (.exit 0))) (.seq (.block 1 (.seq (.reg k_field_Electrodes_r6 false) (.cond (.tmp 14) (.reg k_field_Electrodes_r7 false) .skip))) (.reg k_field_Electrodes_r8 false)))
def k_field_Electrodes_r10 : List AOper := [
  ⟨(some (19)), .move (.tmp 3), none, []⟩, 
  ⟨(some (2)), .move (.tmp 19), none, []⟩]
def k_field_Electrodes : AFun := { params := 1, ntmps := 20, body := (.seq (.reg k_field_Electrodes_r0 false) (.seq (.seq (.reg k_field_Electrodes_r1 false) (.cond (.tmp 7) (.seq (.reg k_field_Electrodes_r2 false) .ret) .skip)) (.seq (.reg k_field_Electrodes_r3 false) (.seq (.seq (.reg k_field_Electrodes_r4 false) (.block 0 (.loop k_field_Electrodes_r9))) (.seq (.reg k_field_Electrodes_r10 false) .ret))))), res := [.tmp 2] }
theorem k_field_Electrodes_ok : cfun Try.prog Try.f31 = k_field_Electrodes := by kernel_rfl

def k_ref01_Electrodes_r0 : List AOper := [
  ⟨(some (1)), .box (.tmp 0), none, []⟩, 
  ⟨(some (2)), .move (.const (.nilsl)), none, []⟩]
def k_ref01_Electrodes_r1 : List AOper := [
  ⟨(some (5)), .load (some (4)) (.tmp 1), none, []⟩, 
  ⟨(some (6)), .call (.const (.fn (.func 27) [] [])) [.tmp 5], none, []⟩, 
  ⟨(some (7)), .bin .plain .neq (.tmp 6) (.const (.int .i64 0)), none, []⟩]
def k_ref01_Electrodes_r2 : List AOper := [
  ⟨(some (2)), .move (.const (.nilsl)), none, []⟩]
def k_ref01_Electrodes_r3 : List AOper := [
  ⟨(some (3)), .move (.const (.nilsl)), none, []⟩]
def k_ref01_Electrodes_r4 : List AOper := [
  ⟨(some (4)), .move (.const (.int .i64 1)), none, []⟩]
def k_ref01_Electrodes_r5 : List AOper := [
  ⟨(some (8)), .move (.tmp 4), none, []⟩, 
  ⟨(some (9)), .bin .plain .leq (.tmp 8) (.const (.int .i64 6)), none, []⟩]
def k_ref01_Electrodes_r6 : List AOper := [
  ⟨(some (12)), .load (some (4)) (.tmp 1), none, []⟩, 
  ⟨(some (13)), .move (.tmp 4), none, []⟩, 
  ⟨(some (14)), .call (.const (.fn (.func 76) [] [])) [.tmp 12, .tmp 13], none, []⟩]
def k_ref01_Electrodes_r7 : List AOper := [
  ⟨(some (15)), .move (.tmp 3), none, []⟩, 
  ⟨(some (16)), .move (.tmp 4), none, []⟩, 
  ⟨(some (17)), .buildSlice 1 [.tmp 16], none, []⟩, 
  ⟨(some (18)), .append 1 8 false (.tmp 15) (.tmp 17), none, []⟩, 
  ⟨(some (3)), .move (.tmp 18), none, []⟩]
def k_ref01_Electrodes_r8 : List AOper := [
  ⟨(some (10)), .move (.tmp 4), none, []⟩, 
  ⟨(some (11)), .bin .plain .add (.tmp 10) (.const (.int .i64 1)), none, []⟩, 
  ⟨(some (4)), .move (.tmp 11), none, []⟩]
def k_ref01_Electrodes_r9 : ACode := (.seq (.seq (.reg k_ref01_Electrodes_r5 false) (.cond (.tmp 9) .skip (.exit 0))) (.seq (.block 1 (.seq (.reg k_ref01_Electrodes_r6 false) (.cond (.tmp 14) (.reg k_ref01_Electrodes_r7 false) .skip))) (.reg k_ref01_Electrodes_r8 false)))
def k_ref01_Electrodes_r10 : List AOper := [
  ⟨(some (19)), .move (.tmp 3), none, []⟩, 
  ⟨(some (2)), .move (.tmp 19), none, []⟩]
def k_ref01_Electrodes : AFun := { params := 1, ntmps := 20, body := (.seq (.reg k_ref01_Electrodes_r0 false) (.seq (.seq (.reg k_ref01_Electrodes_r1 false) (.cond (.tmp 7) (.seq (.reg k_ref01_Electrodes_r2 false) .ret) .skip)) (.seq (.reg k_ref01_Electrodes_r3 false) (.seq (.seq (.reg k_ref01_Electrodes_r4 false) (.block 0 (.loop k_ref01_Electrodes_r9))) (.seq (.reg k_ref01_Electrodes_r10 false) .ret))))), res := [.tmp 2] }
theorem k_ref01_Electrodes_ok : cfun Try.prog Try.f32 = k_ref01_Electrodes := by kernel_rfl

def k_field_Same_r0 : List AOper := [
  ⟨(some (2)), .box (.tmp 0), none, []⟩, 
  ⟨(some (3)), .box (.tmp 1), none, []⟩, 
  ⟨(some (4)), .move (.const (.bool false)), none, []⟩]
def k_field_Same_r1 : List AOper := [
  ⟨(some (5)), .fieldAddr 0 (.tmp 2), none, []⟩, 
  ⟨(some (6)), .load none (.tmp 5), none, []⟩, 
  ⟨(some (7)), .fieldAddr 0 (.tmp 3), none, []⟩, 
  ⟨(some (8)), .load none (.tmp 7), none, []⟩, 
  ⟨(some (9)), .bin .plain .eql (.tmp 6) (.tmp 8), none, []⟩, 
  ⟨(some (10)), .move (.tmp 9), none, []⟩, 
  ⟨(some (11)), .fieldAddr 1 (.tmp 2), (some (10, true)), []⟩, 
  ⟨(some (12)), .load none (.tmp 11), (some (10, true)), []⟩, 
  ⟨(some (13)), .fieldAddr 1 (.tmp 3), (some (10, true)), []⟩, 
  ⟨(some (14)), .load none (.tmp 13), (some (10, true)), []⟩, 
  ⟨(some (15)), .bin .plain .eql (.tmp 12) (.tmp 14), (some (10, true)), []⟩, 
  ⟨(some (16)), .pick (.tmp 10) (.tmp 15) (.const (.bool false)), none, []⟩, 
  ⟨(some (17)), .move (.tmp 16), none, []⟩, 
  ⟨(some (18)), .fieldAddr 2 (.tmp 2), (some (17, true)), []⟩, 
  ⟨(some (19)), .load none (.tmp 18), (some (17, true)), []⟩, 
  ⟨(some (20)), .fieldAddr 2 (.tmp 3), (some (17, true)), []⟩, 
  ⟨(some (21)), .load none (.tmp 20), (some (17, true)), []⟩, 
  ⟨(some (22)), .bin .bool .eql (.tmp 19) (.tmp 21), (some (17, true)), []⟩, 
  ⟨(some (23)), .pick (.tmp 17) (.tmp 22) (.const (.bool false)), none, []⟩, 
  ⟨(some (24)), .move (.tmp 23), none, []⟩, 
  ⟨(some (25)), .fieldAddr 3 (.tmp 2), (some (24, true)), []⟩, 
  ⟨(some (26)), .load none (.tmp 25), (some (24, true)), []⟩, 
  ⟨(some (27)), .fieldAddr 3 (.tmp 3), (some (24, true)), []⟩, 
  ⟨(some (28)), .load none (.tmp 27), (some (24, true)), []⟩, 
  ⟨(some (29)), .call (.const (.fn (.func 78) [] [])) [.tmp 26, .tmp 28], (some (24, true)), []⟩, 
  ⟨(some (30)), .pick (.tmp 24) (.tmp 29) (.const (.bool false)), none, []⟩, 
  ⟨(some (4)), .move (.tmp 30), none, []⟩]
def k_field_Same : AFun := { params := 2, ntmps := 31, body := (.seq (.reg k_field_Same_r0 false) (.seq (.reg k_field_Same_r1 false) .ret)), res := [.tmp 4] }
theorem k_field_Same_ok : cfun Try.prog Try.f35 = k_field_Same := by kernel_rfl

def k_law01_weights_r0 : List AOper := [
  ⟨(some (4)), .box (.tmp 0), none, []⟩, 
  ⟨(some (8)), .move (.const (.bool false)), none, []⟩]
def k_law01_weights_r1 : List AOper := [
  ⟨(some (14)), .move (.tmp 1), none, []⟩, 
  ⟨(some (15)), .call (.const (.fn (.func 22) [] [])) [.tmp 14], none, []⟩, 
  ⟨(some (16)), .call (.const (.fn (.func 21) [] [])) [.tmp 15, .const (.int .i64 8), .const (.int .i64 6)], none, []⟩, 
  ⟨(some (9)), .box (.const (.agg [.int .i64 0, .int .i64 0, .bool false, .nilsl])), none, []⟩, 
  ⟨none, .store 4 (.tmp 9) (.tmp 16), none, []⟩]
def k_law01_weights_r2 : List AOper := [
  ⟨(some (17)), .fieldAddr 3 (.tmp 9), none, []⟩, 
  ⟨(some (18)), .load none (.tmp 17), none, []⟩, 
  ⟨(some (19)), .len false (.tmp 18), none, []⟩, 
  ⟨(some (10)), .move (.tmp 19), none, []⟩]
def k_law01_weights_r3 : List AOper := [
  ⟨(some (20)), .move (.tmp 2), none, []⟩, 
  ⟨(some (21)), .move (.tmp 10), none, []⟩, 
  ⟨(some (22)), .call (.const (.fn (.func 23) [] [])) [.tmp 20, .tmp 21], none, []⟩, 
  ⟨(some (11)), .move (.tmp 22), none, []⟩]
def k_law01_weights_r4 : List AOper := [
  ⟨(some (23)), .move (.tmp 3), none, []⟩, 
  ⟨(some (24)), .move (.tmp 3), none, [0]⟩, 
  ⟨(some (25)), .move (.tmp 10), none, [0, 1]⟩, 
  ⟨(some (26)), .call (.const (.fn (.func 23) [] [])) [.tmp 24, .tmp 25], none, [0]⟩, 
  ⟨(some (27)), .move (.tmp 11), none, [0, 1, 2, 3]⟩, 
  ⟨(some (28)), .bin .plain .sub (.tmp 27) (.const (.int .i64 1)), none, [0, 1, 2, 3]⟩, 
  ⟨(some (29)), .move (.tmp 11), none, [0, 1, 2, 3, 4, 5]⟩, 
  ⟨(some (30)), .bin .plain .add (.tmp 29) (.const (.int .i64 1)), none, [0, 1, 2, 3, 4, 5]⟩, 
  ⟨(some (31)), .move (.tmp 11), none, [0, 1, 2, 3, 4, 5, 6, 7]⟩, 
  ⟨(some (32)), .fieldAddr 0 (.tmp 9), none, [0, 1, 2, 3, 4, 5, 6, 7, 8]⟩, 
  ⟨(some (33)), .load none (.tmp 32), none, [0, 1, 2, 3, 4, 5, 6, 7, 8]⟩, 
  ⟨(some (34)), .bin .plain .sub (.tmp 31) (.tmp 33), none, [0, 1, 2, 3, 4, 5, 6, 7]⟩, 
  ⟨(some (35)), .move (.tmp 11), none, [0, 1, 2, 3, 4, 5, 6, 7, 8, 9, 10, 11]⟩, 
  ⟨(some (36)), .fieldAddr 0 (.tmp 9), none, [0, 1, 2, 3, 4, 5, 6, 7, 8, 9, 10, 11, 12]⟩, 
  ⟨(some (37)), .load none (.tmp 36), none, [0, 1, 2, 3, 4, 5, 6, 7, 8, 9, 10, 11, 12]⟩, 
  ⟨(some (38)), .bin .plain .add (.tmp 35) (.tmp 37), none, [0, 1, 2, 3, 4, 5, 6, 7, 8, 9, 10, 11]⟩, 
  ⟨(some (39)), .buildSlice 1 [.tmp 23, .tmp 26, .tmp 28, .tmp 30, .tmp 34, .tmp 38], none, []⟩, 
  ⟨(some (12)), .move (.tmp 39), none, []⟩]
def k_law01_weights_r4s : List (List AOper) := [
  [
  ⟨(some (23)), .move (.tmp 3), none, []⟩, 
  ⟨(some (24)), .move (.tmp 3), none, [0]⟩, 
  ⟨(some (25)), .move (.tmp 10), none, [0, 1]⟩, 
  ⟨(some (26)), .call (.const (.fn (.func 23) [] [])) [.tmp 24, .tmp 25], none, [0]⟩, 
  ⟨(some (27)), .move (.tmp 11), none, [0, 1, 2, 3]⟩, 
  ⟨(some (28)), .bin .plain .sub (.tmp 27) (.const (.int .i64 1)), none, [0, 1, 2, 3]⟩, 
  ⟨(some (29)), .move (.tmp 11), none, [0, 1, 2, 3, 4, 5]⟩, 
  ⟨(some (30)), .bin .plain .add (.tmp 29) (.const (.int .i64 1)), none, [0, 1, 2, 3, 4, 5]⟩, 
  ⟨(some (31)), .move (.tmp 11), none, [0, 1, 2, 3, 4, 5, 6, 7]⟩, 
  ⟨(some (32)), .fieldAddr 0 (.tmp 9), none, [0, 1, 2, 3, 4, 5, 6, 7, 8]⟩, 
  ⟨(some (33)), .load none (.tmp 32), none, [0, 1, 2, 3, 4, 5, 6, 7, 8]⟩, 
  ⟨(some (34)), .bin .plain .sub (.tmp 31) (.tmp 33), none, [0, 1, 2, 3, 4, 5, 6, 7]⟩, 
  ⟨(some (35)), .move (.tmp 11), none, [0, 1, 2, 3, 4, 5, 6, 7, 8, 9, 10, 11]⟩, 
  ⟨(some (36)), .fieldAddr 0 (.tmp 9), none, [0, 1, 2, 3, 4, 5, 6, 7, 8, 9, 10, 11, 12]⟩, 
  ⟨(some (37)), .load none (.tmp 36), none, [0, 1, 2, 3, 4, 5, 6, 7, 8, 9, 10, 11, 12]⟩, 
  ⟨(some (38)), .bin .plain .add (.tmp 35) (.tmp 37), none, [0, 1, 2, 3, 4, 5, 6, 7, 8, 9, 10, 11]⟩], 
  [
  ⟨(some (39)), .buildSlice 1 [.tmp 23, .tmp 26, .tmp 28, .tmp 30, .tmp 34, .tmp 38], none, []⟩], 
  [
  ⟨(some (12)), .move (.tmp 39), none, []⟩]]
theorem k_law01_weights_r4_sg : segs k_law01_weights_r4 = k_law01_weights_r4s := by kernel_rfl
theorem k_law01_weights_r4_st : statOK k_law01_weights_r4 = true := by kernel_rfl
def k_law01_weights_r5 : List AOper := [
  ⟨(some (13)), .move (.const (.int .i64 0)), none, []⟩]
def k_law01_weights_r6 : List AOper := [
  ⟨(some (40)), .move (.tmp 13), none, []⟩, 
  ⟨(some (41)), .move (.tmp 12), none, []⟩, 
  ⟨(some (42)), .len false (.tmp 41), none, []⟩, 
  ⟨(some (43)), .bin .plain .lss (.tmp 40) (.tmp 42), none, []⟩]
def k_law01_weights_r7 : List AOper := [
  ⟨(some (46)), .load (some (4)) (.tmp 9), none, []⟩, 
  ⟨(some (47)), .move (.tmp 11), none, [0]⟩, 
  ⟨(some (48)), .move (.tmp 12), none, [0, 1]⟩, 
  ⟨(some (49)), .move (.tmp 13), none, [0, 1, 2]⟩, 
  ⟨(some (50)), .indexAddr 1 (.tmp 48) (.tmp 49), none, [0, 1]⟩, 
  ⟨(some (51)), .load none (.tmp 50), none, [0, 1]⟩, 
  ⟨(some (52)), .call (.const (.fn (.func 63) [] [])) [.tmp 46, .tmp 47, .tmp 51], none, []⟩, 
  ⟨(some (53)), .load (some (4)) (.tmp 9), none, [0, 1, 2, 3, 4, 5, 6]⟩, 
  ⟨(some (54)), .move (.tmp 11), none, [0, 1, 2, 3, 4, 5, 6, 7]⟩, 
  ⟨(some (55)), .move (.tmp 12), none, [0, 1, 2, 3, 4, 5, 6, 7, 8]⟩, 
  ⟨(some (56)), .move (.tmp 13), none, [0, 1, 2, 3, 4, 5, 6, 7, 8, 9]⟩, 
  ⟨(some (57)), .indexAddr 1 (.tmp 55) (.tmp 56), none, [0, 1, 2, 3, 4, 5, 6, 7, 8]⟩, 
  ⟨(some (58)), .load none (.tmp 57), none, [0, 1, 2, 3, 4, 5, 6, 7, 8]⟩, 
  ⟨(some (59)), .call (.const (.fn (.func 55) [] [])) [.tmp 53, .tmp 54, .tmp 58], none, []⟩, 
  ⟨(some (60)), .bin .plain .neq (.tmp 52) (.tmp 59), none, []⟩]
def k_law01_weights_r7s : List (List AOper) := [
  [
  ⟨(some (46)), .load (some (4)) (.tmp 9), none, []⟩, 
  ⟨(some (47)), .move (.tmp 11), none, [0]⟩, 
  ⟨(some (48)), .move (.tmp 12), none, [0, 1]⟩, 
  ⟨(some (49)), .move (.tmp 13), none, [0, 1, 2]⟩, 
  ⟨(some (50)), .indexAddr 1 (.tmp 48) (.tmp 49), none, [0, 1]⟩, 
  ⟨(some (51)), .load none (.tmp 50), none, [0, 1]⟩, 
  ⟨(some (52)), .call (.const (.fn (.func 63) [] [])) [.tmp 46, .tmp 47, .tmp 51], none, []⟩, 
  ⟨(some (53)), .load (some (4)) (.tmp 9), none, [0, 1, 2, 3, 4, 5, 6]⟩, 
  ⟨(some (54)), .move (.tmp 11), none, [0, 1, 2, 3, 4, 5, 6, 7]⟩, 
  ⟨(some (55)), .move (.tmp 12), none, [0, 1, 2, 3, 4, 5, 6, 7, 8]⟩, 
  ⟨(some (56)), .move (.tmp 13), none, [0, 1, 2, 3, 4, 5, 6, 7, 8, 9]⟩, 
  ⟨(some (57)), .indexAddr 1 (.tmp 55) (.tmp 56), none, [0, 1, 2, 3, 4, 5, 6, 7, 8]⟩, 
  ⟨(some (58)), .load none (.tmp 57), none, [0, 1, 2, 3, 4, 5, 6, 7, 8]⟩], 
  [
  ⟨(some (59)), .call (.const (.fn (.func 55) [] [])) [.tmp 53, .tmp 54, .tmp 58], none, []⟩], 
  [
  ⟨(some (60)), .bin .plain .neq (.tmp 52) (.tmp 59), none, []⟩]]
theorem k_law01_weights_r7_sg : segs k_law01_weights_r7 = k_law01_weights_r7s := by kernel_rfl
theorem k_law01_weights_r7_st : statOK k_law01_weights_r7 = true := by kernel_rfl
def k_law01_weights_r8 : List AOper := [
  ⟨(some (8)), .move (.const (.bool false)), none, []⟩]
def k_law01_weights_r9 : List AOper := [
  ⟨(some (44)), .move (.tmp 13), none, []⟩, 
  ⟨(some (45)), .bin .plain .add (.tmp 44) (.const (.int .i64 1)), none, []⟩, 
  ⟨(some (13)), .move (.tmp 45), none, []⟩]
def k_law01_weights_r10 : ACode := (.seq (.seq (.reg k_law01_weights_r6 false) (.cond (.tmp 43) .skip (.exit 0))) (.seq (.block 1 (.seq (.reg k_law01_weights_r7 true) (.cond (.tmp 60) (.seq (.reg k_law01_weights_r8 false) .ret) .skip))) (.reg k_law01_weights_r9 false)))
def k_law01_weights_r11 : List AOper := [
  ⟨(some (61)), .load (some (4)) (.tmp 4), none, []⟩, 
  ⟨(some (62)), .move (.tmp 2), none, [0]⟩, 
  ⟨(some (63)), .move (.tmp 3), none, [0, 1]⟩, 
  ⟨(some (64)), .call (.const (.fn (.func 63) [] [])) [.tmp 61, .tmp 62, .tmp 63], none, []⟩, 
  ⟨(some (65)), .load (some (4)) (.tmp 4), none, [0, 1, 2, 3]⟩, 
  ⟨(some (66)), .move (.tmp 2), none, [0, 1, 2, 3, 4]⟩, 
  ⟨(some (67)), .move (.tmp 3), none, [0, 1, 2, 3, 4, 5]⟩, 
  ⟨(some (68)), .call (.const (.fn (.func 55) [] [])) [.tmp 65, .tmp 66, .tmp 67], none, []⟩, 
  ⟨(some (69)), .bin .plain .eql (.tmp 64) (.tmp 68), none, []⟩, 
  ⟨(some (8)), .move (.tmp 69), none, []⟩]
def k_law01_weights_r11s : List (List AOper) := [
  [
  ⟨(some (61)), .load (some (4)) (.tmp 4), none, []⟩, 
  ⟨(some (62)), .move (.tmp 2), none, [0]⟩, 
  ⟨(some (63)), .move (.tmp 3), none, [0, 1]⟩, 
  ⟨(some (64)), .call (.const (.fn (.func 63) [] [])) [.tmp 61, .tmp 62, .tmp 63], none, []⟩, 
  ⟨(some (65)), .load (some (4)) (.tmp 4), none, [0, 1, 2, 3]⟩, 
  ⟨(some (66)), .move (.tmp 2), none, [0, 1, 2, 3, 4]⟩, 
  ⟨(some (67)), .move (.tmp 3), none, [0, 1, 2, 3, 4, 5]⟩], 
  [
  ⟨(some (68)), .call (.const (.fn (.func 55) [] [])) [.tmp 65, .tmp 66, .tmp 67], none, []⟩], 
  [
  ⟨(some (69)), .bin .plain .eql (.tmp 64) (.tmp 68), none, []⟩], 
  [
  ⟨(some (8)), .move (.tmp 69), none, []⟩]]
theorem k_law01_weights_r11_sg : segs k_law01_weights_r11 = k_law01_weights_r11s := by kernel_rfl
theorem k_law01_weights_r11_st : statOK k_law01_weights_r11 = true := by kernel_rfl
def k_law01_weights : AFun := { params := 4, ntmps := 70, body := (.seq (.reg k_law01_weights_r0 false) (.seq (.reg k_law01_weights_r1 false) (.seq (.reg k_law01_weights_r2 false) (.seq (.reg k_law01_weights_r3 false) (.seq (.reg k_law01_weights_r4 true) (.seq (.seq (.reg k_law01_weights_r5 false) (.block 0 (.loop k_law01_weights_r10))) (.seq (.reg k_law01_weights_r11 true) .ret))))))), res := [.tmp 8] }
theorem k_law01_weights_ok : cfun Try.prog Try.f36 = k_law01_weights := by kernel_rfl

def k_ref01_Weight_r0 : List AOper := [
  ⟨(some (3)), .box (.tmp 0), none, []⟩, 
  ⟨(some (6)), .move (.const (.int .i64 0)), none, []⟩]
def k_ref01_Weight_r1 : List AOper := [
  ⟨(some (7)), .load (some (4)) (.tmp 3), none, []⟩, 
  ⟨(some (8)), .call (.const (.fn (.func 27) [] [])) [.tmp 7], none, []⟩, 
  ⟨(some (9)), .bin .plain .neq (.tmp 8) (.const (.int .i64 0)), none, []⟩]
def k_ref01_Weight_r2 : List AOper := [
  ⟨(some (6)), .move (.const (.int .i64 0)), none, []⟩]
def k_ref01_Weight_r3 : List AOper := [
  ⟨(some (10)), .load (some (4)) (.tmp 3), none, []⟩, 
  ⟨(some (11)), .move (.tmp 1), none, []⟩, 
  ⟨(some (12)), .move (.tmp 2), none, []⟩, 
  ⟨(some (13)), .call (.const (.fn (.func 99) [] [])) [.tmp 10, .tmp 11, .tmp 12], none, []⟩, 
  ⟨(some (6)), .move (.tmp 13), none, []⟩]
def k_ref01_Weight : AFun := { params := 3, ntmps := 14, body := (.seq (.reg k_ref01_Weight_r0 false) (.seq (.seq (.reg k_ref01_Weight_r1 false) (.cond (.tmp 9) (.seq (.reg k_ref01_Weight_r2 false) .ret) .skip)) (.seq (.reg k_ref01_Weight_r3 false) .ret))), res := [.tmp 6] }
theorem k_ref01_Weight_ok : cfun Try.prog Try.f55 = k_ref01_Weight := by kernel_rfl

def k_slices_Equal_int_int_r0 : List AOper := [
  ⟨(some (4)), .move (.const (.bool false)), none, []⟩]
def k_slices_Equal_int_int_r1 : List AOper := [
  ⟨(some (6)), .move (.tmp 0), none, []⟩, 
  ⟨(some (7)), .len false (.tmp 6), none, []⟩, 
  ⟨(some (8)), .move (.tmp 1), none, []⟩, 
  ⟨(some (9)), .len false (.tmp 8), none, []⟩, 
  ⟨(some (10)), .bin .plain .neq (.tmp 7) (.tmp 9), none, []⟩]
def k_slices_Equal_int_int_r2 : List AOper := [
  ⟨(some (4)), .move (.const (.bool false)), none, []⟩]
def k_slices_Equal_int_int_r3 : List AOper := [
  ⟨(some (11)), .move (.tmp 0), none, []⟩, 
  ⟨(some (12)), .len false (.tmp 11), none, []⟩, 
  ⟨(some (13)), .move (.const (.int .i64 0)), none, []⟩]
def k_slices_Equal_int_int_r4 : List AOper := [
  ⟨(some (14)), .bin .plain .lss (.tmp 13) (.tmp 12), none, []⟩]
def k_slices_Equal_int_int_r5 : List AOper := [
  ⟨(some (15)), .move (.tmp 13), none, []⟩, 
  ⟨(some (5)), .move (.tmp 15), none, []⟩]
def k_slices_Equal_int_int_r6 : List AOper := [
  ⟨(some (16)), .move (.tmp 0), none, []⟩, 
  ⟨(some (17)), .move (.tmp 5), none, [0]⟩, 
  ⟨(some (18)), .indexAddr 1 (.tmp 16) (.tmp 17), none, []⟩, 
  ⟨(some (19)), .load none (.tmp 18), none, []⟩, 
  ⟨(some (20)), .move (.tmp 1), none, [0, 1, 2, 3]⟩, 
  ⟨(some (21)), .move (.tmp 5), none, [0, 1, 2, 3, 4]⟩, 
  ⟨(some (22)), .indexAddr 1 (.tmp 20) (.tmp 21), none, [0, 1, 2, 3]⟩, 
  ⟨(some (23)), .load none (.tmp 22), none, [0, 1, 2, 3]⟩, 
  ⟨(some (24)), .bin .plain .neq (.tmp 19) (.tmp 23), none, []⟩]
def k_slices_Equal_int_int_r6s : List (List AOper) := [
  [
  ⟨(some (16)), .move (.tmp 0), none, []⟩, 
  ⟨(some (17)), .move (.tmp 5), none, [0]⟩, 
  ⟨(some (18)), .indexAddr 1 (.tmp 16) (.tmp 17), none, []⟩, 
  ⟨(some (19)), .load none (.tmp 18), none, []⟩, 
  ⟨(some (20)), .move (.tmp 1), none, [0, 1, 2, 3]⟩, 
  ⟨(some (21)), .move (.tmp 5), none, [0, 1, 2, 3, 4]⟩, 
  ⟨(some (22)), .indexAddr 1 (.tmp 20) (.tmp 21), none, [0, 1, 2, 3]⟩, 
  ⟨(some (23)), .load none (.tmp 22), none, [0, 1, 2, 3]⟩], 
  [
  ⟨(some (24)), .bin .plain .neq (.tmp 19) (.tmp 23), none, []⟩]]
theorem k_slices_Equal_int_int_r6_sg : segs k_slices_Equal_int_int_r6 = k_slices_Equal_int_int_r6s := by kernel_rfl
theorem k_slices_Equal_int_int_r6_st : statOK k_slices_Equal_int_int_r6 = true := by kernel_rfl
def k_slices_Equal_int_int_r7 : List AOper := [
  ⟨(some (4)), .move (.const (.bool false)), none, []⟩]
def k_slices_Equal_int_int_r8 : List AOper := [
  ⟨(some (25)), .bin .plain .add (.tmp 13) (.const (.int .i64 1)), none, []⟩, 
  ⟨(some (13)), .move (.tmp 25), none, []⟩]
def k_slices_Equal_int_int_r9 : ACode := (.seq (.reg k_slices_Equal_int_int_r4 false) (.seq (.cond (.tmp 14) .skip (.exit 0)) (.seq (.block 1 (.seq (.reg k_slices_Equal_int_int_r5 false) (.seq (.reg k_slices_Equal_int_int_r6 true) (.cond (.tmp 24) (.seq (.reg k_slices_Equal_int_int_r7 false) .ret) .skip)))) (.reg k_slices_Equal_int_int_r8 false))))
def k_slices_Equal_int_int_r10 : List AOper := [
  ⟨(some (4)), .move (.const (.bool true)), none, []⟩]
def k_slices_Equal_int_int : AFun := { params := 2, ntmps := 26, body := (.seq (.reg k_slices_Equal_int_int_r0 false) (.seq (.seq (.reg k_slices_Equal_int_int_r1 false) (.cond (.tmp 10) (.seq (.reg k_slices_Equal_int_int_r2 false) .ret) .skip)) (.seq (.seq (.reg k_slices_Equal_int_int_r3 false) (.block 0 (.loop k_slices_Equal_int_int_r9))) (.seq (.reg k_slices_Equal_int_int_r10 false) .ret)))), res := [.tmp 4] }
theorem k_slices_Equal_int_int_ok : cfun Try.prog Try.f78 = k_slices_Equal_int_int := by kernel_rfl


abbrev n_law01_FieldChecks : Nat := 3
theorem e_law01_FieldChecks : EntryOK Try.prog n_law01_FieldChecks k_law01_FieldChecks := ⟨Try.f3, Try.func3, k_law01_FieldChecks_ok, by kernel_rfl⟩
abbrev n_field_Electrodes : Nat := 31
theorem e_field_Electrodes : EntryOK Try.prog n_field_Electrodes k_field_Electrodes := ⟨Try.f31, Try.func31, k_field_Electrodes_ok, by kernel_rfl⟩
abbrev n_ref01_Electrodes : Nat := 32
theorem e_ref01_Electrodes : EntryOK Try.prog n_ref01_Electrodes k_ref01_Electrodes := ⟨Try.f32, Try.func32, k_ref01_Electrodes_ok, by kernel_rfl⟩
abbrev n_field_Same : Nat := 35
theorem e_field_Same : EntryOK Try.prog n_field_Same k_field_Same := ⟨Try.f35, Try.func35, k_field_Same_ok, by kernel_rfl⟩
abbrev n_law01_weights : Nat := 36
theorem e_law01_weights : EntryOK Try.prog n_law01_weights k_law01_weights := ⟨Try.f36, Try.func36, k_law01_weights_ok, by kernel_rfl⟩
abbrev n_ref01_Weight : Nat := 55
theorem e_ref01_Weight : EntryOK Try.prog n_ref01_Weight k_ref01_Weight := ⟨Try.f55, Try.func55, k_ref01_Weight_ok, by kernel_rfl⟩
abbrev n_slices_Equal_int_int : Nat := 78
theorem e_slices_Equal_int_int : EntryOK Try.prog n_slices_Equal_int_int k_slices_Equal_int_int := ⟨Try.f78, Try.func78, k_slices_Equal_int_int_ok, by kernel_rfl⟩

attribute [go_sem] k_law01_FieldChecks_r0 k_law01_FieldChecks_r1 k_law01_FieldChecks_r2 k_law01_FieldChecks_r3 k_law01_FieldChecks_r4 k_law01_FieldChecks_r5s k_law01_FieldChecks_r6 k_law01_FieldChecks_r7 k_law01_FieldChecks_r8 k_law01_FieldChecks_r9 k_law01_FieldChecks_r10s k_law01_FieldChecks_r11
attribute [go_sem] k_law01_FieldChecks_r12 k_law01_FieldChecks_r13s k_law01_FieldChecks_r14 k_law01_FieldChecks_r15 k_law01_FieldChecks_r16 k_law01_FieldChecks_r17 k_law01_FieldChecks_r18 k_law01_FieldChecks_r20s k_law01_FieldChecks_r21 k_law01_FieldChecks_r22 k_law01_FieldChecks_r24 k_field_Electrodes_r0
attribute [go_sem] k_field_Electrodes_r1 k_field_Electrodes_r2 k_field_Electrodes_r3 k_field_Electrodes_r4 k_field_Electrodes_r5 k_field_Electrodes_r6 k_field_Electrodes_r7 k_field_Electrodes_r8 k_field_Electrodes_r10 k_ref01_Electrodes_r0 k_ref01_Electrodes_r1 k_ref01_Electrodes_r2
attribute [go_sem] k_ref01_Electrodes_r3 k_ref01_Electrodes_r4 k_ref01_Electrodes_r5 k_ref01_Electrodes_r6 k_ref01_Electrodes_r7 k_ref01_Electrodes_r8 k_ref01_Electrodes_r10 k_field_Same_r0 k_field_Same_r1 k_law01_weights_r0 k_law01_weights_r1 k_law01_weights_r2
attribute [go_sem] k_law01_weights_r3 k_law01_weights_r4s k_law01_weights_r5 k_law01_weights_r6 k_law01_weights_r7s k_law01_weights_r8 k_law01_weights_r9 k_law01_weights_r11s k_ref01_Weight_r0 k_ref01_Weight_r1 k_ref01_Weight_r2 k_ref01_Weight_r3
attribute [go_sem] k_slices_Equal_int_int_r0 k_slices_Equal_int_int_r1 k_slices_Equal_int_int_r2 k_slices_Equal_int_int_r3 k_slices_Equal_int_int_r4 k_slices_Equal_int_int_r5 k_slices_Equal_int_int_r6s k_slices_Equal_int_int_r7 k_slices_Equal_int_int_r8 k_slices_Equal_int_int_r10 k_law01_weights_r7_sg k_law01_FieldChecks_r5_sg
attribute [go_sem] k_law01_FieldChecks_r10_sg k_law01_weights_r11_sg k_slices_Equal_int_int_r6_sg k_law01_weights_r4_sg k_law01_FieldChecks_r20_sg k_law01_FieldChecks_r13_sg k_law01_weights_r7_st k_law01_FieldChecks_r5_st k_law01_FieldChecks_r10_st k_law01_weights_r11_st k_slices_Equal_int_int_r6_st k_law01_weights_r4_st
attribute [go_sem] k_law01_FieldChecks_r20_st k_law01_FieldChecks_r13_st k_law01_FieldChecks k_field_Electrodes k_ref01_Electrodes k_field_Same k_law01_weights k_ref01_Weight k_slices_Equal_int_int
end Go.Proofs

