/- A part of the proof. -/
import Derived.Test.YtdodlephmmpemaaPG
set_option linter.unusedSimpArgs false
set_option linter.unusedVariables false
namespace Go.Proofs
open Go Go.Sx
attribute [local irreducible] Run

set_option maxHeartbeats 16000000 in
set_option maxRecDepth 20000 in
theorem checks_law (p Q : Rp) (v zs : List Int) (at' by' : Int) (hvl : v.length ≤ 9223372036854775807) (hz : zs.length ≤ 9223372036854775807) : Ans Try.prog n_law01_FieldChecks [p.v, Q.v, vw v, .view (zs.map (.int .i64)), .int .i64 at', .int .i64 by'] [] (.bool true) [] := by
  by_cases hb : p.cs.length ≤ 300 ∧ v.length ≤ 300
  rotate_left
  · have hB := big_yes p hb hvl
    refine spec_run e_law01_FieldChecks fun G => ?_
    simp only [go_sem, Rp.v, vw]
    refine cF hB 6 ⟨.inl (rp_frz 3 _ p), .inl (bigL_frz rfl), trivial⟩ ?_
    simp only [go_sem]
    refine cP awake_ok ?_
    simp only [go_sem]
  have hB := big_no p hb.1 hb.2
  by_cases hbq : Q.cs.length ≤ 300
  rotate_left
  · have hB2 := big_gen Q [] (by simp) true (by simp; omega)
    refine spec_run e_law01_FieldChecks fun G => ?_
    simp only [go_sem, Rp.v, vw]
    refine cF hB 6 ⟨.inl (rp_frz 3 _ p), .inl (bigL_frz rfl), trivial⟩ ?_
    simp only [go_sem, Rp.v, vw]
    refine cF hB2 6 ⟨.inl (rp_frz 3 _ Q), .inr ⟨rfl, rfl⟩, trivial⟩ ?_
    simp only [go_sem]
    refine cP awake_ok ?_
    simp only [go_sem]
  have hB2 := big_gen Q [] (by simp) false (by simp; omega)
  have m9 := mod_pos by' 9 (by omega)
  have y9 : 0 ≤ by' % 9 ∧ by' % 9 < 9 := ⟨Int.emod_nonneg _ (by decide), Int.emod_lt_of_pos _ (by decide)⟩
  have w9 : IntKind.i64.wrap (by' % 9 - 1) = by' % 9 - 1 := w64 (by omega)
  refine spec_run e_law01_FieldChecks fun G => ?_
  simp only [go_sem, Rp.v, vw]
  refine cF hB 6 ⟨.inl (rp_frz 3 _ p), .inl (bigL_frz rfl), trivial⟩ ?_
  simp only [go_sem, Rp.v, vw]
  refine cF hB2 6 ⟨.inl (rp_frz 3 _ Q), .inr ⟨rfl, rfl⟩, trivial⟩ ?_
  simp only [go_sem]
  refine callN1 (newdice_ok zs hz) (by simp only [go_sem]) (dr_bel _ _) (by simp) (by simp) ?_
  generalize seedW zs = w
  simp only [go_sem]
  refine callDN (PlanOf_ok w 8 6 (by omega) (by omega)) rfl (by simp only [go_sem]) (dr_bel _ _) (fun q hq => ⟨pla_bel _ _ _ _ rfl, dr_bel _ _, iv_row _ _ _⟩) (by simp) (by simp) ?_
  rintro ⟨w1, q⟩ hq
  dsimp only at hq ⊢
  have hqo := hq.ok
  have hqN : q.cs.length ≤ 256 := by rw [hqo.len]; exact Nat.mul_le_mul hqo.w.2 hqo.h.2
  have hq1 : 1 ≤ q.cs.length := by rw [hqo.len]; exact Nat.mul_pos hqo.w.1 hqo.h.1
  have m1 := mod_pos at' q.cs.length (by omega)
  have y1 : 0 ≤ at' % (q.cs.length : Int) ∧ at' % (q.cs.length : Int) < q.cs.length := ⟨Int.emod_nonneg _ (by omega), Int.emod_lt_of_pos _ (by omega)⟩
  have hne : ∀ l : List Int, l.length = q.cs.length → l ≠ [] := fun l h e => by rw [e] at h; simp at h; omega
  have key := fun (m : List Int) (h : m.length = q.cs.length) => checks_loop p Q ⟨q.w, q.h, q.rd, m⟩ v zs at' by' w1 hb.1 hb.2 (by show m.length ≤ 300; omega) (hne m h) hz (G := G)
  by_cases h3 : by'.tmod 3 = 0
  · have h3' : (by'.tmod 3 == 0) = true := by simp [h3]
    obtain ⟨k, hk⟩ : ∃ k : Nat, (k : Int) = at' % (q.cs.length : Int) := ⟨(at' % (q.cs.length : Int)).toNat, by omega⟩
    rw [← hk] at m1 y1
    have k0 : ¬ (k : Int) < 0 := by omega
    have k1 : (k : Int) < q.cs.length := by omega
    have gk := iv_get (l := q.cs) (i := k) (by omega)
    have kk := key (q.cs.set k (by' % 9 - 1)) (by simp)
    have hsl : (q.cs.set k (by' % 9 - 1)).length = q.cs.length := List.length_set
    dsimp only at kk
    rw [hsl] at kk
    generalize by' % 9 = z at *
    simp only [go_sem, h3, h3', Pl.a, Pl.c4, ren, rens, iv_len]
    refine dP m1 ?_
    simp only [go_sem, Pl.a, Pl.c4, iv_len]
    refine dP m9 ?_
    simp only [go_sem, Pl.a, Pl.c4, iv_len, w9, k0, k1, gk, iv_set]
    exact loop_wk (by simp [go_sem, vw]) kk
  · have h3' : (by'.tmod 3 == 0) = false := by simp [h3]
    have kk := key q.cs rfl
    simp only [go_sem, h3, h3', Pl.a, Pl.c4, ren, rens, iv_len]
    exact loop_wk (by simp [go_sem, vw]) kk
end Go.Proofs

