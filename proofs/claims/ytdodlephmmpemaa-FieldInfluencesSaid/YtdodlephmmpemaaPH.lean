/- A part of the proof. -/
import Derived.Test.YtdodlephmmpemaaPG
set_option linter.unusedSimpArgs false
set_option linter.unusedVariables false
namespace Go.Proofs
open Go Go.Sx
attribute [local irreducible] Run

section
variable {G : Ctx} {k : Nat} {p : Pl} (hlen : p.cs.length = p.w * p.h) (hn : p.cs.length ≤ 1000000) {g : Bool} {bs : List Bool} (hb : bs.length = p.cs.length) {i : Nat} (hi : i < p.cs.length) {rd : Int} {K : St → Prop} {R : List AOper}
include hlen hn hb hi

omit hn in
theorem oq_0 (h : ∀ b, ((bs.getD i false = true ∨ 0 < gt p.cs i) → b = true) → Areg Try.prog G k none (opA1 ++ R) ⟨opC p.cs.length i (i % p.w) rd 43 b, opH p g bs, []⟩ K) :
    Areg Try.prog G k none (opA0 ++ (opA1 ++ R)) ⟨tsets 121 (opB p.cs.length i (i % p.w) rd), opH p g bs, []⟩ K := by
  refine areg_cut 200 ?_
  have h2 : (i : Int) < p.cs.length := by omega
  have n0 : ¬ (i : Int) < 0 := by omega
  have hg := bv_get (bs := bs) (c := i) (by omega)
  have hc := iv_get (l := p.cs) hi
  have fin : ∀ b ρ', Wk ρ' (opC p.cs.length i (i % p.w) rd 43 b) → ((bs.getD i false = true ∨ 0 < gt p.cs i) → b = true) → Areg Try.prog G k none (opA1 ++ R) ⟨ρ', opH p g bs, []⟩ K := fun b ρ' hw hq => areg_wk' (List.cons_ne_nil _ _) hw (h b hq)
  clear h
  generalize bs.getD i false = b0 at *
  generalize gt p.cs i = z at *
  generalize opA1 ++ R = L at *
  cases b0 with
  | true =>
    simp only [opA0, k_kit_Opened_r7, List.take_succ_cons, List.take_zero, opB, opH, go_sem, h2, n0, hg]
    refine fin _ _ (by simp [opC, opB, go_sem] <;> rfl) ?_
    first | exact fun _ => rfl | (intro h; simpa using h)
  | false =>
    simp only [opA0, k_kit_Opened_r7, List.take_succ_cons, List.take_zero, opB, opH, go_sem, h2, n0, hg, hc, Pl.a, Pl.c4, iv_len]
    refine fin _ _ (by simp [opC, opB, go_sem] <;> rfl) ?_
    first | exact fun _ => rfl | (intro h; simpa using h)

theorem oq_1 {b : Bool} (h : ∀ b', ((b = true ∨ (0 < i % p.w ∧ bs.getD (i - 1) false = true)) → b' = true) → Areg Try.prog G k none (opA2 ++ R) ⟨opC p.cs.length i (i % p.w) rd 54 b', opH p g bs, []⟩ K) :
    Areg Try.prog G k none (opA1 ++ (opA2 ++ R)) ⟨opC p.cs.length i (i % p.w) rd 43 b, opH p g bs, []⟩ K := by
  refine areg_cut 200 ?_
  have fin : ∀ b' ρ', Wk ρ' (opC p.cs.length i (i % p.w) rd 54 b') → ((b = true ∨ (0 < i % p.w ∧ bs.getD (i - 1) false = true)) → b' = true) → Areg Try.prog G k none (opA2 ++ R) ⟨ρ', opH p g bs, []⟩ K := fun b' ρ' hw hq => areg_wk' (List.cons_ne_nil _ _) hw (h b' hq)
  clear h
  generalize opA2 ++ R = L at *
  cases b with
  | true =>
    simp only [opA1, k_kit_Opened_r7, List.take_succ_cons, List.take_zero, List.drop_succ_cons, List.drop_zero, opC, List.cons_append, List.nil_append, opB, opH, go_sem]
    refine fin _ _ (by simp [opC, opB, go_sem] <;> rfl) ?_
    first | exact fun _ => rfl | exact fun h => h.elim (fun h => by cases h) (fun h => by first | exact h.2 | exact absurd h.1 hc)
  | false =>
    by_cases hc : 0 < i % p.w
    · have h1 : (0 : Int) < ((i % p.w : Nat) : Int) := by omega
      have hle := Nat.mod_le i p.w
      have e1 : IntKind.i64.wrap ((i : Int) - 1) = ((i - 1 : Nat) : Int) := by rw [w64 (by omega)]; omega
      have n0 : ¬ ((i - 1 : Nat) : Int) < 0 := by omega
      have h2 : ((i - 1 : Nat) : Int) < p.cs.length := by omega
      have hg := bv_get (bs := bs) (c := i - 1) (by omega)
      simp only [opA1, k_kit_Opened_r7, List.take_succ_cons, List.take_zero, List.drop_succ_cons, List.drop_zero, opC, List.cons_append, List.nil_append, opB, opH, go_sem, Pl.a, Pl.c4, iv_len, h1, e1, n0, h2, hg]
      refine fin _ _ (by simp [opC, opB, go_sem] <;> rfl) ?_
      first | exact fun _ => rfl | exact fun h => h.elim (fun h => by cases h) (fun h => by first | exact h.2 | exact absurd h.1 hc)
    · have h1 : ¬ (0 : Int) < ((i % p.w : Nat) : Int) := by omega
      simp only [opA1, k_kit_Opened_r7, List.take_succ_cons, List.take_zero, List.drop_succ_cons, List.drop_zero, opC, List.cons_append, List.nil_append, opB, opH, go_sem, Pl.a, Pl.c4, iv_len, h1]
      refine fin _ _ (by simp [opC, opB, go_sem] <;> rfl) ?_
      first | exact fun _ => rfl | exact fun h => h.elim (fun h => by cases h) (fun h => by first | exact h.2 | exact absurd h.1 hc)

theorem oq_2 {b : Bool} (h : ∀ b', ((b = true) → b' = true) → Areg Try.prog G k none (opA3 ++ R) ⟨opC p.cs.length i (i % p.w) rd 68 b', opH p g bs, []⟩ K) :
    Areg Try.prog G k none (opA2 ++ (opA3 ++ R)) ⟨opC p.cs.length i (i % p.w) rd 54 b, opH p g bs, []⟩ K := by
  refine areg_cut 200 ?_
  have fin : ∀ b' ρ', Wk ρ' (opC p.cs.length i (i % p.w) rd 68 b') → ((b = true) → b' = true) → Areg Try.prog G k none (opA3 ++ R) ⟨ρ', opH p g bs, []⟩ K := fun b' ρ' hw hq => areg_wk' (List.cons_ne_nil _ _) hw (h b' hq)
  clear h
  generalize opA3 ++ R = L at *
  have hw0 : 0 < p.w := by
    rcases Nat.eq_zero_or_pos p.w with h0 | h0
    · rw [h0, Nat.zero_mul] at hlen; omega
    · exact h0
  have hwn : p.w ≤ 1000000 := by
    have h1 : p.w * 1 ≤ p.w * p.h := Nat.mul_le_mul_left _ (by
      rcases Nat.eq_zero_or_pos p.h with h0 | h0
      · rw [h0, Nat.mul_zero] at hlen; omega
      · exact h0)
    omega
  have e0 : IntKind.i64.wrap ((p.w : Int) - 1) = ((p.w - 1 : Nat) : Int) := by rw [w64 (by omega)]; omega
  cases b with
  | true =>
    simp only [opA2, k_kit_Opened_r7, List.take_succ_cons, List.take_zero, List.drop_succ_cons, List.drop_zero, opC, List.cons_append, List.nil_append, opB, opH, go_sem]
    refine fin _ _ (by simp [opC, opB, go_sem] <;> rfl) ?_
    first | exact fun _ => rfl | (intro h; cases h)
  | false =>
    by_cases hc : i % p.w + 1 < p.w
    · have h1 : ((i % p.w : Nat) : Int) < ((p.w - 1 : Nat) : Int) := by omega
      have hi1 : i + 1 < p.cs.length := by
        rw [hlen]
        obtain ⟨k1, k2, k3⟩ := cell_lt (w := p.w) (h := p.h) (i := i) (by omega)
        have := cell_in (w := p.w) (h := p.h) hc k2
        omega
      have e1 : IntKind.i64.wrap ((i : Int) + 1) = ((i + 1 : Nat) : Int) := by rw [w64 (by omega)]; rfl
      have n0 : ¬ ((i + 1 : Nat) : Int) < 0 := by omega
      have h2 : ((i + 1 : Nat) : Int) < p.cs.length := by omega
      have hg := bv_get (bs := bs) (c := i + 1) (by omega)
      simp only [opA2, k_kit_Opened_r7, List.take_succ_cons, List.take_zero, List.drop_succ_cons, List.drop_zero, opC, List.cons_append, List.nil_append, opB, opH, go_sem, Pl.a, Pl.c4, iv_len, h1, e0, e1, n0, h2, hg]
      refine fin _ _ (by simp [opC, opB, go_sem] <;> rfl) ?_
      first | exact fun _ => rfl | (intro h; cases h)
    · have h1 : ¬ ((i % p.w : Nat) : Int) < ((p.w - 1 : Nat) : Int) := by omega
      simp only [opA2, k_kit_Opened_r7, List.take_succ_cons, List.take_zero, List.drop_succ_cons, List.drop_zero, opC, List.cons_append, List.nil_append, opB, opH, go_sem, Pl.a, Pl.c4, iv_len, h1, e0]
      refine fin _ _ (by simp [opC, opB, go_sem] <;> rfl) ?_
      first | exact fun _ => rfl | (intro h; cases h)

theorem oq_3 {b : Bool} (h : ∀ b', ((b = true ∨ (p.w ≤ i ∧ bs.getD (i - p.w) false = true)) → b' = true) → Areg Try.prog G k none (opA4 ++ R) ⟨opC p.cs.length i (i % p.w) rd 83 b', opH p g bs, []⟩ K) :
    Areg Try.prog G k none (opA3 ++ (opA4 ++ R)) ⟨opC p.cs.length i (i % p.w) rd 68 b, opH p g bs, []⟩ K := by
  refine areg_cut 200 ?_
  have fin : ∀ b' ρ', Wk ρ' (opC p.cs.length i (i % p.w) rd 83 b') → ((b = true ∨ (p.w ≤ i ∧ bs.getD (i - p.w) false = true)) → b' = true) → Areg Try.prog G k none (opA4 ++ R) ⟨ρ', opH p g bs, []⟩ K := fun b' ρ' hw hq => areg_wk' (List.cons_ne_nil _ _) hw (h b' hq)
  clear h
  generalize opA4 ++ R = L at *
  cases b with
  | true =>
    simp only [opA3, k_kit_Opened_r7, List.take_succ_cons, List.take_zero, List.drop_succ_cons, List.drop_zero, opC, List.cons_append, List.nil_append, opB, opH, go_sem]
    refine fin _ _ (by simp [opC, opB, go_sem] <;> rfl) ?_
    first | exact fun _ => rfl | exact fun h => h.elim (fun h => by cases h) (fun h => by first | exact h.2 | exact absurd h.1 hc)
  | false =>
    by_cases hc : p.w ≤ i
    · have h1 : (p.w : Int) ≤ i := by omega
      have e1 : IntKind.i64.wrap ((i : Int) - p.w) = ((i - p.w : Nat) : Int) := by rw [w64 (by omega)]; omega
      have n0 : ¬ ((i - p.w : Nat) : Int) < 0 := by omega
      have h2 : ((i - p.w : Nat) : Int) < p.cs.length := by omega
      have hg := bv_get (bs := bs) (c := i - p.w) (by omega)
      simp only [opA3, k_kit_Opened_r7, List.take_succ_cons, List.take_zero, List.drop_succ_cons, List.drop_zero, opC, List.cons_append, List.nil_append, opB, opH, go_sem, Pl.a, Pl.c4, iv_len, h1, e1, n0, h2, hg]
      refine fin _ _ (by simp [opC, opB, go_sem] <;> rfl) ?_
      first | exact fun _ => rfl | exact fun h => h.elim (fun h => by cases h) (fun h => by first | exact h.2 | exact absurd h.1 hc)
    · have h1 : ¬ (p.w : Int) ≤ i := by omega
      simp only [opA3, k_kit_Opened_r7, List.take_succ_cons, List.take_zero, List.drop_succ_cons, List.drop_zero, opC, List.cons_append, List.nil_append, opB, opH, go_sem, Pl.a, Pl.c4, iv_len, h1]
      refine fin _ _ (by simp [opC, opB, go_sem] <;> rfl) ?_
      first | exact fun _ => rfl | exact fun h => h.elim (fun h => by cases h) (fun h => by first | exact h.2 | exact absurd h.1 hc)

theorem oq_4 {b : Bool} (h : ∀ b', ((b = true) → b' = true) → Areg Try.prog G k none (opA5 ++ R) ⟨opC p.cs.length i (i % p.w) rd 102 b', opH p g bs, []⟩ K) :
    Areg Try.prog G k none (opA4 ++ (opA5 ++ R)) ⟨opC p.cs.length i (i % p.w) rd 83 b, opH p g bs, []⟩ K := by
  refine areg_cut 200 ?_
  have fin : ∀ b' ρ', Wk ρ' (opC p.cs.length i (i % p.w) rd 102 b') → ((b = true) → b' = true) → Areg Try.prog G k none (opA5 ++ R) ⟨ρ', opH p g bs, []⟩ K := fun b' ρ' hw hq => areg_wk' (List.cons_ne_nil _ _) hw (h b' hq)
  clear h
  generalize opA5 ++ R = L at *
  have hwn : p.w ≤ 1000000 := by
    have h1 : p.w * 1 ≤ p.w * p.h := Nat.mul_le_mul_left _ (by
      rcases Nat.eq_zero_or_pos p.h with h0 | h0
      · rw [h0, Nat.mul_zero] at hlen; omega
      · exact h0)
    omega
  have e1 : IntKind.i64.wrap ((i : Int) + p.w) = ((i + p.w : Nat) : Int) := by rw [w64 (by omega)]; omega
  cases b with
  | true =>
    simp only [opA4, k_kit_Opened_r7, List.take_succ_cons, List.take_zero, List.drop_succ_cons, List.drop_zero, opC, List.cons_append, List.nil_append, opB, opH, go_sem]
    refine fin _ _ (by simp [opC, opB, go_sem] <;> rfl) ?_
    first | exact fun _ => rfl | (intro h; cases h)
  | false =>
    by_cases hc : i + p.w < p.cs.length
    · have h1 : ((i + p.w : Nat) : Int) < p.cs.length := by omega
      have n0 : ¬ ((i + p.w : Nat) : Int) < 0 := by omega
      have hg := bv_get (bs := bs) (c := i + p.w) (by omega)
      simp only [opA4, k_kit_Opened_r7, List.take_succ_cons, List.take_zero, List.drop_succ_cons, List.drop_zero, opC, List.cons_append, List.nil_append, opB, opH, go_sem, Pl.a, Pl.c4, iv_len, h1, e1, n0, hg]
      refine fin _ _ (by simp [opC, opB, go_sem] <;> rfl) ?_
      first | exact fun _ => rfl | (intro h; cases h)
    · have h1 : ¬ ((i + p.w : Nat) : Int) < p.cs.length := by omega
      simp only [opA4, k_kit_Opened_r7, List.take_succ_cons, List.take_zero, List.drop_succ_cons, List.drop_zero, opC, List.cons_append, List.nil_append, opB, opH, go_sem, Pl.a, Pl.c4, iv_len, h1, e1]
      refine fin _ _ (by simp [opC, opB, go_sem] <;> rfl) ?_
      first | exact fun _ => rfl | (intro h; cases h)


theorem oq_all (hx : bs.getD i false = true ∨ 0 < gt p.cs i ∨ (0 < i % p.w ∧ bs.getD (i - 1) false = true) ∨ (p.w ≤ i ∧ bs.getD (i - p.w) false = true)) (h : Areg Try.prog G k none opA5 ⟨opC p.cs.length i (i % p.w) rd 102 true, opH p g bs, []⟩ K) : Areg Try.prog G k none k_kit_Opened_r7 ⟨tsets 121 (opB p.cs.length i (i % p.w) rd), opH p g bs, []⟩ K := by
  rw [opA_eq]
  refine oq_0 hlen hb hi fun b0 q0 => ?_
  refine oq_1 hlen hn hb hi fun b1 q1 => ?_
  refine oq_2 hlen hn hb hi fun b2 q2 => ?_
  refine oq_3 hlen hn hb hi fun b3 q3 => ?_
  have := oq_4 (R := []) hlen hn hb hi (K := K) (G := G) (k := k) (g := g) (rd := rd) (b := b3) fun b4 q4 => by
    rw [List.append_nil]
    have hb4 : b4 = true := by
      rcases hx with h | h | h | h
      · exact q4 (q3 (.inl (q2 (q1 (.inl (q0 (.inl h)))))))
      · exact q4 (q3 (.inl (q2 (q1 (.inl (q0 (.inr h)))))))
      · exact q4 (q3 (.inl (q2 (q1 (.inr h)))))
      · exact q4 (q3 (.inr h))
    rw [hb4]; exact h
  rwa [List.append_nil] at this
end

def hdT (n i : Nat) : List Bool := List.replicate i true ++ List.replicate (n - i) false
theorem hdT_len {n i : Nat} (h : i ≤ n) : (hdT n i).length = n := by simp [hdT]; omega
theorem hdT_get {n i j : Nat} (h : i ≤ n) (hj : j < i) : (hdT n i).getD j false = true := by
  unfold hdT
  rw [List.getD_eq_getElem?_getD, List.getElem?_append_left (by simpa using hj), List.getElem?_replicate, if_pos hj]; rfl
theorem hdT_set {n i : Nat} (h : i < n) : (hdT n i).set i true = hdT n (i + 1) := by
  unfold hdT
  rw [List.set_append_right _ _ (by simp), List.length_replicate, Nat.sub_self, show n - i = n - (i + 1) + 1 by omega, List.replicate_succ, List.set_cons_zero, List.replicate_succ', List.append_assoc]
  rfl
theorem hdT_end (n : Nat) : hdT n n = List.replicate n true := by simp [hdT]
theorem hdT_zero (n : Nat) : hdT n 0 = List.replicate n false := by simp [hdT]

set_option maxRecDepth 8000 in
set_option maxHeartbeats 4000000 in
theorem Opened_id {p : Pl} (hlen : p.cs.length = p.w * p.h) (hn : p.cs.length ≤ 1000000) (hw : 1 ≤ p.w) (h0 : 0 < p.cs.length) (hf : 0 < gt p.cs 0) (g : Bool) : Ans Try.prog n_kit_Opened [p.a (.sl 0 0 p.cs.length)] [some (.cells g 1 (iv p.cs))] (p.a (.sl 0 0 p.cs.length)) [some (.cells g 1 (iv p.cs))] := by
  refine Ans.keep (run_fn e_kit_Opened fun G => ?_) (by simp) (by simp [go_sem, Pl.a, Pl.c4]) ⟨iv_row _ _ _, trivial⟩
  have q1 : (0 : Int) ≤ p.cs.length := by omega
  have q2 : (p.cs.length : Int) ≤ 2 ^ 44 := by omega
  have q3 : (p.cs.length : Int) * 1 ≤ 2 ^ 44 := by omega
  simp only [go_sem, Pl.a, Pl.c4, iv_len, q1, q2, q3, Int.toNat_natCast]
  refine ⟨Int.le_refl _, ?_⟩
  have hrep : List.replicate p.cs.length (AVal.bool false) = bv (List.replicate p.cs.length false) := by simp [bv]
  rw [hrep]
  refine loop_ind k_kit_Opened_r11.eq_1 (fun a : Nat × List Bool => a.1 ≤ p.cs.length ∧ ((a.1 = 0 ∧ a.2 = List.replicate p.cs.length false) ∨ a.2 = List.replicate p.cs.length true)) (fun a => p.cs.length - a.1)
    (fun a => (tsets 121 [(1, .ptr 1 0 0 1), (2, .ptr 2 0 0 1), (3, .sl 3 0 p.cs.length), (4, .int .i64 a.1)], opH p g a.2)) (0, List.replicate p.cs.length false) ⟨Nat.zero_le _, .inl ⟨rfl, rfl⟩⟩ (by simp [go_sem]) rfl ?_
  rintro ⟨r, bs⟩ ⟨hr, hbs⟩ ih
  dsimp only at hr hbs ih ⊢
  by_cases h1 : r < p.cs.length
  · have h2 : (r : Int) < p.cs.length := by omega
    have h3 := idx_next h1 (by omega)
    have hst : ∀ i, i ≤ p.cs.length → ∀ cs : List Bool, (cs = hdT p.cs.length i ∨ cs = List.replicate p.cs.length true) → cs.length = p.cs.length := fun i hi cs h => by
      rcases h with h | h
      · rw [h, hdT_len hi]
      · rw [h, List.length_replicate]
    simp only [opH, go_sem, Pl.a, Pl.c4, iv_len, h2]
    refine loop_indN 25 k_kit_Opened_r9.eq_1 (fun a : Nat × List Bool => a.1 ≤ p.cs.length ∧ (a.2 = hdT p.cs.length a.1 ∨ a.2 = List.replicate p.cs.length true)) (fun a => p.cs.length - a.1)
      (fun a => (tsets 121 [(1, .ptr 1 0 0 1), (2, .ptr 2 0 0 1), (3, .sl 3 0 p.cs.length), (4, .int .i64 r), (5, .int .i64 a.1)], opH p g a.2)) (0, bs) ⟨Nat.zero_le _, by
        rcases hbs with h | h
        · exact .inl (by rw [h.2]; exact (hdT_zero _).symm)
        · exact .inr h⟩ (by simp [go_sem]) rfl ?_
    clear hbs
    rintro ⟨i, bs⟩ ⟨hi, hbs⟩ ih2
    dsimp only at hi hbs ih2 ⊢
    have hbl := hst i hi bs hbs
    by_cases h4 : i < p.cs.length
    · have h5 : (i : Int) < p.cs.length := by omega
      have h6 := idx_next h4 (by omega)
      have hwz : ((p.w : Int) = 0) = False := eq_false (by omega)
      have e1 := nat_rem i p.w
      have ihn := ih2 (i + 1, bs.set i true) (by dsimp only; omega) ⟨h4, by
        rcases hbs with h | h
        · exact .inl (by rw [h]; exact hdT_set h4)
        · refine .inr ?_
          rw [h]
          refine List.ext_getElem (by simp) fun j a1 a2 => ?_
          rw [List.getElem_set]
          split
          · simp
          · simp⟩
      clear ih2
      have hgb := bv_get (bs := bs) (c := i) (by omega)
      have hbset : (bv bs).set i (.bool true) = bv (bs.set i true) := by simp [bv, List.map_set]
      have n0 : ¬ (i : Int) < 0 := by omega
      have hreason : bs.getD i false = true ∨ 0 < gt p.cs i ∨ (0 < i % p.w ∧ bs.getD (i - 1) false = true) ∨ (p.w ≤ i ∧ bs.getD (i - p.w) false = true) := by
        rcases hbs with h | h
        · by_cases hi0 : i = 0
          · right; left; rw [hi0]; exact hf
          · by_cases hx : 0 < i % p.w
            · right; right; left; exact ⟨hx, by rw [h]; exact hdT_get hi (by omega)⟩
            · right; right; right
              have hle : p.w ≤ i := Nat.le_of_dvd (by omega) (Nat.dvd_of_mod_eq_zero (by omega))
              exact ⟨hle, by rw [h]; exact hdT_get hi (by omega)⟩
        · left
          rw [h, List.getD_eq_getElem?_getD, List.getElem?_replicate, if_pos h4]; rfl
      simp only [opH, go_sem, Pl.a, Pl.c4, iv_len, h5, hwz, e1]
      refine run0_ops ?_
      show Areg Try.prog G 1 none k_kit_Opened_r7 ⟨_, opH p g bs, []⟩ _
      refine areg_wk' (List.cons_ne_nil _ _) (ρ' := tsets 121 (opB p.cs.length i (i % p.w) r)) (by simp [go_sem, opB]) ?_
      refine oq_all hlen hn hbl h4 hreason ?_
      refine areg_last 3000 ?_
      simp only [opA5, k_kit_Opened_r7, List.drop_succ_cons, List.drop_zero, opC, opB, opH, List.cons_append, List.nil_append, go_sem, h5, n0, hgb, hbset, bv_len, h6]
      exact ihn _ (by simp [go_sem])
    · have h5 : ¬ (i : Int) < p.cs.length := by omega
      have hie : i = p.cs.length := by omega
      simp only [opH, go_sem, Pl.a, Pl.c4, iv_len, h5, h3]
      exact ih (r + 1, bs) (by dsimp only; omega) ⟨h1, .inr (by
        rcases hbs with h | h
        · rw [h, hie, hdT_end]
        · exact h)⟩ _ (by simp [go_sem])
  · have h2 : ¬ (r : Int) < p.cs.length := by omega
    have hall : bs = List.replicate p.cs.length true := by
      rcases hbs with h | h
      · omega
      · exact h
    subst hall
    simp only [opH, go_sem, Pl.a, Pl.c4, iv_len, h2]
    clear ih
    refine loop_ind k_kit_Opened_r17.eq_1 (fun i : Nat => i ≤ p.cs.length) (fun i => p.cs.length - i)
      (fun i => (tsets 121 [(1, .ptr 1 0 0 1), (2, .ptr 2 0 0 1), (3, .sl 3 0 p.cs.length), (7, .int .i64 i)], [some (.cells g 1 (iv p.cs)), some (.cells false 4 [p.a (.sl 0 0 p.cs.length)]), some (.cells false 4 [.agg [.int .i64 0, .int .i64 0, .bool false, .nilsl]]), some (.cells false 1 (bv (List.replicate p.cs.length true)))])) 0 (Nat.zero_le _) (by simp [go_sem]) rfl ?_
    intro i hi ih
    dsimp only at hi ih ⊢
    by_cases h4 : i < p.cs.length
    · have h5 : (i : Int) < p.cs.length := by omega
      have h6 := idx_next h4 (by omega)
      have n0 : ¬ (i : Int) < 0 := by omega
      have hgb := bv_get (bs := List.replicate p.cs.length true) (c := i) (by simpa using h4)
      have hgt : (List.replicate p.cs.length true).getD i false = true := by rw [List.getD_eq_getElem?_getD, List.getElem?_replicate, if_pos h4]; rfl
      rw [hgt] at hgb
      have hbl : (bv (List.replicate p.cs.length true)).length = p.cs.length := by simp [bv]
      simp only [go_sem, Pl.a, Pl.c4, iv_len, h5, n0, hgb, hbl, h6]
      exact ih (i + 1) (by omega) h4 _ (by simp [go_sem])
    · have h5 : ¬ (i : Int) < p.cs.length := by omega
      simp only [go_sem, Pl.a, Pl.c4, iv_len, h5]
      refine ⟨fun i => i, fun i hi => rfl, fun i k hi hk h => h, by simp [Pl.a, Pl.c4, ren, rens], fun i x hx => ?_⟩
      match i, hx with
      | 0, hx => simp at hx; subst hx; rw [Row.ren_same (iv_row _ _ _)]; rfl
end Go.Proofs

namespace Go.Proofs
open Go Go.Sx
attribute [local irreducible] Run

def plNext (q : List Int × Int) : List Int × Int := if (upto q.2 3 == 0) = true then (q.1 ++ [btw (dstep q.2) 1 3], dstep (dstep q.2)) else (q.1 ++ [0], dstep q.2)
def plRun (d : Int) : Nat → List Int × Int
  | 0 => ([], d)
  | i + 1 => plNext (plRun d i)
theorem plRun_len (d : Int) : ∀ i, (plRun d i).1.length = i
  | 0 => rfl
  | i + 1 => by
    have := plRun_len d i
    rw [plRun, plNext]
    split <;> simp [this]
theorem plRun_cel (d : Int) : ∀ i, Cel (plRun d i).1
  | 0 => fun c hc => by simp [plRun] at hc
  | i + 1 => by
    have := plRun_cel d i
    rw [plRun, plNext]
    have b1 := btw_in (w := dstep (plRun d i).2) (show (1 : Int) ≤ 3 by omega)
    split
    · exact this.snoc (by omega)
    · exact this.snoc (by omega)
def plD (w0 a b : Int) : Int × Pl :=
  ((plRun (dstep (dstep (dstep w0))) ((btw w0 1 a).toNat * (btw (dstep w0) 1 b).toNat)).2,
    ⟨(btw w0 1 a).toNat, (btw (dstep w0) 1 b).toNat, upto (dstep (dstep w0)) 2 == 0, (plRun (dstep (dstep (dstep w0))) ((btw w0 1 a).toNat * (btw (dstep w0) 1 b).toNat)).1.set 0 (if gt (plRun (dstep (dstep (dstep w0))) ((btw w0 1 a).toNat * (btw (dstep w0) 1 b).toNat)).1 0 > 1 then gt (plRun (dstep (dstep (dstep w0))) ((btw w0 1 a).toNat * (btw (dstep w0) 1 b).toNat)).1 0 else 1)⟩)
theorem plD_made (w0 a b : Int) (ha : 1 ≤ a ∧ a ≤ 16) (hb : 1 ≤ b ∧ b ≤ 16) : PlMade a b (plD w0 a b).2 := by
  have b1 := btw_in (w := w0) (show (1 : Int) ≤ a by omega)
  have b2 := btw_in (w := dstep w0) (show (1 : Int) ≤ b by omega)
  unfold plD
  generalize btw w0 1 a = wi at *
  generalize btw (dstep w0) 1 b = hi at *
  generalize dstep (dstep (dstep w0)) = d0
  have hpos : 0 < wi.toNat * hi.toNat := Nat.mul_pos (by omega) (by omega)
  have hl := plRun_len d0 (wi.toNat * hi.toNat)
  have hc := plRun_cel d0 (wi.toNat * hi.toNat)
  generalize (plRun d0 (wi.toNat * hi.toNat)).1 = l at *
  have hc0 := hc _ (gt_mem (l := l) (i := 0) (by omega))
  have hm : 1 ≤ (if gt l 0 > 1 then gt l 0 else 1) ∧ (if gt l 0 > 1 then gt l 0 else 1) ≤ 3 := by split <;> omega
  generalize (if gt l 0 > 1 then gt l 0 else 1) = m at *
  refine made_of (l := l.set 0 m) (by omega) (by omega) (by rw [List.length_set]; exact hl) (fun c hcm => ?_) ?_ ⟨rfl, fun i _ => .inl rfl⟩
  · rcases List.mem_or_eq_of_mem_set hcm with h | h
    · exact hc c h
    · subst h; omega
  · rw [gt_set _ _ _ _ (by omega), if_pos rfl]; exact hm.1

set_option maxHeartbeats 4000000 in
theorem PlanOf_det (w0 : Int) (a b : Int) (ha : 1 ≤ a ∧ a ≤ 16) (hb : 1 ≤ b ∧ b ≤ 16) : Ans Try.prog n_kit_PlanOf [.ptr 0 0 0 1, .int .i64 a, .int .i64 b] [some (Dr w0)] ((plD w0 a b).2.a (.sl 1 0 (plD w0 a b).2.cs.length))
    [some (Dr (plD w0 a b).1), some (.cells true 1 (iv (plD w0 a b).2.cs))] := by
  refine Ans.keep (run_fn e_kit_PlanOf fun G => ?_) (by simp) (by simp [go_sem, Pl.a, Pl.c4]) ⟨by simp only [go_sem], iv_row _ _ _, trivial⟩
  generalize hPD : plD w0 a b = PD
  unfold plD at hPD
  have b1 := btw_in (w := w0) (show (1 : Int) ≤ a by omega)
  have b2 := btw_in (w := dstep w0) (show (1 : Int) ≤ b by omega)
  have t1 := between_ok w0 1 a (by omega) (by omega) (by omega)
  have t2 := between_ok (dstep w0) 1 b (by omega) (by omega) (by omega)
  have t3 := One_ok (dstep (dstep w0)) 2 (by omega)
  generalize btw w0 1 a = wi at *
  generalize btw (dstep w0) 1 b = hi at *
  generalize (upto (dstep (dstep w0)) 2 == 0) = rd at *
  obtain ⟨w, rfl⟩ : ∃ w : Nat, wi = w := ⟨wi.toNat, by omega⟩
  obtain ⟨h, rfl⟩ : ∃ h : Nat, hi = h := ⟨hi.toNat, by omega⟩
  have hN : w * h ≤ 256 := by have := Nat.mul_le_mul (show w ≤ 16 by omega) (show h ≤ 16 by omega); omega
  have hN1 : 1 ≤ w * h := Nat.mul_pos (by omega) (by omega)
  have em : IntKind.i64.wrap ((w : Int) * h) = ((w * h : Nat) : Int) := by rw [w64 (by push_cast at *; omega)]; push_cast; rfl
  simp only [go_sem]
  refine cD t1 ?_
  simp only [go_sem]
  refine cD t2 ?_
  simp only [go_sem]
  refine cD t3 ?_
  simp only [go_sem]
  generalize dstep (dstep (dstep w0)) = d0 at *
  rw [Int.toNat_natCast, Int.toNat_natCast] at hPD
  refine loop_ind k_kit_PlanOf_r9.eq_1 (fun q : Nat × Heap => q.1 ≤ w * h ∧ ((q.1 = 0 ∧ q.2 = plA w h rd d0) ∨ (q.1 ≠ 0 ∧ ∃ g X, q.2 = plB w h rd (plRun d0 q.1).2 (plRun d0 q.1).1 g ++ X))) (fun q => w * h - q.1)
    (fun q => (tsets 48 [(0, .ptr 0 0 0 1), (6, .ptr 1 0 0 1), (7, .ptr 2 0 0 1), (8, .int .i64 q.1)], q.2)) (0, plA w h rd d0) ⟨Nat.zero_le _, .inl ⟨rfl, rfl⟩⟩ (by simp [go_sem]) rfl ?_
  rintro ⟨i, H⟩ ⟨hi, hH⟩ ih
  dsimp only at hi hH ih ⊢
  by_cases h1 : i < w * h
  · have h2 : (i : Int) < ((w * h : Nat) : Int) := by omega
    have h3 := idx_next h1 (by omega)
    have hl := plRun_len d0 i
    have hs : plRun d0 (i + 1) = plNext (plRun d0 i) := rfl
    have ihn := fun g X => ih (i + 1, plB w h rd (plRun d0 (i + 1)).2 (plRun d0 (i + 1)).1 g ++ X) (by dsimp only; omega) ⟨h1, .inr ⟨by simp, g, X, rfl⟩⟩
    clear ih
    dsimp only at ihn
    rw [hs] at ihn
    unfold plNext at ihn
    clear hs
    have hd0 : i = 0 → (plRun d0 i).2 = d0 := fun h => by rw [h]; rfl
    generalize (plRun d0 i).1 = l at *
    generalize (plRun d0 i).2 = d at *
    have p1 := One_ok d 3 (by omega)
    have p2 := between_ok (dstep d) 1 3 (by omega) (by omega) (by omega)
    generalize btw (dstep d) 1 3 = c at *
    rcases hH with ⟨rfl, rfl⟩ | ⟨hne, g, X, rfl⟩
    · obtain rfl : l = [] := List.length_eq_zero_iff.1 hl
      obtain rfl := hd0 rfl
      have h2 : (0 : Int) < ((w * h : Nat) : Int) := by omega
      have h3 : IntKind.i64.wrap 1 = 1 := by decide
      simp only [plA, go_sem, em, h2]
      refine cD p1 ?_
      cases hcase : (upto d 3 == 0) with
      | true =>
        rw [if_pos hcase] at ihn
        simp only [plB, List.nil_append, List.length_cons, List.length_nil, Nat.zero_add, List.cons_append] at ihn
        simp only [go_sem]
        refine cD p2 ?_
        simp only [go_sem, h3]
        exact ⟨by decide, ihn _ [] _ (by simp [go_sem])⟩
      | false =>
        rw [if_neg (by rw [hcase]; decide)] at ihn
        simp only [plB, List.nil_append, List.length_cons, List.length_nil, Nat.zero_add, List.cons_append] at ihn
        simp only [go_sem, h3]
        exact ⟨by decide, ihn _ [] _ (by simp [go_sem])⟩
    · simp only [plB, List.cons_append, List.nil_append, go_sem, em, h2]
      refine cD p1 ?_
      cases hcase : (upto d 3 == 0) with
      | true =>
        rw [if_pos hcase] at ihn
        simp only [plB, List.length_append, List.length_cons, List.length_nil, Nat.zero_add, List.cons_append, List.nil_append] at ihn
        simp only [go_sem]
        refine cD p2 ?_
        simp only [go_sem, h3, iv_len, iv_app]
        exact ⟨by omega, ihn _ _ _ (by simp [go_sem])⟩
      | false =>
        rw [if_neg (by rw [hcase]; decide)] at ihn
        simp only [plB, List.length_append, List.length_cons, List.length_nil, Nat.zero_add, List.cons_append, List.nil_append] at ihn
        simp only [go_sem, h3, iv_len, iv_app]
        exact ⟨by omega, ihn _ _ _ (by simp [go_sem])⟩
  · have h2 : ¬ (i : Int) < ((w * h : Nat) : Int) := by omega
    have hie : i = w * h := by omega
    subst hie
    obtain ⟨g, X, rfl⟩ : ∃ g X, H = plB w h rd (plRun d0 (w * h)).2 (plRun d0 (w * h)).1 g ++ X := by
      rcases hH with ⟨h, _⟩ | ⟨_, h⟩
      · omega
      · exact h
    have hle := plRun_len d0 (w * h)
    clear ih
    generalize (plRun d0 (w * h)).1 = l at *
    generalize (plRun d0 (w * h)).2 = d at *
    have hg0 := iv_get (l := l) (i := 0) (by omega)
    have hl0 : (0 : Int) < l.length := by omega
    simp only [plB, List.cons_append, List.nil_append, go_sem, em, h2, iv_len, hg0, hl0]
    have hl0' : 0 < l.length := by omega
    have hmx : (1 : Int) ≤ (if gt l 0 > 1 then gt l 0 else 1) := by split <;> omega
    rw [iv_set]
    generalize (if gt l 0 > 1 then gt l 0 else 1) = m at *
    have hf1 : 0 < gt (l.set 0 m) 0 := by rw [gt_set _ _ _ _ hl0', if_pos rfl]; omega
    have hl1 : (l.set 0 m).length = w * h := by rw [List.length_set]; exact hle
    have hll : l.length = (l.set 0 m).length := by simp
    rw [hll]
    generalize l.set 0 m = l1 at *
    subst hPD
    have hO := Opened_id (p := ⟨w, h, rd, l1⟩) hl1 (by show l1.length ≤ _; omega) (by show 1 ≤ w; omega) (by show 0 < l1.length; omega) hf1 true
    refine cE1 (hO.toE (Φ := fun _ : Unit => True) (r := fun _ => (⟨w, h, rd, l1⟩ : Pl).a (.sl 0 0 l1.length)) (L' := fun _ => [some (.cells true 1 (iv l1))]) (a := ()) trivial) (j0 := 4) rfl (by simp [go_sem, Pl.a, Pl.c4]) rfl (iv_row _ _ _) (fun a ha => ⟨by simp [go_sem, Pl.a, Pl.c4], iv_row _ _ _⟩) (by simp) (by simp) fun _ _ => ?_
    simp only [go_sem, Pl.a, Pl.c4, ren, rens]
    refine kept_new (A := [some (Dr d)]) 1 4 rfl rfl (by omega) ?_ (fun i x hx => ?_) (iv_row true l1 _) rfl
    · simp only [Pl.a, Pl.c4, ren, rens]; rfl
    · match i, hx with
      | 0, hx => simp at hx; subst hx; exact ⟨dr_bel _ _, rfl⟩
end Go.Proofs

namespace Go.Proofs
open Go Go.Sx
attribute [local irreducible] Run

def tbNext (w h : Nat) (ga wi : Int) (i : Nat) (q : List Int × Int) : List Int × Int :=
  if (((i % w : Nat) : Int) == 0) = true then (q.1 ++ [1], q.2)
  else if (((i % w : Nat) : Int) == (w : Int) - 1) = true then (q.1 ++ [3], q.2)
  else if (((i % w : Nat) : Int) == ga) = true then
    if (((i / w : Nat) : Int) == wi) = true then (q.1 ++ [if (1 : Int) < h then 2 else 0], q.2)
    else (q.1 ++ [if (upto q.2 3 == 0) = true ∧ (1 : Int) < h then 2 else 0], dstep q.2)
  else (q.1 ++ [0], q.2)
def tbRun (w h : Nat) (ga wi d : Int) : Nat → List Int × Int
  | 0 => ([], d)
  | i + 1 => tbNext w h ga wi i (tbRun w h ga wi d i)
theorem tbRun_len (w h : Nat) (ga wi d : Int) : ∀ i, (tbRun w h ga wi d i).1.length = i
  | 0 => rfl
  | i + 1 => by
    have := tbRun_len w h ga wi d i
    rw [tbRun, tbNext]
    split
    · simp [this]
    · split
      · simp [this]
      · split
        · split <;> simp [this]
        · simp [this]
theorem tbRun_cel (w h : Nat) (ga wi d : Int) : ∀ i, Cel (tbRun w h ga wi d i).1
  | 0 => fun c hc => by simp [tbRun] at hc
  | i + 1 => by
    have := tbRun_cel w h ga wi d i
    rw [tbRun, tbNext]
    split
    · exact this.snoc (by omega)
    · split
      · exact this.snoc (by omega)
      · split
        · split
          · exact this.snoc (by split <;> omega)
          · exact this.snoc (by split <;> omega)
        · exact this.snoc (by omega)
theorem tbRun_first (w h : Nat) (ga wi d : Int) : ∀ i, 1 ≤ i → gt (tbRun w h ga wi d i).1 0 = 1
  | 0, hi => by omega
  | 1, _ => by
    rw [tbRun, tbNext, Nat.zero_mod, if_pos (by decide)]; rfl
  | i + 2, _ => by
    have ih := tbRun_first w h ga wi d (i + 1) (by omega)
    have hl := tbRun_len w h ga wi d (i + 1)
    have key : ∀ x : List Int, gt ((tbRun w h ga wi d (i + 1)).1 ++ x) 0 = 1 := fun x => by
      unfold gt at ih ⊢
      rw [List.getD_eq_getElem?_getD, List.getElem?_append_left (by omega), ← List.getD_eq_getElem?_getD]; exact ih
    rw [tbRun, tbNext]
    split
    · exact key _
    · split
      · exact key _
      · split
        · split
          · exact key _
          · exact key _
        · exact key _
def tuD (w0 a b : Int) : Int × Pl :=
  ((tbRun (btw w0 4 a).toNat (btw (dstep w0) 1 b).toNat (btw (dstep (dstep (dstep w0))) 1 (((btw w0 4 a).toNat : Int) - 2)) (upto (dstep (dstep (dstep (dstep w0)))) ((btw (dstep w0) 1 b).toNat : Int)) (dstep (dstep (dstep (dstep (dstep w0))))) ((btw w0 4 a).toNat * (btw (dstep w0) 1 b).toNat)).2,
    ⟨(btw w0 4 a).toNat, (btw (dstep w0) 1 b).toNat, upto (dstep (dstep w0)) 2 == 0, (tbRun (btw w0 4 a).toNat (btw (dstep w0) 1 b).toNat (btw (dstep (dstep (dstep w0))) 1 (((btw w0 4 a).toNat : Int) - 2)) (upto (dstep (dstep (dstep (dstep w0)))) ((btw (dstep w0) 1 b).toNat : Int)) (dstep (dstep (dstep (dstep (dstep w0))))) ((btw w0 4 a).toNat * (btw (dstep w0) 1 b).toNat)).1⟩)
theorem tuD_ok (w0 a b : Int) (ha : 4 ≤ a ∧ a ≤ 16) (hb : 1 ≤ b ∧ b ≤ 16) : PlOK (tuD w0 a b).2 := by
  have b1 := btw_in (w := w0) (show (4 : Int) ≤ a by omega)
  have b2 := btw_in (w := dstep w0) (show (1 : Int) ≤ b by omega)
  unfold tuD
  generalize btw w0 4 a = wi at *
  generalize btw (dstep w0) 1 b = hi at *
  generalize (btw (dstep (dstep (dstep w0))) 1 ((wi.toNat : Int) - 2)) = ga
  generalize upto (dstep (dstep (dstep (dstep w0)))) (hi.toNat : Int) = wr
  generalize dstep (dstep (dstep (dstep (dstep w0)))) = d0
  have hpos : 0 < wi.toNat * hi.toNat := Nat.mul_pos (by omega) (by omega)
  have hl := tbRun_len wi.toNat hi.toNat ga wr d0 (wi.toNat * hi.toNat)
  have hc := tbRun_cel wi.toNat hi.toNat ga wr d0 (wi.toNat * hi.toNat)
  have hf := tbRun_first wi.toNat hi.toNat ga wr d0 (wi.toNat * hi.toNat) hpos
  generalize (tbRun wi.toNat hi.toNat ga wr d0 (wi.toNat * hi.toNat)).1 = l at *
  exact ⟨⟨by show 1 ≤ wi.toNat; omega, by show wi.toNat ≤ 16; omega⟩, ⟨by show 1 ≤ hi.toNat; omega, by show hi.toNat ≤ 16; omega⟩, hl, fun c hcm => by have := hc c hcm; omega, 0, hpos, by show gt l 0 ≠ 0; rw [hf]; omega⟩

set_option maxHeartbeats 8000000 in
set_option maxRecDepth 4000 in
theorem Tube_det (w0 : Int) (a b : Int) (ha : 4 ≤ a ∧ a ≤ 16) (hb : 1 ≤ b ∧ b ≤ 16) : Ans Try.prog n_kit_Tube [.ptr 0 0 0 1, .int .i64 a, .int .i64 b] [some (Dr w0)] ((tuD w0 a b).2.a (.sl 1 0 (tuD w0 a b).2.cs.length))
    [some (Dr (tuD w0 a b).1), some (.cells true 1 (iv (tuD w0 a b).2.cs))] := by
  refine Ans.keep (run_fn e_kit_Tube fun G => ?_) (by simp) (by simp [go_sem, Pl.a, Pl.c4]) ⟨by simp only [go_sem], iv_row _ _ _, trivial⟩
  generalize hPD : tuD w0 a b = PD
  unfold tuD at hPD
  have b1 := btw_in (w := w0) (show (4 : Int) ≤ a by omega)
  have b2 := btw_in (w := dstep w0) (show (1 : Int) ≤ b by omega)
  have t1 := between_ok w0 4 a (by omega) (by omega) (by omega)
  have t2 := between_ok (dstep w0) 1 b (by omega) (by omega) (by omega)
  have t3 := One_ok (dstep (dstep w0)) 2 (by omega)
  generalize btw w0 4 a = wi at *
  generalize btw (dstep w0) 1 b = hi at *
  generalize (upto (dstep (dstep w0)) 2 == 0) = rd at *
  obtain ⟨w, rfl⟩ : ∃ w : Nat, wi = w := ⟨wi.toNat, by omega⟩
  obtain ⟨h, rfl⟩ : ∃ h : Nat, hi = h := ⟨hi.toNat, by omega⟩
  have t4 := between_ok (dstep (dstep (dstep w0))) 1 ((w : Int) - 2) (by omega) (by omega) (by omega)
  have t5 := upto_ok (dstep (dstep (dstep (dstep w0)))) h (by omega)
  rw [Int.toNat_natCast, Int.toNat_natCast] at hPD
  generalize btw (dstep (dstep (dstep w0))) 1 ((w : Int) - 2) = ga at *
  generalize upto (dstep (dstep (dstep (dstep w0)))) h = wi at *
  have hN : w * h ≤ 256 := by have := Nat.mul_le_mul (show w ≤ 16 by omega) (show h ≤ 16 by omega); omega
  have hN1 : 1 ≤ w * h := Nat.mul_pos (by omega) (by omega)
  have em : IntKind.i64.wrap ((w : Int) * h) = ((w * h : Nat) : Int) := by rw [w64 (by push_cast at *; omega)]; push_cast; rfl
  have ew2 : IntKind.i64.wrap ((w : Int) - 2) = (w : Int) - 2 := w64 (by omega)
  have ew1 : IntKind.i64.wrap ((w : Int) - 1) = (w : Int) - 1 := w64 (by omega)
  have wne : ¬ (w : Int) = 0 := by omega
  have hmax : (if 4 < a then a else 4) = a := by split <;> omega
  simp only [go_sem, hmax]
  refine cD t1 ?_
  simp only [go_sem]
  refine cD t2 ?_
  simp only [go_sem]
  refine cD t3 ?_
  simp only [go_sem, ew2]
  refine cD t4 ?_
  simp only [go_sem]
  refine cD t5 ?_
  simp only [go_sem]
  generalize dstep (dstep (dstep (dstep (dstep w0)))) = d0 at *
  refine loop_ind k_kit_Tube_r16.eq_1 (fun q : Nat × Heap => q.1 ≤ w * h ∧ ((q.1 = 0 ∧ q.2 = plA w h rd d0) ∨ (q.1 ≠ 0 ∧ ∃ g X, q.2 = plB w h rd (tbRun w h ga wi d0 q.1).2 (tbRun w h ga wi d0 q.1).1 g ++ X))) (fun q => w * h - q.1)
    (fun q => (tsets 84 [(0, .ptr 0 0 0 1), (6, .ptr 1 0 0 1), (7, .ptr 2 0 0 1), (8, .int .i64 ga), (9, .int .i64 wi), (10, .int .i64 q.1)], q.2)) (0, plA w h rd d0) ⟨Nat.zero_le _, .inl ⟨rfl, rfl⟩⟩ (by simp [go_sem]) rfl ?_
  rintro ⟨i, H⟩ ⟨hi, hH⟩ ih
  dsimp only at hi hH ih ⊢
  by_cases h1 : i < w * h
  · have h2 : (i : Int) < ((w * h : Nat) : Int) := by omega
    have h3 := idx_next h1 (by omega)
    have e1 := nat_rem i w
    have e2 := nat_quo i w
    obtain ⟨c1, c2, c3⟩ := cell_lt h1
    have hl := tbRun_len w h ga wi d0 i
    have hs : tbRun w h ga wi d0 (i + 1) = tbNext w h ga wi i (tbRun w h ga wi d0 i) := rfl
    have ihn := fun g X => ih (i + 1, plB w h rd (tbRun w h ga wi d0 (i + 1)).2 (tbRun w h ga wi d0 (i + 1)).1 g ++ X) (by dsimp only; omega) ⟨h1, .inr ⟨by simp, g, X, rfl⟩⟩
    clear ih
    dsimp only at ihn
    rw [hs] at ihn
    unfold tbNext at ihn
    clear hs
    have hd0 : i = 0 → (tbRun w h ga wi d0 i).2 = d0 := fun h => by rw [h]; rfl
    generalize (tbRun w h ga wi d0 i).1 = l at *
    generalize (tbRun w h ga wi d0 i).2 = d at *
    have p1 := One_ok d 3 (by omega)
    have hx0 : i = 0 → i % w = 0 := fun h => by rw [h]; exact Nat.zero_mod _
    generalize i % w = x0 at *
    generalize i / w = y0 at *
    have w3 : IntKind.i64.wrap ((x0 : Nat) : Int) = x0 := w64 (by omega)
    have w4 : IntKind.i64.wrap ((y0 : Nat) : Int) = y0 := w64 (by omega)
    rcases hH with ⟨rfl, rfl⟩ | ⟨hne, g, X, rfl⟩
    · obtain rfl : l = [] := List.length_eq_zero_iff.1 hl
      obtain rfl := hd0 rfl
      obtain rfl := hx0 rfl
      have h2 : (0 : Int) < ((w * h : Nat) : Int) := by omega
      have h3 : IntKind.i64.wrap 1 = 1 := by decide
      rw [if_pos (by decide)] at ihn
      simp only [plB, List.nil_append, List.length_cons, List.length_nil, Nat.zero_add, List.cons_append] at ihn
      have e1 : (0 : Int).tmod (w : Int) = 0 := Int.zero_tmod _
      have e2 : (0 : Int).tdiv (w : Int) = 0 := Int.zero_tdiv _
      have w0' : IntKind.i64.wrap 0 = 0 := by decide
      simp only [plA, go_sem, em, h2, e1, e2, wne, w0', h3]
      exact ⟨by decide, ihn _ [] _ (by simp [go_sem])⟩
    · cases hx : ((x0 : Int) == 0) with
      | true =>
        rw [if_pos hx] at ihn
        simp only [plB, List.length_append, List.length_cons, List.length_nil, Nat.zero_add, List.cons_append, List.nil_append] at ihn
        simp only [plB, List.cons_append, List.nil_append, go_sem, em, h2, e1, e2, wne, w3, w4, hx, h3, iv_len, iv_app]
        exact ⟨by omega, ihn _ _ _ (by simp [go_sem])⟩
      | false =>
        rw [if_neg (by rw [hx]; decide)] at ihn
        cases hx2 : ((x0 : Int) == (w : Int) - 1) with
        | true =>
          rw [if_pos hx2] at ihn
          simp only [plB, List.length_append, List.length_cons, List.length_nil, Nat.zero_add, List.cons_append, List.nil_append] at ihn
          simp only [plB, List.cons_append, List.nil_append, go_sem, em, h2, e1, e2, wne, w3, w4, hx, ew1, hx2, h3, iv_len, iv_app]
          exact ⟨by omega, ihn _ _ _ (by simp [go_sem])⟩
        | false =>
          rw [if_neg (by rw [hx2]; decide)] at ihn
          cases hx3 : ((x0 : Int) == ga) with
          | true =>
            rw [if_pos hx3] at ihn
            cases hy : ((y0 : Int) == wi) with
            | true =>
              rw [if_pos hy] at ihn
              by_cases hh1 : (1 : Int) < h
              · rw [if_pos hh1] at ihn
                skip
                simp only [plB, List.length_append, List.length_cons, List.length_nil, Nat.zero_add, List.cons_append, List.nil_append] at ihn
                simp only [plB, List.cons_append, List.nil_append, go_sem, em, h2, e1, e2, wne, w3, w4, hx, ew1, hx2, hx3, hy, hh1, h3, iv_len, iv_app]
                exact ⟨by omega, ihn _ _ _ (by simp [go_sem])⟩
              · rw [if_neg hh1] at ihn
                skip
                simp only [plB, List.length_append, List.length_cons, List.length_nil, Nat.zero_add, List.cons_append, List.nil_append] at ihn
                simp only [plB, List.cons_append, List.nil_append, go_sem, em, h2, e1, e2, wne, w3, w4, hx, ew1, hx2, hx3, hy, hh1, h3, iv_len, iv_app]
                exact ⟨by omega, ihn _ _ _ (by simp [go_sem])⟩
            | false =>
              rw [if_neg (by rw [hy]; decide)] at ihn
              simp only [plB, List.cons_append, List.nil_append, go_sem, em, h2, e1, e2, wne, w3, w4, hx, ew1, hx2, hx3, hy]
              refine cD p1 ?_
              cases hcase : (upto d 3 == 0) with
              | true =>
                by_cases hh1 : (1 : Int) < h
                · rw [if_pos ⟨hcase, hh1⟩] at ihn
                  skip
                  simp only [plB, List.length_append, List.length_cons, List.length_nil, Nat.zero_add, List.cons_append, List.nil_append] at ihn
                  simp only [go_sem, hh1, h3, iv_len, iv_app]
                  exact ⟨by omega, ihn _ _ _ (by simp [go_sem])⟩
                · rw [if_neg fun h => hh1 h.2] at ihn
                  skip
                  simp only [plB, List.length_append, List.length_cons, List.length_nil, Nat.zero_add, List.cons_append, List.nil_append] at ihn
                  simp only [go_sem, hh1, h3, iv_len, iv_app]
                  exact ⟨by omega, ihn _ _ _ (by simp [go_sem])⟩
              | false =>
                rw [if_neg fun h => by rw [hcase] at h; exact absurd h.1 (by decide)] at ihn
                skip
                simp only [plB, List.length_append, List.length_cons, List.length_nil, Nat.zero_add, List.cons_append, List.nil_append] at ihn
                simp only [go_sem, h3, iv_len, iv_app]
                exact ⟨by omega, ihn _ _ _ (by simp [go_sem])⟩
          | false =>
            rw [if_neg (by rw [hx3]; decide)] at ihn
            skip
            simp only [plB, List.length_append, List.length_cons, List.length_nil, Nat.zero_add, List.cons_append, List.nil_append] at ihn
            simp only [plB, List.cons_append, List.nil_append, go_sem, em, h2, e1, e2, wne, w3, w4, hx, ew1, hx2, hx3, h3, iv_len, iv_app]
            exact ⟨by omega, ihn _ _ _ (by simp [go_sem])⟩
  · have h2 : ¬ (i : Int) < ((w * h : Nat) : Int) := by omega
    have hie : i = w * h := by omega
    subst hie
    obtain ⟨g, X, rfl⟩ : ∃ g X, H = plB w h rd (tbRun w h ga wi d0 (w * h)).2 (tbRun w h ga wi d0 (w * h)).1 g ++ X := by
      rcases hH with ⟨h, _⟩ | ⟨_, h⟩
      · omega
      · exact h
    have hle := tbRun_len w h ga wi d0 (w * h)
    clear ih
    generalize (tbRun w h ga wi d0 (w * h)).1 = l at *
    generalize (tbRun w h ga wi d0 (w * h)).2 = d at *
    subst hPD
    simp only [plB, List.cons_append, List.nil_append, go_sem, em, h2]
    refine kept_new (A := [some (Dr d)]) 1 4 rfl rfl (by omega) ?_ (fun i x hx => ?_) (iv_row true l _) rfl
    · simp only [Pl.a, Pl.c4, ren, rens]; rfl
    · match i, hx with
      | 0, hx => simp at hx; subst hx; exact ⟨dr_bel _ _, rfl⟩
end Go.Proofs

namespace Go.Proofs
open Go Go.Sx
attribute [local irreducible] Run

section
variable {P : Program} {g : FuncId} {args largs : List AVal} {H : Heap} {R : Runner} {l : List AOper} {fs : List Sx.Frame} {ρ : List AVal} {ms : List Nat} {Q : Sx.Goal} {ao : AOper} {lo hi : Nat} {tr : List (List Nat × List Nat)} {ss : List (List AOper)}
theorem dDn {x x' y : Row} {r : AVal} {j0 : Nat} (h : Ans P g largs [some x] r [some x', some y]) (hargs : args = largs.map (ren (nth [j0]))) (hb : Bels (· < 1) largs)
    (h0 : H[j0]? = some (some x)) (hx : x.bel (fun _ => False))
    (hr : Bel (· = 1) r) (hx' : x'.bel (fun _ => False)) (hy : y.bel (fun _ => False)) (hms : ∀ q ∈ ms, q ≠ j0 ∧ q ≠ H.length) (hd : dynOK ao.free [j0] [j0, H.length] tr lo = true)
    (hK : R (.grp lo l (tr ++ [([j0], [j0, H.length])]) hi ss) fs ⟨setD ρ ao.dst (ren (fun _ => H.length) r), H.set j0 (some x') ++ [some y], ms⟩ Q) : DCallR P R g args ao lo l tr hi ss fs ρ H ms Q := by
  have hlt0 := (List.getElem?_eq_some_iff.1 h0).1
  have e : outΔ (outσ [j0] H.length) 0 [some x', some y] = [(j0, x'), (H.length, y)] := by
    simp only [outΔ, Row.ren_same hx', Row.ren_same hy]
    rfl
  have e3 : Heap.put (H.set j0 (some x')) H.length y = H.set j0 (some x') ++ [some y] := by
    have := Heap.put_end (H.set j0 (some x')) y
    rwa [List.length_set] at this
  have e2 : ren (outσ [j0] H.length) r = ren (fun _ => H.length) r := ren_agree (fun q hq => by subst hq; simp [outσ]) hr
  have h2 := h.dcall (H := H) (args := args) [j0] (by simp) ⟨by rw [Row.ren_same hx]; exact h0, trivial⟩ hargs hb ⟨bel_mono_row hx fun _ h => h.elim, trivial⟩
    (by simp) (hr.mono fun q hq => by subst hq; simp) ⟨bel_mono_row hx' fun _ h => h.elim, bel_mono_row hy fun _ h => h.elim, trivial⟩ (by simpa using hlt0)
  have e4 : newNames H.length ([some x', some y].length - [j0].length) = [H.length] := rfl
  rw [e, e2, e4] at h2
  refine dcallR (deps := [j0]) h2 ⟨fun q hq => ?_, fun q hq => ?_, hd, ?_⟩
  · have := hms q hq
    simp [Oc.rows, this.1, this.2]
  · simp only [List.mem_singleton] at hq
    subst hq
    refine ⟨Nat.le_refl _, ?_⟩
    simp only [Heap.puts, put_lt hlt0, e3]
    simp
  · simp only [Heap.puts, put_lt hlt0, e3]
    exact hK
end

theorem tup_form (r : Rg × Int) : AVal.tup [r.1.v, .int .i64 r.2] = .tup [.agg [.int .i64 r.1.lo, .int .i64 r.1.hi], .int .i64 r.2] := rfl

set_option maxHeartbeats 16000000 in
set_option maxRecDepth 20000 in
theorem influences_law (p : Rp) (sw a k g : Int) (zs : List Int) (hl : zs.length ≤ 9223372036854775807) : Ans Try.prog n_law01_FieldInfluences [p.v, .int .i64 sw, .int .i64 a, .int .i64 k, .int .i64 g, .view (zs.map (.int .i64))] [] (.bool true) [] := by
  by_cases hb : p.cs.length ≤ 300
  rotate_left
  · have hB := big_gen p [] (by simp) true (by simp; omega)
    refine spec_run e_law01_FieldInfluences fun G => ?_
    simp only [go_sem, Rp.v, vw]
    refine cF hB 6 ⟨.inl (rp_frz 3 _ p), .inr ⟨rfl, rfl⟩, trivial⟩ ?_
    simp only [go_sem]
    refine cP awake_ok ?_
    simp only [go_sem]
  have hB := big_gen p [] (by simp) false (by simp; omega)
  have m0 := mod_pos sw 41 (by omega)
  have hn : 0 ≤ sw % 41 ∧ sw % 41 ≤ 40 := by omega
  generalize sw % 41 = n at *
  have m1 := fun x : Int => mod_pos x 5 (by omega)
  have I1 := Influence_raw p sw a k (by omega)
  have J1 := rInfluence_raw p sw a k (by omega)
  have A1 := Amp_raw p sw k g a (by omega)
  have B1 := rAmp_raw p sw k g a (by omega)
  rw [tup_form] at I1 J1 A1 B1
  generalize (infR p sw a k).1.lo = x1 at *
  generalize (infR p sw a k).1.hi = x2 at *
  generalize (infR p sw a k).2 = x3 at *
  generalize (amR p sw k g a).1.lo = y1 at *
  generalize (amR p sw k g a).1.hi = y2 at *
  generalize (amR p sw k g a).2 = y3 at *
  refine spec_run e_law01_FieldInfluences fun G => ?_
  simp only [go_sem, Rp.v, vw]
  refine cF hB 6 ⟨.inl (rp_frz 3 _ p), .inr ⟨rfl, rfl⟩, trivial⟩ ?_
  simp only [go_sem]
  refine callN1 (newdice_ok zs hl) (by simp only [go_sem]) (dr_bel _ _) (by simp) (by simp) ?_
  generalize seedW zs = w
  have P1 := PlanOf_det w 7 5 (by omega) (by omega)
  have hqm := plD_made w 7 5 (by omega) (by omega)
  generalize plD w 7 5 = PQ at *
  obtain ⟨w1, q⟩ := PQ
  dsimp only at P1 hqm
  have T1 := Tube_det w1 8 5 (by omega) (by omega)
  have hto := tuD_ok w1 8 5 (by omega) (by omega)
  generalize tuD w1 8 5 = PT at *
  obtain ⟨w2, t⟩ := PT
  dsimp only at T1 hto
  have hqo := hqm.ok
  have hql : q.cs.length ≤ 1000000 := by
    rw [hqo.len]; have := Nat.mul_le_mul hqo.w.2 hqo.h.2; omega
  have htl : t.cs.length ≤ 1000000 := by
    rw [hto.len]; have := Nat.mul_le_mul hto.w.2 hto.h.2; omega
  simp only [go_sem, Rp.v, vw]
  refine dDn P1 (j0 := 1) rfl (by simp [go_sem]) rfl (dr_bel _ _) (by simp [go_sem, Pl.a, Pl.c4]) (dr_bel _ _) (iv_row _ _ _) (by simp) (by simp [go_sem]) ?_
  simp only [go_sem, Pl.a, Pl.c4, ren, rens]
  refine dDn T1 (j0 := 1) rfl (by simp [go_sem]) rfl (dr_bel _ _) (by simp [go_sem, Pl.a, Pl.c4]) (dr_bel _ _) (iv_row _ _ _) (by simp) (by simp [go_sem]) ?_
  simp only [go_sem, Pl.a, Pl.c4, ren, rens]
  have w1' : IntKind.i64.wrap 1 = 1 := by decide
  have w2' : IntKind.i64.wrap (1 + 1) = 2 := by decide
  have w3' : IntKind.i64.wrap (2 + 1) = 3 := by decide
  have w4' : IntKind.i64.wrap 2 = 2 := by decide
  have w5' : IntKind.i64.wrap 3 = 3 := by decide
  have hq4 : n.tmod 4 = n % 4 := Int.tmod_eq_emod_of_nonneg hn.1
  refine cP m0 ?_
  simp only [go_sem]
  refine loop_body 3000 k_law01_FieldInfluences_r19.eq_1 ?_
  simp only [go_sem, Pl.a, Pl.c4, ren, rens, w1', w2', w3', w4', w5', hq4]
  refine cP I1 ?_
  simp only [go_sem, Pl.a, Pl.c4, ren, rens, w1', w2', w3', w4', w5', hq4]
  refine cP J1 ?_
  simp only [go_sem, Pl.a, Pl.c4, ren, rens, w1', w2', w3', w4', w5', hq4]
  refine cP A1 ?_
  simp only [go_sem, Pl.a, Pl.c4, ren, rens, w1', w2', w3', w4', w5', hq4]
  refine cP B1 ?_
  simp only [go_sem, Pl.a, Pl.c4, ren, rens, w1', w2', w3', w4', w5', hq4]
  refine loop_body 3000 k_law01_FieldInfluences_r19.eq_1 ?_
  simp only [go_sem, Pl.a, Pl.c4, ren, rens, w1', w2', w3', w4', w5', hq4]
  refine cP (m1 a) ?_
  simp only [go_sem, Pl.a, Pl.c4, ren, rens, w1', w2', w3', w4', w5', hq4]
  refine cP (m1 k) ?_
  simp only [go_sem, Pl.a, Pl.c4, ren, rens, w1', w2', w3', w4', w5', hq4]
  refine cP (m1 g) ?_
  simp only [go_sem, Pl.a, Pl.c4, ren, rens, w1', w2', w3', w4', w5', hq4]
  generalize a % 5 = a' at *
  generalize k % 5 = k' at *
  generalize g % 5 = g' at *
  have Iq := Influence_raw q.rp n a' k' hql
  have Jq := rInfluence_raw q.rp n a' k' hql
  have Aq := Amp_raw q.rp n k' g' a' hql
  have Bq := rAmp_raw q.rp n k' g' a' hql
  rw [tup_form, Pl.rp_v] at Iq Jq Aq Bq
  generalize (infR q.rp n a' k').1.lo = xaq at *
  generalize (infR q.rp n a' k').1.hi = xbq at *
  generalize (infR q.rp n a' k').2 = xcq at *
  generalize (amR q.rp n k' g' a').1.lo = yaq at *
  generalize (amR q.rp n k' g' a').1.hi = ybq at *
  generalize (amR q.rp n k' g' a').2 = ycq at *
  refine cF Iq 6 ⟨.inl (pla_frz 3 (p := q) (j := 2) (g := true) rfl rfl), .inl rfl, .inl rfl, .inl rfl, trivial⟩ ?_
  simp only [go_sem, Pl.a, Pl.c4, ren, rens, w1', w2', w3', w4', w5', hq4]
  refine cF Jq 6 ⟨.inl (pla_frz 3 (p := q) (j := 2) (g := true) rfl rfl), .inl rfl, .inl rfl, .inl rfl, trivial⟩ ?_
  simp only [go_sem, Pl.a, Pl.c4, ren, rens, w1', w2', w3', w4', w5', hq4]
  refine cF Aq 6 ⟨.inl (pla_frz 3 (p := q) (j := 2) (g := true) rfl rfl), .inl rfl, .inl rfl, .inl rfl, .inl rfl, trivial⟩ ?_
  simp only [go_sem, Pl.a, Pl.c4, ren, rens, w1', w2', w3', w4', w5', hq4]
  refine cF Bq 6 ⟨.inl (pla_frz 3 (p := q) (j := 2) (g := true) rfl rfl), .inl rfl, .inl rfl, .inl rfl, .inl rfl, trivial⟩ ?_
  simp only [go_sem, Pl.a, Pl.c4, ren, rens, w1', w2', w3', w4', w5', hq4]
  refine loop_body 3000 k_law01_FieldInfluences_r19.eq_1 ?_
  simp only [go_sem, Pl.a, Pl.c4, ren, rens, w1', w2', w3', w4', w5', hq4]
  refine cP (m1 a') ?_
  simp only [go_sem, Pl.a, Pl.c4, ren, rens, w1', w2', w3', w4', w5', hq4]
  refine cP (m1 k') ?_
  simp only [go_sem, Pl.a, Pl.c4, ren, rens, w1', w2', w3', w4', w5', hq4]
  refine cP (m1 g') ?_
  by_cases h4 : 0 < n % 4
  · simp only [go_sem, Pl.a, Pl.c4, ren, rens, w1', w2', w3', w4', w5', hq4, h4]
    have It := Influence_raw t.rp n 3 1 htl
    have Jt := rInfluence_raw t.rp n 3 1 htl
    have At := Amp_raw t.rp n 1 2 3 htl
    have Bt := rAmp_raw t.rp n 1 2 3 htl
    rw [tup_form, Pl.rp_v] at It Jt At Bt
    generalize (infR t.rp n 3 1).1.lo = xat at *
    generalize (infR t.rp n 3 1).1.hi = xbt at *
    generalize (infR t.rp n 3 1).2 = xct at *
    generalize (amR t.rp n 1 2 3).1.lo = yat at *
    generalize (amR t.rp n 1 2 3).1.hi = ybt at *
    generalize (amR t.rp n 1 2 3).2 = yct at *
    refine cF It 6 ⟨.inl (pla_frz 3 (p := t) (j := 3) (g := true) rfl rfl), .inl rfl, .inl rfl, .inl rfl, trivial⟩ ?_
    simp only [go_sem, Pl.a, Pl.c4, ren, rens, w1', w2', w3', w4', w5', hq4]
    refine cF Jt 6 ⟨.inl (pla_frz 3 (p := t) (j := 3) (g := true) rfl rfl), .inl rfl, .inl rfl, .inl rfl, trivial⟩ ?_
    simp only [go_sem, Pl.a, Pl.c4, ren, rens, w1', w2', w3', w4', w5', hq4]
    refine cF At 6 ⟨.inl (pla_frz 3 (p := t) (j := 3) (g := true) rfl rfl), .inl rfl, .inl rfl, .inl rfl, .inl rfl, trivial⟩ ?_
    simp only [go_sem, Pl.a, Pl.c4, ren, rens, w1', w2', w3', w4', w5', hq4]
    refine cF Bt 6 ⟨.inl (pla_frz 3 (p := t) (j := 3) (g := true) rfl rfl), .inl rfl, .inl rfl, .inl rfl, .inl rfl, trivial⟩ ?_
    simp only [go_sem, Pl.a, Pl.c4, ren, rens, w1', w2', w3', w4', w5', hq4]
    refine loop_body 3000 k_law01_FieldInfluences_r19.eq_1 ?_
    simp only [go_sem, Pl.a, Pl.c4, ren, rens, w1', w2', w3', w4', w5', hq4]
    refine cP awake_ok ?_
    simp only [go_sem]
  · simp only [go_sem, Pl.a, Pl.c4, ren, rens, w1', w2', w3', w4', w5', hq4, h4]
    generalize a' % 5 = a2 at *
    generalize k' % 5 = k2 at *
    generalize g' % 5 = g2 at *
    have It := Influence_raw t.rp n a2 k2 htl
    have Jt := rInfluence_raw t.rp n a2 k2 htl
    have At := Amp_raw t.rp n k2 g2 a2 htl
    have Bt := rAmp_raw t.rp n k2 g2 a2 htl
    rw [tup_form, Pl.rp_v] at It Jt At Bt
    generalize (infR t.rp n a2 k2).1.lo = xat at *
    generalize (infR t.rp n a2 k2).1.hi = xbt at *
    generalize (infR t.rp n a2 k2).2 = xct at *
    generalize (amR t.rp n k2 g2 a2).1.lo = yat at *
    generalize (amR t.rp n k2 g2 a2).1.hi = ybt at *
    generalize (amR t.rp n k2 g2 a2).2 = yct at *
    refine cF It 6 ⟨.inl (pla_frz 3 (p := t) (j := 3) (g := true) rfl rfl), .inl rfl, .inl rfl, .inl rfl, trivial⟩ ?_
    simp only [go_sem, Pl.a, Pl.c4, ren, rens, w1', w2', w3', w4', w5', hq4]
    refine cF Jt 6 ⟨.inl (pla_frz 3 (p := t) (j := 3) (g := true) rfl rfl), .inl rfl, .inl rfl, .inl rfl, trivial⟩ ?_
    simp only [go_sem, Pl.a, Pl.c4, ren, rens, w1', w2', w3', w4', w5', hq4]
    refine cF At 6 ⟨.inl (pla_frz 3 (p := t) (j := 3) (g := true) rfl rfl), .inl rfl, .inl rfl, .inl rfl, .inl rfl, trivial⟩ ?_
    simp only [go_sem, Pl.a, Pl.c4, ren, rens, w1', w2', w3', w4', w5', hq4]
    refine cF Bt 6 ⟨.inl (pla_frz 3 (p := t) (j := 3) (g := true) rfl rfl), .inl rfl, .inl rfl, .inl rfl, .inl rfl, trivial⟩ ?_
    simp only [go_sem, Pl.a, Pl.c4, ren, rens, w1', w2', w3', w4', w5', hq4]
    refine loop_body 3000 k_law01_FieldInfluences_r19.eq_1 ?_
    simp only [go_sem, Pl.a, Pl.c4, ren, rens, w1', w2', w3', w4', w5', hq4]
    refine cP awake_ok ?_
    simp only [go_sem]
end Go.Proofs

