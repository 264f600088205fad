/- A part of the proof. -/
import Derived.Test.YtdodlephmmpemaaPB
set_option linter.unusedSimpArgs false
set_option linter.unusedVariables false
namespace Go.Proofs
open Go Go.Sx
attribute [local irreducible] Run

theorem areg_wk' {P : Program} {G : Ctx} {k : Nat} {rd : Option Nat} {l : List AOper} {ρ ρ' : List AVal} {H : Heap} {ms : List Nat} {K : St → Prop} (hl : l ≠ []) (hw : Wk ρ ρ') (h : Areg P G k rd l ⟨ρ', H, ms⟩ K) : Areg P G k rd l ⟨ρ, H, ms⟩ K := by
  cases l with
  | nil => exact absurd rfl hl
  | cons a l => exact areg_wk hw h

def opA0 : List AOper := k_kit_Opened_r7.take 14
def opA1 : List AOper := (k_kit_Opened_r7.drop 14).take 11
def opA2 : List AOper := (k_kit_Opened_r7.drop 25).take 14
def opA3 : List AOper := (k_kit_Opened_r7.drop 39).take 15
def opA4 : List AOper := (k_kit_Opened_r7.drop 54).take 19
def opA5 : List AOper := k_kit_Opened_r7.drop 73
theorem opA_eq : k_kit_Opened_r7 = opA0 ++ (opA1 ++ (opA2 ++ (opA3 ++ (opA4 ++ opA5)))) := rfl

def opB (n i x : Nat) (rd : Int) : List (Nat × AVal) := [(1, .ptr 1 0 0 1), (2, .ptr 2 0 0 1), (3, .sl 3 0 n), (4, .int .i64 rd), (5, .int .i64 i), (6, .int .i64 x)]
def opC (n i x : Nat) (rd : Int) (t : Nat) (b : Bool) : List AVal := tsets 121 (opB n i x rd ++ [(30, .sl 3 0 n), (31, .int .i64 i), (t, .bool b)])
def opH (p : Pl) (g : Bool) (bs : List Bool) : Heap := [some (.cells g 1 (iv p.cs)), some (.cells false 4 [p.a (.sl 0 0 p.cs.length)]), some (.cells false 4 [.agg [.int .i64 0, .int .i64 0, .bool false, .nilsl]]), some (.cells false 1 (bv bs))]

section
variable {G : Ctx} {k : Nat} {p : Pl} (hlen : p.cs.length = p.w * p.h) (hn : p.cs.length ≤ 1000000) {g : Bool} {bs : List Bool} (hb : bs.length = p.cs.length) {i : Nat} (hi : i < p.cs.length) {rd : Int} {K : St → Prop} {R : List AOper}
include hlen hn hb hi

omit hn in
theorem op_0 (h : ∀ b, Areg Try.prog G k none (opA1 ++ R) ⟨opC p.cs.length i (i % p.w) rd 43 b, opH p g bs, []⟩ K) :
    Areg Try.prog G k none (opA0 ++ (opA1 ++ R)) ⟨tsets 121 (opB p.cs.length i (i % p.w) rd), opH p g bs, []⟩ K := by
  refine areg_cut 200 ?_
  have h2 : (i : Int) < p.cs.length := by omega
  have n0 : ¬ (i : Int) < 0 := by omega
  have hg := bv_get (bs := bs) (c := i) (by omega)
  have hc := iv_get (l := p.cs) hi
  have fin : ∀ b ρ', Wk ρ' (opC p.cs.length i (i % p.w) rd 43 b) → Areg Try.prog G k none (opA1 ++ R) ⟨ρ', opH p g bs, []⟩ K := fun b ρ' hw => areg_wk' (List.cons_ne_nil _ _) hw (h b)
  clear h
  generalize bs.getD i false = b0 at *
  generalize gt p.cs i = z at *
  generalize opA1 ++ R = L at *
  cases b0 with
  | true =>
    simp only [opA0, k_kit_Opened_r7, List.take_succ_cons, List.take_zero, opB, opH, go_sem, h2, n0, hg]
    exact fin _ _ (by simp [opC, opB, go_sem] <;> rfl)
  | false =>
    simp only [opA0, k_kit_Opened_r7, List.take_succ_cons, List.take_zero, opB, opH, go_sem, h2, n0, hg, hc, Pl.a, Pl.c4, iv_len]
    exact fin _ _ (by simp [opC, opB, go_sem] <;> rfl)

theorem op_1 {b : Bool} (h : ∀ b', Areg Try.prog G k none (opA2 ++ R) ⟨opC p.cs.length i (i % p.w) rd 54 b', opH p g bs, []⟩ K) :
    Areg Try.prog G k none (opA1 ++ (opA2 ++ R)) ⟨opC p.cs.length i (i % p.w) rd 43 b, opH p g bs, []⟩ K := by
  refine areg_cut 200 ?_
  have fin : ∀ b' ρ', Wk ρ' (opC p.cs.length i (i % p.w) rd 54 b') → Areg Try.prog G k none (opA2 ++ R) ⟨ρ', opH p g bs, []⟩ K := fun b' ρ' hw => areg_wk' (List.cons_ne_nil _ _) hw (h b')
  clear h
  generalize opA2 ++ R = L at *
  cases b with
  | true =>
    simp only [opA1, k_kit_Opened_r7, List.take_succ_cons, List.take_zero, List.drop_succ_cons, List.drop_zero, opC, List.cons_append, List.nil_append, opB, opH, go_sem]
    exact fin _ _ (by simp [opC, opB, go_sem] <;> rfl)
  | false =>
    by_cases hc : 0 < i % p.w
    · have h1 : (0 : Int) < ((i % p.w : Nat) : Int) := by omega
      have hle := Nat.mod_le i p.w
      have e1 : IntKind.i64.wrap ((i : Int) - 1) = ((i - 1 : Nat) : Int) := by rw [w64 (by omega)]; omega
      have n0 : ¬ ((i - 1 : Nat) : Int) < 0 := by omega
      have h2 : ((i - 1 : Nat) : Int) < p.cs.length := by omega
      have hg := bv_get (bs := bs) (c := i - 1) (by omega)
      simp only [opA1, k_kit_Opened_r7, List.take_succ_cons, List.take_zero, List.drop_succ_cons, List.drop_zero, opC, List.cons_append, List.nil_append, opB, opH, go_sem, Pl.a, Pl.c4, iv_len, h1, e1, n0, h2, hg]
      exact fin _ _ (by simp [opC, opB, go_sem] <;> rfl)
    · have h1 : ¬ (0 : Int) < ((i % p.w : Nat) : Int) := by omega
      simp only [opA1, k_kit_Opened_r7, List.take_succ_cons, List.take_zero, List.drop_succ_cons, List.drop_zero, opC, List.cons_append, List.nil_append, opB, opH, go_sem, Pl.a, Pl.c4, iv_len, h1]
      exact fin _ _ (by simp [opC, opB, go_sem] <;> rfl)

theorem op_2 {b : Bool} (h : ∀ b', Areg Try.prog G k none (opA3 ++ R) ⟨opC p.cs.length i (i % p.w) rd 68 b', opH p g bs, []⟩ K) :
    Areg Try.prog G k none (opA2 ++ (opA3 ++ R)) ⟨opC p.cs.length i (i % p.w) rd 54 b, opH p g bs, []⟩ K := by
  refine areg_cut 200 ?_
  have fin : ∀ b' ρ', Wk ρ' (opC p.cs.length i (i % p.w) rd 68 b') → Areg Try.prog G k none (opA3 ++ R) ⟨ρ', opH p g bs, []⟩ K := fun b' ρ' hw => areg_wk' (List.cons_ne_nil _ _) hw (h b')
  clear h
  generalize opA3 ++ R = L at *
  have hw0 : 0 < p.w := by
    rcases Nat.eq_zero_or_pos p.w with h0 | h0
    · rw [h0, Nat.zero_mul] at hlen; omega
    · exact h0
  have hwn : p.w ≤ 1000000 := by
    have h1 : p.w * 1 ≤ p.w * p.h := Nat.mul_le_mul_left _ (by
      rcases Nat.eq_zero_or_pos p.h with h0 | h0
      · rw [h0, Nat.mul_zero] at hlen; omega
      · exact h0)
    omega
  have e0 : IntKind.i64.wrap ((p.w : Int) - 1) = ((p.w - 1 : Nat) : Int) := by rw [w64 (by omega)]; omega
  cases b with
  | true =>
    simp only [opA2, k_kit_Opened_r7, List.take_succ_cons, List.take_zero, List.drop_succ_cons, List.drop_zero, opC, List.cons_append, List.nil_append, opB, opH, go_sem]
    exact fin _ _ (by simp [opC, opB, go_sem] <;> rfl)
  | false =>
    by_cases hc : i % p.w + 1 < p.w
    · have h1 : ((i % p.w : Nat) : Int) < ((p.w - 1 : Nat) : Int) := by omega
      have hi1 : i + 1 < p.cs.length := by
        rw [hlen]
        obtain ⟨k1, k2, k3⟩ := cell_lt (w := p.w) (h := p.h) (i := i) (by omega)
        have := cell_in (w := p.w) (h := p.h) hc k2
        omega
      have e1 : IntKind.i64.wrap ((i : Int) + 1) = ((i + 1 : Nat) : Int) := by rw [w64 (by omega)]; rfl
      have n0 : ¬ ((i + 1 : Nat) : Int) < 0 := by omega
      have h2 : ((i + 1 : Nat) : Int) < p.cs.length := by omega
      have hg := bv_get (bs := bs) (c := i + 1) (by omega)
      simp only [opA2, k_kit_Opened_r7, List.take_succ_cons, List.take_zero, List.drop_succ_cons, List.drop_zero, opC, List.cons_append, List.nil_append, opB, opH, go_sem, Pl.a, Pl.c4, iv_len, h1, e0, e1, n0, h2, hg]
      exact fin _ _ (by simp [opC, opB, go_sem] <;> rfl)
    · have h1 : ¬ ((i % p.w : Nat) : Int) < ((p.w - 1 : Nat) : Int) := by omega
      simp only [opA2, k_kit_Opened_r7, List.take_succ_cons, List.take_zero, List.drop_succ_cons, List.drop_zero, opC, List.cons_append, List.nil_append, opB, opH, go_sem, Pl.a, Pl.c4, iv_len, h1, e0]
      exact fin _ _ (by simp [opC, opB, go_sem] <;> rfl)

theorem op_3 {b : Bool} (h : ∀ b', Areg Try.prog G k none (opA4 ++ R) ⟨opC p.cs.length i (i % p.w) rd 83 b', opH p g bs, []⟩ K) :
    Areg Try.prog G k none (opA3 ++ (opA4 ++ R)) ⟨opC p.cs.length i (i % p.w) rd 68 b, opH p g bs, []⟩ K := by
  refine areg_cut 200 ?_
  have fin : ∀ b' ρ', Wk ρ' (opC p.cs.length i (i % p.w) rd 83 b') → Areg Try.prog G k none (opA4 ++ R) ⟨ρ', opH p g bs, []⟩ K := fun b' ρ' hw => areg_wk' (List.cons_ne_nil _ _) hw (h b')
  clear h
  generalize opA4 ++ R = L at *
  cases b with
  | true =>
    simp only [opA3, k_kit_Opened_r7, List.take_succ_cons, List.take_zero, List.drop_succ_cons, List.drop_zero, opC, List.cons_append, List.nil_append, opB, opH, go_sem]
    exact fin _ _ (by simp [opC, opB, go_sem] <;> rfl)
  | false =>
    by_cases hc : p.w ≤ i
    · have h1 : (p.w : Int) ≤ i := by omega
      have e1 : IntKind.i64.wrap ((i : Int) - p.w) = ((i - p.w : Nat) : Int) := by rw [w64 (by omega)]; omega
      have n0 : ¬ ((i - p.w : Nat) : Int) < 0 := by omega
      have h2 : ((i - p.w : Nat) : Int) < p.cs.length := by omega
      have hg := bv_get (bs := bs) (c := i - p.w) (by omega)
      simp only [opA3, k_kit_Opened_r7, List.take_succ_cons, List.take_zero, List.drop_succ_cons, List.drop_zero, opC, List.cons_append, List.nil_append, opB, opH, go_sem, Pl.a, Pl.c4, iv_len, h1, e1, n0, h2, hg]
      exact fin _ _ (by simp [opC, opB, go_sem] <;> rfl)
    · have h1 : ¬ (p.w : Int) ≤ i := by omega
      simp only [opA3, k_kit_Opened_r7, List.take_succ_cons, List.take_zero, List.drop_succ_cons, List.drop_zero, opC, List.cons_append, List.nil_append, opB, opH, go_sem, Pl.a, Pl.c4, iv_len, h1]
      exact fin _ _ (by simp [opC, opB, go_sem] <;> rfl)

theorem op_4 {b : Bool} (h : ∀ b', Areg Try.prog G k none (opA5 ++ R) ⟨opC p.cs.length i (i % p.w) rd 102 b', opH p g bs, []⟩ K) :
    Areg Try.prog G k none (opA4 ++ (opA5 ++ R)) ⟨opC p.cs.length i (i % p.w) rd 83 b, opH p g bs, []⟩ K := by
  refine areg_cut 200 ?_
  have fin : ∀ b' ρ', Wk ρ' (opC p.cs.length i (i % p.w) rd 102 b') → Areg Try.prog G k none (opA5 ++ R) ⟨ρ', opH p g bs, []⟩ K := fun b' ρ' hw => areg_wk' (List.cons_ne_nil _ _) hw (h b')
  clear h
  generalize opA5 ++ R = L at *
  have hwn : p.w ≤ 1000000 := by
    have h1 : p.w * 1 ≤ p.w * p.h := Nat.mul_le_mul_left _ (by
      rcases Nat.eq_zero_or_pos p.h with h0 | h0
      · rw [h0, Nat.mul_zero] at hlen; omega
      · exact h0)
    omega
  have e1 : IntKind.i64.wrap ((i : Int) + p.w) = ((i + p.w : Nat) : Int) := by rw [w64 (by omega)]; omega
  cases b with
  | true =>
    simp only [opA4, k_kit_Opened_r7, List.take_succ_cons, List.take_zero, List.drop_succ_cons, List.drop_zero, opC, List.cons_append, List.nil_append, opB, opH, go_sem]
    exact fin _ _ (by simp [opC, opB, go_sem] <;> rfl)
  | false =>
    by_cases hc : i + p.w < p.cs.length
    · have h1 : ((i + p.w : Nat) : Int) < p.cs.length := by omega
      have n0 : ¬ ((i + p.w : Nat) : Int) < 0 := by omega
      have hg := bv_get (bs := bs) (c := i + p.w) (by omega)
      simp only [opA4, k_kit_Opened_r7, List.take_succ_cons, List.take_zero, List.drop_succ_cons, List.drop_zero, opC, List.cons_append, List.nil_append, opB, opH, go_sem, Pl.a, Pl.c4, iv_len, h1, e1, n0, hg]
      exact fin _ _ (by simp [opC, opB, go_sem] <;> rfl)
    · have h1 : ¬ ((i + p.w : Nat) : Int) < p.cs.length := by omega
      simp only [opA4, k_kit_Opened_r7, List.take_succ_cons, List.take_zero, List.drop_succ_cons, List.drop_zero, opC, List.cons_append, List.nil_append, opB, opH, go_sem, Pl.a, Pl.c4, iv_len, h1, e1]
      exact fin _ _ (by simp [opC, opB, go_sem] <;> rfl)

theorem op_all (h : ∀ b, Areg Try.prog G k none opA5 ⟨opC p.cs.length i (i % p.w) rd 102 b, opH p g bs, []⟩ K) : Areg Try.prog G k none k_kit_Opened_r7 ⟨tsets 121 (opB p.cs.length i (i % p.w) rd), opH p g bs, []⟩ K := by
  rw [opA_eq]
  refine op_0 hlen hb hi fun b => ?_
  refine op_1 hlen hn hb hi fun b => ?_
  refine op_2 hlen hn hb hi fun b => ?_
  refine op_3 hlen hn hb hi fun b => ?_
  have := op_4 (R := []) hlen hn hb hi (K := K) (G := G) (k := k) (g := g) (rd := rd) (b := b) fun b => by rw [List.append_nil]; exact h b
  rwa [List.append_nil] at this
end

section
variable {P : Program} {G : Ctx} {k : Nat} {rd : Option Nat} {fs : List Sx.Frame} {ms : List Nat} {Q : Sx.Goal}
theorem loop_indN (n : Nat) {α : Type} {c c' : ACode} (hc : c = c') (Inv : α → Prop) (μ : α → Nat) (st : α → List AVal × Heap) {ρ : List AVal} {H : Heap} (a0 : α) (h0 : Inv a0) (hw : Wk ρ (st a0).1) (hH : H = (st a0).2)
    (step : ∀ a, Inv a → (∀ b, μ b < μ a → Inv b → ∀ ρ', Wk ρ' (st b).1 → Sx.Loop P G k rd c fs ⟨ρ', (st b).2, ms⟩ Q) → Run P G k rd n (.code c') (.rnd c :: fs) ⟨(st a).1, (st a).2, ms⟩ Q) : Sx.Loop P G k rd c fs ⟨ρ, H, ms⟩ Q := by
  have key : ∀ (m : Nat) (a : α), μ a = m → Inv a → ∀ ρ', Wk ρ' (st a).1 → Sx.Loop P G k rd c fs ⟨ρ', (st a).2, ms⟩ Q := by
    intro m
    induction m using Nat.strongRecOn with
    | ind m ih =>
      intro a ha hi ρ' hw
      exact loop_wk hw (loop_body n hc (step a hi fun b hb hib ρ'' hw'' => ih (μ b) (by omega) b rfl hib ρ'' hw''))
  subst hH
  exact key _ a0 rfl h0 ρ hw
end

def Opd (cs l : List Int) : Prop := l.length = cs.length ∧ ∀ i, i < cs.length → gt l i = gt cs i ∨ gt l i = 1

set_option maxHeartbeats 4000000 in
theorem Opened_ok {p : Pl} (hlen : p.cs.length = p.w * p.h) (hn : p.cs.length ≤ 1000000) (hw : 1 ≤ p.w) (g : Bool) : AnsE Try.prog n_kit_Opened [p.a (.sl 0 0 p.cs.length)] [some (.cells g 1 (iv p.cs))] (Opd p.cs) (fun _ => p.a (.sl 0 0 p.cs.length)) (fun l => [some (.cells g 1 (iv l))]) := by
  refine AnsE.keep (run_fn e_kit_Opened fun G => ?_) (fun a ha => ⟨by simp, by simp [go_sem, Pl.a, Pl.c4], iv_row _ _ _, trivial⟩)
  have q1 : (0 : Int) ≤ p.cs.length := by omega
  have q2 : (p.cs.length : Int) ≤ 2 ^ 44 := by omega
  have q3 : (p.cs.length : Int) * 1 ≤ 2 ^ 44 := by omega
  simp only [go_sem, Pl.a, Pl.c4, iv_len, q1, q2, q3, Int.toNat_natCast]
  refine ⟨Int.le_refl _, ?_⟩
  have hrep : List.replicate p.cs.length (AVal.bool false) = bv (List.replicate p.cs.length false) := by simp [bv]
  rw [hrep]
  have hOpd0 : Opd p.cs p.cs := ⟨rfl, fun i _ => .inl rfl⟩
  refine loop_ind k_kit_Opened_r11.eq_1 (fun a : Nat × List Bool => a.1 ≤ p.cs.length ∧ a.2.length = p.cs.length) (fun a => p.cs.length - a.1)
    (fun a => (tsets 121 [(1, .ptr 1 0 0 1), (2, .ptr 2 0 0 1), (3, .sl 3 0 p.cs.length), (4, .int .i64 a.1)], opH p g a.2)) (0, List.replicate p.cs.length false) ⟨Nat.zero_le _, by simp⟩ (by simp [go_sem]) rfl ?_
  rintro ⟨r, bs⟩ ⟨hr, hbs⟩ ih
  dsimp only at hr hbs ih ⊢
  by_cases h1 : r < p.cs.length
  · have h2 : (r : Int) < p.cs.length := by omega
    have h3 := idx_next h1 (by omega)
    simp only [opH, go_sem, Pl.a, Pl.c4, iv_len, h2]
    refine loop_indN 25 k_kit_Opened_r9.eq_1 (fun a : Nat × List Bool => a.1 ≤ p.cs.length ∧ a.2.length = p.cs.length) (fun a => p.cs.length - a.1)
      (fun a => (tsets 121 [(1, .ptr 1 0 0 1), (2, .ptr 2 0 0 1), (3, .sl 3 0 p.cs.length), (4, .int .i64 r), (5, .int .i64 a.1)], opH p g a.2)) (0, bs) ⟨Nat.zero_le _, hbs⟩ (by simp [go_sem]) rfl ?_
    rintro ⟨i, bs⟩ ⟨hi, hbs⟩ ih2
    dsimp only at hi hbs ih2 ⊢
    by_cases h4 : i < p.cs.length
    · have h5 : (i : Int) < p.cs.length := by omega
      have h6 := idx_next h4 (by omega)
      have hwz : ((p.w : Int) = 0) = False := eq_false (by omega)
      have e1 := nat_rem i p.w
      have ihn := fun b => ih2 (i + 1, bs.set i b) (by dsimp only; omega) ⟨h4, by simpa using hbs⟩
      clear ih2
      have hgb := bv_get (bs := bs) (c := i) (by omega)
      have hbset : ∀ b, (bv bs).set i (.bool b) = bv (bs.set i b) := fun b => by simp [bv, List.map_set]
      have n0 : ¬ (i : Int) < 0 := by omega
      simp only [opH, go_sem, Pl.a, Pl.c4, iv_len, h5, hwz, e1]
      refine run0_ops ?_
      show Areg Try.prog G 1 none k_kit_Opened_r7 ⟨_, opH p g bs, []⟩ _
      refine areg_wk' (List.cons_ne_nil _ _) (ρ' := tsets 121 (opB p.cs.length i (i % p.w) r)) (by simp [go_sem, opB]) ?_
      refine op_all hlen hn hbs h4 fun b => ?_
      refine areg_last 3000 ?_
      simp only [opA5, k_kit_Opened_r7, List.drop_succ_cons, List.drop_zero, opC, opB, opH, List.cons_append, List.nil_append, go_sem, h5, n0, hgb, hbset, bv_len, h6]
      exact ihn b _ (by simp [go_sem])
    · have h5 : ¬ (i : Int) < p.cs.length := by omega
      simp only [opH, go_sem, Pl.a, Pl.c4, iv_len, h5, h3]
      exact ih (r + 1, bs) (by dsimp only; omega) ⟨h1, hbs⟩ _ (by simp [go_sem])
  · have h2 : ¬ (r : Int) < p.cs.length := by omega
    simp only [opH, go_sem, Pl.a, Pl.c4, iv_len, h2]
    clear ih
    refine loop_ind k_kit_Opened_r17.eq_1 (fun a : Nat × List Int => a.1 ≤ p.cs.length ∧ Opd p.cs a.2) (fun a => p.cs.length - a.1)
      (fun a => (tsets 121 [(1, .ptr 1 0 0 1), (2, .ptr 2 0 0 1), (3, .sl 3 0 p.cs.length), (7, .int .i64 a.1)], [some (.cells g 1 (iv a.2)), some (.cells false 4 [p.a (.sl 0 0 p.cs.length)]), some (.cells false 4 [.agg [.int .i64 0, .int .i64 0, .bool false, .nilsl]]), some (.cells false 1 (bv bs))])) (0, p.cs) ⟨Nat.zero_le _, hOpd0⟩ (by simp [go_sem]) rfl ?_
    rintro ⟨i, l⟩ ⟨hi, hl⟩ ih
    dsimp only at hi hl ih ⊢
    by_cases h4 : i < p.cs.length
    · have h5 : (i : Int) < p.cs.length := by omega
      have h6 := idx_next h4 (by omega)
      have n0 : ¬ (i : Int) < 0 := by omega
      have hgb := bv_get (bs := bs) (c := i) (by omega)
      have hgl := iv_get (l := l) (i := i) (by rw [hl.1]; exact h4)
      have hl1 := hl.1
      have ihn := fun l' h => ih (i + 1, l') (by dsimp only; omega) ⟨h4, h⟩
      clear ih
      generalize bs.getD i false = b at *
      cases b with
      | true =>
        simp only [go_sem, Pl.a, Pl.c4, iv_len, hl1, h5, n0, hgb, h6]
        exact ihn l hl _ (by simp [go_sem])
      | false =>
        simp only [go_sem, Pl.a, Pl.c4, iv_len, hl1, h5, n0, hgb, hgl, iv_set, h6]
        refine ihn (l.set i 1) ⟨by rw [List.length_set]; exact hl1, fun j hj => ?_⟩ _ (by simp [go_sem])
        rw [gt_set _ _ _ _ (by rw [hl1]; exact h4)]
        split
        · exact .inr rfl
        · exact hl.2 j hj
    · have h5 : ¬ (i : Int) < p.cs.length := by omega
      have hl1 := hl.1
      simp only [go_sem, Pl.a, Pl.c4, iv_len, hl1, h5]
      refine ⟨l, hl, fun i => i, fun i hi => rfl, fun i k hi hk h => h, by simp [Pl.a, Pl.c4, ren, rens], fun i x hx => ?_⟩
      match i, hx with
      | 0, hx => simp at hx; subst hx; rw [Row.ren_same (iv_row _ _ _)]; rfl
end Go.Proofs

namespace Go.Proofs
open Go Go.Sx
attribute [local irreducible] Run

section
variable {P : Program} {G : Ctx} {g : FuncId} {args largs : List AVal} {H : Heap} {α : Type} {Φ : α → Prop} {r : α → AVal} {k : Nat} {rd : Option Nat} {R : Runner} {l : List AOper} {fs : List Sx.Frame} {ρ : List AVal} {ms : List Nat} {Q : Sx.Goal} {dst : Option Nat}
theorem cE1 {x0 : Row} {x' : α → Row} {j0 : Nat} (h : AnsE P g largs [some x0] Φ r fun a => [some (x' a)]) (hargs : args = largs.map (ren (nth [j0]))) (hb : Bels (· < 1) largs)
    (h0 : H[j0]? = some (some x0)) (hx0 : x0.bel (fun _ => False)) (hwf : ∀ a, Φ a → Bel (· < 1) (r a) ∧ (x' a).bel (fun _ => False)) (hk : k ≤ H.length) (hms : ∀ q ∈ ms, q ≠ j0 ∧ H[q]? = some (some .dfr))
    (hK : ∀ a, Φ a → R (.ops l) fs ⟨setD ρ dst (ren (fun _ => j0) (r a)), H.set j0 (some (x' a)), ms⟩ Q) : CallR P G k R g args dst l fs ρ H ms Q := by
  have hlt0 := (List.getElem?_eq_some_iff.1 h0).1
  have e : ∀ a, Φ a → outΔ (outσ [j0] H.length) 0 [some (x' a)] = [(j0, x' a)] := fun a ha => by
    simp only [outΔ, Row.ren_same (hwf a ha).2]
    rfl
  refine callE h [j0] (by simp) ⟨by rw [Row.ren_same hx0]; exact h0, trivial⟩ hargs hb ⟨bel_mono_row hx0 fun _ h => h.elim, trivial⟩
    (fun a ha => ⟨by simp, (hwf a ha).1.mono fun q hq => by simpa using hq, bel_mono_row (hwf a ha).2 fun _ h => h.elim, trivial⟩) (by simpa using hlt0) hk (fun a ha q hq => ?_) fun a ha => ?_
  · rw [e a ha]
    exact ⟨by simpa using (hms q hq).1, (hms q hq).2⟩
  · rw [e a ha]
    have e2 : ren (outσ [j0] H.length) (r a) = ren (fun _ => j0) (r a) := ren_agree (S := fun q => q < 1) (fun q hq => by
      have hq0 : q = 0 := by omega
      rw [hq0]; simp [outσ, nth]) (hwf a ha).1
    rw [e2]
    simp only [Heap.puts, put_lt hlt0]
    exact hK a ha
end

def plA (w h : Nat) (rd : Bool) (d : Int) : Heap := [some (Dr d), some (.cells false 4 [.agg [.int .i64 0, .int .i64 0, .bool false, .nilsl]]), some (.cells false 4 [.agg [.int .i64 w, .int .i64 h, .bool rd, .nilsl]])]
def plB (w h : Nat) (rd : Bool) (d : Int) (l : List Int) (g : Option Row) : Heap := [some (Dr d), some (.cells false 4 [.agg [.int .i64 0, .int .i64 0, .bool false, .nilsl]]), some (.cells false 4 [.agg [.int .i64 w, .int .i64 h, .bool rd, .sl 4 0 l.length]]), g, some (.cells true 1 (iv l))]
theorem iv_app (l : List Int) (c : Int) : iv l ++ [.int .i64 c] = iv (l ++ [c]) := by simp [iv]

structure PlMade (a b : Int) (p : Pl) : Prop where
  ok : PlOK p
  w : p.w ≤ a
  h : p.h ≤ b
  le : ∀ c ∈ p.cs, 0 ≤ c ∧ c ≤ 3
  first : 1 ≤ gt p.cs 0

def Cel (l : List Int) : Prop := ∀ c ∈ l, 0 ≤ c ∧ c ≤ 3
theorem Cel.snoc {l : List Int} {c : Int} (h : Cel l) (hc : 0 ≤ c ∧ c ≤ 3) : Cel (l ++ [c]) := fun d hd => by
  rcases List.mem_append.1 hd with hd | hd
  · exact h d hd
  · simp at hd; subst hd; exact hc

theorem made_of {w h : Nat} {rd : Bool} {a b : Int} {l l' : List Int} (hw : 1 ≤ w ∧ w ≤ 16 ∧ w ≤ a) (hh : 1 ≤ h ∧ h ≤ 16 ∧ h ≤ b) (hl : l.length = w * h) (hc : Cel l) (hf : 1 ≤ gt l 0) (ho : Opd l l') : PlMade a b ⟨w, h, rd, l'⟩ := by
  have hpos := Nat.mul_pos hw.1 hh.1
  have hce : ∀ c ∈ l', 0 ≤ c ∧ c ≤ 3 := fun c hcm => by
    obtain ⟨i, hi, rfl⟩ := List.mem_iff_getElem.1 hcm
    have hi' : i < l.length := by rw [← ho.1]; exact hi
    have e : gt l' i = l'[i] := by unfold gt; rw [List.getD_eq_getElem?_getD, List.getElem?_eq_getElem hi]; rfl
    rw [← e]
    rcases ho.2 i hi' with h | h
    · rw [h]; exact hc _ (gt_mem hi')
    · rw [h]; omega
  have hf' : 1 ≤ gt l' 0 := by
    rcases ho.2 0 (by omega) with h | h
    · rw [h]; exact hf
    · rw [h]; omega
  refine ⟨⟨⟨hw.1, hw.2.1⟩, ⟨hh.1, hh.2.1⟩, by rw [ho.1]; exact hl, fun c h => by have := hce c h; omega, 0, hpos, ?_⟩, hw.2.2, hh.2.2, hce, hf'⟩
  show gt l' 0 ≠ 0
  omega

set_option maxHeartbeats 4000000 in
theorem PlanOf_ok (w0 : Int) (a b : Int) (ha : 1 ≤ a ∧ a ≤ 16) (hb : 1 ≤ b ∧ b ≤ 16) : AnsE Try.prog n_kit_PlanOf [.ptr 0 0 0 1, .int .i64 a, .int .i64 b] [some (Dr w0)] (fun q : Int × Pl => PlMade a b q.2) (fun q => q.2.a (.sl 1 0 q.2.cs.length))
    (fun q => [some (Dr q.1), some (.cells true 1 (iv q.2.cs))]) := by
  refine AnsE.keep (run_fn e_kit_PlanOf fun G => ?_) (fun q hq => ⟨by simp, by simp [go_sem, Pl.a, Pl.c4], by simp only [go_sem], iv_row _ _ _, trivial⟩)
  have b1 := btw_in (w := w0) (show (1 : Int) ≤ a by omega)
  have b2 := btw_in (w := dstep w0) (show (1 : Int) ≤ b by omega)
  have t1 := between_ok w0 1 a (by omega) (by omega) (by omega)
  have t2 := between_ok (dstep w0) 1 b (by omega) (by omega) (by omega)
  have t3 := One_ok (dstep (dstep w0)) 2 (by omega)
  generalize btw w0 1 a = wi at *
  generalize btw (dstep w0) 1 b = hi at *
  generalize (upto (dstep (dstep w0)) 2 == 0) = rd at *
  obtain ⟨w, rfl⟩ : ∃ w : Nat, wi = w := ⟨wi.toNat, by omega⟩
  obtain ⟨h, rfl⟩ : ∃ h : Nat, hi = h := ⟨hi.toNat, by omega⟩
  have hN : w * h ≤ 256 := by have := Nat.mul_le_mul (show w ≤ 16 by omega) (show h ≤ 16 by omega); omega
  have hN1 : 1 ≤ w * h := Nat.mul_pos (by omega) (by omega)
  have em : IntKind.i64.wrap ((w : Int) * h) = ((w * h : Nat) : Int) := by rw [w64 (by push_cast at *; omega)]; push_cast; rfl
  simp only [go_sem]
  refine cD t1 ?_
  simp only [go_sem]
  refine cD t2 ?_
  simp only [go_sem]
  refine cD t3 ?_
  simp only [go_sem]
  generalize dstep (dstep (dstep w0)) = d0
  refine loop_ind k_kit_PlanOf_r9.eq_1 (fun q : Nat × Int × List Int × Heap => q.1 ≤ w * h ∧ q.2.2.1.length = q.1 ∧ Cel q.2.2.1 ∧ ((q.2.2.1 = [] ∧ q.2.2.2 = plA w h rd q.2.1) ∨ (q.2.2.1 ≠ [] ∧ ∃ g X, q.2.2.2 = plB w h rd q.2.1 q.2.2.1 g ++ X))) (fun q => w * h - q.1)
    (fun q => (tsets 48 [(0, .ptr 0 0 0 1), (6, .ptr 1 0 0 1), (7, .ptr 2 0 0 1), (8, .int .i64 q.1)], q.2.2.2)) (0, d0, [], plA w h rd d0) ⟨Nat.zero_le _, rfl, fun c hc => by simp at hc, .inl ⟨rfl, rfl⟩⟩ (by simp [go_sem]) rfl ?_
  rintro ⟨i, d, l, H⟩ ⟨hi, hl, hc, hH⟩ ih
  dsimp only at hi hl hc hH ih ⊢
  by_cases h1 : i < w * h
  · have h2 : (i : Int) < ((w * h : Nat) : Int) := by omega
    have h3 := idx_next h1 (by omega)
    have p1 := One_ok d 3 (by omega)
    have p2 := between_ok (dstep d) 1 3 (by omega) (by omega) (by omega)
    have p3 := btw_in (w := dstep d) (show (1 : Int) ≤ 3 by omega)
    generalize btw (dstep d) 1 3 = c at *
    have ihn := fun d' c' (hc' : 0 ≤ c' ∧ c' ≤ 3) g X => ih (i + 1, d', l ++ [c'], plB w h rd d' (l ++ [c']) g ++ X) (by dsimp only; omega) ⟨h1, by simp [hl], hc.snoc hc', .inr ⟨by simp, g, X, rfl⟩⟩
    clear ih
    simp only [plB, List.length_append, List.length_cons, List.length_nil, Nat.zero_add, List.cons_append, List.nil_append] at ihn
    rcases hH with ⟨rfl, rfl⟩ | ⟨hne, g, X, rfl⟩
    · simp only [List.length_nil, Nat.zero_add, List.nil_append] at ihn
      simp only [plA, go_sem, em, h2]
      refine cD p1 ?_
      cases hcase : (upto d 3 == 0) with
      | true =>
        simp only [go_sem]
        refine cD p2 ?_
        simp only [go_sem, h3]
        exact ⟨by decide, ihn _ c (by omega) _ [] _ (by simp [go_sem])⟩
      | false =>
        simp only [go_sem, h3]
        exact ⟨by decide, ihn _ 0 (by omega) _ [] _ (by simp [go_sem])⟩
    · simp only [plB, List.cons_append, List.nil_append, go_sem, em, h2]
      refine cD p1 ?_
      cases hcase : (upto d 3 == 0) with
      | true =>
        simp only [go_sem]
        refine cD p2 ?_
        simp only [go_sem, h3, iv_len, iv_app]
        exact ⟨by omega, ihn _ c (by omega) _ _ _ (by simp [go_sem])⟩
      | false =>
        simp only [go_sem, h3, iv_len, iv_app]
        exact ⟨by omega, ihn _ 0 (by omega) _ _ _ (by simp [go_sem])⟩
  · have h2 : ¬ (i : Int) < ((w * h : Nat) : Int) := by omega
    have hle : l.length = w * h := by omega
    have hne : l ≠ [] := fun h => by rw [h] at hle; simp at hle; omega
    obtain ⟨g, X, rfl⟩ : ∃ g X, H = plB w h rd d l g ++ X := by
      rcases hH with ⟨h, _⟩ | ⟨_, h⟩
      · exact absurd h hne
      · exact h
    have hg0 := iv_get (l := l) (i := 0) (by omega)
    have hl0 : (0 : Int) < l.length := by omega
    simp only [plB, List.cons_append, List.nil_append, go_sem, em, h2, iv_len, hg0, hl0]
    have hl0' : 0 < l.length := by omega
    have hc0 := hc _ (gt_mem hl0')
    have hmx : (1 : Int) ≤ (if gt l 0 > 1 then gt l 0 else 1) ∧ (if gt l 0 > 1 then gt l 0 else 1) ≤ 3 := by split <;> omega
    rw [iv_set]
    generalize (if gt l 0 > 1 then gt l 0 else 1) = m at *
    have hc1 : Cel (l.set 0 m) := fun c hcm => by
      rcases List.mem_or_eq_of_mem_set hcm with h | h
      · exact hc c h
      · subst h; omega
    have hf1 : 1 ≤ gt (l.set 0 m) 0 := by rw [gt_set _ _ _ _ hl0', if_pos rfl]; exact hmx.1
    have hl1 : (l.set 0 m).length = w * h := by rw [List.length_set]; exact hle
    have hll : l.length = (l.set 0 m).length := by simp
    rw [hll]
    generalize l.set 0 m = l1 at *
    have hO := Opened_ok (p := ⟨w, h, rd, l1⟩) hl1 (by show l1.length ≤ _; omega) (by show 1 ≤ w; omega) true
    refine cE1 hO (j0 := 4) rfl (by simp [go_sem, Pl.a, Pl.c4]) rfl (iv_row _ _ _) (fun a ha => ⟨by simp [go_sem, Pl.a, Pl.c4], iv_row _ _ _⟩) (by simp) (by simp) fun l' hl' => ?_
    simp only [go_sem, Pl.a, Pl.c4, ren, rens]
    refine ⟨(d, ⟨w, h, rd, l'⟩), made_of (by omega) (by omega) hl1 hc1 hf1 hl', ?_⟩
    refine kept_new (A := [some (Dr d)]) 1 4 rfl rfl (by omega) ?_ (fun i x hx => ?_) (iv_row _ _ _) rfl
    · simp only [Pl.a, Pl.c4, ren, rens, hl'.1]; rfl
    · match i, hx with
      | 0, hx => simp at hx; subst hx; exact ⟨dr_bel _ _, rfl⟩
end Go.Proofs

namespace Go.Proofs
open Go Go.Sx
def yes : Option (AVal × Heap) → Bool
  | some (.bool b, _) => b
  | _ => false
theorem yes_ans {P : Program} (hm : P.follows .mixedOrders = true) {tab : Nat → Option AFun} (hT : ∀ g af, tab g = some af → EntryOK P g af) {m n g : Nat} (h : yes (exFn tab m n g [] []) = true) : Ans P g [] [] (.bool true) [] := by
  match hx : exFn tab m n g [] [] with
  | none => rw [hx] at h; cases h
  | some (v, H') =>
    rw [hx] at h
    cases v <;> try (cases h; done)
    rename_i b
    have hb : b = true := h
    subst hb
    exact (spec_ex hm hT hx).mono fun v H'' hv => ⟨hv.1, H'', rfl⟩
theorem awake_yes : yes (exFn tab 3000 40 n_law01_awake [] []) = true := by kernel_rfl
theorem awake_ok : Ans Try.prog n_law01_awake [] [] (.bool true) [] := yes_ans mixed tab_ok awake_yes
end Go.Proofs

namespace Go.Proofs
open Go Go.Sx
attribute [local irreducible] Run

section
variable {P : Program} {G : Ctx} {g : FuncId} {args : List AVal} {H : Heap} {k : Nat} {rd : Option Nat} {R : Runner} {l : List AOper} {fs : List Sx.Frame} {ρ : List AVal} {ms : List Nat} {Q : Sx.Goal} {dst : Option Nat}
end

theorem Same_ok {a b : List Int} (hlen : a.length ≤ 1000000) : Ans Try.prog n_kit_Same [vw a, vw b] [] (.bool (decide (a = b))) [] := by
  refine spec_run e_kit_Same fun G => ?_
  by_cases hl : a.length = b.length
  rotate_left
  · have hl' : ((a.length : Int) != b.length) = true := by simp; omega
    have hne : decide (a = b) = false := decide_eq_false fun h => hl (by rw [h])
    simp only [go_sem, vw, List.length_map, hl', hne]
  have hl' : ((a.length : Int) != b.length) = false := by simp; omega
  simp only [go_sem, vw, List.length_map, hl']
  refine loop_ind k_kit_Same_r8.eq_1 (fun q : Nat × Heap => q.1 ≤ a.length ∧ ∀ j, j < q.1 → gt a j = gt b j) (fun q => a.length - q.1)
    (fun q => (tsets 26 [(0, vw a), (1, vw b), (5, .int .i64 q.1)], q.2)) (0, []) ⟨Nat.zero_le _, fun j hj => absurd hj (Nat.not_lt_zero _)⟩ (by simp [go_sem, vw]) rfl ?_
  rintro ⟨i, X⟩ ⟨hi, he⟩ ih
  dsimp only at hi he ih ⊢
  by_cases h1 : i < a.length
  · have h2 : (i : Int) < a.length := by omega
    have h2b : (i : Int) < b.length := by omega
    have h3 := idx_next h1 (by omega)
    have n0 : ¬ (i : Int) < 0 := by omega
    have hx := gt_get h1
    have hy := gt_get (l := b) (i := i) (by omega)
    by_cases hq : gt a i = gt b i
    · have hq' : (gt a i != gt b i) = false := by simp [hq]
      have ihn := fun X => ih (i + 1, X) (by dsimp only; omega) ⟨h1, fun j hj => by
        by_cases e : j = i
        · subst e; exact hq
        · exact he j (by dsimp only at hj; omega)⟩
      generalize gt a i = x at *
      generalize gt b i = y at *
      simp only [go_sem, vw, List.length_map, h2, h2b, n0, hx, hy, hq', h3]
      exact ihn _ _ (by simp [go_sem, vw])
    · have hq' : (gt a i != gt b i) = true := by simp [hq]
      have hne : decide (a = b) = false := decide_eq_false fun h => hq (by rw [h])
      rw [hne]
      generalize gt a i = x at *
      generalize gt b i = y at *
      simp only [go_sem, vw, List.length_map, h2, h2b, n0, hx, hy, hq']
  · have h2 : ¬ (i : Int) < a.length := by omega
    have hab : a = b := gt_ext hl fun j hj => he j (by omega)
    rw [decide_eq_true hab]
    simp only [go_sem, vw, List.length_map, h2]

def fldW (lo hi : List Int) (s : Nat) (t : Bool) : AVal := .agg [vw lo, vw hi, .int .i64 s, .bool t]
end Go.Proofs

namespace Go.Proofs
open Go Go.Sx
attribute [local irreducible] Run

end Go.Proofs

namespace Go.Proofs
open Go Go.Sx
attribute [local irreducible] Run

section
variable {P : Program} {g : FuncId} {args largs : List AVal} {H : Heap} {R : Runner} {l : List AOper} {fs : List Sx.Frame} {ρ : List AVal} {ms : List Nat} {Q : Sx.Goal} {ao : AOper} {lo hi : Nat} {tr : List (List Nat × List Nat)} {ss : List (List AOper)}
end

end Go.Proofs

namespace Go.Proofs
open Go Go.Sx

end Go.Proofs

namespace Go.Proofs
open Go Go.Sx
attribute [local irreducible] Run

theorem VolsOf.len {p : Pl} {a b : Int} (hp : PlMade a b p) {v : List Int} (h : VolsOf p v) : (v.length : Int) = gmax p.cs := by
  have := hp.ok.max
  have := h.1
  omega
theorem pla_bel (p : Pl) (j n : Nat) (S : Nat → Prop) (h : S j) : Bel S (p.a (.sl j 0 n)) := by unfold Pl.a Pl.c4; simp only [go_sem, h]

end Go.Proofs

namespace Go.Proofs
open Go Go.Sx

end Go.Proofs

namespace Go.Proofs
open Go Go.Sx
attribute [local irreducible] Run

end Go.Proofs

namespace Go.Proofs
open Go Go.Sx

end Go.Proofs

namespace Go.Proofs
open Go Go.Sx
attribute [local irreducible] Run

theorem mem_gt {l : List Int} {x : Int} (h : x ∈ l) : ∃ i, i < l.length ∧ gt l i = x := by
  obtain ⟨i, hi, e⟩ := List.mem_iff_getElem.1 h
  exact ⟨i, hi, by unfold gt; rw [List.getD_eq_getElem?_getD, List.getElem?_eq_getElem hi, ← e]; rfl⟩
def mixTo (a b : List Int) (i : Nat) : List Int := a.take i ++ b.drop i
theorem mix_len {a b : List Int} (h : a.length = b.length) {i : Nat} (hi : i ≤ a.length) : (mixTo a b i).length = a.length := by simp [mixTo]; omega
theorem mix_set {a b : List Int} (h : a.length = b.length) {i : Nat} (hi : i < a.length) : (mixTo a b i).set i (gt a i) = mixTo a b (i + 1) := by
  unfold mixTo
  rw [List.set_append_right _ _ (by simp; omega)]
  have e1 : i - (a.take i).length = 0 := by simp; omega
  have e2 : b.drop i = gt b i :: b.drop (i + 1) := drop_step (by omega)
  rw [e1, e2, List.set_cons_zero, List.take_add_one, gt_get hi]
  simp
theorem mix_gt {a b : List Int} (h : a.length = b.length) {i : Nat} (hi : i < a.length) : gt (mixTo a b i) i = gt b i := by
  unfold mixTo gt
  rw [List.getD_eq_getElem?_getD, List.getD_eq_getElem?_getD, List.getElem?_append_right (by simp; omega), List.getElem?_drop]
  congr 2
  simp; omega
end Go.Proofs

namespace Go.Proofs
open Go Go.Sx

end Go.Proofs

namespace Go.Proofs
open Go Go.Sx
attribute [local irreducible] Run

theorem wsum_if (c : Prop) [Decidable c] (n : Nat) (k : Int) (f : Nat → Int) : wsum (if c then [(n, k)] else []) f = if c then k * f n else 0 := by
  split <;> simp [wsum]
theorem wsum_nbs (p : Pl) {x y : Nat} (hx : x < p.w) (f : Nat → Int) : wsum (nbs p (y * p.w + x)) f =
    (if 0 < x then besW p.rd (x - 1) * f (y * p.w + (x - 1)) else 0) + ((if x + 1 < p.w then besW p.rd x * f (y * p.w + (x + 1)) else 0) +
    ((if 0 < y then abvW p.rd x * f ((y - 1) * p.w + x) else 0) + (if y + 1 < p.h then abvW p.rd x * f ((y + 1) * p.w + x) else 0))) := by
  rw [nbs_at p hx, wsum_append, wsum_append, wsum_append, wsum_if, wsum_if, wsum_if, wsum_if]

end Go.Proofs

namespace Go.Proofs
open Go Go.Sx
attribute [local irreducible] Run

theorem mxL_or : ∀ (l : List Int) (a : Int), mxL a l = a ∨ mxL a l ∈ l
  | [], _ => .inl rfl
  | c :: l, a => by
    rw [mxL]
    rcases mxL_or l (if a < c then c else a) with h | h
    · rw [h]; split
      · exact .inr (by simp)
      · exact .inl rfl
    · exact .inr (by simp [h])
end Go.Proofs

namespace Go.Proofs
open Go Go.Sx
attribute [local irreducible] Run

def chC (p : Pl) (a : List Int) (e : Int) (i : Nat) : Nat → Int := fun n => if gt p.cs n = e then 0 else gt a i - gt a n
def chTo (p : Pl) (a : List Int) (e : Int) : Nat → Int
  | 0 => 0
  | i + 1 => chTo p a e i + if gt p.cs i = e then wsum (nbs p i) (chC p a e i) else 0
def chg (p : Pl) (a : List Int) (e : Int) : Int := chTo p a e (p.w * p.h)
theorem chC_bd {p : Pl} {a : List Int} (ha : AtOK p a) (e : Int) {i n : Nat} (hi : i < p.w * p.h) (hn : n < p.w * p.h) : -2000000 ≤ chC p a e i n ∧ chC p a e i n ≤ 2000000 := by
  have h1 := ha.bd i hi
  have h2 := ha.bd n hn
  unfold chC; split <;> omega
theorem chS_bd {p : Pl} (hp : PlOK p) {a : List Int} (ha : AtOK p a) (e : Int) {i : Nat} (hi : i < p.w * p.h) (k : Nat) : -256000000 ≤ wsum ((nbs p i).take k) (chC p a e i) ∧ wsum ((nbs p i).take k) (chC p a e i) ≤ 256000000 := by
  have hN := nbs_in p hp.w.2 hi
  have hl := nbs_len p i
  have h1 := wtot_bd (l := (nbs p i).take k) fun q hq => ⟨(hN q (List.mem_of_mem_take hq)).2.1, (hN q (List.mem_of_mem_take hq)).2.2.1⟩
  have h2 := wsum_in (l := (nbs p i).take k) (f := chC p a e i) (a := -2000000) (b := 2000000) fun q hq => by
    obtain ⟨k1, k2, _⟩ := hN q (List.mem_of_mem_take hq)
    exact ⟨by omega, chC_bd ha e hi k1⟩
  have h3 : ((nbs p i).take k).length ≤ 4 := by rw [List.length_take]; omega
  omega
theorem chTo_bd {p : Pl} (hp : PlOK p) {a : List Int} (ha : AtOK p a) (e : Int) : ∀ i, i ≤ p.w * p.h → -256000000 * (i : Int) ≤ chTo p a e i ∧ chTo p a e i ≤ 256000000 * (i : Int)
  | 0, _ => by simp [chTo]
  | i + 1, h => by
    have ih := chTo_bd hp ha e i (by omega)
    have h1 := chS_bd hp ha e (show i < p.w * p.h by omega) (nbs p i).length
    rw [List.take_length] at h1
    rw [chTo]
    push_cast
    split <;> omega

theorem freed_get : ∀ (ms : List Nat) (H : Heap) {j : Nat}, (∀ q ∈ ms, q ≠ j) → (freed H ms)[j]? = H[j]?
  | [], _, _, _ => rfl
  | m :: ms, H, j, h => by
    rw [freed, freed_get ms _ fun q hq => h q (by simp [hq]), List.getElem?_set_ne (h m (by simp))]
def chF (p : Pl) (f : AVal) (e lo hi : Int) : Heap :=
  [some (.cells false 4 [p.v]), some (.cells false 4 [f]), some (.cells false 1 [.int .i64 e]), some (.cells false 2 [.agg [.int .i64 0, .int .i64 0]]), some (.cells false 2 [.agg [.int .i64 lo, .int .i64 hi]])]
def chH (p : Pl) (f : AVal) (e lo hi : Int) (X T Y : Heap) : Heap := chF p f e lo hi ++ (X ++ (T ++ Y))
theorem chH_get (p : Pl) (f : AVal) (e lo hi : Int) (X T Y : Heap) {j : Nat} (hj : j < T.length) : (chH p f e lo hi X T Y)[X.length + 5 + j]? = T[j]? := by
  unfold chH
  rw [List.getElem?_append_right (by simp [chF]; omega), List.getElem?_append_right (by simp [chF]; omega), List.getElem?_append_left (by simp [chF]; omega)]
  congr 1
  simp [chF]; omega
theorem chH_old (p : Pl) (f : AVal) (e lo hi : Int) (X T Y : Heap) {k : Nat} (hk : k < X.length) : (chH p f e lo hi X T Y)[k + 5]? = X[k]? := by
  unfold chH
  rw [List.getElem?_append_right (by simp [chF]), List.getElem?_append_left (by simp [chF]; exact hk)]
  congr 1
theorem chH_set (p : Pl) (f : AVal) (e lo hi : Int) (a0 a b c d : Option Row) (X Y : Heap) (y : Option Row) : (chH p f e lo hi X [a0, a, b, c, d] Y).set (X.length + 9) y = chH p f e lo hi X [a0, a, b, c, y] Y := by
  unfold chH
  rw [List.set_append_right _ _ (by simp [chF]), List.set_append_right _ _ (by simp [chF]), List.set_append_left _ _ (by simp [chF])]
  have e : X.length + 9 - (chF p f e lo hi).length - X.length = 4 := by simp only [chF, List.length_cons, List.length_nil]; omega
  rw [e]; rfl
theorem chH_put (p : Pl) (f : AVal) (e lo hi : Int) (a0 a b c d : Option Row) (X Y : Heap) (y : Row) : Heap.put (chH p f e lo hi X [a0, a, b, c, d] Y) (X.length + 9) y = chH p f e lo hi X [a0, a, b, c, some y] Y := by
  rw [put_lt (by simp [chH, chF]; omega)]
  exact chH_set _ _ _ _ _ _ _ _ _ _ _ _ _
theorem chH_len (p : Pl) (f : AVal) (e lo hi : Int) (X T Y : Heap) : (chH p f e lo hi X T Y).length = X.length + T.length + Y.length + 5 := by
  simp [chH, chF]; omega
def chT (p : Pl) (n m : Nat) : List (Nat × AVal) := [(3, .ptr 0 0 0 1), (4, .ptr 1 0 0 1), (5, .ptr 2 0 0 1), (6, .ptr 3 0 0 1), (7, .ptr 4 0 0 1), (8, .ptr (m + 5) 0 0 1), (13, vw p.cs), (14, .int .i64 p.cs.length), (15, .int .i64 n), (25, .fn (.func n_field_neighbours_1) [] [.ptr (m + 7) 0 0 1, .ptr (m + 6) 0 0 1])]
def chL (p : Pl) (n m : Nat) (st : LoopState) (pe : Option ACode) : Row := .loop (tsets 71 (chT p n m)) [26, 27] k_field_charge_r12 k_field_charge_r13 (m + 8) st pe
def chR (p : Pl) (n m : Nat) (st : LoopState) : Heap := [some (.cells false 1 [.int .i64 n]), some (.cells false 4 [p.v]), some (.cells false 1 [.int .i64 n]), some .dfr, some (chL p n m st none)]

set_option maxHeartbeats 4000000 in
set_option maxRecDepth 8000 in
theorem charge_ok {p : Pl} (hp : PlOK p) {la ha : List Int} (hla : AtOK p la) (hha : AtOK p ha) (s : Nat) (t : Bool) (e : Int) : Ans Try.prog n_field_charge [p.v, fldW la ha s t, .int .i64 e] [] (Rg.v ⟨chg p ha e, chg p la e⟩) [] := by
  have hw := hp.w; have hh := hp.h
  have hN : p.w * p.h ≤ 256 := Nat.mul_le_mul hw.2 hh.2
  have hlen := hp.len
  refine spec_run e_field_charge fun G => ?_
  simp only [go_sem, Pl.v, Pl.a, Pl.c4, vw, fldW, List.length_map]
  refine loop_indM k_field_charge_r15.eq_1 (fun a : Nat × Heap × List Nat => a.1 ≤ p.cs.length ∧ a.2.2.Nodup ∧ ∀ q ∈ a.2.2, ∃ k, q = k + 5 ∧ a.2.1[k]? = some (some .dfr)) (fun a => p.cs.length - a.1)
    (fun a => (tsets 71 [(3, .ptr 0 0 0 1), (4, .ptr 1 0 0 1), (5, .ptr 2 0 0 1), (6, .ptr 3 0 0 1), (7, .ptr 4 0 0 1), (13, vw p.cs), (14, .int .i64 p.cs.length), (15, .int .i64 a.1)], chF p (fldW la ha s t) e (chTo p ha e a.1) (chTo p la e a.1) ++ a.2.1, a.2.2)) (0, [], []) ⟨Nat.zero_le _, List.nodup_nil, fun q hq => by simp at hq⟩ (by simp [go_sem, vw]) rfl rfl ?_
  rintro ⟨n, X, ms⟩ ⟨hn, hms1, hms2⟩ ih
  dsimp only at hn hms1 hms2 ih ⊢
  by_cases h1 : n < p.cs.length
  · have h2 : (n : Int) < p.cs.length := by omega
    have h3 := idx_next h1 (by omega)
    have n0 : ¬ (n : Int) < 0 := by omega
    have hnN : n < p.w * p.h := by rw [← hlen]; exact h1
    have hx := gt_get h1
    have b1 := chTo_bd hp hla e (n + 1) hnN
    have b2 := chTo_bd hp hha e (n + 1) hnN
    simp only [chTo] at b1 b2
    by_cases he : gt p.cs n = e
    · have he' : (gt p.cs n != e) = false := by simp [he]
      have hchT : chTo p la e (n + 1) = chTo p la e n + wsum (nbs p n) (chC p la e n) := by rw [chTo, if_pos he]
      have hchU : chTo p ha e (n + 1) = chTo p ha e n + wsum (nbs p n) (chC p ha e n) := by rw [chTo, if_pos he]
      have c1 := chTo_bd hp hla e n (by omega)
      have c2 := chTo_bd hp hha e n (by omega)
      have hdf : ∀ (L : Heap), ∀ q ∈ ms, (chF p (fldW la ha s t) e (chTo p ha e n) (chTo p la e n) ++ (X ++ L))[q]? = some (some .dfr) := fun L q hq => by
        obtain ⟨k, rfl, hk⟩ := hms2 q hq
        have hkl := (List.getElem?_eq_some_iff.1 hk).1
        have := chH_old p (fldW la ha s t) e (chTo p ha e n) (chTo p la e n) X [] L hkl
        unfold chH at this
        rw [List.nil_append] at this
        rw [this]; exact hk
      generalize chTo p la e n = ch0 at *
      generalize chTo p ha e n = cl0 at *
      simp only [chF, List.cons_append, List.nil_append]
      generalize hz : gt p.cs n = z at *
      simp only [go_sem, Pl.v, Pl.a, Pl.c4, vw, fldW, List.length_map, h2, n0, hx, he']
      refine cN2 (neighbours_ok p n) ?_ (hms := ?_)
      · simp only [go_sem, ren, rens]
        have hl : (chF p (fldW la ha s t) e cl0 ch0 ++ (X ++ [some (Row.cells false 1 [.int .i64 (n : Int)]), some (Row.cells false 4 [p.v]), some (Row.cells false 1 [.int .i64 (n : Int)])])).length = X.length + 8 := by simp [chF]
        show Mean Try.prog G 0 none _ _ ⟨_, chF p (fldW la ha s t) e cl0 ch0 ++ (X ++ [some (Row.cells false 1 [.int .i64 (n : Int)]), some (Row.cells false 4 [p.v]), some (Row.cells false 1 [.int .i64 (n : Int)])]), ms⟩ _
        refine rangeF 2000 (ρ := tsets 71 (chT p n X.length)) (by simp [go_sem, chT, vw]) (by simp only [go_sem, chT]; rfl)
          (R := fun v H' => v = .tup [] ∧ (H' = chH p (fldW la ha s t) e (cl0 + wsum (nbs p n) (chC p ha e n)) (ch0 + wsum (nbs p n) (chC p la e n)) X (chR p n X.length .ready) [] ∨ False)) ?_ (by simp) ?_
        · rw [hl]
          have hheap : chF p (fldW la ha s t) e cl0 ch0 ++ (X ++ [some (Row.cells false 1 [.int .i64 (n : Int)]), some (Row.cells false 4 [p.v]), some (Row.cells false 1 [.int .i64 (n : Int)])]) ++ [some .dfr] ++ [some (.loop (tsets 71 (chT p n X.length)) [26, 27] k_field_charge_r12 k_field_charge_r13 (X.length + 8) .ready none)] = chH p (fldW la ha s t) e cl0 ch0 X (chR p n X.length .ready) [] := by
            simp [chH, chR, chL]
          rw [hheap]
          have hit := nbs1_iter (G := G) hp hnN (r := X.length + 9) (jc := X.length + 7) (jp := X.length + 6) (N := X.length + 10) (Pre := fun k H => H = chH p (fldW la ha s t) e (cl0 + wsum ((nbs p n).take k) (chC p ha e n)) (ch0 + wsum ((nbs p n).take k) (chC p la e n)) X (chR p n X.length .ready) []) (Stop := fun _ => False) ⟨?_, ?_⟩
            (by rw [List.take_zero, wsum, wsum, Int.add_zero, Int.add_zero]) (by rw [chH_len]; simp [chR])
          · rw [List.take_length] at hit
            exact hit
          · rintro k H rfl
            exact ⟨by rw [chH_len]; simp [chR], chH_get _ _ _ _ _ X (chR p n X.length .ready) [] (j := 2) (by simp [chR]), chH_get _ _ _ _ _ X (chR p n X.length .ready) [] (j := 1) (by simp [chR])⟩
          · rintro k ⟨m, wt⟩ H hq rfl
            obtain ⟨hm, k2, k3, _⟩ := nbs_in p hw.2 hnN _ (List.mem_of_getElem? hq)
            dsimp only at hm k2 k3 ⊢
            have t1 : wsum ((nbs p n).take (k + 1)) (chC p ha e n) = wsum ((nbs p n).take k) (chC p ha e n) + wt * chC p ha e n m := wsum_take hq _
            have t2 : wsum ((nbs p n).take (k + 1)) (chC p la e n) = wsum ((nbs p n).take k) (chC p la e n) + wt * chC p la e n m := wsum_take hq _
            have d1 := chS_bd hp hha e hnN k
            have d2 := chS_bd hp hla e hnN k
            have d3 := chS_bd hp hha e hnN (k + 1)
            have d4 := chS_bd hp hla e hnN (k + 1)
            have hrow := fun u v => chH_get p (fldW la ha s t) e u v X (chR p n X.length .ready) [] (j := 4) (by simp [chR])
            have hmx := gt_get (l := p.cs) (i := m) (by omega)
            have ga := gt_get (l := la) (i := m) (by rw [hla.len]; exact hm)
            have gb := gt_get (l := ha) (i := m) (by rw [hha.len]; exact hm)
            have gc := gt_get (l := la) (i := n) (by rw [hla.len]; exact hnN)
            have gd := gt_get (l := ha) (i := n) (by rw [hha.len]; exact hnN)
            have q0 : ¬ (m : Int) < 0 := by omega
            have q1 : (m : Int) < p.cs.length := by omega
            have q2 : (m : Int) < la.length := by rw [hla.len]; omega
            have q3 : (m : Int) < ha.length := by rw [hha.len]; omega
            have q4 : (n : Int) < la.length := by rw [hla.len]; omega
            have q5 : (n : Int) < ha.length := by rw [hha.len]; omega
            have v1 := hla.bd n hnN
            have v2 := hha.bd n hnN
            have v3 := hla.bd m hm
            have v4 := hha.bd m hm
            have w1 : chC p ha e n m = if gt p.cs m = e then 0 else gt ha n - gt ha m := rfl
            have w2 : chC p la e n m = if gt p.cs m = e then 0 else gt la n - gt la m := rfl
            rw [w1] at t1
            rw [w2] at t2
            clear w1 w2
            generalize hR : (fun (v : AVal) (H' : Heap) => (v = .bool true ∧ H' = chH p (fldW la ha s t) e (cl0 + wsum ((nbs p n).take (k + 1)) (chC p ha e n)) (ch0 + wsum ((nbs p n).take (k + 1)) (chC p la e n)) X (chR p n X.length .ready) []) ∨ (v = .bool false ∧ False)) = R
            have hfin : R (.bool true) (chH p (fldW la ha s t) e (cl0 + wsum ((nbs p n).take (k + 1)) (chC p ha e n)) (ch0 + wsum ((nbs p n).take (k + 1)) (chC p la e n)) X (chR p n X.length .ready) []) := by rw [← hR]; exact .inl ⟨rfl, rfl⟩
            clear hR
            generalize wsum ((nbs p n).take (k + 1)) (chC p ha e n) = A1 at *
            generalize wsum ((nbs p n).take (k + 1)) (chC p la e n) = B1 at *
            generalize wsum ((nbs p n).take k) (chC p ha e n) = A0 at *
            generalize wsum ((nbs p n).take k) (chC p la e n) = B0 at *
            by_cases hme : gt p.cs m = e
            · rw [if_pos hme, Int.mul_zero, Int.add_zero] at t1 t2
              subst t1
              subst t2
              have hme' : (gt p.cs m != e) = false := by simp [hme]
              generalize gt p.cs m = zm at *
              refine roundW_run 500 k_field_charge_r12.eq_1 (hrow _ _) rfl (ρ' := tsets 71 (chT p n X.length ++ [(26, .int .i64 (m : Int)), (27, .int .i64 wt)])) rfl ?_
              simp only [go_sem, chT]
              refine roundMid_run 500 k_field_charge_r13.eq_1 (hrow _ _) (chH_put _ _ _ _ _ _ _ _ _ _ _ _ _) ?_
              have hci := fun u v => cells_at (chH_get p (fldW la ha s t) e u v X [some (.cells false 1 [.int .i64 n]), some (.cells false 4 [p.v]), some (.cells false 1 [.int .i64 n]), some .dfr, some (chL p n X.length .busy none)] [] (j := 0) (by simp))
              have hrow2 := fun u v => chH_get p (fldW la ha s t) e u v X [some (.cells false 1 [.int .i64 n]), some (.cells false 4 [p.v]), some (.cells false 1 [.int .i64 n]), some .dfr, some (chL p n X.length .busy none)] [] (j := 4) (by simp)
              have hput := fun u v => chH_put p (fldW la ha s t) e u v (some (.cells false 1 [.int .i64 n])) (some (.cells false 4 [p.v])) (some (.cells false 1 [.int .i64 n])) (some .dfr) (some (chL p n X.length .busy none)) X [] (chL p n X.length .ready none)
              simp only [chH, chF, Nat.add_zero, List.append_nil, List.cons_append, List.nil_append, Pl.v, Pl.a, Pl.c4, vw, fldW] at hci hrow2 hput hfin ⊢
              simp only [go_sem, hci, hmx, q0, q1, hme', List.length_map]
              refine roundEnd_on (hrow2 _ _) ?_
              exact Eq.mpr (congrArg (R (.bool true)) (hput _ _)) hfin
            · rw [if_neg hme] at t1 t2
              have hme' : (gt p.cs m != e) = true := by simp [hme]
              generalize gt p.cs m = zm at *
              generalize gt la n = y1 at *
              generalize gt ha n = y2 at *
              generalize gt la m = y3 at *
              generalize gt ha m = y4 at *
              have m1 : -64000000 ≤ wt * (y2 - y4) ∧ wt * (y2 - y4) ≤ 64000000 := by
                have h4 := Int.mul_le_mul_of_nonneg_left (show y2 - y4 ≤ 2000000 by omega) (show 0 ≤ wt by omega)
                have h5 := Int.mul_le_mul_of_nonneg_left (show -2000000 ≤ y2 - y4 by omega) (show 0 ≤ wt by omega)
                omega
              have m2 : -64000000 ≤ wt * (y1 - y3) ∧ wt * (y1 - y3) ≤ 64000000 := by
                have h4 := Int.mul_le_mul_of_nonneg_left (show y1 - y3 ≤ 2000000 by omega) (show 0 ≤ wt by omega)
                have h5 := Int.mul_le_mul_of_nonneg_left (show -2000000 ≤ y1 - y3 by omega) (show 0 ≤ wt by omega)
                omega
              have z1 : IntKind.i64.wrap (y2 - y4) = y2 - y4 := w64 (by omega)
              have z2 : IntKind.i64.wrap (y1 - y3) = y1 - y3 := w64 (by omega)
              have z3 : IntKind.i64.wrap (wt * (y2 - y4)) = wt * (y2 - y4) := w64 (by omega)
              have z4 : IntKind.i64.wrap (wt * (y1 - y3)) = wt * (y1 - y3) := w64 (by omega)
              have z5 : IntKind.i64.wrap (cl0 + A0 + wt * (y2 - y4)) = cl0 + A1 := by rw [w64 (by omega)]; omega
              have z6 : IntKind.i64.wrap (ch0 + B0 + wt * (y1 - y3)) = ch0 + B1 := by rw [w64 (by omega)]; omega
              clear t1 t2
              refine roundW_run 500 k_field_charge_r12.eq_1 (hrow _ _) rfl (ρ' := tsets 71 (chT p n X.length ++ [(26, .int .i64 (m : Int)), (27, .int .i64 wt)])) rfl ?_
              simp only [go_sem, chT]
              refine roundMid_run 500 k_field_charge_r13.eq_1 (hrow _ _) (chH_put _ _ _ _ _ _ _ _ _ _ _ _ _) ?_
              have hci := fun u v => cells_at (chH_get p (fldW la ha s t) e u v X [some (.cells false 1 [.int .i64 n]), some (.cells false 4 [p.v]), some (.cells false 1 [.int .i64 n]), some .dfr, some (chL p n X.length .busy none)] [] (j := 0) (by simp))
              have hrow2 := fun u v => chH_get p (fldW la ha s t) e u v X [some (.cells false 1 [.int .i64 n]), some (.cells false 4 [p.v]), some (.cells false 1 [.int .i64 n]), some .dfr, some (chL p n X.length .busy none)] [] (j := 4) (by simp)
              have hput := fun u v => chH_put p (fldW la ha s t) e u v (some (.cells false 1 [.int .i64 n])) (some (.cells false 4 [p.v])) (some (.cells false 1 [.int .i64 n])) (some .dfr) (some (chL p n X.length .busy none)) X [] (chL p n X.length .ready none)
              simp only [chH, chF, Nat.add_zero, List.append_nil, List.cons_append, List.nil_append, Pl.v, Pl.a, Pl.c4, vw, fldW] at hci hrow2 hput hfin ⊢
              simp only [go_sem, hci, hmx, q0, q1, hme', List.length_map, ga, gb, gc, gd, q2, q3, q4, q5, n0, z1, z2, z3, z4, z5, z6]
              refine roundEnd_on (hrow2 _ _) ?_
              exact Eq.mpr (congrArg (R (.bool true)) (hput _ _)) hfin
        · rintro v H' ⟨rfl, rfl | h⟩
          · rw [hl]
            refine ⟨fun q hq => ?_, _, _, _, _, _, _, _, chH_get _ _ _ _ _ X (chR p n X.length .ready) [] (j := 4) (by simp [chR]), by decide, ?_⟩
            · rcases List.mem_cons.1 hq with rfl | hq
              · exact chH_get _ _ _ _ _ X (chR p n X.length .ready) [] (j := 3) (by simp [chR])
              · obtain ⟨k, rfl, hk⟩ := hms2 q hq
                rw [chH_old _ _ _ _ _ _ _ _ (List.getElem?_eq_some_iff.1 hk).1]; exact hk
            · show Run Try.prog G 0 none 2000 (.out .normal) _ ⟨_, (chH p (fldW la ha s t) e _ _ X (chR p n X.length .ready) []).set (X.length + 9) none, _⟩ _
              unfold chR
              rw [chH_set]
              simp only [go_sem, chT, tsets, h3]
              have ihn := ih (n + 1, (X ++ ([some (.cells false 1 [.int .i64 n]), some (.cells false 4 [p.v]), some (.cells false 1 [.int .i64 n]), some .dfr, none] : Heap) : Heap), (X.length + 8) :: ms) (by dsimp only; omega)
              dsimp only at ihn
              rw [hchT, hchU] at ihn
              refine ihn ⟨h1, ?_, fun q hq => ?_⟩ _ (by simp [go_sem, vw])
              · refine List.nodup_cons.2 ⟨fun h => ?_, hms1⟩
                obtain ⟨k, hk1, hk2⟩ := hms2 _ h
                have := (List.getElem?_eq_some_iff.1 hk2).1
                omega
              · rcases List.mem_cons.1 hq with rfl | hq
                · refine ⟨X.length + 3, rfl, ?_⟩
                  rw [List.getElem?_append_right (by omega)]
                  simp
                · obtain ⟨k, hk1, hk2⟩ := hms2 q hq
                  exact ⟨k, hk1, by rw [List.getElem?_append_left (List.getElem?_eq_some_iff.1 hk2).1]; exact hk2⟩
          · exact h.elim
      · exact hdf [some (.cells false 1 [.int .i64 n])]
    · have he' : (gt p.cs n != e) = true := by simp [he]
      have ihn := ih (n + 1, X ++ [some (.cells false 1 [.int .i64 n])], ms) (by dsimp only; omega) ⟨h1, hms1, fun q hq => by
        obtain ⟨k, hk1, hk2⟩ := hms2 q hq
        exact ⟨k, hk1, by dsimp only; rw [List.getElem?_append_left (List.getElem?_eq_some_iff.1 hk2).1]; exact hk2⟩⟩
      simp only [chTo, if_neg he, Int.add_zero] at ihn
      simp only [chF, List.cons_append, List.nil_append] at ihn ⊢
      generalize gt p.cs n = z at *
      simp only [go_sem, Pl.v, Pl.a, Pl.c4, vw, fldW, List.length_map, h2, n0, hx, he', h3]
      exact ihn _ (by simp [go_sem, vw])
  · have h2 : ¬ (n : Int) < p.cs.length := by omega
    have hnN : n = p.w * p.h := by omega
    subst hnN
    have hne : ∀ q ∈ ms, q ≠ 3 := fun q hq => by obtain ⟨k, hk, _⟩ := hms2 q hq; omega
    have hc := fun L : Heap => freed_get ms (some (.cells false 4 [p.v]) :: some (.cells false 4 [fldW la ha s t]) :: some (.cells false 1 [.int .i64 e]) :: some (.cells false 2 [.agg [.int .i64 (chTo p ha e (p.w * p.h)), .int .i64 (chTo p la e (p.w * p.h))]]) :: L) hne
    have hc' := fun L : Heap => cells_at ((hc L).trans rfl)
    simp only [chF, go_sem, Pl.v, Pl.a, Pl.c4, vw, fldW, List.length_map, h2, List.cons_append, List.nil_append] at hc' ⊢
    simp only [hc', go_sem]
    exact ⟨hms1, rfl⟩
end Go.Proofs

namespace Go.Proofs
open Go Go.Sx
attribute [local irreducible] Run

def idxF (x : Int) : List Int → Nat → Int
  | [], _ => -1
  | c :: cs, i => if x = c then i else idxF x cs (i + 1)
theorem idxF_mem (x : Int) : ∀ (l : List Int) (i : Nat), 0 ≤ idxF x l i ↔ x ∈ l
  | [], i => by simp [idxF]
  | c :: cs, i => by
    rw [idxF]
    by_cases h : x = c
    · simp [h]
    · simp [h, idxF_mem x cs (i + 1)]

theorem Index_ok {l : List Int} (x : Int) (hlen : l.length ≤ 1000000) : Ans Try.prog n_slices_Index_int_int [vw l, .int .i64 x] [] (.int .i64 (idxF x l 0)) [] := by
  generalize hRES : idxF x l 0 = RES
  refine spec_run e_slices_Index_int_int fun G => ?_
  simp only [go_sem, vw]
  refine loop_ind k_slices_Index_int_int_r7.eq_1 (fun i : Nat => i ≤ l.length ∧ idxF x (l.drop i) i = RES) (fun i => l.length - i)
    (fun i => (tsets 19 [(0, vw l), (1, .int .i64 x), (7, .int .i64 l.length), (8, .int .i64 i)], [])) 0 ⟨Nat.zero_le _, by simpa using hRES⟩ (by simp [go_sem, vw]) rfl ?_
  rintro i ⟨hi, hm⟩ ih
  dsimp only at hi hm ih ⊢
  by_cases h1 : i < l.length
  · have h2 : (i : Int) < l.length := by omega
    have h3 := idx_next h1 (by omega)
    have n0 : ¬ (i : Int) < 0 := by omega
    have hx := gt_get h1
    rw [drop_step h1, idxF] at hm
    generalize gt l i = z at *
    by_cases hz : x = z
    · have hz' : (x == z) = true := by simp [hz]
      rw [if_pos hz] at hm
      simp only [go_sem, vw, List.length_map, h2, n0, hx, hz']
      rw [← hm]
    · have hz' : (x == z) = false := by simp [hz]
      rw [if_neg hz] at hm
      simp only [go_sem, vw, List.length_map, h2, n0, hx, hz', h3]
      exact ih (i + 1) (by omega) ⟨h1, hm⟩ _ (by simp [go_sem, vw])
  · have h2 : ¬ (i : Int) < l.length := by omega
    rw [drop_end (by omega), idxF] at hm
    simp only [go_sem, vw, List.length_map, h2]
    rw [← hm]

theorem Contains_ok {l : List Int} (x : Int) (hlen : l.length ≤ 1000000) : Ans Try.prog n_slices_Contains_int_int [vw l, .int .i64 x] [] (.bool (decide (x ∈ l))) [] := by
  have h := Index_ok x hlen
  have hm := idxF_mem x l 0
  refine spec_run e_slices_Contains_int_int fun G => ?_
  simp only [go_sem, vw]
  refine cP h ?_
  simp only [go_sem]
  rw [decide_eq_decide.2 hm]

theorem has_ok {p : Pl} (hlen : p.cs.length ≤ 1000000) (e : Int) : Ans Try.prog n_field_has [p.v, .int .i64 e] [] (.bool (decide (e ≠ 0 ∧ e ∈ p.cs))) [] := by
  have h := Contains_ok e hlen
  refine spec_run e_field_has fun G => ?_
  by_cases he : e = 0
  · have he' : (e != 0) = false := by simp [he]
    simp only [go_sem, Pl.v, Pl.a, Pl.c4, vw, he']
    simp [he]
  · have he' : (e != 0) = true := by simp [he]
    simp only [go_sem, Pl.v, Pl.a, Pl.c4, vw, he']
    refine cP h ?_
    simp only [go_sem]
    simp [he]

end Go.Proofs

namespace Go.Proofs
open Go Go.Sx

end Go.Proofs

namespace Go.Proofs
open Go Go.Sx

end Go.Proofs

namespace Go.Proofs
open Go Go.Sx
attribute [local irreducible] Run

end Go.Proofs

namespace Go.Proofs
open Go Go.Sx
attribute [local irreducible] Run

end Go.Proofs

namespace Go.Proofs
open Go Go.Sx

end Go.Proofs

namespace Go.Proofs
open Go Go.Sx
attribute [local irreducible] Run

def Pl.put (p : Pl) (i : Nat) (c : Int) : Pl := { p with cs := p.cs.set i c }
end Go.Proofs

namespace Go.Proofs
open Go Go.Sx

end Go.Proofs

namespace Go.Proofs
open Go Go.Sx
attribute [local irreducible] Run

end Go.Proofs

namespace Go.Proofs
open Go Go.Sx

def k_field_Copy_r0 : List AOper := [
  ⟨(some (1)), .box (.tmp 0), none, []⟩, 
  ⟨(some (2)), .box (.const (.agg [.int .i64 0, .int .i64 0, .bool false, .nilsl])), none, []⟩]
def k_field_Copy_r1 : List AOper := [
  ⟨(some (3)), .fieldAddr 3 (.tmp 1), none, []⟩, 
  ⟨(some (4)), .load none (.tmp 3), none, []⟩, 
  ⟨(some (5)), .append 1 8 false (.const (.nilsl)) (.tmp 4), none, []⟩, 
  ⟨(some (6)), .fieldAddr 3 (.tmp 1), none, []⟩, 
  ⟨none, .store 1 (.tmp 6) (.tmp 5), none, []⟩]
def k_field_Copy_r2 : List AOper := [
  ⟨(some (7)), .load (some (4)) (.tmp 1), none, []⟩, 
  ⟨none, .store 4 (.tmp 2) (.tmp 7), none, []⟩]
def k_field_Copy : AFun := { params := 1, ntmps := 8, body := (.seq (.reg k_field_Copy_r0 false) (.seq (.reg k_field_Copy_r1 false) (.seq (.reg k_field_Copy_r2 false) .ret))), res := [.cell 2 (some ((some (4))))] }
theorem k_field_Copy_ok : cfun Try.prog Try.f33 = k_field_Copy := by kernel_rfl

def k_ref01_Same_r0 : List AOper := [
  ⟨(some (2)), .box (.tmp 0), none, []⟩, 
  ⟨(some (3)), .box (.tmp 1), none, []⟩, 
  ⟨(some (4)), .move (.const (.bool false)), none, []⟩]
def k_ref01_Same_r1 : List AOper := [
  ⟨(some (5)), .fieldAddr 0 (.tmp 2), none, []⟩, 
  ⟨(some (6)), .load none (.tmp 5), none, []⟩, 
  ⟨(some (7)), .fieldAddr 0 (.tmp 3), none, []⟩, 
  ⟨(some (8)), .load none (.tmp 7), none, []⟩, 
  ⟨(some (9)), .bin .plain .eql (.tmp 6) (.tmp 8), none, []⟩, 
  ⟨(some (10)), .move (.tmp 9), none, []⟩, 
  ⟨(some (11)), .fieldAddr 1 (.tmp 2), (some (10, true)), []⟩, 
  ⟨(some (12)), .load none (.tmp 11), (some (10, true)), []⟩, 
  ⟨(some (13)), .fieldAddr 1 (.tmp 3), (some (10, true)), []⟩, 
  ⟨(some (14)), .load none (.tmp 13), (some (10, true)), []⟩, 
  ⟨(some (15)), .bin .plain .eql (.tmp 12) (.tmp 14), (some (10, true)), []⟩, 
  ⟨(some (16)), .pick (.tmp 10) (.tmp 15) (.const (.bool false)), none, []⟩, 
  ⟨(some (17)), .move (.tmp 16), none, []⟩, 
  ⟨(some (18)), .fieldAddr 2 (.tmp 2), (some (17, true)), []⟩, 
  ⟨(some (19)), .load none (.tmp 18), (some (17, true)), []⟩, 
  ⟨(some (20)), .fieldAddr 2 (.tmp 3), (some (17, true)), []⟩, 
  ⟨(some (21)), .load none (.tmp 20), (some (17, true)), []⟩, 
  ⟨(some (22)), .bin .bool .eql (.tmp 19) (.tmp 21), (some (17, true)), []⟩, 
  ⟨(some (23)), .pick (.tmp 17) (.tmp 22) (.const (.bool false)), none, []⟩, 
  ⟨(some (24)), .move (.tmp 23), none, []⟩, 
  ⟨(some (25)), .fieldAddr 3 (.tmp 2), (some (24, true)), []⟩, 
  ⟨(some (26)), .load none (.tmp 25), (some (24, true)), []⟩, 
  ⟨(some (27)), .fieldAddr 3 (.tmp 3), (some (24, true)), []⟩, 
  ⟨(some (28)), .load none (.tmp 27), (some (24, true)), []⟩, 
  ⟨(some (29)), .call (.const (.fn (.func 77) [] [])) [.tmp 26, .tmp 28], (some (24, true)), []⟩, 
  ⟨(some (30)), .pick (.tmp 24) (.tmp 29) (.const (.bool false)), none, []⟩, 
  ⟨(some (4)), .move (.tmp 30), none, []⟩]
def k_ref01_Same : AFun := { params := 2, ntmps := 31, body := (.seq (.reg k_ref01_Same_r0 false) (.seq (.reg k_ref01_Same_r1 false) .ret)), res := [.tmp 4] }
theorem k_ref01_Same_ok : cfun Try.prog Try.f34 = k_ref01_Same := by kernel_rfl

def k_ref01_SameInts_r0 : List AOper := [
  ⟨(some (4)), .move (.const (.bool false)), none, []⟩]
def k_ref01_SameInts_r1 : List AOper := [
  ⟨(some (6)), .move (.tmp 0), none, []⟩, 
  ⟨(some (7)), .len false (.tmp 6), none, []⟩, 
  ⟨(some (8)), .move (.tmp 1), none, []⟩, 
  ⟨(some (9)), .len false (.tmp 8), none, []⟩, 
  ⟨(some (10)), .bin .plain .neq (.tmp 7) (.tmp 9), none, []⟩]
def k_ref01_SameInts_r2 : List AOper := [
  ⟨(some (4)), .move (.const (.bool false)), none, []⟩]
def k_ref01_SameInts_r3 : List AOper := [
  ⟨(some (5)), .move (.const (.int .i64 0)), none, []⟩]
def k_ref01_SameInts_r4 : List AOper := [
  ⟨(some (11)), .move (.tmp 5), none, []⟩, 
  ⟨(some (12)), .move (.tmp 0), none, []⟩, 
  ⟨(some (13)), .len false (.tmp 12), none, []⟩, 
  ⟨(some (14)), .bin .plain .lss (.tmp 11) (.tmp 13), none, []⟩]
def k_ref01_SameInts_r5 : List AOper := [
  ⟨(some (17)), .move (.tmp 0), none, []⟩, 
  ⟨(some (18)), .move (.tmp 5), none, [0]⟩, 
  ⟨(some (19)), .indexAddr 1 (.tmp 17) (.tmp 18), none, []⟩, 
  ⟨(some (20)), .load none (.tmp 19), none, []⟩, 
  ⟨(some (21)), .move (.tmp 1), none, [0, 1, 2, 3]⟩, 
  ⟨(some (22)), .move (.tmp 5), none, [0, 1, 2, 3, 4]⟩, 
  ⟨(some (23)), .indexAddr 1 (.tmp 21) (.tmp 22), none, [0, 1, 2, 3]⟩, 
  ⟨(some (24)), .load none (.tmp 23), none, [0, 1, 2, 3]⟩, 
  ⟨(some (25)), .bin .plain .neq (.tmp 20) (.tmp 24), none, []⟩]
def k_ref01_SameInts_r5s : List (List AOper) := [
  [
  ⟨(some (17)), .move (.tmp 0), none, []⟩, 
  ⟨(some (18)), .move (.tmp 5), none, [0]⟩, 
  ⟨(some (19)), .indexAddr 1 (.tmp 17) (.tmp 18), none, []⟩, 
  ⟨(some (20)), .load none (.tmp 19), none, []⟩, 
  ⟨(some (21)), .move (.tmp 1), none, [0, 1, 2, 3]⟩, 
  ⟨(some (22)), .move (.tmp 5), none, [0, 1, 2, 3, 4]⟩, 
  ⟨(some (23)), .indexAddr 1 (.tmp 21) (.tmp 22), none, [0, 1, 2, 3]⟩, 
  ⟨(some (24)), .load none (.tmp 23), none, [0, 1, 2, 3]⟩], 
  [
  ⟨(some (25)), .bin .plain .neq (.tmp 20) (.tmp 24), none, []⟩]]
theorem k_ref01_SameInts_r5_sg : segs k_ref01_SameInts_r5 = k_ref01_SameInts_r5s := by kernel_rfl
theorem k_ref01_SameInts_r5_st : statOK k_ref01_SameInts_r5 = true := by kernel_rfl
def k_ref01_SameInts_r6 : List AOper := [
  ⟨(some (4)), .move (.const (.bool false)), none, []⟩]
def k_ref01_SameInts_r7 : List AOper := [
  ⟨(some (15)), .move (.tmp 5), none, []⟩, 
  ⟨(some (16)), .bin .plain .add (.tmp 15) (.const (.int .i64 1)), none, []⟩, 
  ⟨(some (5)), .move (.tmp 16), none, []⟩]
def k_ref01_SameInts_r8 : ACode := (.seq (.seq (.reg k_ref01_SameInts_r4 false) (.cond (.tmp 14) .skip (.exit 0))) (.seq (.block 1 (.seq (.reg k_ref01_SameInts_r5 true) (.cond (.tmp 25) (.seq (.reg k_ref01_SameInts_r6 false) .ret) .skip))) (.reg k_ref01_SameInts_r7 false)))
def k_ref01_SameInts_r9 : List AOper := [
  ⟨(some (4)), .move (.const (.bool true)), none, []⟩]
def k_ref01_SameInts : AFun := { params := 2, ntmps := 26, body := (.seq (.reg k_ref01_SameInts_r0 false) (.seq (.seq (.reg k_ref01_SameInts_r1 false) (.cond (.tmp 10) (.seq (.reg k_ref01_SameInts_r2 false) .ret) .skip)) (.seq (.seq (.reg k_ref01_SameInts_r3 false) (.block 0 (.loop k_ref01_SameInts_r8))) (.seq (.reg k_ref01_SameInts_r9 false) .ret)))), res := [.tmp 4] }
theorem k_ref01_SameInts_ok : cfun Try.prog Try.f77 = k_ref01_SameInts := by kernel_rfl

abbrev n_field_Copy : Nat := 33
theorem e_field_Copy : EntryOK Try.prog n_field_Copy k_field_Copy := ⟨Try.f33, Try.func33, k_field_Copy_ok, by kernel_rfl⟩
abbrev n_ref01_Same : Nat := 34
theorem e_ref01_Same : EntryOK Try.prog n_ref01_Same k_ref01_Same := ⟨Try.f34, Try.func34, k_ref01_Same_ok, by kernel_rfl⟩
abbrev n_ref01_SameInts : Nat := 77
theorem e_ref01_SameInts : EntryOK Try.prog n_ref01_SameInts k_ref01_SameInts := ⟨Try.f77, Try.func77, k_ref01_SameInts_ok, by kernel_rfl⟩
attribute [go_sem] k_field_Copy_r0 k_field_Copy_r1 k_field_Copy_r2 k_ref01_Same_r0 k_ref01_Same_r1
attribute [go_sem] k_ref01_SameInts_r0 k_ref01_SameInts_r1 k_ref01_SameInts_r2
attribute [go_sem] k_ref01_SameInts_r3 k_ref01_SameInts_r4 k_ref01_SameInts_r5s k_ref01_SameInts_r6 k_ref01_SameInts_r7 k_ref01_SameInts_r9
attribute [go_sem] k_ref01_SameInts_r5_sg k_ref01_SameInts_r5_st k_field_Copy
attribute [go_sem] k_ref01_Same k_ref01_SameInts
end Go.Proofs

namespace Go.Proofs
open Go Go.Sx
attribute [local irreducible] Run

end Go.Proofs

namespace Go.Proofs
open Go Go.Sx
attribute [local irreducible] Run

def inb (p : Pl) (i : Nat) (r d : Int) : Prop := (-((i % p.w : Nat) : Int) ≤ r ∧ r ≤ p.w - 1 - ((i % p.w : Nat) : Int)) ∧ (-((i / p.w : Nat) : Int) ≤ d ∧ d ≤ p.h - 1 - ((i / p.w : Nat) : Int))
instance (p : Pl) (i : Nat) (r d : Int) : Decidable (inb p i r d) := by unfold inb; infer_instance
def Stays (p : Pl) (e r d : Int) : Prop := ∀ i, i < p.w * p.h → gt p.cs i = e → inb p i r d
instance (p : Pl) (e r d : Int) : Decidable (Stays p e r d) := by unfold Stays; infer_instance

def wo (l : List Int) (e : Int) : List Int := l.map fun c => if c = e then 0 else c
def stepOf (p : Pl) (r d : Int) : Int := d * p.w + r
def Frees (p : Pl) (e r d : Int) : Prop := ∀ i, i < p.w * p.h → gt p.cs i = e → gt (wo p.cs e) ((i : Int) + stepOf p r d).toNat = 0
instance (p : Pl) (e r d : Int) : Decidable (Frees p e r d) := by unfold Frees; infer_instance
def noPl : AVal := .agg [.int .i64 0, .int .i64 0, .bool false, .nilsl]
end Go.Proofs

namespace Go.Proofs
open Go Go.Sx
attribute [local irreducible] Run

end Go.Proofs

namespace Go.Proofs
open Go Go.Sx
attribute [local irreducible] Run

end Go.Proofs

namespace Go.Proofs
open Go Go.Sx
attribute [local irreducible] Run

structure Rp where
  w : Int
  h : Int
  rd : Bool
  cs : List Int
def Rp.v (p : Rp) : AVal := .agg [.int .i64 p.w, .int .i64 p.h, .bool p.rd, vw p.cs]
def Rp.pl (p : Rp) : Pl := ⟨p.w.toNat, p.h.toNat, p.rd, p.cs⟩
def Rp.err (p : Rp) : Int :=
  if ¬ ((1 ≤ p.w ∧ p.w ≤ 16) ∧ (1 ≤ p.h ∧ p.h ≤ 16)) then 2 else if (p.cs.length : Int) ≠ p.w * p.h then 3 else if ¬ ∀ c ∈ p.cs, 0 ≤ c ∧ c ≤ 6 then 2 else if gmax p.cs = 0 then 7 else 0
theorem Rp.ok {p : Rp} (h : p.err = 0) : PlOK p.pl ∧ p.v = p.pl.v := by
  unfold Rp.err at h
  by_cases h1 : (1 ≤ p.w ∧ p.w ≤ 16) ∧ (1 ≤ p.h ∧ p.h ≤ 16)
  · rw [if_neg (fun h => h h1)] at h
    by_cases h2 : (p.cs.length : Int) = p.w * p.h
    · rw [if_neg (fun h => h h2)] at h
      by_cases h3 : ∀ c ∈ p.cs, 0 ≤ c ∧ c ≤ 6
      · rw [if_neg (fun h => h h3)] at h
        by_cases h4 : gmax p.cs = 0
        · rw [if_pos h4] at h; omega
        · have ew : ((p.w.toNat : Nat) : Int) = p.w := by omega
          have eh : ((p.h.toNat : Nat) : Int) = p.h := by omega
          have hl : p.cs.length = p.w.toNat * p.h.toNat := by
            have : (p.cs.length : Int) = ((p.w.toNat * p.h.toNat : Nat) : Int) := by push_cast; rw [ew, eh, h2]
            omega
          refine ⟨⟨by show 1 ≤ p.w.toNat ∧ p.w.toNat ≤ 16; omega, by show 1 ≤ p.h.toNat ∧ p.h.toNat ≤ 16; omega, hl, h3, ?_⟩, ?_⟩
          · have hm : gmax p.cs ∈ p.cs := by
              rcases mxL_or p.cs 0 with h | h
              · exact absurd h h4
              · exact h
            obtain ⟨i, hi, hie⟩ := mem_gt hm
            exact ⟨i, by show i < p.w.toNat * p.h.toNat; omega, by show gt p.cs i ≠ 0; rw [hie]; exact h4⟩
          · unfold Rp.v Pl.v Pl.a Pl.c4 Rp.pl
            simp only [ew, eh]
      · rw [if_pos h3] at h; omega
    · rw [if_pos h2] at h; omega
  · rw [if_pos h1] at h; omega

set_option maxHeartbeats 2000000 in
theorem Check_raw (p : Rp) (hlen : p.cs.length ≤ 1000000) : Ans Try.prog n_field_Check [p.v] [] (.int .i64 p.err) [] := by
  by_cases hok : p.err = 0
  · obtain ⟨h1, h2⟩ := Rp.ok hok
    rw [hok, h2]
    exact Check_ok h1
  · unfold Rp.err at hok ⊢
    refine spec_run e_field_Check fun G => ?_
    simp only [go_sem, Rp.v, vw]
    by_cases hw : 1 ≤ p.w ∧ p.w ≤ 16
    · refine cP (within_yes hw) ?_
      simp only [go_sem]
      by_cases hh : 1 ≤ p.h ∧ p.h ≤ 16
      · rw [if_neg (fun h => h ⟨hw, hh⟩)] at hok ⊢
        refine cP (within_yes hh) ?_
        obtain ⟨w, hw'⟩ : ∃ w : Nat, (w : Int) = p.w := ⟨p.w.toNat, by omega⟩
        obtain ⟨h, hh'⟩ : ∃ h : Nat, (h : Int) = p.h := ⟨p.h.toNat, by omega⟩
        have hN : w * h ≤ 256 := Nat.mul_le_mul (show w ≤ 16 by omega) (show h ≤ 16 by omega)
        have em : IntKind.i64.wrap (p.w * p.h) = p.w * p.h := by rw [← hw', ← hh', w64 (by push_cast at *; omega)]
        by_cases hl : (p.cs.length : Int) = p.w * p.h
        · rw [if_neg (fun h => h hl)] at hok ⊢
          have hl' : ((p.cs.length : Int) != p.w * p.h) = false := by simp [hl]
          simp only [go_sem, List.length_map, em, hl']
          refine loop_ind k_field_Check_r11.eq_1 (fun a : Nat × Heap => a.1 ≤ p.cs.length ∧ ∀ c ∈ p.cs.take a.1, 0 ≤ c ∧ c ≤ 6) (fun a => p.cs.length - a.1)
            (fun a => (tsets 41 [(1, .ptr 0 0 0 1), (2, .int .i64 0), (25, vw p.cs), (26, .int .i64 p.cs.length), (27, .int .i64 a.1)], some (.cells false 4 [p.v]) :: a.2)) (0, []) ⟨Nat.zero_le _, by simp⟩ (by simp [go_sem, vw]) rfl ?_
          rintro ⟨i, X⟩ ⟨hi, hm⟩ ih
          dsimp only at hi hm ih ⊢
          by_cases h1 : i < p.cs.length
          · have h2 : (i : Int) < p.cs.length := by omega
            have h3 := idx_next h1 (by omega)
            have n0 : ¬ (i : Int) < 0 := by omega
            have hx := gt_get h1
            have hT : p.cs.take (i + 1) = p.cs.take i ++ [gt p.cs i] := by rw [List.take_add_one, gt_get h1]; rfl
            have hmem := gt_mem h1
            have ihn := fun X => ih (i + 1, X) (by dsimp only; omega)
            clear ih
            simp only [hT] at ihn
            generalize gt p.cs i = z at *
            simp only [go_sem, vw, List.length_map, h2, n0, hx]
            by_cases hz : 0 ≤ z ∧ z ≤ 6
            · refine cP (within_yes hz) ?_
              simp only [go_sem, h3]
              exact ihn _ ⟨h1, fun x hx' => by
                rcases List.mem_append.1 hx' with h | h
                · exact hm x h
                · simp only [List.mem_singleton] at h
                  rw [h]; exact hz⟩ _ (by simp [go_sem, vw])
            · rw [if_pos fun h => hz (h z hmem)]
              refine cP (within_no hz) ?_
              simp only [go_sem]
          · have h2 : ¬ (i : Int) < p.cs.length := by omega
            rw [List.take_of_length_le (by omega)] at hm
            rw [if_neg (fun h => h hm)] at hok ⊢
            have h4 : gmax p.cs = 0 := by
              by_cases h : gmax p.cs = 0
              · exact h
              · rw [if_neg h] at hok; omega
            rw [if_pos h4]
            have hne : p.cs ≠ [] := fun hn => by
              rw [hn] at hl
              simp only [List.length_nil] at hl
              have := Int.mul_pos (show (0 : Int) < p.w by omega) (show (0 : Int) < p.h by omega)
              omega
            have hmx := max_ok hne (fun c hc => (hm c hc).1) hlen
            rw [h4] at hmx
            simp only [go_sem, Rp.v, vw, List.length_map, h2]
            refine cP hmx ?_
            simp only [go_sem]
        · rw [if_pos hl]
          have hl' : ((p.cs.length : Int) != p.w * p.h) = true := by simp [hl]
          simp only [go_sem, List.length_map, em, hl']
      · rw [if_pos (fun h => hh h.2)]
        refine cP (within_no hh) ?_
        simp only [go_sem]
    · rw [if_pos (fun h => hw h.1)]
      refine cP (within_no hw) ?_
      simp only [go_sem]

def numErr (l : List Int) : Int := if ∀ x ∈ l, -1000000 ≤ x ∧ x ≤ 1000000 then 0 else 2
theorem checkNumbers_raw {l : List Int} (hlen : l.length ≤ 1000000) : Ans Try.prog n_field_checkNumbers [vw l] [] (.int .i64 (numErr l)) [] := by
  unfold numErr
  refine spec_run e_field_checkNumbers fun G => ?_
  simp only [go_sem, vw, List.length_map]
  refine loop_ind k_field_checkNumbers_r7.eq_1 (fun a : Nat × Heap => a.1 ≤ l.length ∧ ∀ x ∈ l.take a.1, -1000000 ≤ x ∧ x ≤ 1000000) (fun a => l.length - a.1)
    (fun a => (tsets 15 [(2, .int .i64 0), (5, vw l), (6, .int .i64 l.length), (7, .int .i64 a.1)], a.2)) (0, []) ⟨Nat.zero_le _, by simp⟩ (by simp [go_sem, vw]) rfl ?_
  rintro ⟨i, X⟩ ⟨hi, hm⟩ ih
  dsimp only at hi hm ih ⊢
  by_cases h1 : i < l.length
  · have h2 : (i : Int) < l.length := by omega
    have h3 := idx_next h1 (by omega)
    have n0 : ¬ (i : Int) < 0 := by omega
    have hx := gt_get h1
    have hT : l.take (i + 1) = l.take i ++ [gt l i] := by rw [List.take_add_one, gt_get h1]; rfl
    have hmem := gt_mem h1
    have ihn := fun X => ih (i + 1, X) (by dsimp only; omega)
    clear ih
    simp only [hT] at ihn
    generalize gt l i = z at *
    simp only [go_sem, vw, List.length_map, h2, n0, hx]
    by_cases hz : -1000000 ≤ z ∧ z ≤ 1000000
    · refine cP (within_yes hz) ?_
      simp only [go_sem, h3]
      exact ihn _ ⟨h1, fun x hx' => by
        rcases List.mem_append.1 hx' with h | h
        · exact hm x h
        · simp only [List.mem_singleton] at h
          rw [h]; exact hz⟩ _ (by simp [go_sem, vw])
    · rw [if_neg fun h => hz (h z hmem)]
      refine cP (within_no hz) ?_
      simp only [go_sem]
  · have h2 : ¬ (i : Int) < l.length := by omega
    rw [List.take_of_length_le (by omega)] at hm
    rw [if_pos hm]
    simp only [go_sem, vw, List.length_map, h2]

def Rp.errV (p : Rp) (v : List Int) : Int := if p.err ≠ 0 then p.err else if (v.length : Int) ≠ gmax p.cs then 3 else numErr v
theorem CheckVolts_raw (p : Rp) {v : List Int} (hlen : p.cs.length ≤ 1000000) (hv : v.length ≤ 1000000) : Ans Try.prog n_field_CheckVolts [p.v, vw v] [] (.int .i64 (p.errV v)) [] := by
  have c1 := Check_raw p hlen
  have c3 := checkNumbers_raw hv
  unfold Rp.errV
  refine spec_run e_field_CheckVolts fun G => ?_
  simp only [go_sem, Rp.v, vw]
  refine cP c1 ?_
  by_cases h : p.err = 0
  · obtain ⟨hp, _⟩ := Rp.ok h
    have hmx : Ans Try.prog n_slices_Max_int_int [vw p.cs] [] (.int .i64 (gmax p.cs)) [] := max_ok hp.ne (fun c hc => (hp.cell c hc).1) hlen
    have h' : (p.err != 0) = false := by simp [h]
    rw [if_neg fun h2 => h2 h]
    simp only [go_sem, List.length_map, h']
    refine cP hmx ?_
    by_cases h2 : (v.length : Int) = gmax p.cs
    · have h2' : ((v.length : Int) != gmax p.cs) = false := by simp [h2]
      rw [if_neg fun h3 => h3 h2]
      simp only [go_sem, h2', vw]
      refine cP c3 ?_
      simp only [go_sem]
    · have h2' : ((v.length : Int) != gmax p.cs) = true := by simp [h2]
      rw [if_pos h2]
      simp only [go_sem, h2']
  · have h' : (p.err != 0) = true := by simp [h]
    rw [if_pos h]
    simp only [go_sem, h']
end Go.Proofs

namespace Go.Proofs
open Go Go.Sx
attribute [local irreducible] Run

end Go.Proofs

