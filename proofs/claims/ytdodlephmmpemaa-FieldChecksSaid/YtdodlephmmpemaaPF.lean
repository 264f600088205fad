/- A part of the proof. -/
import Derived.Test.YtdodlephmmpemaaPE
set_option linter.unusedSimpArgs false
set_option linter.unusedVariables false
namespace Go.Proofs
open Go Go.Sx
attribute [local irreducible] Run

def fnd (b : Int) : List (Nat × Int) → Int
  | [] => 0
  | q :: l => if (q.1 : Int) = b then q.2 else fnd b l
theorem fnd_in (b : Int) : ∀ l : List (Nat × Int), (fnd b l = 0 ∧ ∀ q ∈ l, (q.1 : Int) ≠ b) ∨ ∃ q ∈ l, (q.1 : Int) = b ∧ fnd b l = q.2
  | [] => .inl ⟨rfl, fun q hq => by simp at hq⟩
  | q :: l => by
    rw [fnd]
    by_cases h : (q.1 : Int) = b
    · exact .inr ⟨q, by simp, h, by rw [if_pos h]⟩
    · rw [if_neg h]
      rcases fnd_in b l with ⟨h1, h2⟩ | ⟨r, h1, h2, h3⟩
      · refine .inl ⟨h1, fun r hr => ?_⟩
        rcases List.mem_cons.1 hr with rfl | hr
        · exact h
        · exact h2 r hr
      · exact .inr ⟨r, by simp [h1], h2, h3⟩

theorem nb_wgt {p : Pl} (hp : PlOK p) {x y x' y' : Nat} {wt : Int} (hx : x < p.w) (hy : y < p.h) (h : Nb p x y x' y' wt) : wgt p (y * p.w + x) (y' * p.w + x') = wt := by
  have hw := hp.w
  obtain ⟨hx', hy'⟩ := h.in hx hy
  obtain ⟨m1, _⟩ := cell_at (w := p.w) (x := x) (y := y) hx
  obtain ⟨m2, _⟩ := cell_at (w := p.w) (x := x') (y := y') hx'
  unfold wgt
  cases h with
  | left a b h =>
    rw [show max (y * p.w + (x' + 1)) (y * p.w + x') = y * p.w + (x' + 1) by omega, show min (y * p.w + (x' + 1)) (y * p.w + x') = y * p.w + x' by omega, m1, m2, if_pos ⟨by omega, by omega⟩]
  | right a b h =>
    rw [show max (y * p.w + x) (y * p.w + (x + 1)) = y * p.w + (x + 1) by omega, show min (y * p.w + x) (y * p.w + (x + 1)) = y * p.w + x by omega, m1, m2, if_pos ⟨by omega, by omega⟩]
  | up a b h =>
    have e2 : (y' + 1) * p.w = y' * p.w + p.w := by rw [Nat.add_mul, Nat.one_mul]
    rw [show max ((y' + 1) * p.w + x) (y' * p.w + x) = (y' + 1) * p.w + x by omega, show min ((y' + 1) * p.w + x) (y' * p.w + x) = y' * p.w + x by omega, m1, m2]
    by_cases h1 : p.w = 1
    · rw [if_neg (by omega), if_pos (by omega)]
    · rw [if_neg (by omega), if_pos (by omega)]
  | down a b h =>
    have e2 : (y + 1) * p.w = y * p.w + p.w := by rw [Nat.add_mul, Nat.one_mul]
    rw [show max (y * p.w + x) ((y + 1) * p.w + x) = (y + 1) * p.w + x by omega, show min (y * p.w + x) ((y + 1) * p.w + x) = y * p.w + x by omega, m1, m2]
    by_cases h1 : p.w = 1
    · rw [if_neg (by omega), if_pos (by omega)]
    · rw [if_neg (by omega), if_pos (by omega)]

theorem wgt_nb {p : Pl} (hp : PlOK p) {i j : Nat} (hi : i < p.w * p.h) (hj : j < p.w * p.h) (h : wgt p i j ≠ 0) : ∃ wt, (j, wt) ∈ nbs p i := by
  have hw := hp.w
  obtain ⟨a1, a2, a3⟩ := cell_lt hi
  obtain ⟨b1, b2, b3⟩ := cell_lt hj
  have fin : ∀ x' y' wt, Nb p (i % p.w) (i / p.w) x' y' wt → j = y' * p.w + x' → ∃ wt, (j, wt) ∈ nbs p i := fun x' y' wt h1 h2 => ⟨wt, by
    have h3 := (nbs_mem p a1 a2 (j, wt)).2 ⟨x', y', h1, h2⟩
    rwa [a3] at h3⟩
  unfold wgt at h
  by_cases c1 : max i j = min i j + 1 ∧ 0 < max i j % p.w
  · rcases Nat.lt_or_ge i j with hij | hij
    · have e1 : j = i + 1 := by omega
      have hm : max i j = j := by omega
      rw [hm] at c1
      have hx : i % p.w + 1 < p.w := by
        by_cases hx : i % p.w + 1 < p.w
        · exact hx
        · have h2 : i % p.w + 1 = p.w := by omega
          have h3 : j = (i / p.w + 1) * p.w := by rw [Nat.add_mul]; omega
          rw [h3, Nat.mul_mod_left] at c1
          omega
      exact fin _ _ _ (.right _ _ hx) (by omega)
    · have e1 : i = j + 1 := by omega
      have hm : max i j = i := by omega
      rw [hm] at c1
      obtain ⟨z, hz⟩ : ∃ z, i % p.w = z + 1 := ⟨i % p.w - 1, by omega⟩
      rw [hz] at fin
      exact fin _ _ _ (.left z _ (by omega)) (by omega)
  · rw [if_neg c1] at h
    by_cases c2 : max i j = min i j + p.w
    · rcases Nat.lt_or_ge i j with hij | hij
      · have e1 : j = i + p.w := by omega
        have hy : i / p.w + 1 < p.h := by
          by_cases hy : i / p.w + 1 < p.h
          · exact hy
          · have h2 : i / p.w + 1 = p.h := by omega
            have h3 : p.h * p.w = (i / p.w) * p.w + p.w := by rw [← h2, Nat.add_mul, Nat.one_mul]
            have h4 : p.h * p.w = p.w * p.h := Nat.mul_comm _ _
            omega
        exact fin _ _ _ (.down _ _ hy) (by rw [Nat.add_mul]; omega)
      · have e1 : i = j + p.w := by omega
        have hy0 : 0 < i / p.w := Nat.div_pos (by omega) (by omega)
        obtain ⟨z, hz⟩ : ∃ z, i / p.w = z + 1 := ⟨i / p.w - 1, by omega⟩
        have h3 : (z + 1) * p.w = z * p.w + p.w := by rw [Nat.add_mul, Nat.one_mul]
        rw [hz] at fin a3
        exact fin _ _ _ (.up _ z (by omega)) (by omega)
    · rw [if_neg c2] at h; exact absurd rfl h

theorem fnd_wgI {p : Pl} (hp : PlOK p) {i : Nat} (hi : i < p.w * p.h) (b : Int) : fnd b (nbs p i) = wgI p i b := by
  obtain ⟨a1, a2, a3⟩ := cell_lt hi
  rcases fnd_in b (nbs p i) with ⟨h1, h2⟩ | ⟨q, h1, h2, h3⟩
  · rw [h1]
    unfold wgI
    by_cases hb : 0 ≤ b ∧ b < (p.w * p.h : Nat)
    · rw [if_pos hb]
      by_cases h4 : wgt p i b.toNat = 0
      · exact h4.symm
      · obtain ⟨wt, h5⟩ := wgt_nb hp hi (j := b.toNat) (by omega) h4
        exact absurd (by show ((b.toNat : Nat) : Int) = b; omega) (h2 _ h5)
    · rw [if_neg hb]
  · rw [h3, ← h2]
    have hin := nbs_in p hp.w.2 hi q h1
    rw [wgI_nat _ hin.1]
    rw [← a3] at h1 ⊢
    obtain ⟨x', y', h4, h5⟩ := (nbs_mem p a1 a2 q).1 h1
    rw [h5]
    exact (nb_wgt hp a1 a2 h4).symm

def wT : List (Nat × AVal) := [(3, .ptr 0 0 0 1), (5, .ptr 1 0 0 1), (6, .ptr 2 0 0 1), (23, .fn (.func n_field_neighbours_1) [] [.ptr 4 0 0 1, .ptr 3 0 0 1])]
def wL (st : LoopState) (pe : Option ACode) : Row := .loop (tsets 30 wT) [24, 25] k_field_Weight_r8 k_field_Weight_r9 5 st pe
def wH (p : Pl) (i : Nat) (b res : Int) (l : Row) : Heap := [some (.cells false 4 [p.v]), some (.cells false 1 [.int .i64 b]), some (.cells false 1 [.int .i64 res]), some (.cells false 4 [p.v]), some (.cells false 1 [.int .i64 i]), some .dfr, some l]

set_option maxHeartbeats 4000000 in
theorem Weight_ok {p : Pl} (hp : PlOK p) {i : Nat} (hi : i < p.w * p.h) (b : Int) : Ans Try.prog n_field_Weight [p.v, .int .i64 i, .int .i64 b] [] (.int .i64 (wgI p i b)) [] := by
  have hN : p.w * p.h ≤ 256 := Nat.mul_le_mul hp.w.2 hp.h.2
  have hlen := hp.len
  rw [← fnd_wgI hp hi]
  generalize hRES : fnd b (nbs p i) = RES
  have w1 : IntKind.i64.wrap ((p.cs.length : Int) - 1) = (p.cs.length : Int) - 1 := w64 (by omega)
  refine spec_run e_field_Weight fun G => ?_
  simp only [go_sem, Pl.v, Pl.a, Pl.c4, vw]
  refine cP (Check_ok hp) ?_
  simp only [go_sem, Pl.v, Pl.a, Pl.c4, vw, List.length_map, w1]
  refine cP (within_yes (n := (i : Int)) (a := 0) (b := (p.cs.length : Int) - 1) (by omega)) ?_
  simp only [go_sem, Pl.v, Pl.a, Pl.c4, vw]
  refine cN2 (neighbours_ok p i) ?_
  simp only [go_sem, ren, rens]
  refine rangeF 2000 (ρ := tsets 30 wT) (by simp [go_sem, wT]) (by simp only [go_sem, wT]; rfl)
    (nbs1_iter hp hi (r := 6) (jc := 4) (jp := 3) (N := 7) (Pre := fun k H => H = wH p i b 0 (wL .ready none) ∧ fnd b ((nbs p i).drop k) = RES) (Stop := fun H => H = wH p i b RES (wL .done (some .ret)))
      ⟨?_, ?_⟩ ⟨rfl, hRES⟩ rfl) (by simp) ?_
  · rintro k H ⟨rfl, hj⟩
    exact ⟨by simp [wH], rfl, rfl⟩
  · rintro k ⟨n, wt⟩ H hq ⟨rfl, hj⟩
    have hkl := (List.getElem?_eq_some_iff.1 hq).1
    have hd : (nbs p i).drop k = (n, wt) :: (nbs p i).drop (k + 1) := by
      rw [List.drop_eq_getElem_cons hkl]
      rw [List.getElem?_eq_getElem hkl] at hq
      have := Option.some.inj hq
      rw [this]
    rw [hd, fnd] at hj
    dsimp only at hj ⊢
    generalize fnd b ((nbs p i).drop (k + 1)) = NX at *
    by_cases hnb : (n : Int) = b
    · rw [if_pos hnb] at hj
      have hb2 : ((n : Int) == b) = true := by simp [hnb]
      generalize hR : (fun (v : AVal) (H' : Heap) => (v = .bool true ∧ H' = wH p i b 0 (wL .ready none) ∧ NX = RES) ∨ (v = .bool false ∧ H' = wH p i b RES (wL .done (some .ret)))) = R
      have hfin : R (.bool false) (wH p i b RES (wL .done (some .ret))) := by rw [← hR]; exact .inr ⟨rfl, rfl⟩
      clear hR
      rw [← hj] at hfin
      refine roundW_run 500 k_field_Weight_r8.eq_1 rfl rfl (ρ' := tsets 30 (wT ++ [(24, .int .i64 (n : Int)), (25, .int .i64 wt)])) rfl ?_
      simp only [go_sem, wT, wH]
      refine roundMid_run 500 k_field_Weight_r9.eq_1 rfl rfl ?_
      simp only [go_sem, hb2]
      refine roundEnd_ret rfl ?_
      simp only [go_sem]
      exact hfin
    · rw [if_neg hnb] at hj
      have hb2 : ((n : Int) == b) = false := by simp [hnb]
      generalize hR : (fun (v : AVal) (H' : Heap) => (v = .bool true ∧ H' = wH p i b 0 (wL .ready none) ∧ NX = RES) ∨ (v = .bool false ∧ H' = wH p i b RES (wL .done (some .ret)))) = R
      have hfin : R (.bool true) (wH p i b 0 (wL .ready none)) := by rw [← hR]; exact .inl ⟨rfl, rfl, hj⟩
      clear hR
      refine roundW_run 500 k_field_Weight_r8.eq_1 rfl rfl (ρ' := tsets 30 (wT ++ [(24, .int .i64 (n : Int)), (25, .int .i64 wt)])) rfl ?_
      simp only [go_sem, wT, wH]
      refine roundMid_run 500 k_field_Weight_r9.eq_1 rfl rfl ?_
      simp only [go_sem, hb2]
      refine roundEnd_on rfl ?_
      simp only [go_sem]
      exact hfin
  · rintro v H' ⟨rfl, ⟨rfl, hj⟩ | rfl⟩
    · refine ⟨fun q hq => by simp at hq; subst hq; rfl, _, _, _, _, _, _, _, rfl, by decide, ?_⟩
      rw [List.drop_length, fnd] at hj
      subst hj
      simp only [go_sem, wH, wT, tsets]
      simp
    · refine ⟨fun q hq => by simp at hq; subst hq; rfl, _, _, _, _, _, _, _, rfl, by decide, ?_⟩
      simp only [go_sem, wH, wT, tsets]
      simp

def wgR (p : Rp) (a b : Int) : Int := if p.err = 0 ∧ 0 ≤ a ∧ a < (p.pl.w * p.pl.h : Nat) then wgI p.pl a.toNat b else 0
theorem Weight_raw (p : Rp) (a b : Int) (hlen : p.cs.length ≤ 1000000) : Ans Try.prog n_field_Weight [p.v, .int .i64 a, .int .i64 b] [] (.int .i64 (wgR p a b)) [] := by
  unfold wgR
  by_cases h1 : p.err = 0
  · obtain ⟨hp, hpv⟩ := Rp.ok h1
    by_cases h2 : 0 ≤ a ∧ a < (p.pl.w * p.pl.h : Nat)
    · rw [if_pos ⟨h1, h2⟩, hpv]
      have := Weight_ok hp (i := a.toNat) (by omega) b
      rwa [show ((a.toNat : Nat) : Int) = a by omega] at this
    · rw [if_neg fun h => h2 h.2]
      have c1 := Check_raw p hlen
      rw [h1] at c1
      have hl : p.cs.length = p.pl.w * p.pl.h := hp.len
      have w1 : IntKind.i64.wrap ((p.cs.length : Int) - 1) = (p.cs.length : Int) - 1 := w64 (by omega)
      refine spec_run e_field_Weight fun G => ?_
      simp only [go_sem, Rp.v, vw]
      refine cP c1 ?_
      simp only [go_sem, Rp.v, vw, List.length_map, w1]
      refine cP (within_no (by omega)) ?_
      simp only [go_sem]
  · rw [if_neg fun h => h1 h.1]
    have c1 := Check_raw p hlen
    have h1' : (p.err != 0) = true := by simp [h1]
    refine spec_run e_field_Weight fun G => ?_
    simp only [go_sem, Rp.v, vw]
    refine cP c1 ?_
    simp only [go_sem, h1']
theorem weight_bad {p : Pl} (hp : PlOK p) {a : Int} (ha : ¬ (0 ≤ a ∧ a < (p.w * p.h : Nat))) (b : Int) : Ans Try.prog n_ref01_weight [p.v, .int .i64 a, .int .i64 b] [] (.int .i64 0) [] := by
  have hw := hp.w; have hh := hp.h
  have hN : p.w * p.h ≤ 256 := Nat.mul_le_mul hw.2 hh.2
  have em : IntKind.i64.wrap ((p.w : Int) * p.h) = ((p.w * p.h : Nat) : Int) := by rw [w64 (by push_cast at *; omega)]; push_cast; rfl
  have em1 : IntKind.i64.wrap (((p.w * p.h : Nat) : Int) - 1) = ((p.w * p.h : Nat) : Int) - 1 := w64 (by omega)
  refine spec_run e_ref01_weight fun G => ?_
  simp only [go_sem, Pl.v, Pl.a, Pl.c4, vw, em, em1]
  refine cP (beyond_yes (by omega)) ?_
  simp only [go_sem]
theorem rWeight_raw (p : Rp) (a b : Int) (hlen : p.cs.length ≤ 1000000) : Ans Try.prog n_ref01_Weight [p.v, .int .i64 a, .int .i64 b] [] (.int .i64 (wgR p a b)) [] := by
  have c1 := rCheck_raw p hlen
  unfold wgR
  by_cases h1 : p.err = 0
  · obtain ⟨hp, hpv⟩ := Rp.ok h1
    rw [h1] at c1
    by_cases h2 : 0 ≤ a ∧ a < (p.pl.w * p.pl.h : Nat)
    · rw [if_pos ⟨h1, h2⟩]
      have c2 := weightI_ok hp (i := a.toNat) (by omega) b
      rw [show ((a.toNat : Nat) : Int) = a by omega, ← hpv] at c2
      refine spec_run e_ref01_Weight fun G => ?_
      simp only [go_sem, Rp.v, vw]
      refine cP c1 ?_
      simp only [go_sem, Rp.v, vw]
      refine cP c2 ?_
      simp only [go_sem]
    · rw [if_neg fun h => h2 h.2]
      have c2 := weight_bad hp h2 b
      rw [← hpv] at c2
      refine spec_run e_ref01_Weight fun G => ?_
      simp only [go_sem, Rp.v, vw]
      refine cP c1 ?_
      simp only [go_sem, Rp.v, vw]
      refine cP c2 ?_
      simp only [go_sem]
  · rw [if_neg fun h => h1 h.1]
    have h1' : (p.err != 0) = true := by simp [h1]
    refine spec_run e_ref01_Weight fun G => ?_
    simp only [go_sem, Rp.v, vw]
    refine cP c1 ?_
    simp only [go_sem, h1']
end Go.Proofs

namespace Go.Proofs
open Go Go.Sx
attribute [local irreducible] Run

def elT6 (p : Pl) : Nat → List Int
  | 0 => []
  | k + 1 => elT6 p k ++ if ((k : Int) + 1) ∈ p.cs then [(k : Int) + 1] else []
def elv (l : List Int) : AVal := if l = [] then .nilsl else .sl 2 0 l.length
theorem elv_nil : elv [] = .nilsl := rfl
theorem elv_ne {l : List Int} (h : l ≠ []) : elv l = .sl 2 0 l.length := if_neg h
theorem elT6_len (p : Pl) : ∀ k, (elT6 p k).length ≤ k
  | 0 => Nat.le_refl _
  | k + 1 => by
    have := elT6_len p k
    rw [elT6, List.length_append]
    split <;> simp <;> omega
theorem elT6_mem (p : Pl) {e : Int} (he : e ∈ p.cs) : ∀ k : Nat, 1 ≤ e → e ≤ k → e ∈ elT6 p k
  | 0, h1, h2 => by omega
  | k + 1, h1, h2 => by
    rw [elT6]
    by_cases h : e ≤ k
    · exact List.mem_append_left _ (elT6_mem p he k h1 h)
    · have h3 : e = (k : Int) + 1 := by omega
      subst h3
      rw [if_pos he]
      exact List.mem_append_right _ (by simp)
theorem el6_ne {p : Pl} (hp : PlOK p) : elT6 p 6 ≠ [] := fun h => by
  obtain ⟨i, hi, hE⟩ := hp.some
  have h0 : gt p.cs i ≠ 0 := hE
  have hc := hp.cell _ (hp.mem hi)
  have := elT6_mem p (hp.mem hi) 6 (by omega) (by omega)
  rw [h] at this
  simp at this

set_option maxHeartbeats 4000000 in
theorem Elec_ok {p : Pl} (hp : PlOK p) (hC : Ans Try.prog n_field_Check [p.v] [] (.int .i64 0) []) : Ans Try.prog n_field_Electrodes [p.v] [] (.sl 0 0 (elT6 p 6).length) [some (.cells true 1 (iv (elT6 p 6)))] := by
  have hN : p.w * p.h ≤ 256 := Nat.mul_le_mul hp.w.2 hp.h.2
  have hlen := hp.len
  have hne6 := el6_ne hp
  refine Ans.keep (run_fn e_field_Electrodes fun G => ?_) (by simp) (by simp [go_sem]) ⟨iv_row _ _ _, trivial⟩
  simp only [go_sem, Pl.v, Pl.a, Pl.c4, vw]
  refine cP hC ?_
  simp only [go_sem]
  refine loop_ind k_field_Electrodes_r9.eq_1 (fun q : Nat × Heap => q.1 ≤ 6 ∧ ((elT6 p q.1 = [] ∧ q.2 = [some (.cells false 4 [p.v])]) ∨ (elT6 p q.1 ≠ [] ∧ ∃ g X, q.2 = some (.cells false 4 [p.v]) :: g :: some (.cells true 1 (iv (elT6 p q.1))) :: X))) (fun q => 6 - q.1)
    (fun q => (tsets 20 [(1, .ptr 0 0 0 1), (3, elv (elT6 p q.1)), (4, .int .i64 ((q.1 : Int) + 1))], q.2)) (0, [some (.cells false 4 [p.v])]) ⟨Nat.zero_le _, .inl ⟨rfl, rfl⟩⟩ (by simp [go_sem, elT6, elv]) rfl ?_
  rintro ⟨k, H⟩ ⟨hk, hH⟩ ih
  dsimp only at hk hH ih ⊢
  by_cases h1 : k < 6
  · have h2 : (k : Int) + 1 ≤ 6 := by omega
    have h3 : IntKind.i64.wrap ((k : Int) + 1 + 1) = ((k + 1 : Nat) : Int) + 1 := by rw [w64 (by omega)]; push_cast; rfl
    have hh := has_ok (p := p) (by omega) ((k : Int) + 1)
    have hs : elT6 p (k + 1) = elT6 p k ++ if ((k : Int) + 1) ∈ p.cs then [(k : Int) + 1] else [] := rfl
    have k0 : ((k : Int) + 1) ≠ 0 := by omega
    have hl6 := elT6_len p k
    have ihn := fun H h => ih (k + 1, H) (by dsimp only; omega) ⟨h1, h⟩
    clear ih
    dsimp only at ihn
    rw [hs] at ihn
    clear hs
    generalize elT6 p k = l at *
    by_cases hin : ((k : Int) + 1) ∈ p.cs
    · have hd : decide (((k : Int) + 1) ≠ 0 ∧ ((k : Int) + 1) ∈ p.cs) = true := by simp [hin, k0]
      rw [hd] at hh
      rw [if_pos hin] at ihn
      have hne2 : ¬ (l ++ [(k : Int) + 1] = []) := by simp
      rw [elv_ne hne2] at ihn
      rcases hH with ⟨rfl, rfl⟩ | ⟨hne, g, X, rfl⟩
      · simp only [List.nil_append, List.length_cons, List.length_nil, Nat.zero_add] at ihn
        rw [elv_nil]
        simp only [go_sem, Pl.v, Pl.a, Pl.c4, vw, h2]
        refine cP hh ?_
        simp only [go_sem, Pl.v, Pl.a, Pl.c4, vw, h3]
        exact ⟨by decide, ihn _ (.inr ⟨by simp, _, [], rfl⟩) _ (by simp [go_sem])⟩
      · simp only [List.length_append, List.length_cons, List.length_nil] at ihn
        rw [elv_ne hne]
        simp only [go_sem, Pl.v, Pl.a, Pl.c4, vw, h2]
        refine cP hh ?_
        simp only [go_sem, Pl.v, Pl.a, Pl.c4, vw, h3, iv_len, iv_app]
        exact ⟨by omega, ihn _ (.inr ⟨by simp, _, _, rfl⟩) _ (by simp [go_sem])⟩
    · have hd : decide (((k : Int) + 1) ≠ 0 ∧ ((k : Int) + 1) ∈ p.cs) = false := by simp [hin]
      rw [hd] at hh
      rw [if_neg hin, List.append_nil] at ihn
      rcases hH with ⟨rfl, rfl⟩ | ⟨hne, g, X, rfl⟩
      · rw [elv_nil] at ihn ⊢
        simp only [go_sem, Pl.v, Pl.a, Pl.c4, vw, h2]
        refine cP hh ?_
        simp only [go_sem, Pl.v, Pl.a, Pl.c4, vw, h3]
        exact ihn _ (.inl ⟨rfl, rfl⟩) _ (by simp [go_sem])
      · rw [elv_ne hne] at ihn ⊢
        simp only [go_sem, Pl.v, Pl.a, Pl.c4, vw, h2]
        refine cP hh ?_
        simp only [go_sem, Pl.v, Pl.a, Pl.c4, vw, h3]
        exact ihn _ (.inr ⟨hne, _, _, rfl⟩) _ (by simp [go_sem])
  · have h2 : ¬ (k : Int) + 1 ≤ 6 := by omega
    have hk6 : k = 6 := by omega
    subst hk6
    clear ih
    rcases hH with ⟨h, _⟩ | ⟨_, g, X, rfl⟩
    · exact absurd h hne6
    · rw [elv_ne hne6]
      simp only [go_sem, Pl.v, Pl.a, Pl.c4, vw, h2]
      exact kept_one 2 rfl (iv_row _ _ _) rfl
theorem Elec_bad {p : Rp} (hC : Ans Try.prog n_field_Check [p.v] [] (.int .i64 p.err) []) (h : p.err ≠ 0) : Ans Try.prog n_field_Electrodes [p.v] [] .nilsl [] := by
  have h' : (p.err != 0) = true := by simp [h]
  refine spec_run e_field_Electrodes fun G => ?_
  simp only [go_sem, Rp.v, vw]
  refine cP hC ?_
  simp only [go_sem, h']

set_option maxHeartbeats 4000000 in
theorem rElec_ok {p : Pl} (hp : PlOK p) (hC : Ans Try.prog n_ref01_Check [p.v] [] (.int .i64 0) []) : Ans Try.prog n_ref01_Electrodes [p.v] [] (.sl 0 0 (elT6 p 6).length) [some (.cells true 1 (iv (elT6 p 6)))] := by
  have hN : p.w * p.h ≤ 256 := Nat.mul_le_mul hp.w.2 hp.h.2
  have hlen := hp.len
  have hne6 := el6_ne hp
  refine Ans.keep (run_fn e_ref01_Electrodes fun G => ?_) (by simp) (by simp [go_sem]) ⟨iv_row _ _ _, trivial⟩
  simp only [go_sem, Pl.v, Pl.a, Pl.c4, vw]
  refine cP hC ?_
  simp only [go_sem]
  refine loop_ind k_ref01_Electrodes_r9.eq_1 (fun q : Nat × Heap => q.1 ≤ 6 ∧ ((elT6 p q.1 = [] ∧ q.2 = [some (.cells false 4 [p.v])]) ∨ (elT6 p q.1 ≠ [] ∧ ∃ g X, q.2 = some (.cells false 4 [p.v]) :: g :: some (.cells true 1 (iv (elT6 p q.1))) :: X))) (fun q => 6 - q.1)
    (fun q => (tsets 20 [(1, .ptr 0 0 0 1), (3, elv (elT6 p q.1)), (4, .int .i64 ((q.1 : Int) + 1))], q.2)) (0, [some (.cells false 4 [p.v])]) ⟨Nat.zero_le _, .inl ⟨rfl, rfl⟩⟩ (by simp [go_sem, elT6, elv]) rfl ?_
  rintro ⟨k, H⟩ ⟨hk, hH⟩ ih
  dsimp only at hk hH ih ⊢
  by_cases h1 : k < 6
  · have h2 : (k : Int) + 1 ≤ 6 := by omega
    have h3 : IntKind.i64.wrap ((k : Int) + 1 + 1) = ((k + 1 : Nat) : Int) + 1 := by rw [w64 (by omega)]; push_cast; rfl
    have hh := rHas_ok hp ((k : Int) + 1)
    have hs : elT6 p (k + 1) = elT6 p k ++ if ((k : Int) + 1) ∈ p.cs then [(k : Int) + 1] else [] := rfl
    have k0 : ((k : Int) + 1) ≠ 0 := by omega
    have hl6 := elT6_len p k
    have ihn := fun H h => ih (k + 1, H) (by dsimp only; omega) ⟨h1, h⟩
    clear ih
    dsimp only at ihn
    rw [hs] at ihn
    clear hs
    generalize elT6 p k = l at *
    by_cases hin : ((k : Int) + 1) ∈ p.cs
    · have hd : decide (((k : Int) + 1) ≠ 0 ∧ ((k : Int) + 1) ∈ p.cs) = true := by simp [hin, k0]
      rw [hd] at hh
      rw [if_pos hin] at ihn
      have hne2 : ¬ (l ++ [(k : Int) + 1] = []) := by simp
      rw [elv_ne hne2] at ihn
      rcases hH with ⟨rfl, rfl⟩ | ⟨hne, g, X, rfl⟩
      · simp only [List.nil_append, List.length_cons, List.length_nil, Nat.zero_add] at ihn
        rw [elv_nil]
        simp only [go_sem, Pl.v, Pl.a, Pl.c4, vw, h2]
        refine cP hh ?_
        simp only [go_sem, Pl.v, Pl.a, Pl.c4, vw, h3]
        exact ⟨by decide, ihn _ (.inr ⟨by simp, _, [], rfl⟩) _ (by simp [go_sem])⟩
      · simp only [List.length_append, List.length_cons, List.length_nil] at ihn
        rw [elv_ne hne]
        simp only [go_sem, Pl.v, Pl.a, Pl.c4, vw, h2]
        refine cP hh ?_
        simp only [go_sem, Pl.v, Pl.a, Pl.c4, vw, h3, iv_len, iv_app]
        exact ⟨by omega, ihn _ (.inr ⟨by simp, _, _, rfl⟩) _ (by simp [go_sem])⟩
    · have hd : decide (((k : Int) + 1) ≠ 0 ∧ ((k : Int) + 1) ∈ p.cs) = false := by simp [hin]
      rw [hd] at hh
      rw [if_neg hin, List.append_nil] at ihn
      rcases hH with ⟨rfl, rfl⟩ | ⟨hne, g, X, rfl⟩
      · rw [elv_nil] at ihn ⊢
        simp only [go_sem, Pl.v, Pl.a, Pl.c4, vw, h2]
        refine cP hh ?_
        simp only [go_sem, Pl.v, Pl.a, Pl.c4, vw, h3]
        exact ihn _ (.inl ⟨rfl, rfl⟩) _ (by simp [go_sem])
      · rw [elv_ne hne] at ihn ⊢
        simp only [go_sem, Pl.v, Pl.a, Pl.c4, vw, h2]
        refine cP hh ?_
        simp only [go_sem, Pl.v, Pl.a, Pl.c4, vw, h3]
        exact ihn _ (.inr ⟨hne, _, _, rfl⟩) _ (by simp [go_sem])
  · have h2 : ¬ (k : Int) + 1 ≤ 6 := by omega
    have hk6 : k = 6 := by omega
    subst hk6
    clear ih
    rcases hH with ⟨h, _⟩ | ⟨_, g, X, rfl⟩
    · exact absurd h hne6
    · rw [elv_ne hne6]
      simp only [go_sem, Pl.v, Pl.a, Pl.c4, vw, h2]
      exact kept_one 2 rfl (iv_row _ _ _) rfl
theorem rElec_bad {p : Rp} (hC : Ans Try.prog n_ref01_Check [p.v] [] (.int .i64 p.err) []) (h : p.err ≠ 0) : Ans Try.prog n_ref01_Electrodes [p.v] [] .nilsl [] := by
  have h' : (p.err != 0) = true := by simp [h]
  refine spec_run e_ref01_Electrodes fun G => ?_
  simp only [go_sem, Rp.v, vw]
  refine cP hC ?_
  simp only [go_sem, h']

theorem SameInts_ok {a b : List Int} (hlen : a.length ≤ 1000000) : Ans Try.prog n_ref01_SameInts [vw a, vw b] [] (.bool (decide (a = b))) [] := by
  refine spec_run e_ref01_SameInts fun G => ?_
  by_cases hl : a.length = b.length
  rotate_left
  · have hl' : ((a.length : Int) != b.length) = true := by simp; omega
    have hne : decide (a = b) = false := decide_eq_false fun h => hl (by rw [h])
    simp only [go_sem, vw, List.length_map, hl', hne]
  have hl' : ((a.length : Int) != b.length) = false := by simp; omega
  simp only [go_sem, vw, List.length_map, hl']
  refine loop_ind k_ref01_SameInts_r8.eq_1 (fun q : Nat × Heap => q.1 ≤ a.length ∧ ∀ j, j < q.1 → gt a j = gt b j) (fun q => a.length - q.1)
    (fun q => (tsets 26 [(0, vw a), (1, vw b), (5, .int .i64 q.1)], q.2)) (0, []) ⟨Nat.zero_le _, fun j hj => absurd hj (Nat.not_lt_zero _)⟩ (by simp [go_sem, vw]) rfl ?_
  rintro ⟨i, X⟩ ⟨hi, he⟩ ih
  dsimp only at hi he ih ⊢
  by_cases h1 : i < a.length
  · have h2 : (i : Int) < a.length := by omega
    have h2b : (i : Int) < b.length := by omega
    have h3 := idx_next h1 (by omega)
    have n0 : ¬ (i : Int) < 0 := by omega
    have hx := gt_get h1
    have hy := gt_get (l := b) (i := i) (by omega)
    by_cases hq : gt a i = gt b i
    · have hq' : (gt a i != gt b i) = false := by simp [hq]
      have ihn := fun X => ih (i + 1, X) (by dsimp only; omega) ⟨h1, fun j hj => by
        by_cases e : j = i
        · subst e; exact hq
        · exact he j (by dsimp only at hj; omega)⟩
      generalize gt a i = x at *
      generalize gt b i = y at *
      simp only [go_sem, vw, List.length_map, h2, h2b, n0, hx, hy, hq', h3]
      exact ihn _ _ (by simp [go_sem, vw])
    · have hq' : (gt a i != gt b i) = true := by simp [hq]
      have hne : decide (a = b) = false := decide_eq_false fun h => hq (by rw [h])
      rw [hne]
      generalize gt a i = x at *
      generalize gt b i = y at *
      simp only [go_sem, vw, List.length_map, h2, h2b, n0, hx, hy, hq']
  · have h2 : ¬ (i : Int) < a.length := by omega
    have hab : a = b := gt_ext hl fun j hj => he j (by omega)
    rw [decide_eq_true hab]
    simp only [go_sem, vw, List.length_map, h2]

theorem Equal_ok {a b : List Int} (hlen : a.length ≤ 1000000) : Ans Try.prog n_slices_Equal_int_int [vw a, vw b] [] (.bool (decide (a = b))) [] := by
  refine spec_run e_slices_Equal_int_int fun G => ?_
  by_cases hl : a.length = b.length
  rotate_left
  · have hl' : ((a.length : Int) != b.length) = true := by simp; omega
    have hne : decide (a = b) = false := decide_eq_false fun h => hl (by rw [h])
    simp only [go_sem, vw, List.length_map, hl', hne]
  have hl' : ((a.length : Int) != b.length) = false := by simp; omega
  simp only [go_sem, vw, List.length_map, hl']
  refine loop_ind k_slices_Equal_int_int_r9.eq_1 (fun q : Nat × Heap => q.1 ≤ a.length ∧ ∀ j, j < q.1 → gt a j = gt b j) (fun q => a.length - q.1)
    (fun q => (tsets 26 [(0, vw a), (1, vw b), (12, .int .i64 a.length), (13, .int .i64 q.1)], q.2)) (0, []) ⟨Nat.zero_le _, fun j hj => absurd hj (Nat.not_lt_zero _)⟩ (by simp [go_sem, vw]) rfl ?_
  rintro ⟨i, X⟩ ⟨hi, he⟩ ih
  dsimp only at hi he ih ⊢
  by_cases h1 : i < a.length
  · have h2 : (i : Int) < a.length := by omega
    have h2b : (i : Int) < b.length := by omega
    have h3 := idx_next h1 (by omega)
    have n0 : ¬ (i : Int) < 0 := by omega
    have hx := gt_get h1
    have hy := gt_get (l := b) (i := i) (by omega)
    by_cases hq : gt a i = gt b i
    · have hq' : (gt a i != gt b i) = false := by simp [hq]
      have ihn := fun X => ih (i + 1, X) (by dsimp only; omega) ⟨h1, fun j hj => by
        by_cases e : j = i
        · subst e; exact hq
        · exact he j (by dsimp only at hj; omega)⟩
      generalize gt a i = x at *
      generalize gt b i = y at *
      simp only [go_sem, vw, List.length_map, h2, h2b, n0, hx, hy, hq', h3]
      exact ihn _ _ (by simp [go_sem, vw])
    · have hq' : (gt a i != gt b i) = true := by simp [hq]
      have hne : decide (a = b) = false := decide_eq_false fun h => hq (by rw [h])
      rw [hne]
      generalize gt a i = x at *
      generalize gt b i = y at *
      simp only [go_sem, vw, List.length_map, h2, h2b, n0, hx, hy, hq']
  · have h2 : ¬ (i : Int) < a.length := by omega
    have hab : a = b := gt_ext hl fun j hj => he j (by omega)
    rw [decide_eq_true hab]
    simp only [go_sem, vw, List.length_map, h2]

theorem fSame_raw (p q : Rp) (hlen : p.cs.length ≤ 1000000) (b : Bool) (hb : b = true ↔ p = q) : Ans Try.prog n_field_Same [p.v, q.v] [] (.bool b) [] := by
  have h := Equal_ok (a := p.cs) (b := q.cs) hlen
  obtain ⟨w, h1, rd, cs⟩ := p
  obtain ⟨w', h1', rd', cs'⟩ := q
  dsimp only at h hlen
  rw [Rp.mk.injEq] at hb
  refine spec_run e_field_Same fun G => ?_
  by_cases q1 : w = w'
  rotate_left
  · have e1 : (w == w') = false := by simp [q1]
    rw [no_of hb fun h => q1 h.1]
    simp only [go_sem, Rp.v, vw, e1]
  have e1 : (w == w') = true := by simp [q1]
  by_cases q2 : h1 = h1'
  rotate_left
  · have e2 : (h1 == h1') = false := by simp [q2]
    rw [no_of hb fun h => q2 h.2.1]
    simp only [go_sem, Rp.v, vw, e1, e2]
  have e2 : (h1 == h1') = true := by simp [q2]
  by_cases q3 : rd = rd'
  rotate_left
  · have e3 : (rd == rd') = false := by simp [q3]
    rw [no_of hb fun h => q3 h.2.2.1]
    simp only [go_sem, Rp.v, vw, e1, e2, e3]
  have e3 : (rd == rd') = true := by simp [q3]
  simp only [go_sem, Rp.v, vw, e1, e2, e3]
  refine cP h ?_
  by_cases q4 : cs = cs'
  · rw [decide_eq_true q4, hb.2 ⟨q1, q2, q3, q4⟩]
    simp only [go_sem]
  · rw [decide_eq_false q4, no_of hb fun h => q4 h.2.2.2]
    simp only [go_sem]

theorem rSame_raw (p q : Rp) (hlen : p.cs.length ≤ 1000000) (b : Bool) (hb : b = true ↔ p = q) : Ans Try.prog n_ref01_Same [p.v, q.v] [] (.bool b) [] := by
  have h := SameInts_ok (a := p.cs) (b := q.cs) hlen
  obtain ⟨w, h1, rd, cs⟩ := p
  obtain ⟨w', h1', rd', cs'⟩ := q
  dsimp only at h hlen
  rw [Rp.mk.injEq] at hb
  refine spec_run e_ref01_Same fun G => ?_
  by_cases q1 : w = w'
  rotate_left
  · have e1 : (w == w') = false := by simp [q1]
    rw [no_of hb fun h => q1 h.1]
    simp only [go_sem, Rp.v, vw, e1]
  have e1 : (w == w') = true := by simp [q1]
  by_cases q2 : h1 = h1'
  rotate_left
  · have e2 : (h1 == h1') = false := by simp [q2]
    rw [no_of hb fun h => q2 h.2.1]
    simp only [go_sem, Rp.v, vw, e1, e2]
  have e2 : (h1 == h1') = true := by simp [q2]
  by_cases q3 : rd = rd'
  rotate_left
  · have e3 : (rd == rd') = false := by simp [q3]
    rw [no_of hb fun h => q3 h.2.2.1]
    simp only [go_sem, Rp.v, vw, e1, e2, e3]
  have e3 : (rd == rd') = true := by simp [q3]
  simp only [go_sem, Rp.v, vw, e1, e2, e3]
  refine cP h ?_
  by_cases q4 : cs = cs'
  · rw [decide_eq_true q4, hb.2 ⟨q1, q2, q3, q4⟩]
    simp only [go_sem]
  · rw [decide_eq_false q4, no_of hb fun h => q4 h.2.2.2]
    simp only [go_sem]

end Go.Proofs

namespace Go.Proofs
open Go Go.Sx
attribute [local irreducible] Run

def Rp.a (p : Rp) (c : AVal) : AVal := .agg [.int .i64 p.w, .int .i64 p.h, .bool p.rd, c]
theorem rpa_frz (d : Nat) {H : Heap} {j n : Nat} {g : Bool} {p : Rp} (h : H[j]? = some (some (.cells g 1 (iv p.cs)))) (hn : n = p.cs.length) : frz (d + 3) H (p.a (.sl j 0 n)) = p.v := by
  show AVal.agg [_, _, _, frz (d + 2) H (.sl j 0 n)] = _
  rw [iv_frz_sl h hn]; rfl

theorem vr_nilp {G : Ctx} {μ : Mu} {a b c : AVal} {x : Value} (h : VR G μ (.agg [a, b, c, .nilsl]) x) : VR G μ (.agg [a, b, c, .view []]) x := by
  cases h with
  | agg _ vs hl hv =>
    refine .agg _ vs (by simpa using hl) fun i hi => ?_
    match i, hi with
    | 0, _ => exact hv 0 (by simp)
    | 1, _ => exact hv 1 (by simp)
    | 2, _ => exact hv 2 (by simp)
    | 3, _ =>
      have h3 := hv 3 (by simp)
      simp only [List.getD_cons_zero, List.getD_cons_succ] at h3 ⊢
      generalize vs.getD 3 undef = y at *
      cases h3
      exact .viewnil none 0
def lss2 : List AVal → List AVal → Prop
  | [], [] => True
  | v :: vs, u :: us => (v = u ∨ (v = .nilsl ∧ u = .view []) ∨ (∃ a b c, v = .agg [a, b, c, .nilsl] ∧ u = .agg [a, b, c, .view []])) ∧ lss2 vs us
  | _, _ => False
theorem lss2_len : ∀ {l l' : List AVal}, lss2 l l' → l.length = l'.length
  | [], [], _ => rfl
  | v :: l, u :: l', h => by simp [lss2_len h.2]
  | [], _ :: _, h => h.elim
  | _ :: _, [], h => h.elim
theorem lss2_vr {G : Ctx} {μ : Mu} : ∀ {l l' : List AVal}, lss2 l l' → ∀ i c, i < l.length → VR G μ (l.getD i .any) c → VR G μ (l'.getD i .any) c
  | [], [], _, i, c, hi, _ => by simp at hi
  | v :: l, u :: l', h, i, c, hi, hv => by
    cases i with
    | zero =>
      simp only [List.getD_cons_zero] at hv ⊢
      rcases h.1 with rfl | ⟨rfl, rfl⟩ | ⟨a, b, d, rfl, rfl⟩
      · exact hv
      · cases hv; exact .viewnil none 0
      · exact vr_nilp hv
    | succ i =>
      simp only [List.getD_cons_succ] at hv ⊢
      exact lss2_vr h.2 i c (by simpa using hi) hv
  | [], _ :: _, h, _, _, _, _ => h.elim
  | _ :: _, [], h, _, _, _, _ => h.elim
theorem Ans.lss2 {P : Program} {g : FuncId} {args args' : List AVal} {LH LH' : Heap} {r : AVal} (h : Ans P g args LH r LH') (hw : Go.Proofs.lss2 args' args) : Ans P g args' LH r LH' := h.weak (lss2_len hw) fun _ _ i c hi hv => lss2_vr hw i c hi hv
theorem nilp_eq {p : Rp} (h : p.cs = []) : ∃ a b c, p.a .nilsl = .agg [a, b, c, .nilsl] ∧ p.v = .agg [a, b, c, .view []] := ⟨_, _, _, rfl, by unfold Rp.v; rw [h]; rfl⟩

theorem rCopyR {p : Rp} (hlen : p.cs.length ≤ 1000000) : Ans Try.prog n_ref01_Copy [p.v] [] (p.a (.sl 0 0 p.cs.length)) [some (.cells true 1 (iv p.cs))] := by
  by_cases hnz : p.cs = []
  · obtain ⟨w, hh, rd, cs⟩ := p
    dsimp only at hnz
    subst hnz
    refine Ans.keep (run_fn e_ref01_Copy fun G => ?_) (by simp) (by simp [go_sem, Rp.a]) ⟨iv_row _ _ _, trivial⟩
    simp only [go_sem, Rp.v, vw, Rp.a, List.map_nil]
    exact ⟨by decide, kept_new (A := []) 0 2 rfl rfl (by omega) (by simp [ren, rens]) (fun i x hx => by simp at hx) (iv_row true [] _) rfl⟩
  refine Ans.keep (run_fn e_ref01_Copy fun G => ?_) (by simp) (by simp [go_sem, Rp.a]) ⟨iv_row _ _ _, trivial⟩
  simp only [go_sem, Rp.v, vw]
  have hs : sizedAll 1 (List.map (AVal.int IntKind.i64) p.cs) = true := by simp [sizedAll, acells, AVal.one]
  refine ⟨by rw [hs]; simp, by omega, ?_⟩
  exact kept_new (A := []) 0 2 rfl rfl (by omega) (by simp [ren, rens, Rp.a]) (fun i x hx => by simp at hx) (iv_row _ _ _) rfl
theorem fCopyR {p : Rp} (hlen : p.cs.length ≤ 1000000) (hnz : p.cs ≠ []) : Ans Try.prog n_field_Copy [p.v] [] (p.a (.sl 0 0 p.cs.length)) [some (.cells true 1 (iv p.cs))] := by
  refine Ans.keep (run_fn e_field_Copy fun G => ?_) (by simp) (by simp [go_sem, Rp.a]) ⟨iv_row _ _ _, trivial⟩
  simp only [go_sem, Rp.v, vw]
  have hs : sizedAll 1 (List.map (AVal.int IntKind.i64) p.cs) = true := by simp [sizedAll, acells, AVal.one]
  refine ⟨by rw [hs]; simp, fun h => absurd (List.map_eq_nil_iff.1 h) hnz, fun _ => ⟨by omega, ?_⟩⟩
  exact kept_new (A := []) 0 2 rfl rfl (by omega) (by simp [ren, rens, Rp.a]) (fun i x hx => by simp at hx) (iv_row _ _ _) rfl
theorem fCopyN {p : Rp} (h : p.cs = []) : Ans Try.prog n_field_Copy [p.v] [] (p.a .nilsl) [] := by
  obtain ⟨w, hh, rd, cs⟩ := p
  dsimp only at h
  subst h
  refine spec_run e_field_Copy fun G => ?_
  simp only [go_sem, Rp.v, vw, Rp.a, List.map_nil]
theorem ownR {l : List Int} (hlen : l.length ≤ 1000000) : Ans Try.prog n_kit_Own [vw l] [] (.sl 0 0 l.length) [some (.cells true 1 (iv l))] := by
  by_cases hnz : l = []
  · subst hnz
    refine Ans.keep (run_fn e_kit_Own fun G => ?_) (by simp) (by simp [go_sem]) ⟨iv_row _ _ _, trivial⟩
    simp only [go_sem, vw, List.map_nil]
    exact ⟨by decide, kept_new (A := []) 0 0 rfl rfl (by omega) (by simp [ren, rens]) (fun i x hx => by simp at hx) (iv_row true [] _) rfl⟩
  · exact own_ok hlen (by
      rcases Nat.eq_zero_or_pos l.length with h | h
      · exact absurd (List.length_eq_zero_iff.1 h) hnz
      · exact h)

set_option maxHeartbeats 8000000 in
set_option maxRecDepth 8000 in
theorem weights_ok (p : Rp) (hp : p.cs.length ≤ 300) (zs : List Int) (hl : zs.length ≤ 9223372036854775807) (a b : Int) : Ans Try.prog n_law01_weights [p.v, .view (zs.map (.int .i64)), .int .i64 a, .int .i64 b] [] (.bool true) [] := by
  have F1 := Weight_raw p a b (by omega)
  have F2 := rWeight_raw p a b (by omega)
  generalize wgR p a b = wr at *
  refine spec_run e_law01_weights fun G => ?_
  simp only [go_sem, Rp.v, vw]
  refine callN1 (newdice_ok zs hl) (by simp only [go_sem]) (dr_bel _ _) (by simp) (by simp) ?_
  generalize seedW zs = w
  simp only [go_sem]
  refine callDN (PlanOf_ok w 8 6 (by omega) (by omega)) rfl (by simp only [go_sem]) (dr_bel _ _) (fun q hq => ⟨pla_bel _ _ _ _ rfl, dr_bel _ _, iv_row _ _ _⟩) (by simp) (by simp) ?_
  rintro ⟨w1, q⟩ hq
  dsimp only at hq ⊢
  have hqo := hq.ok
  have hqN : q.cs.length ≤ 256 := by rw [hqo.len]; exact Nat.mul_le_mul hqo.w.2 hqo.h.2
  have hq1 : 1 ≤ q.cs.length := by rw [hqo.len]; exact Nat.mul_pos hqo.w.1 hqo.h.1
  have m1 := mod_pos a q.cs.length (by omega)
  have m2 := mod_pos b q.cs.length (by omega)
  have y1 : 0 ≤ a % (q.cs.length : Int) ∧ a % (q.cs.length : Int) < q.cs.length := ⟨Int.emod_nonneg _ (by omega), Int.emod_lt_of_pos _ (by omega)⟩
  generalize a % (q.cs.length : Int) = i at *
  generalize b % (q.cs.length : Int) = bm at *
  have hw := hqo.w
  have v1 : IntKind.i64.wrap (i - 1) = i - 1 := w64 (by omega)
  have v2 : IntKind.i64.wrap (i + 1) = i + 1 := w64 (by omega)
  have v3 : IntKind.i64.wrap (i - q.w) = i - q.w := w64 (by omega)
  have v4 : IntKind.i64.wrap (i + q.w) = i + q.w := w64 (by omega)
  simp only [go_sem, Pl.a, Pl.c4, ren, rens, iv_len]
  refine cP m1 ?_
  simp only [go_sem, Pl.a, Pl.c4, ren, rens, iv_len]
  refine dP m2 ?_
  simp only [go_sem, Pl.a, Pl.c4, ren, rens, iv_len, v1, v2, v3, v4]
  have W1 := fun x => Weight_raw q.rp i x (by show q.cs.length ≤ _; omega)
  have W2 := fun x => rWeight_raw q.rp i x (by show q.cs.length ≤ _; omega)
  rw [Pl.rp_v] at W1 W2
  have hrow : [AVal.int .i64 b, .int .i64 bm, .int .i64 (i - 1), .int .i64 (i + 1), .int .i64 (i - q.w), .int .i64 (i + q.w)] = iv [b, bm, i - 1, i + 1, i - q.w, i + q.w] := rfl
  rw [hrow]
  generalize hls : [b, bm, i - 1, i + 1, i - q.w, i + q.w] = ls
  have hl6 : ls.length = 6 := by rw [← hls]; rfl
  clear hls hrow
  refine loop_ind k_law01_weights_r10.eq_1 (fun k : Nat => k ≤ ls.length) (fun k => ls.length - k)
    (fun k => (tsets 70 [(2, .int .i64 a), (3, .int .i64 b), (4, .ptr 0 0 0 1), (9, .ptr 3 0 0 1), (11, .int .i64 i), (12, .sl 4 0 6), (13, .int .i64 k)], [some (.cells false 4 [p.v]), some (Dr w1), some (.cells true 1 (iv q.cs)), some (.cells false 4 [q.a (.sl 2 0 q.cs.length)]), some (.cells false 1 (iv ls))])) 0 (Nat.zero_le _) (by simp [go_sem]) rfl ?_
  intro k hk ih
  dsimp only at hk ih ⊢
  by_cases h1 : k < ls.length
  · have h2 : (k : Int) < 6 := by omega
    have h3 := idx_next h1 (by omega)
    have n0 : ¬ (k : Int) < 0 := by omega
    have hg := iv_get h1
    have A := W1 (gt ls k)
    have B := W2 (gt ls k)
    have ihn := ih (k + 1) (by omega) h1
    clear ih
    generalize gt ls k = x at *
    generalize wgR q.rp i x = y at *
    simp only [go_sem, Pl.a, Pl.c4, Rp.v, vw, iv_len, hl6, h2, n0, hg]
    refine dF A 6 [2] ⟨.inl (pla_frz 3 (p := q) (j := 2) (g := true) (onlyR_row rfl (by simp)) rfl), .inl rfl, .inl rfl, trivial⟩ ?_
    simp only [go_sem, Pl.a, Pl.c4, Rp.v, vw, iv_len, hl6, h2, n0, hg]
    refine cF B 6 ⟨.inl (pla_frz 3 (p := q) (j := 2) (g := true) rfl rfl), .inl rfl, .inl rfl, trivial⟩ ?_
    simp only [go_sem, bne_self_eq_false, h3]
    exact ihn _ (by simp [go_sem])
  · have h2 : ¬ (k : Int) < 6 := by omega
    simp only [go_sem, Pl.a, Pl.c4, Rp.v, vw, iv_len, hl6, h2]
    refine dP F1 ?_
    simp only [go_sem, Pl.a, Pl.c4, Rp.v, vw]
    refine cP F2 ?_
    simp only [go_sem, beq_self_eq_true]
end Go.Proofs

