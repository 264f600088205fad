/- FieldScreens. -/
import Derived.Test.YtmkijjaecnnonaaPF
set_option linter.unusedSimpArgs false
set_option linter.unusedVariables false
namespace Go.Proofs
open Go Go.Sx
attribute [local irreducible] Run

/-- A plan with a cell that is another electrode. -/
def Pl.put (p : Pl) (i : Nat) (c : Int) : Pl := { p with cs := p.cs.set i c }
theorem put_ok {p : Pl} (hp : PlOK p) {i : Nat} (hi : i < p.w * p.h) (c : Int) (hc : 1 ≤ c ∧ c ≤ 6) : PlOK (p.put i c) := by
  have hl : i < p.cs.length := by rw [hp.len]; exact hi
  refine ⟨hp.w, hp.h, by show (p.cs.set i c).length = _; rw [List.length_set]; exact hp.len, fun d hd => ?_, i, hi, ?_⟩
  · rcases List.mem_or_eq_of_mem_set (show d ∈ p.cs.set i c from hd) with h | h
    · exact hp.cell d h
    · omega
  · show gt (p.cs.set i c) i ≠ 0
    rw [gt_set _ _ _ _ hl, if_pos rfl]; omega
theorem put_gt {p : Pl} (hp : PlOK p) {i : Nat} (hi : i < p.w * p.h) (c : Int) (j : Nat) : gt (p.put i c).cs j = if j = i then c else gt p.cs j := gt_set _ _ _ _ (by rw [hp.len]; exact hi)
theorem put_max {p : Pl} (hp : PlOK p) {i : Nat} (hi : i < p.w * p.h) (hc : ∀ c ∈ p.cs, c ≤ 4) : gmax (p.put i 4).cs = 4 := by
  have h := (put_ok hp hi 4 (by omega)).max
  have hm : gt (p.put i 4).cs i ∈ (p.put i 4).cs := gt_mem (by show i < (p.cs.set i 4).length; rw [List.length_set, hp.len]; exact hi)
  rw [put_gt hp hi, if_pos rfl] at hm
  have h1 := h.2.2 4 hm
  have h2 : gmax (p.put i 4).cs ≤ 4 := mxL_le _ _ _ (by omega) fun d hd => by
    rcases List.mem_or_eq_of_mem_set (show d ∈ p.cs.set i 4 from hd) with h | h
    · exact hc d h
    · omega
  omega
theorem low_pos {p : Pl} (hp : PlOK p) {g : Nat} (hg : (g : Int) = gmax p.cs) {a : Int} (ha : 1 ≤ a ∧ a ≤ g) (k : Nat) {j : Nat} (hj : j < p.w * p.h) : 0 ≤ gt (lowB p (unitV g a) k) j := by
  have h1 := ((low_ok hp (unitV g a) k).bd j hj).1
  have h2 := endLs_ge (unitV g a) 0 p.cs 1000000 (by omega) fun c hc h0 => by
    rw [unitV_vo ha (by have := hp.cell c hc; omega)]; split <;> omega
  have h3 : (0 : Int) ≤ endL p (unitV g a) := h2
  omega
theorem screen {p : Pl} (hp : PlOK p) {i : Nat} (hi : i < p.w * p.h) (h0 : gt p.cs i = 0) (h3 : ∀ c ∈ p.cs, c ≤ 3) {g : Nat} (hg : (g : Int) = gmax p.cs) (h2 : (2 : Int) ∈ p.cs) (k l : Nat) :
    chg p (highB p (unitV g 2) k) 1 ≤ chg (p.put i 4) (lowB (p.put i 4) (unitV 4 2) l) 1 := by
  have hq := put_ok hp hi 4 (by omega)
  have hmx := put_max hp hi fun c hc => by have := h3 c hc; omega
  have hgq : ((4 : Nat) : Int) = gmax (p.put i 4).cs := by rw [hmx]; rfl
  have hg2 : (1 : Int) ≤ 2 ∧ (2 : Int) ≤ g := ⟨by omega, by rw [hg]; exact hp.max.2.2 2 h2⟩
  have A := high_ok hp (unitV g 2) k
  have B := low_ok hq (unitV 4 2) l
  have hpos := fun j (hj : j < p.w * p.h) => low_pos hq hgq (a := 2) (by omega) l (j := j) hj
  have vE : ∀ c ∈ p.cs, c ≠ 0 → vo (unitV 4 2) c = vo (unitV g 2) c := fun c hc hc0 => by
    have := hp.cell c hc
    rw [unitV_vo (by omega) (by omega), unitV_vo hg2 (by omega)]
  have hsub : SubH p p.el (gt (lowB (p.put i 4) (unitV 4 2) l)) := fun j hj hE => by
    by_cases e : j = i
    · subst e
      have h4 : gt (lowB (p.put j 4) (unitV 4 2) l) j = 0 := by
        rw [B.elec j hj (by show gt (p.put j 4).cs j ≠ 0; rw [put_gt hp hj, if_pos rfl]; omega), put_gt hp hj, if_pos rfl, unitV_vo (by omega) (by omega), if_neg (by omega)]
      rw [h4, Int.mul_zero]
      have h5 := wsum_mono (l := nbs p j) (f := fun _ => 0) (g := gt (lowB (p.put j 4) (unitV 4 2) l)) fun q hq' => by
        obtain ⟨k1, k2, _⟩ := nbs_in p hp.w.2 hj q hq'
        exact ⟨by omega, hpos _ k1⟩
      rw [wsum_const, Int.mul_zero] at h5
      exact h5
    · exact B.sub j hj (by show ¬ gt (p.put i 4).cs j ≠ 0; rw [put_gt hp hi, if_neg e]; exact hE)
  have hle := compare hp.w.2 hsub A.sup hp.some fun j hj hE => by
    have e : j ≠ i := fun h => by subst h; exact hE h0
    rw [A.elec j hj hE, B.elec j hj (by show gt (p.put i 4).cs j ≠ 0; rw [put_gt hp hi, if_neg e]; exact hE), put_gt hp hi, if_neg e, vE _ (hp.mem hj) hE]
    exact Int.le_refl _
  rw [chg_lap hp A.elec (by omega), chg_lap hq B.elec (by omega)]
  refine sumN_le _ fun j hj => ?_
  rw [put_gt hp hi]
  by_cases e : j = i
  · subst e
    rw [if_neg (by omega), if_pos rfl, if_neg (by omega)]; exact Int.le_refl _
  · rw [if_neg e]
    split
    · rename_i h1
      have hE : p.el j := by show gt p.cs j ≠ 0; omega
      have a1 := A.elec j hj hE
      have a2 := B.elec j hj (by show gt (p.put i 4).cs j ≠ 0; rw [put_gt hp hi, if_neg e]; omega)
      rw [put_gt hp hi, if_neg e] at a2
      rw [vE _ (hp.mem hj) hE] at a2
      show lap p _ j ≤ lap p _ j
      unfold lap
      refine wsum_mono fun q hq' => ?_
      obtain ⟨k1, k2, _⟩ := nbs_in p hp.w.2 hj q hq'
      have := hle _ k1
      exact ⟨by omega, by omega⟩
    · exact Int.le_refl _

set_option maxHeartbeats 8000000 in
set_option maxRecDepth 10000 in
theorem screens_law (zs : List Int) (hl : zs.length ≤ 9223372036854775807) (a1 a2 : Int) : Ans Try.prog n_law01_FieldScreens [.view (zs.map (.int .i64)), .int .i64 a1, .int .i64 a2] [] (.bool true) [] := by
  have m2 := mod_in a2 41 (by omega)
  have e2 := mod_pos a2 41 (by omega)
  generalize a2 % 41 = n1 at *
  obtain ⟨n, rfl⟩ : ∃ n : Nat, n1 = n := ⟨n1.toNat, by omega⟩
  refine spec_run e_law01_FieldScreens fun G => ?_
  simp only [go_sem]
  refine callN1 (newdice_ok zs hl) (by simp only [go_sem]) (dr_bel _ _) (by simp) (by simp) ?_
  generalize seedW zs = w
  simp only [go_sem]
  refine callDN (PlanOf_ok w 8 6 (by omega) (by omega)) rfl (by simp only [go_sem]) (dr_bel _ _) (fun q hq => ⟨pla_bel _ _ _ _ rfl, dr_bel _ _, iv_row _ _ _⟩) (by simp) (by simp) ?_
  rintro ⟨w1, p⟩ hp
  dsimp only at hp ⊢
  have hpo := hp.ok
  have hpl : p.cs.length ≤ 1000000 := by
    rw [hpo.len]; have := Nat.mul_le_mul hpo.w.2 hpo.h.2; omega
  have hmx := hpo.max
  simp only [go_sem, Pl.a, Pl.c4, ren, rens]
  have hlen := hpo.len
  have hN1 : 1 ≤ p.cs.length := by
    obtain ⟨i, hi, _⟩ := hpo.some
    rw [hlen]; omega
  have m1 := mod_in a1 p.cs.length (by omega)
  have e1 := mod_pos a1 p.cs.length (by omega)
  generalize a1 % p.cs.length = i1 at *
  obtain ⟨i, rfl⟩ : ∃ i : Nat, i1 = i := ⟨i1.toNat, by omega⟩
  have hi : i < p.cs.length := by omega
  have hiN : i < p.w * p.h := by rw [← hlen]; exact hi
  have n0 : ¬ (i : Int) < 0 := by omega
  have hiI : (i : Int) < p.cs.length := by omega
  have gi := iv_get hi
  have H2 := kitHas_ok (l := p.cs) 2 hpl
  have H1 := kitHas_ok (l := p.cs) 1 hpl
  simp only [go_sem, iv_len, Pl.a, Pl.c4]
  refine cP e1 ?_
  simp only [go_sem, iv_len, n0, hiI, gi]
  by_cases hz : 0 < gt p.cs i
  · simp only [go_sem, hz]
    refine cP awake_ok ?_
    simp only [go_sem]
  · have h0 : gt p.cs i = 0 := by have := hpo.cell _ (gt_mem hi); omega
    have h3 : ∀ c ∈ p.cs, c ≤ 3 := fun c hc => (hp.le c hc).2
    obtain ⟨g, hg⟩ : ∃ g : Nat, (g : Int) = gmax p.cs := ⟨(gmax p.cs).toNat, by omega⟩
    have I1 := Influence_ok hpo hg (n := n) (by omega) (a := 2) (k := 1) (by omega) (by omega) (by omega)
    have hq := put_ok hpo hiN 4 (by omega)
    have hmx4 := put_max hpo hiN fun c hc => by have := h3 c hc; omega
    have I2 := Influence_ok hq (g := 4) (by rw [hmx4]; rfl) (n := n) (by omega) (a := 2) (k := 1) (by omega) (by omega) (by omega)
    have hcp := Copy_ok hpl hN1
    simp only [go_sem, hz, Pl.a, Pl.c4]
    refine cF H2 6 ⟨.inl (iv_frz_sl (d := 4) (j := 1) (g := true) rfl rfl), .inl rfl, trivial⟩ ?_
    by_cases b2 : (2 : Int) ∈ p.cs
    · have b2' : decide ((2 : Int) ∈ p.cs) = true := by simp [b2]
      rw [b2']
      simp only [go_sem, Pl.a, Pl.c4]
      refine cF H1 6 ⟨.inl (iv_frz_sl (d := 4) (j := 1) (g := true) rfl rfl), .inl rfl, trivial⟩ ?_
      by_cases b1 : (1 : Int) ∈ p.cs
      · have b1' : decide ((1 : Int) ∈ p.cs) = true := by simp [b1]
        rw [b1']
        have scr := screen hpo hiN h0 h3 hg b2 (cnt p (unitV g 2) n) (cnt (p.put i 4) (unitV 4 2) n)
        have mq : ∀ c : Int, c ≠ 0 → c ∈ p.cs → c ∈ (p.put i 4).cs := fun c hc hm => by
          obtain ⟨j, hj, rfl⟩ := mem_gt hm
          have hji : j ≠ i := fun h => by subst h; exact hc h0
          have : gt (p.put i 4).cs j = gt p.cs j := by rw [put_gt hpo hiN, if_neg hji]
          rw [← this]
          exact gt_mem (by show j < (p.cs.set i 4).length; rw [List.length_set]; exact hj)
        unfold inflA at I1 I2
        rw [if_pos ⟨b2, b1⟩] at I1
        rw [if_pos ⟨mq 2 (by omega) b2, mq 1 (by omega) b1⟩] at I2
        generalize chg p (highB p (unitV g 2) (cnt p (unitV g 2) n)) 1 = ch1 at *
        generalize chg p (lowB p (unitV g 2) (cnt p (unitV g 2) n)) 1 = cl1 at *
        generalize chg (p.put i 4) (lowB (p.put i 4) (unitV 4 2) (cnt (p.put i 4) (unitV 4 2) n)) 1 = cl2 at *
        generalize chg (p.put i 4) (highB (p.put i 4) (unitV 4 2) (cnt (p.put i 4) (unitV 4 2) n)) 1 = ch2 at *
        simp only [go_sem, Pl.a, Pl.c4]
        refine cFN hcp 6 ⟨.inl (pla_frz 3 (j := 1) (g := true) rfl rfl), trivial⟩ ?_ (hr := by simp [go_sem, Pl.a, Pl.c4]) (hnv := by simp only [go_sem, Pl.a, Pl.c4]) (hx := iv_row _ _ _) (hxn := iv_nv _ _)
        have hiv : (iv p.cs).set i (.int .i64 4) = iv (p.put i 4).cs := by rw [iv_set]; rfl
        simp only [go_sem, ren, rens, Pl.a, Pl.c4, iv_len, n0, hiI, gi, hiv]
        refine cP e2 ?_
        simp only [go_sem, Pl.a, Pl.c4]
        refine cF I1 6 ⟨.inl (pla_frz 3 (j := 1) (g := true) rfl rfl), .inl rfl, .inl rfl, .inl rfl, trivial⟩ ?_ (hr := by simp only [go_sem, Rg.v]) (hnv := by simp only [go_sem, Rg.v])
        simp only [go_sem, Rg.v, Pl.a, Pl.c4]
        refine cF I2 6 ⟨.inl (pla_frz 3 (p := p.put i 4) (j := 3) (g := true) rfl (by show _ = (p.cs.set i 4).length; rw [List.length_set])), .inl rfl, .inl rfl, .inl rfl, trivial⟩ ?_ (hr := by simp only [go_sem, Rg.v]) (hnv := by simp only [go_sem, Rg.v])
        have le : - cl2 ≤ - ch1 := by omega
        simp only [go_sem, Rg.v, Pl.a, Pl.c4, le]
        refine cP awake_ok ?_
        simp only [go_sem]
      · have b1' : decide ((1 : Int) ∈ p.cs) = false := by simp [b1]
        rw [b1']
        simp only [go_sem]
        refine cP awake_ok ?_
        simp only [go_sem]
    · have b2' : decide ((2 : Int) ∈ p.cs) = false := by simp [b2]
      rw [b2']
      simp only [go_sem]
      refine cP awake_ok ?_
      simp only [go_sem]
end Go.Proofs
