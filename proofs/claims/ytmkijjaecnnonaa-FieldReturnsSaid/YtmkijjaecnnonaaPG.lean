/- A part of the proof. -/
import Derived.Test.YtmkijjaecnnonaaPF
set_option linter.unusedSimpArgs false
set_option linter.unusedVariables false
namespace Go.Proofs
open Go Go.Sx
attribute [local irreducible] Run

/-- A plan with a cell that is another electrode. -/
def Pl.put (p : Pl) (i : Nat) (c : Int) : Pl := { p with cs := p.cs.set i c }
theorem put_ok {p : Pl} (hp : PlOK p) {i : Nat} (hi : i < p.w * p.h) (c : Int) (hc : 1 ≤ c ∧ c ≤ 6) : PlOK (p.put i c) := by
  have hl : i < p.cs.length := by rw [hp.len]; exact hi
  refine ⟨hp.w, hp.h, by show (p.cs.set i c).length = _; rw [List.length_set]; exact hp.len, fun d hd => ?_, i, hi, ?_⟩
  · rcases List.mem_or_eq_of_mem_set (show d ∈ p.cs.set i c from hd) with h | h
    · exact hp.cell d h
    · omega
  · show gt (p.cs.set i c) i ≠ 0
    rw [gt_set _ _ _ _ hl, if_pos rfl]; omega
theorem put_gt {p : Pl} (hp : PlOK p) {i : Nat} (hi : i < p.w * p.h) (c : Int) (j : Nat) : gt (p.put i c).cs j = if j = i then c else gt p.cs j := gt_set _ _ _ _ (by rw [hp.len]; exact hi)
theorem put_max {p : Pl} (hp : PlOK p) {i : Nat} (hi : i < p.w * p.h) (hc : ∀ c ∈ p.cs, c ≤ 4) : gmax (p.put i 4).cs = 4 := by
  have h := (put_ok hp hi 4 (by omega)).max
  have hm : gt (p.put i 4).cs i ∈ (p.put i 4).cs := gt_mem (by show i < (p.cs.set i 4).length; rw [List.length_set, hp.len]; exact hi)
  rw [put_gt hp hi, if_pos rfl] at hm
  have h1 := h.2.2 4 hm
  have h2 : gmax (p.put i 4).cs ≤ 4 := mxL_le _ _ _ (by omega) fun d hd => by
    rcases List.mem_or_eq_of_mem_set (show d ∈ p.cs.set i 4 from hd) with h | h
    · exact hc d h
    · omega
  omega
theorem low_pos {p : Pl} (hp : PlOK p) {g : Nat} (hg : (g : Int) = gmax p.cs) {a : Int} (ha : 1 ≤ a ∧ a ≤ g) (k : Nat) {j : Nat} (hj : j < p.w * p.h) : 0 ≤ gt (lowB p (unitV g a) k) j := by
  have h1 := ((low_ok hp (unitV g a) k).bd j hj).1
  have h2 := endLs_ge (unitV g a) 0 p.cs 1000000 (by omega) fun c hc h0 => by
    rw [unitV_vo ha (by have := hp.cell c hc; omega)]; split <;> omega
  have h3 : (0 : Int) ≤ endL p (unitV g a) := h2
  omega
theorem screen {p : Pl} (hp : PlOK p) {i : Nat} (hi : i < p.w * p.h) (h0 : gt p.cs i = 0) (h3 : ∀ c ∈ p.cs, c ≤ 3) {g : Nat} (hg : (g : Int) = gmax p.cs) (h2 : (2 : Int) ∈ p.cs) (k l : Nat) :
    chg p (highB p (unitV g 2) k) 1 ≤ chg (p.put i 4) (lowB (p.put i 4) (unitV 4 2) l) 1 := by
  have hq := put_ok hp hi 4 (by omega)
  have hmx := put_max hp hi fun c hc => by have := h3 c hc; omega
  have hgq : ((4 : Nat) : Int) = gmax (p.put i 4).cs := by rw [hmx]; rfl
  have hg2 : (1 : Int) ≤ 2 ∧ (2 : Int) ≤ g := ⟨by omega, by rw [hg]; exact hp.max.2.2 2 h2⟩
  have A := high_ok hp (unitV g 2) k
  have B := low_ok hq (unitV 4 2) l
  have hpos := fun j (hj : j < p.w * p.h) => low_pos hq hgq (a := 2) (by omega) l (j := j) hj
  have vE : ∀ c ∈ p.cs, c ≠ 0 → vo (unitV 4 2) c = vo (unitV g 2) c := fun c hc hc0 => by
    have := hp.cell c hc
    rw [unitV_vo (by omega) (by omega), unitV_vo hg2 (by omega)]
  have hsub : SubH p p.el (gt (lowB (p.put i 4) (unitV 4 2) l)) := fun j hj hE => by
    by_cases e : j = i
    · subst e
      have h4 : gt (lowB (p.put j 4) (unitV 4 2) l) j = 0 := by
        rw [B.elec j hj (by show gt (p.put j 4).cs j ≠ 0; rw [put_gt hp hj, if_pos rfl]; omega), put_gt hp hj, if_pos rfl, unitV_vo (by omega) (by omega), if_neg (by omega)]
      rw [h4, Int.mul_zero]
      have h5 := wsum_mono (l := nbs p j) (f := fun _ => 0) (g := gt (lowB (p.put j 4) (unitV 4 2) l)) fun q hq' => by
        obtain ⟨k1, k2, _⟩ := nbs_in p hp.w.2 hj q hq'
        exact ⟨by omega, hpos _ k1⟩
      rw [wsum_const, Int.mul_zero] at h5
      exact h5
    · exact B.sub j hj (by show ¬ gt (p.put i 4).cs j ≠ 0; rw [put_gt hp hi, if_neg e]; exact hE)
  have hle := compare hp.w.2 hsub A.sup hp.some fun j hj hE => by
    have e : j ≠ i := fun h => by subst h; exact hE h0
    rw [A.elec j hj hE, B.elec j hj (by show gt (p.put i 4).cs j ≠ 0; rw [put_gt hp hi, if_neg e]; exact hE), put_gt hp hi, if_neg e, vE _ (hp.mem hj) hE]
    exact Int.le_refl _
  rw [chg_lap hp A.elec (by omega), chg_lap hq B.elec (by omega)]
  refine sumN_le _ fun j hj => ?_
  rw [put_gt hp hi]
  by_cases e : j = i
  · subst e
    rw [if_neg (by omega), if_pos rfl, if_neg (by omega)]; exact Int.le_refl _
  · rw [if_neg e]
    split
    · rename_i h1
      have hE : p.el j := by show gt p.cs j ≠ 0; omega
      have a1 := A.elec j hj hE
      have a2 := B.elec j hj (by show gt (p.put i 4).cs j ≠ 0; rw [put_gt hp hi, if_neg e]; omega)
      rw [put_gt hp hi, if_neg e] at a2
      rw [vE _ (hp.mem hj) hE] at a2
      show lap p _ j ≤ lap p _ j
      unfold lap
      refine wsum_mono fun q hq' => ?_
      obtain ⟨k1, k2, _⟩ := nbs_in p hp.w.2 hj q hq'
      have := hle _ k1
      exact ⟨by omega, by omega⟩
    · exact Int.le_refl _

set_option maxHeartbeats 8000000 in
set_option maxRecDepth 10000 in
theorem screens_law (zs : List Int) (hl : zs.length ≤ 9223372036854775807) (a1 a2 : Int) : Ans Try.prog n_law01_FieldScreens [.view (zs.map (.int .i64)), .int .i64 a1, .int .i64 a2] [] (.bool true) [] := by
  have m2 := mod_in a2 41 (by omega)
  have e2 := mod_pos a2 41 (by omega)
  generalize a2 % 41 = n1 at *
  obtain ⟨n, rfl⟩ : ∃ n : Nat, n1 = n := ⟨n1.toNat, by omega⟩
  refine spec_run e_law01_FieldScreens fun G => ?_
  simp only [go_sem]
  refine callN1 (newdice_ok zs hl) (by simp only [go_sem]) (dr_bel _ _) (by simp) (by simp) ?_
  generalize seedW zs = w
  simp only [go_sem]
  refine callDN (PlanOf_ok w 8 6 (by omega) (by omega)) rfl (by simp only [go_sem]) (dr_bel _ _) (fun q hq => ⟨pla_bel _ _ _ _ rfl, dr_bel _ _, iv_row _ _ _⟩) (by simp) (by simp) ?_
  rintro ⟨w1, p⟩ hp
  dsimp only at hp ⊢
  have hpo := hp.ok
  have hpl : p.cs.length ≤ 1000000 := by
    rw [hpo.len]; have := Nat.mul_le_mul hpo.w.2 hpo.h.2; omega
  have hmx := hpo.max
  simp only [go_sem, Pl.a, Pl.c4, ren, rens]
  have hlen := hpo.len
  have hN1 : 1 ≤ p.cs.length := by
    obtain ⟨i, hi, _⟩ := hpo.some
    rw [hlen]; omega
  have m1 := mod_in a1 p.cs.length (by omega)
  have e1 := mod_pos a1 p.cs.length (by omega)
  generalize a1 % p.cs.length = i1 at *
  obtain ⟨i, rfl⟩ : ∃ i : Nat, i1 = i := ⟨i1.toNat, by omega⟩
  have hi : i < p.cs.length := by omega
  have hiN : i < p.w * p.h := by rw [← hlen]; exact hi
  have n0 : ¬ (i : Int) < 0 := by omega
  have hiI : (i : Int) < p.cs.length := by omega
  have gi := iv_get hi
  have H2 := kitHas_ok (l := p.cs) 2 hpl
  have H1 := kitHas_ok (l := p.cs) 1 hpl
  simp only [go_sem, iv_len, Pl.a, Pl.c4]
  refine cP e1 ?_
  simp only [go_sem, iv_len, n0, hiI, gi]
  by_cases hz : 0 < gt p.cs i
  · simp only [go_sem, hz]
    refine cP awake_ok ?_
    simp only [go_sem]
  · have h0 : gt p.cs i = 0 := by have := hpo.cell _ (gt_mem hi); omega
    have h3 : ∀ c ∈ p.cs, c ≤ 3 := fun c hc => (hp.le c hc).2
    obtain ⟨g, hg⟩ : ∃ g : Nat, (g : Int) = gmax p.cs := ⟨(gmax p.cs).toNat, by omega⟩
    have I1 := Influence_ok hpo hg (n := n) (by omega) (a := 2) (k := 1) (by omega) (by omega) (by omega)
    have hq := put_ok hpo hiN 4 (by omega)
    have hmx4 := put_max hpo hiN fun c hc => by have := h3 c hc; omega
    have I2 := Influence_ok hq (g := 4) (by rw [hmx4]; rfl) (n := n) (by omega) (a := 2) (k := 1) (by omega) (by omega) (by omega)
    have hcp := Copy_ok hpl hN1
    simp only [go_sem, hz, Pl.a, Pl.c4]
    refine cF H2 6 ⟨.inl (iv_frz_sl (d := 4) (j := 1) (g := true) rfl rfl), .inl rfl, trivial⟩ ?_
    by_cases b2 : (2 : Int) ∈ p.cs
    · have b2' : decide ((2 : Int) ∈ p.cs) = true := by simp [b2]
      rw [b2']
      simp only [go_sem, Pl.a, Pl.c4]
      refine cF H1 6 ⟨.inl (iv_frz_sl (d := 4) (j := 1) (g := true) rfl rfl), .inl rfl, trivial⟩ ?_
      by_cases b1 : (1 : Int) ∈ p.cs
      · have b1' : decide ((1 : Int) ∈ p.cs) = true := by simp [b1]
        rw [b1']
        have scr := screen hpo hiN h0 h3 hg b2 (cnt p (unitV g 2) n) (cnt (p.put i 4) (unitV 4 2) n)
        have mq : ∀ c : Int, c ≠ 0 → c ∈ p.cs → c ∈ (p.put i 4).cs := fun c hc hm => by
          obtain ⟨j, hj, rfl⟩ := mem_gt hm
          have hji : j ≠ i := fun h => by subst h; exact hc h0
          have : gt (p.put i 4).cs j = gt p.cs j := by rw [put_gt hpo hiN, if_neg hji]
          rw [← this]
          exact gt_mem (by show j < (p.cs.set i 4).length; rw [List.length_set]; exact hj)
        unfold inflA at I1 I2
        rw [if_pos ⟨b2, b1⟩] at I1
        rw [if_pos ⟨mq 2 (by omega) b2, mq 1 (by omega) b1⟩] at I2
        generalize chg p (highB p (unitV g 2) (cnt p (unitV g 2) n)) 1 = ch1 at *
        generalize chg p (lowB p (unitV g 2) (cnt p (unitV g 2) n)) 1 = cl1 at *
        generalize chg (p.put i 4) (lowB (p.put i 4) (unitV 4 2) (cnt (p.put i 4) (unitV 4 2) n)) 1 = cl2 at *
        generalize chg (p.put i 4) (highB (p.put i 4) (unitV 4 2) (cnt (p.put i 4) (unitV 4 2) n)) 1 = ch2 at *
        simp only [go_sem, Pl.a, Pl.c4]
        refine cFN hcp 6 ⟨.inl (pla_frz 3 (j := 1) (g := true) rfl rfl), trivial⟩ ?_ (hr := by simp [go_sem, Pl.a, Pl.c4]) (hnv := by simp only [go_sem, Pl.a, Pl.c4]) (hx := iv_row _ _ _) (hxn := iv_nv _ _)
        have hiv : (iv p.cs).set i (.int .i64 4) = iv (p.put i 4).cs := by rw [iv_set]; rfl
        simp only [go_sem, ren, rens, Pl.a, Pl.c4, iv_len, n0, hiI, gi, hiv]
        refine cP e2 ?_
        simp only [go_sem, Pl.a, Pl.c4]
        refine cF I1 6 ⟨.inl (pla_frz 3 (j := 1) (g := true) rfl rfl), .inl rfl, .inl rfl, .inl rfl, trivial⟩ ?_ (hr := by simp only [go_sem, Rg.v]) (hnv := by simp only [go_sem, Rg.v])
        simp only [go_sem, Rg.v, Pl.a, Pl.c4]
        refine cF I2 6 ⟨.inl (pla_frz 3 (p := p.put i 4) (j := 3) (g := true) rfl (by show _ = (p.cs.set i 4).length; rw [List.length_set])), .inl rfl, .inl rfl, .inl rfl, trivial⟩ ?_ (hr := by simp only [go_sem, Rg.v]) (hnv := by simp only [go_sem, Rg.v])
        have le : - cl2 ≤ - ch1 := by omega
        simp only [go_sem, Rg.v, Pl.a, Pl.c4, le]
        refine cP awake_ok ?_
        simp only [go_sem]
      · have b1' : decide ((1 : Int) ∈ p.cs) = false := by simp [b1]
        rw [b1']
        simp only [go_sem]
        refine cP awake_ok ?_
        simp only [go_sem]
    · have b2' : decide ((2 : Int) ∈ p.cs) = false := by simp [b2]
      rw [b2']
      simp only [go_sem]
      refine cP awake_ok ?_
      simp only [go_sem]
end Go.Proofs
namespace Go.Proofs
open Go Go.Sx

-- 15: thermion/thermionlaw01.FieldBoth
def k_law01_FieldBoth_r0 : List AOper := [
  ⟨(some (6)), .move (.const (.bool false)), none, []⟩]
def k_law01_FieldBoth_r1 : List AOper := [
  ⟨(some (14)), .move (.tmp 0), none, []⟩, 
  ⟨(some (15)), .call (.const (.fn (.func 22) [] [])) [.tmp 14], none, []⟩, 
  ⟨(some (16)), .call (.const (.fn (.func 21) [] [])) [.tmp 15, .const (.int .i64 8), .const (.int .i64 6)], none, []⟩, 
  ⟨(some (7)), .box (.const (.agg [.int .i64 0, .int .i64 0, .bool false, .nilsl])), none, []⟩, 
  ⟨none, .store 4 (.tmp 7) (.tmp 16), none, []⟩]
def k_law01_FieldBoth_r2 : List AOper := [
  ⟨(some (8)), .move (.const (.int .i64 1)), none, []⟩]
def k_law01_FieldBoth_r3 : List AOper := [
  ⟨(some (17)), .move (.tmp 8), none, []⟩, 
  ⟨(some (18)), .bin .plain .leq (.tmp 17) (.const (.int .i64 3)), none, []⟩]
def k_law01_FieldBoth_r4 : List AOper := [
  ⟨(some (9)), .move (.const (.int .i64 1)), none, []⟩]
def k_law01_FieldBoth_r5 : List AOper := [
  ⟨(some (21)), .move (.tmp 9), none, []⟩, 
  ⟨(some (22)), .move (.tmp 8), none, []⟩, 
  ⟨(some (23)), .bin .plain .lss (.tmp 21) (.tmp 22), none, []⟩]
def k_law01_FieldBoth_r6 : List AOper := [
  ⟨(some (27)), .load (some (4)) (.tmp 7), none, []⟩, 
  ⟨(some (28)), .move (.tmp 1), none, [0]⟩, 
  ⟨(some (29)), .call (.const (.fn (.func 23) [] [])) [.tmp 28, .const (.int .i64 41)], none, [0]⟩, 
  ⟨(some (30)), .move (.tmp 8), none, [0, 1, 2]⟩, 
  ⟨(some (31)), .move (.tmp 9), none, [0, 1, 2, 3]⟩, 
  ⟨(some (32)), .call (.const (.fn (.func 47) [] [])) [.tmp 27, .tmp 29, .tmp 30, .tmp 31], none, []⟩, 
  ⟨(some (26)), .move (.tmp 32), none, []⟩, 
  ⟨(some (33)), .extract (.tmp 26) 0, none, []⟩, 
  ⟨(some (34)), .extract (.tmp 26) 1, none, [7]⟩, 
  ⟨(some (10)), .box (.const (.agg [.int .i64 0, .int .i64 0])), none, [0, 1, 2, 3, 4, 5, 6, 7, 8]⟩, 
  ⟨none, .store 2 (.tmp 10) (.tmp 33), none, [8]⟩, 
  ⟨(some (11)), .move (.tmp 34), none, []⟩]
def k_law01_FieldBoth_r6s : List (List AOper) := [
  [
  ⟨(some (27)), .load (some (4)) (.tmp 7), none, []⟩, 
  ⟨(some (28)), .move (.tmp 1), none, [0]⟩, 
  ⟨(some (29)), .call (.const (.fn (.func 23) [] [])) [.tmp 28, .const (.int .i64 41)], none, [0]⟩, 
  ⟨(some (30)), .move (.tmp 8), none, [0, 1, 2]⟩, 
  ⟨(some (31)), .move (.tmp 9), none, [0, 1, 2, 3]⟩, 
  ⟨(some (32)), .call (.const (.fn (.func 47) [] [])) [.tmp 27, .tmp 29, .tmp 30, .tmp 31], none, []⟩, 
  ⟨(some (26)), .move (.tmp 32), none, []⟩, 
  ⟨(some (33)), .extract (.tmp 26) 0, none, []⟩, 
  ⟨(some (34)), .extract (.tmp 26) 1, none, [7]⟩, 
  ⟨(some (10)), .box (.const (.agg [.int .i64 0, .int .i64 0])), none, [0, 1, 2, 3, 4, 5, 6, 7, 8]⟩, 
  ⟨none, .store 2 (.tmp 10) (.tmp 33), none, [8]⟩], 
  [
  ⟨(some (11)), .move (.tmp 34), none, []⟩]]
theorem k_law01_FieldBoth_r6_sg : segs k_law01_FieldBoth_r6 = k_law01_FieldBoth_r6s := by kernel_rfl
theorem k_law01_FieldBoth_r6_st : statOK k_law01_FieldBoth_r6 = true := by kernel_rfl
def k_law01_FieldBoth_r7 : List AOper := [
  ⟨(some (36)), .load (some (4)) (.tmp 7), none, []⟩, 
  ⟨(some (37)), .move (.tmp 2), none, [0]⟩, 
  ⟨(some (38)), .call (.const (.fn (.func 23) [] [])) [.tmp 37, .const (.int .i64 41)], none, [0]⟩, 
  ⟨(some (39)), .move (.tmp 9), none, [0, 1, 2]⟩, 
  ⟨(some (40)), .move (.tmp 8), none, [0, 1, 2, 3]⟩, 
  ⟨(some (41)), .call (.const (.fn (.func 47) [] [])) [.tmp 36, .tmp 38, .tmp 39, .tmp 40], none, []⟩, 
  ⟨(some (35)), .move (.tmp 41), none, []⟩, 
  ⟨(some (42)), .extract (.tmp 35) 0, none, []⟩, 
  ⟨(some (43)), .extract (.tmp 35) 1, none, [7]⟩, 
  ⟨(some (12)), .box (.const (.agg [.int .i64 0, .int .i64 0])), none, [0, 1, 2, 3, 4, 5, 6, 7, 8]⟩, 
  ⟨none, .store 2 (.tmp 12) (.tmp 42), none, [8]⟩, 
  ⟨(some (13)), .move (.tmp 43), none, []⟩]
def k_law01_FieldBoth_r7s : List (List AOper) := [
  [
  ⟨(some (36)), .load (some (4)) (.tmp 7), none, []⟩, 
  ⟨(some (37)), .move (.tmp 2), none, [0]⟩, 
  ⟨(some (38)), .call (.const (.fn (.func 23) [] [])) [.tmp 37, .const (.int .i64 41)], none, [0]⟩, 
  ⟨(some (39)), .move (.tmp 9), none, [0, 1, 2]⟩, 
  ⟨(some (40)), .move (.tmp 8), none, [0, 1, 2, 3]⟩, 
  ⟨(some (41)), .call (.const (.fn (.func 47) [] [])) [.tmp 36, .tmp 38, .tmp 39, .tmp 40], none, []⟩, 
  ⟨(some (35)), .move (.tmp 41), none, []⟩, 
  ⟨(some (42)), .extract (.tmp 35) 0, none, []⟩, 
  ⟨(some (43)), .extract (.tmp 35) 1, none, [7]⟩, 
  ⟨(some (12)), .box (.const (.agg [.int .i64 0, .int .i64 0])), none, [0, 1, 2, 3, 4, 5, 6, 7, 8]⟩, 
  ⟨none, .store 2 (.tmp 12) (.tmp 42), none, [8]⟩], 
  [
  ⟨(some (13)), .move (.tmp 43), none, []⟩]]
theorem k_law01_FieldBoth_r7_sg : segs k_law01_FieldBoth_r7 = k_law01_FieldBoth_r7s := by kernel_rfl
theorem k_law01_FieldBoth_r7_st : statOK k_law01_FieldBoth_r7 = true := by kernel_rfl
def k_law01_FieldBoth_r8 : List AOper := [
  ⟨(some (44)), .fieldAddr 3 (.tmp 7), none, []⟩, 
  ⟨(some (45)), .load none (.tmp 44), none, []⟩, 
  ⟨(some (46)), .move (.tmp 8), none, []⟩, 
  ⟨(some (47)), .call (.const (.fn (.func 59) [] [])) [.tmp 45, .tmp 46], none, []⟩, 
  ⟨(some (48)), .not (.tmp 47), none, []⟩, 
  ⟨(some (49)), .move (.tmp 48), none, []⟩, 
  ⟨(some (50)), .fieldAddr 3 (.tmp 7), (some (49, false)), []⟩, 
  ⟨(some (51)), .load none (.tmp 50), (some (49, false)), []⟩, 
  ⟨(some (52)), .move (.tmp 9), (some (49, false)), []⟩, 
  ⟨(some (53)), .call (.const (.fn (.func 59) [] [])) [.tmp 51, .tmp 52], (some (49, false)), []⟩, 
  ⟨(some (54)), .not (.tmp 53), (some (49, false)), []⟩, 
  ⟨(some (55)), .pick (.tmp 49) (.const (.bool true)) (.tmp 54), none, []⟩]
def k_law01_FieldBoth_r9 : List AOper := [
  ⟨(some (56)), .move (.tmp 11), none, []⟩, 
  ⟨(some (57)), .bin .plain .neq (.tmp 56) (.const (.int .i64 7)), none, []⟩, 
  ⟨(some (58)), .move (.tmp 57), none, []⟩, 
  ⟨(some (59)), .move (.tmp 13), (some (58, false)), []⟩, 
  ⟨(some (60)), .bin .plain .neq (.tmp 59) (.const (.int .i64 7)), (some (58, false)), []⟩, 
  ⟨(some (61)), .pick (.tmp 58) (.const (.bool true)) (.tmp 60), none, []⟩]
def k_law01_FieldBoth_r10 : List AOper := [
  ⟨(some (6)), .move (.const (.bool false)), none, []⟩]
def k_law01_FieldBoth_r11 : List AOper := [
  ⟨(some (62)), .move (.tmp 11), none, []⟩, 
  ⟨(some (63)), .bin .plain .neq (.tmp 62) (.const (.int .i64 0)), none, []⟩, 
  ⟨(some (64)), .move (.tmp 63), none, []⟩, 
  ⟨(some (65)), .move (.tmp 13), (some (64, false)), []⟩, 
  ⟨(some (66)), .bin .plain .neq (.tmp 65) (.const (.int .i64 0)), (some (64, false)), []⟩, 
  ⟨(some (67)), .pick (.tmp 64) (.const (.bool true)) (.tmp 66), none, []⟩, 
  ⟨(some (68)), .move (.tmp 67), none, []⟩, 
  ⟨(some (69)), .load (some (2)) (.tmp 10), (some (68, false)), []⟩, 
  ⟨(some (70)), .load (some (2)) (.tmp 12), (some (68, false)), []⟩, 
  ⟨(some (71)), .call (.const (.fn (.func 60) [] [])) [.tmp 69, .tmp 70], (some (68, false)), []⟩, 
  ⟨(some (72)), .not (.tmp 71), (some (68, false)), []⟩, 
  ⟨(some (73)), .pick (.tmp 68) (.const (.bool true)) (.tmp 72), none, []⟩, 
  ⟨(some (74)), .move (.tmp 73), none, []⟩, 
  ⟨(some (75)), .fieldAddr 0 (.tmp 10), (some (74, false)), []⟩, 
  ⟨(some (76)), .load none (.tmp 75), (some (74, false)), []⟩, 
  ⟨(some (77)), .bin .plain .lss (.tmp 76) (.const (.int .i64 0)), (some (74, false)), []⟩, 
  ⟨(some (78)), .pick (.tmp 74) (.const (.bool true)) (.tmp 77), none, []⟩, 
  ⟨(some (79)), .move (.tmp 78), none, []⟩, 
  ⟨(some (80)), .fieldAddr 0 (.tmp 12), (some (79, false)), []⟩, 
  ⟨(some (81)), .load none (.tmp 80), (some (79, false)), []⟩, 
  ⟨(some (82)), .bin .plain .lss (.tmp 81) (.const (.int .i64 0)), (some (79, false)), []⟩, 
  ⟨(some (83)), .pick (.tmp 79) (.const (.bool true)) (.tmp 82), none, []⟩]
def k_law01_FieldBoth_r12 : List AOper := [
  ⟨(some (6)), .move (.const (.bool false)), none, []⟩]
def k_law01_FieldBoth_r13 : List AOper := [
  ⟨(some (24)), .move (.tmp 9), none, []⟩, 
  ⟨(some (25)), .bin .plain .add (.tmp 24) (.const (.int .i64 1)), none, []⟩, 
  ⟨(some (9)), .move (.tmp 25), none, []⟩]
def k_law01_FieldBoth_r14 : ACode := (.seq (.seq (.reg k_law01_FieldBoth_r5 false) (.cond (.tmp 23) .skip (.exit 2))) (.seq (.block 3 (.seq (.reg k_law01_FieldBoth_r6 true) (.seq (.reg k_law01_FieldBoth_r7 true) (.seq (.seq (.reg k_law01_FieldBoth_r8 false) (.cond (.tmp 55) (.seq (.seq (.reg k_law01_FieldBoth_r9 false) (.cond (.tmp 61) (.seq (.reg k_law01_FieldBoth_r10 false) .ret) .skip)) (.exit 3)) .skip)) (.seq (.reg k_law01_FieldBoth_r11 false) (.cond (.tmp 83) (.seq (.reg k_law01_FieldBoth_r12 false) .ret) .skip)))))) (.reg k_law01_FieldBoth_r13 false)))
def k_law01_FieldBoth_r15 : List AOper := [
  ⟨(some (19)), .move (.tmp 8), none, []⟩, 
  ⟨(some (20)), .bin .plain .add (.tmp 19) (.const (.int .i64 1)), none, []⟩, 
  ⟨(some (8)), .move (.tmp 20), none, []⟩]
def k_law01_FieldBoth_r16 : ACode := (.seq (.seq (.reg k_law01_FieldBoth_r3 false) (.cond (.tmp 18) .skip (.exit 0))) (.seq (.block 1 (.seq (.reg k_law01_FieldBoth_r4 false) (.block 2 (.loop k_law01_FieldBoth_r14)))) (.reg k_law01_FieldBoth_r15 false)))
def k_law01_FieldBoth_r17 : List AOper := [
  ⟨(some (84)), .call (.const (.fn (.func 20) [] [])) [], none, []⟩, 
  ⟨(some (6)), .move (.tmp 84), none, []⟩]
def k_law01_FieldBoth : AFun := { params := 3, ntmps := 85, body := (.seq (.reg k_law01_FieldBoth_r0 false) (.seq (.reg k_law01_FieldBoth_r1 false) (.seq (.seq (.reg k_law01_FieldBoth_r2 false) (.block 0 (.loop k_law01_FieldBoth_r16))) (.seq (.reg k_law01_FieldBoth_r17 false) .ret)))), res := [.tmp 6] }
theorem k_law01_FieldBoth_ok : cfun Try.prog Try.f15 = k_law01_FieldBoth := by kernel_rfl


abbrev n_law01_FieldBoth : Nat := 15
theorem e_law01_FieldBoth : EntryOK Try.prog n_law01_FieldBoth k_law01_FieldBoth := ⟨Try.f15, Try.func15, k_law01_FieldBoth_ok, by kernel_rfl⟩

attribute [go_sem] k_law01_FieldBoth_r0 k_law01_FieldBoth_r1 k_law01_FieldBoth_r2 k_law01_FieldBoth_r3 k_law01_FieldBoth_r4 k_law01_FieldBoth_r5 k_law01_FieldBoth_r6s k_law01_FieldBoth_r7s k_law01_FieldBoth_r8 k_law01_FieldBoth_r9 k_law01_FieldBoth_r10 k_law01_FieldBoth_r11
attribute [go_sem] k_law01_FieldBoth_r12 k_law01_FieldBoth_r13 k_law01_FieldBoth_r15 k_law01_FieldBoth_r17 k_law01_FieldBoth_r7_sg k_law01_FieldBoth_r6_sg k_law01_FieldBoth_r7_st k_law01_FieldBoth_r6_st k_law01_FieldBoth
end Go.Proofs
namespace Go.Proofs
open Go Go.Sx
attribute [local irreducible] Run

theorem unit_end {p : Pl} (hp : PlOK p) {g : Nat} {a : Int} (ha : 1 ≤ a ∧ a ≤ g) : 0 ≤ endL p (unitV g a) :=
  endLs_ge (unitV g a) 0 p.cs 1000000 (by omega) fun c hc h0 => by
    rw [unitV_vo ha (by have := hp.cell c hc; omega)]; split <;> omega
theorem high_pos {p : Pl} (hp : PlOK p) {g : Nat} {a : Int} (ha : 1 ≤ a ∧ a ≤ g) (k : Nat) {j : Nat} (hj : j < p.w * p.h) : 0 ≤ gt (highB p (unitV g a) k) j := by
  have h1 := ((high_ok hp (unitV g a) k).bd j hj).1
  have := unit_end hp ha
  omega
/-- One's influence on the other and the other's on it. -/
theorem both_ways {p : Pl} (hp : PlOK p) {g : Nat} (hg : (g : Int) = gmax p.cs) {a k : Int} (ha : 1 ≤ a ∧ a ≤ g) (hk : 1 ≤ k ∧ k ≤ g) (hak : a ≠ k) (s t : Nat) :
    chg p (highB p (unitV g k) s) a ≤ chg p (lowB p (unitV g a) t) k := by
  have U := low_ok hp (unitV g a) t
  have Z := high_ok hp (unitV g k) s
  have hu := fun j (hj : j < p.w * p.h) => low_pos hp hg ha t (j := j) hj
  have hz := fun j (hj : j < p.w * p.h) => high_pos hp hk s (j := j) hj
  have gr := lap_green hp (gt (lowB p (unitV g a) t)) (gt (highB p (unitV g k) s))
  rw [chg_lap hp Z.elec (by omega), chg_lap hp U.elec (by omega)]
  have el : ∀ i, i < p.w * p.h → p.el i → gt (lowB p (unitV g a) t) i = (if gt p.cs i = a then 1000000 else 0) ∧ gt (highB p (unitV g k) s) i = (if gt p.cs i = k then 1000000 else 0) := fun i hi hE => by
    have h0 : gt p.cs i ≠ 0 := hE
    have h1 := hp.cell _ (hp.mem hi)
    rw [U.elec i hi hE, Z.elec i hi hE, unitV_vo ha (by omega), unitV_vo hk (by omega)]
    exact ⟨rfl, rfl⟩
  have h1 : sumN (fun i => gt (highB p (unitV g k) s) i * lap p (gt (lowB p (unitV g a) t)) i) (p.w * p.h) ≤ sumN (fun i => 1000000 * (if gt p.cs i = k then lap p (gt (lowB p (unitV g a) t)) i else 0)) (p.w * p.h) := sumN_le _ fun i hi => by
    by_cases hE : p.el i
    · rw [(el i hi hE).2]
      split
      · exact Int.le_refl _
      · rw [Int.zero_mul]; omega
    · have h0 : gt p.cs i = 0 := by
        have : ¬ gt p.cs i ≠ 0 := hE
        omega
      rw [if_neg (by omega), Int.mul_zero]
      have hs := U.sub i hi hE
      exact Int.mul_nonpos_of_nonneg_of_nonpos (hz i hi) (by rw [lap_eq]; omega)
  have h2 : sumN (fun i => 1000000 * (if gt p.cs i = a then lap p (gt (highB p (unitV g k) s)) i else 0)) (p.w * p.h) ≤ sumN (fun i => gt (lowB p (unitV g a) t) i * lap p (gt (highB p (unitV g k) s)) i) (p.w * p.h) := sumN_le _ fun i hi => by
    by_cases hE : p.el i
    · rw [(el i hi hE).1]
      split
      · exact Int.le_refl _
      · rw [Int.zero_mul]; omega
    · have h0 : gt p.cs i = 0 := by
        have : ¬ gt p.cs i ≠ 0 := hE
        omega
      rw [if_neg (by omega), Int.mul_zero]
      have hs := Z.sup i hi hE
      exact Int.mul_nonneg (hu i hi) (by rw [lap_eq]; omega)
  rw [sumN_mul] at h1 h2
  omega
theorem infl_pos {p : Pl} (hp : PlOK p) {g : Nat} (hg : (g : Int) = gmax p.cs) {a k : Int} (ha : 1 ≤ a ∧ a ≤ g) (hk : 1 ≤ k) (hak : a ≠ k) (t : Nat) : chg p (lowB p (unitV g a) t) k ≤ 0 := by
  have U := low_ok hp (unitV g a) t
  have hu := fun j (hj : j < p.w * p.h) => low_pos hp hg ha t (j := j) hj
  rw [chg_lap hp U.elec (by omega)]
  refine Int.le_trans (sumN_le (g := fun _ => 0) _ fun i hi => ?_) (by rw [sumN_zero]; exact Int.le_refl _)
  split
  · rename_i h1
    have h0 : gt (lowB p (unitV g a) t) i = 0 := by
      rw [U.elec i hi (by show gt p.cs i ≠ 0; omega), h1, unitV_vo ha hk, if_neg (Ne.symm hak)]
    rw [lap_eq, h0, Int.mul_zero]
    have h5 := wsum_mono (l := nbs p i) (f := fun _ => 0) (g := gt (lowB p (unitV g a) t)) fun q hq' => by
      obtain ⟨k1, k2, _⟩ := nbs_in p hp.w.2 hi q hq'
      exact ⟨by omega, hu _ k1⟩
    rw [wsum_const, Int.mul_zero] at h5
    omega
  · exact Int.le_refl _

theorem Meet_ok (x y : Rg) : Ans Try.prog n_kit_Meet [x.v, y.v] [] (.bool (decide (x.lo ≤ y.hi ∧ y.lo ≤ x.hi))) [] := by
  refine spec_run e_kit_Meet fun G => ?_
  by_cases h1 : x.lo ≤ y.hi
  · by_cases h2 : y.lo ≤ x.hi
    · simp only [go_sem, Rg.v, h1, h2]
    · simp only [go_sem, Rg.v, h1, h2]
  · simp only [go_sem, Rg.v, h1]

set_option maxHeartbeats 8000000 in
set_option maxRecDepth 10000 in
theorem both_law (zs : List Int) (hl : zs.length ≤ 9223372036854775807) (a1 a2 : Int) : Ans Try.prog n_law01_FieldBoth [.view (zs.map (.int .i64)), .int .i64 a1, .int .i64 a2] [] (.bool true) [] := by
  have m1 := mod_in a1 41 (by omega)
  have e1 := mod_pos a1 41 (by omega)
  have m2 := mod_in a2 41 (by omega)
  have e2 := mod_pos a2 41 (by omega)
  generalize a1 % 41 = n1 at *
  generalize a2 % 41 = n2 at *
  obtain ⟨n, rfl⟩ : ∃ n : Nat, n1 = n := ⟨n1.toNat, by omega⟩
  obtain ⟨m, rfl⟩ : ∃ m : Nat, n2 = m := ⟨n2.toNat, by omega⟩
  refine spec_run e_law01_FieldBoth fun G => ?_
  simp only [go_sem]
  refine callN1 (newdice_ok zs hl) (by simp only [go_sem]) (dr_bel _ _) (by simp) (by simp) ?_
  generalize seedW zs = w
  simp only [go_sem]
  refine callDN (PlanOf_ok w 8 6 (by omega) (by omega)) rfl (by simp only [go_sem]) (dr_bel _ _) (fun q hq => ⟨pla_bel _ _ _ _ rfl, dr_bel _ _, iv_row _ _ _⟩) (by simp) (by simp) ?_
  rintro ⟨w1, p⟩ hp
  dsimp only at hp ⊢
  have hpo := hp.ok
  have hpl : p.cs.length ≤ 1000000 := by
    rw [hpo.len]; have := Nat.mul_le_mul hpo.w.2 hpo.h.2; omega
  have hmx := hpo.max
  simp only [go_sem, Pl.a, Pl.c4, ren, rens]
  obtain ⟨g, hg⟩ : ∃ g : Nat, (g : Int) = gmax p.cs := ⟨(gmax p.cs).toNat, by omega⟩
  refine loop_ind k_law01_FieldBoth_r16.eq_1 (fun a : Nat × Heap => a.1 ≤ 3) (fun a => 3 - a.1)
    (fun a => (tsets 85 [(1, .int .i64 a1), (2, .int .i64 a2), (7, .ptr 2 0 0 1), (8, .int .i64 ((a.1 : Int) + 1))],
      some (Dr w1) :: some (.cells true 1 (iv p.cs)) :: some (.cells false 4 [p.a (.sl 1 0 p.cs.length)]) :: a.2)) (0, []) (Nat.zero_le _) (by simp [go_sem]) rfl ?_
  rintro ⟨i, X⟩ hi ih
  dsimp only at hi ih ⊢
  by_cases h1 : i < 3
  · have h2 : (i : Int) + 1 ≤ 3 := by omega
    have h3 : IntKind.i64.wrap ((i : Int) + 1 + 1) = ((i + 1 : Nat) : Int) + 1 := by rw [w64 (by omega)]; omega
    have ihn := fun X => ih (i + 1, X) (by dsimp only; omega) h1
    clear ih
    simp only [go_sem, h2]
    refine loop_ind k_law01_FieldBoth_r14.eq_1 (fun a : Nat × Heap => a.1 ≤ i) (fun a => i - a.1)
      (fun a => (tsets 85 [(1, .int .i64 a1), (2, .int .i64 a2), (7, .ptr 2 0 0 1), (8, .int .i64 ((i : Int) + 1)), (9, .int .i64 ((a.1 : Int) + 1))],
        some (Dr w1) :: some (.cells true 1 (iv p.cs)) :: some (.cells false 4 [p.a (.sl 1 0 p.cs.length)]) :: a.2)) (0, X) (Nat.zero_le _) (by simp [go_sem]) rfl ?_
    rintro ⟨k, X⟩ hk ih
    dsimp only at hk ih ⊢
    by_cases h4 : k < i
    · have h5 : (k : Int) + 1 < (i : Int) + 1 := by omega
      have h6 : IntKind.i64.wrap ((k : Int) + 1 + 1) = ((k + 1 : Nat) : Int) + 1 := by rw [w64 (by omega)]; omega
      have ihk := fun X => ih (k + 1, X) (by dsimp only; omega) h4
      clear ih
      have I1 := Influence_ok hpo hg (n := n) (by omega) (a := (i : Int) + 1) (k := (k : Int) + 1) (by omega) (by omega) (by omega)
      have I2 := Influence_ok hpo hg (n := m) (by omega) (a := (k : Int) + 1) (k := (i : Int) + 1) (by omega) (by omega) (by omega)
      have Ha := kitHas_ok (l := p.cs) ((i : Int) + 1) hpl
      have Hk := kitHas_ok (l := p.cs) ((k : Int) + 1) hpl
      unfold inflA at I1 I2
      by_cases ba : (i : Int) + 1 ∈ p.cs
      · have ba' : decide ((i : Int) + 1 ∈ p.cs) = true := by simp [ba]
        rw [ba'] at Ha
        by_cases bk : (k : Int) + 1 ∈ p.cs
        · have bk' : decide ((k : Int) + 1 ∈ p.cs) = true := by simp [bk]
          rw [bk'] at Hk
          rw [if_pos ⟨ba, bk⟩] at I1
          rw [if_pos ⟨bk, ba⟩] at I2
          have hga : 1 ≤ (i : Int) + 1 ∧ (i : Int) + 1 ≤ g := ⟨by omega, by rw [hg]; exact hmx.2.2 _ ba⟩
          have hgk : 1 ≤ (k : Int) + 1 ∧ (k : Int) + 1 ≤ g := ⟨by omega, by rw [hg]; exact hmx.2.2 _ bk⟩
          have B1 := both_ways hpo hg hga hgk (by omega) (cnt p (unitV g ((k : Int) + 1)) m) (cnt p (unitV g ((i : Int) + 1)) n)
          have B2 := both_ways hpo hg hgk hga (by omega) (cnt p (unitV g ((i : Int) + 1)) n) (cnt p (unitV g ((k : Int) + 1)) m)
          have P1 := infl_pos hpo hg hga hgk.1 (by omega) (cnt p (unitV g ((i : Int) + 1)) n)
          have P2 := infl_pos hpo hg hgk hga.1 (by omega) (cnt p (unitV g ((k : Int) + 1)) m)
          generalize chg p (lowB p (unitV g ((i : Int) + 1)) (cnt p (unitV g ((i : Int) + 1)) n)) ((k : Int) + 1) = x1 at *
          generalize chg p (highB p (unitV g ((i : Int) + 1)) (cnt p (unitV g ((i : Int) + 1)) n)) ((k : Int) + 1) = x2 at *
          generalize chg p (lowB p (unitV g ((k : Int) + 1)) (cnt p (unitV g ((k : Int) + 1)) m)) ((i : Int) + 1) = y1 at *
          generalize chg p (highB p (unitV g ((k : Int) + 1)) (cnt p (unitV g ((k : Int) + 1)) m)) ((i : Int) + 1) = y2 at *
          simp only [go_sem, h5, Pl.a, Pl.c4]
          refine dP e1 ?_
          simp only [go_sem]
          refine dF I1 6 [1] ⟨.inl (pla_frz 3 (j := 1) (g := true) (onlyR_row rfl (by simp)) rfl), .inl rfl, .inl rfl, .inl rfl, trivial⟩ ?_ (hr := by simp only [go_sem, Rg.v]) (hnv := by simp only [go_sem, Rg.v])
          simp only [go_sem, Rg.v, Pl.a, Pl.c4]
          refine ⟨by simp <;> omega, ?_⟩
          refine dP e2 ?_
          simp only [go_sem]
          refine dF I2 6 [1] ⟨.inl (pla_frz 3 (j := 1) (g := true) (onlyR_row rfl (by simp)) rfl), .inl rfl, .inl rfl, .inl rfl, trivial⟩ ?_ (hr := by simp only [go_sem, Rg.v]) (hnv := by simp only [go_sem, Rg.v])
          have M := Meet_ok ⟨-x1, -x2⟩ ⟨-y1, -y2⟩
          have hM : decide ((-x1 : Int) ≤ -y2 ∧ (-y1 : Int) ≤ -x2) = true := by simp; omega
          dsimp only at M
          rw [hM] at M
          simp only [go_sem, Rg.v, Pl.a, Pl.c4]
          refine ⟨by simp <;> omega, ?_⟩
          refine cF Ha 6 ⟨.inl (iv_frz_sl (d := 4) (j := 1) (g := true) rfl rfl), .inl rfl, trivial⟩ ?_
          simp only [go_sem, Rg.v, Pl.a, Pl.c4]
          refine cF Hk 6 ⟨.inl (iv_frz_sl (d := 4) (j := 1) (g := true) rfl rfl), .inl rfl, trivial⟩ ?_
          have q1 : ¬ -x1 < 0 := by omega
          have q2 : ¬ -y1 < 0 := by omega
          simp only [go_sem, Rg.v, Pl.a, Pl.c4]
          refine cP M ?_
          simp only [go_sem, Rg.v, Pl.a, Pl.c4, q1, q2, h6]
          exact ihk _ _ (by simp [go_sem])
        · have bk' : decide ((k : Int) + 1 ∈ p.cs) = false := by simp [bk]
          rw [bk'] at Hk
          rw [if_neg fun h => bk h.2] at I1
          rw [if_neg fun h => bk h.1] at I2
          simp only [go_sem, h5, Pl.a, Pl.c4]
          refine dP e1 ?_
          simp only [go_sem]
          refine dF I1 6 [1] ⟨.inl (pla_frz 3 (j := 1) (g := true) (onlyR_row rfl (by simp)) rfl), .inl rfl, .inl rfl, .inl rfl, trivial⟩ ?_ (hr := by simp only [go_sem, Rg.v]) (hnv := by simp only [go_sem, Rg.v])
          simp only [go_sem, Rg.v, Pl.a, Pl.c4]
          refine ⟨by simp <;> omega, ?_⟩
          refine dP e2 ?_
          simp only [go_sem]
          refine dF I2 6 [1] ⟨.inl (pla_frz 3 (j := 1) (g := true) (onlyR_row rfl (by simp)) rfl), .inl rfl, .inl rfl, .inl rfl, trivial⟩ ?_ (hr := by simp only [go_sem, Rg.v]) (hnv := by simp only [go_sem, Rg.v])
          simp only [go_sem, Rg.v, Pl.a, Pl.c4]
          refine ⟨by simp <;> omega, ?_⟩
          refine cF Ha 6 ⟨.inl (iv_frz_sl (d := 4) (j := 1) (g := true) rfl rfl), .inl rfl, trivial⟩ ?_
          simp only [go_sem, Rg.v, Pl.a, Pl.c4]
          refine cF Hk 6 ⟨.inl (iv_frz_sl (d := 4) (j := 1) (g := true) rfl rfl), .inl rfl, trivial⟩ ?_
          simp only [go_sem, Rg.v, Pl.a, Pl.c4, h6]
          exact ihk _ _ (by simp [go_sem])
      · have ba' : decide ((i : Int) + 1 ∈ p.cs) = false := by simp [ba]
        rw [ba'] at Ha
        rw [if_neg fun h => ba h.1] at I1
        rw [if_neg fun h => ba h.2] at I2
        simp only [go_sem, h5, Pl.a, Pl.c4]
        refine dP e1 ?_
        simp only [go_sem]
        refine dF I1 6 [1] ⟨.inl (pla_frz 3 (j := 1) (g := true) (onlyR_row rfl (by simp)) rfl), .inl rfl, .inl rfl, .inl rfl, trivial⟩ ?_ (hr := by simp only [go_sem, Rg.v]) (hnv := by simp only [go_sem, Rg.v])
        simp only [go_sem, Rg.v, Pl.a, Pl.c4]
        refine ⟨by simp <;> omega, ?_⟩
        refine dP e2 ?_
        simp only [go_sem]
        refine dF I2 6 [1] ⟨.inl (pla_frz 3 (j := 1) (g := true) (onlyR_row rfl (by simp)) rfl), .inl rfl, .inl rfl, .inl rfl, trivial⟩ ?_ (hr := by simp only [go_sem, Rg.v]) (hnv := by simp only [go_sem, Rg.v])
        simp only [go_sem, Rg.v, Pl.a, Pl.c4]
        refine ⟨by simp <;> omega, ?_⟩
        refine cF Ha 6 ⟨.inl (iv_frz_sl (d := 4) (j := 1) (g := true) rfl rfl), .inl rfl, trivial⟩ ?_
        simp only [go_sem, Rg.v, Pl.a, Pl.c4, h6]
        exact ihk _ _ (by simp [go_sem])
    · have h5 : ¬ (k : Int) + 1 < (i : Int) + 1 := by omega
      simp only [go_sem, h5, h3]
      exact ihn _ _ (by simp [go_sem])
  · have h2 : ¬ (i : Int) + 1 ≤ 3 := by omega
    simp only [go_sem, h2]
    refine cP awake_ok ?_
    simp only [go_sem]
end Go.Proofs
