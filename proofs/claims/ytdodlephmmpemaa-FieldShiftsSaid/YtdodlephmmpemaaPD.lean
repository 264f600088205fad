/- A part of the proof. -/
import Derived.Test.YtdodlephmmpemaaPC
set_option linter.unusedSimpArgs false
set_option linter.unusedVariables false
namespace Go.Proofs
open Go Go.Sx

def sumN (f : Nat → Int) : Nat → Int
  | 0 => 0
  | n + 1 => sumN f n + f n
theorem sumN_congr {f g : Nat → Int} : ∀ n, (∀ i, i < n → f i = g i) → sumN f n = sumN g n
  | 0, _ => rfl
  | n + 1, h => by rw [sumN, sumN, sumN_congr n fun i hi => h i (by omega), h n (by omega)]
theorem sumN_le {f g : Nat → Int} : ∀ n, (∀ i, i < n → f i ≤ g i) → sumN f n ≤ sumN g n
  | 0, _ => Int.le_refl _
  | n + 1, h => by have := sumN_le n fun i hi => h i (by omega); have := h n (by omega); rw [sumN, sumN]; omega
theorem sumN_zero : ∀ n, sumN (fun _ => 0) n = 0
  | 0 => rfl
  | n + 1 => by rw [sumN, sumN_zero n]; rfl
def lap (p : Pl) (a : Nat → Int) (i : Nat) : Int := wsum (nbs p i) fun n => a i - a n
theorem lap_eq (p : Pl) (a : Nat → Int) (i : Nat) : lap p a i = wtot (nbs p i) * a i - wsum (nbs p i) a := by
  unfold lap
  rw [wsum_sub, wsum_const]
theorem chTo_sum (p : Pl) (a : List Int) (e : Int) : ∀ n, chTo p a e n = sumN (fun i => if gt p.cs i = e then wsum (nbs p i) (chC p a e i) else 0) n
  | 0 => rfl
  | n + 1 => by rw [chTo, sumN, chTo_sum p a e n]
def ElOK (p : Pl) (v a : List Int) : Prop := ∀ i, i < p.w * p.h → p.el i → gt a i = vo v (gt p.cs i)
theorem chC_lap {p : Pl} (hp : PlOK p) {v a : List Int} (h : ElOK p v a) {i : Nat} (hi : i < p.w * p.h) (hE : p.el i) : wsum (nbs p i) (chC p a (gt p.cs i) i) = lap p (gt a) i := by
  unfold lap
  refine wsum_congr fun q hq => ?_
  obtain ⟨k1, _⟩ := nbs_in p hp.w.2 hi q hq
  unfold chC
  split
  · rename_i he
    have hq' : p.el q.1 := by unfold Pl.el at *; rw [he]; exact hE
    rw [h i hi hE, h _ k1 hq', he]; omega
  · rfl
theorem chg_lap {p : Pl} (hp : PlOK p) {v a : List Int} (h : ElOK p v a) {e : Int} (he : e ≠ 0) : chg p a e = sumN (fun i => if gt p.cs i = e then lap p (gt a) i else 0) (p.w * p.h) := by
  unfold chg
  rw [chTo_sum]
  refine sumN_congr _ fun i hi => ?_
  split
  · rename_i h1
    subst h1
    exact chC_lap hp h hi he
  · rfl

theorem chg_order {p : Pl} (hp : PlOK p) {v la ha : List Int} (hl : ElOK p v la) (hh : ElOK p v ha) (h : ∀ i, i < p.w * p.h → gt la i ≤ gt ha i) {e : Int} (he : e ≠ 0) : chg p ha e ≤ chg p la e := by
  rw [chg_lap hp hl he, chg_lap hp hh he]
  refine sumN_le _ fun i hi => ?_
  split
  · rename_i h1
    have hE : p.el i := by unfold Pl.el; rw [h1]; exact he
    unfold lap
    refine wsum_mono fun q hq => ?_
    obtain ⟨k1, k2, _⟩ := nbs_in p hp.w.2 hi q hq
    have := h _ k1
    have h3 := hl i hi hE
    have h4 := hh i hi hE
    exact ⟨by omega, by omega⟩
  · exact Int.le_refl _
end Go.Proofs

namespace Go.Proofs
open Go Go.Sx

end Go.Proofs

namespace Go.Proofs
open Go Go.Sx
attribute [local irreducible] Run

theorem chg_bd {p : Pl} (hp : PlOK p) {a : List Int} (ha : AtOK p a) (e : Int) : -100000000000 ≤ chg p a e ∧ chg p a e ≤ 100000000000 := by
  have hN : p.w * p.h ≤ 256 := Nat.mul_le_mul hp.w.2 hp.h.2
  have := chTo_bd hp ha e (p.w * p.h) (Nat.le_refl _)
  unfold chg; omega
end Go.Proofs

namespace Go.Proofs
open Go Go.Sx
attribute [local irreducible] Run

def unitV (g : Nat) (a : Int) : List Int := (List.replicate g 0).set (a - 1).toNat 1000000
theorem unitV_len (g : Nat) (a : Int) : (unitV g a).length = g := by simp [unitV]
theorem unitV_vo {g : Nat} {a : Int} (ha : 1 ≤ a ∧ a ≤ g) {c : Int} (hc : 1 ≤ c) : vo (unitV g a) c = if c = a then 1000000 else 0 := by
  unfold vo unitV
  rw [gt_set _ _ _ _ (by simp; omega)]
  by_cases h : c = a
  · rw [if_pos (by rw [h]), if_pos h]
  · rw [if_neg (by omega), if_neg h]
    unfold gt
    rw [List.getD_eq_getElem?_getD, List.getElem?_replicate]
    split <;> rfl
theorem unitV_vok (g : Nat) (a : Int) : VOK (unitV g a) := fun x hx => by
  rcases List.mem_or_eq_of_mem_set hx with h | h
  · rw [List.mem_replicate] at h; omega
  · omega

theorem VLen_unit {p : Pl} (hp : PlOK p) {g : Nat} (hg : (g : Int) = gmax p.cs) (a : Int) : VLen p (unitV g a) := fun c hc => by rw [unitV_len, hg]; exact hp.max.2.2 c hc

set_option maxHeartbeats 2000000 in
theorem influence_ok {p : Pl} (hp : PlOK p) {g : Nat} (hg : (g : Int) = gmax p.cs) {n : Nat} (hn : n ≤ 200) {a k : Int} (ha : 1 ≤ a ∧ a ≤ g) :
    Ans Try.prog n_field_influence [p.v, .int .i64 n, .int .i64 a, .int .i64 k] [] (Rg.v ⟨- chg p (lowB p (unitV g a) (cnt p (unitV g a) n)) k, - chg p (highB p (unitV g a) (cnt p (unitV g a) n)) k⟩) [] := by
  have hN : p.w * p.h ≤ 256 := Nat.mul_le_mul hp.w.2 hp.h.2
  have hlen := hp.len
  have hm := max_ok (l := p.cs) hp.ne (fun c hc => (hp.cell c hc).1) (by omega)
  have hmx := hp.max
  rw [← hg] at hm
  have hv := unitV_vok g a
  have hs := solve_ok hp hv (VLen_unit hp hg a) hn
  have A := (low_ok hp (unitV g a) (cnt p (unitV g a) n)).at hv
  have B := (high_ok hp (unitV g a) (cnt p (unitV g a) n)).at hv
  have hc := charge_ok hp A B (cnt p (unitV g a) n) (stl p (unitV g a) (cnt p (unitV g a) n)) k
  have L1 := A.len; have L2 := B.len
  rw [← hlen] at L1 L2
  have b1 := chg_bd hp A k
  have b2 := chg_bd hp B k
  have hul := unitV_len g a
  have hu : (iv (List.replicate g 0)).set (a - 1).toNat (.int .i64 1000000) = iv (unitV g a) := by rw [iv_set]; rfl
  have hr0 : List.replicate g (AVal.int .i64 0) = iv (List.replicate g 0) := by simp [iv]
  generalize lowB p (unitV g a) (cnt p (unitV g a) n) = la at *
  generalize highB p (unitV g a) (cnt p (unitV g a) n) = ha' at *
  generalize stl p (unitV g a) (cnt p (unitV g a) n) = t1 at *
  generalize cnt p (unitV g a) n = c1 at *
  generalize unitV g a = u at *
  have q1 : (0 : Int) ≤ g := by omega
  have q2 : (g : Int) ≤ 2 ^ 44 := by omega
  have q3 : (g : Int) * 8 ≤ 2 ^ 44 := by omega
  have w1 : IntKind.i64.wrap (a - 1) = a - 1 := w64 (by omega)
  have k1 : ¬ a - 1 < 0 := by omega
  have k2 : a - 1 < g := by omega
  have k3 : (a - 1).toNat < g := by omega
  have hge : (iv (List.replicate g 0))[(a - 1).toNat]? = some (.int .i64 (gt (List.replicate g 0) (a - 1).toNat)) := iv_get (by simpa using k3)
  generalize gt (List.replicate g 0) (a - 1).toNat = z0 at *
  refine spec_run e_field_influence fun G => ?_
  simp only [go_sem, Pl.v, Pl.a, Pl.c4, vw]
  refine cP hm ?_
  simp only [go_sem, q1, q2, q3, Int.toNat_natCast, hr0, w1, k1, k2, hge, hu]
  refine ⟨Int.le_refl _, ?_⟩
  refine dFN2 hs 6 [2] ⟨.inl (plv_frz 3 _ p), .inl (iv_frz_sl (d := 4) (j := 2) (g := false) (onlyR_row rfl (by simp)) hul.symm), .inl rfl, trivial⟩ ?_ (by simp [go_sem, fldV]) (by simp only [go_sem, fldV]) (iv_row _ _ _) (iv_nv _ _) (iv_row _ _ _) (iv_nv _ _) (by simp [go_sem])
  simp only [go_sem, ren, rens, fldV, Pl.v, Pl.a, Pl.c4, vw]
  refine dF hc 6 [3, 4] ⟨.inl (plv_frz 3 _ p), .inl (fldW_frz (j0 := 3) (j1 := 4) (onlyR_row rfl (by simp)) (onlyR_row rfl (by simp)) L1.symm L2.symm), .inl rfl, trivial⟩ ?_
  have z1 : IntKind.i64.wrap (0 - chg p la k) = - chg p la k := by rw [w64 (by omega)]; omega
  have z2 : IntKind.i64.wrap (0 - chg p ha' k) = - chg p ha' k := by rw [w64 (by omega)]; omega
  simp only [go_sem, Rg.v, z1, z2]

end Go.Proofs

namespace Go.Proofs
open Go Go.Sx

end Go.Proofs

namespace Go.Proofs
open Go Go.Sx
attribute [local irreducible] Run

def Pl.put (p : Pl) (i : Nat) (c : Int) : Pl := { p with cs := p.cs.set i c }
theorem low_pos {p : Pl} (hp : PlOK p) {g : Nat} (hg : (g : Int) = gmax p.cs) {a : Int} (ha : 1 ≤ a ∧ a ≤ g) (k : Nat) {j : Nat} (hj : j < p.w * p.h) : 0 ≤ gt (lowB p (unitV g a) k) j := by
  have h1 := ((low_ok hp (unitV g a) k).bd j hj).1
  have h2 := endLs_ge (unitV g a) 0 p.cs 1000000 (by omega) fun c hc h0 => by
    rw [unitV_vo ha (by have := hp.cell c hc; omega)]; split <;> omega
  have h3 : (0 : Int) ≤ endL p (unitV g a) := h2
  omega
end Go.Proofs

namespace Go.Proofs
open Go Go.Sx

end Go.Proofs

namespace Go.Proofs
open Go Go.Sx
attribute [local irreducible] Run

theorem infl_pos {p : Pl} (hp : PlOK p) {g : Nat} (hg : (g : Int) = gmax p.cs) {a k : Int} (ha : 1 ≤ a ∧ a ≤ g) (hk : 1 ≤ k) (hak : a ≠ k) (t : Nat) : chg p (lowB p (unitV g a) t) k ≤ 0 := by
  have U := low_ok hp (unitV g a) t
  have hu := fun j (hj : j < p.w * p.h) => low_pos hp hg ha t (j := j) hj
  rw [chg_lap hp U.elec (by omega)]
  refine Int.le_trans (sumN_le (g := fun _ => 0) _ fun i hi => ?_) (by rw [sumN_zero]; exact Int.le_refl _)
  split
  · rename_i h1
    have h0 : gt (lowB p (unitV g a) t) i = 0 := by
      rw [U.elec i hi (by show gt p.cs i ≠ 0; omega), h1, unitV_vo ha hk, if_neg (Ne.symm hak)]
    rw [lap_eq, h0, Int.mul_zero]
    have h5 := wsum_mono (l := nbs p i) (f := fun _ => 0) (g := gt (lowB p (unitV g a) t)) fun q hq' => by
      obtain ⟨k1, k2, _⟩ := nbs_in p hp.w.2 hi q hq'
      exact ⟨by omega, hu _ k1⟩
    rw [wsum_const, Int.mul_zero] at h5
    omega
  · exact Int.le_refl _

end Go.Proofs

namespace Go.Proofs
open Go Go.Sx

def k_field_Copy_r0 : List AOper := [
  ⟨(some (1)), .box (.tmp 0), none, []⟩, 
  ⟨(some (2)), .box (.const (.agg [.int .i64 0, .int .i64 0, .bool false, .nilsl])), none, []⟩]
def k_field_Copy_r1 : List AOper := [
  ⟨(some (3)), .fieldAddr 3 (.tmp 1), none, []⟩, 
  ⟨(some (4)), .load none (.tmp 3), none, []⟩, 
  ⟨(some (5)), .append 1 8 false (.const (.nilsl)) (.tmp 4), none, []⟩, 
  ⟨(some (6)), .fieldAddr 3 (.tmp 1), none, []⟩, 
  ⟨none, .store 1 (.tmp 6) (.tmp 5), none, []⟩]
def k_field_Copy_r2 : List AOper := [
  ⟨(some (7)), .load (some (4)) (.tmp 1), none, []⟩, 
  ⟨none, .store 4 (.tmp 2) (.tmp 7), none, []⟩]
def k_field_Copy : AFun := { params := 1, ntmps := 8, body := (.seq (.reg k_field_Copy_r0 false) (.seq (.reg k_field_Copy_r1 false) (.seq (.reg k_field_Copy_r2 false) .ret))), res := [.cell 2 (some ((some (4))))] }
theorem k_field_Copy_ok : cfun Try.prog Try.f33 = k_field_Copy := by kernel_rfl

def k_ref01_Same_r0 : List AOper := [
  ⟨(some (2)), .box (.tmp 0), none, []⟩, 
  ⟨(some (3)), .box (.tmp 1), none, []⟩, 
  ⟨(some (4)), .move (.const (.bool false)), none, []⟩]
def k_ref01_Same_r1 : List AOper := [
  ⟨(some (5)), .fieldAddr 0 (.tmp 2), none, []⟩, 
  ⟨(some (6)), .load none (.tmp 5), none, []⟩, 
  ⟨(some (7)), .fieldAddr 0 (.tmp 3), none, []⟩, 
  ⟨(some (8)), .load none (.tmp 7), none, []⟩, 
  ⟨(some (9)), .bin .plain .eql (.tmp 6) (.tmp 8), none, []⟩, 
  ⟨(some (10)), .move (.tmp 9), none, []⟩, 
  ⟨(some (11)), .fieldAddr 1 (.tmp 2), (some (10, true)), []⟩, 
  ⟨(some (12)), .load none (.tmp 11), (some (10, true)), []⟩, 
  ⟨(some (13)), .fieldAddr 1 (.tmp 3), (some (10, true)), []⟩, 
  ⟨(some (14)), .load none (.tmp 13), (some (10, true)), []⟩, 
  ⟨(some (15)), .bin .plain .eql (.tmp 12) (.tmp 14), (some (10, true)), []⟩, 
  ⟨(some (16)), .pick (.tmp 10) (.tmp 15) (.const (.bool false)), none, []⟩, 
  ⟨(some (17)), .move (.tmp 16), none, []⟩, 
  ⟨(some (18)), .fieldAddr 2 (.tmp 2), (some (17, true)), []⟩, 
  ⟨(some (19)), .load none (.tmp 18), (some (17, true)), []⟩, 
  ⟨(some (20)), .fieldAddr 2 (.tmp 3), (some (17, true)), []⟩, 
  ⟨(some (21)), .load none (.tmp 20), (some (17, true)), []⟩, 
  ⟨(some (22)), .bin .bool .eql (.tmp 19) (.tmp 21), (some (17, true)), []⟩, 
  ⟨(some (23)), .pick (.tmp 17) (.tmp 22) (.const (.bool false)), none, []⟩, 
  ⟨(some (24)), .move (.tmp 23), none, []⟩, 
  ⟨(some (25)), .fieldAddr 3 (.tmp 2), (some (24, true)), []⟩, 
  ⟨(some (26)), .load none (.tmp 25), (some (24, true)), []⟩, 
  ⟨(some (27)), .fieldAddr 3 (.tmp 3), (some (24, true)), []⟩, 
  ⟨(some (28)), .load none (.tmp 27), (some (24, true)), []⟩, 
  ⟨(some (29)), .call (.const (.fn (.func 77) [] [])) [.tmp 26, .tmp 28], (some (24, true)), []⟩, 
  ⟨(some (30)), .pick (.tmp 24) (.tmp 29) (.const (.bool false)), none, []⟩, 
  ⟨(some (4)), .move (.tmp 30), none, []⟩]
def k_ref01_Same : AFun := { params := 2, ntmps := 31, body := (.seq (.reg k_ref01_Same_r0 false) (.seq (.reg k_ref01_Same_r1 false) .ret)), res := [.tmp 4] }
theorem k_ref01_Same_ok : cfun Try.prog Try.f34 = k_ref01_Same := by kernel_rfl

def k_kit_Tube_r0 : List AOper := [
  ⟨(some (6)), .box (.const (.agg [.int .i64 0, .int .i64 0, .bool false, .nilsl])), none, []⟩]
def k_kit_Tube_r1 : List AOper := [
  ⟨(some (14)), .move (.tmp 0), none, []⟩, 
  ⟨(some (15)), .move (.tmp 1), none, []⟩, 
  ⟨(some (16)), .minmax true [.const (.int .i64 4), .tmp 15], none, []⟩, 
  ⟨(some (17)), .call (.const (.fn (.func 54) [] [])) [.tmp 14, .const (.int .i64 4), .tmp 16], none, []⟩, 
  ⟨(some (18)), .move (.tmp 0), none, []⟩, 
  ⟨(some (19)), .move (.tmp 2), none, []⟩, 
  ⟨(some (20)), .call (.const (.fn (.func 54) [] [])) [.tmp 18, .const (.int .i64 1), .tmp 19], none, []⟩, 
  ⟨(some (21)), .move (.tmp 0), none, []⟩, 
  ⟨(some (22)), .call (.const (.fn (.func 65) [] [])) [.tmp 21, .const (.int .i64 2)], none, []⟩, 
  ⟨(some (23)), .build [.int .i64 0, .int .i64 0, .bool false, .nilsl] [(0, 1, .tmp 17), (1, 1, .tmp 20), (2, 1, .tmp 22)], none, []⟩, 
  ⟨(some (7)), .box (.const (.agg [.int .i64 0, .int .i64 0, .bool false, .nilsl])), none, []⟩, 
  ⟨none, .store 4 (.tmp 7) (.tmp 23), none, []⟩]
def k_kit_Tube_r2 : List AOper := [
  ⟨(some (24)), .move (.tmp 0), none, []⟩, 
  ⟨(some (25)), .fieldAddr 0 (.tmp 7), none, []⟩, 
  ⟨(some (26)), .load none (.tmp 25), none, []⟩, 
  ⟨(some (27)), .bin .plain .sub (.tmp 26) (.const (.int .i64 2)), none, []⟩, 
  ⟨(some (28)), .call (.const (.fn (.func 54) [] [])) [.tmp 24, .const (.int .i64 1), .tmp 27], none, []⟩, 
  ⟨(some (8)), .move (.tmp 28), none, []⟩]
def k_kit_Tube_r3 : List AOper := [
  ⟨(some (29)), .move (.tmp 0), none, []⟩, 
  ⟨(some (30)), .fieldAddr 1 (.tmp 7), none, []⟩, 
  ⟨(some (31)), .load none (.tmp 30), none, []⟩, 
  ⟨(some (32)), .call (.const (.fn (.func 41) [] [])) [.tmp 29, .tmp 31], none, []⟩, 
  ⟨(some (9)), .move (.tmp 32), none, []⟩]
def k_kit_Tube_r4 : List AOper := [
  ⟨(some (10)), .move (.const (.int .i64 0)), none, []⟩]
def k_kit_Tube_r5 : List AOper := [
  ⟨(some (33)), .move (.tmp 10), none, []⟩, 
  ⟨(some (34)), .fieldAddr 0 (.tmp 7), none, []⟩, 
  ⟨(some (35)), .load none (.tmp 34), none, []⟩, 
  ⟨(some (36)), .fieldAddr 1 (.tmp 7), none, []⟩, 
  ⟨(some (37)), .load none (.tmp 36), none, []⟩, 
  ⟨(some (38)), .bin .plain .mul (.tmp 35) (.tmp 37), none, []⟩, 
  ⟨(some (39)), .bin .plain .lss (.tmp 33) (.tmp 38), none, []⟩]
def k_kit_Tube_r6 : List AOper := [
  ⟨(some (42)), .move (.tmp 10), none, []⟩, 
  ⟨(some (43)), .fieldAddr 0 (.tmp 7), none, [0]⟩, 
  ⟨(some (44)), .load none (.tmp 43), none, [0]⟩, 
  ⟨(some (45)), .bin .plain .rem (.tmp 42) (.tmp 44), none, []⟩, 
  ⟨(some (46)), .move (.tmp 10), none, [0, 1, 2, 3]⟩, 
  ⟨(some (47)), .fieldAddr 0 (.tmp 7), none, [0, 1, 2, 3, 4]⟩, 
  ⟨(some (48)), .load none (.tmp 47), none, [0, 1, 2, 3, 4]⟩, 
  ⟨(some (49)), .bin .plain .quo (.tmp 46) (.tmp 48), none, [0, 1, 2, 3]⟩, 
  ⟨(some (11)), .move (.tmp 45), none, [4, 5, 6, 7]⟩, 
  ⟨(some (12)), .move (.tmp 49), none, []⟩]
def k_kit_Tube_r6s : List (List AOper) := [
  [
  ⟨(some (42)), .move (.tmp 10), none, []⟩, 
  ⟨(some (43)), .fieldAddr 0 (.tmp 7), none, [0]⟩, 
  ⟨(some (44)), .load none (.tmp 43), none, [0]⟩, 
  ⟨(some (45)), .bin .plain .rem (.tmp 42) (.tmp 44), none, []⟩, 
  ⟨(some (46)), .move (.tmp 10), none, [0, 1, 2, 3]⟩, 
  ⟨(some (47)), .fieldAddr 0 (.tmp 7), none, [0, 1, 2, 3, 4]⟩, 
  ⟨(some (48)), .load none (.tmp 47), none, [0, 1, 2, 3, 4]⟩, 
  ⟨(some (49)), .bin .plain .quo (.tmp 46) (.tmp 48), none, [0, 1, 2, 3]⟩, 
  ⟨(some (11)), .move (.tmp 45), none, [4, 5, 6, 7]⟩], 
  [
  ⟨(some (12)), .move (.tmp 49), none, []⟩]]
theorem k_kit_Tube_r6_sg : segs k_kit_Tube_r6 = k_kit_Tube_r6s := by kernel_rfl
theorem k_kit_Tube_r6_st : statOK k_kit_Tube_r6 = true := by kernel_rfl
def k_kit_Tube_r7 : List AOper := [
  ⟨(some (13)), .move (.const (.int .i64 0)), none, []⟩]
def k_kit_Tube_r8 : List AOper := [
  ⟨(some (51)), .move (.tmp 11), none, []⟩, 
  ⟨(some (52)), .bin .plain .eql (.tmp 51) (.const (.int .i64 0)), none, []⟩, 
  ⟨(some (50)), .move (.tmp 52), none, []⟩]
def k_kit_Tube_r9 : List AOper := [
  ⟨(some (13)), .move (.const (.int .i64 1)), none, []⟩]
def k_kit_Tube_r10 : List AOper := [
  ⟨(some (54)), .move (.tmp 11), none, []⟩, 
  ⟨(some (55)), .fieldAddr 0 (.tmp 7), none, []⟩, 
  ⟨(some (56)), .load none (.tmp 55), none, []⟩, 
  ⟨(some (57)), .bin .plain .sub (.tmp 56) (.const (.int .i64 1)), none, []⟩, 
  ⟨(some (58)), .bin .plain .eql (.tmp 54) (.tmp 57), none, []⟩, 
  ⟨(some (53)), .move (.tmp 58), none, []⟩]
def k_kit_Tube_r11 : List AOper := [
  ⟨(some (13)), .move (.const (.int .i64 3)), none, []⟩]
def k_kit_Tube_r12 : List AOper := [
  ⟨(some (60)), .move (.tmp 11), none, []⟩, 
  ⟨(some (61)), .move (.tmp 8), none, []⟩, 
  ⟨(some (62)), .bin .plain .eql (.tmp 60) (.tmp 61), none, []⟩, 
  ⟨(some (63)), .move (.tmp 62), none, []⟩, 
  ⟨(some (64)), .move (.tmp 12), (some (63, true)), []⟩, 
  ⟨(some (65)), .move (.tmp 9), (some (63, true)), []⟩, 
  ⟨(some (66)), .bin .plain .eql (.tmp 64) (.tmp 65), (some (63, true)), []⟩, 
  ⟨(some (67)), .move (.tmp 66), (some (63, true)), []⟩, 
  ⟨(some (68)), .move (.tmp 0), (some (67, false)), []⟩, 
  ⟨(some (69)), .call (.const (.fn (.func 65) [] [])) [.tmp 68, .const (.int .i64 3)], (some (67, false)), []⟩, 
  ⟨(some (70)), .pick (.tmp 67) (.const (.bool true)) (.tmp 69), (some (63, true)), []⟩, 
  ⟨(some (71)), .pick (.tmp 63) (.tmp 70) (.const (.bool false)), none, []⟩, 
  ⟨(some (72)), .move (.tmp 71), none, []⟩, 
  ⟨(some (73)), .fieldAddr 1 (.tmp 7), (some (72, true)), []⟩, 
  ⟨(some (74)), .load none (.tmp 73), (some (72, true)), []⟩, 
  ⟨(some (75)), .bin .plain .gtr (.tmp 74) (.const (.int .i64 1)), (some (72, true)), []⟩, 
  ⟨(some (76)), .pick (.tmp 72) (.tmp 75) (.const (.bool false)), none, []⟩, 
  ⟨(some (59)), .move (.tmp 76), none, []⟩]
def k_kit_Tube_r13 : List AOper := [
  ⟨(some (13)), .move (.const (.int .i64 2)), none, []⟩]
def k_kit_Tube_r14 : List AOper := [
  ⟨(some (77)), .fieldAddr 3 (.tmp 7), none, []⟩, 
  ⟨(some (78)), .load none (.tmp 77), none, []⟩, 
  ⟨(some (79)), .move (.tmp 13), none, []⟩, 
  ⟨(some (80)), .buildSlice 1 [.tmp 79], none, []⟩, 
  ⟨(some (81)), .append 1 8 false (.tmp 78) (.tmp 80), none, []⟩, 
  ⟨(some (82)), .fieldAddr 3 (.tmp 7), none, []⟩, 
  ⟨none, .store 1 (.tmp 82) (.tmp 81), none, []⟩]
def k_kit_Tube_r15 : List AOper := [
  ⟨(some (40)), .move (.tmp 10), none, []⟩, 
  ⟨(some (41)), .bin .plain .add (.tmp 40) (.const (.int .i64 1)), none, []⟩, 
  ⟨(some (10)), .move (.tmp 41), none, []⟩]
def k_kit_Tube_r16 : ACode := (.seq (.seq (.reg k_kit_Tube_r5 false) (.cond (.tmp 39) .skip (.exit 0))) (.seq (.block 1 (.seq (.reg k_kit_Tube_r6 true) (.seq (.reg k_kit_Tube_r7 false) (.seq (.block 2 (.seq (.reg k_kit_Tube_r8 false) (.cond (.tmp 50) (.reg k_kit_Tube_r9 false) (.seq (.reg k_kit_Tube_r10 false) (.cond (.tmp 53) (.reg k_kit_Tube_r11 false) (.seq (.reg k_kit_Tube_r12 false) (.cond (.tmp 59) (.reg k_kit_Tube_r13 false) .skip))))))) (.reg k_kit_Tube_r14 false))))) (.reg k_kit_Tube_r15 false)))
def k_kit_Tube_r17 : List AOper := [
  ⟨(some (83)), .load (some (4)) (.tmp 7), none, []⟩, 
  ⟨none, .store 4 (.tmp 6) (.tmp 83), none, []⟩]
def k_kit_Tube : AFun := { params := 3, ntmps := 84, body := (.seq (.reg k_kit_Tube_r0 false) (.seq (.reg k_kit_Tube_r1 false) (.seq (.reg k_kit_Tube_r2 false) (.seq (.reg k_kit_Tube_r3 false) (.seq (.seq (.reg k_kit_Tube_r4 false) (.block 0 (.loop k_kit_Tube_r16))) (.seq (.reg k_kit_Tube_r17 false) .ret)))))), res := [.cell 6 (some ((some (4))))] }
theorem k_kit_Tube_ok : cfun Try.prog Try.f46 = k_kit_Tube := by kernel_rfl

def k_field_Amplification_r0 : List AOper := [
  ⟨(some (5)), .box (.tmp 0), none, []⟩, 
  ⟨(some (10)), .box (.const (.agg [.int .i64 0, .int .i64 0])), none, []⟩, 
  ⟨(some (11)), .move (.const (.int .i64 0)), none, []⟩]
def k_field_Amplification_r1 : List AOper := [
  ⟨(some (15)), .load (some (4)) (.tmp 5), none, []⟩, 
  ⟨(some (16)), .move (.tmp 1), none, []⟩, 
  ⟨(some (17)), .move (.tmp 2), none, []⟩, 
  ⟨(some (18)), .move (.tmp 3), none, []⟩, 
  ⟨(some (19)), .move (.tmp 4), none, []⟩, 
  ⟨(some (20)), .buildSlice 1 [.tmp 17, .tmp 18, .tmp 19], none, []⟩, 
  ⟨(some (21)), .call (.const (.fn (.func 88) [] [])) [.tmp 15, .tmp 16, .tmp 20], none, []⟩, 
  ⟨(some (12)), .move (.tmp 21), none, []⟩]
def k_field_Amplification_r2 : List AOper := [
  ⟨(some (22)), .move (.tmp 12), none, []⟩, 
  ⟨(some (23)), .bin .plain .neq (.tmp 22) (.const (.int .i64 0)), none, []⟩]
def k_field_Amplification_r3 : List AOper := [
  ⟨(some (24)), .build [.int .i64 0, .int .i64 0] [], none, []⟩, 
  ⟨(some (25)), .move (.tmp 12), none, []⟩, 
  ⟨none, .store 2 (.tmp 10) (.tmp 24), none, []⟩, 
  ⟨(some (11)), .move (.tmp 25), none, []⟩]
def k_field_Amplification_r4 : List AOper := [
  ⟨(some (26)), .load (some (4)) (.tmp 5), none, []⟩, 
  ⟨(some (27)), .move (.tmp 1), none, []⟩, 
  ⟨(some (28)), .move (.tmp 4), none, []⟩, 
  ⟨(some (29)), .move (.tmp 2), none, []⟩, 
  ⟨(some (30)), .call (.const (.fn (.func 89) [] [])) [.tmp 26, .tmp 27, .tmp 28, .tmp 29], none, []⟩, 
  ⟨(some (13)), .box (.const (.agg [.int .i64 0, .int .i64 0])), none, []⟩, 
  ⟨none, .store 2 (.tmp 13) (.tmp 30), none, []⟩]
def k_field_Amplification_r5 : List AOper := [
  ⟨(some (31)), .fieldAddr 0 (.tmp 13), none, []⟩, 
  ⟨(some (32)), .load none (.tmp 31), none, []⟩, 
  ⟨(some (33)), .bin .plain .lss (.tmp 32) (.const (.int .i64 1)), none, []⟩]
def k_field_Amplification_r6 : List AOper := [
  ⟨(some (34)), .build [.int .i64 0, .int .i64 0] [], none, []⟩, 
  ⟨none, .store 2 (.tmp 10) (.tmp 34), none, []⟩, 
  ⟨(some (11)), .move (.const (.int .i64 10)), none, []⟩]
def k_field_Amplification_r7 : List AOper := [
  ⟨(some (35)), .load (some (4)) (.tmp 5), none, []⟩, 
  ⟨(some (36)), .move (.tmp 1), none, []⟩, 
  ⟨(some (37)), .move (.tmp 3), none, []⟩, 
  ⟨(some (38)), .move (.tmp 2), none, []⟩, 
  ⟨(some (39)), .call (.const (.fn (.func 89) [] [])) [.tmp 35, .tmp 36, .tmp 37, .tmp 38], none, []⟩, 
  ⟨(some (14)), .box (.const (.agg [.int .i64 0, .int .i64 0])), none, []⟩, 
  ⟨none, .store 2 (.tmp 14) (.tmp 39), none, []⟩]
def k_field_Amplification_r8 : List AOper := [
  ⟨(some (40)), .fieldAddr 0 (.tmp 14), none, []⟩, 
  ⟨(some (41)), .load none (.tmp 40), none, []⟩, 
  ⟨(some (42)), .bin .plain .mul (.const (.int .i64 1000)) (.tmp 41), none, []⟩, 
  ⟨(some (43)), .fieldAddr 1 (.tmp 13), none, [0, 1, 2]⟩, 
  ⟨(some (44)), .load none (.tmp 43), none, [0, 1, 2]⟩, 
  ⟨(some (45)), .call (.const (.fn (.func 92) [] [])) [.tmp 42, .tmp 44], none, []⟩, 
  ⟨(some (46)), .fieldAddr 1 (.tmp 14), none, [0, 1, 2, 3, 4, 5]⟩, 
  ⟨(some (47)), .load none (.tmp 46), none, [0, 1, 2, 3, 4, 5]⟩, 
  ⟨(some (48)), .bin .plain .mul (.const (.int .i64 1000)) (.tmp 47), none, [0, 1, 2, 3, 4, 5]⟩, 
  ⟨(some (49)), .fieldAddr 0 (.tmp 13), none, [0, 1, 2, 3, 4, 5, 6, 7, 8]⟩, 
  ⟨(some (50)), .load none (.tmp 49), none, [0, 1, 2, 3, 4, 5, 6, 7, 8]⟩, 
  ⟨(some (51)), .call (.const (.fn (.func 93) [] [])) [.tmp 48, .tmp 50], none, []⟩, 
  ⟨(some (52)), .build [.int .i64 0, .int .i64 0] [(0, 1, .tmp 45), (1, 1, .tmp 51)], none, []⟩, 
  ⟨none, .store 2 (.tmp 10) (.tmp 52), none, []⟩, 
  ⟨(some (11)), .move (.const (.int .i64 0)), none, []⟩]
def k_field_Amplification_r8s : List (List AOper) := [
  [
  ⟨(some (40)), .fieldAddr 0 (.tmp 14), none, []⟩, 
  ⟨(some (41)), .load none (.tmp 40), none, []⟩, 
  ⟨(some (42)), .bin .plain .mul (.const (.int .i64 1000)) (.tmp 41), none, []⟩, 
  ⟨(some (43)), .fieldAddr 1 (.tmp 13), none, [0, 1, 2]⟩, 
  ⟨(some (44)), .load none (.tmp 43), none, [0, 1, 2]⟩, 
  ⟨(some (45)), .call (.const (.fn (.func 92) [] [])) [.tmp 42, .tmp 44], none, []⟩, 
  ⟨(some (46)), .fieldAddr 1 (.tmp 14), none, [0, 1, 2, 3, 4, 5]⟩, 
  ⟨(some (47)), .load none (.tmp 46), none, [0, 1, 2, 3, 4, 5]⟩, 
  ⟨(some (48)), .bin .plain .mul (.const (.int .i64 1000)) (.tmp 47), none, [0, 1, 2, 3, 4, 5]⟩, 
  ⟨(some (49)), .fieldAddr 0 (.tmp 13), none, [0, 1, 2, 3, 4, 5, 6, 7, 8]⟩, 
  ⟨(some (50)), .load none (.tmp 49), none, [0, 1, 2, 3, 4, 5, 6, 7, 8]⟩], 
  [
  ⟨(some (51)), .call (.const (.fn (.func 93) [] [])) [.tmp 48, .tmp 50], none, []⟩], 
  [
  ⟨(some (52)), .build [.int .i64 0, .int .i64 0] [(0, 1, .tmp 45), (1, 1, .tmp 51)], none, []⟩], 
  [
  ⟨none, .store 2 (.tmp 10) (.tmp 52), none, []⟩], 
  [
  ⟨(some (11)), .move (.const (.int .i64 0)), none, []⟩]]
theorem k_field_Amplification_r8_sg : segs k_field_Amplification_r8 = k_field_Amplification_r8s := by kernel_rfl
theorem k_field_Amplification_r8_st : statOK k_field_Amplification_r8 = true := by kernel_rfl
def k_field_Amplification : AFun := { params := 5, ntmps := 53, body := (.seq (.reg k_field_Amplification_r0 false) (.seq (.seq (.reg k_field_Amplification_r1 false) (.seq (.reg k_field_Amplification_r2 false) (.cond (.tmp 23) (.seq (.reg k_field_Amplification_r3 false) .ret) .skip))) (.seq (.reg k_field_Amplification_r4 false) (.seq (.seq (.reg k_field_Amplification_r5 false) (.cond (.tmp 33) (.seq (.reg k_field_Amplification_r6 false) .ret) .skip)) (.seq (.reg k_field_Amplification_r7 false) (.seq (.reg k_field_Amplification_r8 true) .ret)))))), res := [.cell 10 (some ((some (2)))), .tmp 11] }
theorem k_field_Amplification_ok : cfun Try.prog Try.f49 = k_field_Amplification := by kernel_rfl

def k_field_Shift_r0 : List AOper := [
  ⟨(some (4)), .box (.tmp 0), none, []⟩, 
  ⟨(some (8)), .box (.const (.agg [.int .i64 0, .int .i64 0, .bool false, .nilsl])), none, []⟩, 
  ⟨(some (9)), .move (.const (.int .i64 0)), none, []⟩]
def k_field_Shift_r1 : List AOper := [
  ⟨(some (16)), .load (some (4)) (.tmp 4), none, []⟩, 
  ⟨(some (17)), .call (.const (.fn (.func 26) [] [])) [.tmp 16], none, []⟩, 
  ⟨(some (10)), .move (.tmp 17), none, []⟩]
def k_field_Shift_r2 : List AOper := [
  ⟨(some (18)), .move (.tmp 10), none, []⟩, 
  ⟨(some (19)), .bin .plain .neq (.tmp 18) (.const (.int .i64 0)), none, []⟩]
def k_field_Shift_r3 : List AOper := [
  ⟨(some (20)), .build [.int .i64 0, .int .i64 0, .bool false, .nilsl] [], none, []⟩, 
  ⟨(some (21)), .move (.tmp 10), none, []⟩, 
  ⟨none, .store 4 (.tmp 8) (.tmp 20), none, []⟩, 
  ⟨(some (9)), .move (.tmp 21), none, []⟩]
def k_field_Shift_r4 : List AOper := [
  ⟨(some (22)), .load (some (4)) (.tmp 4), none, []⟩, 
  ⟨(some (23)), .move (.tmp 1), none, []⟩, 
  ⟨(some (24)), .call (.const (.fn (.func 75) [] [])) [.tmp 22, .tmp 23], none, []⟩, 
  ⟨(some (25)), .not (.tmp 24), none, []⟩]
def k_field_Shift_r5 : List AOper := [
  ⟨(some (26)), .build [.int .i64 0, .int .i64 0, .bool false, .nilsl] [], none, []⟩, 
  ⟨none, .store 4 (.tmp 8) (.tmp 26), none, []⟩, 
  ⟨(some (9)), .move (.const (.int .i64 7)), none, []⟩]
def k_field_Shift_r6 : List AOper := [
  ⟨(some (27)), .load (some (4)) (.tmp 4), none, []⟩, 
  ⟨(some (28)), .move (.tmp 1), none, []⟩, 
  ⟨(some (29)), .move (.tmp 2), none, []⟩, 
  ⟨(some (30)), .move (.tmp 3), none, []⟩, 
  ⟨(some (31)), .call (.const (.fn (.func 96) [] [])) [.tmp 27, .tmp 28, .tmp 29, .tmp 30], none, []⟩]
def k_field_Shift_r7 : List AOper := [
  ⟨(some (32)), .build [.int .i64 0, .int .i64 0, .bool false, .nilsl] [], none, []⟩, 
  ⟨none, .store 4 (.tmp 8) (.tmp 32), none, []⟩, 
  ⟨(some (9)), .move (.const (.int .i64 2)), none, []⟩]
def k_field_Shift_r8 : List AOper := [
  ⟨(some (33)), .load (some (4)) (.tmp 4), none, []⟩, 
  ⟨(some (34)), .move (.tmp 1), none, []⟩, 
  ⟨(some (35)), .call (.const (.fn (.func 97) [] [])) [.tmp 33, .tmp 34], none, []⟩, 
  ⟨(some (11)), .box (.const (.agg [.int .i64 0, .int .i64 0, .bool false, .nilsl])), none, []⟩, 
  ⟨none, .store 4 (.tmp 11) (.tmp 35), none, []⟩]
def k_field_Shift_r9 : List AOper := [
  ⟨(some (36)), .fieldAddr 3 (.tmp 4), none, []⟩, 
  ⟨(some (37)), .load none (.tmp 36), none, []⟩, 
  ⟨(some (38)), .len false (.tmp 37), none, []⟩, 
  ⟨(some (39)), .move (.const (.int .i64 0)), none, []⟩]
def k_field_Shift_r10 : List AOper := [
  ⟨(some (40)), .bin .plain .lss (.tmp 39) (.tmp 38), none, []⟩]
def k_field_Shift_r11 : List AOper := [
  ⟨(some (41)), .move (.tmp 39), none, []⟩, 
  ⟨(some (42)), .indexAddr 1 (.tmp 37) (.tmp 39), none, []⟩, 
  ⟨(some (43)), .load none (.tmp 42), none, []⟩, 
  ⟨(some (12)), .move (.tmp 41), none, []⟩, 
  ⟨(some (13)), .move (.tmp 43), none, []⟩]
def k_field_Shift_r12 : List AOper := [
  ⟨(some (44)), .move (.tmp 13), none, []⟩, 
  ⟨(some (45)), .move (.tmp 1), none, []⟩, 
  ⟨(some (46)), .bin .plain .neq (.tmp 44) (.tmp 45), none, []⟩]
def k_field_Shift_r13 : List AOper := [
  ⟨(some (47)), .move (.tmp 12), none, []⟩, 
  ⟨(some (48)), .move (.tmp 3), none, []⟩, 
  ⟨(some (49)), .fieldAddr 0 (.tmp 4), none, []⟩, 
  ⟨(some (50)), .load none (.tmp 49), none, []⟩, 
  ⟨(some (51)), .bin .plain .mul (.tmp 48) (.tmp 50), none, []⟩, 
  ⟨(some (52)), .bin .plain .add (.tmp 47) (.tmp 51), none, []⟩, 
  ⟨(some (53)), .move (.tmp 2), none, []⟩, 
  ⟨(some (54)), .bin .plain .add (.tmp 52) (.tmp 53), none, []⟩, 
  ⟨(some (14)), .move (.tmp 54), none, []⟩]
def k_field_Shift_r14 : List AOper := [
  ⟨(some (55)), .fieldAddr 3 (.tmp 11), none, []⟩, 
  ⟨(some (56)), .load none (.tmp 55), none, []⟩, 
  ⟨(some (57)), .move (.tmp 14), none, []⟩, 
  ⟨(some (58)), .indexAddr 1 (.tmp 56) (.tmp 57), none, []⟩, 
  ⟨(some (59)), .load none (.tmp 58), none, []⟩, 
  ⟨(some (60)), .bin .plain .neq (.tmp 59) (.const (.int .i64 0)), none, []⟩]
def k_field_Shift_r15 : List AOper := [
  ⟨(some (61)), .build [.int .i64 0, .int .i64 0, .bool false, .nilsl] [], none, []⟩, 
  ⟨none, .store 4 (.tmp 8) (.tmp 61), none, []⟩, 
  ⟨(some (9)), .move (.const (.int .i64 9)), none, []⟩]
def k_field_Shift_r16 : List AOper := [
  ⟨(some (62)), .fieldAddr 3 (.tmp 11), none, []⟩, 
  ⟨(some (63)), .load none (.tmp 62), none, []⟩, 
  ⟨(some (64)), .move (.tmp 14), none, []⟩, 
  ⟨(some (65)), .move (.tmp 1), none, []⟩, 
  ⟨(some (66)), .indexAddr 1 (.tmp 63) (.tmp 64), none, []⟩, 
  ⟨none, .store 1 (.tmp 66) (.tmp 65), none, []⟩]
def k_field_Shift_r17 : List AOper := [
  ⟨(some (67)), .bin .plain .add (.tmp 39) (.const (.int .i64 1)), none, []⟩, 
  ⟨(some (39)), .move (.tmp 67), none, []⟩]
def k_field_Shift_r18 : ACode := (.seq (.reg k_field_Shift_r10 false) (.seq (.cond (.tmp 40) .skip (.exit 0)) (.seq (.block 1 (.seq (.reg k_field_Shift_r11 false) (.seq (.seq (.reg k_field_Shift_r12 false) (.cond (.tmp 46) (.exit 1) .skip)) (.seq (.reg k_field_Shift_r13 false) (.seq (.seq (.reg k_field_Shift_r14 false) (.cond (.tmp 60) (.seq (.reg k_field_Shift_r15 false) .ret) .skip)) (.reg k_field_Shift_r16 false)))))) (.reg k_field_Shift_r17 false))))
def k_field_Shift_r19 : List AOper := [
  ⟨(some (68)), .load (some (4)) (.tmp 11), none, []⟩, 
  ⟨(some (69)), .call (.const (.fn (.func 26) [] [])) [.tmp 68], none, []⟩, 
  ⟨(some (15)), .move (.tmp 69), none, []⟩]
def k_field_Shift_r20 : List AOper := [
  ⟨(some (70)), .move (.tmp 15), none, []⟩, 
  ⟨(some (71)), .bin .plain .neq (.tmp 70) (.const (.int .i64 0)), none, []⟩]
def k_field_Shift_r21 : List AOper := [
  ⟨(some (72)), .build [.int .i64 0, .int .i64 0, .bool false, .nilsl] [], none, []⟩, 
  ⟨(some (73)), .move (.tmp 15), none, []⟩, 
  ⟨none, .store 4 (.tmp 8) (.tmp 72), none, []⟩, 
  ⟨(some (9)), .move (.tmp 73), none, []⟩]
def k_field_Shift_r22 : List AOper := [
  ⟨(some (74)), .load (some (4)) (.tmp 11), none, []⟩, 
  ⟨none, .store 4 (.tmp 8) (.tmp 74), none, []⟩, 
  ⟨(some (9)), .move (.const (.int .i64 0)), none, []⟩]
def k_field_Shift : AFun := { params := 4, ntmps := 75, body := (.seq (.reg k_field_Shift_r0 false) (.seq (.seq (.reg k_field_Shift_r1 false) (.seq (.reg k_field_Shift_r2 false) (.cond (.tmp 19) (.seq (.reg k_field_Shift_r3 false) .ret) .skip))) (.seq (.seq (.reg k_field_Shift_r4 false) (.cond (.tmp 25) (.seq (.reg k_field_Shift_r5 false) .ret) .skip)) (.seq (.seq (.reg k_field_Shift_r6 false) (.cond (.tmp 31) (.seq (.reg k_field_Shift_r7 false) .ret) .skip)) (.seq (.reg k_field_Shift_r8 false) (.seq (.seq (.reg k_field_Shift_r9 false) (.block 0 (.loop k_field_Shift_r18))) (.seq (.seq (.reg k_field_Shift_r19 false) (.seq (.reg k_field_Shift_r20 false) (.cond (.tmp 71) (.seq (.reg k_field_Shift_r21 false) .ret) .skip))) (.seq (.reg k_field_Shift_r22 false) .ret)))))))), res := [.cell 8 (some ((some (4)))), .tmp 9] }
theorem k_field_Shift_ok : cfun Try.prog Try.f51 = k_field_Shift := by kernel_rfl

def k_field_Play_r0 : List AOper := [
  ⟨(some (5)), .box (.tmp 0), none, []⟩, 
  ⟨(some (10)), .move (.const (.int .i64 0)), none, []⟩, 
  ⟨(some (11)), .move (.const (.int .i64 0)), none, []⟩]
def k_field_Play_r1 : List AOper := [
  ⟨(some (22)), .load (some (4)) (.tmp 5), none, []⟩, 
  ⟨(some (23)), .move (.tmp 1), none, []⟩, 
  ⟨(some (24)), .move (.tmp 2), none, []⟩, 
  ⟨(some (25)), .move (.tmp 3), none, []⟩, 
  ⟨(some (26)), .move (.tmp 4), none, []⟩, 
  ⟨(some (27)), .call (.const (.fn (.func 49) [] [])) [.tmp 22, .tmp 23, .tmp 24, .tmp 25, .tmp 26], none, []⟩, 
  ⟨(some (21)), .move (.tmp 27), none, []⟩, 
  ⟨(some (28)), .extract (.tmp 21) 0, none, []⟩, 
  ⟨(some (29)), .extract (.tmp 21) 1, none, []⟩, 
  ⟨(some (12)), .box (.const (.agg [.int .i64 0, .int .i64 0])), none, []⟩, 
  ⟨none, .store 2 (.tmp 12) (.tmp 28), none, []⟩, 
  ⟨(some (13)), .move (.tmp 29), none, []⟩]
def k_field_Play_r2 : List AOper := [
  ⟨(some (30)), .move (.tmp 13), none, []⟩, 
  ⟨(some (31)), .bin .plain .neq (.tmp 30) (.const (.int .i64 0)), none, []⟩]
def k_field_Play_r3 : List AOper := [
  ⟨(some (32)), .move (.tmp 13), none, []⟩, 
  ⟨(some (10)), .move (.const (.int .i64 0)), none, []⟩, 
  ⟨(some (11)), .move (.tmp 32), none, []⟩]
def k_field_Play_r4 : List AOper := [
  ⟨(some (14)), .move (.const (.int .i64 0)), none, []⟩]
def k_field_Play_r5 : List AOper := [
  ⟨(some (33)), .build [.int .i64 0, .int .i64 0] [(0, 1, .const (.int .i64 1)), (1, 1, .const (.int .i64 0))], none, []⟩, 
  ⟨(some (34)), .build [.int .i64 0, .int .i64 0] [(0, 1, .const (.int .i64 (-1))), (1, 1, .const (.int .i64 0))], none, []⟩, 
  ⟨(some (35)), .build [.int .i64 0, .int .i64 0] [(0, 1, .const (.int .i64 0)), (1, 1, .const (.int .i64 1))], none, []⟩, 
  ⟨(some (36)), .build [.int .i64 0, .int .i64 0] [(0, 1, .const (.int .i64 0)), (1, 1, .const (.int .i64 (-1)))], none, []⟩, 
  ⟨(some (37)), .build [.int .i64 0, .int .i64 0, .int .i64 0, .int .i64 0, .int .i64 0, .int .i64 0, .int .i64 0, .int .i64 0] [(0, 2, .tmp 33), (2, 2, .tmp 34), (4, 2, .tmp 35), (6, 2, .tmp 36)], none, []⟩, 
  ⟨(some (38)), .move (.const (.int .i64 0)), none, []⟩]
def k_field_Play_r6 : List AOper := [
  ⟨(some (39)), .bin .plain .lss (.tmp 38) (.const (.int .i64 4)), none, []⟩]
def k_field_Play_r7 : List AOper := [
  ⟨(some (40)), .indexAgg 4 2 true (.tmp 37) (.tmp 38), none, []⟩, 
  ⟨(some (16)), .box (.const (.agg [.int .i64 0, .int .i64 0])), none, []⟩, 
  ⟨none, .store 2 (.tmp 16) (.tmp 40), none, []⟩]
def k_field_Play_r8 : List AOper := [
  ⟨(some (42)), .load (some (4)) (.tmp 5), none, []⟩, 
  ⟨(some (43)), .move (.tmp 3), none, []⟩, 
  ⟨(some (44)), .indexArr 2 1 (.tmp 16) (.const (.int .i64 0)), none, []⟩, 
  ⟨(some (45)), .load none (.tmp 44), none, []⟩, 
  ⟨(some (46)), .indexArr 2 1 (.tmp 16) (.const (.int .i64 1)), none, []⟩, 
  ⟨(some (47)), .load none (.tmp 46), none, []⟩, 
  ⟨(some (48)), .call (.const (.fn (.func 51) [] [])) [.tmp 42, .tmp 43, .tmp 45, .tmp 47], none, []⟩, 
  ⟨(some (41)), .move (.tmp 48), none, []⟩, 
  ⟨(some (49)), .extract (.tmp 41) 0, none, []⟩, 
  ⟨(some (50)), .extract (.tmp 41) 1, none, []⟩, 
  ⟨(some (17)), .box (.const (.agg [.int .i64 0, .int .i64 0, .bool false, .nilsl])), none, []⟩, 
  ⟨none, .store 4 (.tmp 17) (.tmp 49), none, []⟩, 
  ⟨(some (18)), .move (.tmp 50), none, []⟩]
def k_field_Play_r9 : List AOper := [
  ⟨(some (51)), .move (.tmp 18), none, []⟩, 
  ⟨(some (52)), .bin .plain .neq (.tmp 51) (.const (.int .i64 0)), none, []⟩]
def k_field_Play_r10 : List AOper := [
  ⟨(some (54)), .load (some (4)) (.tmp 17), none, []⟩, 
  ⟨(some (55)), .move (.tmp 1), none, []⟩, 
  ⟨(some (56)), .move (.tmp 2), none, []⟩, 
  ⟨(some (57)), .move (.tmp 3), none, []⟩, 
  ⟨(some (58)), .move (.tmp 4), none, []⟩, 
  ⟨(some (59)), .call (.const (.fn (.func 49) [] [])) [.tmp 54, .tmp 55, .tmp 56, .tmp 57, .tmp 58], none, []⟩, 
  ⟨(some (53)), .move (.tmp 59), none, []⟩, 
  ⟨(some (60)), .extract (.tmp 53) 0, none, []⟩, 
  ⟨(some (61)), .extract (.tmp 53) 1, none, []⟩, 
  ⟨(some (19)), .box (.const (.agg [.int .i64 0, .int .i64 0])), none, []⟩, 
  ⟨none, .store 2 (.tmp 19) (.tmp 60), none, []⟩, 
  ⟨(some (20)), .move (.tmp 61), none, []⟩]
def k_field_Play_r11 : List AOper := [
  ⟨(some (62)), .move (.tmp 20), none, []⟩, 
  ⟨(some (63)), .bin .plain .eql (.tmp 62) (.const (.int .i64 0)), none, []⟩]
def k_field_Play_r12 : List AOper := [
  ⟨(some (64)), .move (.tmp 14), none, []⟩, 
  ⟨(some (65)), .fieldAddr 1 (.tmp 19), none, []⟩, 
  ⟨(some (66)), .load none (.tmp 65), none, []⟩, 
  ⟨(some (67)), .fieldAddr 0 (.tmp 12), none, []⟩, 
  ⟨(some (68)), .load none (.tmp 67), none, []⟩, 
  ⟨(some (69)), .bin .plain .sub (.tmp 66) (.tmp 68), none, []⟩, 
  ⟨(some (70)), .fieldAddr 1 (.tmp 12), none, []⟩, 
  ⟨(some (71)), .load none (.tmp 70), none, []⟩, 
  ⟨(some (72)), .fieldAddr 0 (.tmp 19), none, []⟩, 
  ⟨(some (73)), .load none (.tmp 72), none, []⟩, 
  ⟨(some (74)), .bin .plain .sub (.tmp 71) (.tmp 73), none, []⟩, 
  ⟨(some (75)), .minmax true [.tmp 64, .tmp 69, .tmp 74], none, []⟩, 
  ⟨(some (14)), .move (.tmp 75), none, []⟩]
def k_field_Play_r13 : List AOper := [
  ⟨(some (76)), .bin .plain .add (.tmp 38) (.const (.int .i64 1)), none, []⟩, 
  ⟨(some (38)), .move (.tmp 76), none, []⟩]
def k_field_Play_r14 : ACode := (.seq (.reg k_field_Play_r6 false) (.seq (.cond (.tmp 39) .skip (.exit 0)) (.seq (.block 1 (.seq (.reg k_field_Play_r7 false) (.seq (.reg k_field_Play_r8 false) (.seq (.seq (.reg k_field_Play_r9 false) (.cond (.tmp 52) (.exit 1) .skip)) (.seq (.reg k_field_Play_r10 false) (.seq (.reg k_field_Play_r11 false) (.cond (.tmp 63) (.reg k_field_Play_r12 false) .skip))))))) (.reg k_field_Play_r13 false))))
def k_field_Play_r15 : List AOper := [
  ⟨(some (77)), .move (.tmp 14), none, []⟩, 
  ⟨(some (10)), .move (.tmp 77), none, []⟩, 
  ⟨(some (11)), .move (.const (.int .i64 0)), none, []⟩]
def k_field_Play : AFun := { params := 5, ntmps := 78, body := (.seq (.reg k_field_Play_r0 false) (.seq (.reg k_field_Play_r1 false) (.seq (.seq (.reg k_field_Play_r2 false) (.cond (.tmp 31) (.seq (.reg k_field_Play_r3 false) .ret) .skip)) (.seq (.reg k_field_Play_r4 false) (.seq (.seq (.reg k_field_Play_r5 false) (.block 0 (.loop k_field_Play_r14))) (.seq (.reg k_field_Play_r15 false) .ret)))))), res := [.tmp 10, .tmp 11] }
theorem k_field_Play_ok : cfun Try.prog Try.f61 = k_field_Play := by kernel_rfl

def k_ref01_SameInts_r0 : List AOper := [
  ⟨(some (4)), .move (.const (.bool false)), none, []⟩]
def k_ref01_SameInts_r1 : List AOper := [
  ⟨(some (6)), .move (.tmp 0), none, []⟩, 
  ⟨(some (7)), .len false (.tmp 6), none, []⟩, 
  ⟨(some (8)), .move (.tmp 1), none, []⟩, 
  ⟨(some (9)), .len false (.tmp 8), none, []⟩, 
  ⟨(some (10)), .bin .plain .neq (.tmp 7) (.tmp 9), none, []⟩]
def k_ref01_SameInts_r2 : List AOper := [
  ⟨(some (4)), .move (.const (.bool false)), none, []⟩]
def k_ref01_SameInts_r3 : List AOper := [
  ⟨(some (5)), .move (.const (.int .i64 0)), none, []⟩]
def k_ref01_SameInts_r4 : List AOper := [
  ⟨(some (11)), .move (.tmp 5), none, []⟩, 
  ⟨(some (12)), .move (.tmp 0), none, []⟩, 
  ⟨(some (13)), .len false (.tmp 12), none, []⟩, 
  ⟨(some (14)), .bin .plain .lss (.tmp 11) (.tmp 13), none, []⟩]
def k_ref01_SameInts_r5 : List AOper := [
  ⟨(some (17)), .move (.tmp 0), none, []⟩, 
  ⟨(some (18)), .move (.tmp 5), none, [0]⟩, 
  ⟨(some (19)), .indexAddr 1 (.tmp 17) (.tmp 18), none, []⟩, 
  ⟨(some (20)), .load none (.tmp 19), none, []⟩, 
  ⟨(some (21)), .move (.tmp 1), none, [0, 1, 2, 3]⟩, 
  ⟨(some (22)), .move (.tmp 5), none, [0, 1, 2, 3, 4]⟩, 
  ⟨(some (23)), .indexAddr 1 (.tmp 21) (.tmp 22), none, [0, 1, 2, 3]⟩, 
  ⟨(some (24)), .load none (.tmp 23), none, [0, 1, 2, 3]⟩, 
  ⟨(some (25)), .bin .plain .neq (.tmp 20) (.tmp 24), none, []⟩]
def k_ref01_SameInts_r5s : List (List AOper) := [
  [
  ⟨(some (17)), .move (.tmp 0), none, []⟩, 
  ⟨(some (18)), .move (.tmp 5), none, [0]⟩, 
  ⟨(some (19)), .indexAddr 1 (.tmp 17) (.tmp 18), none, []⟩, 
  ⟨(some (20)), .load none (.tmp 19), none, []⟩, 
  ⟨(some (21)), .move (.tmp 1), none, [0, 1, 2, 3]⟩, 
  ⟨(some (22)), .move (.tmp 5), none, [0, 1, 2, 3, 4]⟩, 
  ⟨(some (23)), .indexAddr 1 (.tmp 21) (.tmp 22), none, [0, 1, 2, 3]⟩, 
  ⟨(some (24)), .load none (.tmp 23), none, [0, 1, 2, 3]⟩], 
  [
  ⟨(some (25)), .bin .plain .neq (.tmp 20) (.tmp 24), none, []⟩]]
theorem k_ref01_SameInts_r5_sg : segs k_ref01_SameInts_r5 = k_ref01_SameInts_r5s := by kernel_rfl
theorem k_ref01_SameInts_r5_st : statOK k_ref01_SameInts_r5 = true := by kernel_rfl
def k_ref01_SameInts_r6 : List AOper := [
  ⟨(some (4)), .move (.const (.bool false)), none, []⟩]
def k_ref01_SameInts_r7 : List AOper := [
  ⟨(some (15)), .move (.tmp 5), none, []⟩, 
  ⟨(some (16)), .bin .plain .add (.tmp 15) (.const (.int .i64 1)), none, []⟩, 
  ⟨(some (5)), .move (.tmp 16), none, []⟩]
def k_ref01_SameInts_r8 : ACode := (.seq (.seq (.reg k_ref01_SameInts_r4 false) (.cond (.tmp 14) .skip (.exit 0))) (.seq (.block 1 (.seq (.reg k_ref01_SameInts_r5 true) (.cond (.tmp 25) (.seq (.reg k_ref01_SameInts_r6 false) .ret) .skip))) (.reg k_ref01_SameInts_r7 false)))
def k_ref01_SameInts_r9 : List AOper := [
  ⟨(some (4)), .move (.const (.bool true)), none, []⟩]
def k_ref01_SameInts : AFun := { params := 2, ntmps := 26, body := (.seq (.reg k_ref01_SameInts_r0 false) (.seq (.seq (.reg k_ref01_SameInts_r1 false) (.cond (.tmp 10) (.seq (.reg k_ref01_SameInts_r2 false) .ret) .skip)) (.seq (.seq (.reg k_ref01_SameInts_r3 false) (.block 0 (.loop k_ref01_SameInts_r8))) (.seq (.reg k_ref01_SameInts_r9 false) .ret)))), res := [.tmp 4] }
theorem k_ref01_SameInts_ok : cfun Try.prog Try.f77 = k_ref01_SameInts := by kernel_rfl

def k_field_leaves_r0 : List AOper := [
  ⟨(some (4)), .box (.tmp 0), none, []⟩, 
  ⟨(some (8)), .move (.const (.bool false)), none, []⟩]
def k_field_leaves_r1 : List AOper := [
  ⟨(some (13)), .fieldAddr 3 (.tmp 4), none, []⟩, 
  ⟨(some (14)), .load none (.tmp 13), none, []⟩, 
  ⟨(some (15)), .len false (.tmp 14), none, []⟩, 
  ⟨(some (16)), .move (.const (.int .i64 0)), none, []⟩]
def k_field_leaves_r2 : List AOper := [
  ⟨(some (17)), .bin .plain .lss (.tmp 16) (.tmp 15), none, []⟩]
def k_field_leaves_r3 : List AOper := [
  ⟨(some (18)), .move (.tmp 16), none, []⟩, 
  ⟨(some (19)), .indexAddr 1 (.tmp 14) (.tmp 16), none, []⟩, 
  ⟨(some (20)), .load none (.tmp 19), none, []⟩, 
  ⟨(some (9)), .move (.tmp 18), none, []⟩, 
  ⟨(some (10)), .move (.tmp 20), none, []⟩]
def k_field_leaves_r4 : List AOper := [
  ⟨(some (21)), .move (.tmp 9), none, []⟩, 
  ⟨(some (22)), .fieldAddr 0 (.tmp 4), none, [0]⟩, 
  ⟨(some (23)), .load none (.tmp 22), none, [0]⟩, 
  ⟨(some (24)), .bin .plain .rem (.tmp 21) (.tmp 23), none, []⟩, 
  ⟨(some (25)), .move (.tmp 9), none, [0, 1, 2, 3]⟩, 
  ⟨(some (26)), .fieldAddr 0 (.tmp 4), none, [0, 1, 2, 3, 4]⟩, 
  ⟨(some (27)), .load none (.tmp 26), none, [0, 1, 2, 3, 4]⟩, 
  ⟨(some (28)), .bin .plain .quo (.tmp 25) (.tmp 27), none, [0, 1, 2, 3]⟩, 
  ⟨(some (11)), .move (.tmp 24), none, [4, 5, 6, 7]⟩, 
  ⟨(some (12)), .move (.tmp 28), none, []⟩]
def k_field_leaves_r4s : List (List AOper) := [
  [
  ⟨(some (21)), .move (.tmp 9), none, []⟩, 
  ⟨(some (22)), .fieldAddr 0 (.tmp 4), none, [0]⟩, 
  ⟨(some (23)), .load none (.tmp 22), none, [0]⟩, 
  ⟨(some (24)), .bin .plain .rem (.tmp 21) (.tmp 23), none, []⟩, 
  ⟨(some (25)), .move (.tmp 9), none, [0, 1, 2, 3]⟩, 
  ⟨(some (26)), .fieldAddr 0 (.tmp 4), none, [0, 1, 2, 3, 4]⟩, 
  ⟨(some (27)), .load none (.tmp 26), none, [0, 1, 2, 3, 4]⟩, 
  ⟨(some (28)), .bin .plain .quo (.tmp 25) (.tmp 27), none, [0, 1, 2, 3]⟩, 
  ⟨(some (11)), .move (.tmp 24), none, [4, 5, 6, 7]⟩], 
  [
  ⟨(some (12)), .move (.tmp 28), none, []⟩]]
theorem k_field_leaves_r4_sg : segs k_field_leaves_r4 = k_field_leaves_r4s := by kernel_rfl
theorem k_field_leaves_r4_st : statOK k_field_leaves_r4 = true := by kernel_rfl
def k_field_leaves_r5 : List AOper := [
  ⟨(some (29)), .move (.tmp 10), none, []⟩, 
  ⟨(some (30)), .move (.tmp 1), none, []⟩, 
  ⟨(some (31)), .bin .plain .eql (.tmp 29) (.tmp 30), none, []⟩, 
  ⟨(some (32)), .move (.tmp 31), none, []⟩, 
  ⟨(some (33)), .move (.tmp 2), (some (32, true)), []⟩, 
  ⟨(some (34)), .move (.tmp 11), (some (32, true)), []⟩, 
  ⟨(some (35)), .neg (.tmp 34), (some (32, true)), []⟩, 
  ⟨(some (36)), .fieldAddr 0 (.tmp 4), (some (32, true)), []⟩, 
  ⟨(some (37)), .load none (.tmp 36), (some (32, true)), []⟩, 
  ⟨(some (38)), .bin .plain .sub (.tmp 37) (.const (.int .i64 1)), (some (32, true)), []⟩, 
  ⟨(some (39)), .move (.tmp 11), (some (32, true)), []⟩, 
  ⟨(some (40)), .bin .plain .sub (.tmp 38) (.tmp 39), (some (32, true)), []⟩, 
  ⟨(some (41)), .call (.const (.fn (.func 68) [] [])) [.tmp 33, .tmp 35, .tmp 40], (some (32, true)), []⟩, 
  ⟨(some (42)), .not (.tmp 41), (some (32, true)), []⟩, 
  ⟨(some (43)), .move (.tmp 42), (some (32, true)), []⟩, 
  ⟨(some (44)), .move (.tmp 3), (some (43, false)), []⟩, 
  ⟨(some (45)), .move (.tmp 12), (some (43, false)), []⟩, 
  ⟨(some (46)), .neg (.tmp 45), (some (43, false)), []⟩, 
  ⟨(some (47)), .fieldAddr 1 (.tmp 4), (some (43, false)), []⟩, 
  ⟨(some (48)), .load none (.tmp 47), (some (43, false)), []⟩, 
  ⟨(some (49)), .bin .plain .sub (.tmp 48) (.const (.int .i64 1)), (some (43, false)), []⟩, 
  ⟨(some (50)), .move (.tmp 12), (some (43, false)), []⟩, 
  ⟨(some (51)), .bin .plain .sub (.tmp 49) (.tmp 50), (some (43, false)), []⟩, 
  ⟨(some (52)), .call (.const (.fn (.func 68) [] [])) [.tmp 44, .tmp 46, .tmp 51], (some (43, false)), []⟩, 
  ⟨(some (53)), .not (.tmp 52), (some (43, false)), []⟩, 
  ⟨(some (54)), .pick (.tmp 43) (.const (.bool true)) (.tmp 53), (some (32, true)), []⟩, 
  ⟨(some (55)), .pick (.tmp 32) (.tmp 54) (.const (.bool false)), none, []⟩]
def k_field_leaves_r6 : List AOper := [
  ⟨(some (8)), .move (.const (.bool true)), none, []⟩]
def k_field_leaves_r7 : List AOper := [
  ⟨(some (56)), .bin .plain .add (.tmp 16) (.const (.int .i64 1)), none, []⟩, 
  ⟨(some (16)), .move (.tmp 56), none, []⟩]
def k_field_leaves_r8 : ACode := (.seq (.reg k_field_leaves_r2 false) (.seq (.cond (.tmp 17) .skip (.exit 0)) (.seq (.block 1 (.seq (.reg k_field_leaves_r3 false) (.seq (.reg k_field_leaves_r4 true) (.seq (.reg k_field_leaves_r5 false) (.cond (.tmp 55) (.seq (.reg k_field_leaves_r6 false) .ret) .skip))))) (.reg k_field_leaves_r7 false))))
def k_field_leaves_r9 : List AOper := [
  ⟨(some (8)), .move (.const (.bool false)), none, []⟩]
def k_field_leaves : AFun := { params := 4, ntmps := 57, body := (.seq (.reg k_field_leaves_r0 false) (.seq (.seq (.reg k_field_leaves_r1 false) (.block 0 (.loop k_field_leaves_r8))) (.seq (.reg k_field_leaves_r9 false) .ret))), res := [.tmp 8] }
theorem k_field_leaves_ok : cfun Try.prog Try.f96 = k_field_leaves := by kernel_rfl

def k_field_without_r0 : List AOper := [
  ⟨(some (2)), .box (.tmp 0), none, []⟩, 
  ⟨(some (4)), .box (.const (.agg [.int .i64 0, .int .i64 0, .bool false, .nilsl])), none, []⟩]
def k_field_without_r1 : List AOper := [
  ⟨(some (8)), .load (some (4)) (.tmp 2), none, []⟩, 
  ⟨(some (9)), .call (.const (.fn (.func 33) [] [])) [.tmp 8], none, []⟩, 
  ⟨(some (5)), .box (.const (.agg [.int .i64 0, .int .i64 0, .bool false, .nilsl])), none, []⟩, 
  ⟨none, .store 4 (.tmp 5) (.tmp 9), none, []⟩]
def k_field_without_r2 : List AOper := [
  ⟨(some (10)), .fieldAddr 3 (.tmp 5), none, []⟩, 
  ⟨(some (11)), .load none (.tmp 10), none, []⟩, 
  ⟨(some (12)), .len false (.tmp 11), none, []⟩, 
  ⟨(some (13)), .move (.const (.int .i64 0)), none, []⟩]
def k_field_without_r3 : List AOper := [
  ⟨(some (14)), .bin .plain .lss (.tmp 13) (.tmp 12), none, []⟩]
def k_field_without_r4 : List AOper := [
  ⟨(some (15)), .move (.tmp 13), none, []⟩, 
  ⟨(some (16)), .indexAddr 1 (.tmp 11) (.tmp 13), none, []⟩, 
  ⟨(some (17)), .load none (.tmp 16), none, []⟩, 
  ⟨(some (6)), .move (.tmp 15), none, []⟩, 
  ⟨(some (7)), .move (.tmp 17), none, []⟩]
def k_field_without_r5 : List AOper := [
  ⟨(some (18)), .move (.tmp 7), none, []⟩, 
  ⟨(some (19)), .move (.tmp 1), none, []⟩, 
  ⟨(some (20)), .bin .plain .eql (.tmp 18) (.tmp 19), none, []⟩]
def k_field_without_r6 : List AOper := [
  ⟨(some (21)), .fieldAddr 3 (.tmp 5), none, []⟩, 
  ⟨(some (22)), .load none (.tmp 21), none, []⟩, 
  ⟨(some (23)), .move (.tmp 6), none, []⟩, 
  ⟨(some (24)), .indexAddr 1 (.tmp 22) (.tmp 23), none, []⟩, 
  ⟨none, .store 1 (.tmp 24) (.const (.int .i64 0)), none, []⟩]
def k_field_without_r7 : List AOper := [
  ⟨(some (25)), .bin .plain .add (.tmp 13) (.const (.int .i64 1)), none, []⟩, 
  ⟨(some (13)), .move (.tmp 25), none, []⟩]
def k_field_without_r8 : ACode := (.seq (.reg k_field_without_r3 false) (.seq (.cond (.tmp 14) .skip (.exit 0)) (.seq (.block 1 (.seq (.reg k_field_without_r4 false) (.seq (.reg k_field_without_r5 false) (.cond (.tmp 20) (.reg k_field_without_r6 false) .skip)))) (.reg k_field_without_r7 false))))
def k_field_without_r9 : List AOper := [
  ⟨(some (26)), .load (some (4)) (.tmp 5), none, []⟩, 
  ⟨none, .store 4 (.tmp 4) (.tmp 26), none, []⟩]
def k_field_without : AFun := { params := 2, ntmps := 27, body := (.seq (.reg k_field_without_r0 false) (.seq (.reg k_field_without_r1 false) (.seq (.seq (.reg k_field_without_r2 false) (.block 0 (.loop k_field_without_r8))) (.seq (.reg k_field_without_r9 false) .ret)))), res := [.cell 4 (some ((some (4))))] }
theorem k_field_without_ok : cfun Try.prog Try.f97 = k_field_without := by kernel_rfl


abbrev n_field_Copy : Nat := 33
theorem e_field_Copy : EntryOK Try.prog n_field_Copy k_field_Copy := ⟨Try.f33, Try.func33, k_field_Copy_ok, by kernel_rfl⟩
abbrev n_ref01_Same : Nat := 34
theorem e_ref01_Same : EntryOK Try.prog n_ref01_Same k_ref01_Same := ⟨Try.f34, Try.func34, k_ref01_Same_ok, by kernel_rfl⟩
abbrev n_kit_Tube : Nat := 46
theorem e_kit_Tube : EntryOK Try.prog n_kit_Tube k_kit_Tube := ⟨Try.f46, Try.func46, k_kit_Tube_ok, by kernel_rfl⟩
abbrev n_field_Amplification : Nat := 49
theorem e_field_Amplification : EntryOK Try.prog n_field_Amplification k_field_Amplification := ⟨Try.f49, Try.func49, k_field_Amplification_ok, by kernel_rfl⟩
abbrev n_field_Shift : Nat := 51
theorem e_field_Shift : EntryOK Try.prog n_field_Shift k_field_Shift := ⟨Try.f51, Try.func51, k_field_Shift_ok, by kernel_rfl⟩
abbrev n_field_Play : Nat := 61
theorem e_field_Play : EntryOK Try.prog n_field_Play k_field_Play := ⟨Try.f61, Try.func61, k_field_Play_ok, by kernel_rfl⟩
abbrev n_ref01_SameInts : Nat := 77
theorem e_ref01_SameInts : EntryOK Try.prog n_ref01_SameInts k_ref01_SameInts := ⟨Try.f77, Try.func77, k_ref01_SameInts_ok, by kernel_rfl⟩
abbrev n_field_leaves : Nat := 96
theorem e_field_leaves : EntryOK Try.prog n_field_leaves k_field_leaves := ⟨Try.f96, Try.func96, k_field_leaves_ok, by kernel_rfl⟩
abbrev n_field_without : Nat := 97
theorem e_field_without : EntryOK Try.prog n_field_without k_field_without := ⟨Try.f97, Try.func97, k_field_without_ok, by kernel_rfl⟩

attribute [go_sem] k_field_Copy_r0 k_field_Copy_r1 k_field_Copy_r2 k_ref01_Same_r0 k_ref01_Same_r1 k_kit_Tube_r0 k_kit_Tube_r1 k_kit_Tube_r2 k_kit_Tube_r3 k_kit_Tube_r4 k_kit_Tube_r5
attribute [go_sem] k_kit_Tube_r6s k_kit_Tube_r7 k_kit_Tube_r8 k_kit_Tube_r9 k_kit_Tube_r10 k_kit_Tube_r11 k_kit_Tube_r12 k_kit_Tube_r13 k_kit_Tube_r14 k_kit_Tube_r15 k_kit_Tube_r17 k_field_Amplification_r0
attribute [go_sem] k_field_Amplification_r1 k_field_Amplification_r2 k_field_Amplification_r3 k_field_Amplification_r4 k_field_Amplification_r5 k_field_Amplification_r6 k_field_Amplification_r7 k_field_Amplification_r8s k_field_Shift_r0 k_field_Shift_r1 k_field_Shift_r2 k_field_Shift_r3
attribute [go_sem] k_field_Shift_r4 k_field_Shift_r5 k_field_Shift_r6 k_field_Shift_r7 k_field_Shift_r8 k_field_Shift_r9 k_field_Shift_r10 k_field_Shift_r11 k_field_Shift_r12 k_field_Shift_r13 k_field_Shift_r14 k_field_Shift_r15
attribute [go_sem] k_field_Shift_r16 k_field_Shift_r17 k_field_Shift_r19 k_field_Shift_r20 k_field_Shift_r21 k_field_Shift_r22 k_field_Play_r0 k_field_Play_r1 k_field_Play_r2 k_field_Play_r3 k_field_Play_r4 k_field_Play_r5
attribute [go_sem] k_field_Play_r6 k_field_Play_r7 k_field_Play_r8 k_field_Play_r9 k_field_Play_r10 k_field_Play_r11 k_field_Play_r12 k_field_Play_r13 k_field_Play_r15 k_ref01_SameInts_r0 k_ref01_SameInts_r1 k_ref01_SameInts_r2
attribute [go_sem] k_ref01_SameInts_r3 k_ref01_SameInts_r4 k_ref01_SameInts_r5s k_ref01_SameInts_r6 k_ref01_SameInts_r7 k_ref01_SameInts_r9 k_field_leaves_r0 k_field_leaves_r1 k_field_leaves_r2 k_field_leaves_r3 k_field_leaves_r4s k_field_leaves_r5
attribute [go_sem] k_field_leaves_r6 k_field_leaves_r7 k_field_leaves_r9 k_field_without_r0 k_field_without_r1 k_field_without_r2 k_field_without_r3 k_field_without_r4 k_field_without_r5 k_field_without_r6 k_field_without_r7 k_field_without_r9
attribute [go_sem] k_kit_Tube_r6_sg k_field_Amplification_r8_sg k_ref01_SameInts_r5_sg k_field_leaves_r4_sg k_kit_Tube_r6_st k_field_Amplification_r8_st k_ref01_SameInts_r5_st k_field_leaves_r4_st k_field_Copy
attribute [go_sem] k_ref01_Same k_kit_Tube k_field_Amplification k_field_Shift k_field_Play k_ref01_SameInts k_field_leaves k_field_without
end Go.Proofs

namespace Go.Proofs
open Go Go.Sx
attribute [local irreducible] Run

theorem roundDown2_ok (n b : Int) (hb : 0 < b ∧ b ≤ 1000000000000) (hn : -1000000000000000 ≤ n ∧ n ≤ 1000000000000000) : Ans Try.prog n_field_roundDown [.int .i64 n, .int .i64 b] [] (.int .i64 (rdn n b)) [] := by
  have e := Int.tdiv_eq_ediv (a := n) (b := b)
  have e' := Int.tmod_eq_emod (a := n) (b := b)
  have h1 := Int.emod_nonneg n (show b ≠ 0 by omega)
  have h2 := Int.emod_lt_of_pos n (show 0 < b by omega)
  have hd := Int.dvd_iff_emod_eq_zero (a := b) (b := n)
  have hq1 : n / b ≤ 1000000000000000 := Int.ediv_le_of_le_mul (by omega) (by have := Int.mul_le_mul_of_nonneg_left (show (1 : Int) ≤ b by omega) (show (0 : Int) ≤ 1000000000000000 by omega); omega)
  have hq2 : -1000000000000000 ≤ n / b := Int.le_ediv_of_mul_le (by omega) (by have := Int.mul_le_mul_of_nonneg_left (show (1 : Int) ≤ b by omega) (show (0 : Int) ≤ 1000000000000000 by omega); omega)
  refine spec_run e_field_roundDown fun G => ?_
  have hs : b.sign = 1 := Int.sign_eq_one_of_pos (by omega)
  rw [hs] at e
  have e'' : n.tmod b = if 0 ≤ n ∨ b ∣ n then n % b else n % b - b := by
    rw [e']; split
    · omega
    · rw [Int.natAbs_of_nonneg (by omega)]
  have w1 : IntKind.i64.wrap (n.tdiv b) = n.tdiv b := w64 (by rw [e]; split <;> omega)
  unfold rdn
  simp only [go_sem, w1]
  by_cases hc : 0 ≤ n ∨ b ∣ n
  · rw [if_pos hc] at e e''
    have h3 : ¬ n.tmod b < 0 := by omega
    have h4 : b ≠ 0 := by omega
    simp only [go_sem, h3, h4]
    rw [e]; simp
  · rw [if_neg hc] at e e''
    have h3 : n.tmod b < 0 := by omega
    have h4 : b ≠ 0 := by omega
    have w2 : IntKind.i64.wrap (n.tdiv b - 1) = n.tdiv b - 1 := w64 (by rw [e]; omega)
    simp only [go_sem, h3, h4, w2]
    rw [e]; simp

theorem roundUp2_ok (n b : Int) (hb : 0 < b ∧ b ≤ 1000000000000) (hn : -1000000000000000 ≤ n ∧ n ≤ 1000000000000000) : Ans Try.prog n_field_roundUp [.int .i64 n, .int .i64 b] [] (.int .i64 (rup n b)) [] := by
  have hq1 : -n / b ≤ 1000000000000000 := Int.ediv_le_of_le_mul (by omega) (by have := Int.mul_le_mul_of_nonneg_left (show (1 : Int) ≤ b by omega) (show (0 : Int) ≤ 1000000000000000 by omega); omega)
  have hq2 : -1000000000000000 ≤ -n / b := Int.le_ediv_of_mul_le (by omega) (by have := Int.mul_le_mul_of_nonneg_left (show (1 : Int) ≤ b by omega) (show (0 : Int) ≤ 1000000000000000 by omega); omega)
  have w0 : IntKind.i64.wrap (0 - n) = -n := by rw [w64 (by omega)]; omega
  have w1 : IntKind.i64.wrap (0 - rdn (-n) b) = -rdn (-n) b := by unfold rdn; rw [w64 (by omega)]; omega
  refine spec_run e_field_roundUp fun G => ?_
  unfold rup
  simp only [go_sem, w0]
  refine cP (roundDown2_ok (-n) b hb (by omega)) ?_
  simp only [go_sem, w1]
  rfl


def chkA (p : Pl) (l : List Int) : Int := if (∀ x ∈ l, x ≠ 0 ∧ x ∈ p.cs) then (if l.Nodup then 0 else 9) else 7

theorem checkOf_gen {p : Pl} (hp : PlOK p) {n : Nat} (hn : n ≤ 200) {l : List Int} (hl : l.length ≤ 1000) : Ans Try.prog n_field_checkOf [p.v, .int .i64 n, vw l] [] (.int .i64 (chkA p l)) [] := by
  have hN : p.w * p.h ≤ 256 := Nat.mul_le_mul hp.w.2 hp.h.2
  have hlen := hp.len
  have c1 := Check_ok hp
  have c2 := checkSweeps_ok (n := n) ⟨by omega, by omega⟩
  have c3 := fun x => has_ok (p := p) (by omega) x
  refine spec_run e_field_checkOf fun G => ?_
  simp only [go_sem, Pl.v, Pl.a, Pl.c4, vw]
  refine cP c1 ?_
  simp only [go_sem]
  refine cP c2 ?_
  simp only [go_sem, List.length_map]
  unfold chkA
  refine loop_ind k_field_checkOf_r13.eq_1 (fun a : Nat × Heap => a.1 ≤ l.length ∧ ∀ x ∈ l.take a.1, x ≠ 0 ∧ x ∈ p.cs) (fun a => l.length - a.1)
    (fun a => (tsets 47 [(2, vw l), (3, .ptr 0 0 0 1), (23, vw l), (24, .int .i64 l.length), (25, .int .i64 a.1)], some (.cells false 4 [p.v]) :: a.2)) (0, []) ⟨Nat.zero_le _, by simp⟩ (by simp [go_sem, vw]) rfl ?_
  rintro ⟨i, X⟩ ⟨hi, hm⟩ ih
  dsimp only at hi hm ih ⊢
  by_cases h1 : i < l.length
  · have h2 : (i : Int) < l.length := by omega
    have h3 := idx_next h1 (by omega)
    have n0 : ¬ (i : Int) < 0 := by omega
    have hx := gt_get h1
    have hT : l.take (i + 1) = l.take i ++ [gt l i] := by rw [List.take_add_one, gt_get h1]; rfl
    have hmem := gt_mem h1
    have ck := c3 (gt l i)
    have ihn := fun X => ih (i + 1, X) (by dsimp only; omega)
    clear ih
    simp only [hT] at ihn
    generalize gt l i = z at *
    simp only [go_sem, vw, List.length_map, h2, n0, hx, Pl.v, Pl.a, Pl.c4]
    refine cP ck ?_
    by_cases hz : z ≠ 0 ∧ z ∈ p.cs
    · have hz' : decide (z ≠ 0 ∧ z ∈ p.cs) = true := by simp [hz]
      rw [hz']
      simp only [go_sem, h3]
      exact ihn _ ⟨h1, fun x hx' => by
        rcases List.mem_append.1 hx' with h | h
        · exact hm x h
        · simp only [List.mem_singleton] at h
          rw [h]; exact hz⟩ _ (by simp [go_sem, vw])
    · have hz' : decide (z ≠ 0 ∧ z ∈ p.cs) = false := by simpa using hz
      rw [hz', if_neg fun h => hz (h z hmem)]
      simp only [go_sem]
  · have h2 : ¬ (i : Int) < l.length := by omega
    rw [List.take_of_length_le (by omega)] at hm
    clear ih c3
    simp only [go_sem, vw, List.length_map, h2, Pl.v, Pl.a, Pl.c4]
    rw [if_pos hm]
    refine loop_ind k_field_checkOf_r20.eq_1 (fun a : Nat × Heap => a.1 ≤ l.length ∧ (l.take a.1).Nodup) (fun a => l.length - a.1)
      (fun a => (tsets 47 [(2, vw l), (34, vw l), (35, .int .i64 l.length), (36, .int .i64 a.1)], a.2)) (0, _) ⟨Nat.zero_le _, by simp⟩ (by simp [go_sem, vw]) rfl ?_
    clear hi h1 h2 i hm
    rintro ⟨i, X⟩ ⟨hi, hm⟩ ih
    dsimp only at hi hm ih ⊢
    by_cases h1 : i < l.length
    · have h2 : (i : Int) < l.length := by omega
      have h3 := idx_next h1 (by omega)
      have n0 : ¬ (i : Int) < 0 := by omega
      have hx := gt_get h1
      have hT : l.take (i + 1) = l.take i ++ [gt l i] := by rw [List.take_add_one, gt_get h1]; rfl
      have ck := Contains_ok (l := l.take i) (gt l i) (by rw [List.length_take]; omega)
      have ihn := fun X => ih (i + 1, X) (by dsimp only; omega)
      clear ih
      have hsub : ¬ gt l i ∉ l.take i → ¬ l.Nodup := fun h hnd => by
        have h4 : (l.take (i + 1)).Nodup := List.Sublist.nodup (List.take_sublist _ _) hnd
        rw [hT, List.nodup_append] at h4
        exact h fun hmm => h4.2.2 _ hmm _ (by simp) rfl
      simp only [hT] at ihn
      generalize gt l i = z at *
      have hle : (i : Int) ≤ l.length := by omega
      simp only [go_sem, vw, List.length_map, h2, n0, hx, hle]
      have hall : ((List.map (AVal.int IntKind.i64) l).all fun e => (match e with | AVal.agg cs => cs | v => [v]).length == 1) = true := by
        rw [List.all_eq_true]; intro e he
        obtain ⟨x, _, rfl⟩ := List.mem_map.1 he
        rfl
      have hvw : AVal.view (List.take (i - 0) (List.map (AVal.int IntKind.i64) l)) = vw (l.take i) := by simp [vw, List.map_take]
      refine ⟨by omega, hall, ?_⟩
      rw [hvw]
      refine cP ck ?_
      by_cases hz : z ∈ l.take i
      · have hz' : decide (z ∈ l.take i) = true := by simp only [hz, decide_true]
        rw [hz']
        simp only [go_sem]
        rw [if_neg (hsub fun h => h hz)]
      · have hz' : decide (z ∈ l.take i) = false := by simp only [hz, decide_false]
        rw [hz']
        simp only [go_sem, h3]
        exact ihn _ ⟨h1, by
          rw [List.nodup_append]
          exact ⟨hm, by simp, fun a ha b hb => by simp only [List.mem_singleton] at hb; subst hb; intro h; subst h; exact hz ha⟩⟩ _ (by simp [go_sem, vw])
    · have h2 : ¬ (i : Int) < l.length := by omega
      rw [List.take_of_length_le (by omega)] at hm
      simp only [go_sem, vw, List.length_map, h2]
      rw [if_pos hm]

theorem rdn_up {a b c d : Int} (h1 : 0 ≤ a) (h2 : a ≤ b) (h3 : 0 < c) (h4 : c ≤ d) : rdn (1000 * a) d ≤ rup (1000 * b) c := by
  unfold rup rdn
  have e1 : 1000 * a / d ≤ 1000 * a / c := by
    refine Int.le_ediv_of_mul_le h3 ?_
    have h5 : 1000 * a / d * d ≤ 1000 * a := Int.ediv_mul_le _ (by omega)
    have h6 : 0 ≤ 1000 * a / d := Int.ediv_nonneg (by omega) (by omega)
    have h7 := Int.mul_le_mul_of_nonneg_left h4 h6
    omega
  have e2 : 1000 * a / c ≤ 1000 * b / c := Int.ediv_le_ediv h3 (by omega)
  have e3 : 1000 * b / c * c ≤ 1000 * b := Int.ediv_mul_le _ (by omega)
  have e4 : -(1000 * b) / c * c ≤ -(1000 * b) := Int.ediv_mul_le _ (by omega)
  have e5 : (1000 * b / c + -(1000 * b) / c) * c ≤ 0 * c := by rw [Int.add_mul]; omega
  have e6 := Int.le_of_mul_le_mul_right e5 h3
  omega

def inflR (p : Pl) (n : Nat) (a k : Int) (g : Nat) : Rg := ⟨- chg p (lowB p (unitV g a) (cnt p (unitV g a) n)) k, - chg p (highB p (unitV g a) (cnt p (unitV g a) n)) k⟩
theorem inflR_in {p : Pl} (hp : PlOK p) (n : Nat) (a : Int) {k : Int} (hk : k ≠ 0) (g : Nat) : (inflR p n a k g).lo ≤ (inflR p n a k g).hi ∧ -100000000000 ≤ (inflR p n a k g).lo ∧ (inflR p n a k g).hi ≤ 100000000000 := by
  have hv := unitV_vok g a
  have A := low_ok hp (unitV g a) (cnt p (unitV g a) n)
  have B := high_ok hp (unitV g a) (cnt p (unitV g a) n)
  have h1 := chg_bd hp (A.at hv) k
  have h2 := chg_bd hp (B.at hv) k
  have h3 := chg_order hp A.elec B.elec (fun i hi => compare hp.w.2 A.sub B.sup hp.some (fun j hj hE => by rw [A.elec j hj hE, B.elec j hj hE]; exact Int.le_refl _) i hi) hk
  unfold inflR
  dsimp only
  omega
def ampR (p : Pl) (n : Nat) (k g a : Int) (m : Nat) : Rg × Int :=
  if chkA p [k, g, a] = 0 then (if (inflR p n a k m).lo < 1 then (⟨0, 0⟩, 10) else (⟨rdn (1000 * (inflR p n g k m).lo) (inflR p n a k m).hi, rup (1000 * (inflR p n g k m).hi) (inflR p n a k m).lo⟩, 0)) else (⟨0, 0⟩, chkA p [k, g, a])

set_option maxHeartbeats 4000000 in
theorem Amp_ok {p : Pl} (hp : PlOK p) {m : Nat} (hm : (m : Int) = gmax p.cs) {n : Nat} (hn : n ≤ 200) (k g a : Int) :
    Ans Try.prog n_field_Amplification [p.v, .int .i64 n, .int .i64 k, .int .i64 g, .int .i64 a] [] (.tup [(ampR p n k g a m).1.v, .int .i64 (ampR p n k g a m).2]) [] := by
  have h1 := checkOf_gen hp hn (l := [k, g, a]) (by simp)
  unfold ampR
  refine spec_run e_field_Amplification fun G => ?_
  simp only [go_sem, Pl.v, Pl.a, Pl.c4, vw]
  refine cF h1 6 ⟨.inl (plv_frz 3 _ p), .inl rfl, .inl (iv_frz_sl (d := 4) (j := 2) (g := false) (l := [k, g, a]) rfl rfl), trivial⟩ ?_
  by_cases hb : chkA p [k, g, a] = 0
  · have hal : ∀ x ∈ [k, g, a], x ≠ 0 ∧ x ∈ p.cs := by
      by_cases h : ∀ x ∈ [k, g, a], x ≠ 0 ∧ x ∈ p.cs
      · exact h
      · unfold chkA at hb; rw [if_neg h] at hb; omega
    have in1 := fun x (hx : x ∈ [k, g, a]) => show 1 ≤ x ∧ x ≤ m from by
      have h := hal x hx
      have h2 := hp.cell x h.2
      have h3 := hp.max.2.2 x h.2
      omega
    have i1 := influence_ok hp hm hn (a := a) (k := k) (in1 a (by simp))
    have i2 := influence_ok hp hm hn (a := g) (k := k) (in1 g (by simp))
    have b1 := inflR_in hp n a (k := k) (hal k (by simp)).1 m
    have b2 := inflR_in hp n g (k := k) (hal k (by simp)).1 m
    rw [hb, if_pos rfl]
    have i1' : Ans Try.prog n_field_influence [p.v, .int .i64 n, .int .i64 a, .int .i64 k] [] (inflR p n a k m).v [] := i1
    have i2' : Ans Try.prog n_field_influence [p.v, .int .i64 n, .int .i64 g, .int .i64 k] [] (inflR p n g k m).v [] := i2
    clear i1 i2 hal in1
    generalize inflR p n a k m = pl at *
    generalize inflR p n g k m = gr at *
    obtain ⟨pl0, pl1⟩ := pl
    obtain ⟨gr0, gr1⟩ := gr
    dsimp only at b1 b2 ⊢
    simp only [go_sem, Pl.v, Pl.a, Pl.c4, vw]
    refine cF i1' 6 ⟨.inl (plv_frz 3 _ p), .inl rfl, .inl rfl, .inl rfl, trivial⟩ ?_ (hr := by simp only [go_sem, Rg.v]) (hnv := by simp only [go_sem, Rg.v])
    by_cases hl : pl0 < 1
    · rw [if_pos hl]
      simp only [go_sem, Rg.v, hl, Pl.v, Pl.a, Pl.c4, vw]
    · rw [if_neg hl]
      have w1 : IntKind.i64.wrap (1000 * gr0) = 1000 * gr0 := w64 (by omega)
      have w2 : IntKind.i64.wrap (1000 * gr1) = 1000 * gr1 := w64 (by omega)
      simp only [go_sem, Rg.v, hl, Pl.v, Pl.a, Pl.c4, vw]
      refine cF i2' 6 ⟨.inl (plv_frz 3 _ p), .inl rfl, .inl rfl, .inl rfl, trivial⟩ ?_ (hr := by simp only [go_sem, Rg.v]) (hnv := by simp only [go_sem, Rg.v])
      simp only [go_sem, Rg.v, Pl.v, Pl.a, Pl.c4, vw, w1, w2]
      refine dP (roundDown2_ok (1000 * gr0) pl1 (by omega) (by omega)) ?_
      simp only [go_sem, Rg.v, Pl.v, Pl.a, Pl.c4, vw, w1, w2]
      refine cP (roundUp2_ok (1000 * gr1) pl0 (by omega) (by omega)) ?_
      simp only [go_sem, Rg.v]
  · rw [if_neg hb]
    have hb' : (chkA p [k, g, a] != 0) = true := by simp [hb]
    simp only [go_sem, Rg.v, hb']
end Go.Proofs

