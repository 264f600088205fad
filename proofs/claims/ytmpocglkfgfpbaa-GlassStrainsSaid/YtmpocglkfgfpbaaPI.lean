/- A part of the proof. -/
import Derived.Test.YtmpocglkfgfpbaaPH
set_option linter.unusedSimpArgs false
set_option linter.unusedVariables false
namespace Go.Proofs
open Go Go.Sx
attribute [local irreducible] Run

def dbA (p : Int × Int) : Int := if p.1 = 1 then -1 else p.2
theorem gV_db {hol : Nat → Bool} : ∀ k : Nat, (gV hol numS k = (1, 0) ∧ dbA (gV hol numS k) = -1) ∨ (1 ≤ (gV hol numS k).2 ∧ gV hol numS k = (3, (gV hol numS k).2) ∧ dbA (gV hol numS k) = (gV hol numS k).2 ∧ (gV hol numS k).2 ≤ k)
  | 0 => .inl ⟨rfl, rfl⟩
  | k + 1 => by
    rw [gV]
    rcases gV_db (hol := hol) k with ⟨h1, h2⟩ | ⟨h1, h2, h3, h4⟩
    · by_cases c : hol k = false
      · rw [if_pos ⟨by rw [h1], c⟩]
        refine .inr ⟨?_, rfl, rfl, ?_⟩ <;> · show _ ≤ _; unfold numS; dsimp only; omega
      · rw [if_neg fun h => c h.2]; exact .inl ⟨h1, h2⟩
    · have e : (gV hol numS k).1 = 3 := by rw [h2]
      rw [if_neg fun h => by rw [e] at h; exact absurd h.1 (by decide)]
      exact .inr ⟨h1, h2, h3, by omega⟩
set_option maxHeartbeats 8000000 in
set_option maxRecDepth 10000 in
theorem rjudge_run {brk : Int} {zs : List Zn} (h : StOK brk zs) {th : Int} (hth : 1 ≤ th ∧ th ≤ 1000) {f left : Int} {ls : List Lg} (ho : OvOK f ls) (hleft : 0 ≤ left) :
    Ans Try.prog n_ref05_judge [stV brk zs, .int .i64 th, ovV f ls, .int .i64 left] [] (.tup [.int .i64 (judR brk zs th f left ls).1, .int .i64 (judR brk zs th f left ls).2]) [] := by
  have k2 := rstrains_run (brk := brk) h.zs hth ho
  have htot := allT_total ho.all 0 f
  have hbrk := h.brk
  unfold judR
  obtain ⟨BK, hBK⟩ : ∃ B, brkS brk zs th f left ls = B := ⟨_, rfl⟩
  obtain ⟨HO, hHO⟩ : ∃ B, holS brk zs th f left ls = B := ⟨_, rfl⟩
  have eb : ∀ i, BK i = decide ((stAt zs th (allT 0 f ls) (i + 1)).1 > limA brk left (allT 0 f ls).length i) := fun i => by rw [← hBK]; rfl
  have eh : ∀ i, HO i = decide ((stAt zs th (allT 0 f ls) (i + 1)).2 ≤ limA brk left (allT 0 f ls).length i) := fun i => by rw [← hHO]; rfl
  rw [hBK, hHO]
  clear hBK hHO
  obtain ⟨ts, hts⟩ : ∃ ts, allT 0 f ls = ts := ⟨_, rfl⟩
  rw [hts] at k2 eb eh htot
  have hsg := fun i (hi : i ≤ ts.length) => sts_get (zs := zs) (th := th) (ts := ts) hi
  have hsl := sts_len zs th ts ts.length
  obtain ⟨S, hS⟩ : ∃ S, sts zs th ts ts.length = S := ⟨_, rfl⟩
  rw [hS] at k2 hsg hsl
  have hsr : ∀ i, i ≤ ts.length → (S.map rv)[i]? = some (AVal.agg [.int .i64 (stAt zs th ts i).1, .int .i64 (stAt zs th ts i).2]) := fun i hi => by rw [List.getElem?_map, hsg i hi]; rfl
  have hst0 : stAt zs th ts 0 = (0, 0) := rfl
  rw [hts]
  obtain ⟨n, hn⟩ : ∃ n : Nat, ts.length = n := ⟨_, rfl⟩
  rw [hn] at k2 hsl hsr htot eb eh
  rw [hn]
  have hlen := ho.len
  have hnb : n ≤ 40000 := by omega
  have hgen : ∀ k, k ≤ n → (∀ i, i < k → BK i = false) → gFrom BK HO numS n 0 = gFrom BK HO numS (n - k) k := fun k hk h => by
    have := gFrom_at (brk := BK) (hol := HO) (num := numS) k (n - k) 0 fun i _ hi => h i (by omega)
    rw [Nat.zero_add] at this
    rw [← this]; congr 1; omega
  obtain ⟨RES, hRES⟩ : ∃ R, gFrom BK HO numS n 0 = R := ⟨_, rfl⟩
  rw [hRES] at hgen ⊢
  clear hRES
  refine spec_run e_ref05_judge fun G => ?_
  simp only [stV, ovV] at k2
  simp only [go_sem, stV, ovV]
  refine cN1 k2 ?_ (hx := by rw [row_bel_cells]; simp only [rvs_bel])
  simp only [go_sem, ren, rens]
  have wm1 : IntKind.i64.wrap (-1) = -1 := by decide
  refine loop_ind k_ref05_judge_r13.eq_1 (fun s : Nat × Heap => s.1 ≤ n + 1 ∧ ∀ j, j + 1 < s.1 → BK j = false) (fun s => n + 1 - s.1)
    (fun s => (tsets 57 [(3, .int .i64 left), (4, .ptr 0 0 0 1), (6, .ptr 1 0 0 1), (8, .int .i64 0), (9, .int .i64 0), (10, .sl 2 0 (n + 1)), (11, .int .i64 (dbA (gV HO numS (s.1 - 1)))), (12, .int .i64 s.1)],
      some (.cells false 2 [.agg [.int .i64 brk, .view (zs.map Zn.v)]]) :: some (.cells false 2 [.agg [.int .i64 f, .view (ls.map Lg.v)]]) :: some (.cells (g2 (n + 1)) 2 (S.map rv)) :: s.2)) (0, []) ⟨Nat.zero_le _, fun j hj => absurd hj (by dsimp only; omega)⟩ (by simp [go_sem, dbA, gV]) rfl ?_
  rintro ⟨i, X⟩ ⟨hi, hb⟩ ih
  dsimp only at hi hb ih ⊢
  by_cases h1 : i ≤ n
  · have h2 : (i : Int) < ((n + 1 : Nat) : Int) := by omega
    have h2' : i < n + 1 := by omega
    have n0 : ¬ (i : Int) < 0 := by omega
    have h3 : IntKind.i64.wrap ((i : Int) + 1) = ((i + 1 : Nat) : Int) := by rw [w64 (by omega)]; rfl
    have h4 : IntKind.i64.wrap (((n + 1 : Nat) : Int) - 1) = n := by rw [w64 (by omega)]; omega
    have hs := hsr i h1
    by_cases i0 : i = 0
    · subst i0
      rw [hst0] at hs
      dsimp only at hs
      have ihn := fun Y => ih (1, Y) (by dsimp only; omega) ⟨by dsimp only; omega, fun j hj => absurd hj (by dsimp only; omega)⟩
      clear ih
      have hdb : dbA (gV HO numS (0 - 1)) = -1 := rfl
      have hdb1 : dbA (gV HO numS (1 - 1)) = -1 := rfl
      rw [hdb]
      dsimp only at ihn
      rw [hdb1] at ihn
      have q1 : ¬ (0 : Int) > min brk left := by omega
      have q2 : ¬ (0 : Int) > brk := by omega
      have z0 : ¬ (0 : Int) < 0 := by omega
      have h2z : (0 : Int) < ((n + 1 : Nat) : Int) := by omega
      have w1 : IntKind.i64.wrap (0 + 1) = 1 := by decide
      have w1' : IntKind.i64.wrap 1 = 1 := by decide
      have h2y : 0 < n + 1 := by omega
      have y1 : (if left < brk then left else brk) = min brk left := by split <;> omega
      by_cases c : n = 0
      · have e1 : ((0 : Int) == (n : Int)) = true := by rw [c]; rfl
        simp only [go_sem, h2z, h2y, z0, h4, e1, hs, hsl, List.length_map, y1, q1, w1, w1']
        refine ihn _ _ ?_
        simp [go_sem]
      · have e1 : ((0 : Int) == (n : Int)) = false := beq_eq_false_iff_ne.2 (by omega)
        simp only [go_sem, h2z, h2y, z0, h4, e1, hs, hsl, List.length_map, q2, w1, w1']
        refine ihn _ _ ?_
        simp [go_sem]
    · obtain ⟨k, rfl⟩ : ∃ k, i = k + 1 := ⟨i - 1, by omega⟩
      have hb' : ∀ j, j < k → BK j = false := fun j hj => hb j (by omega)
      have hg := hgen k (by omega) hb'
      rw [show n - k = (n - k - 1) + 1 by omega, gFrom] at hg
      have ihn := fun (h0 : BK k = false) Y => ih (k + 1 + 1, Y) (by dsimp only; omega) ⟨by dsimp only; omega, fun j hj => by
        dsimp only at hj
        by_cases e : j = k
        · rw [e]; exact h0
        · exact hb' j (by omega)⟩
      clear ih
      dsimp only at ihn
      rw [Nat.add_sub_cancel]
      rw [show k + 1 + 1 - 1 = k + 1 by omega, gV] at ihn
      have ebk := eb k
      have ehk := eh k
      clear eb eh hb hgen
      have hd := gV_db (hol := HO) k
      obtain ⟨p, hp⟩ : ∃ p, stAt zs th ts (k + 1) = p := ⟨_, rfl⟩
      rw [hp] at hs ebk ehk
      obtain ⟨g, hgv⟩ : ∃ g, gV HO numS k = g := ⟨_, rfl⟩
      rw [hgv] at hd ihn
      rw [hgv]
      obtain ⟨lim, hlim⟩ : ∃ l, limA brk left n k = l := ⟨_, rfl⟩
      rw [hlim] at ebk ehk
      unfold limA at hlim
      have y1 : (if left < brk then left else brk) = min brk left := by split <;> omega
      have fin : ∀ (P : Prop), P → P := fun P h => h
      clear fin
      generalize BK k = bk at *
      generalize HO k = hk at *
      by_cases c : k + 1 = n
      · have e1 : (((k + 1 : Nat) : Int) == (n : Int)) = true := by rw [c]; simp
        rw [if_pos c] at hlim
        subst hlim
        by_cases c1 : p.1 > min brk left
        · have : bk = true := by rw [ebk]; simpa using c1
          rw [if_pos this] at hg
          rw [hg]
          simp only [go_sem, h2, n0, h4, e1, h2', hs, hsl, List.length_map, y1, c1]
          rfl
        · have hbf : bk = false := by rw [ebk]; simpa using c1
          have ihn := ihn hbf
          rcases hd with ⟨d1, d2⟩ | ⟨d1, d2, d3, d4⟩
          · have hg1 : g.1 = 1 := by rw [d1]
            by_cases c3 : p.2 > min brk left
            · have hf : hk = false := by rw [ehk]; simpa using c3
              rw [if_pos ⟨hg1, hf⟩] at ihn
              have e9 : dbA (3, numS k) = ((k + 1 : Nat) : Int) := rfl
              rw [e9] at ihn
              simp only [go_sem, h2, n0, h4, e1, h2', hs, hsl, List.length_map, y1, c1, c3, d2, h3]
              exact ihn _ _ (by simp [go_sem])
            · have hf : ¬ hk = false := by rw [ehk]; simpa using c3
              rw [if_neg fun h => hf h.2, d2] at ihn
              simp only [go_sem, h2, n0, h4, e1, h2', hs, hsl, List.length_map, y1, c1, c3, d2, h3]
              exact ihn _ _ (by simp [go_sem])
          · have hg1 : g.1 = 3 := by rw [d2]
            have hdn : ¬ dbA g < 0 := by omega
            rw [if_neg fun h => by rw [hg1] at h; exact absurd h.1 (by decide)] at ihn
            simp only [go_sem, h2, n0, h4, e1, h2', hs, hsl, List.length_map, y1, c1, hdn, h3]
            exact ihn _ _ (by simp [go_sem])
      · have e1 : (((k + 1 : Nat) : Int) == (n : Int)) = false := beq_eq_false_iff_ne.2 (by omega)
        rw [if_neg c] at hlim
        subst hlim
        by_cases c1 : p.1 > brk
        · have : bk = true := by rw [ebk]; simpa using c1
          rw [if_pos this] at hg
          rw [hg]
          simp only [go_sem, h2, n0, h4, e1, h2', hs, hsl, List.length_map, c1]
          rfl
        · have hbf : bk = false := by rw [ebk]; simpa using c1
          have ihn := ihn hbf
          rcases hd with ⟨d1, d2⟩ | ⟨d1, d2, d3, d4⟩
          · have hg1 : g.1 = 1 := by rw [d1]
            by_cases c3 : p.2 > brk
            · have hf : hk = false := by rw [ehk]; simpa using c3
              rw [if_pos ⟨hg1, hf⟩] at ihn
              have e9 : dbA (3, numS k) = ((k + 1 : Nat) : Int) := rfl
              rw [e9] at ihn
              simp only [go_sem, h2, n0, h4, e1, h2', hs, hsl, List.length_map, c1, c3, d2, h3]
              exact ihn _ _ (by simp [go_sem])
            · have hf : ¬ hk = false := by rw [ehk]; simpa using c3
              rw [if_neg fun h => hf h.2, d2] at ihn
              simp only [go_sem, h2, n0, h4, e1, h2', hs, hsl, List.length_map, c1, c3, d2, h3]
              exact ihn _ _ (by simp [go_sem])
          · have hg1 : g.1 = 3 := by rw [d2]
            have hdn : ¬ dbA g < 0 := by omega
            rw [if_neg fun h => by rw [hg1] at h; exact absurd h.1 (by decide)] at ihn
            simp only [go_sem, h2, n0, h4, e1, h2', hs, hsl, List.length_map, c1, hdn, h3]
            exact ihn _ _ (by simp [go_sem])
  · have h2 : ¬ (i : Int) < ((n + 1 : Nat) : Int) := by omega
    obtain rfl : i = n + 1 := by omega
    clear ih
    have hg := hgen n (Nat.le_refl _) fun j hj => hb j (by omega)
    rw [Nat.sub_self, gFrom] at hg
    rw [hg, Nat.add_sub_cancel]
    have hd := gV_db (hol := HO) n
    generalize gV HO numS n = g at *
    rcases hd with ⟨d1, d2⟩ | ⟨d1, d2, d3, d4⟩
    · have q : ¬ dbA g ≥ 0 := by omega
      rw [d1] at *
      simp only [go_sem, h2, q, hsl, List.length_map]
    · have q : dbA g ≥ 0 := by omega
      have e3 : g.1 = 3 := by rw [d2]
      rw [e3, ← d3]
      simp only [go_sem, h2, q, hsl, List.length_map]
section
variable (brk : Int) (zs : List Zn) (hl : zs.length ≤ 1000) (th f : Int) (ls : List Lg)
include hl
theorem Strain_no (h : whE brk zs th f ls ≠ 0) : Ans Try.prog n_glass_Strain [stV brk zs, .int .i64 th, ovV f ls] [] (.tup [.nilsl, .int .i64 (whE brk zs th f ls)]) [] := by
  have k1 := checkHeated_raw brk zs hl th f ls
  have e : (whE brk zs th f ls != 0) = true := by simpa using h
  generalize whE brk zs th f ls = E at *
  refine spec_run e_glass_Strain fun G => ?_
  simp only [wlV, ovV] at k1
  simp only [go_sem, stV, ovV]
  refine cP k1 ?_
  simp only [go_sem, e]
theorem rStrain_no (h : whE brk zs th f ls ≠ 0) : Ans Try.prog n_ref05_Strain [stV brk zs, .int .i64 th, ovV f ls] [] (.tup [.nilsl, .int .i64 (whE brk zs th f ls)]) [] := by
  have k1 := rcheckWall_raw brk zs hl th f ls
  have e : (whE brk zs th f ls != 0) = true := by simpa using h
  generalize whE brk zs th f ls = E at *
  refine spec_run e_ref05_Strain fun G => ?_
  simp only [stV, ovV] at k1
  simp only [go_sem, stV, ovV]
  refine cP k1 ?_
  simp only [go_sem, e]
variable (left : Int)
def judT (brk : Int) (zs : List Zn) (th f : Int) (ls : List Lg) (left : Int) : Int × Int × Int :=
  if whE brk zs th f ls = 0 then (if 0 ≤ left ∧ left ≤ capS then ((judR brk zs th f left ls).1, (judR brk zs th f left ls).2, 0) else (0, 0, 2)) else (0, 0, whE brk zs th f ls)
def i3 (p : Int × Int × Int) : AVal := .tup [.int .i64 p.1, .int .i64 p.2.1, .int .i64 p.2.2]
theorem Judge_raw : Ans Try.prog n_glass_Judge [stV brk zs, .int .i64 th, ovV f ls, .int .i64 left] [] (i3 (judT brk zs th f ls left)) [] := by
  unfold judT
  by_cases h : whE brk zs th f ls = 0
  · rw [if_pos h]
    obtain ⟨o1, o2, o3⟩ := whE_ok h
    by_cases c : 0 ≤ left ∧ left ≤ capS
    · rw [if_pos c]; exact Judge_run o1 o2 o3 c
    · rw [if_neg c]
      have k1 := checkHeated_raw brk zs hl th f ls
      rw [h] at k1
      have k4 : Ans Try.prog n_glass_isStrain [.int .i64 left] [] (.bool false) [] := by
        refine spec_run e_glass_isStrain fun G => ?_
        simp only [go_sem]
        refine cP (gwithin_no (n := left) (a := 0) (b := 1099511627776) c) ?_
        simp only [go_sem]
      refine spec_run e_glass_Judge fun G => ?_
      simp only [wlV, ovV] at k1
      simp only [go_sem, stV, ovV, i3]
      refine cP k1 ?_
      simp only [go_sem]
      refine cP k4 ?_
      simp only [go_sem]
  · rw [if_neg h]
    have k1 := checkHeated_raw brk zs hl th f ls
    have e : (whE brk zs th f ls != 0) = true := by simpa using h
    generalize whE brk zs th f ls = E at *
    refine spec_run e_glass_Judge fun G => ?_
    simp only [wlV, ovV] at k1
    simp only [go_sem, stV, ovV, i3]
    refine cP k1 ?_
    simp only [go_sem, e]
theorem rJudge_raw : Ans Try.prog n_ref05_Judge [stV brk zs, .int .i64 th, ovV f ls, .int .i64 left] [] (i3 (judT brk zs th f ls left)) [] := by
  have k1 := rcheckWall_raw brk zs hl th f ls
  unfold judT
  by_cases h : whE brk zs th f ls = 0
  · rw [if_pos h]
    obtain ⟨o1, o2, o3⟩ := whE_ok h
    rw [h] at k1
    by_cases c : 0 ≤ left ∧ left ≤ capS
    · rw [if_pos c]
      have k2 := rjudge_run o1 o2 (left := left) o3 c.1
      generalize judR brk zs th f left ls = RES at *
      refine spec_run e_ref05_Judge fun G => ?_
      simp only [stV, ovV] at k1 k2
      simp only [go_sem, stV, ovV, i3]
      refine cP k1 ?_
      simp only [go_sem]
      refine cP (rbeyond_no (n := left) (a := 0) (b := 1099511627776) c) ?_
      simp only [go_sem]
      refine cP k2 ?_
      simp only [go_sem]
    · rw [if_neg c]
      refine spec_run e_ref05_Judge fun G => ?_
      simp only [stV, ovV] at k1
      simp only [go_sem, stV, ovV, i3]
      refine cP k1 ?_
      simp only [go_sem]
      refine cP (rbeyond_yes (n := left) (a := 0) (b := 1099511627776) c) ?_
      simp only [go_sem]
  · rw [if_neg h]
    have e : (whE brk zs th f ls != 0) = true := by simpa using h
    generalize whE brk zs th f ls = E at *
    refine spec_run e_ref05_Judge fun G => ?_
    simp only [stV, ovV] at k1
    simp only [go_sem, stV, ovV, i3]
    refine cP k1 ?_
    simp only [go_sem, e]
end
end Go.Proofs

namespace Go.Proofs
open Go Go.Sx
attribute [local irreducible] Run

def itr (f : Int → Int) : Nat → Int → Int
  | 0, x => x
  | n + 1, x => f (itr f n x)
theorem itr_in (f : Int → Int) (x : Int) : ∀ n, itr f n (f x) = itr f (n + 1) x
  | 0 => rfl
  | n + 1 => by rw [itr, itr_in f x n]; rfl
def skF (f : Int → Int) (lim : Int) : Nat → Int → Nat
  | 0, _ => 0
  | m + 1, x => if x > lim then skF f lim m (f x) + 1 else 0
theorem skF_step (f : Int → Int) (lim : Int) : ∀ m i x, (∀ k, k < i → itr f k x > lim) → i ≤ m → skF f lim m x = i + skF f lim (m - i) (itr f i x)
  | m, 0, x, _, _ => by simp [itr]
  | 0, i + 1, x, _, h => absurd h (Nat.not_succ_le_zero _)
  | m + 1, i + 1, x, h, hm => by
    have h0 : x > lim := h 0 (by omega)
    rw [skF, if_pos h0, skF_step f lim m i (f x) (fun k hk => by rw [itr_in]; exact h (k + 1) (by omega)) (by omega), itr_in]
    rw [show m + 1 - (i + 1) = m - i by omega]; omega
set_option maxHeartbeats 1000000 in
set_option maxRecDepth 20000 in
theorem soaked_run {x lim : Int} (hx : 0 ≤ x ∧ x ≤ capS) {z : Zn} (g : Nat) (f : Int → Int) (hf : ∀ y, 0 ≤ y → y ≤ capS → 0 ≤ f y ∧ f y ≤ y) (k : ∀ y, 0 ≤ y ∧ y ≤ capS → Ans Try.prog g [.int .i64 y, z.v] [] (.int .i64 (f y)) []) :
    Ans Try.prog n_glass_soaked [.int .i64 x, .int .i64 lim, z.v, .fn (.func g) [] []] [] (.int .i64 (skF f lim 5001 x)) [] := by
  have it : ∀ i, 0 ≤ itr f i x ∧ itr f i x ≤ capS := fun i => by
    induction i with
    | zero => exact hx
    | succ i ih => have := hf _ ih.1 ih.2; rw [itr]; omega
  refine spec_run e_glass_soaked fun G => ?_
  simp only [go_sem, Zn.v, Zn.cs] at k ⊢
  refine loop_ind k_glass_soaked_r5.eq_1 (fun i : Nat => i ≤ 5001 ∧ ∀ j, j < i → itr f j x > lim) (fun i => 5001 - i)
    (fun i => (tsets 24 [(0, .int .i64 (itr f i x)), (1, .int .i64 lim), (3, .fn (.func g) [] []), (6, .ptr 0 0 0 1), (9, .int .i64 i)], [some (.cells false 5 [.agg [.int .i64 z.f, .int .i64 z.glo, .int .i64 z.ghi, .int .i64 z.rlo, .int .i64 z.rhi]])])) 0 ⟨Nat.zero_le _, fun j hj => absurd hj (Nat.not_lt_zero _)⟩ (by simp [go_sem, itr]) rfl ?_
  intro i ⟨hi, hj⟩ ih
  dsimp only at ih ⊢
  by_cases c1 : itr f i x > lim
  · by_cases c2 : i ≤ 5000
    · have c3 : (i : Int) ≤ 5000 := by omega
      have w5 : IntKind.i64.wrap ((i : Int) + 1) = ((i + 1 : Nat) : Int) := by rw [w64 (by omega)]; rfl
      have ihk := ih (i + 1) (by omega) ⟨by omega, fun j hj2 => by
        rcases Nat.lt_or_ge j i with h | h
        · exact hj j h
        · obtain rfl : j = i := by omega
          exact c1⟩
      clear ih
      have kk := k (itr f i x) (it i)
      simp only [go_sem, c1, c3]
      refine cP kk ?_
      simp only [go_sem, w5]
      exact ihk _ (by simp [go_sem, itr])
    · obtain rfl : i = 5001 := by omega
      clear ih
      have e : skF f lim 5001 x = 5001 := by
        have h := skF_step f lim 5001 5001 x hj (Nat.le_refl _)
        rw [Nat.sub_self] at h
        rw [h]
        rfl
      rw [e]
      simp only [go_sem, c1]
      done
  · clear ih
    have e := skF_step f lim 5001 i x hj hi
    have e2 : skF f lim (5001 - i) (itr f i x) = 0 := by
      match 5001 - i with
      | 0 => rfl
      | m + 1 => rw [skF, if_neg c1]
    rw [e, e2]
    simp only [go_sem, c1]
    done
def soakL (zs : List Zn) (t lo lim : Int) : Nat := skF (fun x => leastL x (zAt zs t)) lim 5001 lo
def soakH (zs : List Zn) (t hi lim : Int) : Nat := skF (fun x => mostL x (zAt zs t)) lim 5001 hi
set_option maxHeartbeats 1000000 in
set_option maxRecDepth 20000 in
theorem Soak_run {brk : Int} {zs : List Zn} (h : StOK brk zs) {lo hi t lim : Int} (hr : 0 ≤ lo ∧ lo ≤ hi ∧ hi ≤ capS) (ht : 0 ≤ t ∧ t ≤ 2000) (hl : 0 ≤ lim ∧ lim ≤ capS) :
    Ans Try.prog n_glass_Soak [stV brk zs, r2 lo hi, .int .i64 t, .int .i64 lim] [] (.tup [r2 (soakL zs t lo lim) (soakH zs t hi lim), .int .i64 0]) [] := by
  have k1 := Check_run h.brk h.zs
  have k2 := checkRange_yes (m := 1099511627776) hr
  have k3 := isHeat_yes ht
  have k4 := isStrainT hl
  have k5 := zoneOf_run brk h.zs ht
  have hz : ZnOK (zAt zs t) := h.zs.all _ (zAt_mem t fun e => by have := h.zs.len; rw [e] at this; simp at this)
  unfold soakL soakH
  generalize zAt zs t = z at *
  have k6 := soaked_run (x := lo) (lim := lim) (by omega) n_glass_leastLeft (fun x => leastL x z) (fun y h0 h1 => leastL_in h0 hz) (fun y hy => leastLeft_run hy hz)
  have k7 := soaked_run (x := hi) (lim := lim) (by omega) n_glass_mostLeft (fun x => mostL x z) (fun y h0 h1 => mostL_in h0 hz) (fun y hy => mostLeft_run hy hz)
  generalize skF (fun x => leastL x z) lim 5001 lo = a at *
  generalize skF (fun x => mostL x z) lim 5001 hi = b at *
  refine spec_run e_glass_Soak fun G => ?_
  simp only [stV, r2, Zn.v, Zn.cs] at k1 k2 k5 k6 k7 ⊢
  simp only [go_sem]
  refine cP k1 ?_
  simp only [go_sem, bne]
  refine cP k2 ?_
  simp only [go_sem, bne]
  refine cP k3 ?_
  simp only [go_sem]
  refine cP k4 ?_
  simp only [go_sem]
  refine cP k5 ?_
  simp only [go_sem]
  refine dP k6 ?_
  simp only [go_sem]
  refine cP k7 ?_
  simp only [go_sem]

theorem rtick0 {z : Zn} (hz : ZnOK z) {a b : Int} (ha : 0 ≤ a ∧ a ≤ capS) (hb : 0 ≤ b ∧ b ≤ capS) :
    Ans Try.prog n_ref05_tick [z.v, r2 a b, .int .i64 1, .int .i64 0] [] (r2 (leastL a z) (mostL b z)) [] := by
  have k := rtick_run hz ha hb (th := 1) (d := 0) (by decide) (by decide)
  have l1 := leastL_in ha.1 hz
  have l2 := mostL_in hb.1 hz
  rw [show min (leastL a z + 0 * 1 * z.glo / 100) capS = leastL a z by simp only [Int.zero_mul, Int.zero_ediv, Int.add_zero]; omega, show min (mostL b z + (0 * 1 * z.ghi + 99) / 100) capS = mostL b z by simp only [Int.zero_mul, Int.zero_add]; omega] at k
  exact k
theorem itr_cap {f : Int → Int} (hf : ∀ y, 0 ≤ y → y ≤ capS → 0 ≤ f y ∧ f y ≤ y) {x : Int} (hx : 0 ≤ x ∧ x ≤ capS) : ∀ i, 0 ≤ itr f i x ∧ itr f i x ≤ capS
  | 0 => hx
  | i + 1 => by have h := itr_cap hf hx i; have := hf _ h.1 h.2; rw [itr]; omega
theorem itr_le {z : Zn} (hz : ZnOK z) {a b : Int} (ha : 0 ≤ a) (hab : a ≤ b) (hb : b ≤ capS) : ∀ i, itr (fun x => leastL x z) i a ≤ itr (fun x => mostL x z) i b
  | 0 => hab
  | i + 1 => by
    have h := itr_le hz ha hab hb i
    have h1 := itr_cap (f := fun x => leastL x z) (fun y h0 _ => leastL_in h0 hz) (x := a) (by omega) i
    rw [itr, itr]
    exact Int.le_trans (least_most2 hz h1.1) (mostL_mono2 hz ⟨by have := hz.r; omega, Int.le_refl _⟩ h1.1 h)
theorem skF_hit {f : Int → Int} {lim : Int} {m i : Nat} {x : Int} (h : ∀ k, k < i → itr f k x > lim) (hi : i ≤ m) (h0 : itr f i x ≤ lim) : skF f lim m x = i := by
  rw [skF_step f lim m i x h hi]
  match m - i with
  | 0 => rfl
  | n + 1 => rw [skF, if_neg (by omega)]; rfl
theorem skF_full {f : Int → Int} {lim : Int} {m : Nat} {x : Int} (h : ∀ k, k < m → itr f k x > lim) : skF f lim m x = m := by
  rw [skF_step f lim m m x h (Nat.le_refl _), Nat.sub_self]; rfl
def fnd (f : Int → Int) (lim x : Int) (i : Nat) (l : Int) : Prop := (l = 5001 ∧ ∀ k, k < i → itr f k x > lim) ∨ (l ≤ 5000 ∧ l = skF f lim 5001 x)
theorem fnd_end {f : Int → Int} {lim x : Int} {l : Int} (h : fnd f lim x 5001 l) : l = skF f lim 5001 x := by
  rcases h with ⟨h, h1⟩ | ⟨_, h⟩
  · rw [h, skF_full h1]; rfl
  · exact h
def soE (b : Int) (z : List Zn) (lo hi t lim : Int) : Int := if stE b z = 0 then (if rgE5 lo hi 1099511627776 = 0 then (if 0 ≤ t ∧ t ≤ 2000 then (if 0 ≤ lim ∧ lim ≤ capS then 0 else 2) else 2) else rgE5 lo hi 1099511627776) else stE b z
def soT (b : Int) (z : List Zn) (lo hi t lim : Int) : Int × Int × Int := if soE b z lo hi t lim = 0 then (soakL z t lo lim, soakH z t hi lim, 0) else (0, 0, soE b z lo hi t lim)
theorem soE_ok {b : Int} {z : List Zn} {lo hi t lim : Int} (h : soE b z lo hi t lim = 0) : StOK b z ∧ (0 ≤ lo ∧ lo ≤ hi ∧ hi ≤ capS) ∧ (0 ≤ t ∧ t ≤ 2000) ∧ (0 ≤ lim ∧ lim ≤ capS) := by
  unfold soE at h
  split at h
  · rename_i h1
    split at h
    · rename_i h2
      split at h
      · rename_i h3
        split at h
        · rename_i h4; exact ⟨stE_ok h1, rgE5_ok h2, h3, h4⟩
        · simp at h
      · simp at h
    · rename_i h2; exact absurd h h2
  · rename_i h1; exact absurd h h1
theorem isStrainF {n : Int} (h : ¬ (0 ≤ n ∧ n ≤ capS)) : Ans Try.prog n_glass_isStrain [.int .i64 n] [] (.bool false) [] := by
  refine spec_run e_glass_isStrain fun G => ?_
  simp only [go_sem]
  refine cP (gwithin_no (n := n) (a := 0) (b := 1099511627776) h) ?_
  simp only [go_sem]
set_option maxHeartbeats 4000000 in
set_option maxRecDepth 20000 in
theorem rSoak_run {brk : Int} {zs : List Zn} (h : StOK brk zs) {lo hi t lim : Int} (hr : 0 ≤ lo ∧ lo ≤ hi ∧ hi ≤ capS) (ht : 0 ≤ t ∧ t ≤ 2000) (hl : 0 ≤ lim ∧ lim ≤ capS) (hln : zs.length ≤ 1000) :
    Ans Try.prog n_ref05_Soak [stV brk zs, r2 lo hi, .int .i64 t, .int .i64 lim] [] (.tup [r2 (soakL zs t lo lim) (soakH zs t hi lim), .int .i64 0]) [] := by
  have k1 := rCheck_run h.brk h.zs
  have k2 := rcheckRange_raw lo hi 1099511627776
  rw [show rgE5 lo hi 1099511627776 = 0 by unfold capS at hr; unfold rgE5; rw [if_pos (by omega), if_pos (by omega), if_neg (by omega)]] at k2
  have k5 := rZoneOf_run brk h.zs ht
  have hz : ZnOK (zAt zs t) := h.zs.all _ (zAt_mem t fun e => by have := h.zs.len; rw [e] at this; simp at this)
  unfold soakL soakH
  generalize zAt zs t = z at *
  have ia := itr_cap (f := fun x => leastL x z) (fun y h0 _ => leastL_in h0 hz) (x := lo) (by omega)
  have ib := itr_cap (f := fun x => mostL x z) (fun y h0 _ => mostL_in h0 hz) (x := hi) (by omega)
  have iab := itr_le hz hr.1 hr.2.1 hr.2.2
  have sa : ∀ i, leastL (itr (fun x => leastL x z) i lo) z = itr (fun x => leastL x z) (i + 1) lo := fun i => rfl
  have sb : ∀ i, mostL (itr (fun x => mostL x z) i hi) z = itr (fun x => mostL x z) (i + 1) hi := fun i => rfl
  have a0 : itr (fun x => leastL x z) 0 lo = lo := rfl
  have b0 : itr (fun x => mostL x z) 0 hi = hi := rfl
  have k6 := fun i => rtick0 hz (ia i) (ib i)
  generalize (fun x => leastL x z) = fa at *
  generalize (fun x => mostL x z) = fb at *
  obtain ⟨A, hA⟩ : ∃ A, skF fa lim 5001 lo = A := ⟨_, rfl⟩
  obtain ⟨B, hB⟩ : ∃ A, skF fb lim 5001 hi = A := ⟨_, rfl⟩
  have hitA := fun i => skF_hit (f := fa) (lim := lim) (m := 5001) (i := i) (x := lo)
  have hitB := fun i => skF_hit (f := fb) (lim := lim) (m := 5001) (i := i) (x := hi)
  have endA := fun l => fnd_end (f := fa) (lim := lim) (x := lo) (l := l)
  have fullB := skF_full (f := fb) (lim := lim) (m := 5001) (x := hi)
  unfold fnd at endA
  rw [hA] at endA hitA
  rw [hB] at hitB fullB
  rw [hA, hB]
  refine spec_run e_ref05_Soak fun G => ?_
  simp only [stV, r2, Zn.v, Zn.cs] at k1 k2 k5 k6 ⊢
  simp only [go_sem]
  refine cP k1 ?_
  simp only [go_sem, bne]
  refine cP k2 ?_
  simp only [go_sem, bne]
  refine cP (rbeyond_no ht) ?_
  simp only [go_sem]
  refine cP (rbeyond_no (n := lim) (a := 0) (b := 1099511627776) hl) ?_
  simp only [go_sem]
  refine loop_ind k_ref05_Soak_r19.eq_1 (fun s : Nat × Int × Int × Heap => s.1 ≤ 5001 ∧ ((s.2.2.1 = 5001 ∧ (∀ k, k < s.1 → itr fb k hi > lim) ∧ ((s.2.1 = 5001 ∧ ∀ k, k < s.1 → itr fa k lo > lim) ∨ (s.2.1 ≤ 5000 ∧ s.2.1 = A))) ∨ (s.2.2.1 ≤ 5000 ∧ s.2.2.1 = B ∧ s.2.1 = A))) (fun s => 5001 - s.1)
    (fun s => (tsets 71 [(2, .int .i64 t), (3, .int .i64 lim), (4, .ptr 0 0 0 1), (5, .ptr 1 0 0 1), (8, .ptr 2 0 0 1), (9, .int .i64 0), (12, .int .i64 5001), (13, .ptr 3 0 0 1), (14, .int .i64 s.1)],
      some (.cells false 2 [.agg [.int .i64 brk, .view (zs.map Zn.v)]]) :: some (.cells false 2 [.agg [.int .i64 (itr fa s.1 lo), .int .i64 (itr fb s.1 hi)]]) :: some (.cells false 2 [.agg [.int .i64 0, .int .i64 0]]) :: some (.cells false 2 [.agg [.int .i64 s.2.1, .int .i64 s.2.2.1]]) :: s.2.2.2)) (0, 5001, 5001, []) ⟨by simp, .inl ⟨rfl, fun k hk => absurd hk (Nat.not_lt_zero _), .inl ⟨rfl, fun k hk => absurd hk (Nat.not_lt_zero _)⟩⟩⟩ (by simp [go_sem]) (by dsimp only; rw [a0, b0]) ?_
  rintro ⟨i, L, H, X⟩ ⟨hi', hinv⟩ ih
  dsimp only at hi' hinv ih ⊢
  have sai := sa i
  have sbi := sb i
  have kt := k6 i
  rw [sai, sbi] at kt
  have iabi := iab i
  rcases hinv with ⟨h1, h2, h3⟩ | ⟨h1, h2, h3⟩
  · subst h1
    by_cases c : i ≤ 5000
    · have c1 : (i : Int) ≤ 5000 := by omega
      have w : IntKind.i64.wrap ((i : Int) + 1) = ((i + 1 : Nat) : Int) := by rw [w64 (by omega)]; rfl
      have ihn := fun L' H' Y => ih (i + 1, L', H', Y) (by dsimp only; omega)
      clear ih
      dsimp only at ihn
      by_cases cb : itr fb i hi ≤ lim
      · have eB := hitB i h2 (by omega) cb
        have ca : itr fa i lo ≤ lim := by omega
        rcases h3 with ⟨h3, h4⟩ | ⟨h3, h4⟩
        · subst h3
          have eA := hitA i h4 (by omega) ca
          have ihn := fun Y => ihn i i Y ⟨by omega, .inr ⟨by omega, by omega, by omega⟩⟩
          simp only [go_sem, c1, ca, cb]
          refine dP k5 ?_
          simp only [go_sem]
          refine cP kt ?_
          simp only [go_sem, w]
          exact ihn _ _ (by simp [go_sem])
        · have eL : (L == 5001) = false := beq_eq_false_iff_ne.2 (by omega)
          have ihn := fun Y => ihn L i Y ⟨by omega, .inr ⟨by omega, by omega, by omega⟩⟩
          simp only [go_sem, c1, ca, cb, eL]
          refine dP k5 ?_
          simp only [go_sem]
          refine cP kt ?_
          simp only [go_sem, w]
          exact ihn _ _ (by simp [go_sem])
      · have hb' : ∀ k, k < i + 1 → itr fb k hi > lim := fun k hk => by
          by_cases e : k = i
          · rw [e]; omega
          · exact h2 k (by omega)
        rcases h3 with ⟨h3, h4⟩ | ⟨h3, h4⟩
        · subst h3
          by_cases ca : itr fa i lo ≤ lim
          · have eA := hitA i h4 (by omega) ca
            have ihn := fun Y => ihn i 5001 Y ⟨by omega, .inl ⟨rfl, hb', .inr ⟨by omega, by omega⟩⟩⟩
            simp only [go_sem, c1, ca, cb]
            refine dP k5 ?_
            simp only [go_sem]
            refine cP kt ?_
            simp only [go_sem, w]
            exact ihn _ _ (by simp [go_sem])
          · have ha' : ∀ k, k < i + 1 → itr fa k lo > lim := fun k hk => by
              by_cases e : k = i
              · rw [e]; omega
              · exact h4 k (by omega)
            have ihn := fun Y => ihn 5001 5001 Y ⟨by omega, .inl ⟨rfl, hb', .inl ⟨rfl, ha'⟩⟩⟩
            simp only [go_sem, c1, ca, cb]
            refine dP k5 ?_
            simp only [go_sem]
            refine cP kt ?_
            simp only [go_sem, w]
            exact ihn _ _ (by simp [go_sem])
        · have eL : (L == 5001) = false := beq_eq_false_iff_ne.2 (by omega)
          have ihn := fun Y => ihn L 5001 Y ⟨by omega, .inl ⟨rfl, hb', .inr ⟨by omega, by omega⟩⟩⟩
          by_cases ca : itr fa i lo ≤ lim
          · simp only [go_sem, c1, ca, cb, eL]
            refine dP k5 ?_
            simp only [go_sem]
            refine cP kt ?_
            simp only [go_sem, w]
            exact ihn _ _ (by simp [go_sem])
          · simp only [go_sem, c1, ca, cb, eL]
            refine dP k5 ?_
            simp only [go_sem]
            refine cP kt ?_
            simp only [go_sem, w]
            exact ihn _ _ (by simp [go_sem])
    · obtain rfl : i = 5001 := by omega
      clear ih
      have eL := endA L h3
      have eB := fullB h2
      rw [← eL, eB]
      have c1 : ¬ ((5001 : Nat) : Int) ≤ 5000 := by omega
      simp only [go_sem, c1]
      done
  · clear ih
    have eH : (H == 5001) = false := beq_eq_false_iff_ne.2 (by omega)
    subst h2 h3
    by_cases c1 : (i : Int) ≤ 5000
    · simp only [go_sem, c1, eH]
      done
    · simp only [go_sem, c1]
      done
end Go.Proofs

namespace Go.Proofs
open Go Go.Sx
attribute [local irreducible] Run

section
variable (brk : Int) (zs : List Zn) (hl : zs.length ≤ 1000) (lo hi t lim : Int)
include hl
theorem Soak_raw : Ans Try.prog n_glass_Soak [stV brk zs, r2 lo hi, .int .i64 t, .int .i64 lim] [] (t3 (soT brk zs lo hi t lim)) [] := by
  unfold soT
  by_cases h : soE brk zs lo hi t lim = 0
  · rw [if_pos h]
    obtain ⟨o1, o2, o3, o4⟩ := soE_ok h
    exact Soak_run o1 o2 o3 o4
  rw [if_neg h]
  have k1 := Check_raw5 brk zs hl
  have k2 := checkRange_raw lo hi 1099511627776
  unfold soE at h ⊢
  generalize stE brk zs = E1 at *
  generalize rgE5 lo hi 1099511627776 = E2 at *
  refine spec_run e_glass_Soak fun G => ?_
  simp only [stV, r2] at k1 k2
  simp only [go_sem, stV, t3, r2]
  refine cP k1 ?_
  by_cases h1 : E1 = 0
  · have e1 : (E1 != 0) = false := by rw [h1]; rfl
    rw [if_pos h1] at h
    rw [if_pos h1]
    simp only [go_sem, e1]
    refine cP k2 ?_
    by_cases h2 : E2 = 0
    · have e2 : (E2 != 0) = false := by rw [h2]; rfl
      rw [if_pos h2] at h
      rw [if_pos h2]
      simp only [go_sem, e2]
      by_cases h3 : 0 ≤ t ∧ t ≤ 2000
      · rw [if_pos h3] at h
        rw [if_pos h3]
        refine cP (isHeat_yes h3) ?_
        by_cases h4 : 0 ≤ lim ∧ lim ≤ capS
        · rw [if_pos h4] at h; exact absurd rfl h
        · rw [if_neg h4]
          simp only [go_sem]
          refine cP (isStrainF h4) ?_
          simp only [go_sem]
      · rw [if_neg h3]
        refine cP (isHeat_no h3) ?_
        simp only [go_sem]
    · have e2 : (E2 != 0) = true := by simpa using h2
      rw [if_neg h2]
      simp only [go_sem, e2]
  · have e1 : (E1 != 0) = true := by simpa using h1
    rw [if_neg h1]
    simp only [go_sem, e1]
theorem rSoak_raw : Ans Try.prog n_ref05_Soak [stV brk zs, r2 lo hi, .int .i64 t, .int .i64 lim] [] (t3 (soT brk zs lo hi t lim)) [] := by
  unfold soT
  by_cases h : soE brk zs lo hi t lim = 0
  · rw [if_pos h]
    obtain ⟨o1, o2, o3, o4⟩ := soE_ok h
    exact rSoak_run o1 o2 o3 o4 hl
  rw [if_neg h]
  have k1 := rCheck_raw5 brk zs hl
  have k2 := rcheckRange_raw lo hi 1099511627776
  unfold soE at h ⊢
  generalize stE brk zs = E1 at *
  generalize rgE5 lo hi 1099511627776 = E2 at *
  refine spec_run e_ref05_Soak fun G => ?_
  simp only [stV, r2] at k1 k2
  simp only [go_sem, stV, t3, r2]
  refine cP k1 ?_
  by_cases h1 : E1 = 0
  · have e1 : (E1 != 0) = false := by rw [h1]; rfl
    rw [if_pos h1] at h
    rw [if_pos h1]
    simp only [go_sem, e1]
    refine cP k2 ?_
    by_cases h2 : E2 = 0
    · have e2 : (E2 != 0) = false := by rw [h2]; rfl
      rw [if_pos h2] at h
      rw [if_pos h2]
      simp only [go_sem, e2]
      by_cases h3 : 0 ≤ t ∧ t ≤ 2000
      · rw [if_pos h3] at h
        rw [if_pos h3]
        refine cP (rbeyond_no h3) ?_
        by_cases h4 : 0 ≤ lim ∧ lim ≤ capS
        · rw [if_pos h4] at h; exact absurd rfl h
        · rw [if_neg h4]
          simp only [go_sem]
          refine cP (rbeyond_yes (n := lim) (a := 0) (b := 1099511627776) h4) ?_
          simp only [go_sem]
      · rw [if_neg h3]
        refine cP (rbeyond_yes h3) ?_
        simp only [go_sem]
    · have e2 : (E2 != 0) = true := by simpa using h2
      rw [if_neg h2]
      simp only [go_sem, e2]
  · have e1 : (E1 != 0) = true := by simpa using h1
    rw [if_neg h1]
    simp only [go_sem, e1]
end
theorem same_nil : Ans Try.prog n_kit_SameRanges [.nilsl, .nilsl] [] (.bool true) [] := by
  refine spec_run e_kit_SameRanges fun G => ?_
  simp only [go_sem]
  refine loop_body 400 k_kit_SameRanges_r8.eq_1 ?_
  simp only [go_sem]
theorem same_vnil : Ans Try.prog n_kit_SameRanges [.view [], .nilsl] [] (.bool true) [] := by
  refine spec_run e_kit_SameRanges fun G => ?_
  simp only [go_sem]
  refine loop_body 400 k_kit_SameRanges_r8.eq_1 ?_
  simp only [go_sem]
theorem same_run {l : List (Int × Int)} (hl : l.length ≤ 1000000) : Ans Try.prog n_kit_SameRanges [.view (l.map rv), .view (l.map rv)] [] (.bool true) [] := by
  refine spec_run e_kit_SameRanges fun G => ?_
  simp only [go_sem, List.length_map]
  refine loop_ind k_kit_SameRanges_r8.eq_1 (fun i : Nat => i ≤ l.length) (fun i => l.length - i)
    (fun i => (tsets 26 [(0, .view (l.map rv)), (1, .view (l.map rv)), (4, .bool false), (5, .int .i64 i)], [])) 0 (Nat.zero_le _) (by simp [go_sem]) rfl ?_
  intro i hi ih
  dsimp only at hi ih ⊢
  by_cases h1 : i < l.length
  · have h2 : (i : Int) < l.length := by omega
    have n0 : ¬ (i : Int) < 0 := by omega
    have h3 : IntKind.i64.wrap ((i : Int) + 1) = ((i + 1 : Nat) : Int) := by rw [w64 (by omega)]; rfl
    obtain ⟨z, hzi⟩ : ∃ z, l[i]? = some z := ⟨_, List.getElem?_eq_getElem h1⟩
    simp only [go_sem, List.length_map, h2, n0, hzi, rv, r2, h3]
    exact ih (i + 1) (by omega) h1 _ (by simp [go_sem])
  · have h2 : ¬ (i : Int) < l.length := by omega
    simp only [go_sem, List.length_map, h2]
theorem pick3g {i : Int} (h : 0 ≤ i ∧ i < 3) : ∃ hi : Int, 0 ≤ hi ∧ hi ≤ capS ∧ ([.int .i64 99, .int .i64 100000, .int .i64 1099511627776] : List AVal)[i.toNat]? = some (.int .i64 hi) := by
  obtain rfl | rfl | rfl : i = 0 ∨ i = 1 ∨ i = 2 := by omega
  · exact ⟨99, by decide, by decide, rfl⟩
  · exact ⟨100000, by decide, by decide, rfl⟩
  · exact ⟨1099511627776, by decide, by decide, rfl⟩
set_option maxHeartbeats 8000000 in
set_option maxRecDepth 20000 in
theorem soaks_run (b : Int) (z : List Zn) (hz : z.length ≤ 1000) (lo hi a2 a3 : Int) (ns : List Int) (hl : ns.length ≤ 9223372036854775807) :
    Ans Try.prog n_law05_soaks [stV b z, r2 lo hi, .int .i64 a2, .int .i64 a3, .view (ns.map (.int .i64))] [] (.bool true) [] := by
  have k1 := Soak_raw b z hz lo hi a2 a3
  have k2 := rSoak_raw b z hz lo hi a2 a3
  obtain ⟨p, hp⟩ : ∃ p, soT b z lo hi a2 a3 = p := ⟨_, rfl⟩
  rw [hp] at k1 k2
  have m1 := mod_in a2 2001 (by omega)
  have e1 := mod_pos a2 2001 (by omega)
  obtain ⟨t, ht⟩ : ∃ t, a2 % 2001 = t := ⟨_, rfl⟩
  rw [ht] at m1 e1
  simp only [stV, r2, t3] at k1 k2
  refine spec_run e_law05_soaks fun G => ?_
  simp only [go_sem, stV, r2]
  refine callN1 (newdice_ok ns hl) (by simp only [go_sem]) (dr_bel _ _) (by simp) (by simp) ?_
  generalize seedW ns = w
  simp only [go_sem]
  refine callDN (stuffOf_run w) rfl (by simp only [go_sem]) (dr_bel _ _) (fun a ha => ⟨by simp [go_sem], dr_bel _ _, by rw [row_bel_cells]; simp only [go_sem]⟩) (by simp) (by simp) ?_
  rintro ⟨brk, zs, w1⟩ h1
  dsimp only at h1 ⊢
  simp only [go_sem, ren, rens]
  refine cP k1 ?_
  simp only [go_sem]
  refine cP k2 ?_
  simp only [go_sem]
  refine cD (upto_ok w1 3 (by decide)) ?_
  have u1 := upto_in (w := w1) (n := 3) (by decide)
  obtain ⟨i3, hi3⟩ : ∃ i, upto w1 3 = i := ⟨_, rfl⟩
  rw [hi3] at u1 ⊢
  obtain ⟨mx, mx0, mx1, hg⟩ := pick3g u1
  have n3 : ¬ i3 < 0 := by omega
  have l3 : i3 < 3 := by omega
  simp only [go_sem, n3, l3, hg]
  refine cD (range_okg (dstep w1) 0 mx (by decide) mx0 (by unfold capS at mx1; omega)) ?_
  have rb := rngR_in (w := dstep w1) (lo := 0) (hi := mx) mx0
  obtain ⟨r, hr⟩ : ∃ r, rngR (dstep w1) 0 mx = r := ⟨_, rfl⟩
  rw [hr] at rb ⊢
  obtain ⟨w2, hw2⟩ : ∃ w2, dstep (dstep (dstep w1)) = w2 := ⟨_, rfl⟩
  rw [hw2]
  clear hw2 hr hi3 hg n3 l3 u1
  obtain ⟨lo', hh⟩ := r
  dsimp only at rb
  have wh : IntKind.i64.wrap (hh + 2) = hh + 2 := w64 (by unfold capS at mx1; omega)
  have e2 := mod_pos a3 (hh + 2) (by unfold capS at mx1; omega)
  have m2 := mod_in a3 (hh + 2) (by omega)
  obtain ⟨q, hq⟩ : ∃ p, a3 % (hh + 2) = p := ⟨_, rfl⟩
  rw [hq] at e2 m2
  have l4 := h1.zs.len
  have k3 := Soak_raw brk zs (by omega) lo' hh t q
  have k4 := rSoak_raw brk zs (by omega) lo' hh t q
  obtain ⟨p', hp'⟩ : ∃ p, soT brk zs lo' hh t q = p := ⟨_, rfl⟩
  rw [hp'] at k3 k4
  simp only [r2, t3] at k3 k4
  simp only [go_sem, Rg.v]
  refine dP e1 ?_
  simp only [go_sem, wh]
  refine dP e2 ?_
  simp only [go_sem]
  refine dF k3 6 [3] ⟨.inl (st_frz (g := true) rfl rfl), .inl rfl, .inl rfl, .inl rfl, trivial⟩ ?_
  simp only [go_sem]
  refine dP e1 ?_
  simp only [go_sem, wh]
  refine dP e2 ?_
  simp only [go_sem]
  refine dF k4 6 [3] ⟨.inl (st_frz (g := true) rfl rfl), .inl rfl, .inl rfl, .inl rfl, trivial⟩ ?_
  simp only [go_sem]
end Go.Proofs

namespace Go.Proofs
open Go Go.Sx
attribute [local irreducible] Run

theorem rv_frz {H : Heap} {l : List (Int × Int)} {j n : Nat} {g : Bool} (h : H[j]? = some (some (.cells g 2 (l.map rv)))) (hn : n = l.length) : frz 6 H (.sl j 0 n) = .view (l.map rv) := by
  rw [frz_sl (d := 5) h (by simpa using hn), List.map_map]; rfl
theorem vw_nil {H : Heap} {j : Nat} {g : Bool} (h : H[j]? = some (some (.cells g 2 []))) : frz 6 H (.sl j 0 0) = .view [] := by
  exact frz_sl (d := 5) (n := 0) h rfl
set_option maxHeartbeats 32000000 in
set_option maxRecDepth 20000 in
theorem strains_law (b0 : Int) (z0 : List Zn) (th0 f0 : Int) (ls0 : List Lg) (a3 lo hi a5 : Int) (ns : List Int) (hl : ns.length ≤ 9223372036854775807) (hz0 : z0.length ≤ 9223372036854775807) (hls0 : ls0.length ≤ 9223372036854775807) :
    Ans Try.prog n_law05_GlassStrains [stV b0 z0, .int .i64 th0, ovV f0 ls0, .int .i64 a3, r2 lo hi, .int .i64 a5, .view (ns.map (.int .i64))] [] (.bool true) [] := by
  refine spec_run e_law05_GlassStrains fun G => ?_
  by_cases c1 : (z0.length : Int) > 30
  · simp only [go_sem, stV, ovV, r2, c1, List.length_map]
    refine cP awake_ok ?_
    simp only [go_sem]
  by_cases c2 : (ls0.length : Int) > 30
  · simp only [go_sem, stV, ovV, r2, c1, c2, List.length_map]
    refine cP awake_ok ?_
    simp only [go_sem]
  have hz1 : z0.length ≤ 1000 := by omega
  have x1 : IntKind.i64.wrap 1 = 1 := by decide
  have x2 : IntKind.i64.wrap 2 = 2 := by decide
  have y1 : (1 : Int).toNat = 1 := rfl
  have hls1 : ls0.length ≤ 30 := by omega
  have kJ0 := Judge_raw b0 z0 hz1 th0 f0 ls0 a3
  have kK0 := rJudge_raw b0 z0 hz1 th0 f0 ls0 a3
  obtain ⟨V0, hV0⟩ : ∃ V, judT b0 z0 th0 f0 ls0 a3 = V := ⟨_, rfl⟩
  rw [hV0] at kJ0 kK0
  have kso := soaks_run b0 z0 hz1 lo hi a5 a3 ns hl
  simp only [stV, ovV, i3, r2] at kJ0 kK0 kso
  simp only [go_sem, stV, ovV, r2, c1, c2, List.length_map]
  refine callN1 (newdice_ok ns hl) (by simp only [go_sem]) (dr_bel _ _) (by simp) (by simp) ?_
  generalize seedW ns = w
  simp only [go_sem]
  refine callDN (stuffOf_run w) rfl (by simp only [go_sem]) (dr_bel _ _) (fun a ha => ⟨by simp [go_sem], dr_bel _ _, by rw [row_bel_cells]; simp only [go_sem]⟩) (by simp) (by simp) ?_
  rintro ⟨brk, zs, w1⟩ h1
  dsimp only at h1 ⊢
  simp only [go_sem, ren, rens]
  refine callDSf (u := fun a : Int × List Lg × Int => .int .i64 a.1) (es := fun a => lgL a.2.1) (x' := fun a => Dr a.2.2) (ovenOf_run w1 6 60 (by decide) (by decide)) rfl (by simp only [go_sem]) (dr_bel _ _) (fun a ha => ⟨dr_bel _ _, by unfold lgL; simp only [go_sem], by simp only [go_sem]⟩) (by simp) (by simp) ?_
  rintro ⟨f, ls, w2⟩ ⟨hf, hl4, hok⟩
  dsimp only at hf hl4 hok ⊢
  have ho : OvOK f ls := ⟨by omega, by omega, hok⟩
  have zb : ∀ S : Nat → Prop, (Row.cells true 5 (zs.map Zn.v)).bel S := fun S => by rw [row_bel_cells]; simp only [go_sem]
  have lb : ∀ S : Nat → Prop, (Row.cells true 2 (ls.map Lg.v)).bel S := fun S => by rw [row_bel_cells]; simp only [go_sem]
  have u2 := upto_in (w := w2) (n := 2) (by decide)
  have ku := upto_ok w2 2 (by decide)
  obtain ⟨tm, htm, sb⟩ := sel2i _ 20 1000 u2
  have n2 : ¬ upto w2 2 < 0 := by omega
  have tmb : 1 ≤ tm ∧ tm ≤ 1000 := by rcases htm with rfl | rfl <;> omega
  have kb := between_ok (dstep w2) 1 tm (by decide) (by omega) (by omega)
  have bb := btw_in (w := dstep w2) (lo := 1) (hi := tm) (by omega)
  obtain ⟨th, hth⟩ : ∃ t, btw (dstep w2) 1 tm = t := ⟨_, rfl⟩
  rw [hth] at kb bb
  obtain ⟨w3, hw3⟩ : ∃ t, dstep (dstep w2) = t := ⟨_, rfl⟩
  rw [hw3] at kb
  have hthb : 1 ≤ th ∧ th ≤ 1000 := by omega
  have hlen := ho.len
  have hzl := h1.zs.len
  have kS1 := Strain_run h1 hthb ho
  rw [aftS_eq hok] at kS1
  by_cases hne : ls = []
  · subst hne
    simp only [(slr_none (lgL_nil rfl) true 2 _).1, (slr_none (lgL_nil rfl) true 2 0).2]
    simp only [go_sem]
    refine cD ku ?_
    simp only [go_sem, n2, sb]
    refine ⟨u2.2, ?_⟩
    refine cD kb ?_
    simp only [go_sem]
    refine callE2 (leftOf_nil w3 h1 hthb (f := f) (by omega)) (j0 := 3) (j1 := 4) rfl (by simp [go_sem]) rfl rfl (dr_bel _ _) (zb _) (by decide) (fun q hq => ⟨by simp only [go_sem], dr_bel _ _⟩) (by simp) (by simp) ?_
    rintro ⟨left, w4⟩ hleft
    dsimp only at hleft ⊢
    have lso3 : Go.Proofs.lso [stV brk zs, .int .i64 th, .agg [.int .i64 f, .nilsl]] [stV brk zs, .int .i64 th, ovV f []] := ⟨.inl rfl, .inl rfl, .inr ⟨_, rfl, rfl⟩, trivial⟩
    have lso4 : Go.Proofs.lso [stV brk zs, .int .i64 th, .agg [.int .i64 f, .nilsl], .int .i64 left] [stV brk zs, .int .i64 th, ovV f [], .int .i64 left] := ⟨.inl rfl, .inl rfl, .inr ⟨_, rfl, rfl⟩, .inl rfl, trivial⟩
    have kS1 := Ans.lso kS1 lso3
    have kR1 := Ans.lso (rStrain_nil h1 hthb (f := f) (by omega)) lso3
    have kJ1 := Ans.lso (Judge_raw brk zs (by omega) th f [] left) lso4
    have kK1 := Ans.lso (rJudge_raw brk zs (by omega) th f [] left) lso4
    clear lso3 lso4
    simp only [List.length_nil, legSs, List.range_zero, List.map_nil] at kS1
    obtain ⟨V1, hV1⟩ : ∃ V, judT brk zs th f [] left = V := ⟨_, rfl⟩
    rw [hV1] at kJ1 kK1
    simp only [i3] at kJ1 kK1
    clear hV1 hV0 hleft hth hw3 sb
    simp only [go_sem]
    refine loop_body 400 k_law05_GlassStrains_r17.eq_1 ?_
    simp only [go_sem, List.length_map, x1, x2, y1]
    by_cases hE : whE b0 z0 th0 f0 ls0 = 0
    · obtain ⟨o1, o2, o3⟩ := whE_ok hE
      have kS0 := Strain_run o1 o2 o3
      rw [aftS_eq o3.all] at kS0
      by_cases hn0 : ls0 = []
      · subst hn0
        have kR0 := rStrain_nil o1 o2 o3.f
        simp only [List.length_nil, legSs, List.range_zero, List.map_nil, stV, ovV] at kS0 kR0
        simp only [List.map_nil, stV, ovV] at kJ0 kK0 ⊢
        refine cN1 kS0 ?_ (hx := by rw [row_bel_cells]; simp only [go_sem])
        simp only [go_sem, ren, rens]
        refine cP kR0 ?_
        simp only [go_sem]
        refine cP kJ0 ?_
        simp only [go_sem]
        refine cP kK0 ?_
        simp only [go_sem]
        refine cF same_vnil 6 ⟨.inl (vw_nil rfl), .inl rfl, trivial⟩ ?_
        simp only [go_sem, Bool.not_true, bne_self_eq_false, x1, x2]
        refine loop_body 400 k_law05_GlassStrains_r17.eq_1 ?_
        simp only [go_sem, List.length_map, x1, x2, y1]
        refine cFN kS1 6 ⟨.inl (st_frz (g := true) rfl rfl), .inl rfl, .inl rfl, trivial⟩ ?_ (hx := by rw [row_bel_cells]; simp only [go_sem]) (hxn := row_nv_cells _ _ trivial)
        simp only [go_sem, ren, rens]
        refine cF kR1 6 ⟨.inl (st_frz (g := true) rfl rfl), .inl rfl, .inl rfl, trivial⟩ ?_
        simp only [go_sem]
        refine cF kJ1 6 ⟨.inl (st_frz (g := true) rfl rfl), .inl rfl, .inl rfl, .inl rfl, trivial⟩ ?_
        simp only [go_sem]
        refine cF kK1 6 ⟨.inl (st_frz (g := true) rfl rfl), .inl rfl, .inl rfl, .inl rfl, trivial⟩ ?_
        simp only [go_sem]
        refine cF same_vnil 6 ⟨.inl (vw_nil rfl), .inl rfl, trivial⟩ ?_
        simp only [go_sem, Bool.not_true, bne_self_eq_false, x1, x2]
        refine loop_body 400 k_law05_GlassStrains_r17.eq_1 ?_
        simp only [go_sem, x1, x2]
        refine cP kso ?_
        simp only [go_sem]
        refine cP awake_ok ?_
        simp only [go_sem]
      · have kR0 := rStrain_run o1 o2 o3 hn0
        simp only [stV, ovV] at kS0 kR0
        refine cN1 kS0 ?_ (hx := by rw [row_bel_cells]; simp only [rvs_bel])
        simp only [go_sem, ren, rens]
        refine cN1 kR0 ?_ (hx := by rw [row_bel_cells]; simp only [rvs_bel])
        simp only [go_sem, ren, rens]
        refine cP kJ0 ?_
        simp only [go_sem]
        refine cP kK0 ?_
        simp only [go_sem]
        refine cF (same_run (l := legSs z0 th0 f0 ls0 ls0.length) (by rw [legSs_len]; omega)) 6 ⟨.inl (rv_frz rfl (legSs_len _ _ _ _ _).symm), .inl (rv_frz rfl (legSs_len _ _ _ _ _).symm), trivial⟩ ?_
        simp only [go_sem, Bool.not_true, bne_self_eq_false, x1, x2]
        refine loop_body 400 k_law05_GlassStrains_r17.eq_1 ?_
        simp only [go_sem, List.length_map, x1, x2, y1]
        refine cFN kS1 6 ⟨.inl (st_frz (g := true) rfl rfl), .inl rfl, .inl rfl, trivial⟩ ?_ (hx := by rw [row_bel_cells]; simp only [go_sem]) (hxn := row_nv_cells _ _ trivial)
        simp only [go_sem, ren, rens]
        refine cF kR1 6 ⟨.inl (st_frz (g := true) rfl rfl), .inl rfl, .inl rfl, trivial⟩ ?_
        simp only [go_sem]
        refine cF kJ1 6 ⟨.inl (st_frz (g := true) rfl rfl), .inl rfl, .inl rfl, .inl rfl, trivial⟩ ?_
        simp only [go_sem]
        refine cF kK1 6 ⟨.inl (st_frz (g := true) rfl rfl), .inl rfl, .inl rfl, .inl rfl, trivial⟩ ?_
        simp only [go_sem]
        refine cF same_vnil 6 ⟨.inl (vw_nil rfl), .inl rfl, trivial⟩ ?_
        simp only [go_sem, Bool.not_true, bne_self_eq_false, x1, x2]
        refine loop_body 400 k_law05_GlassStrains_r17.eq_1 ?_
        simp only [go_sem, x1, x2]
        refine cP kso ?_
        simp only [go_sem]
        refine cP awake_ok ?_
        simp only [go_sem]
    · have kS0 := Strain_no b0 z0 hz1 th0 f0 ls0 hE
      have kR0 := rStrain_no b0 z0 hz1 th0 f0 ls0 hE
      simp only [stV, ovV] at kS0 kR0
      refine cP kS0 ?_
      simp only [go_sem]
      refine cP kR0 ?_
      simp only [go_sem]
      refine cP kJ0 ?_
      simp only [go_sem]
      refine cP kK0 ?_
      simp only [go_sem]
      refine cP same_nil ?_
      simp only [go_sem, Bool.not_true, bne_self_eq_false, x1, x2]
      refine loop_body 400 k_law05_GlassStrains_r17.eq_1 ?_
      simp only [go_sem, List.length_map, x1, x2, y1]
      refine cFN kS1 6 ⟨.inl (st_frz (g := true) rfl rfl), .inl rfl, .inl rfl, trivial⟩ ?_ (hx := by rw [row_bel_cells]; simp only [go_sem]) (hxn := row_nv_cells _ _ trivial)
      simp only [go_sem, ren, rens]
      refine cF kR1 6 ⟨.inl (st_frz (g := true) rfl rfl), .inl rfl, .inl rfl, trivial⟩ ?_
      simp only [go_sem]
      refine cF kJ1 6 ⟨.inl (st_frz (g := true) rfl rfl), .inl rfl, .inl rfl, .inl rfl, trivial⟩ ?_
      simp only [go_sem]
      refine cF kK1 6 ⟨.inl (st_frz (g := true) rfl rfl), .inl rfl, .inl rfl, .inl rfl, trivial⟩ ?_
      simp only [go_sem]
      refine cF same_vnil 6 ⟨.inl (vw_nil rfl), .inl rfl, trivial⟩ ?_
      simp only [go_sem, Bool.not_true, bne_self_eq_false, x1, x2]
      refine loop_body 400 k_law05_GlassStrains_r17.eq_1 ?_
      simp only [go_sem, x1, x2]
      refine cP kso ?_
      simp only [go_sem]
      refine cP awake_ok ?_
      simp only [go_sem]
  · simp only [(slr_some (lgL_ne hne) true 2 _).1, (slr_some (lgL_ne hne) true 2 0).2]
    have hll : (lgL ls).length = ls.length := by simp [lgL]
    simp only [go_sem, hll, lgL]
    refine cD ku ?_
    simp only [go_sem, n2, sb]
    refine ⟨u2.2, ?_⟩
    refine cD kb ?_
    simp only [go_sem]
    refine callE3 (leftOf_run w3 h1 hthb ho hne) (j0 := 3) (j1 := 4) (j2 := 5) rfl (by simp [go_sem]) rfl rfl rfl (dr_bel _ _) (zb _) (lb _) (by decide) (fun q hq => ⟨by simp only [go_sem], dr_bel _ _⟩) (by simp) (by simp) ?_
    rintro ⟨left, w4⟩ hleft
    dsimp only at hleft ⊢
    have kR1 := rStrain_run h1 hthb ho hne
    have kJ1 := Judge_raw brk zs (by omega) th f ls left
    have kK1 := rJudge_raw brk zs (by omega) th f ls left
    obtain ⟨V1, hV1⟩ : ∃ V, judT brk zs th f ls left = V := ⟨_, rfl⟩
    rw [hV1] at kJ1 kK1
    simp only [i3] at kJ1 kK1
    clear hV1 hV0 hleft hth hw3 sb
    simp only [go_sem]
    refine loop_body 400 k_law05_GlassStrains_r17.eq_1 ?_
    simp only [go_sem, List.length_map, x1, x2, y1]
    by_cases hE : whE b0 z0 th0 f0 ls0 = 0
    · obtain ⟨o1, o2, o3⟩ := whE_ok hE
      have kS0 := Strain_run o1 o2 o3
      rw [aftS_eq o3.all] at kS0
      by_cases hn0 : ls0 = []
      · subst hn0
        have kR0 := rStrain_nil o1 o2 o3.f
        simp only [List.length_nil, legSs, List.range_zero, List.map_nil, stV, ovV] at kS0 kR0
        simp only [List.map_nil, stV, ovV] at kJ0 kK0 ⊢
        refine cN1 kS0 ?_ (hx := by rw [row_bel_cells]; simp only [go_sem])
        simp only [go_sem, ren, rens]
        refine cP kR0 ?_
        simp only [go_sem]
        refine cP kJ0 ?_
        simp only [go_sem]
        refine cP kK0 ?_
        simp only [go_sem]
        refine cF same_vnil 6 ⟨.inl (vw_nil rfl), .inl rfl, trivial⟩ ?_
        simp only [go_sem, Bool.not_true, bne_self_eq_false, x1, x2]
        refine loop_body 400 k_law05_GlassStrains_r17.eq_1 ?_
        simp only [go_sem, List.length_map, x1, x2, y1]
        refine cFN kS1 6 ⟨.inl (st_frz (g := true) rfl rfl), .inl rfl, .inl (ov_frz (g := true) rfl rfl), trivial⟩ ?_ (hx := by rw [row_bel_cells]; simp only [rvs_bel]) (hxn := row_nv_cells _ _ (nvs_map _ _ fun z => by simp only [go_sem, rv, r2]))
        simp only [go_sem, ren, rens]
        refine cFN kR1 6 ⟨.inl (st_frz (g := true) rfl rfl), .inl rfl, .inl (ov_frz (g := true) rfl rfl), trivial⟩ ?_ (hx := by rw [row_bel_cells]; simp only [rvs_bel]) (hxn := row_nv_cells _ _ (nvs_map _ _ fun z => by simp only [go_sem, rv, r2]))
        simp only [go_sem, ren, rens]
        refine cF kJ1 6 ⟨.inl (st_frz (g := true) rfl rfl), .inl rfl, .inl (ov_frz (g := true) rfl rfl), .inl rfl, trivial⟩ ?_
        simp only [go_sem]
        refine cF kK1 6 ⟨.inl (st_frz (g := true) rfl rfl), .inl rfl, .inl (ov_frz (g := true) rfl rfl), .inl rfl, trivial⟩ ?_
        simp only [go_sem]
        refine cF (same_run (l := legSs zs th f ls ls.length) (by rw [legSs_len]; omega)) 6 ⟨.inl (rv_frz rfl (legSs_len _ _ _ _ _).symm), .inl (rv_frz rfl (legSs_len _ _ _ _ _).symm), trivial⟩ ?_
        simp only [go_sem, Bool.not_true, bne_self_eq_false, x1, x2]
        refine loop_body 400 k_law05_GlassStrains_r17.eq_1 ?_
        simp only [go_sem, x1, x2]
        refine cP kso ?_
        simp only [go_sem]
        refine cP awake_ok ?_
        simp only [go_sem]
      · have kR0 := rStrain_run o1 o2 o3 hn0
        simp only [stV, ovV] at kS0 kR0
        refine cN1 kS0 ?_ (hx := by rw [row_bel_cells]; simp only [rvs_bel])
        simp only [go_sem, ren, rens]
        refine cN1 kR0 ?_ (hx := by rw [row_bel_cells]; simp only [rvs_bel])
        simp only [go_sem, ren, rens]
        refine cP kJ0 ?_
        simp only [go_sem]
        refine cP kK0 ?_
        simp only [go_sem]
        refine cF (same_run (l := legSs z0 th0 f0 ls0 ls0.length) (by rw [legSs_len]; omega)) 6 ⟨.inl (rv_frz rfl (legSs_len _ _ _ _ _).symm), .inl (rv_frz rfl (legSs_len _ _ _ _ _).symm), trivial⟩ ?_
        simp only [go_sem, Bool.not_true, bne_self_eq_false, x1, x2]
        refine loop_body 400 k_law05_GlassStrains_r17.eq_1 ?_
        simp only [go_sem, List.length_map, x1, x2, y1]
        refine cFN kS1 6 ⟨.inl (st_frz (g := true) rfl rfl), .inl rfl, .inl (ov_frz (g := true) rfl rfl), trivial⟩ ?_ (hx := by rw [row_bel_cells]; simp only [rvs_bel]) (hxn := row_nv_cells _ _ (nvs_map _ _ fun z => by simp only [go_sem, rv, r2]))
        simp only [go_sem, ren, rens]
        refine cFN kR1 6 ⟨.inl (st_frz (g := true) rfl rfl), .inl rfl, .inl (ov_frz (g := true) rfl rfl), trivial⟩ ?_ (hx := by rw [row_bel_cells]; simp only [rvs_bel]) (hxn := row_nv_cells _ _ (nvs_map _ _ fun z => by simp only [go_sem, rv, r2]))
        simp only [go_sem, ren, rens]
        refine cF kJ1 6 ⟨.inl (st_frz (g := true) rfl rfl), .inl rfl, .inl (ov_frz (g := true) rfl rfl), .inl rfl, trivial⟩ ?_
        simp only [go_sem]
        refine cF kK1 6 ⟨.inl (st_frz (g := true) rfl rfl), .inl rfl, .inl (ov_frz (g := true) rfl rfl), .inl rfl, trivial⟩ ?_
        simp only [go_sem]
        refine cF (same_run (l := legSs zs th f ls ls.length) (by rw [legSs_len]; omega)) 6 ⟨.inl (rv_frz rfl (legSs_len _ _ _ _ _).symm), .inl (rv_frz rfl (legSs_len _ _ _ _ _).symm), trivial⟩ ?_
        simp only [go_sem, Bool.not_true, bne_self_eq_false, x1, x2]
        refine loop_body 400 k_law05_GlassStrains_r17.eq_1 ?_
        simp only [go_sem, x1, x2]
        refine cP kso ?_
        simp only [go_sem]
        refine cP awake_ok ?_
        simp only [go_sem]
    · have kS0 := Strain_no b0 z0 hz1 th0 f0 ls0 hE
      have kR0 := rStrain_no b0 z0 hz1 th0 f0 ls0 hE
      simp only [stV, ovV] at kS0 kR0
      refine cP kS0 ?_
      simp only [go_sem]
      refine cP kR0 ?_
      simp only [go_sem]
      refine cP kJ0 ?_
      simp only [go_sem]
      refine cP kK0 ?_
      simp only [go_sem]
      refine cP same_nil ?_
      simp only [go_sem, Bool.not_true, bne_self_eq_false, x1, x2]
      refine loop_body 400 k_law05_GlassStrains_r17.eq_1 ?_
      simp only [go_sem, List.length_map, x1, x2, y1]
      refine cFN kS1 6 ⟨.inl (st_frz (g := true) rfl rfl), .inl rfl, .inl (ov_frz (g := true) rfl rfl), trivial⟩ ?_ (hx := by rw [row_bel_cells]; simp only [rvs_bel]) (hxn := row_nv_cells _ _ (nvs_map _ _ fun z => by simp only [go_sem, rv, r2]))
      simp only [go_sem, ren, rens]
      refine cFN kR1 6 ⟨.inl (st_frz (g := true) rfl rfl), .inl rfl, .inl (ov_frz (g := true) rfl rfl), trivial⟩ ?_ (hx := by rw [row_bel_cells]; simp only [rvs_bel]) (hxn := row_nv_cells _ _ (nvs_map _ _ fun z => by simp only [go_sem, rv, r2]))
      simp only [go_sem, ren, rens]
      refine cF kJ1 6 ⟨.inl (st_frz (g := true) rfl rfl), .inl rfl, .inl (ov_frz (g := true) rfl rfl), .inl rfl, trivial⟩ ?_
      simp only [go_sem]
      refine cF kK1 6 ⟨.inl (st_frz (g := true) rfl rfl), .inl rfl, .inl (ov_frz (g := true) rfl rfl), .inl rfl, trivial⟩ ?_
      simp only [go_sem]
      refine cF (same_run (l := legSs zs th f ls ls.length) (by rw [legSs_len]; omega)) 6 ⟨.inl (rv_frz rfl (legSs_len _ _ _ _ _).symm), .inl (rv_frz rfl (legSs_len _ _ _ _ _).symm), trivial⟩ ?_
      simp only [go_sem, Bool.not_true, bne_self_eq_false, x1, x2]
      refine loop_body 400 k_law05_GlassStrains_r17.eq_1 ?_
      simp only [go_sem, x1, x2]
      refine cP kso ?_
      simp only [go_sem]
      refine cP awake_ok ?_
      simp only [go_sem]
end Go.Proofs

namespace Go.Proofs
open Go Go.Sx

theorem at_struct {P : Program} {n : Nat} {t : TypeId} {fs : Array Field} (hu : P.underlying t = some (.struct fs)) {vs : List AVal} (h : AT P (n + 1) t vs) : ATs (AT P n) fs.toList vs := by
  unfold AT at h; rw [hu] at h; exact h
theorem at_int {P : Program} {n : Nat} {t : TypeId} {k : IntKind} (hu : P.underlying t = some (.int k)) {vs : List AVal} (h : AT P (n + 1) t vs) : ∃ m, vs = [.int k m] ∧ (Lit.int k m).wf = true := by
  unfold AT at h; rw [hu] at h; exact h
theorem at_slice {P : Program} {n : Nat} {t e : TypeId} (hu : P.underlying t = some (.slice e)) {vs : List AVal} (h : AT P (n + 1) t vs) : ∃ es, vs = [.view es] ∧ es.length ≤ maxLen ∧ ∀ x ∈ es, if aggT P e = true then ∃ ws, x = .agg ws ∧ AT P n e ws else AT P n e [x] := by
  unfold AT at h; rw [hu] at h; exact h
theorem list_mapQ {α β : Type} {f : α → β} {Q : α → Prop} : ∀ l : List β, (∀ x ∈ l, ∃ a, x = f a ∧ Q a) → ∃ l' : List α, l = l'.map f ∧ ∀ a ∈ l', Q a
  | [], _ => ⟨[], rfl, fun a ha => by simp at ha⟩
  | x :: l, h => by
    obtain ⟨a, rfl, ha⟩ := h x (by simp)
    obtain ⟨l', rfl, h'⟩ := list_mapQ l fun y hy => h y (by simp [hy])
    exact ⟨a :: l', rfl, fun b hb => by
      rcases List.mem_cons.1 hb with rfl | hb
      · exact ha
      · exact h' b hb⟩

attribute [local irreducible] AT
set_option maxRecDepth 100000
theorem atn_int {n : Nat} {vs : List AVal} (h : AT Try.prog (n + 1) 3 vs) : ∃ m, vs = [.int .i64 m] ∧ (Lit.int .i64 m).wf = true := at_int Try.underlying3 h
theorem at_ints {n : Nat} {x : AVal} (h : AT Try.prog (n + 2) 29 [x]) : ∃ l : List Int, x = .view (l.map (.int .i64)) ∧ l.length ≤ 9223372036854775807 := by
  obtain ⟨es, h1, hl, he⟩ := at_slice Try.underlying29 h
  obtain rfl : x = .view es := by simpa using h1
  have hg : ¬ aggT Try.prog 3 = true := by unfold aggT; rw [Try.underlying3]; decide
  obtain ⟨l, rfl, -⟩ := list_mapQ (f := AVal.int .i64) (Q := fun _ => True) es fun x hx => by
    have := he x hx
    rw [if_neg hg] at this
    obtain ⟨m, hm, -⟩ := atn_int this
    exact ⟨m, by simpa using hm, trivial⟩
  have hm : maxLen = 9223372036854775807 := rfl
  rw [hm] at hl
  exact ⟨l, rfl, by simpa using hl⟩
theorem at_rng {n : Nat} {ws : List AVal} (h : AT Try.prog (n + 2) 31 ws) : ∃ a b : Int, ws = [.int .i64 a, .int .i64 b] ∧ (Lit.int .i64 a).wf = true ∧ (Lit.int .i64 b).wf = true := by
  obtain ⟨a, _, rfl, ha, b, _, rfl, hb, rfl⟩ := at_struct Try.underlying31 h
  obtain ⟨x, rfl, hx⟩ := atn_int ha
  obtain ⟨y, rfl, hy⟩ := atn_int hb
  exact ⟨x, y, rfl, hx, hy⟩
theorem at_zone {n : Nat} {ws : List AVal} (h : AT Try.prog (n + 3) 33 ws) : ∃ z : Zn, ws = z.cs := by
  obtain ⟨a, _, rfl, ha, b, _, rfl, hb, c, _, rfl, hc, rfl⟩ := at_struct Try.underlying33 h
  obtain ⟨x, rfl, -⟩ := atn_int ha
  obtain ⟨b1, b2, rfl, -, -⟩ := at_rng hb
  obtain ⟨c1, c2, rfl, -, -⟩ := at_rng hc
  exact ⟨⟨x, b1, b2, c1, c2⟩, rfl⟩
theorem at_zones {n : Nat} {ws : List AVal} (h : AT Try.prog (n + 4) 22 ws) : ∃ zs : List Zn, ws = [.view (zs.map Zn.v)] ∧ zs.length ≤ 9223372036854775807 := by
  obtain ⟨es, rfl, hl, he⟩ := at_slice Try.underlying22 h
  have hg : aggT Try.prog 33 = true := by unfold aggT; rw [Try.underlying33]
  obtain ⟨zs, rfl, -⟩ := list_mapQ (f := Zn.v) (Q := fun _ => True) es fun x hx => by
    have := he x hx
    rw [if_pos hg] at this
    obtain ⟨ws, rfl, hw⟩ := this
    obtain ⟨z, rfl⟩ := at_zone hw
    exact ⟨z, rfl, trivial⟩
  have hm : maxLen = 9223372036854775807 := rfl
  rw [hm] at hl
  exact ⟨zs, rfl, by simpa using hl⟩
theorem at_stuff {n : Nat} {ws : List AVal} (h : AT Try.prog (n + 5) 24 ws) : ∃ (b : Int) (zs : List Zn), .agg ws = stV b zs ∧ zs.length ≤ 9223372036854775807 ∧ (Lit.int .i64 b).wf = true := by
  obtain ⟨a, _, rfl, ha, b, _, rfl, hb, rfl⟩ := at_struct Try.underlying24 h
  obtain ⟨x, rfl, hx⟩ := atn_int ha
  obtain ⟨zs, rfl, hz⟩ := at_zones hb
  exact ⟨x, zs, rfl, hz, hx⟩
theorem at_leg {n : Nat} {ws : List AVal} (h : AT Try.prog (n + 2) 35 ws) : ∃ l : Lg, .agg ws = l.v := by
  obtain ⟨a, _, rfl, ha, b, _, rfl, hb, rfl⟩ := at_struct Try.underlying35 h
  obtain ⟨x, rfl, -⟩ := atn_int ha
  obtain ⟨y, rfl, -⟩ := atn_int hb
  exact ⟨⟨x, y⟩, rfl⟩
theorem at_oven {n : Nat} {ws : List AVal} (h : AT Try.prog (n + 5) 27 ws) : ∃ (f : Int) (ls : List Lg), .agg ws = ovV f ls ∧ ls.length ≤ 9223372036854775807 := by
  obtain ⟨a, _, rfl, ha, b, _, rfl, hb, rfl⟩ := at_struct Try.underlying27 h
  obtain ⟨x, rfl, -⟩ := atn_int ha
  obtain ⟨es, rfl, hl, he⟩ := at_slice Try.underlying25 hb
  have hg : aggT Try.prog 35 = true := by unfold aggT; rw [Try.underlying35]
  obtain ⟨ls, rfl, -⟩ := list_mapQ (f := Lg.v) (Q := fun _ => True) es fun x hx => by
    have := he x hx
    rw [if_pos hg] at this
    obtain ⟨ws, rfl, hw⟩ := this
    obtain ⟨z, hz⟩ := at_leg hw
    exact ⟨z, hz, trivial⟩
  have hm : maxLen = 9223372036854775807 := rfl
  rw [hm] at hl
  exact ⟨x, ls, rfl, by simpa using hl⟩
end Go.Proofs


