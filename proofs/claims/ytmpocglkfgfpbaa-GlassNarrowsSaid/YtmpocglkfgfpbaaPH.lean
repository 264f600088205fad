/- A part of the proof. -/
import Derived.Test.YtmpocglkfgfpbaaPG
set_option linter.unusedSimpArgs false
set_option linter.unusedVariables false
namespace Go.Proofs
open Go Go.Sx
attribute [local irreducible] Run nwS nwI

theorem gV_val {hol : Nat → Bool} {num : Nat → Int} : ∀ k, (gV hol num k).1 = 1 ∨ (gV hol num k).1 = 3
  | 0 => .inl rfl
  | k + 1 => by
    rw [gV]; split
    · exact .inr rfl
    · exact gV_val k
theorem gFrom_val {brk hol : Nat → Bool} {num : Nat → Int} : ∀ n k, (gFrom brk hol num n k).1 = 1 ∨ (gFrom brk hol num n k).1 = 2 ∨ (gFrom brk hol num n k).1 = 3
  | 0, k => by rcases gV_val (hol := hol) (num := num) k with h | h; exact .inl h; exact .inr (.inr h)
  | n + 1, k => by
    rw [gFrom]; split
    · exact .inr (.inl rfl)
    · exact gFrom_val n (k + 1)
theorem jV_val {z1 z2 : List Zn} {sE lim : Int} : ∀ k, (jV z1 z2 sE lim k).1 = 1 ∨ (jV z1 z2 sE lim k).1 = 3
  | 0 => .inl rfl
  | k + 1 => by
    rw [jV]; split
    · exact .inr rfl
    · exact jV_val k
theorem jFrom_val {z1 z2 : List Zn} {sE lim : Int} : ∀ n k, (jFrom z1 z2 sE lim n k).1 = 1 ∨ (jFrom z1 z2 sE lim n k).1 = 2 ∨ (jFrom z1 z2 sE lim n k).1 = 3
  | 0, k => by rcases jV_val (z1 := z1) (z2 := z2) (sE := sE) (lim := lim) k with h | h; exact .inl h; exact .inr (.inr h)
  | n + 1, k => by
    rw [jFrom]; split
    · exact .inr (.inl rfl)
    · exact jFrom_val n (k + 1)
theorem stays_of {v w : Int} (h : v = 1 ∨ v = 2 ∨ v = 3) (h1 : v = 1 → w = 1) (h2 : v = 2 → w = 2) : Ans Try.prog n_law05_stays [.int .i64 v, .int .i64 w] [] (.bool true) [] := by
  refine spec_run e_law05_stays fun G => ?_
  by_cases c : v = 3
  · have e : (v == 3) = true := by rw [c]; rfl
    simp only [go_sem, e]
  · have e : (v == 3) = false := beq_eq_false_iff_ne.2 c
    have e2 : (v == w) = true := by
      rcases h with h | h | h
      · rw [h1 h, h]; rfl
      · rw [h2 h, h]; rfl
      · exact absurd h c
    simp only [go_sem, e, e2]
theorem within_yes {a b c d : Int} (h : c ≤ a ∧ b ≤ d) : Ans Try.prog n_kit_Within [r2 a b, r2 c d] [] (.bool true) [] := by
  have h1 : a ≥ c := h.1
  have h2 : b ≤ d := h.2
  refine spec_run e_kit_Within fun G => ?_
  simp only [go_sem, r2, h1, h2]
set_option maxHeartbeats 16000000 in
set_option maxRecDepth 20000 in
theorem narrows_law (ns : List Int) (hl : ns.length ≤ 9223372036854775807) : Ans Try.prog n_law05_GlassNarrows [.view (ns.map (.int .i64))] [] (.bool true) [] := by
  refine spec_run e_law05_GlassNarrows fun G => ?_
  simp only [go_sem]
  refine callN1 (newdice_ok ns hl) (by simp only [go_sem]) (dr_bel _ _) (by simp) (by simp) ?_
  generalize seedW ns = w
  simp only [go_sem]
  refine callDN (stuffOf_run w) rfl (by simp only [go_sem]) (dr_bel _ _) (fun a ha => ⟨by simp [go_sem], dr_bel _ _, by rw [row_bel_cells]; simp only [go_sem]⟩) (by simp) (by simp) ?_
  rintro ⟨b1, z1, w1⟩ h1
  dsimp only at h1 ⊢
  simp only [go_sem, ren, rens]
  refine callDN (stuffOf_run w1) rfl (by simp only [go_sem]) (dr_bel _ _) (fun a ha => ⟨by simp [go_sem], dr_bel _ _, by rw [row_bel_cells]; simp only [go_sem]⟩) (by simp) (by simp) ?_
  rintro ⟨b2, z2, w2⟩ h2
  dsimp only at h2 ⊢
  simp only [go_sem, ren, rens]
  refine callDSf (u := fun a : Int × List Lg × Int => .int .i64 a.1) (es := fun a => lgL a.2.1) (x' := fun a => Dr a.2.2) (ovenOf_run w2 4 30 (by decide) (by decide)) rfl (by simp only [go_sem]) (dr_bel _ _) (fun a ha => ⟨dr_bel _ _, by unfold lgL; simp only [go_sem], by simp only [go_sem]⟩) (by simp) (by simp) ?_
  rintro ⟨f, ls, w3⟩ ⟨hf, hl4, hok⟩
  dsimp only at hf hl4 hok ⊢
  have ho : OvOK f ls := ⟨by omega, by omega, hok⟩
  have zb : ∀ (l : List Zn) (S : Nat → Prop), (Row.cells true 5 (l.map Zn.v)).bel S := fun l S => by rw [row_bel_cells]; simp only [go_sem]
  have k1 := between_ok w3 1 50 (by decide) (by decide) (by decide)
  have k2 := between_ok (dstep w3) 300 1200 (by decide) (by decide) (by decide)
  have i1 := btw_in (w := w3) (lo := 1) (hi := 50) (by decide)
  have i2 := btw_in (w := dstep w3) (lo := 300) (hi := 1200) (by decide)
  obtain ⟨th, hth⟩ : ∃ t, btw w3 1 50 = t := ⟨_, rfl⟩
  obtain ⟨s, hs⟩ : ∃ t, btw (dstep w3) 300 1200 = t := ⟨_, rfl⟩
  rw [hth] at k1 i1
  rw [hs] at k2 i2
  obtain ⟨w4, hw4⟩ : ∃ t, dstep (dstep w3) = t := ⟨_, rfl⟩
  rw [hw4] at k2
  have hthb : 1 ≤ th ∧ th ≤ 1000 := by omega
  by_cases hne : ls = []
  · subst hne
    simp only [(slr_none (lgL_nil rfl) true 2 _).1, (slr_none (lgL_nil rfl) true 2 0).2]
    simp only [go_sem]
    refine cD k1 ?_
    simp only [go_sem]
    refine cD k2 ?_
    simp only [go_sem]
    refine callE2 (leftOf_nil w4 h1 hthb (f := f) (by omega)) (j0 := 0) (j1 := 1) rfl (by simp [go_sem]) rfl rfl (dr_bel _ _) (zb _ _) (by decide) (fun q hq => ⟨by simp only [go_sem], dr_bel _ _⟩) (by simp) (by simp) ?_
    rintro ⟨left, w5⟩ hleft
    dsimp only at hleft ⊢
    simp only [go_sem]
    have N1 := narrower_det w5 b1 h1.zs
    have N2 := narrower_det (nwI w5 z1.length) b2 h2.zs
    have q1 := nwS_nar h1.zs w5
    have q2 := nwS_nar h2.zs (nwI w5 z1.length)
    have l1 := nwS_len z1 w5 z1.length
    have l2 := nwS_len z2 (nwI w5 z1.length) z2.length
    obtain ⟨n1, hn1⟩ : ∃ n, nwS z1 w5 z1.length = n := ⟨_, rfl⟩
    obtain ⟨n2, hn2⟩ : ∃ n, nwS z2 (nwI w5 z1.length) z2.length = n := ⟨_, rfl⟩
    rw [hn1] at N1 q1 l1
    rw [hn2] at N2 q2 l2
    obtain ⟨w7, hw7⟩ : ∃ x, nwI (nwI w5 z1.length) z2.length = x := ⟨_, rfl⟩
    rw [hw7] at N2
    obtain ⟨w6, hw6⟩ : ∃ x, nwI w5 z1.length = x := ⟨_, rfl⟩
    rw [hw6] at N1 N2
    have g1 : StOK b1 n1 := ⟨h1.brk, q1.ok h1.zs⟩
    have g2' : StOK b2 n2 := ⟨h2.brk, q2.ok h2.zs⟩
    refine dR1g N1 (j0 := 0) (j1 := 1) rfl (by simp [go_sem]) rfl rfl (dr_bel _ _) (zb _ _) (by decide) (by simp [go_sem]) (dr_bel _ _) (zb _ _) (by simp) (by simp [go_sem]) ?_
    simp only [go_sem, ren, rens]
    refine dR1g N2 (j0 := 0) (j1 := 2) rfl (by simp [go_sem]) rfl rfl (dr_bel _ _) (zb _ _) (by decide) (by simp [go_sem]) (dr_bel _ _) (zb _ _) (by simp) (by simp [go_sem]) ?_
    simp only [go_sem, ren, rens]
    have ka := Growth_run g1 (f := 300) (t := s) (by omega) (by omega)
    have kb := Growth_run h1 (f := 300) (t := s) (by omega) (by omega)
    have kw := nar_grow q1 h1.zs (f := 300) (t := s)
    have kp := Ans.lso (Strain_run g1 hthb ho) (args' := [stV b1 n1, .int .i64 th, .agg [.int .i64 f, .nilsl]]) ⟨.inl rfl, .inl rfl, .inr ⟨_, rfl, rfl⟩, trivial⟩
    have kq := Ans.lso (Strain_run h1 hthb ho) (args' := [stV b1 z1, .int .i64 th, .agg [.int .i64 f, .nilsl]]) ⟨.inl rfl, .inl rfl, .inr ⟨_, rfl, rfl⟩, trivial⟩
    have kv := Ans.lso (Judge_run h1 hthb ho hleft) (args' := [stV b1 z1, .int .i64 th, .agg [.int .i64 f, .nilsl], .int .i64 left]) ⟨.inl rfl, .inl rfl, .inr ⟨_, rfl, rfl⟩, .inl rfl, trivial⟩
    have ku := Ans.lso (Judge_run g1 hthb ho hleft) (args' := [stV b1 n1, .int .i64 th, .agg [.int .i64 f, .nilsl], .int .i64 left]) ⟨.inl rfl, .inl rfl, .inr ⟨_, rfl, rfl⟩, .inl rfl, trivial⟩
    rw [aftS_eq hok] at kp kq
    simp only [List.length_nil, legSs, List.range_zero, List.map_nil] at kp kq
    have ks := Seal_run h1 h2 (sE := s) (fr := 300) (by omega) (by omega)
    have kt := Seal_run g1 g2' (sE := s) (fr := 300) (by omega) (by omega)
    have jj := nar_judge q1 h1.zs (brk := b1) (left := left) hthb ho
    have js := nar_seal q1 h1.zs q2 h2.zs (k1 := b1) (k2 := b2) (s := s) (f := 300)
    have v1 := gFrom_val (brk := brkS b1 z1 th f left []) (hol := holS b1 z1 th f left []) (num := numS) (allT 0 f []).length 0
    have v2 := jFrom_val (z1 := z1) (z2 := z2) (sE := s) (lim := min b1 b2) ((s - 300).toNat + 1) 0
    have t1 := stays_of v1 jj.1 jj.2
    have t2 := stays_of v2 js.1 js.2
    rw [show gFrom (brkS b1 z1 th f left []) (holS b1 z1 th f left []) numS (allT 0 f []).length 0 = judR b1 z1 th f left [] from rfl] at t1
    rw [show jFrom z1 z2 s (min b1 b2) ((s - 300).toNat + 1) 0 = sealR b1 b2 z1 z2 s 300 from rfl] at t2
    clear v1 v2 jj js
    obtain ⟨V, hV⟩ : ∃ V, judR b1 z1 th f left [] = V := ⟨_, rfl⟩
    obtain ⟨W, hW⟩ : ∃ V, judR b1 n1 th f left [] = V := ⟨_, rfl⟩
    obtain ⟨S1, hS1⟩ : ∃ V, sealR b1 b2 z1 z2 s 300 = V := ⟨_, rfl⟩
    obtain ⟨S2, hS2⟩ : ∃ V, sealR b1 b2 n1 n2 s 300 = V := ⟨_, rfl⟩
    rw [hV] at kv t1
    rw [hW] at ku t1
    rw [hS1] at ks t2
    rw [hS2] at kt t2
    have kwy := within_yes kw
    obtain ⟨P, hP⟩ : ∃ P, groR n1 300 s = P := ⟨_, rfl⟩
    obtain ⟨Q, hQ⟩ : ∃ P, groR z1 300 s = P := ⟨_, rfl⟩
    rw [hP] at ka kwy
    rw [hQ] at kb kwy
    simp only [r2] at ka kb kwy
    refine cF ka 6 ⟨.inl (st_frz (g := true) rfl l1.symm), .inl rfl, .inl rfl, trivial⟩ ?_
    simp only [go_sem]
    refine cF kb 6 ⟨.inl (st_frz (g := true) rfl rfl), .inl rfl, .inl rfl, trivial⟩ ?_
    simp only [go_sem]
    refine cFN kp 6 ⟨.inl (st_frz (g := true) rfl l1.symm), .inl rfl, .inl rfl, trivial⟩ ?_ (hx := by rw [row_bel_cells]; simp only [go_sem]) (hxn := row_nv_cells _ _ trivial)
    simp only [go_sem, ren, rens]
    refine cFN kq 6 ⟨.inl (st_frz (g := true) rfl rfl), .inl rfl, .inl rfl, trivial⟩ ?_ (hx := by rw [row_bel_cells]; simp only [go_sem]) (hxn := row_nv_cells _ _ trivial)
    simp only [go_sem, ren, rens]
    refine cP kwy ?_
    simp only [go_sem]
    refine loop_body 400 k_law05_GlassNarrows_r18.eq_1 ?_
    simp only [go_sem]
    refine cF kv 6 ⟨.inl (st_frz (g := true) rfl rfl), .inl rfl, .inl rfl, .inl rfl, trivial⟩ ?_
    simp only [go_sem]
    refine cF ku 6 ⟨.inl (st_frz (g := true) rfl l1.symm), .inl rfl, .inl rfl, .inl rfl, trivial⟩ ?_
    simp only [go_sem]
    refine cF ks 6 ⟨.inl (st_frz (g := true) rfl rfl), .inl (st_frz (g := true) rfl rfl), .inl rfl, .inl rfl, trivial⟩ ?_
    simp only [go_sem]
    refine cF kt 6 ⟨.inl (st_frz (g := true) rfl l1.symm), .inl (st_frz (g := true) rfl l2.symm), .inl rfl, .inl rfl, trivial⟩ ?_
    simp only [go_sem]
    refine cP t1 ?_
    simp only [go_sem]
    refine cP t2 ?_
    simp only [go_sem]
    refine cP awake_ok ?_
    simp only [go_sem]
  · simp only [(slr_some (lgL_ne hne) true 2 _).1, (slr_some (lgL_ne hne) true 2 0).2]
    have hll : (lgL ls).length = ls.length := by simp [lgL]
    have lb : ∀ S : Nat → Prop, (Row.cells true 2 (ls.map Lg.v)).bel S := fun S => by rw [row_bel_cells]; simp only [go_sem]
    simp only [go_sem, hll, lgL]
    refine cD k1 ?_
    simp only [go_sem]
    refine cD k2 ?_
    simp only [go_sem]
    refine callE3 (leftOf_run w4 h1 hthb ho hne) (j0 := 0) (j1 := 1) (j2 := 5) rfl (by simp [go_sem]) rfl rfl rfl (dr_bel _ _) (zb _ _) (lb _) (by decide) (fun q hq => ⟨by simp only [go_sem], dr_bel _ _⟩) (by simp) (by simp) ?_
    rintro ⟨left, w5⟩ hleft
    dsimp only at hleft ⊢
    simp only [go_sem]
    have N1 := narrower_det w5 b1 h1.zs
    have N2 := narrower_det (nwI w5 z1.length) b2 h2.zs
    have q1 := nwS_nar h1.zs w5
    have q2 := nwS_nar h2.zs (nwI w5 z1.length)
    have l1 := nwS_len z1 w5 z1.length
    have l2 := nwS_len z2 (nwI w5 z1.length) z2.length
    obtain ⟨n1, hn1⟩ : ∃ n, nwS z1 w5 z1.length = n := ⟨_, rfl⟩
    obtain ⟨n2, hn2⟩ : ∃ n, nwS z2 (nwI w5 z1.length) z2.length = n := ⟨_, rfl⟩
    rw [hn1] at N1 q1 l1
    rw [hn2] at N2 q2 l2
    obtain ⟨w7, hw7⟩ : ∃ x, nwI (nwI w5 z1.length) z2.length = x := ⟨_, rfl⟩
    rw [hw7] at N2
    obtain ⟨w6, hw6⟩ : ∃ x, nwI w5 z1.length = x := ⟨_, rfl⟩
    rw [hw6] at N1 N2
    have g1 : StOK b1 n1 := ⟨h1.brk, q1.ok h1.zs⟩
    have g2' : StOK b2 n2 := ⟨h2.brk, q2.ok h2.zs⟩
    refine dR1g N1 (j0 := 0) (j1 := 1) rfl (by simp [go_sem]) rfl rfl (dr_bel _ _) (zb _ _) (by decide) (by simp [go_sem]) (dr_bel _ _) (zb _ _) (by simp) (by simp [go_sem]) ?_
    simp only [go_sem, ren, rens]
    refine dR1g N2 (j0 := 0) (j1 := 2) rfl (by simp [go_sem]) rfl rfl (dr_bel _ _) (zb _ _) (by decide) (by simp [go_sem]) (dr_bel _ _) (zb _ _) (by simp) (by simp [go_sem]) ?_
    simp only [go_sem, ren, rens]
    have ka := Growth_run g1 (f := 300) (t := s) (by omega) (by omega)
    have kb := Growth_run h1 (f := 300) (t := s) (by omega) (by omega)
    have kw := nar_grow q1 h1.zs (f := 300) (t := s)
    have kp := Strain_run g1 hthb ho
    have kq := Strain_run h1 hthb ho
    have kv := Judge_run h1 hthb ho hleft
    have ku := Judge_run g1 hthb ho hleft
    rw [aftS_eq hok] at kp kq
    have hst := fun i => nar_st q1 h1.zs hthb (ts := allT 0 f ls) (allT_ok ho.f hok) (allT 0 f (ls.take (i + 1))).length
    have hxl := legSs_len n1 th f ls ls.length
    have hyl := legSs_len z1 th f ls ls.length
    have hxg : ∀ i, i < ls.length → ((legSs n1 th f ls ls.length).map rv)[i]? = some (.agg [.int .i64 (legS n1 th f ls i).1, .int .i64 (legS n1 th f ls i).2]) := fun i hi => by rw [List.getElem?_map, legSs_get hi]; rfl
    have hyg : ∀ i, i < ls.length → ((legSs z1 th f ls ls.length).map rv)[i]? = some (.agg [.int .i64 (legS z1 th f ls i).1, .int .i64 (legS z1 th f ls i).2]) := fun i hi => by rw [List.getElem?_map, legSs_get hi]; rfl
    obtain ⟨XL, hXL⟩ : ∃ L, legSs n1 th f ls ls.length = L := ⟨_, rfl⟩
    obtain ⟨YL, hYL⟩ : ∃ L, legSs z1 th f ls ls.length = L := ⟨_, rfl⟩
    rw [hXL] at hxl hxg kp
    rw [hYL] at hyl hyg kq
    have ks := Seal_run h1 h2 (sE := s) (fr := 300) (by omega) (by omega)
    have kt := Seal_run g1 g2' (sE := s) (fr := 300) (by omega) (by omega)
    have jj := nar_judge q1 h1.zs (brk := b1) (left := left) hthb ho
    have js := nar_seal q1 h1.zs q2 h2.zs (k1 := b1) (k2 := b2) (s := s) (f := 300)
    have v1 := gFrom_val (brk := brkS b1 z1 th f left ls) (hol := holS b1 z1 th f left ls) (num := numS) (allT 0 f ls).length 0
    have v2 := jFrom_val (z1 := z1) (z2 := z2) (sE := s) (lim := min b1 b2) ((s - 300).toNat + 1) 0
    have t1 := stays_of v1 jj.1 jj.2
    have t2 := stays_of v2 js.1 js.2
    rw [show gFrom (brkS b1 z1 th f left ls) (holS b1 z1 th f left ls) numS (allT 0 f ls).length 0 = judR b1 z1 th f left ls from rfl] at t1
    rw [show jFrom z1 z2 s (min b1 b2) ((s - 300).toNat + 1) 0 = sealR b1 b2 z1 z2 s 300 from rfl] at t2
    clear v1 v2 jj js
    obtain ⟨V, hV⟩ : ∃ V, judR b1 z1 th f left ls = V := ⟨_, rfl⟩
    obtain ⟨W, hW⟩ : ∃ V, judR b1 n1 th f left ls = V := ⟨_, rfl⟩
    obtain ⟨S1, hS1⟩ : ∃ V, sealR b1 b2 z1 z2 s 300 = V := ⟨_, rfl⟩
    obtain ⟨S2, hS2⟩ : ∃ V, sealR b1 b2 n1 n2 s 300 = V := ⟨_, rfl⟩
    rw [hV] at kv t1
    rw [hW] at ku t1
    rw [hS1] at ks t2
    rw [hS2] at kt t2
    have kwy := within_yes kw
    obtain ⟨P, hP⟩ : ∃ P, groR n1 300 s = P := ⟨_, rfl⟩
    obtain ⟨Q, hQ⟩ : ∃ P, groR z1 300 s = P := ⟨_, rfl⟩
    rw [hP] at ka kwy
    rw [hQ] at kb kwy
    simp only [r2] at ka kb kwy
    refine cF ka 6 ⟨.inl (st_frz (g := true) rfl l1.symm), .inl rfl, .inl rfl, trivial⟩ ?_
    simp only [go_sem]
    refine cF kb 6 ⟨.inl (st_frz (g := true) rfl rfl), .inl rfl, .inl rfl, trivial⟩ ?_
    simp only [go_sem]
    refine cFN kp 6 ⟨.inl (st_frz (g := true) rfl l1.symm), .inl rfl, .inl (ov_frz (g := true) rfl rfl), trivial⟩ ?_ (hx := by rw [row_bel_cells]; simp only [rvs_bel]) (hxn := row_nv_cells _ _ (nvs_map _ _ fun z => by simp only [go_sem, rv, r2]))
    simp only [go_sem, ren, rens]
    refine cFN kq 6 ⟨.inl (st_frz (g := true) rfl rfl), .inl rfl, .inl (ov_frz (g := true) rfl rfl), trivial⟩ ?_ (hx := by rw [row_bel_cells]; simp only [rvs_bel]) (hxn := row_nv_cells _ _ (nvs_map _ _ fun z => by simp only [go_sem, rv, r2]))
    simp only [go_sem, ren, rens]
    refine cP kwy ?_
    simp only [go_sem]
    refine loop_indH k_law05_GlassNarrows_r18.eq_1 (fun i : Nat => i ≤ ls.length) (fun i => ls.length - i)
      (fun i => tsets 190 [(2, .bool false), (4, .ptr 3 0 0 1), (5, .ptr 4 0 0 1), (6, .ptr 6 0 0 1), (7, .int .i64 th), (8, .int .i64 s), (9, .int .i64 left), (10, .ptr 9 0 0 1), (11, .ptr 10 0 0 1), (16, .sl 13 0 ls.length), (18, .sl 14 0 ls.length), (20, .int .i64 i)]) 0 (Nat.zero_le _) (by simp [go_sem]) ?_
    intro i hi ih
    by_cases i1 : i < ls.length
    · have i2 : (i : Int) < ls.length := by omega
      have ht := hst i
      have w9 : IntKind.i64.wrap ((i : Int) + 1) = ((i + 1 : Nat) : Int) := by rw [w64 (by omega)]; rfl
      have ihn := ih (i + 1) (by omega) i1
      have kw2 := within_yes (a := (legS n1 th f ls i).1) (b := (legS n1 th f ls i).2) (c := (legS z1 th f ls i).1) (d := (legS z1 th f ls i).2) (by unfold legS; omega)
      simp only [r2] at kw2
      clear ih
      simp only [go_sem, i2, i1, hxg i i1, hyg i i1, hxl, hyl, List.length_map]
      refine cP kw2 ?_
      simp only [go_sem, w9]
      exact ihn _ (by simp [go_sem])
    · have i2 : ¬ (i : Int) < ls.length := by omega
      clear ih
      simp only [go_sem, i2]
      refine cF kv 6 ⟨.inl (st_frz (g := true) rfl rfl), .inl rfl, .inl (ov_frz (g := true) rfl rfl), .inl rfl, trivial⟩ ?_
      simp only [go_sem]
      refine cF ku 6 ⟨.inl (st_frz (g := true) rfl l1.symm), .inl rfl, .inl (ov_frz (g := true) rfl rfl), .inl rfl, trivial⟩ ?_
      simp only [go_sem]
      refine cF ks 6 ⟨.inl (st_frz (g := true) rfl rfl), .inl (st_frz (g := true) rfl rfl), .inl rfl, .inl rfl, trivial⟩ ?_
      simp only [go_sem]
      refine cF kt 6 ⟨.inl (st_frz (g := true) rfl l1.symm), .inl (st_frz (g := true) rfl l2.symm), .inl rfl, .inl rfl, trivial⟩ ?_
      simp only [go_sem]
      refine cP t1 ?_
      simp only [go_sem]
      refine cP t2 ?_
      simp only [go_sem]
      refine cP awake_ok ?_
      simp only [go_sem]
end Go.Proofs

