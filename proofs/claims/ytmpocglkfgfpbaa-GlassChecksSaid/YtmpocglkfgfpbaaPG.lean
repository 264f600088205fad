/- A part of the proof. -/
import Derived.Test.YtmpocglkfgfpbaaPF
set_option linter.unusedSimpArgs false
set_option linter.unusedVariables false
namespace Go.Proofs
open Go Go.Sx
attribute [local irreducible] Run

theorem get7 {Z T : Heap} {c0 c1 c2 c3 c4 c5 c6 : Option Row} {k : Nat} {row : Row} (h : Z[k]? = some (some row)) : (c0 :: c1 :: c2 :: c3 :: c4 :: c5 :: c6 :: (Z ++ T) : Heap)[k + 7]? = some (some row) := by
  simp only [List.getElem?_cons_succ]
  rw [List.getElem?_append_left (List.getElem?_eq_some_iff.1 h).1]; exact h
theorem get8 {Z T : Heap} {c0 c1 c2 c3 c4 c5 c6 c7 : Option Row} {k : Nat} {row : Row} (h : Z[k]? = some (some row)) : (c0 :: c1 :: c2 :: c3 :: c4 :: c5 :: c6 :: c7 :: (Z ++ T) : Heap)[k + 8]? = some (some row) := by
  simp only [List.getElem?_cons_succ]
  rw [List.getElem?_append_left (List.getElem?_eq_some_iff.1 h).1]; exact h
theorem ents_frzl {H : Heap} {F : FL} {j k n : Nat} (h : H[j]? = some (some (.cells true 3 (entsF k F)))) (hr : ∀ (m : Nat) (x : Bool × Fr), F[m]? = some x → H[k + m]? = some (some (rowF x))) (hn : n = F.length := by rfl) : frz 6 H (.sl j 0 n) = .view ((F.map (·.2)).map Fr.nv) := by
  rw [frz_sl (d := 5) h (by rw [entsF_len]; exact hn), ents_frz hr, List.map_map]; rfl
theorem getY {Y T : Heap} {k : Nat} {row : Row} (h : T[k]? = some (some row)) : (Y ++ T)[Y.length + k]? = some (some row) := by
  rw [List.getElem?_append_right (by omega), Nat.add_sub_cancel_left]; exact h
theorem stv_frz (H : Heap) (b : Int) (z : List Zn) : frz 6 H (.agg [.int .i64 b, .view (z.map Zn.v)]) = stV b z := by
  show AVal.agg [_, .view ((z.map Zn.v).map (frz 4 H))] = _
  rw [List.map_map]; rfl
theorem ovv_frz (H : Heap) (f : Int) (ls : List Lg) : frz 6 H (.agg [.int .i64 f, .view (ls.map Lg.v)]) = ovV f ls := by
  show AVal.agg [_, .view ((ls.map Lg.v).map (frz 4 H))] = _
  rw [List.map_map]; rfl
theorem frv_frz (H : Heap) (l : List Fr) : frz 6 H (.view (l.map Fr.v)) = .view (l.map Fr.v) := by
  show AVal.view ((l.map Fr.v).map (frz 5 H)) = _
  rw [List.map_map]
  congr 1
  refine List.map_congr_left fun r _ => ?_
  show AVal.agg [_, _, .view ((il r.bf).map (frz 3 H))] = _
  unfold il Fr.v
  rw [List.map_map]; rfl
theorem own_frzl {H : Heap} {l : List Fr} {j k n : Nat} (h : H[j]? = some (some (.cells true 3 (ownE k l)))) (hr : ∀ m r, l[m]? = some r → H[k + m]? = some (some (.cells true 1 (il r.bf)))) (hn : n = l.length := by rfl) : frz 6 H (.sl j 0 n) = .view (l.map Fr.v) := by
  rw [frz_sl (d := 5) h (by rw [ownE_len]; exact hn), own_frz hr]
theorem ownRow_ren (N : Nat) (l : List Fr) : Row.ren (fun i => N + i) (.cells true 3 (ownE 1 l)) = .cells true 3 (ownE (N + 1) l) := by
  show Row.cells true 3 (rens _ (ownE 1 l)) = _
  rw [rens_eq, ownE_ren (k0 := N + 1) fun m hm => by omega]
set_option maxHeartbeats 64000000 in
set_option maxRecDepth 20000 in
theorem checks_law (b0 : Int) (z0 : List Zn) (f0 : Int) (ls0 : List Lg) (l : List Fr) (ns : List Int) (zn : Zn) (lg : Lg) (hl : ns.length ≤ 9223372036854775807) (hz0 : z0.length ≤ 9223372036854775807) (hls0 : ls0.length ≤ 9223372036854775807) (hll : l.length ≤ 9223372036854775807) (hlb : ∀ r ∈ l, r.bf.length ≤ 9223372036854775807) :
    Ans Try.prog n_law05_GlassChecks [stV b0 z0, ovV f0 ls0, .view (l.map Fr.v), .view (ns.map (.int .i64)), zn.v, lg.v] [] (.bool true) [] := by
  obtain ⟨lb, klong, hlong⟩ := long_run l hlb hll
  refine spec_run e_law05_GlassChecks fun G => ?_
  by_cases c1 : (z0.length : Int) > 30
  · simp only [go_sem, stV, ovV, Zn.v, Zn.cs, Lg.v, c1, List.length_map]
    refine cP awake_ok ?_
    simp only [go_sem]
  by_cases c2 : (ls0.length : Int) > 30
  · simp only [go_sem, stV, ovV, Zn.v, Zn.cs, Lg.v, c1, c2, List.length_map]
    refine cP awake_ok ?_
    simp only [go_sem]
  cases lb with
  | true =>
    simp only [go_sem, stV, ovV, Zn.v, Zn.cs, Lg.v, c1, c2, List.length_map]
    refine cP klong ?_
    simp only [go_sem]
    refine cP awake_ok ?_
    simp only [go_sem]
  | false =>
  obtain ⟨hl12, hb20⟩ := hlong rfl
  simp only [go_sem, stV, ovV, Zn.v, Zn.cs, Lg.v, c1, c2, List.length_map]
  refine cP klong ?_
  simp only [go_sem]
  refine callN1 (newdice_ok ns hl) (by simp only [go_sem]) (dr_bel _ _) (by simp) (by simp) ?_
  generalize seedW ns = w
  simp only [go_sem]
  refine callDN (stuffOf_run w) rfl (by simp only [go_sem]) (dr_bel _ _) (fun a ha => ⟨by simp [go_sem], dr_bel _ _, by rw [row_bel_cells]; simp only [go_sem]⟩) (by simp) (by simp) ?_
  rintro ⟨brk, zs, w1⟩ h1
  dsimp only at h1 ⊢
  simp only [go_sem, ren, rens]
  refine callDSf (u := fun a : Int × List Lg × Int => .int .i64 a.1) (es := fun a => lgL a.2.1) (x' := fun a => Dr a.2.2) (ovenOf_run w1 22 50 (by decide) (by decide)) rfl (by simp only [go_sem]) (dr_bel _ _) (fun a ha => ⟨dr_bel _ _, by unfold lgL; simp only [go_sem], by simp only [go_sem]⟩) (by simp) (by simp) ?_
  rintro ⟨f, ls, w2⟩ ⟨hf, hl4, hok⟩
  dsimp only at hf hl4 hok ⊢
  have lz := h1.zs.len
  have kc := Check_raw5 b0 z0 (by omega)
  have rc := rCheck_raw5 b0 z0 (by omega)
  have kv := CheckOven_raw f0 ls0
  have rv0 := rCheckOven_raw f0 ls0
  have kfi := CheckFires_raw l (fun r hr => by have := hb20 r hr; omega)
  have rfi := rCheckFires_raw l (fun r hr => by have := hb20 r hr; omega)
  generalize stE b0 z0 = E1 at kc rc
  generalize ovE f0 ls0 = E2 at kv rv0
  generalize fiE l = E3 at kfi rfi
  have rc' := rc
  have rv' := rv0
  simp only [stV, ovV] at rc' rv'
  have ks := ownStuff_raw b0 z0 (by omega)
  have ko := ownOven_raw f0 ls0 (by omega)
  have kf := ownFires_run l (by omega) (fun r hr => by have := hb20 r hr; omega)
  simp only [stV, ovV] at ks ko
  by_cases hne : ls = []
  · subst hne
    simp only [(slr_none (lgL_nil rfl) true 2 _).1, (slr_none (lgL_nil rfl) true 2 0).2]
    simp only [go_sem]
    refine callFires (j := 4) (w := w2) (args := [.int .i64 9]) (firesOf_run w2 9 (by decide)) ?_ ?_ ?_ ?_ ?_
    · rfl
    · simp only [go_sem]
    · simp
    · simp
    rintro ⟨F, w3⟩ ⟨hF9, hFb⟩
    dsimp only at hF9 hFb ⊢
    by_cases hF : F = []
    · subst hF
      simp only [go_sem, if_true, entsF, slv]
      refine cD (one_ok w3 2 (by decide)) ?_
      by_cases o : upto w3 2 = 0
      · have o1 : (upto w3 2 == 0) = true := by rw [o]; rfl
        have uz := upto_in (w := dstep w3) (n := (zs.length : Int)) (by omega)
        simp only [go_sem, o1, List.length_map]
        have ku := upto_ok (dstep w3) (zs.length : Int) (by omega)
        refine dD (j := 4) ku ?_ (hms := by intro q hq; simp at hq) (hd := by simp [go_sem, dynOK, disj])
        obtain ⟨k, hk⟩ : ∃ k, upto (dstep w3) (zs.length : Int) = k := ⟨_, rfl⟩
        rw [hk] at uz ⊢
        have nk : ¬ k < 0 := by omega
        have nk2 : k.toNat < zs.length := by omega
        have ek : (List.map Zn.v zs).set k.toNat (.agg [.int .i64 zn.f, .int .i64 zn.glo, .int .i64 zn.ghi, .int .i64 zn.rlo, .int .i64 zn.rhi]) = (zs.set k.toNat zn).map Zn.v := by rw [List.map_set]; rfl
        obtain ⟨zk, hzk⟩ : ∃ z, zs[k.toNat]? = some z := ⟨_, List.getElem?_eq_getElem nk2⟩
        simp only [go_sem, nk, uz.2, nk2, hzk, Zn.v, Zn.cs, List.length_map]
        simp only [go_sem, ek]
        refine dN1 ks ?_ (by rw [row_bel_cells]; simp only [go_sem])
        simp only [go_sem, ren, rens]
        refine dN1 ko ?_ (by rw [row_bel_cells]; simp only [go_sem])
        simp only [go_sem, ren, rens]
        refine dNew kf (by simp only [go_sem]) (by simp [go_sem]) ⟨by rw [row_bel_cells]; exact ownE_bel (by simp [ownR_len]; omega), full_own _ _⟩ (by simp) (by simp [go_sem]) ?_
        rw [List.map_cons, ownR_ren, Option.map_some, ownRow_ren]
        obtain ⟨X, hX⟩ : ∃ X, ownR l = X := ⟨_, rfl⟩
        rw [hX]
        simp only [go_sem, ren, rens, List.length_cons]
        refine ⟨?_, ?_, ?_⟩
        · simp; exact disj_range (by simp; omega)
        · simp; exact disj_range (by simp; omega)
        have xg : ∀ (m : Nat) (r : Fr), l[m]? = some r → X[m]? = some (some (Row.cells true 1 (il r.bf))) := fun m r hm => by rw [← hX]; unfold ownR; rw [List.getElem?_map, hm]; rfl
        refine dF kc 6 [8] ?_ ?_
        · exact ⟨.inl (st_frz (g := true) rfl rfl), trivial⟩
        simp only [go_sem]
        refine cP rc' ?_
        simp only [go_sem, bne_self_eq_false]
        refine dF kv 6 [9] ?_ ?_
        · exact ⟨.inl (ov_frz (g := true) rfl rfl), trivial⟩
        simp only [go_sem]
        refine cP rv' ?_
        simp only [go_sem, bne_self_eq_false]
        refine dF kfi 6 (10 :: List.range' 11 l.length) ?_ ?_ (hd := by simp [dynOK])
        · exact ⟨.inl (own_frzl (onlyR_row rfl (by simp)) (fun m r hm => onlyR_row (by
            rw [show 11 + m = m + 1 + 1 + 1 + 1 + 1 + 1 + 1 + 1 + 1 + 1 + 1 by omega]
            simp only [List.getElem?_cons_succ]
            rw [List.getElem?_append_left (List.getElem?_eq_some_iff.1 (xg m r hm)).1]; exact xg m r hm) (List.mem_cons_of_mem _ (by rw [List.mem_range'_1]; have := (List.getElem?_eq_some_iff.1 hm).1; omega)))), trivial⟩
        simp only [go_sem]
        refine cP rfi ?_
        simp only [go_sem, bne_self_eq_false]
        have kc1 := Check_raw5 brk (zs.set k.toNat zn) (by simp; omega)
        have rc1 := rCheck_raw5 brk (zs.set k.toNat zn) (by simp; omega)
        generalize stE brk (zs.set k.toNat zn) = E4 at kc1 rc1
        have kv1 := Ans.lso (CheckOven_raw f []) (args' := [.agg [.int .i64 f, .nilsl]]) ⟨.inr ⟨_, rfl, rfl⟩, trivial⟩
        have rv1 := Ans.lso (rCheckOven_raw f []) (args' := [.agg [.int .i64 f, .nilsl]]) ⟨.inr ⟨_, rfl, rfl⟩, trivial⟩
        generalize ovE f [] = E5 at kv1 rv1
        have kf1 := CheckFires_raw [] (fun r hr => by simp at hr)
        have rf1 := rCheckFires_raw [] (fun r hr => by simp at hr)
        generalize fiE [] = E6 at kf1 rf1
        refine dF kc1 6 [5] ?_ ?_
        · exact ⟨.inl (st_frz (g := true) rfl (by simp)), trivial⟩
        simp only [go_sem]
        refine cF rc1 6 ?_ ?_
        · exact ⟨.inl (st_frz (g := true) rfl (by simp)), trivial⟩
        simp only [go_sem]
        refine dF kv1 6 [] ?_ ?_
        · exact ⟨.inl rfl, trivial⟩
        simp only [go_sem]
        refine cF rv1 6 ?_ ?_
        · exact ⟨.inl rfl, trivial⟩
        simp only [go_sem]
        refine dF kf1 6 [] ?_ ?_
        · exact ⟨.inr ⟨rfl, rfl⟩, trivial⟩
        simp only [go_sem]
        refine cF rf1 6 ?_ ?_
        · exact ⟨.inr ⟨rfl, rfl⟩, trivial⟩
        simp only [go_sem]
        refine cF (sameStuffs_run b0 z0 (by omega)) 6 ?_ ?_
        · exact ⟨.inl (st_frz (g := true) rfl rfl), .inl (stv_frz _ _ _), trivial⟩
        simp only [go_sem]
        refine cF (sameOvens_run f0 ls0 (by omega)) 6 ?_ ?_
        · exact ⟨.inl (ov_frz (g := true) rfl rfl), .inl (ovv_frz _ _ _), trivial⟩
        simp only [go_sem]
        refine cF (sameFires_run l (by omega) (fun r hr => by have := hb20 r hr; omega)) 6 ?_ ?_
        · exact ⟨.inl (own_frzl rfl (fun m r hm => by
            rw [show 11 + m = m + 1 + 1 + 1 + 1 + 1 + 1 + 1 + 1 + 1 + 1 + 1 by omega]
            simp only [List.getElem?_cons_succ]
            rw [List.getElem?_append_left (List.getElem?_eq_some_iff.1 (xg m r hm)).1]; exact xg m r hm)), .inl (frv_frz _ _), trivial⟩
        simp only [go_sem]
        refine cP awake_ok ?_
        simp only [go_sem]
      · have o1 : (upto w3 2 == 0) = false := beq_eq_false_iff_ne.2 o
        simp only [go_sem, o1]
        refine dN1 ks ?_ (by rw [row_bel_cells]; simp only [go_sem])
        simp only [go_sem, ren, rens]
        refine dN1 ko ?_ (by rw [row_bel_cells]; simp only [go_sem])
        simp only [go_sem, ren, rens]
        refine dNew kf (by simp only [go_sem]) (by simp [go_sem]) ⟨by rw [row_bel_cells]; exact ownE_bel (by simp [ownR_len]; omega), full_own _ _⟩ (by simp) (by simp [go_sem]) ?_
        rw [List.map_cons, ownR_ren, Option.map_some, ownRow_ren]
        obtain ⟨X, hX⟩ : ∃ X, ownR l = X := ⟨_, rfl⟩
        rw [hX]
        simp only [go_sem, ren, rens, List.length_cons]
        refine ⟨?_, ?_, ?_⟩
        · simp; exact disj_range (by simp; omega)
        · simp; exact disj_range (by simp; omega)
        have xg : ∀ (m : Nat) (r : Fr), l[m]? = some r → X[m]? = some (some (Row.cells true 1 (il r.bf))) := fun m r hm => by rw [← hX]; unfold ownR; rw [List.getElem?_map, hm]; rfl
        refine dF kc 6 [8] ?_ ?_
        · exact ⟨.inl (st_frz (g := true) rfl rfl), trivial⟩
        simp only [go_sem]
        refine cP rc' ?_
        simp only [go_sem, bne_self_eq_false]
        refine dF kv 6 [9] ?_ ?_
        · exact ⟨.inl (ov_frz (g := true) rfl rfl), trivial⟩
        simp only [go_sem]
        refine cP rv' ?_
        simp only [go_sem, bne_self_eq_false]
        refine dF kfi 6 (10 :: List.range' 11 l.length) ?_ ?_ (hd := by simp [dynOK])
        · exact ⟨.inl (own_frzl (onlyR_row rfl (by simp)) (fun m r hm => onlyR_row (by
            rw [show 11 + m = m + 1 + 1 + 1 + 1 + 1 + 1 + 1 + 1 + 1 + 1 + 1 by omega]
            simp only [List.getElem?_cons_succ]
            rw [List.getElem?_append_left (List.getElem?_eq_some_iff.1 (xg m r hm)).1]; exact xg m r hm) (List.mem_cons_of_mem _ (by rw [List.mem_range'_1]; have := (List.getElem?_eq_some_iff.1 hm).1; omega)))), trivial⟩
        simp only [go_sem]
        refine cP rfi ?_
        simp only [go_sem, bne_self_eq_false]
        have kc1 := Check_raw5 brk zs (by omega)
        have rc1 := rCheck_raw5 brk zs (by omega)
        generalize stE brk zs = E4 at kc1 rc1
        have kv1 := Ans.lso (CheckOven_raw f []) (args' := [.agg [.int .i64 f, .nilsl]]) ⟨.inr ⟨_, rfl, rfl⟩, trivial⟩
        have rv1 := Ans.lso (rCheckOven_raw f []) (args' := [.agg [.int .i64 f, .nilsl]]) ⟨.inr ⟨_, rfl, rfl⟩, trivial⟩
        generalize ovE f [] = E5 at kv1 rv1
        have kf1 := CheckFires_raw [] (fun r hr => by simp at hr)
        have rf1 := rCheckFires_raw [] (fun r hr => by simp at hr)
        generalize fiE [] = E6 at kf1 rf1
        refine dF kc1 6 [5] ?_ ?_
        · exact ⟨.inl (st_frz (g := true) rfl rfl), trivial⟩
        simp only [go_sem]
        refine cF rc1 6 ?_ ?_
        · exact ⟨.inl (st_frz (g := true) rfl rfl), trivial⟩
        simp only [go_sem]
        refine dF kv1 6 [] ?_ ?_
        · exact ⟨.inl rfl, trivial⟩
        simp only [go_sem]
        refine cF rv1 6 ?_ ?_
        · exact ⟨.inl rfl, trivial⟩
        simp only [go_sem]
        refine dF kf1 6 [] ?_ ?_
        · exact ⟨.inr ⟨rfl, rfl⟩, trivial⟩
        simp only [go_sem]
        refine cF rf1 6 ?_ ?_
        · exact ⟨.inr ⟨rfl, rfl⟩, trivial⟩
        simp only [go_sem]
        refine cF (sameStuffs_run b0 z0 (by omega)) 6 ?_ ?_
        · exact ⟨.inl (st_frz (g := true) rfl rfl), .inl (stv_frz _ _ _), trivial⟩
        simp only [go_sem]
        refine cF (sameOvens_run f0 ls0 (by omega)) 6 ?_ ?_
        · exact ⟨.inl (ov_frz (g := true) rfl rfl), .inl (ovv_frz _ _ _), trivial⟩
        simp only [go_sem]
        refine cF (sameFires_run l (by omega) (fun r hr => by have := hb20 r hr; omega)) 6 ?_ ?_
        · exact ⟨.inl (own_frzl rfl (fun m r hm => by
            rw [show 11 + m = m + 1 + 1 + 1 + 1 + 1 + 1 + 1 + 1 + 1 + 1 + 1 by omega]
            simp only [List.getElem?_cons_succ]
            rw [List.getElem?_append_left (List.getElem?_eq_some_iff.1 (xg m r hm)).1]; exact xg m r hm)), .inl (frv_frz _ _), trivial⟩
        simp only [go_sem]
        refine cP awake_ok ?_
        simp only [go_sem]
    · rw [if_neg hF]
      have hFe : entsF 7 F ≠ [] := fun e => hF (List.length_eq_zero_iff.1 (by rw [← entsF_len 7 F, e]; rfl))
      simp only [go_sem]
      rw [(slr_some hFe true 1 _).1, entsF_len]
      obtain ⟨Y, hY⟩ : ∃ Y, rws F = Y := ⟨_, rfl⟩
      rw [hY]
      simp only [go_sem, LR]
      refine cD (one_ok w3 2 (by decide)) ?_
      by_cases o : upto w3 2 = 0
      · have o1 : (upto w3 2 == 0) = true := by rw [o]; rfl
        have uz := upto_in (w := dstep w3) (n := (zs.length : Int)) (by omega)
        simp only [go_sem, o1, List.length_map]
        have ku := upto_ok (dstep w3) (zs.length : Int) (by omega)
        refine dD (j := 4) ku ?_ (hms := by intro q hq; simp at hq) (hd := by simp [go_sem, dynOK, disj])
        obtain ⟨k, hk⟩ : ∃ k, upto (dstep w3) (zs.length : Int) = k := ⟨_, rfl⟩
        rw [hk] at uz ⊢
        have nk : ¬ k < 0 := by omega
        have nk2 : k.toNat < zs.length := by omega
        have ek : (List.map Zn.v zs).set k.toNat (.agg [.int .i64 zn.f, .int .i64 zn.glo, .int .i64 zn.ghi, .int .i64 zn.rlo, .int .i64 zn.rhi]) = (zs.set k.toNat zn).map Zn.v := by rw [List.map_set]; rfl
        obtain ⟨zk, hzk⟩ : ∃ z, zs[k.toNat]? = some z := ⟨_, List.getElem?_eq_getElem nk2⟩
        simp only [go_sem, nk, uz.2, nk2, hzk, Zn.v, Zn.cs, List.length_map]
        simp only [go_sem, ek]
        refine dN1 ks ?_ (by rw [row_bel_cells]; simp only [go_sem])
        simp only [go_sem, ren, rens]
        refine dN1 ko ?_ (by rw [row_bel_cells]; simp only [go_sem])
        simp only [go_sem, ren, rens]
        refine dNew kf (by simp only [go_sem]) (by simp [go_sem]) ⟨by rw [row_bel_cells]; exact ownE_bel (by simp [ownR_len]; omega), full_own _ _⟩ (by simp) (by simp [go_sem]) ?_
        rw [List.map_cons, ownR_ren, Option.map_some, ownRow_ren]
        obtain ⟨X, hX⟩ : ∃ X, ownR l = X := ⟨_, rfl⟩
        rw [hX]
        simp only [List.cons_append, List.append_assoc, List.nil_append, List.length_cons, List.length_append, List.length_nil]
        obtain ⟨Z, hZ⟩ : ∃ Z : Heap, Y ++ some (Row.cells false 2 [.agg [.int .i64 brk, .sl 5 0 zs.length]]) :: some (Row.cells false 2 [.agg [.int .i64 f, .nilsl]]) :: some (Row.cells true 5 (z0.map Zn.v)) :: some (Row.cells true 2 (ls0.map Lg.v)) :: some (Row.cells true 3 (ownE (Y.length + 4 + 1 + 1 + 1 + 1 + 1 + 1 + 1 + 1) l)) :: X = Z := ⟨_, rfl⟩
        have en : List.length Y + (0 + 1 + 1 + 1 + 1) + 1 + 1 + 1 + 1 + 1 + 1 + 1 = Y.length + 4 + 1 + 1 + 1 + 1 + 1 + 1 + 1 := by omega
        simp only [en]
        rw [hZ]
        simp only [go_sem, ren, rens, Nat.add_zero]
        have hXl : X.length = l.length := by rw [← hX, ownR_len]
        have hYl : Y.length = F.length := by rw [← hY, rws_len]
        have hZl : Z.length = Y.length + (X.length + 5) := by rw [← hZ]; simp
        have z2 : Z[Y.length + 2]? = some (some (Row.cells true 5 (z0.map Zn.v))) := by rw [← hZ]; exact getY rfl
        have z3 : Z[Y.length + 3]? = some (some (Row.cells true 2 (ls0.map Lg.v))) := by rw [← hZ]; exact getY rfl
        have z4 : Z[Y.length + 4]? = some (some (Row.cells true 3 (ownE (Y.length + 12) l))) := by rw [← hZ]; exact getY rfl
        have z5 : ∀ (m : Nat) (r : Fr), l[m]? = some r → Z[Y.length + 5 + m]? = some (some (Row.cells true 1 (il r.bf))) := fun m r hm => by
          have xg : X[m]? = some (some (Row.cells true 1 (il r.bf))) := by rw [← hX]; unfold ownR; rw [List.getElem?_map, hm]; rfl
          rw [← hZ, show Y.length + 5 + m = Y.length + (m + 1 + 1 + 1 + 1 + 1) by omega]; exact getY (by simpa using xg)
        have zF : ∀ (m : Nat) (x : Bool × Fr), F[m]? = some x → Z[m]? = some (some (rowF x)) := fun m x hm => by
          have h := rws_get hm
          rw [hY] at h
          rw [← hZ, List.getElem?_append_left (List.getElem?_eq_some_iff.1 h).1]; exact h
        have z0' : Z[Y.length]? = some (some (Row.cells false 2 [.agg [.int .i64 brk, .sl 5 0 zs.length]])) := by rw [← hZ]; exact getY (k := 0) rfl
        have z1' : Z[Y.length + 1]? = some (some (Row.cells false 2 [.agg [.int .i64 f, .nilsl]])) := by rw [← hZ]; exact getY rfl
        have cz0 := fun T => cells_more (cells_at z0') T
        have cz1 := fun T => cells_more (cells_at z1') T
        refine ⟨?_, ?_, ?_⟩
        · simp only [Bool.and_eq_true, Bool.not_eq_true', beq_eq_false_iff_ne, ne_eq]
          exact ⟨by omega, by omega, by omega, by omega, disj_range (by simp; omega)⟩
        · simp only [Bool.and_eq_true, Bool.not_eq_true', beq_eq_false_iff_ne, ne_eq]
          exact ⟨by omega, by omega, by omega, by omega, disj_range (by simp; omega), by omega⟩
        refine dF kc 6 [Y.length + 9] ?_ ?_
        · exact ⟨.inl (st_frz (onlyR_row (get7 z2) (by simp)) rfl), trivial⟩
        simp only [go_sem, cz0, cz1]
        refine cP rc' ?_
        simp only [go_sem, bne_self_eq_false, cz0, cz1]
        refine dF kv 6 [Y.length + 10] ?_ ?_
        · exact ⟨.inl (ov_frz (onlyR_row (get7 z3) (by simp)) rfl), trivial⟩
        simp only [go_sem, cz0, cz1]
        refine cP rv' ?_
        simp only [go_sem, bne_self_eq_false, cz0, cz1]
        refine dF kfi 6 ((Y.length + 11) :: List.range' (Y.length + 12) l.length) ?_ ?_ (hd := by simp [dynOK])
        · exact ⟨.inl (own_frzl (onlyR_row (get7 z4) (by simp)) (fun m r hm => onlyR_row (by
            rw [show Y.length + 12 + m = Y.length + 5 + m + 7 by omega]; exact get7 (z5 m r hm)) (List.mem_cons_of_mem _ (by rw [List.mem_range'_1]; have := (List.getElem?_eq_some_iff.1 hm).1; omega)))), trivial⟩
        simp only [go_sem, cz0, cz1]
        refine cP rfi ?_
        simp only [go_sem, bne_self_eq_false, cz0, cz1]
        have kc1 := Check_raw5 brk (zs.set k.toNat zn) (by simp; omega)
        have rc1 := rCheck_raw5 brk (zs.set k.toNat zn) (by simp; omega)
        generalize stE brk (zs.set k.toNat zn) = E4 at kc1 rc1
        have kv1 := Ans.lso (CheckOven_raw f []) (args' := [.agg [.int .i64 f, .nilsl]]) ⟨.inr ⟨_, rfl, rfl⟩, trivial⟩
        have rv1 := Ans.lso (rCheckOven_raw f []) (args' := [.agg [.int .i64 f, .nilsl]]) ⟨.inr ⟨_, rfl, rfl⟩, trivial⟩
        generalize ovE f [] = E5 at kv1 rv1
        have hFb2 : ∀ r ∈ F.map (·.2), r.bf.length ≤ 1000000 := fun r hr => by
          obtain ⟨x, hx, rfl⟩ := List.mem_map.1 hr
          have := hFb x hx; omega
        have kf1 := Ans.fires (CheckFires_raw (F.map (·.2)) hFb2)
        have rf1 := Ans.fires (rCheckFires_raw (F.map (·.2)) hFb2)
        generalize fiE (F.map (·.2)) = E6 at kf1 rf1
        refine dF kc1 6 [5] ?_ ?_
        · exact ⟨.inl (st_frz (g := true) rfl (by simp)), trivial⟩
        simp only [go_sem, cz0, cz1]
        refine cF rc1 6 ?_ ?_
        · exact ⟨.inl (st_frz (g := true) rfl (by simp)), trivial⟩
        simp only [go_sem, cz0, cz1]
        refine dF kv1 6 [] ?_ ?_
        · exact ⟨.inl rfl, trivial⟩
        simp only [go_sem, cz0, cz1]
        refine cF rv1 6 ?_ ?_
        · exact ⟨.inl rfl, trivial⟩
        simp only [go_sem, cz0, cz1]
        refine dF kf1 6 (6 :: List.range' 7 F.length) ?_ ?_ (hd := by simp [dynOK])
        · exact ⟨.inl (ents_frzl (k := 7) (onlyR_row rfl (by simp)) (fun m x hm => onlyR_row (by
            rw [Nat.add_comm 7 m]; exact get7 (zF m x hm)) (List.mem_cons_of_mem _ (by rw [List.mem_range'_1]; have := (List.getElem?_eq_some_iff.1 hm).1; omega)))), trivial⟩
        simp only [go_sem, cz0, cz1]
        refine cF rf1 6 ?_ ?_
        · exact ⟨.inl (ents_frzl (k := 7) rfl (fun m x hm => by
            rw [Nat.add_comm 7 m]; exact get7 (zF m x hm))), trivial⟩
        simp only [go_sem, cz0, cz1]
        refine cF (sameStuffs_run b0 z0 (by omega)) 6 ?_ ?_
        · exact ⟨.inl (st_frz (get7 z2) rfl), .inl (stv_frz _ _ _), trivial⟩
        simp only [go_sem, cz0, cz1]
        refine cF (sameOvens_run f0 ls0 (by omega)) 6 ?_ ?_
        · exact ⟨.inl (ov_frz (get7 z3) rfl), .inl (ovv_frz _ _ _), trivial⟩
        simp only [go_sem, cz0, cz1]
        refine cF (sameFires_run l (by omega) (fun r hr => by have := hb20 r hr; omega)) 6 ?_ ?_
        · exact ⟨.inl (own_frzl (get7 z4) (fun m r hm => by
            rw [show Y.length + 12 + m = Y.length + 5 + m + 7 by omega]; exact get7 (z5 m r hm))), .inl (frv_frz _ _), trivial⟩
        simp only [go_sem, cz0, cz1]
        refine cP awake_ok ?_
        simp only [go_sem]
      · have o1 : (upto w3 2 == 0) = false := beq_eq_false_iff_ne.2 o
        simp only [go_sem, o1]
        refine dN1 ks ?_ (by rw [row_bel_cells]; simp only [go_sem])
        simp only [go_sem, ren, rens]
        refine dN1 ko ?_ (by rw [row_bel_cells]; simp only [go_sem])
        simp only [go_sem, ren, rens]
        refine dNew kf (by simp only [go_sem]) (by simp [go_sem]) ⟨by rw [row_bel_cells]; exact ownE_bel (by simp [ownR_len]; omega), full_own _ _⟩ (by simp) (by simp [go_sem]) ?_
        rw [List.map_cons, ownR_ren, Option.map_some, ownRow_ren]
        obtain ⟨X, hX⟩ : ∃ X, ownR l = X := ⟨_, rfl⟩
        rw [hX]
        simp only [List.cons_append, List.append_assoc, List.nil_append, List.length_cons, List.length_append, List.length_nil]
        obtain ⟨Z, hZ⟩ : ∃ Z : Heap, Y ++ some (Row.cells false 2 [.agg [.int .i64 brk, .sl 5 0 zs.length]]) :: some (Row.cells false 2 [.agg [.int .i64 f, .nilsl]]) :: some (Row.cells true 5 (z0.map Zn.v)) :: some (Row.cells true 2 (ls0.map Lg.v)) :: some (Row.cells true 3 (ownE (Y.length + 4 + 1 + 1 + 1 + 1 + 1 + 1 + 1 + 1) l)) :: X = Z := ⟨_, rfl⟩
        have en : List.length Y + (0 + 1 + 1 + 1 + 1) + 1 + 1 + 1 + 1 + 1 + 1 + 1 = Y.length + 4 + 1 + 1 + 1 + 1 + 1 + 1 + 1 := by omega
        simp only [en]
        rw [hZ]
        simp only [go_sem, ren, rens, Nat.add_zero]
        have hXl : X.length = l.length := by rw [← hX, ownR_len]
        have hYl : Y.length = F.length := by rw [← hY, rws_len]
        have hZl : Z.length = Y.length + (X.length + 5) := by rw [← hZ]; simp
        have z2 : Z[Y.length + 2]? = some (some (Row.cells true 5 (z0.map Zn.v))) := by rw [← hZ]; exact getY rfl
        have z3 : Z[Y.length + 3]? = some (some (Row.cells true 2 (ls0.map Lg.v))) := by rw [← hZ]; exact getY rfl
        have z4 : Z[Y.length + 4]? = some (some (Row.cells true 3 (ownE (Y.length + 12) l))) := by rw [← hZ]; exact getY rfl
        have z5 : ∀ (m : Nat) (r : Fr), l[m]? = some r → Z[Y.length + 5 + m]? = some (some (Row.cells true 1 (il r.bf))) := fun m r hm => by
          have xg : X[m]? = some (some (Row.cells true 1 (il r.bf))) := by rw [← hX]; unfold ownR; rw [List.getElem?_map, hm]; rfl
          rw [← hZ, show Y.length + 5 + m = Y.length + (m + 1 + 1 + 1 + 1 + 1) by omega]; exact getY (by simpa using xg)
        have zF : ∀ (m : Nat) (x : Bool × Fr), F[m]? = some x → Z[m]? = some (some (rowF x)) := fun m x hm => by
          have h := rws_get hm
          rw [hY] at h
          rw [← hZ, List.getElem?_append_left (List.getElem?_eq_some_iff.1 h).1]; exact h
        have z0' : Z[Y.length]? = some (some (Row.cells false 2 [.agg [.int .i64 brk, .sl 5 0 zs.length]])) := by rw [← hZ]; exact getY (k := 0) rfl
        have z1' : Z[Y.length + 1]? = some (some (Row.cells false 2 [.agg [.int .i64 f, .nilsl]])) := by rw [← hZ]; exact getY rfl
        have cz0 := fun T => cells_more (cells_at z0') T
        have cz1 := fun T => cells_more (cells_at z1') T
        refine ⟨?_, ?_, ?_⟩
        · simp only [Bool.and_eq_true, Bool.not_eq_true', beq_eq_false_iff_ne, ne_eq]
          exact ⟨by omega, by omega, by omega, by omega, disj_range (by simp; omega)⟩
        · simp only [Bool.and_eq_true, Bool.not_eq_true', beq_eq_false_iff_ne, ne_eq]
          exact ⟨by omega, by omega, by omega, by omega, disj_range (by simp; omega), by omega⟩
        refine dF kc 6 [Y.length + 9] ?_ ?_
        · exact ⟨.inl (st_frz (onlyR_row (get7 z2) (by simp)) rfl), trivial⟩
        simp only [go_sem, cz0, cz1]
        refine cP rc' ?_
        simp only [go_sem, bne_self_eq_false, cz0, cz1]
        refine dF kv 6 [Y.length + 10] ?_ ?_
        · exact ⟨.inl (ov_frz (onlyR_row (get7 z3) (by simp)) rfl), trivial⟩
        simp only [go_sem, cz0, cz1]
        refine cP rv' ?_
        simp only [go_sem, bne_self_eq_false, cz0, cz1]
        refine dF kfi 6 ((Y.length + 11) :: List.range' (Y.length + 12) l.length) ?_ ?_ (hd := by simp [dynOK])
        · exact ⟨.inl (own_frzl (onlyR_row (get7 z4) (by simp)) (fun m r hm => onlyR_row (by
            rw [show Y.length + 12 + m = Y.length + 5 + m + 7 by omega]; exact get7 (z5 m r hm)) (List.mem_cons_of_mem _ (by rw [List.mem_range'_1]; have := (List.getElem?_eq_some_iff.1 hm).1; omega)))), trivial⟩
        simp only [go_sem, cz0, cz1]
        refine cP rfi ?_
        simp only [go_sem, bne_self_eq_false, cz0, cz1]
        have kc1 := Check_raw5 brk zs (by omega)
        have rc1 := rCheck_raw5 brk zs (by omega)
        generalize stE brk zs = E4 at kc1 rc1
        have kv1 := Ans.lso (CheckOven_raw f []) (args' := [.agg [.int .i64 f, .nilsl]]) ⟨.inr ⟨_, rfl, rfl⟩, trivial⟩
        have rv1 := Ans.lso (rCheckOven_raw f []) (args' := [.agg [.int .i64 f, .nilsl]]) ⟨.inr ⟨_, rfl, rfl⟩, trivial⟩
        generalize ovE f [] = E5 at kv1 rv1
        have hFb2 : ∀ r ∈ F.map (·.2), r.bf.length ≤ 1000000 := fun r hr => by
          obtain ⟨x, hx, rfl⟩ := List.mem_map.1 hr
          have := hFb x hx; omega
        have kf1 := Ans.fires (CheckFires_raw (F.map (·.2)) hFb2)
        have rf1 := Ans.fires (rCheckFires_raw (F.map (·.2)) hFb2)
        generalize fiE (F.map (·.2)) = E6 at kf1 rf1
        refine dF kc1 6 [5] ?_ ?_
        · exact ⟨.inl (st_frz (g := true) rfl rfl), trivial⟩
        simp only [go_sem, cz0, cz1]
        refine cF rc1 6 ?_ ?_
        · exact ⟨.inl (st_frz (g := true) rfl rfl), trivial⟩
        simp only [go_sem, cz0, cz1]
        refine dF kv1 6 [] ?_ ?_
        · exact ⟨.inl rfl, trivial⟩
        simp only [go_sem, cz0, cz1]
        refine cF rv1 6 ?_ ?_
        · exact ⟨.inl rfl, trivial⟩
        simp only [go_sem, cz0, cz1]
        refine dF kf1 6 (6 :: List.range' 7 F.length) ?_ ?_ (hd := by simp [dynOK])
        · exact ⟨.inl (ents_frzl (k := 7) (onlyR_row rfl (by simp)) (fun m x hm => onlyR_row (by
            rw [Nat.add_comm 7 m]; exact get7 (zF m x hm)) (List.mem_cons_of_mem _ (by rw [List.mem_range'_1]; have := (List.getElem?_eq_some_iff.1 hm).1; omega)))), trivial⟩
        simp only [go_sem, cz0, cz1]
        refine cF rf1 6 ?_ ?_
        · exact ⟨.inl (ents_frzl (k := 7) rfl (fun m x hm => by
            rw [Nat.add_comm 7 m]; exact get7 (zF m x hm))), trivial⟩
        simp only [go_sem, cz0, cz1]
        refine cF (sameStuffs_run b0 z0 (by omega)) 6 ?_ ?_
        · exact ⟨.inl (st_frz (get7 z2) rfl), .inl (stv_frz _ _ _), trivial⟩
        simp only [go_sem, cz0, cz1]
        refine cF (sameOvens_run f0 ls0 (by omega)) 6 ?_ ?_
        · exact ⟨.inl (ov_frz (get7 z3) rfl), .inl (ovv_frz _ _ _), trivial⟩
        simp only [go_sem, cz0, cz1]
        refine cF (sameFires_run l (by omega) (fun r hr => by have := hb20 r hr; omega)) 6 ?_ ?_
        · exact ⟨.inl (own_frzl (get7 z4) (fun m r hm => by
            rw [show Y.length + 12 + m = Y.length + 5 + m + 7 by omega]; exact get7 (z5 m r hm))), .inl (frv_frz _ _), trivial⟩
        simp only [go_sem, cz0, cz1]
        refine cP awake_ok ?_
        simp only [go_sem]
  · simp only [(slr_some (lgL_ne hne) true 2 _).1, (slr_some (lgL_ne hne) true 2 0).2]
    have hll : (lgL ls).length = ls.length := by simp [lgL]
    have hpos' : 0 < ls.length := List.length_pos_iff.2 hne
    have hpos : (ls.length : Int) > 0 := by omega
    simp only [go_sem, hll, lgL]
    refine callFires (j := 4) (w := w2) (args := [.int .i64 9]) (firesOf_run w2 9 (by decide)) ?_ ?_ ?_ ?_ ?_
    · rfl
    · simp only [go_sem]
    · simp
    · simp
    rintro ⟨F, w3⟩ ⟨hF9, hFb⟩
    dsimp only at hF9 hFb ⊢
    by_cases hF : F = []
    · subst hF
      simp only [go_sem, if_true, entsF, slv]
      refine cD (one_ok w3 2 (by decide)) ?_
      by_cases o : upto w3 2 = 0
      · have o1 : (upto w3 2 == 0) = true := by rw [o]; rfl
        have uz := upto_in (w := dstep w3) (n := (zs.length : Int)) (by omega)
        simp only [go_sem, o1, List.length_map]
        have ku := upto_ok (dstep w3) (zs.length : Int) (by omega)
        refine dD (j := 4) ku ?_ (hms := by intro q hq; simp at hq) (hd := by simp [go_sem, dynOK, disj])
        obtain ⟨k, hk⟩ : ∃ k, upto (dstep w3) (zs.length : Int) = k := ⟨_, rfl⟩
        rw [hk] at uz ⊢
        have nk : ¬ k < 0 := by omega
        have nk2 : k.toNat < zs.length := by omega
        have ek : (List.map Zn.v zs).set k.toNat (.agg [.int .i64 zn.f, .int .i64 zn.glo, .int .i64 zn.ghi, .int .i64 zn.rlo, .int .i64 zn.rhi]) = (zs.set k.toNat zn).map Zn.v := by rw [List.map_set]; rfl
        obtain ⟨zk, hzk⟩ : ∃ z, zs[k.toNat]? = some z := ⟨_, List.getElem?_eq_getElem nk2⟩
        simp only [go_sem, nk, uz.2, nk2, hzk, Zn.v, Zn.cs, List.length_map]
        simp only [go_sem, ek, hpos]
        refine cD (one_ok (dstep (dstep w3)) 2 (by decide)) ?_
        by_cases o2 : upto (dstep (dstep w3)) 2 = 0
        · have o3 : (upto (dstep (dstep w3)) 2 == 0) = true := by rw [o2]; rfl
          have ul := upto_in (w := dstep (dstep (dstep w3))) (n := (ls.length : Int)) (by omega)
          simp only [go_sem, o3, List.length_map]
          have kul := upto_ok (dstep (dstep (dstep w3))) (ls.length : Int) (by omega)
          refine dD (j := 4) kul ?_ (hms := by intro q hq; simp at hq) (hd := by simp [go_sem, dynOK, disj])
          obtain ⟨kl, hkl⟩ : ∃ k, upto (dstep (dstep (dstep w3))) (ls.length : Int) = k := ⟨_, rfl⟩
          rw [hkl] at ul ⊢
          have nl : ¬ kl < 0 := by omega
          have nl2 : kl.toNat < ls.length := by omega
          have el : (List.map Lg.v ls).set kl.toNat (.agg [.int .i64 lg.tk, .int .i64 lg.ht]) = (ls.set kl.toNat lg).map Lg.v := by rw [List.map_set]; rfl
          obtain ⟨lk, hlk⟩ : ∃ z, ls[kl.toNat]? = some z := ⟨_, List.getElem?_eq_getElem nl2⟩
          simp only [go_sem, nl, ul.2, nl2, hlk, Lg.v, List.length_map, el]
          refine dN1 ks ?_ (by rw [row_bel_cells]; simp only [go_sem])
          simp only [go_sem, ren, rens]
          refine dN1 ko ?_ (by rw [row_bel_cells]; simp only [go_sem])
          simp only [go_sem, ren, rens]
          refine dNew kf (by simp only [go_sem]) (by simp [go_sem]) ⟨by rw [row_bel_cells]; exact ownE_bel (by simp [ownR_len]; omega), full_own _ _⟩ (by simp) (by simp [go_sem]) ?_
          rw [List.map_cons, ownR_ren, Option.map_some, ownRow_ren]
          obtain ⟨X, hX⟩ : ∃ X, ownR l = X := ⟨_, rfl⟩
          rw [hX]
          simp only [go_sem, ren, rens, List.length_cons]
          refine ⟨?_, ?_, ?_⟩
          · simp; exact disj_range (by simp; omega)
          · simp; exact disj_range (by simp; omega)
          have xg : ∀ (m : Nat) (r : Fr), l[m]? = some r → X[m]? = some (some (Row.cells true 1 (il r.bf))) := fun m r hm => by rw [← hX]; unfold ownR; rw [List.getElem?_map, hm]; rfl
          refine dF kc 6 [9] ?_ ?_
          · exact ⟨.inl (st_frz (g := true) rfl rfl), trivial⟩
          simp only [go_sem]
          refine cP rc' ?_
          simp only [go_sem, bne_self_eq_false]
          refine dF kv 6 [10] ?_ ?_
          · exact ⟨.inl (ov_frz (g := true) rfl rfl), trivial⟩
          simp only [go_sem]
          refine cP rv' ?_
          simp only [go_sem, bne_self_eq_false]
          refine dF kfi 6 (11 :: List.range' 12 l.length) ?_ ?_ (hd := by simp [dynOK])
          · exact ⟨.inl (own_frzl (onlyR_row rfl (by simp)) (fun m r hm => onlyR_row (by
              rw [show 12 + m = m + 1 + 1 + 1 + 1 + 1 + 1 + 1 + 1 + 1 + 1 + 1 + 1 by omega]
              simp only [List.getElem?_cons_succ]
              rw [List.getElem?_append_left (List.getElem?_eq_some_iff.1 (xg m r hm)).1]; exact xg m r hm) (List.mem_cons_of_mem _ (by rw [List.mem_range'_1]; have := (List.getElem?_eq_some_iff.1 hm).1; omega)))), trivial⟩
          simp only [go_sem]
          refine cP rfi ?_
          simp only [go_sem, bne_self_eq_false]
          have kc1 := Check_raw5 brk (zs.set k.toNat zn) (by simp; omega)
          have rc1 := rCheck_raw5 brk (zs.set k.toNat zn) (by simp; omega)
          generalize stE brk (zs.set k.toNat zn) = E4 at kc1 rc1
          have kv1 := CheckOven_raw f (ls.set kl.toNat lg)
          have rv1 := rCheckOven_raw f (ls.set kl.toNat lg)
          generalize ovE f (ls.set kl.toNat lg) = E5 at kv1 rv1
          have kf1 := CheckFires_raw [] (fun r hr => by simp at hr)
          have rf1 := rCheckFires_raw [] (fun r hr => by simp at hr)
          generalize fiE [] = E6 at kf1 rf1
          refine dF kc1 6 [5] ?_ ?_
          · exact ⟨.inl (st_frz (g := true) rfl (by simp)), trivial⟩
          simp only [go_sem]
          refine cF rc1 6 ?_ ?_
          · exact ⟨.inl (st_frz (g := true) rfl (by simp)), trivial⟩
          simp only [go_sem]
          refine dF kv1 6 [6] ?_ ?_
          · exact ⟨.inl (ov_frz (g := true) rfl (by simp)), trivial⟩
          simp only [go_sem]
          refine cF rv1 6 ?_ ?_
          · exact ⟨.inl (ov_frz (g := true) rfl (by simp)), trivial⟩
          simp only [go_sem]
          refine dF kf1 6 [] ?_ ?_
          · exact ⟨.inr ⟨rfl, rfl⟩, trivial⟩
          simp only [go_sem]
          refine cF rf1 6 ?_ ?_
          · exact ⟨.inr ⟨rfl, rfl⟩, trivial⟩
          simp only [go_sem]
          refine cF (sameStuffs_run b0 z0 (by omega)) 6 ?_ ?_
          · exact ⟨.inl (st_frz (g := true) rfl rfl), .inl (stv_frz _ _ _), trivial⟩
          simp only [go_sem]
          refine cF (sameOvens_run f0 ls0 (by omega)) 6 ?_ ?_
          · exact ⟨.inl (ov_frz (g := true) rfl rfl), .inl (ovv_frz _ _ _), trivial⟩
          simp only [go_sem]
          refine cF (sameFires_run l (by omega) (fun r hr => by have := hb20 r hr; omega)) 6 ?_ ?_
          · exact ⟨.inl (own_frzl rfl (fun m r hm => by
              rw [show 12 + m = m + 1 + 1 + 1 + 1 + 1 + 1 + 1 + 1 + 1 + 1 + 1 + 1 by omega]
              simp only [List.getElem?_cons_succ]
              rw [List.getElem?_append_left (List.getElem?_eq_some_iff.1 (xg m r hm)).1]; exact xg m r hm)), .inl (frv_frz _ _), trivial⟩
          simp only [go_sem]
          refine cP awake_ok ?_
          simp only [go_sem]
        · have o3 : (upto (dstep (dstep w3)) 2 == 0) = false := beq_eq_false_iff_ne.2 o2
          simp only [go_sem, o3]
          refine dN1 ks ?_ (by rw [row_bel_cells]; simp only [go_sem])
          simp only [go_sem, ren, rens]
          refine dN1 ko ?_ (by rw [row_bel_cells]; simp only [go_sem])
          simp only [go_sem, ren, rens]
          refine dNew kf (by simp only [go_sem]) (by simp [go_sem]) ⟨by rw [row_bel_cells]; exact ownE_bel (by simp [ownR_len]; omega), full_own _ _⟩ (by simp) (by simp [go_sem]) ?_
          rw [List.map_cons, ownR_ren, Option.map_some, ownRow_ren]
          obtain ⟨X, hX⟩ : ∃ X, ownR l = X := ⟨_, rfl⟩
          rw [hX]
          simp only [go_sem, ren, rens, List.length_cons]
          refine ⟨?_, ?_, ?_⟩
          · simp; exact disj_range (by simp; omega)
          · simp; exact disj_range (by simp; omega)
          have xg : ∀ (m : Nat) (r : Fr), l[m]? = some r → X[m]? = some (some (Row.cells true 1 (il r.bf))) := fun m r hm => by rw [← hX]; unfold ownR; rw [List.getElem?_map, hm]; rfl
          refine dF kc 6 [9] ?_ ?_
          · exact ⟨.inl (st_frz (g := true) rfl rfl), trivial⟩
          simp only [go_sem]
          refine cP rc' ?_
          simp only [go_sem, bne_self_eq_false]
          refine dF kv 6 [10] ?_ ?_
          · exact ⟨.inl (ov_frz (g := true) rfl rfl), trivial⟩
          simp only [go_sem]
          refine cP rv' ?_
          simp only [go_sem, bne_self_eq_false]
          refine dF kfi 6 (11 :: List.range' 12 l.length) ?_ ?_ (hd := by simp [dynOK])
          · exact ⟨.inl (own_frzl (onlyR_row rfl (by simp)) (fun m r hm => onlyR_row (by
              rw [show 12 + m = m + 1 + 1 + 1 + 1 + 1 + 1 + 1 + 1 + 1 + 1 + 1 + 1 by omega]
              simp only [List.getElem?_cons_succ]
              rw [List.getElem?_append_left (List.getElem?_eq_some_iff.1 (xg m r hm)).1]; exact xg m r hm) (List.mem_cons_of_mem _ (by rw [List.mem_range'_1]; have := (List.getElem?_eq_some_iff.1 hm).1; omega)))), trivial⟩
          simp only [go_sem]
          refine cP rfi ?_
          simp only [go_sem, bne_self_eq_false]
          have kc1 := Check_raw5 brk (zs.set k.toNat zn) (by simp; omega)
          have rc1 := rCheck_raw5 brk (zs.set k.toNat zn) (by simp; omega)
          generalize stE brk (zs.set k.toNat zn) = E4 at kc1 rc1
          have kv1 := CheckOven_raw f ls
          have rv1 := rCheckOven_raw f ls
          generalize ovE f ls = E5 at kv1 rv1
          have kf1 := CheckFires_raw [] (fun r hr => by simp at hr)
          have rf1 := rCheckFires_raw [] (fun r hr => by simp at hr)
          generalize fiE [] = E6 at kf1 rf1
          refine dF kc1 6 [5] ?_ ?_
          · exact ⟨.inl (st_frz (g := true) rfl (by simp)), trivial⟩
          simp only [go_sem]
          refine cF rc1 6 ?_ ?_
          · exact ⟨.inl (st_frz (g := true) rfl (by simp)), trivial⟩
          simp only [go_sem]
          refine dF kv1 6 [6] ?_ ?_
          · exact ⟨.inl (ov_frz (g := true) rfl rfl), trivial⟩
          simp only [go_sem]
          refine cF rv1 6 ?_ ?_
          · exact ⟨.inl (ov_frz (g := true) rfl rfl), trivial⟩
          simp only [go_sem]
          refine dF kf1 6 [] ?_ ?_
          · exact ⟨.inr ⟨rfl, rfl⟩, trivial⟩
          simp only [go_sem]
          refine cF rf1 6 ?_ ?_
          · exact ⟨.inr ⟨rfl, rfl⟩, trivial⟩
          simp only [go_sem]
          refine cF (sameStuffs_run b0 z0 (by omega)) 6 ?_ ?_
          · exact ⟨.inl (st_frz (g := true) rfl rfl), .inl (stv_frz _ _ _), trivial⟩
          simp only [go_sem]
          refine cF (sameOvens_run f0 ls0 (by omega)) 6 ?_ ?_
          · exact ⟨.inl (ov_frz (g := true) rfl rfl), .inl (ovv_frz _ _ _), trivial⟩
          simp only [go_sem]
          refine cF (sameFires_run l (by omega) (fun r hr => by have := hb20 r hr; omega)) 6 ?_ ?_
          · exact ⟨.inl (own_frzl rfl (fun m r hm => by
              rw [show 12 + m = m + 1 + 1 + 1 + 1 + 1 + 1 + 1 + 1 + 1 + 1 + 1 + 1 by omega]
              simp only [List.getElem?_cons_succ]
              rw [List.getElem?_append_left (List.getElem?_eq_some_iff.1 (xg m r hm)).1]; exact xg m r hm)), .inl (frv_frz _ _), trivial⟩
          simp only [go_sem]
          refine cP awake_ok ?_
          simp only [go_sem]
      · have o1 : (upto w3 2 == 0) = false := beq_eq_false_iff_ne.2 o
        simp only [go_sem, o1, hpos]
        refine cD (one_ok (dstep w3) 2 (by decide)) ?_
        by_cases o2 : upto (dstep w3) 2 = 0
        · have o3 : (upto (dstep w3) 2 == 0) = true := by rw [o2]; rfl
          have ul := upto_in (w := dstep (dstep w3)) (n := (ls.length : Int)) (by omega)
          simp only [go_sem, o3, List.length_map]
          have kul := upto_ok (dstep (dstep w3)) (ls.length : Int) (by omega)
          refine dD (j := 4) kul ?_ (hms := by intro q hq; simp at hq) (hd := by simp [go_sem, dynOK, disj])
          obtain ⟨kl, hkl⟩ : ∃ k, upto (dstep (dstep w3)) (ls.length : Int) = k := ⟨_, rfl⟩
          rw [hkl] at ul ⊢
          have nl : ¬ kl < 0 := by omega
          have nl2 : kl.toNat < ls.length := by omega
          have el : (List.map Lg.v ls).set kl.toNat (.agg [.int .i64 lg.tk, .int .i64 lg.ht]) = (ls.set kl.toNat lg).map Lg.v := by rw [List.map_set]; rfl
          obtain ⟨lk, hlk⟩ : ∃ z, ls[kl.toNat]? = some z := ⟨_, List.getElem?_eq_getElem nl2⟩
          simp only [go_sem, nl, ul.2, nl2, hlk, Lg.v, List.length_map, el]
          refine dN1 ks ?_ (by rw [row_bel_cells]; simp only [go_sem])
          simp only [go_sem, ren, rens]
          refine dN1 ko ?_ (by rw [row_bel_cells]; simp only [go_sem])
          simp only [go_sem, ren, rens]
          refine dNew kf (by simp only [go_sem]) (by simp [go_sem]) ⟨by rw [row_bel_cells]; exact ownE_bel (by simp [ownR_len]; omega), full_own _ _⟩ (by simp) (by simp [go_sem]) ?_
          rw [List.map_cons, ownR_ren, Option.map_some, ownRow_ren]
          obtain ⟨X, hX⟩ : ∃ X, ownR l = X := ⟨_, rfl⟩
          rw [hX]
          simp only [go_sem, ren, rens, List.length_cons]
          refine ⟨?_, ?_, ?_⟩
          · simp; exact disj_range (by simp; omega)
          · simp; exact disj_range (by simp; omega)
          have xg : ∀ (m : Nat) (r : Fr), l[m]? = some r → X[m]? = some (some (Row.cells true 1 (il r.bf))) := fun m r hm => by rw [← hX]; unfold ownR; rw [List.getElem?_map, hm]; rfl
          refine dF kc 6 [9] ?_ ?_
          · exact ⟨.inl (st_frz (g := true) rfl rfl), trivial⟩
          simp only [go_sem]
          refine cP rc' ?_
          simp only [go_sem, bne_self_eq_false]
          refine dF kv 6 [10] ?_ ?_
          · exact ⟨.inl (ov_frz (g := true) rfl rfl), trivial⟩
          simp only [go_sem]
          refine cP rv' ?_
          simp only [go_sem, bne_self_eq_false]
          refine dF kfi 6 (11 :: List.range' 12 l.length) ?_ ?_ (hd := by simp [dynOK])
          · exact ⟨.inl (own_frzl (onlyR_row rfl (by simp)) (fun m r hm => onlyR_row (by
              rw [show 12 + m = m + 1 + 1 + 1 + 1 + 1 + 1 + 1 + 1 + 1 + 1 + 1 + 1 by omega]
              simp only [List.getElem?_cons_succ]
              rw [List.getElem?_append_left (List.getElem?_eq_some_iff.1 (xg m r hm)).1]; exact xg m r hm) (List.mem_cons_of_mem _ (by rw [List.mem_range'_1]; have := (List.getElem?_eq_some_iff.1 hm).1; omega)))), trivial⟩
          simp only [go_sem]
          refine cP rfi ?_
          simp only [go_sem, bne_self_eq_false]
          have kc1 := Check_raw5 brk zs (by omega)
          have rc1 := rCheck_raw5 brk zs (by omega)
          generalize stE brk zs = E4 at kc1 rc1
          have kv1 := CheckOven_raw f (ls.set kl.toNat lg)
          have rv1 := rCheckOven_raw f (ls.set kl.toNat lg)
          generalize ovE f (ls.set kl.toNat lg) = E5 at kv1 rv1
          have kf1 := CheckFires_raw [] (fun r hr => by simp at hr)
          have rf1 := rCheckFires_raw [] (fun r hr => by simp at hr)
          generalize fiE [] = E6 at kf1 rf1
          refine dF kc1 6 [5] ?_ ?_
          · exact ⟨.inl (st_frz (g := true) rfl rfl), trivial⟩
          simp only [go_sem]
          refine cF rc1 6 ?_ ?_
          · exact ⟨.inl (st_frz (g := true) rfl rfl), trivial⟩
          simp only [go_sem]
          refine dF kv1 6 [6] ?_ ?_
          · exact ⟨.inl (ov_frz (g := true) rfl (by simp)), trivial⟩
          simp only [go_sem]
          refine cF rv1 6 ?_ ?_
          · exact ⟨.inl (ov_frz (g := true) rfl (by simp)), trivial⟩
          simp only [go_sem]
          refine dF kf1 6 [] ?_ ?_
          · exact ⟨.inr ⟨rfl, rfl⟩, trivial⟩
          simp only [go_sem]
          refine cF rf1 6 ?_ ?_
          · exact ⟨.inr ⟨rfl, rfl⟩, trivial⟩
          simp only [go_sem]
          refine cF (sameStuffs_run b0 z0 (by omega)) 6 ?_ ?_
          · exact ⟨.inl (st_frz (g := true) rfl rfl), .inl (stv_frz _ _ _), trivial⟩
          simp only [go_sem]
          refine cF (sameOvens_run f0 ls0 (by omega)) 6 ?_ ?_
          · exact ⟨.inl (ov_frz (g := true) rfl rfl), .inl (ovv_frz _ _ _), trivial⟩
          simp only [go_sem]
          refine cF (sameFires_run l (by omega) (fun r hr => by have := hb20 r hr; omega)) 6 ?_ ?_
          · exact ⟨.inl (own_frzl rfl (fun m r hm => by
              rw [show 12 + m = m + 1 + 1 + 1 + 1 + 1 + 1 + 1 + 1 + 1 + 1 + 1 + 1 by omega]
              simp only [List.getElem?_cons_succ]
              rw [List.getElem?_append_left (List.getElem?_eq_some_iff.1 (xg m r hm)).1]; exact xg m r hm)), .inl (frv_frz _ _), trivial⟩
          simp only [go_sem]
          refine cP awake_ok ?_
          simp only [go_sem]
        · have o3 : (upto (dstep w3) 2 == 0) = false := beq_eq_false_iff_ne.2 o2
          simp only [go_sem, o3]
          refine dN1 ks ?_ (by rw [row_bel_cells]; simp only [go_sem])
          simp only [go_sem, ren, rens]
          refine dN1 ko ?_ (by rw [row_bel_cells]; simp only [go_sem])
          simp only [go_sem, ren, rens]
          refine dNew kf (by simp only [go_sem]) (by simp [go_sem]) ⟨by rw [row_bel_cells]; exact ownE_bel (by simp [ownR_len]; omega), full_own _ _⟩ (by simp) (by simp [go_sem]) ?_
          rw [List.map_cons, ownR_ren, Option.map_some, ownRow_ren]
          obtain ⟨X, hX⟩ : ∃ X, ownR l = X := ⟨_, rfl⟩
          rw [hX]
          simp only [go_sem, ren, rens, List.length_cons]
          refine ⟨?_, ?_, ?_⟩
          · simp; exact disj_range (by simp; omega)
          · simp; exact disj_range (by simp; omega)
          have xg : ∀ (m : Nat) (r : Fr), l[m]? = some r → X[m]? = some (some (Row.cells true 1 (il r.bf))) := fun m r hm => by rw [← hX]; unfold ownR; rw [List.getElem?_map, hm]; rfl
          refine dF kc 6 [9] ?_ ?_
          · exact ⟨.inl (st_frz (g := true) rfl rfl), trivial⟩
          simp only [go_sem]
          refine cP rc' ?_
          simp only [go_sem, bne_self_eq_false]
          refine dF kv 6 [10] ?_ ?_
          · exact ⟨.inl (ov_frz (g := true) rfl rfl), trivial⟩
          simp only [go_sem]
          refine cP rv' ?_
          simp only [go_sem, bne_self_eq_false]
          refine dF kfi 6 (11 :: List.range' 12 l.length) ?_ ?_ (hd := by simp [dynOK])
          · exact ⟨.inl (own_frzl (onlyR_row rfl (by simp)) (fun m r hm => onlyR_row (by
              rw [show 12 + m = m + 1 + 1 + 1 + 1 + 1 + 1 + 1 + 1 + 1 + 1 + 1 + 1 by omega]
              simp only [List.getElem?_cons_succ]
              rw [List.getElem?_append_left (List.getElem?_eq_some_iff.1 (xg m r hm)).1]; exact xg m r hm) (List.mem_cons_of_mem _ (by rw [List.mem_range'_1]; have := (List.getElem?_eq_some_iff.1 hm).1; omega)))), trivial⟩
          simp only [go_sem]
          refine cP rfi ?_
          simp only [go_sem, bne_self_eq_false]
          have kc1 := Check_raw5 brk zs (by omega)
          have rc1 := rCheck_raw5 brk zs (by omega)
          generalize stE brk zs = E4 at kc1 rc1
          have kv1 := CheckOven_raw f ls
          have rv1 := rCheckOven_raw f ls
          generalize ovE f ls = E5 at kv1 rv1
          have kf1 := CheckFires_raw [] (fun r hr => by simp at hr)
          have rf1 := rCheckFires_raw [] (fun r hr => by simp at hr)
          generalize fiE [] = E6 at kf1 rf1
          refine dF kc1 6 [5] ?_ ?_
          · exact ⟨.inl (st_frz (g := true) rfl rfl), trivial⟩
          simp only [go_sem]
          refine cF rc1 6 ?_ ?_
          · exact ⟨.inl (st_frz (g := true) rfl rfl), trivial⟩
          simp only [go_sem]
          refine dF kv1 6 [6] ?_ ?_
          · exact ⟨.inl (ov_frz (g := true) rfl rfl), trivial⟩
          simp only [go_sem]
          refine cF rv1 6 ?_ ?_
          · exact ⟨.inl (ov_frz (g := true) rfl rfl), trivial⟩
          simp only [go_sem]
          refine dF kf1 6 [] ?_ ?_
          · exact ⟨.inr ⟨rfl, rfl⟩, trivial⟩
          simp only [go_sem]
          refine cF rf1 6 ?_ ?_
          · exact ⟨.inr ⟨rfl, rfl⟩, trivial⟩
          simp only [go_sem]
          refine cF (sameStuffs_run b0 z0 (by omega)) 6 ?_ ?_
          · exact ⟨.inl (st_frz (g := true) rfl rfl), .inl (stv_frz _ _ _), trivial⟩
          simp only [go_sem]
          refine cF (sameOvens_run f0 ls0 (by omega)) 6 ?_ ?_
          · exact ⟨.inl (ov_frz (g := true) rfl rfl), .inl (ovv_frz _ _ _), trivial⟩
          simp only [go_sem]
          refine cF (sameFires_run l (by omega) (fun r hr => by have := hb20 r hr; omega)) 6 ?_ ?_
          · exact ⟨.inl (own_frzl rfl (fun m r hm => by
              rw [show 12 + m = m + 1 + 1 + 1 + 1 + 1 + 1 + 1 + 1 + 1 + 1 + 1 + 1 by omega]
              simp only [List.getElem?_cons_succ]
              rw [List.getElem?_append_left (List.getElem?_eq_some_iff.1 (xg m r hm)).1]; exact xg m r hm)), .inl (frv_frz _ _), trivial⟩
          simp only [go_sem]
          refine cP awake_ok ?_
          simp only [go_sem]
    · rw [if_neg hF]
      have hFe : entsF 8 F ≠ [] := fun e => hF (List.length_eq_zero_iff.1 (by rw [← entsF_len 8 F, e]; rfl))
      simp only [go_sem]
      rw [(slr_some hFe true 1 _).1, entsF_len]
      obtain ⟨Y, hY⟩ : ∃ Y, rws F = Y := ⟨_, rfl⟩
      rw [hY]
      simp only [go_sem, LR]
      refine cD (one_ok w3 2 (by decide)) ?_
      by_cases o : upto w3 2 = 0
      · have o1 : (upto w3 2 == 0) = true := by rw [o]; rfl
        have uz := upto_in (w := dstep w3) (n := (zs.length : Int)) (by omega)
        simp only [go_sem, o1, List.length_map]
        have ku := upto_ok (dstep w3) (zs.length : Int) (by omega)
        refine dD (j := 4) ku ?_ (hms := by intro q hq; simp at hq) (hd := by simp [go_sem, dynOK, disj])
        obtain ⟨k, hk⟩ : ∃ k, upto (dstep w3) (zs.length : Int) = k := ⟨_, rfl⟩
        rw [hk] at uz ⊢
        have nk : ¬ k < 0 := by omega
        have nk2 : k.toNat < zs.length := by omega
        have ek : (List.map Zn.v zs).set k.toNat (.agg [.int .i64 zn.f, .int .i64 zn.glo, .int .i64 zn.ghi, .int .i64 zn.rlo, .int .i64 zn.rhi]) = (zs.set k.toNat zn).map Zn.v := by rw [List.map_set]; rfl
        obtain ⟨zk, hzk⟩ : ∃ z, zs[k.toNat]? = some z := ⟨_, List.getElem?_eq_getElem nk2⟩
        simp only [go_sem, nk, uz.2, nk2, hzk, Zn.v, Zn.cs, List.length_map]
        simp only [go_sem, ek, hpos]
        refine cD (one_ok (dstep (dstep w3)) 2 (by decide)) ?_
        by_cases o2 : upto (dstep (dstep w3)) 2 = 0
        · have o3 : (upto (dstep (dstep w3)) 2 == 0) = true := by rw [o2]; rfl
          have ul := upto_in (w := dstep (dstep (dstep w3))) (n := (ls.length : Int)) (by omega)
          simp only [go_sem, o3, List.length_map]
          have kul := upto_ok (dstep (dstep (dstep w3))) (ls.length : Int) (by omega)
          refine dD (j := 4) kul ?_ (hms := by intro q hq; simp at hq) (hd := by simp [go_sem, dynOK, disj])
          obtain ⟨kl, hkl⟩ : ∃ k, upto (dstep (dstep (dstep w3))) (ls.length : Int) = k := ⟨_, rfl⟩
          rw [hkl] at ul ⊢
          have nl : ¬ kl < 0 := by omega
          have nl2 : kl.toNat < ls.length := by omega
          have el : (List.map Lg.v ls).set kl.toNat (.agg [.int .i64 lg.tk, .int .i64 lg.ht]) = (ls.set kl.toNat lg).map Lg.v := by rw [List.map_set]; rfl
          obtain ⟨lk, hlk⟩ : ∃ z, ls[kl.toNat]? = some z := ⟨_, List.getElem?_eq_getElem nl2⟩
          simp only [go_sem, nl, ul.2, nl2, hlk, Lg.v, List.length_map, el]
          refine dN1 ks ?_ (by rw [row_bel_cells]; simp only [go_sem])
          simp only [go_sem, ren, rens]
          refine dN1 ko ?_ (by rw [row_bel_cells]; simp only [go_sem])
          simp only [go_sem, ren, rens]
          refine dNew kf (by simp only [go_sem]) (by simp [go_sem]) ⟨by rw [row_bel_cells]; exact ownE_bel (by simp [ownR_len]; omega), full_own _ _⟩ (by simp) (by simp [go_sem]) ?_
          rw [List.map_cons, ownR_ren, Option.map_some, ownRow_ren]
          obtain ⟨X, hX⟩ : ∃ X, ownR l = X := ⟨_, rfl⟩
          rw [hX]
          simp only [List.cons_append, List.append_assoc, List.nil_append, List.length_cons, List.length_append, List.length_nil]
          obtain ⟨Z, hZ⟩ : ∃ Z : Heap, Y ++ some (Row.cells false 2 [.agg [.int .i64 brk, .sl 5 0 zs.length]]) :: some (Row.cells false 2 [.agg [.int .i64 f, .sl 6 0 ls.length]]) :: some (Row.cells true 5 (z0.map Zn.v)) :: some (Row.cells true 2 (ls0.map Lg.v)) :: some (Row.cells true 3 (ownE (Y.length + 4 + 1 + 1 + 1 + 1 + 1 + 1 + 1 + 1 + 1) l)) :: X = Z := ⟨_, rfl⟩
          have en : List.length Y + (0 + 1 + 1 + 1 + 1) + 1 + 1 + 1 + 1 + 1 + 1 + 1 + 1 = Y.length + 4 + 1 + 1 + 1 + 1 + 1 + 1 + 1 + 1 := by omega
          simp only [en]
          rw [hZ]
          simp only [go_sem, ren, rens, Nat.add_zero]
          have hXl : X.length = l.length := by rw [← hX, ownR_len]
          have hYl : Y.length = F.length := by rw [← hY, rws_len]
          have hZl : Z.length = Y.length + (X.length + 5) := by rw [← hZ]; simp
          have z2 : Z[Y.length + 2]? = some (some (Row.cells true 5 (z0.map Zn.v))) := by rw [← hZ]; exact getY rfl
          have z3 : Z[Y.length + 3]? = some (some (Row.cells true 2 (ls0.map Lg.v))) := by rw [← hZ]; exact getY rfl
          have z4 : Z[Y.length + 4]? = some (some (Row.cells true 3 (ownE (Y.length + 13) l))) := by rw [← hZ]; exact getY rfl
          have z5 : ∀ (m : Nat) (r : Fr), l[m]? = some r → Z[Y.length + 5 + m]? = some (some (Row.cells true 1 (il r.bf))) := fun m r hm => by
            have xg : X[m]? = some (some (Row.cells true 1 (il r.bf))) := by rw [← hX]; unfold ownR; rw [List.getElem?_map, hm]; rfl
            rw [← hZ, show Y.length + 5 + m = Y.length + (m + 1 + 1 + 1 + 1 + 1) by omega]; exact getY (by simpa using xg)
          have zF : ∀ (m : Nat) (x : Bool × Fr), F[m]? = some x → Z[m]? = some (some (rowF x)) := fun m x hm => by
            have h := rws_get hm
            rw [hY] at h
            rw [← hZ, List.getElem?_append_left (List.getElem?_eq_some_iff.1 h).1]; exact h
          have z0' : Z[Y.length]? = some (some (Row.cells false 2 [.agg [.int .i64 brk, .sl 5 0 zs.length]])) := by rw [← hZ]; exact getY (k := 0) rfl
          have z1' : Z[Y.length + 1]? = some (some (Row.cells false 2 [.agg [.int .i64 f, .sl 6 0 ls.length]])) := by rw [← hZ]; exact getY rfl
          have cz0 := fun T => cells_more (cells_at z0') T
          have cz1 := fun T => cells_more (cells_at z1') T
          refine ⟨?_, ?_, ?_⟩
          · simp only [Bool.and_eq_true, Bool.not_eq_true', beq_eq_false_iff_ne, ne_eq]
            exact ⟨by omega, by omega, by omega, by omega, disj_range (by simp; omega)⟩
          · simp only [Bool.and_eq_true, Bool.not_eq_true', beq_eq_false_iff_ne, ne_eq]
            exact ⟨by omega, by omega, by omega, by omega, disj_range (by simp; omega), by omega⟩
          refine dF kc 6 [Y.length + 10] ?_ ?_
          · exact ⟨.inl (st_frz (onlyR_row (get8 z2) (by simp)) rfl), trivial⟩
          simp only [go_sem, cz0, cz1]
          refine cP rc' ?_
          simp only [go_sem, bne_self_eq_false, cz0, cz1]
          refine dF kv 6 [Y.length + 11] ?_ ?_
          · exact ⟨.inl (ov_frz (onlyR_row (get8 z3) (by simp)) rfl), trivial⟩
          simp only [go_sem, cz0, cz1]
          refine cP rv' ?_
          simp only [go_sem, bne_self_eq_false, cz0, cz1]
          refine dF kfi 6 ((Y.length + 12) :: List.range' (Y.length + 13) l.length) ?_ ?_ (hd := by simp [dynOK])
          · exact ⟨.inl (own_frzl (onlyR_row (get8 z4) (by simp)) (fun m r hm => onlyR_row (by
              rw [show Y.length + 13 + m = Y.length + 5 + m + 8 by omega]; exact get8 (z5 m r hm)) (List.mem_cons_of_mem _ (by rw [List.mem_range'_1]; have := (List.getElem?_eq_some_iff.1 hm).1; omega)))), trivial⟩
          simp only [go_sem, cz0, cz1]
          refine cP rfi ?_
          simp only [go_sem, bne_self_eq_false, cz0, cz1]
          have kc1 := Check_raw5 brk (zs.set k.toNat zn) (by simp; omega)
          have rc1 := rCheck_raw5 brk (zs.set k.toNat zn) (by simp; omega)
          generalize stE brk (zs.set k.toNat zn) = E4 at kc1 rc1
          have kv1 := CheckOven_raw f (ls.set kl.toNat lg)
          have rv1 := rCheckOven_raw f (ls.set kl.toNat lg)
          generalize ovE f (ls.set kl.toNat lg) = E5 at kv1 rv1
          have hFb2 : ∀ r ∈ F.map (·.2), r.bf.length ≤ 1000000 := fun r hr => by
            obtain ⟨x, hx, rfl⟩ := List.mem_map.1 hr
            have := hFb x hx; omega
          have kf1 := Ans.fires (CheckFires_raw (F.map (·.2)) hFb2)
          have rf1 := Ans.fires (rCheckFires_raw (F.map (·.2)) hFb2)
          generalize fiE (F.map (·.2)) = E6 at kf1 rf1
          refine dF kc1 6 [5] ?_ ?_
          · exact ⟨.inl (st_frz (g := true) rfl (by simp)), trivial⟩
          simp only [go_sem, cz0, cz1]
          refine cF rc1 6 ?_ ?_
          · exact ⟨.inl (st_frz (g := true) rfl (by simp)), trivial⟩
          simp only [go_sem, cz0, cz1]
          refine dF kv1 6 [6] ?_ ?_
          · exact ⟨.inl (ov_frz (g := true) rfl (by simp)), trivial⟩
          simp only [go_sem, cz0, cz1]
          refine cF rv1 6 ?_ ?_
          · exact ⟨.inl (ov_frz (g := true) rfl (by simp)), trivial⟩
          simp only [go_sem, cz0, cz1]
          refine dF kf1 6 (7 :: List.range' 8 F.length) ?_ ?_ (hd := by simp [dynOK])
          · exact ⟨.inl (ents_frzl (k := 8) (onlyR_row rfl (by simp)) (fun m x hm => onlyR_row (by
              rw [Nat.add_comm 8 m]; exact get8 (zF m x hm)) (List.mem_cons_of_mem _ (by rw [List.mem_range'_1]; have := (List.getElem?_eq_some_iff.1 hm).1; omega)))), trivial⟩
          simp only [go_sem, cz0, cz1]
          refine cF rf1 6 ?_ ?_
          · exact ⟨.inl (ents_frzl (k := 8) rfl (fun m x hm => by
              rw [Nat.add_comm 8 m]; exact get8 (zF m x hm))), trivial⟩
          simp only [go_sem, cz0, cz1]
          refine cF (sameStuffs_run b0 z0 (by omega)) 6 ?_ ?_
          · exact ⟨.inl (st_frz (get8 z2) rfl), .inl (stv_frz _ _ _), trivial⟩
          simp only [go_sem, cz0, cz1]
          refine cF (sameOvens_run f0 ls0 (by omega)) 6 ?_ ?_
          · exact ⟨.inl (ov_frz (get8 z3) rfl), .inl (ovv_frz _ _ _), trivial⟩
          simp only [go_sem, cz0, cz1]
          refine cF (sameFires_run l (by omega) (fun r hr => by have := hb20 r hr; omega)) 6 ?_ ?_
          · exact ⟨.inl (own_frzl (get8 z4) (fun m r hm => by
              rw [show Y.length + 13 + m = Y.length + 5 + m + 8 by omega]; exact get8 (z5 m r hm))), .inl (frv_frz _ _), trivial⟩
          simp only [go_sem, cz0, cz1]
          refine cP awake_ok ?_
          simp only [go_sem]
        · have o3 : (upto (dstep (dstep w3)) 2 == 0) = false := beq_eq_false_iff_ne.2 o2
          simp only [go_sem, o3]
          refine dN1 ks ?_ (by rw [row_bel_cells]; simp only [go_sem])
          simp only [go_sem, ren, rens]
          refine dN1 ko ?_ (by rw [row_bel_cells]; simp only [go_sem])
          simp only [go_sem, ren, rens]
          refine dNew kf (by simp only [go_sem]) (by simp [go_sem]) ⟨by rw [row_bel_cells]; exact ownE_bel (by simp [ownR_len]; omega), full_own _ _⟩ (by simp) (by simp [go_sem]) ?_
          rw [List.map_cons, ownR_ren, Option.map_some, ownRow_ren]
          obtain ⟨X, hX⟩ : ∃ X, ownR l = X := ⟨_, rfl⟩
          rw [hX]
          simp only [List.cons_append, List.append_assoc, List.nil_append, List.length_cons, List.length_append, List.length_nil]
          obtain ⟨Z, hZ⟩ : ∃ Z : Heap, Y ++ some (Row.cells false 2 [.agg [.int .i64 brk, .sl 5 0 zs.length]]) :: some (Row.cells false 2 [.agg [.int .i64 f, .sl 6 0 ls.length]]) :: some (Row.cells true 5 (z0.map Zn.v)) :: some (Row.cells true 2 (ls0.map Lg.v)) :: some (Row.cells true 3 (ownE (Y.length + 4 + 1 + 1 + 1 + 1 + 1 + 1 + 1 + 1 + 1) l)) :: X = Z := ⟨_, rfl⟩
          have en : List.length Y + (0 + 1 + 1 + 1 + 1) + 1 + 1 + 1 + 1 + 1 + 1 + 1 + 1 = Y.length + 4 + 1 + 1 + 1 + 1 + 1 + 1 + 1 + 1 := by omega
          simp only [en]
          rw [hZ]
          simp only [go_sem, ren, rens, Nat.add_zero]
          have hXl : X.length = l.length := by rw [← hX, ownR_len]
          have hYl : Y.length = F.length := by rw [← hY, rws_len]
          have hZl : Z.length = Y.length + (X.length + 5) := by rw [← hZ]; simp
          have z2 : Z[Y.length + 2]? = some (some (Row.cells true 5 (z0.map Zn.v))) := by rw [← hZ]; exact getY rfl
          have z3 : Z[Y.length + 3]? = some (some (Row.cells true 2 (ls0.map Lg.v))) := by rw [← hZ]; exact getY rfl
          have z4 : Z[Y.length + 4]? = some (some (Row.cells true 3 (ownE (Y.length + 13) l))) := by rw [← hZ]; exact getY rfl
          have z5 : ∀ (m : Nat) (r : Fr), l[m]? = some r → Z[Y.length + 5 + m]? = some (some (Row.cells true 1 (il r.bf))) := fun m r hm => by
            have xg : X[m]? = some (some (Row.cells true 1 (il r.bf))) := by rw [← hX]; unfold ownR; rw [List.getElem?_map, hm]; rfl
            rw [← hZ, show Y.length + 5 + m = Y.length + (m + 1 + 1 + 1 + 1 + 1) by omega]; exact getY (by simpa using xg)
          have zF : ∀ (m : Nat) (x : Bool × Fr), F[m]? = some x → Z[m]? = some (some (rowF x)) := fun m x hm => by
            have h := rws_get hm
            rw [hY] at h
            rw [← hZ, List.getElem?_append_left (List.getElem?_eq_some_iff.1 h).1]; exact h
          have z0' : Z[Y.length]? = some (some (Row.cells false 2 [.agg [.int .i64 brk, .sl 5 0 zs.length]])) := by rw [← hZ]; exact getY (k := 0) rfl
          have z1' : Z[Y.length + 1]? = some (some (Row.cells false 2 [.agg [.int .i64 f, .sl 6 0 ls.length]])) := by rw [← hZ]; exact getY rfl
          have cz0 := fun T => cells_more (cells_at z0') T
          have cz1 := fun T => cells_more (cells_at z1') T
          refine ⟨?_, ?_, ?_⟩
          · simp only [Bool.and_eq_true, Bool.not_eq_true', beq_eq_false_iff_ne, ne_eq]
            exact ⟨by omega, by omega, by omega, by omega, disj_range (by simp; omega)⟩
          · simp only [Bool.and_eq_true, Bool.not_eq_true', beq_eq_false_iff_ne, ne_eq]
            exact ⟨by omega, by omega, by omega, by omega, disj_range (by simp; omega), by omega⟩
          refine dF kc 6 [Y.length + 10] ?_ ?_
          · exact ⟨.inl (st_frz (onlyR_row (get8 z2) (by simp)) rfl), trivial⟩
          simp only [go_sem, cz0, cz1]
          refine cP rc' ?_
          simp only [go_sem, bne_self_eq_false, cz0, cz1]
          refine dF kv 6 [Y.length + 11] ?_ ?_
          · exact ⟨.inl (ov_frz (onlyR_row (get8 z3) (by simp)) rfl), trivial⟩
          simp only [go_sem, cz0, cz1]
          refine cP rv' ?_
          simp only [go_sem, bne_self_eq_false, cz0, cz1]
          refine dF kfi 6 ((Y.length + 12) :: List.range' (Y.length + 13) l.length) ?_ ?_ (hd := by simp [dynOK])
          · exact ⟨.inl (own_frzl (onlyR_row (get8 z4) (by simp)) (fun m r hm => onlyR_row (by
              rw [show Y.length + 13 + m = Y.length + 5 + m + 8 by omega]; exact get8 (z5 m r hm)) (List.mem_cons_of_mem _ (by rw [List.mem_range'_1]; have := (List.getElem?_eq_some_iff.1 hm).1; omega)))), trivial⟩
          simp only [go_sem, cz0, cz1]
          refine cP rfi ?_
          simp only [go_sem, bne_self_eq_false, cz0, cz1]
          have kc1 := Check_raw5 brk (zs.set k.toNat zn) (by simp; omega)
          have rc1 := rCheck_raw5 brk (zs.set k.toNat zn) (by simp; omega)
          generalize stE brk (zs.set k.toNat zn) = E4 at kc1 rc1
          have kv1 := CheckOven_raw f ls
          have rv1 := rCheckOven_raw f ls
          generalize ovE f ls = E5 at kv1 rv1
          have hFb2 : ∀ r ∈ F.map (·.2), r.bf.length ≤ 1000000 := fun r hr => by
            obtain ⟨x, hx, rfl⟩ := List.mem_map.1 hr
            have := hFb x hx; omega
          have kf1 := Ans.fires (CheckFires_raw (F.map (·.2)) hFb2)
          have rf1 := Ans.fires (rCheckFires_raw (F.map (·.2)) hFb2)
          generalize fiE (F.map (·.2)) = E6 at kf1 rf1
          refine dF kc1 6 [5] ?_ ?_
          · exact ⟨.inl (st_frz (g := true) rfl (by simp)), trivial⟩
          simp only [go_sem, cz0, cz1]
          refine cF rc1 6 ?_ ?_
          · exact ⟨.inl (st_frz (g := true) rfl (by simp)), trivial⟩
          simp only [go_sem, cz0, cz1]
          refine dF kv1 6 [6] ?_ ?_
          · exact ⟨.inl (ov_frz (g := true) rfl rfl), trivial⟩
          simp only [go_sem, cz0, cz1]
          refine cF rv1 6 ?_ ?_
          · exact ⟨.inl (ov_frz (g := true) rfl rfl), trivial⟩
          simp only [go_sem, cz0, cz1]
          refine dF kf1 6 (7 :: List.range' 8 F.length) ?_ ?_ (hd := by simp [dynOK])
          · exact ⟨.inl (ents_frzl (k := 8) (onlyR_row rfl (by simp)) (fun m x hm => onlyR_row (by
              rw [Nat.add_comm 8 m]; exact get8 (zF m x hm)) (List.mem_cons_of_mem _ (by rw [List.mem_range'_1]; have := (List.getElem?_eq_some_iff.1 hm).1; omega)))), trivial⟩
          simp only [go_sem, cz0, cz1]
          refine cF rf1 6 ?_ ?_
          · exact ⟨.inl (ents_frzl (k := 8) rfl (fun m x hm => by
              rw [Nat.add_comm 8 m]; exact get8 (zF m x hm))), trivial⟩
          simp only [go_sem, cz0, cz1]
          refine cF (sameStuffs_run b0 z0 (by omega)) 6 ?_ ?_
          · exact ⟨.inl (st_frz (get8 z2) rfl), .inl (stv_frz _ _ _), trivial⟩
          simp only [go_sem, cz0, cz1]
          refine cF (sameOvens_run f0 ls0 (by omega)) 6 ?_ ?_
          · exact ⟨.inl (ov_frz (get8 z3) rfl), .inl (ovv_frz _ _ _), trivial⟩
          simp only [go_sem, cz0, cz1]
          refine cF (sameFires_run l (by omega) (fun r hr => by have := hb20 r hr; omega)) 6 ?_ ?_
          · exact ⟨.inl (own_frzl (get8 z4) (fun m r hm => by
              rw [show Y.length + 13 + m = Y.length + 5 + m + 8 by omega]; exact get8 (z5 m r hm))), .inl (frv_frz _ _), trivial⟩
          simp only [go_sem, cz0, cz1]
          refine cP awake_ok ?_
          simp only [go_sem]
      · have o1 : (upto w3 2 == 0) = false := beq_eq_false_iff_ne.2 o
        simp only [go_sem, o1, hpos]
        refine cD (one_ok (dstep w3) 2 (by decide)) ?_
        by_cases o2 : upto (dstep w3) 2 = 0
        · have o3 : (upto (dstep w3) 2 == 0) = true := by rw [o2]; rfl
          have ul := upto_in (w := dstep (dstep w3)) (n := (ls.length : Int)) (by omega)
          simp only [go_sem, o3, List.length_map]
          have kul := upto_ok (dstep (dstep w3)) (ls.length : Int) (by omega)
          refine dD (j := 4) kul ?_ (hms := by intro q hq; simp at hq) (hd := by simp [go_sem, dynOK, disj])
          obtain ⟨kl, hkl⟩ : ∃ k, upto (dstep (dstep w3)) (ls.length : Int) = k := ⟨_, rfl⟩
          rw [hkl] at ul ⊢
          have nl : ¬ kl < 0 := by omega
          have nl2 : kl.toNat < ls.length := by omega
          have el : (List.map Lg.v ls).set kl.toNat (.agg [.int .i64 lg.tk, .int .i64 lg.ht]) = (ls.set kl.toNat lg).map Lg.v := by rw [List.map_set]; rfl
          obtain ⟨lk, hlk⟩ : ∃ z, ls[kl.toNat]? = some z := ⟨_, List.getElem?_eq_getElem nl2⟩
          simp only [go_sem, nl, ul.2, nl2, hlk, Lg.v, List.length_map, el]
          refine dN1 ks ?_ (by rw [row_bel_cells]; simp only [go_sem])
          simp only [go_sem, ren, rens]
          refine dN1 ko ?_ (by rw [row_bel_cells]; simp only [go_sem])
          simp only [go_sem, ren, rens]
          refine dNew kf (by simp only [go_sem]) (by simp [go_sem]) ⟨by rw [row_bel_cells]; exact ownE_bel (by simp [ownR_len]; omega), full_own _ _⟩ (by simp) (by simp [go_sem]) ?_
          rw [List.map_cons, ownR_ren, Option.map_some, ownRow_ren]
          obtain ⟨X, hX⟩ : ∃ X, ownR l = X := ⟨_, rfl⟩
          rw [hX]
          simp only [List.cons_append, List.append_assoc, List.nil_append, List.length_cons, List.length_append, List.length_nil]
          obtain ⟨Z, hZ⟩ : ∃ Z : Heap, Y ++ some (Row.cells false 2 [.agg [.int .i64 brk, .sl 5 0 zs.length]]) :: some (Row.cells false 2 [.agg [.int .i64 f, .sl 6 0 ls.length]]) :: some (Row.cells true 5 (z0.map Zn.v)) :: some (Row.cells true 2 (ls0.map Lg.v)) :: some (Row.cells true 3 (ownE (Y.length + 4 + 1 + 1 + 1 + 1 + 1 + 1 + 1 + 1 + 1) l)) :: X = Z := ⟨_, rfl⟩
          have en : List.length Y + (0 + 1 + 1 + 1 + 1) + 1 + 1 + 1 + 1 + 1 + 1 + 1 + 1 = Y.length + 4 + 1 + 1 + 1 + 1 + 1 + 1 + 1 + 1 := by omega
          simp only [en]
          rw [hZ]
          simp only [go_sem, ren, rens, Nat.add_zero]
          have hXl : X.length = l.length := by rw [← hX, ownR_len]
          have hYl : Y.length = F.length := by rw [← hY, rws_len]
          have hZl : Z.length = Y.length + (X.length + 5) := by rw [← hZ]; simp
          have z2 : Z[Y.length + 2]? = some (some (Row.cells true 5 (z0.map Zn.v))) := by rw [← hZ]; exact getY rfl
          have z3 : Z[Y.length + 3]? = some (some (Row.cells true 2 (ls0.map Lg.v))) := by rw [← hZ]; exact getY rfl
          have z4 : Z[Y.length + 4]? = some (some (Row.cells true 3 (ownE (Y.length + 13) l))) := by rw [← hZ]; exact getY rfl
          have z5 : ∀ (m : Nat) (r : Fr), l[m]? = some r → Z[Y.length + 5 + m]? = some (some (Row.cells true 1 (il r.bf))) := fun m r hm => by
            have xg : X[m]? = some (some (Row.cells true 1 (il r.bf))) := by rw [← hX]; unfold ownR; rw [List.getElem?_map, hm]; rfl
            rw [← hZ, show Y.length + 5 + m = Y.length + (m + 1 + 1 + 1 + 1 + 1) by omega]; exact getY (by simpa using xg)
          have zF : ∀ (m : Nat) (x : Bool × Fr), F[m]? = some x → Z[m]? = some (some (rowF x)) := fun m x hm => by
            have h := rws_get hm
            rw [hY] at h
            rw [← hZ, List.getElem?_append_left (List.getElem?_eq_some_iff.1 h).1]; exact h
          have z0' : Z[Y.length]? = some (some (Row.cells false 2 [.agg [.int .i64 brk, .sl 5 0 zs.length]])) := by rw [← hZ]; exact getY (k := 0) rfl
          have z1' : Z[Y.length + 1]? = some (some (Row.cells false 2 [.agg [.int .i64 f, .sl 6 0 ls.length]])) := by rw [← hZ]; exact getY rfl
          have cz0 := fun T => cells_more (cells_at z0') T
          have cz1 := fun T => cells_more (cells_at z1') T
          refine ⟨?_, ?_, ?_⟩
          · simp only [Bool.and_eq_true, Bool.not_eq_true', beq_eq_false_iff_ne, ne_eq]
            exact ⟨by omega, by omega, by omega, by omega, disj_range (by simp; omega)⟩
          · simp only [Bool.and_eq_true, Bool.not_eq_true', beq_eq_false_iff_ne, ne_eq]
            exact ⟨by omega, by omega, by omega, by omega, disj_range (by simp; omega), by omega⟩
          refine dF kc 6 [Y.length + 10] ?_ ?_
          · exact ⟨.inl (st_frz (onlyR_row (get8 z2) (by simp)) rfl), trivial⟩
          simp only [go_sem, cz0, cz1]
          refine cP rc' ?_
          simp only [go_sem, bne_self_eq_false, cz0, cz1]
          refine dF kv 6 [Y.length + 11] ?_ ?_
          · exact ⟨.inl (ov_frz (onlyR_row (get8 z3) (by simp)) rfl), trivial⟩
          simp only [go_sem, cz0, cz1]
          refine cP rv' ?_
          simp only [go_sem, bne_self_eq_false, cz0, cz1]
          refine dF kfi 6 ((Y.length + 12) :: List.range' (Y.length + 13) l.length) ?_ ?_ (hd := by simp [dynOK])
          · exact ⟨.inl (own_frzl (onlyR_row (get8 z4) (by simp)) (fun m r hm => onlyR_row (by
              rw [show Y.length + 13 + m = Y.length + 5 + m + 8 by omega]; exact get8 (z5 m r hm)) (List.mem_cons_of_mem _ (by rw [List.mem_range'_1]; have := (List.getElem?_eq_some_iff.1 hm).1; omega)))), trivial⟩
          simp only [go_sem, cz0, cz1]
          refine cP rfi ?_
          simp only [go_sem, bne_self_eq_false, cz0, cz1]
          have kc1 := Check_raw5 brk zs (by omega)
          have rc1 := rCheck_raw5 brk zs (by omega)
          generalize stE brk zs = E4 at kc1 rc1
          have kv1 := CheckOven_raw f (ls.set kl.toNat lg)
          have rv1 := rCheckOven_raw f (ls.set kl.toNat lg)
          generalize ovE f (ls.set kl.toNat lg) = E5 at kv1 rv1
          have hFb2 : ∀ r ∈ F.map (·.2), r.bf.length ≤ 1000000 := fun r hr => by
            obtain ⟨x, hx, rfl⟩ := List.mem_map.1 hr
            have := hFb x hx; omega
          have kf1 := Ans.fires (CheckFires_raw (F.map (·.2)) hFb2)
          have rf1 := Ans.fires (rCheckFires_raw (F.map (·.2)) hFb2)
          generalize fiE (F.map (·.2)) = E6 at kf1 rf1
          refine dF kc1 6 [5] ?_ ?_
          · exact ⟨.inl (st_frz (g := true) rfl rfl), trivial⟩
          simp only [go_sem, cz0, cz1]
          refine cF rc1 6 ?_ ?_
          · exact ⟨.inl (st_frz (g := true) rfl rfl), trivial⟩
          simp only [go_sem, cz0, cz1]
          refine dF kv1 6 [6] ?_ ?_
          · exact ⟨.inl (ov_frz (g := true) rfl (by simp)), trivial⟩
          simp only [go_sem, cz0, cz1]
          refine cF rv1 6 ?_ ?_
          · exact ⟨.inl (ov_frz (g := true) rfl (by simp)), trivial⟩
          simp only [go_sem, cz0, cz1]
          refine dF kf1 6 (7 :: List.range' 8 F.length) ?_ ?_ (hd := by simp [dynOK])
          · exact ⟨.inl (ents_frzl (k := 8) (onlyR_row rfl (by simp)) (fun m x hm => onlyR_row (by
              rw [Nat.add_comm 8 m]; exact get8 (zF m x hm)) (List.mem_cons_of_mem _ (by rw [List.mem_range'_1]; have := (List.getElem?_eq_some_iff.1 hm).1; omega)))), trivial⟩
          simp only [go_sem, cz0, cz1]
          refine cF rf1 6 ?_ ?_
          · exact ⟨.inl (ents_frzl (k := 8) rfl (fun m x hm => by
              rw [Nat.add_comm 8 m]; exact get8 (zF m x hm))), trivial⟩
          simp only [go_sem, cz0, cz1]
          refine cF (sameStuffs_run b0 z0 (by omega)) 6 ?_ ?_
          · exact ⟨.inl (st_frz (get8 z2) rfl), .inl (stv_frz _ _ _), trivial⟩
          simp only [go_sem, cz0, cz1]
          refine cF (sameOvens_run f0 ls0 (by omega)) 6 ?_ ?_
          · exact ⟨.inl (ov_frz (get8 z3) rfl), .inl (ovv_frz _ _ _), trivial⟩
          simp only [go_sem, cz0, cz1]
          refine cF (sameFires_run l (by omega) (fun r hr => by have := hb20 r hr; omega)) 6 ?_ ?_
          · exact ⟨.inl (own_frzl (get8 z4) (fun m r hm => by
              rw [show Y.length + 13 + m = Y.length + 5 + m + 8 by omega]; exact get8 (z5 m r hm))), .inl (frv_frz _ _), trivial⟩
          simp only [go_sem, cz0, cz1]
          refine cP awake_ok ?_
          simp only [go_sem]
        · have o3 : (upto (dstep w3) 2 == 0) = false := beq_eq_false_iff_ne.2 o2
          simp only [go_sem, o3]
          refine dN1 ks ?_ (by rw [row_bel_cells]; simp only [go_sem])
          simp only [go_sem, ren, rens]
          refine dN1 ko ?_ (by rw [row_bel_cells]; simp only [go_sem])
          simp only [go_sem, ren, rens]
          refine dNew kf (by simp only [go_sem]) (by simp [go_sem]) ⟨by rw [row_bel_cells]; exact ownE_bel (by simp [ownR_len]; omega), full_own _ _⟩ (by simp) (by simp [go_sem]) ?_
          rw [List.map_cons, ownR_ren, Option.map_some, ownRow_ren]
          obtain ⟨X, hX⟩ : ∃ X, ownR l = X := ⟨_, rfl⟩
          rw [hX]
          simp only [List.cons_append, List.append_assoc, List.nil_append, List.length_cons, List.length_append, List.length_nil]
          obtain ⟨Z, hZ⟩ : ∃ Z : Heap, Y ++ some (Row.cells false 2 [.agg [.int .i64 brk, .sl 5 0 zs.length]]) :: some (Row.cells false 2 [.agg [.int .i64 f, .sl 6 0 ls.length]]) :: some (Row.cells true 5 (z0.map Zn.v)) :: some (Row.cells true 2 (ls0.map Lg.v)) :: some (Row.cells true 3 (ownE (Y.length + 4 + 1 + 1 + 1 + 1 + 1 + 1 + 1 + 1 + 1) l)) :: X = Z := ⟨_, rfl⟩
          have en : List.length Y + (0 + 1 + 1 + 1 + 1) + 1 + 1 + 1 + 1 + 1 + 1 + 1 + 1 = Y.length + 4 + 1 + 1 + 1 + 1 + 1 + 1 + 1 + 1 := by omega
          simp only [en]
          rw [hZ]
          simp only [go_sem, ren, rens, Nat.add_zero]
          have hXl : X.length = l.length := by rw [← hX, ownR_len]
          have hYl : Y.length = F.length := by rw [← hY, rws_len]
          have hZl : Z.length = Y.length + (X.length + 5) := by rw [← hZ]; simp
          have z2 : Z[Y.length + 2]? = some (some (Row.cells true 5 (z0.map Zn.v))) := by rw [← hZ]; exact getY rfl
          have z3 : Z[Y.length + 3]? = some (some (Row.cells true 2 (ls0.map Lg.v))) := by rw [← hZ]; exact getY rfl
          have z4 : Z[Y.length + 4]? = some (some (Row.cells true 3 (ownE (Y.length + 13) l))) := by rw [← hZ]; exact getY rfl
          have z5 : ∀ (m : Nat) (r : Fr), l[m]? = some r → Z[Y.length + 5 + m]? = some (some (Row.cells true 1 (il r.bf))) := fun m r hm => by
            have xg : X[m]? = some (some (Row.cells true 1 (il r.bf))) := by rw [← hX]; unfold ownR; rw [List.getElem?_map, hm]; rfl
            rw [← hZ, show Y.length + 5 + m = Y.length + (m + 1 + 1 + 1 + 1 + 1) by omega]; exact getY (by simpa using xg)
          have zF : ∀ (m : Nat) (x : Bool × Fr), F[m]? = some x → Z[m]? = some (some (rowF x)) := fun m x hm => by
            have h := rws_get hm
            rw [hY] at h
            rw [← hZ, List.getElem?_append_left (List.getElem?_eq_some_iff.1 h).1]; exact h
          have z0' : Z[Y.length]? = some (some (Row.cells false 2 [.agg [.int .i64 brk, .sl 5 0 zs.length]])) := by rw [← hZ]; exact getY (k := 0) rfl
          have z1' : Z[Y.length + 1]? = some (some (Row.cells false 2 [.agg [.int .i64 f, .sl 6 0 ls.length]])) := by rw [← hZ]; exact getY rfl
          have cz0 := fun T => cells_more (cells_at z0') T
          have cz1 := fun T => cells_more (cells_at z1') T
          refine ⟨?_, ?_, ?_⟩
          · simp only [Bool.and_eq_true, Bool.not_eq_true', beq_eq_false_iff_ne, ne_eq]
            exact ⟨by omega, by omega, by omega, by omega, disj_range (by simp; omega)⟩
          · simp only [Bool.and_eq_true, Bool.not_eq_true', beq_eq_false_iff_ne, ne_eq]
            exact ⟨by omega, by omega, by omega, by omega, disj_range (by simp; omega), by omega⟩
          refine dF kc 6 [Y.length + 10] ?_ ?_
          · exact ⟨.inl (st_frz (onlyR_row (get8 z2) (by simp)) rfl), trivial⟩
          simp only [go_sem, cz0, cz1]
          refine cP rc' ?_
          simp only [go_sem, bne_self_eq_false, cz0, cz1]
          refine dF kv 6 [Y.length + 11] ?_ ?_
          · exact ⟨.inl (ov_frz (onlyR_row (get8 z3) (by simp)) rfl), trivial⟩
          simp only [go_sem, cz0, cz1]
          refine cP rv' ?_
          simp only [go_sem, bne_self_eq_false, cz0, cz1]
          refine dF kfi 6 ((Y.length + 12) :: List.range' (Y.length + 13) l.length) ?_ ?_ (hd := by simp [dynOK])
          · exact ⟨.inl (own_frzl (onlyR_row (get8 z4) (by simp)) (fun m r hm => onlyR_row (by
              rw [show Y.length + 13 + m = Y.length + 5 + m + 8 by omega]; exact get8 (z5 m r hm)) (List.mem_cons_of_mem _ (by rw [List.mem_range'_1]; have := (List.getElem?_eq_some_iff.1 hm).1; omega)))), trivial⟩
          simp only [go_sem, cz0, cz1]
          refine cP rfi ?_
          simp only [go_sem, bne_self_eq_false, cz0, cz1]
          have kc1 := Check_raw5 brk zs (by omega)
          have rc1 := rCheck_raw5 brk zs (by omega)
          generalize stE brk zs = E4 at kc1 rc1
          have kv1 := CheckOven_raw f ls
          have rv1 := rCheckOven_raw f ls
          generalize ovE f ls = E5 at kv1 rv1
          have hFb2 : ∀ r ∈ F.map (·.2), r.bf.length ≤ 1000000 := fun r hr => by
            obtain ⟨x, hx, rfl⟩ := List.mem_map.1 hr
            have := hFb x hx; omega
          have kf1 := Ans.fires (CheckFires_raw (F.map (·.2)) hFb2)
          have rf1 := Ans.fires (rCheckFires_raw (F.map (·.2)) hFb2)
          generalize fiE (F.map (·.2)) = E6 at kf1 rf1
          refine dF kc1 6 [5] ?_ ?_
          · exact ⟨.inl (st_frz (g := true) rfl rfl), trivial⟩
          simp only [go_sem, cz0, cz1]
          refine cF rc1 6 ?_ ?_
          · exact ⟨.inl (st_frz (g := true) rfl rfl), trivial⟩
          simp only [go_sem, cz0, cz1]
          refine dF kv1 6 [6] ?_ ?_
          · exact ⟨.inl (ov_frz (g := true) rfl rfl), trivial⟩
          simp only [go_sem, cz0, cz1]
          refine cF rv1 6 ?_ ?_
          · exact ⟨.inl (ov_frz (g := true) rfl rfl), trivial⟩
          simp only [go_sem, cz0, cz1]
          refine dF kf1 6 (7 :: List.range' 8 F.length) ?_ ?_ (hd := by simp [dynOK])
          · exact ⟨.inl (ents_frzl (k := 8) (onlyR_row rfl (by simp)) (fun m x hm => onlyR_row (by
              rw [Nat.add_comm 8 m]; exact get8 (zF m x hm)) (List.mem_cons_of_mem _ (by rw [List.mem_range'_1]; have := (List.getElem?_eq_some_iff.1 hm).1; omega)))), trivial⟩
          simp only [go_sem, cz0, cz1]
          refine cF rf1 6 ?_ ?_
          · exact ⟨.inl (ents_frzl (k := 8) rfl (fun m x hm => by
              rw [Nat.add_comm 8 m]; exact get8 (zF m x hm))), trivial⟩
          simp only [go_sem, cz0, cz1]
          refine cF (sameStuffs_run b0 z0 (by omega)) 6 ?_ ?_
          · exact ⟨.inl (st_frz (get8 z2) rfl), .inl (stv_frz _ _ _), trivial⟩
          simp only [go_sem, cz0, cz1]
          refine cF (sameOvens_run f0 ls0 (by omega)) 6 ?_ ?_
          · exact ⟨.inl (ov_frz (get8 z3) rfl), .inl (ovv_frz _ _ _), trivial⟩
          simp only [go_sem, cz0, cz1]
          refine cF (sameFires_run l (by omega) (fun r hr => by have := hb20 r hr; omega)) 6 ?_ ?_
          · exact ⟨.inl (own_frzl (get8 z4) (fun m r hm => by
              rw [show Y.length + 13 + m = Y.length + 5 + m + 8 by omega]; exact get8 (z5 m r hm))), .inl (frv_frz _ _), trivial⟩
          simp only [go_sem, cz0, cz1]
          refine cP awake_ok ?_
          simp only [go_sem]
end Go.Proofs

