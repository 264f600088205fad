/- A part of the proof. -/
import Derived.Test.YtcnpapgcojagpaaPF
set_option linter.unusedSimpArgs false
set_option linter.unusedVariables false
namespace Go.Proofs
open Go Go.Sx Go.Fam
attribute [local irreducible] Run

def Sl (x : AVal) : Prop := x = .nilsl ∨ ∃ a n, x = .sl a 0 n
theorem thaw_cfv (f : Fa) (k : Nat) : ∃ x0 x1 x2 x3, (thaw 6 k (cFv f)).1 = .agg [x0, x1, x2, x3] ∧ Sl x0 ∧ Sl x1 ∧ Sl x2 ∧ Sl x3 := ⟨_, _, _, _, rfl, thaw_cw _ _, thaw_cw _ _, thaw_ctw _ _, thaw_ctw _ _⟩
theorem lrg_row {f : Fa} (h : lrgB f = false) : FaR f := by
  obtain ⟨f1, f2, f3, f4⟩ := lrg_no h
  unfold lrgB at h
  by_cases c : 50 < f.lo.length ∨ 50 < f.hi.length ∨ lngB [f.g, f.p] = true
  · rw [if_pos c] at h; cases h
  · rw [if_neg c, Bool.or_eq_false_iff] at h
    have hr : ∀ {t : List (List Int)}, lngB t = false → ∀ r ∈ t, r.length ≤ 1000000 := fun {t} h r hr => by
      unfold lngB at h
      rw [List.any_eq_false] at h
      have := h r hr
      simp at this; omega
    exact ⟨by omega, by omega, ⟨by omega, hr h.1⟩, by omega, hr h.2⟩
set_option maxHeartbeats 8000000 in
set_option maxRecDepth 20000 in
theorem curveChecks_ok (f o : Fa) (xs : List Int) (hl : xs.length ≤ 9223372036854775807) : Ans Try.prog n_law02_CurveChecks [Fv f, Fv o, .view (xs.map (.int .i64))] [] (.bool true) [] := by
  have kl := large_run f
  have kl2 := large_run o
  refine spec_run e_law02_CurveChecks fun G => ?_
  simp only [Fv, Fcs] at kl kl2
  simp only [go_sem, Fv, Fcs]
  refine cP kl ?_
  by_cases cf : lrgB f = true
  · rw [cf]
    simp only [go_sem]
    refine cP awake_ok ?_
    simp only [go_sem]
  rw [Bool.not_eq_true] at cf
  rw [cf]
  simp only [go_sem]
  refine cP kl2 ?_
  by_cases co : lrgB o = true
  · rw [co]
    simp only [go_sem]
    refine cP awake_ok ?_
    simp only [go_sem]
  rw [Bool.not_eq_true] at co
  rw [co]
  have kd := newdice_ok xs hl
  obtain ⟨w, hw⟩ : ∃ w, feed (IntKind.u64.wrap (IntKind.u64.wrap xs.length + 1374496523)) xs = w := ⟨_, rfl⟩
  rw [hw] at kd
  have ka := FamilyOf_run w
  have na := famOf_ne w
  have oa := famOf_ok w
  obtain ⟨A, hA⟩ : ∃ F, famOf w = F := ⟨_, rfl⟩
  obtain ⟨w1, hw1⟩ : ∃ x, famEnd w = x := ⟨_, rfl⟩
  rw [hA] at ka na oa
  rw [hw1] at ka
  clear hw hA hw1
  simp only [go_sem]
  refine dFN kd 6 [] ?_ ?_
  · exact ⟨.inl (by simp [frz, Function.comp_def]), trivial⟩
  simp only [go_sem, ren, List.length_cons, List.length_nil, Nat.zero_add, Nat.reduceAdd]
  refine dMD ka na.pure 1 [] (by simp) trivial ?_
  have fa := atF_thaw na.pure 3
  obtain ⟨a1, a2, a3, a4, ea⟩ := thaw_fv A 3
  simp only [List.length_cons, List.length_append, List.length_nil, Nat.zero_add, Nat.reduceAdd, ea] at fa ⊢
  generalize (thaw 6 3 (Fv A)).2 = Y at *
  clear kd ka
  simp only [go_sem, vw, tw, List.append_assoc, List.cons_append, List.nil_append]
  have hf := lrg_row cf
  have ho := lrg_row co
  obtain ⟨f1, f2, f3, f4⟩ := lrg_no cf
  refine loop_body 3000 k_law02_CurveChecks_r16.eq_1 ?_
  simp only [go_sem]
  refine cFD (rwCopy_run hf) (cFv_pure f) 6 ⟨.inl (by simp [frz, Fv, Fcs, vw, tw, Function.comp_def]), trivial⟩ ?_
  simp only [List.length_cons, List.length_append, List.length_nil, Nat.zero_add, Nat.reduceAdd]
  have hd := fun (A B : Heap) (hA : A.length = Y.length + 1 + 1 + 1 + 1) => thaw_dat (H := A ++ ((thaw 6 (Y.length + 1 + 1 + 1 + 1) (cFv f)).2 ++ B)) (Y.length + 1 + 1 + 1 + 1) (cFv_pure f) fun i hi => by rw [get_new hA, List.getElem?_append_left hi]
  obtain ⟨x0, x1, x2, x3, ex, o0, o1, o2, o3⟩ := thaw_cfv f (Y.length + 1 + 1 + 1 + 1)
  simp only [ex] at hd ⊢
  generalize (thaw 6 (Y.length + 1 + 1 + 1 + 1) (cFv f)).2 = X at *
  simp only [go_sem, List.append_assoc, List.cons_append, List.nil_append]
  refine ⟨by rcases o0 with rfl | ⟨_, _, rfl⟩ <;> rcases o1 with rfl | ⟨_, _, rfl⟩ <;> rcases o2 with rfl | ⟨_, _, rfl⟩ <;> rcases o3 with rfl | ⟨_, _, rfl⟩ <;> rfl, ?_⟩
  have hE : ∀ (r1 r2 r3 r4 : Option Row) (B : Heap), frz 6 (Heap.onlyR (r1 :: r2 :: r3 :: (Y ++ r4 :: (X ++ B))) (upFrom (Y.length + 1 + 1 + 1 + 1) X.length)) (.agg [x0, x1, x2, x3]) = cFv f := fun r1 r2 r3 r4 B => by
    have := ((hd ([r1, r2, r3] ++ (Y ++ [r4])) B (by simp)).onlyR (fun _ h => h)).frz
    simpa using this
  have hEf : ∀ (r1 r2 r3 r4 : Option Row) (B : Heap), frz 6 (r1 :: r2 :: r3 :: (Y ++ r4 :: (X ++ B))) (.agg [x0, x1, x2, x3]) = cFv f := fun r1 r2 r3 r4 B => by
    have := (hd ([r1, r2, r3] ++ (Y ++ [r4])) B (by simp)).frz
    simpa using this
  have kC := ans_vle (args' := [cFv f]) (Check_run f hf.1 hf.2.1 hf.2.2.1.1 hf.2.2.2.1) ⟨vle_cFv f, trivial⟩
  have kR := rCheck_run f hf.1 hf.2.1 hf.2.2.1.1 hf.2.2.2.1
  have kS := ans_vle (args' := [cFv f, Fv o]) (pSame_run f o hf.faS) ⟨vle_cFv f, .rfl, trivial⟩
  have kT := rSame_run f o hf.faS
  have kU := ans_vle (args' := [cFv f, Fv f]) (pSame_run f f hf.faS) ⟨vle_cFv f, .rfl, trivial⟩
  have kV := ans_vle (args' := [cFv f, Fv f]) (rSame_run f f hf.faS) ⟨vle_cFv f, .rfl, trivial⟩
  have kW := ans_vle (args' := [cFv f]) (pwCopy_run hf) ⟨vle_cFv f, trivial⟩
  simp only [Fv, Fcs, vw, tw, decide_true] at kR kS kT kU kV
  refine dF kC 6 (upFrom (Y.length + 1 + 1 + 1 + 1) X.length) ?_ ?_
  · exact ⟨.inl (hE _ _ _ _ _), trivial⟩
  simp only [go_sem]
  refine cP kR ?_
  simp only [go_sem, bne_self_eq_false]
  refine dF kS 6 (upFrom (Y.length + 1 + 1 + 1 + 1) X.length) ?_ ?_
  · exact ⟨.inl (hE _ _ _ _ _), .inl (by simp [frz, vw, Function.comp_def]), trivial⟩
  simp only [go_sem]
  refine cP kT ?_
  simp only [go_sem, bne_self_eq_false]
  refine cF kU 6 ?_ ?_
  · exact ⟨.inl (hEf _ _ _ _ _), .inl (by simp [frz, vw, Function.comp_def]), trivial⟩
  simp only [go_sem, List.append_assoc, List.cons_append, List.nil_append]
  refine cFD kW (cFv_pure f) 6 ⟨.inl (hEf _ _ _ _ _), trivial⟩ ?_
  simp only [List.length_cons, List.length_append, List.length_nil, Nat.zero_add, Nat.reduceAdd]
  have hd2 := fun (A B : Heap) (hA : A.length = Y.length + (X.length + 1 + 1) + 1 + 1 + 1) => thaw_dat (H := A ++ ((thaw 6 (Y.length + (X.length + 1 + 1) + 1 + 1 + 1) (cFv f)).2 ++ B)) (Y.length + (X.length + 1 + 1) + 1 + 1 + 1) (cFv_pure f) fun i hi => by rw [get_new hA, List.getElem?_append_left hi]
  obtain ⟨y0, y1, y2, y3, ey, p0, p1, p2, p3⟩ := thaw_cfv f (Y.length + (X.length + 1 + 1) + 1 + 1 + 1)
  simp only [ey] at hd2 ⊢
  generalize (thaw 6 (Y.length + (X.length + 1 + 1) + 1 + 1 + 1) (cFv f)).2 = X2 at *
  have hE2 : ∀ (r1 r2 r3 r4 r5 : Option Row) (B : Heap), frz 6 (r1 :: r2 :: r3 :: (Y ++ r4 :: (X ++ r5 :: (X2 ++ B)))) (.agg [y0, y1, y2, y3]) = cFv f := fun r1 r2 r3 r4 r5 B => by
    have := (hd2 ([r1, r2, r3] ++ (Y ++ r4 :: (X ++ [r5]))) B (by simp)).frz
    simpa using this
  simp only [go_sem, List.append_assoc, List.cons_append, List.nil_append]
  refine ⟨by rcases p0 with rfl | ⟨_, _, rfl⟩ <;> rcases p1 with rfl | ⟨_, _, rfl⟩ <;> rcases p2 with rfl | ⟨_, _, rfl⟩ <;> rcases p3 with rfl | ⟨_, _, rfl⟩ <;> rfl, ?_⟩
  refine cF kV 6 ?_ ?_
  · exact ⟨.inl (hE2 _ _ _ _ _ _), .inl (by simp [frz, vw, Function.comp_def]), trivial⟩
  simp only [go_sem]
  refine cSpoil (A := [?a, ?b, ?c] ++ (Y ++ ?d :: (X ++ [?e]))) (X := X2) (B := [?g]) (n := Y.length + (X.length + 1 + 1) + 1 + 1 + 1) hf (by omega) (by omega) ?hA ?eH ?hd ?hk ?hK
  case eH =>
    simp only [List.append_assoc, List.cons_append, List.nil_append]
    rfl
  case hA => simp
  case hd => exact hd2 _ _ (by simp)
  case hk => simp
  intro X3 hX3
  simp only [go_sem, List.append_assoc, List.cons_append, List.nil_append]
  refine cF kV 6 ?_ ?_
  · exact ⟨.inl (hEf _ _ _ _ _), .inl (by simp [frz, vw, Function.comp_def]), trivial⟩
  have w1' : IntKind.i64.wrap 1 = 1 := by decide
  simp only [go_sem, w1']
  clear hd hd2 hE hE2 hEf kC kR kS kT kU kV kW o0 o1 o2 o3 p0 p1 p2 p3 ex ey
  have hfA : FaR A := by
    have gm := oa.g.most
    have pm := oa.p.most
    exact ⟨by omega, by omega, ⟨by rw [oa.llen]; omega, fun r hr => by rw [oa.lrow r hr]; omega⟩, by rw [oa.hlen]; omega, fun r hr => by rw [oa.hrow r hr]; omega⟩
  have fz : ∀ (r1 r2 r3 : Option Row) (R : Heap), frz 6 (r1 :: r2 :: r3 :: (Y ++ R)) (.agg [.sl a1 0 A.g.length, .sl a2 0 A.p.length, .sl a3 0 A.lo.length, .sl a4 0 A.hi.length]) = Fv A := fun r1 r2 r3 R => fa.frz [r1, r2, r3] R rfl rfl
  refine loop_body 3000 k_law02_CurveChecks_r16.eq_1 ?_
  simp only [go_sem, w1']
  refine cFD (rwCopy_run hfA) (cFv_pure A) 6 ⟨.inl (fz _ _ _ _), trivial⟩ ?_
  simp only [List.length_cons, List.length_append, List.length_nil, Nat.zero_add, Nat.reduceAdd]
  have hd := fun (H B : Heap) (hH : H.length = (Y.length + (X.length + (X3.length + 1 + 1) + 1) + 1 + 1 + 1)) => thaw_dat (H := H ++ ((thaw 6 (Y.length + (X.length + (X3.length + 1 + 1) + 1) + 1 + 1 + 1) (cFv A)).2 ++ B)) (Y.length + (X.length + (X3.length + 1 + 1) + 1) + 1 + 1 + 1) (cFv_pure A) fun i hi => by rw [get_new hH, List.getElem?_append_left hi]
  obtain ⟨z0, z1, z2, z3, ez, o0, o1, o2, o3⟩ := thaw_cfv A (Y.length + (X.length + (X3.length + 1 + 1) + 1) + 1 + 1 + 1)
  simp only [ez] at hd ⊢
  generalize (thaw 6 (Y.length + (X.length + (X3.length + 1 + 1) + 1) + 1 + 1 + 1) (cFv A)).2 = Z at *
  simp only [go_sem, List.append_assoc, List.cons_append, List.nil_append]
  refine ⟨by rcases o0 with rfl | ⟨_, _, rfl⟩ <;> rcases o1 with rfl | ⟨_, _, rfl⟩ <;> rcases o2 with rfl | ⟨_, _, rfl⟩ <;> rcases o3 with rfl | ⟨_, _, rfl⟩ <;> rfl, ?_⟩
  have hE : ∀ (r1 r2 r3 r4 r5 r6 : Option Row) (B : Heap), frz 6 (Heap.onlyR (r1 :: r2 :: r3 :: (Y ++ r4 :: (X ++ r5 :: (X3 ++ r6 :: (Z ++ B))))) (upFrom (Y.length + (X.length + (X3.length + 1 + 1) + 1) + 1 + 1 + 1) Z.length)) (.agg [z0, z1, z2, z3]) = cFv A := fun r1 r2 r3 r4 r5 r6 B => by
    have := ((hd ([r1, r2, r3] ++ (Y ++ r4 :: (X ++ r5 :: (X3 ++ [r6])))) B (by simp)).onlyR (fun _ h => h)).frz
    simpa using this
  have hEf : ∀ (r1 r2 r3 r4 r5 r6 : Option Row) (B : Heap), frz 6 (r1 :: r2 :: r3 :: (Y ++ r4 :: (X ++ r5 :: (X3 ++ r6 :: (Z ++ B))))) (.agg [z0, z1, z2, z3]) = cFv A := fun r1 r2 r3 r4 r5 r6 B => by
    have := (hd ([r1, r2, r3] ++ (Y ++ r4 :: (X ++ r5 :: (X3 ++ [r6])))) B (by simp)).frz
    simpa using this
  have kC := ans_vle (args' := [cFv A]) (Check_run A hfA.1 hfA.2.1 hfA.2.2.1.1 hfA.2.2.2.1) ⟨vle_cFv A, trivial⟩
  have kR := rCheck_run A hfA.1 hfA.2.1 hfA.2.2.1.1 hfA.2.2.2.1
  have kS := ans_vle (args' := [cFv A, Fv o]) (pSame_run A o hfA.faS) ⟨vle_cFv A, .rfl, trivial⟩
  have kT := rSame_run A o hfA.faS
  have kU := ans_vle (args' := [cFv A, Fv A]) (pSame_run A A hfA.faS) ⟨vle_cFv A, .rfl, trivial⟩
  have kV := ans_vle (args' := [cFv A, Fv A]) (rSame_run A A hfA.faS) ⟨vle_cFv A, .rfl, trivial⟩
  have kW := ans_vle (args' := [cFv A]) (pwCopy_run hfA) ⟨vle_cFv A, trivial⟩
  simp only [decide_true] at kU kV
  refine dF kC 6 (upFrom (Y.length + (X.length + (X3.length + 1 + 1) + 1) + 1 + 1 + 1) Z.length) ?_ ?_
  · exact ⟨.inl (hE _ _ _ _ _ _ _), trivial⟩
  simp only [go_sem, w1']
  refine cF kR 6 ⟨.inl (fz _ _ _ _), trivial⟩ ?_
  simp only [go_sem, bne_self_eq_false, w1']
  refine dF kS 6 (upFrom (Y.length + (X.length + (X3.length + 1 + 1) + 1) + 1 + 1 + 1) Z.length) ?_ ?_
  · exact ⟨.inl (hE _ _ _ _ _ _ _), .inl (by simp [frz, Fv, Fcs, vw, tw, Function.comp_def]), trivial⟩
  simp only [go_sem, w1']
  refine cF kT 6 ⟨.inl (fz _ _ _ _), .inl (by simp [frz, Fv, Fcs, vw, tw, Function.comp_def]), trivial⟩ ?_
  simp only [go_sem, bne_self_eq_false, w1']
  refine cF kU 6 ?_ ?_
  · exact ⟨.inl (hEf _ _ _ _ _ _ _), .inl (fz _ _ _ _), trivial⟩
  simp only [go_sem, List.append_assoc, List.cons_append, List.nil_append, w1']
  refine cFD kW (cFv_pure A) 6 ⟨.inl (hEf _ _ _ _ _ _ _), trivial⟩ ?_
  simp only [List.length_cons, List.length_append, List.length_nil, Nat.zero_add, Nat.reduceAdd]
  have hd2 := fun (H B : Heap) (hH : H.length = (Y.length + (X.length + (X3.length + (Z.length + 1 + 1) + 1) + 1) + 1 + 1 + 1)) => thaw_dat (H := H ++ ((thaw 6 (Y.length + (X.length + (X3.length + (Z.length + 1 + 1) + 1) + 1) + 1 + 1 + 1) (cFv A)).2 ++ B)) (Y.length + (X.length + (X3.length + (Z.length + 1 + 1) + 1) + 1) + 1 + 1 + 1) (cFv_pure A) fun i hi => by rw [get_new hH, List.getElem?_append_left hi]
  obtain ⟨y0, y1, y2, y3, ey, p0, p1, p2, p3⟩ := thaw_cfv A (Y.length + (X.length + (X3.length + (Z.length + 1 + 1) + 1) + 1) + 1 + 1 + 1)
  simp only [ey] at hd2 ⊢
  generalize (thaw 6 (Y.length + (X.length + (X3.length + (Z.length + 1 + 1) + 1) + 1) + 1 + 1 + 1) (cFv A)).2 = Z2 at *
  have hE2 : ∀ (r1 r2 r3 r4 r5 r6 r7 : Option Row) (B : Heap), frz 6 (r1 :: r2 :: r3 :: (Y ++ r4 :: (X ++ r5 :: (X3 ++ r6 :: (Z ++ r7 :: (Z2 ++ B)))))) (.agg [y0, y1, y2, y3]) = cFv A := fun r1 r2 r3 r4 r5 r6 r7 B => by
    have := (hd2 ([r1, r2, r3] ++ (Y ++ r4 :: (X ++ r5 :: (X3 ++ r6 :: (Z ++ [r7]))))) B (by simp)).frz
    simpa using this
  simp only [go_sem, List.append_assoc, List.cons_append, List.nil_append, w1']
  refine ⟨by rcases p0 with rfl | ⟨_, _, rfl⟩ <;> rcases p1 with rfl | ⟨_, _, rfl⟩ <;> rcases p2 with rfl | ⟨_, _, rfl⟩ <;> rcases p3 with rfl | ⟨_, _, rfl⟩ <;> rfl, ?_⟩
  refine cF kV 6 ?_ ?_
  · exact ⟨.inl (hE2 _ _ _ _ _ _ _ _), .inl (fz _ _ _ _), trivial⟩
  simp only [go_sem, w1']
  refine cSpoil (A := [?a2, ?b2, ?c2] ++ (Y ++ ?d2 :: (X ++ ?e2 :: (X3 ++ ?f2 :: (Z ++ [?g2]))))) (X := Z2) (B := [?h2]) (n := (Y.length + (X.length + (X3.length + (Z.length + 1 + 1) + 1) + 1) + 1 + 1 + 1)) hfA ?m2 ?m3 ?hA2 ?eH2 ?hd2 ?hk2 ?hK2
  case m2 => have := oa.llen; have := oa.g.most; omega
  case m3 => have := oa.hlen; have := oa.g.most; omega
  case eH2 =>
    simp only [List.append_assoc, List.cons_append, List.nil_append]
    rfl
  case hA2 => simp
  case hd2 => exact hd2 _ _ (by simp)
  case hk2 => simp
  intro Z3 hZ3
  simp only [go_sem, List.append_assoc, List.cons_append, List.nil_append, w1']
  refine cF kV 6 ?_ ?_
  · exact ⟨.inl (hEf _ _ _ _ _ _ _), .inl (fz _ _ _ _), trivial⟩
  have w2' : IntKind.i64.wrap 2 = 2 := by decide
  simp only [go_sem, w1', w2']
  refine loop_body 3000 k_law02_CurveChecks_r16.eq_1 ?_
  simp only [go_sem, w2']
  refine cP awake_ok ?_
  simp only [go_sem]
end Go.Proofs

