/- A part of the proof. -/
import Derived.Test.YtcnpapgcojagpaaPG
set_option linter.unusedSimpArgs false
set_option linter.unusedVariables false
namespace Go.Proofs
open Go Go.Sx Go.Fam
attribute [local irreducible] Run

theorem WithinFamily_run {f : Fa} (hf : FaOK f) (hn : FaNE f) (b : Bool) (w : Int) : Ans Try.prog n_kit_WithinFamily [.ptr 0 0 0 1, Fv f, .bool b] [some (Dr w)] (thaw 6 1 (Fv (wnF f b w))).1 (some (Dr (wnT f b w).w) :: (thaw 6 1 (Fv (wnF f b w))).2) :=
  ans_dat (wnF_ne hf hn b w).pure (dr_bel _ _) (by cases b; exact within_false hf w; exact within_true hf w)
theorem within_yes {a b : Rg} (h : Wn a b) : Ans Try.prog n_kit_Within [.agg [.int .i64 a.lo, .int .i64 a.hi], .agg [.int .i64 b.lo, .int .i64 b.hi]] [] (.bool true) [] := by
  unfold Wn at h
  refine spec_run e_kit_Within fun G => ?_
  simp only [go_sem, h.1, h.2]

set_option maxHeartbeats 8000000 in
set_option maxRecDepth 20000 in
theorem curveTubes_ok (xs : List Int) (hl : xs.length ≤ 9223372036854775807) (i k g p : Int) : Ans Try.prog n_law02_CurveTubes [.view (xs.map (.int .i64)), .int .i64 i, .int .i64 k, .int .i64 g, .int .i64 p] [] (.bool true) [] := by
  have kd := newdice_ok xs hl
  obtain ⟨w, hw⟩ : ∃ w, feed (IntKind.u64.wrap (IntKind.u64.wrap xs.length + 1374496523)) xs = w := ⟨_, rfl⟩
  rw [hw] at kd
  have kf := FamilyOf_run w
  have hne := famOf_ne w
  have hok := famOf_ok w
  obtain ⟨F, hF⟩ : ∃ F, famOf w = F := ⟨_, rfl⟩
  obtain ⟨w1, hw1⟩ : ∃ x, famEnd w = x := ⟨_, rfl⟩
  rw [hF] at kf hne hok
  rw [hw1] at kf
  have kt := WithinFamily_run hok hne true w1
  obtain ⟨tok, tin⟩ := wnF_ok hok true w1
  have tne := wnF_ne hok hne true w1
  obtain ⟨T, hT⟩ : ∃ T, wnF F true w1 = T := ⟨_, rfl⟩
  obtain ⟨w2, hw2⟩ : ∃ x, (wnT F true w1).w = x := ⟨_, rfl⟩
  rw [hT] at kt tok tin tne
  rw [hw2] at kt
  clear hw hF hw1 hT hw2
  have g5 := hne.g.2
  have p5 := hne.p.2
  have l5 := hne.lo.1
  have h5 := hne.hi.1
  refine spec_run e_law02_CurveTubes fun G => ?_
  simp only [go_sem]
  refine callN1 kd ⟨by rw [bel_view, bels_ints]; trivial, trivial⟩ (dr_bel _ _) (by simp) (by simp) ?_
  simp only [go_sem]
  refine cMD kf hne.pure 1 trivial ?_
  obtain ⟨a, b, c', d, e⟩ := thaw_fv F 1
  have hD := fun (A : Heap) (hA : A.length = 1) => thaw_dat (H := A ++ (thaw 6 1 (Fv F)).2) 1 hne.pure fun i hi => by rw [get_new hA]
  simp only [List.length_cons, List.length_nil, e] at hD ⊢
  generalize (thaw 6 1 (Fv F)).2 = Y at *
  simp only [go_sem]
  have hM : frz 6 (Heap.mask (some (Dr w1) :: (Y ++ [some (Row.cells false 4 [AVal.agg [AVal.sl a 0 F.g.length, AVal.sl b 0 F.p.length, AVal.sl c' 0 F.lo.length, AVal.sl d 0 F.hi.length]])])) [0]) (.agg [AVal.sl a 0 F.g.length, AVal.sl b 0 F.p.length, AVal.sl c' 0 F.lo.length, AVal.sl d 0 F.hi.length]) = Fv F :=
    (((hD [some (Dr w1)] rfl).app [some (Row.cells false 4 [AVal.agg [AVal.sl a 0 F.g.length, AVal.sl b 0 F.p.length, AVal.sl c' 0 F.lo.length, AVal.sl d 0 F.hi.length]])] (fun r hr => by rw [upFrom_mem] at hr; simp; omega)).mask (fun r hr => by rw [upFrom_mem] at hr; simp; omega)).frz
  refine cMD kt tne.pure 6 ⟨.inl hM, .inl rfl, trivial⟩ ?_
  obtain ⟨a1, b1, c1, d1, e1⟩ := thaw_fv T (Y.length + 1 + 1)
  have hD2 := fun (A : Heap) (hA : A.length = Y.length + 1 + 1) => thaw_dat (H := A ++ (thaw 6 (Y.length + 1 + 1) (Fv T)).2) (Y.length + 1 + 1) tne.pure fun i hi => by rw [get_new hA]
  simp only [List.length_cons, List.length_append, List.length_nil, Nat.zero_add, e1] at hD2 ⊢
  generalize (thaw 6 (Y.length + 1 + 1) (Fv T)).2 = Z at *
  have tg := tin.g
  have tp := tin.p
  have tl5 := tne.lo.1
  have th5 := tne.hi.1
  have hE : ∀ (r0 : Option Row) (R : Heap), frz 6 (r0 :: (Y ++ R)) (.agg [AVal.sl a 0 F.g.length, AVal.sl b 0 F.p.length, AVal.sl c' 0 F.lo.length, AVal.sl d 0 F.hi.length]) = Fv F := fun r0 R => ((hD [r0] rfl).app R (fun r hr => by rw [upFrom_mem] at hr; simp; omega)).frz
  have hE2 : ∀ (r0 b : Option Row) (R : Heap), frz 6 (r0 :: (Y ++ b :: (Z ++ R))) (.agg [AVal.sl a1 0 T.g.length, AVal.sl b1 0 T.p.length, AVal.sl c1 0 T.lo.length, AVal.sl d1 0 T.hi.length]) = Fv T := fun r0 b R => by
    have := ((hD2 ([r0] ++ (Y ++ [b])) (by simp)).app R (fun r hr => by rw [upFrom_mem] at hr; simp; omega)).frz
    simpa using this
  simp only [List.set_cons_zero, List.cons_append, List.append_assoc, List.nil_append]
  have hgp : ∀ (r0 : Option Row) (R : Heap), Heap.cellsAt (r0 :: (Y ++ R)) a = some (true, 1, F.g.map (.int .i64)) ∧ Heap.cellsAt (r0 :: (Y ++ R)) b = some (true, 1, F.p.map (.int .i64)) := fun r0 R => by
    have h := (hD [r0] rfl).app R (fun r hr => by rw [upFrom_mem] at hr; simp; omega)
    obtain ⟨vs, ev, hx⟩ := h
    cases ev
    obtain ⟨κ0, κa, e0, d0, hx⟩ := (show All3 (Dat 5 _) _ [_, _, _, _] [vw F.g, vw F.p, tw F.lo, tw F.hi] from hx)
    obtain ⟨κ1, κb, e1, d1, hx⟩ := hx
    obtain ⟨_, q, eq, -, hq⟩ := vw_get d0
    obtain ⟨_, q', eq', -, hq'⟩ := vw_get d1
    cases eq; cases eq'
    exact ⟨cells_at hq, cells_at hq'⟩
  have cg := fun r0 R => (hgp r0 R).1
  have cp := fun r0 R => (hgp r0 R).2
  clear hgp hD hD2 hM kt kf kd e e1
  by_cases hg : F.g.length < 2
  · have h2 : ((F.g.length : Nat) : Int) < 2 := by omega
    simp only [go_sem, cg, cp, List.length_map, h2]
    refine cP awake_ok ?_
    simp only [go_sem]
  have h2 : ¬ ((F.g.length : Nat) : Int) < 2 := by omega
  by_cases hp : F.p.length < 2
  · have h3 : ((F.p.length : Nat) : Int) < 2 := by omega
    simp only [go_sem, cg, cp, List.length_map, h2, h3]
    refine cP awake_ok ?_
    simp only [go_sem]
  have h3 : ¬ ((F.p.length : Nat) : Int) < 2 := by omega
  have W1 : IntKind.i64.wrap ((F.g.length : Int) - 1) = F.g.length - 1 := w64 (by omega)
  have W2 : IntKind.i64.wrap ((F.p.length : Int) - 1) = F.p.length - 1 := w64 (by omega)
  have m1 := mod_pos i ((F.g.length : Int) - 1) (by omega)
  have m2 := mod_pos k ((F.p.length : Int) - 1) (by omega)
  have m3 := mod_pos g 16000 (by omega)
  have m4 := mod_pos p 350000 (by omega)
  have b1 := Int.emod_nonneg i (b := (F.g.length : Int) - 1) (by omega)
  have b2 := Int.emod_lt_of_pos i (b := (F.g.length : Int) - 1) (by omega)
  have b3 := Int.emod_nonneg k (b := (F.p.length : Int) - 1) (by omega)
  have b4 := Int.emod_lt_of_pos k (b := (F.p.length : Int) - 1) (by omega)
  have b5 := Int.emod_nonneg g (b := 16000) (by omega)
  have b6 := Int.emod_lt_of_pos g (b := 16000) (by omega)
  have b7 := Int.emod_nonneg p (b := 350000) (by omega)
  have b8 := Int.emod_lt_of_pos p (b := 350000) (by omega)
  generalize i % ((F.g.length : Int) - 1) = I at *
  generalize k % ((F.p.length : Int) - 1) = K at *
  generalize g % 16000 = gm at *
  generalize p % 350000 = pm at *
  obtain ⟨i', rfl⟩ : ∃ n : Nat, I = n := ⟨I.toNat, by omega⟩
  obtain ⟨k', rfl⟩ : ∃ n : Nat, K = n := ⟨K.toNat, by omega⟩
  have W3 : IntKind.i64.wrap (gm - 11000) = gm - 11000 := w64 (by omega)
  obtain ⟨G', hG⟩ : ∃ x, gm - 11000 = x := ⟨_, rfl⟩
  rw [hG] at W3
  simp only [go_sem, cg, cp, List.length_map, h2, h3, W1]
  refine dP m1 ?_
  simp only [go_sem, cg, cp, List.length_map, W2]
  refine cP m2 ?_
  simp only [go_sem]
  refine cP m3 ?_
  simp only [go_sem, W3, hG]
  refine cP m4 ?_
  simp only [go_sem, W3, hG]
  have fe := fam_iff.2 hok
  have fe' := fam_iff.2 tok
  have ok1 : cellOK F.g (i' : Int) := by unfold cellOK; omega
  have ok2 : cellOK F.p (k' : Int) := by unfold cellOK; omega
  have ok3 : cellOK T.g (i' : Int) := by rw [tg]; exact ok1
  have ok4 : cellOK T.p (k' : Int) := by rw [tp]; exact ok2
  have z1 : slE F i' pm = 0 := by unfold slE; rw [if_pos fe, if_pos ok1, if_pos (by omega)]
  have z2 : slE T i' pm = 0 := by unfold slE; rw [if_pos fe', if_pos ok3, if_pos (by omega)]
  have z3 : ylE F G' k' = 0 := by unfold ylE; rw [if_pos fe, if_pos (by omega), if_pos ok2]
  have z4 : ylE T G' k' = 0 := by unfold ylE; rw [if_pos fe', if_pos (by omega), if_pos ok4]
  have tgl : T.g.length = F.g.length := by rw [tg]
  have tpl : T.p.length = F.p.length := by rw [tp]
  have A := Slope_run F (by omega) (by omega) (by omega) (by omega) i' pm
  have B := Slope_run T (by omega) (by omega) (by omega) (by omega) i' pm
  have C := Yield_run F (by omega) (by omega) (by omega) (by omega) G' k'
  have D := Yield_run T (by omega) (by omega) (by omega) (by omega) G' k'
  have E := Gain_run F (by omega) (by omega) (by omega) (by omega) i' k'
  have E' := Gain_run T (by omega) (by omega) (by omega) (by omega) i' k'
  rw [z1] at A
  rw [z2] at B
  rw [z3] at C
  rw [z4] at D
  have q1 := slA_wn hok tin (c := i') (by omega) pm
  have q2 := ylA_wn hok tin (c := k') (by omega) G'
  have q3 := slA_in hok (c := i') (by omega) pm
  have q4 := ylA_in hok (c := k') (by omega) G'
  simp only [rgA_eq, Int.toNat_natCast, rgIf, if_true] at A B C D E E'
  have v1 := within_yes q1
  have v2 := within_yes q2
  generalize slA F i' pm = r1 at *
  generalize slA T i' pm = r2 at *
  generalize ylA F G' k' = r3 at *
  generalize ylA T G' k' = r4 at *
  refine cF A 6 ⟨.inl (hE _ _), .inl rfl, .inl rfl, trivial⟩ ?_
  simp only [go_sem, List.append_assoc, List.cons_append, List.nil_append]
  refine cF B 6 ⟨.inl (hE2 _ _ _), .inl rfl, .inl rfl, trivial⟩ ?_
  simp only [go_sem, List.append_assoc, List.cons_append, List.nil_append]
  refine cF C 6 ⟨.inl (hE _ _), .inl rfl, .inl rfl, trivial⟩ ?_
  simp only [go_sem, List.append_assoc, List.cons_append, List.nil_append]
  refine cF D 6 ⟨.inl (hE2 _ _ _), .inl rfl, .inl rfl, trivial⟩ ?_
  simp only [go_sem, List.append_assoc, List.cons_append, List.nil_append]
  have n1 : ¬ r1.lo < 0 := by omega
  have n2 : ¬ r3.lo < 0 := by omega
  refine cP v1 ?_
  simp only [go_sem, List.append_assoc, List.cons_append, List.nil_append]
  refine cP v2 ?_
  simp only [go_sem, n1, n2, List.append_assoc, List.cons_append, List.nil_append]
  clear v1 v2 A B C D
  by_cases c0 : (gnC F i' k').lo = 0
  · have z5 : gnE F i' k' = 15 := by unfold gnE; rw [if_pos fe, if_pos ⟨ok1, ok2⟩, Int.toNat_natCast, Int.toNat_natCast, if_pos c0]
    rw [z5] at E
    simp only [show ¬((15 : Int) = 0) by decide, if_false] at E
    refine cF E 6 ⟨.inl (hE _ _), .inl rfl, .inl rfl, trivial⟩ ?_
    simp only [go_sem, List.append_assoc, List.cons_append, List.nil_append]
    refine cF E' 6 ⟨.inl (hE2 _ _ _), .inl rfl, .inl rfl, trivial⟩ ?_
    simp only [go_sem, List.append_assoc, List.cons_append, List.nil_append]
    refine cP awake_ok ?_
    simp only [go_sem]
  · have hw := gnA_wn hok tok tin (i := i') (k := k') (by omega) (by omega) c0
    have z5 : gnE F i' k' = 0 := by unfold gnE; rw [if_pos fe, if_pos ⟨ok1, ok2⟩, Int.toNat_natCast, Int.toNat_natCast, if_neg c0]
    have z6 : gnE T i' k' = 0 := by unfold gnE; rw [if_pos fe', if_pos ⟨ok3, ok4⟩, Int.toNat_natCast, Int.toNat_natCast, if_neg hw.1]
    have v3 := within_yes hw.2
    rw [z5] at E
    rw [z6] at E'
    simp only [if_true] at E E'
    generalize gnA F i' k' = r5 at *
    generalize gnA T i' k' = r6 at *
    refine cF E 6 ⟨.inl (hE _ _), .inl rfl, .inl rfl, trivial⟩ ?_
    simp only [go_sem, List.append_assoc, List.cons_append, List.nil_append]
    refine cF E' 6 ⟨.inl (hE2 _ _ _), .inl rfl, .inl rfl, trivial⟩ ?_
    simp only [go_sem, List.append_assoc, List.cons_append, List.nil_append]
    refine cP v3 ?_
    simp only [go_sem, List.append_assoc, List.cons_append, List.nil_append]
    refine cP awake_ok ?_
    simp only [go_sem]
end Go.Proofs

