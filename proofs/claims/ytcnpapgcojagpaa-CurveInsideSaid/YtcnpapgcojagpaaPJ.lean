import Derived.Test.YtcnpapgcojagpaaPI
set_option linter.unusedSimpArgs false
set_option linter.unusedVariables false
namespace Go.Proofs
open Go Go.Sx Go.Fam
attribute [local irreducible] Run
def inT (a b c m : Nat) : List (Nat × AVal) := [(3, .ptr 0 0 0 1), (4, .ptr 1 0 0 1), (8, .ptr (a + 1 + 1 + 1) 0 0 1), (9, .ptr (a + (b + 1) + 1 + 1 + 1) 0 0 1), (10, .ptr (a + (b + (c + 1) + 1) + 1 + 1 + 1) 0 0 1), (11, .ptr (a + (b + (c + (m + 1) + 1) + 1) + 1 + 1 + 1) 0 0 1), (14, .sl (a + (b + (c + (m + 1 + 1) + 1) + 1) + 1 + 1 + 1) 0 6)]
set_option maxHeartbeats 8000000 in
set_option maxRecDepth 20000 in
theorem curveInside_ok (f o : Fa) (xs : List Int) (hl : xs.length <= 9223372036854775807) : Ans Try.prog n_law02_CurveInside [Fv f, Fv o, .view (xs.map (.int .i64))] [] (.bool true) [] := by
  have kl := large_run f
  have kl2 := large_run o
  refine spec_run e_law02_CurveInside fun G => ?_
  simp only [Fv, Fcs] at kl kl2
  simp only [go_sem, Fv, Fcs]
  refine cP kl ?_
  by_cases cf : lrgB f = true
  . rw [cf]
    simp only [go_sem]
    refine cP awake_ok ?_
    simp only [go_sem]
  rw [Bool.not_eq_true] at cf
  rw [cf]
  simp only [go_sem]
  refine cP kl2 ?_
  by_cases co : lrgB o = true
  . rw [co]
    simp only [go_sem]
    refine cP awake_ok ?_
    simp only [go_sem]
  rw [Bool.not_eq_true] at co
  rw [co]
  obtain ⟨f1, f2, f3, f4⟩ := lrg_no cf
  obtain ⟨o1, o2, o3, o4⟩ := lrg_no co
  have kd := newdice_ok xs hl
  obtain ⟨w, hw⟩ : ∃ w, feed (IntKind.u64.wrap (IntKind.u64.wrap xs.length + 1374496523)) xs = w := ⟨_, rfl⟩
  rw [hw] at kd
  have ka := FamilyOf_run w
  have na := famOf_ne w
  have oa := famOf_ok w
  obtain ⟨A, hA⟩ : ∃ F, famOf w = F := ⟨_, rfl⟩
  obtain ⟨w1, hw1⟩ : ∃ x, famEnd w = x := ⟨_, rfl⟩
  rw [hA] at ka na oa
  rw [hw1] at ka
  have k1 := one_ok w1 2 (by omega)
  obtain ⟨bb, hbb⟩ : ∃ b, (upto w1 2 == 0) = b := ⟨_, rfl⟩
  obtain ⟨w2, hw2⟩ : ∃ x, dstep w1 = x := ⟨_, rfl⟩
  rw [hbb, hw2] at k1
  have kb := WithinFamily_run oa na bb w2
  obtain ⟨ob, iba⟩ := wnF_ok oa bb w2
  have nb := wnF_ne oa na bb w2
  obtain ⟨B, hB⟩ : ∃ T, wnF A bb w2 = T := ⟨_, rfl⟩
  obtain ⟨w3, hw3⟩ : ∃ x, (wnT A bb w2).w = x := ⟨_, rfl⟩
  rw [hB] at kb ob iba nb
  rw [hw3] at kb
  have kc := FamilyOf_run w3
  have nc := famOf_ne w3
  have oc := famOf_ok w3
  obtain ⟨C, hC⟩ : ∃ F, famOf w3 = F := ⟨_, rfl⟩
  obtain ⟨w4, hw4⟩ : ∃ x, famEnd w3 = x := ⟨_, rfl⟩
  rw [hC] at kc nc oc
  rw [hw4] at kc
  have kn := rCopy_run ob.faP
  have pn := ob.faP.pure
  have u1 := upto_ok w4 B.g.length (by have := nb.g.2; omega)
  have i1 := upto_in (w := w4) (n := B.g.length) (by have := List.length_pos_iff.2 nb.g.1; omega)
  obtain ⟨w5, hw5⟩ : ∃ x, dstep w4 = x := ⟨_, rfl⟩
  obtain ⟨I, hI⟩ : ∃ x, upto w4 B.g.length = x := ⟨_, rfl⟩
  rw [hw5, hI] at u1
  rw [hI] at i1
  have u2 := upto_ok w5 B.p.length (by have := nb.p.2; omega)
  have i2 := upto_in (w := w5) (n := B.p.length) (by have := List.length_pos_iff.2 nb.p.1; omega)
  obtain ⟨w6, hw6⟩ : ∃ x, dstep w5 = x := ⟨_, rfl⟩
  obtain ⟨K, hK⟩ : ∃ x, upto w5 B.p.length = x := ⟨_, rfl⟩
  rw [hw6, hK] at u2
  rw [hK] at i2
  have u3 := upto_ok w6 3 (by omega)
  have i3 := upto_in (w := w6) (n := 3) (by omega)
  obtain ⟨w7, hw7⟩ : ∃ x, dstep w6 = x := ⟨_, rfl⟩
  obtain ⟨Z3, hZ⟩ : ∃ x, upto w6 3 = x := ⟨_, rfl⟩
  rw [hw7, hZ] at u3
  rw [hZ] at i3
  clear hw hA hw1 hbb hw2 hB hw3 hC hw4 hw5 hI hw6 hK hw7 hZ cf co kl kl2
  obtain ⟨i, rfl⟩ : ∃ n : Nat, I = n := ⟨I.toNat, by omega⟩
  obtain ⟨k, rfl⟩ : ∃ n : Nat, K = n := ⟨K.toNat, by omega⟩
  simp only [go_sem, vw, tw]
  refine callN1 kd ⟨by rw [bel_view, bels_ints]; trivial, trivial⟩ (dr_bel _ _) (by simp) (by simp) ?_
  simp only [go_sem]
  refine cMD ka na.pure 1 trivial ?_
  have fa := atF_thaw na.pure 3
  obtain ⟨a1, a2, a3, a4, ea⟩ := thaw_fv A 3
  simp only [List.length_cons, List.length_append, List.length_nil, Nat.zero_add, Nat.reduceAdd, ea] at fa ⊢
  generalize (thaw 6 3 (Fv A)).2 = YA at *
  simp only [go_sem, List.append_assoc, List.cons_append, List.nil_append]
  refine dD k1 ?_
  simp only [go_sem, List.append_assoc, List.cons_append, List.nil_append]
  refine dMD kb nb.pure 6 (upFrom 3 YA.length) (fun h => by have := upFrom_mem.1 h; omega) ⟨.inl (fa.only [some (Row.cells false 4 [AVal.agg [AVal.view (List.map (AVal.int IntKind.i64) f.g), AVal.view (List.map (AVal.int IntKind.i64) f.p), AVal.view (List.map vw f.lo), AVal.view (List.map vw f.hi)]]), some (Row.cells false 4 [AVal.agg [AVal.view (List.map (AVal.int IntKind.i64) o.g), AVal.view (List.map (AVal.int IntKind.i64) o.p), AVal.view (List.map vw o.lo), AVal.view (List.map vw o.hi)]]), some (Dr w2)] [some (Row.cells false 4 [AVal.agg [AVal.sl a1 0 A.g.length, AVal.sl a2 0 A.p.length, AVal.sl a3 0 A.lo.length, AVal.sl a4 0 A.hi.length]])] rfl rfl fun _ h => h), .inl rfl, trivial⟩ ?_
  have fb := atF_thaw nb.pure (YA.length + 1 + 1 + 1 + 1)
  obtain ⟨b1, b2, b3, b4, eb⟩ := thaw_fv B (YA.length + 1 + 1 + 1 + 1)
  simp only [List.length_cons, List.length_append, List.length_nil, Nat.zero_add, Nat.reduceAdd, eb] at fb ⊢
  generalize (thaw 6 (YA.length + 1 + 1 + 1 + 1) (Fv B)).2 = YB at *
  simp only [List.set_cons_zero, List.set_cons_succ, List.append_assoc, List.cons_append, List.nil_append]
  simp only [go_sem, List.append_assoc, List.cons_append, List.nil_append]
  refine ⟨by first | (simp only [Bool.or_eq_false_iff, Bool.and_eq_true, Bool.not_eq_true', beq_eq_false_iff_ne, decide_eq_false_iff_not, ne_eq]; omega) | (simp; done) | (simp; omega) | omega, ?_⟩
  refine cMD kc nc.pure 1 trivial ?_
  have fc := atF_thaw nc.pure (YA.length + (YB.length + 1 + 1) + 1 + 1 + 1)
  obtain ⟨c1, c2, c3, c4, ec⟩ := thaw_fv C (YA.length + (YB.length + 1 + 1) + 1 + 1 + 1)
  simp only [List.length_cons, List.length_append, List.length_nil, Nat.zero_add, Nat.reduceAdd, ec] at fc ⊢
  generalize (thaw 6 (YA.length + (YB.length + 1 + 1) + 1 + 1 + 1) (Fv C)).2 = YC at *
  simp only [List.set_cons_zero, List.set_cons_succ, List.append_assoc, List.cons_append, List.nil_append]
  simp only [go_sem, List.append_assoc, List.cons_append, List.nil_append]
  refine cFD kn pn 6 ⟨.inl (fb.frz (some (Row.cells false 4 [AVal.agg [AVal.view (List.map (AVal.int IntKind.i64) f.g), AVal.view (List.map (AVal.int IntKind.i64) f.p), AVal.view (List.map vw f.lo), AVal.view (List.map vw f.hi)]]) :: some (Row.cells false 4 [AVal.agg [AVal.view (List.map (AVal.int IntKind.i64) o.g), AVal.view (List.map (AVal.int IntKind.i64) o.p), AVal.view (List.map vw o.lo), AVal.view (List.map vw o.hi)]]) :: some (Dr w4) :: (YA ++ [some (Row.cells false 4 [AVal.agg [AVal.sl a1 0 A.g.length, AVal.sl a2 0 A.p.length, AVal.sl a3 0 A.lo.length, AVal.sl a4 0 A.hi.length]])])) ([some (Row.cells false 4 [AVal.agg [AVal.sl b1 0 B.g.length, AVal.sl b2 0 B.p.length, AVal.sl b3 0 B.lo.length, AVal.sl b4 0 B.hi.length]])] ++ (YC ++ [some (Row.cells false 4 [AVal.agg [AVal.sl c1 0 C.g.length, AVal.sl c2 0 C.p.length, AVal.sl c3 0 C.lo.length, AVal.sl c4 0 C.hi.length]])])) (by simp) (by simp)), trivial⟩ ?_
  have fn := atF_thaw pn (YA.length + (YB.length + (YC.length + 1 + 1) + 1) + 1 + 1 + 1)
  obtain ⟨n1, n2, n3, n4, en⟩ := thaw_fv B (YA.length + (YB.length + (YC.length + 1 + 1) + 1) + 1 + 1 + 1)
  simp only [List.length_cons, List.length_append, List.length_nil, Nat.zero_add, Nat.reduceAdd, en] at fn ⊢
  generalize (thaw 6 (YA.length + (YB.length + (YC.length + 1 + 1) + 1) + 1 + 1 + 1) (Fv B)).2 = YN at *
  simp only [List.append_assoc, List.cons_append, List.nil_append]
  have hN : ∀ (r0 r1 r2 b b' b2 : Option Row) (R : Heap), Dat 6 (r0 :: r1 :: r2 :: (YA ++ b :: (YB ++ b' :: (YC ++ b2 :: (YN ++ R))))) (upFrom (YA.length + (YB.length + (YC.length + 1 + 1) + 1) + 1 + 1 + 1) YN.length) (AVal.agg [AVal.sl n1 0 B.g.length, AVal.sl n2 0 B.p.length, AVal.sl n3 0 B.lo.length, AVal.sl n4 0 B.hi.length]) (Fv B) := fun r0 r1 r2 b b' b2 R => by
    have := fn (r0 :: r1 :: r2 :: (YA ++ b :: (YB ++ b' :: (YC ++ [b2])))) R (by simp)
    simpa using this
  have gN := fun r0 r1 r2 b b' b2 R => (fam_lines (hN r0 r1 r2 b b' b2 R)).1
  have pN := fun r0 r1 r2 b b' b2 R => (fam_lines (hN r0 r1 r2 b b' b2 R)).2
  have mB : List.length (ivL B.g) = B.g.length := by simp
  have mP : List.length (ivL B.p) = B.p.length := by simp
  simp only [go_sem, gN, pN, mB, mP, List.append_assoc, List.cons_append, List.nil_append]
  refine dD u1 ?_
  simp only [go_sem, gN, pN, mB, mP, List.append_assoc, List.cons_append, List.nil_append]
  have hm := fam_mem (fn (List.replicate (YA.length + (YB.length + (YC.length + 1 + 1) + 1) + 1 + 1 + 1) none) [] List.length_replicate)
  have hm1 := (upFrom_mem.1 hm.1).1
  have hm2 := (upFrom_mem.1 hm.2).1
  refine ⟨by omega, ?_⟩
  refine cD u2 ?_
  have il : i < B.g.length := by omega
  have kl : k < B.p.length := by omega
  obtain ⟨rlo, hL⟩ : ∃ r, B.lo[i]? = some r := ⟨_, List.getElem?_eq_getElem (by have := ob.llen; omega)⟩
  obtain ⟨rhi, hU⟩ : ∃ r, B.hi[i]? = some r := ⟨_, List.getElem?_eq_getElem (by have := ob.hlen; omega)⟩
  have ll := ob.lrow _ (List.mem_of_getElem? hL)
  have lh := ob.hrow _ (List.mem_of_getElem? hU)
  have yh := get_at (l := rhi) (i := k) (by omega)
  have yin := ob.inn i k il kl
  rw [tg_get hU] at yin
  obtain ⟨s, us, t0, e3, ht0, gs, lu, gj, gt, hs, wr⟩ := fn.write hL hU (by rintro rfl; simp at ll; omega)
  cases e3
  have cs := fun r0 r1 r2 b b' b2 R => cells_at (H := r0 :: r1 :: r2 :: (YA ++ b :: (YB ++ b' :: (YC ++ b2 :: (YN ++ R))))) (by have := gs (r0 :: r1 :: r2 :: (YA ++ b :: (YB ++ b' :: (YC ++ [b2])))) R (by simp); simpa only [List.append_assoc, List.cons_append, List.nil_append] using this)
  have ct := fun r0 r1 r2 b b' b2 R => cells_at (H := r0 :: r1 :: r2 :: (YA ++ b :: (YB ++ b' :: (YC ++ b2 :: (YN ++ R))))) (by have := gt (r0 :: r1 :: r2 :: (YA ++ b :: (YB ++ b' :: (YC ++ [b2])))) R (by simp); simpa only [List.append_assoc, List.cons_append, List.nil_append] using this)
  have cq := fun (r0 r1 r2 b b' b2 : Option Row) (R : Heap) (x : Row) => put_seg (A := r0 :: r1 :: r2 :: (YA ++ b :: (YB ++ b' :: (YC ++ [b2])))) (Y := YN) (R := R) (n := YA.length + (YB.length + (YC.length + 1 + 1) + 1) + 1 + 1 + 1) (t0 := t0) (x := x) (by simp) ht0
  simp only [List.append_assoc, List.cons_append, List.nil_append] at cq
  have hlen := ob.hlen
  have w3' : IntKind.i64.wrap (at1 rhi k + Z3) = at1 rhi k + Z3 := w64 (by omega)
  have mi : ¬ (i : Int) < 0 := by omega
  have mk : ¬ (k : Int) < 0 := by omega
  have ii : (i : Int) < B.hi.length := by omega
  have kk : (k : Int) < rhi.length := by omega
  have mR : List.length (ivL rhi) = rhi.length := by simp
  simp only [go_sem, cs, ct, mi, mk, ii, kk, lu, gj, yh, mR, Int.toNat_natCast, List.length_map, List.append_assoc, List.cons_append, List.nil_append]
  refine dD u3 ?_ (hd := by simp [go_sem]; omega)
  have hh0 : rhi.set k (at1 rhi k + Z3) ≠ [] := fun e => by have := congrArg List.length e; rw [List.length_set, List.length_nil] at this; omega
  have fm := wr (rhi.set k (at1 rhi k + Z3)) hh0 List.length_set
  obtain ⟨YM, hYM⟩ : ∃ Y', YN.set t0 (some (Row.cells true 1 (ivL (rhi.set k (at1 rhi k + Z3))))) = Y' := ⟨_, rfl⟩
  have eqlen : YN.length = YM.length := by rw [<- hYM, List.length_set]
  have cqx := fun r0 r1 r2 b b' b2 R => cq r0 r1 r2 b b' b2 R (Row.cells true 1 (ivL (rhi.set k (at1 rhi k + Z3))))
  rw [hYM] at cqx fm
  clear wr cq hYM
  simp only [go_sem, cs, ct, cqx, mi, mk, ii, kk, lu, gj, yh, mR, w3', ivL_set, Int.toNat_natCast, List.length_map, List.append_assoc, List.cons_append, List.nil_append]
  clear cs ct cqx gs gt gN pN hN fn hm hm1 hm2
  obtain ⟨N, hNf⟩ : ∃ N : Fa, (⟨B.g, B.p, B.lo, B.hi.set i (rhi.set k (at1 rhi k + Z3))⟩ : Fa) = N := ⟨_, rfl⟩
  have N1 : N.g = B.g := by rw [<- hNf]
  have N2 : N.p = B.p := by rw [<- hNf]
  have N3 : N.lo = B.lo := by rw [<- hNf]
  have N4 : N.hi.length = B.hi.length := by rw [<- hNf]; exact List.length_set
  rw [hNf] at fm
  simp only [eqlen]
  simp only [go_sem, List.append_assoc, List.cons_append, List.nil_append]
  have zs := fun (F : Fa) (h : FaNE F) => (show F.g.length <= 5 /\ F.p.length <= 5 /\ F.lo.length <= 5 /\ F.hi.length <= 5 from ⟨h.g.2, h.p.2, by rw [h.lo.1]; exact h.g.2, by rw [h.hi.1]; exact h.g.2⟩)
  have zA := zs A na
  have zB := zs B nb
  have zC := zs C nc
  clear zs
  obtain ⟨vs, hvs⟩ : ∃ l, [AVal.agg [AVal.view (List.map (AVal.int IntKind.i64) f.g), AVal.view (List.map (AVal.int IntKind.i64) f.p), AVal.view (List.map vw f.lo), AVal.view (List.map vw f.hi)], AVal.agg [AVal.view (List.map (AVal.int IntKind.i64) o.g), AVal.view (List.map (AVal.int IntKind.i64) o.p), AVal.view (List.map vw o.lo), AVal.view (List.map vw o.hi)], AVal.agg [AVal.sl a1 0 A.g.length, AVal.sl a2 0 A.p.length, AVal.sl a3 0 A.lo.length, AVal.sl a4 0 A.hi.length], AVal.agg [AVal.sl b1 0 B.g.length, AVal.sl b2 0 B.p.length, AVal.sl b3 0 B.lo.length, AVal.sl b4 0 B.hi.length], AVal.agg [AVal.sl c1 0 C.g.length, AVal.sl c2 0 C.p.length, AVal.sl c3 0 C.lo.length, AVal.sl c4 0 C.hi.length], AVal.agg [AVal.sl n1 0 B.g.length, AVal.sl n2 0 B.p.length, AVal.sl n3 0 B.lo.length, AVal.sl n4 0 B.hi.length]] = l := ⟨_, rfl⟩
  obtain ⟨HB, hHB⟩ : ∃ H : Heap, some (Row.cells false 4 [AVal.agg [AVal.view (List.map (AVal.int IntKind.i64) f.g), AVal.view (List.map (AVal.int IntKind.i64) f.p), AVal.view (List.map vw f.lo), AVal.view (List.map vw f.hi)]]) :: some (Row.cells false 4 [AVal.agg [AVal.view (List.map (AVal.int IntKind.i64) o.g), AVal.view (List.map (AVal.int IntKind.i64) o.p), AVal.view (List.map vw o.lo), AVal.view (List.map vw o.hi)]]) :: some (Dr w7) :: (YA ++ some (Row.cells false 4 [AVal.agg [AVal.sl a1 0 A.g.length, AVal.sl a2 0 A.p.length, AVal.sl a3 0 A.lo.length, AVal.sl a4 0 A.hi.length]]) :: (YB ++ some (Row.cells false 4 [AVal.agg [AVal.sl b1 0 B.g.length, AVal.sl b2 0 B.p.length, AVal.sl b3 0 B.lo.length, AVal.sl b4 0 B.hi.length]]) :: (YC ++ some (Row.cells false 4 [AVal.agg [AVal.sl c1 0 C.g.length, AVal.sl c2 0 C.p.length, AVal.sl c3 0 C.lo.length, AVal.sl c4 0 C.hi.length]]) :: (YM ++ [some (Row.cells false 4 [AVal.agg [AVal.sl n1 0 B.g.length, AVal.sl n2 0 B.p.length, AVal.sl n3 0 B.lo.length, AVal.sl n4 0 B.hi.length]]), some (Row.cells false 4 vs)])))) = H := ⟨_, rfl⟩
  have hel : ∀ q, q < 6 -> ∃ F v0 v1 v2 v3, vs[q]? = some (.agg [v0, v1, v2, v3]) /\ frz 6 (HB.onlyR (upFrom 0 HB.length)) (.agg [v0, v1, v2, v3]) = Fv F /\ frz 6 HB (.agg [v0, v1, v2, v3]) = Fv F /\ F.g.length <= 1000000 /\ F.p.length <= 1000000 /\ F.lo.length <= 1000000 /\ F.hi.length <= 1000000 := by
    intro q hq
    have two : ∀ {n : Nat} {Y : Heap} {v : AVal} {F : Fa}, AtF n Y v F -> ∀ A R : Heap, HB = A ++ (Y ++ R) -> A.length = n -> frz 6 (HB.onlyR (upFrom 0 HB.length)) v = Fv F /\ frz 6 HB v = Fv F := fun h A R e hA => by
      refine ⟨h.only A R e hA fun r hr => upFrom_mem.2 ⟨Nat.zero_le _, ?_⟩, h.frz A R e hA⟩
      have := upFrom_mem.1 hr
      rw [e]; simp only [List.length_append]; omega
    have vwf : ∀ (H : Heap) (F : Fa), frz 6 H (AVal.agg [AVal.view (List.map (AVal.int IntKind.i64) F.g), AVal.view (List.map (AVal.int IntKind.i64) F.p), AVal.view (List.map vw F.lo), AVal.view (List.map vw F.hi)]) = Fv F := fun H F => by simp [frz, Fv, Fcs, vw, tw, Function.comp_def]
    obtain rfl | rfl | rfl | rfl | rfl | rfl : q = 0 ∨ q = 1 ∨ q = 2 ∨ q = 3 ∨ q = 4 ∨ q = 5 := by omega
    . exact ⟨f, _, _, _, _, by rw [<- hvs]; rfl, vwf _ _, vwf _ _, by omega, by omega, by omega, by omega⟩
    . exact ⟨o, _, _, _, _, by rw [<- hvs]; rfl, vwf _ _, vwf _ _, by omega, by omega, by omega, by omega⟩
    . obtain ⟨e1, e2⟩ := two fa [some (Row.cells false 4 [AVal.agg [AVal.view (List.map (AVal.int IntKind.i64) f.g), AVal.view (List.map (AVal.int IntKind.i64) f.p), AVal.view (List.map vw f.lo), AVal.view (List.map vw f.hi)]]), some (Row.cells false 4 [AVal.agg [AVal.view (List.map (AVal.int IntKind.i64) o.g), AVal.view (List.map (AVal.int IntKind.i64) o.p), AVal.view (List.map vw o.lo), AVal.view (List.map vw o.hi)]]), some (Dr w7)] (some (Row.cells false 4 [AVal.agg [AVal.sl a1 0 A.g.length, AVal.sl a2 0 A.p.length, AVal.sl a3 0 A.lo.length, AVal.sl a4 0 A.hi.length]]) :: (YB ++ some (Row.cells false 4 [AVal.agg [AVal.sl b1 0 B.g.length, AVal.sl b2 0 B.p.length, AVal.sl b3 0 B.lo.length, AVal.sl b4 0 B.hi.length]]) :: (YC ++ some (Row.cells false 4 [AVal.agg [AVal.sl c1 0 C.g.length, AVal.sl c2 0 C.p.length, AVal.sl c3 0 C.lo.length, AVal.sl c4 0 C.hi.length]]) :: (YM ++ [some (Row.cells false 4 [AVal.agg [AVal.sl n1 0 B.g.length, AVal.sl n2 0 B.p.length, AVal.sl n3 0 B.lo.length, AVal.sl n4 0 B.hi.length]]), some (Row.cells false 4 vs)])))) (by rw [<- hHB]; simp) rfl
      exact ⟨A, _, _, _, _, by rw [<- hvs]; rfl, e1, e2, by omega, by omega, by omega, by omega⟩
    . obtain ⟨e1, e2⟩ := two fb (some (Row.cells false 4 [AVal.agg [AVal.view (List.map (AVal.int IntKind.i64) f.g), AVal.view (List.map (AVal.int IntKind.i64) f.p), AVal.view (List.map vw f.lo), AVal.view (List.map vw f.hi)]]) :: some (Row.cells false 4 [AVal.agg [AVal.view (List.map (AVal.int IntKind.i64) o.g), AVal.view (List.map (AVal.int IntKind.i64) o.p), AVal.view (List.map vw o.lo), AVal.view (List.map vw o.hi)]]) :: some (Dr w7) :: (YA ++ [some (Row.cells false 4 [AVal.agg [AVal.sl a1 0 A.g.length, AVal.sl a2 0 A.p.length, AVal.sl a3 0 A.lo.length, AVal.sl a4 0 A.hi.length]])])) (some (Row.cells false 4 [AVal.agg [AVal.sl b1 0 B.g.length, AVal.sl b2 0 B.p.length, AVal.sl b3 0 B.lo.length, AVal.sl b4 0 B.hi.length]]) :: (YC ++ some (Row.cells false 4 [AVal.agg [AVal.sl c1 0 C.g.length, AVal.sl c2 0 C.p.length, AVal.sl c3 0 C.lo.length, AVal.sl c4 0 C.hi.length]]) :: (YM ++ [some (Row.cells false 4 [AVal.agg [AVal.sl n1 0 B.g.length, AVal.sl n2 0 B.p.length, AVal.sl n3 0 B.lo.length, AVal.sl n4 0 B.hi.length]]), some (Row.cells false 4 vs)]))) (by rw [<- hHB]; simp) (by simp)
      exact ⟨B, _, _, _, _, by rw [<- hvs]; rfl, e1, e2, by omega, by omega, by omega, by omega⟩
    . obtain ⟨e1, e2⟩ := two fc (some (Row.cells false 4 [AVal.agg [AVal.view (List.map (AVal.int IntKind.i64) f.g), AVal.view (List.map (AVal.int IntKind.i64) f.p), AVal.view (List.map vw f.lo), AVal.view (List.map vw f.hi)]]) :: some (Row.cells false 4 [AVal.agg [AVal.view (List.map (AVal.int IntKind.i64) o.g), AVal.view (List.map (AVal.int IntKind.i64) o.p), AVal.view (List.map vw o.lo), AVal.view (List.map vw o.hi)]]) :: some (Dr w7) :: (YA ++ some (Row.cells false 4 [AVal.agg [AVal.sl a1 0 A.g.length, AVal.sl a2 0 A.p.length, AVal.sl a3 0 A.lo.length, AVal.sl a4 0 A.hi.length]]) :: (YB ++ [some (Row.cells false 4 [AVal.agg [AVal.sl b1 0 B.g.length, AVal.sl b2 0 B.p.length, AVal.sl b3 0 B.lo.length, AVal.sl b4 0 B.hi.length]])]))) (some (Row.cells false 4 [AVal.agg [AVal.sl c1 0 C.g.length, AVal.sl c2 0 C.p.length, AVal.sl c3 0 C.lo.length, AVal.sl c4 0 C.hi.length]]) :: (YM ++ [some (Row.cells false 4 [AVal.agg [AVal.sl n1 0 B.g.length, AVal.sl n2 0 B.p.length, AVal.sl n3 0 B.lo.length, AVal.sl n4 0 B.hi.length]]), some (Row.cells false 4 vs)])) (by rw [<- hHB]; simp) (by simp)
      exact ⟨C, _, _, _, _, by rw [<- hvs]; rfl, e1, e2, by omega, by omega, by omega, by omega⟩
    . obtain ⟨e1, e2⟩ := two fm (some (Row.cells false 4 [AVal.agg [AVal.view (List.map (AVal.int IntKind.i64) f.g), AVal.view (List.map (AVal.int IntKind.i64) f.p), AVal.view (List.map vw f.lo), AVal.view (List.map vw f.hi)]]) :: some (Row.cells false 4 [AVal.agg [AVal.view (List.map (AVal.int IntKind.i64) o.g), AVal.view (List.map (AVal.int IntKind.i64) o.p), AVal.view (List.map vw o.lo), AVal.view (List.map vw o.hi)]]) :: some (Dr w7) :: (YA ++ some (Row.cells false 4 [AVal.agg [AVal.sl a1 0 A.g.length, AVal.sl a2 0 A.p.length, AVal.sl a3 0 A.lo.length, AVal.sl a4 0 A.hi.length]]) :: (YB ++ some (Row.cells false 4 [AVal.agg [AVal.sl b1 0 B.g.length, AVal.sl b2 0 B.p.length, AVal.sl b3 0 B.lo.length, AVal.sl b4 0 B.hi.length]]) :: (YC ++ [some (Row.cells false 4 [AVal.agg [AVal.sl c1 0 C.g.length, AVal.sl c2 0 C.p.length, AVal.sl c3 0 C.lo.length, AVal.sl c4 0 C.hi.length]])])))) [some (Row.cells false 4 [AVal.agg [AVal.sl n1 0 B.g.length, AVal.sl n2 0 B.p.length, AVal.sl n3 0 B.lo.length, AVal.sl n4 0 B.hi.length]]), some (Row.cells false 4 vs)] (by rw [<- hHB]; simp) (by simp)
      exact ⟨N, _, _, _, _, by rw [<- hvs]; rfl, e1, e2, by rw [N1]; omega, by rw [N2]; omega, by rw [N3]; omega, by omega⟩
  have hv6 : vs.length = 6 := by rw [<- hvs]; rfl
  have gL : Heap.cellsAt HB (YA.length + (YB.length + (YC.length + (YM.length + 1 + 1) + 1) + 1) + 1 + 1 + 1) = some (false, 4, vs) := by rw [<- hHB]; simp only [go_sem]
  rw [hvs, hHB]
  refine loop_ind k_law02_CurveInside_r20.eq_1 (fun q : Nat => q <= 6) (fun q => 6 - q)
    (fun q => (tsets 158 (inT YA.length YB.length YC.length YM.length ++ [(15, .int .i64 q)]), HB)) 0 (Nat.zero_le _) (by simp [go_sem, inT]) rfl ?_
  intro q hq ih
  dsimp only at hq ih ⊢
  by_cases q1 : q < 6
  . have q2 : (q : Int) < 6 := by omega
    have q3 := idx_next q1 (by omega)
    have mq : ¬ (q : Int) < 0 := by omega
    simp only [go_sem, inT, q2, gL, hv6]
    refine loop_ind k_law02_CurveInside_r18.eq_1 (fun x : Nat => x <= 6) (fun x => 6 - x)
      (fun x => (tsets 158 (inT YA.length YB.length YC.length YM.length ++ [(15, .int .i64 q), (16, .int .i64 x)]), HB)) 0 (Nat.zero_le _) (by simp [go_sem, inT]) rfl ?_
    intro x hx ihx
    dsimp only at hx ihx ⊢
    by_cases x1 : x < 6
    . have x2 : (x : Int) < 6 := by omega
      have x3 := idx_next x1 (by omega)
      have mx' : ¬ (x : Int) < 0 := by omega
      obtain ⟨F1, p0, p1, p2, p3, e1, e2, e3, l1, l2, l3, l4⟩ := hel q q1
      obtain ⟨F2, r0, r1, r2, r3, g1, g2, g3, m1, m2, m3, m4⟩ := hel x x1
      have I1 := Inside_run F1 F2 l1 l2 l3 l4 m1 m2 m3 m4
      have I2 := rInside_run F1 F2 l1 l2 l3 l4 m1 m2 m3 m4
      have bq := beq_self_eq_true (insB F1 F2)
      generalize insB F1 F2 = bb' at *
      simp only [go_sem, inT, q2, x2, mq, mx', gL, hv6, e1, g1, Int.toNat_natCast]
      refine dF I1 6 (upFrom 0 HB.length) ⟨.inl e2, .inl g2, trivial⟩ ?_
      simp only [go_sem, q2, x2, mq, mx', gL, hv6, e1, g1, Int.toNat_natCast]
      first | refine dF I2 6 (upFrom 0 HB.length) ⟨.inl e2, .inl g2, trivial⟩ ?_ | refine cF I2 6 ⟨.inl e3, .inl g3, trivial⟩ ?_
      simp only [go_sem, bne, bq, x3]
      exact ihx (x + 1) (by omega) x1 _ (by simp [go_sem, inT])
    . have x2 : ¬ (x : Int) < 6 := by omega
      simp only [go_sem, inT, x2, gL, hv6, q3]
      exact ih (q + 1) (by omega) q1 _ (by simp [go_sem, inT])
  have q2 : ¬ (q : Int) < 6 := by omega
  clear ih
  have x0 : Heap.cellsAt HB 0 = some (false, 4, [AVal.agg [AVal.view (List.map (AVal.int IntKind.i64) f.g), AVal.view (List.map (AVal.int IntKind.i64) f.p), AVal.view (List.map vw f.lo), AVal.view (List.map vw f.hi)]]) := by rw [<- hHB]; rfl
  have x1 : Heap.cellsAt HB 1 = some (false, 4, [AVal.agg [AVal.view (List.map (AVal.int IntKind.i64) o.g), AVal.view (List.map (AVal.int IntKind.i64) o.p), AVal.view (List.map vw o.lo), AVal.view (List.map vw o.hi)]]) := by rw [<- hHB]; rfl
  have xA : Heap.cellsAt HB (YA.length + 1 + 1 + 1) = some (false, 4, [AVal.agg [AVal.sl a1 0 A.g.length, AVal.sl a2 0 A.p.length, AVal.sl a3 0 A.lo.length, AVal.sl a4 0 A.hi.length]]) := by rw [<- hHB]; simp only [go_sem]
  have xB : Heap.cellsAt HB (YA.length + (YB.length + 1) + 1 + 1 + 1) = some (false, 4, [AVal.agg [AVal.sl b1 0 B.g.length, AVal.sl b2 0 B.p.length, AVal.sl b3 0 B.lo.length, AVal.sl b4 0 B.hi.length]]) := by rw [<- hHB]; simp only [go_sem]
  have xC : Heap.cellsAt HB (YA.length + (YB.length + (YC.length + 1) + 1) + 1 + 1 + 1) = some (false, 4, [AVal.agg [AVal.sl c1 0 C.g.length, AVal.sl c2 0 C.p.length, AVal.sl c3 0 C.lo.length, AVal.sl c4 0 C.hi.length]]) := by rw [<- hHB]; simp only [go_sem]
  have xN : Heap.cellsAt HB (YA.length + (YB.length + (YC.length + (YM.length + 1) + 1) + 1) + 1 + 1 + 1) = some (false, 4, [AVal.agg [AVal.sl n1 0 B.g.length, AVal.sl n2 0 B.p.length, AVal.sl n3 0 B.lo.length, AVal.sl n4 0 B.hi.length]]) := by rw [<- hHB]; simp only [go_sem]
  have lHB : HB.length = YA.length + (YB.length + (YC.length + (YM.length + 1 + 1) + 1) + 1) + 1 + 1 + 1 + 1 := by rw [<- hHB]; simp; omega
  have y0 := fun Y => cells_more x0 Y
  have y1 := fun Y => cells_more x1 Y
  have yA := fun Y => cells_more xA Y
  have yB := fun Y => cells_more xB Y
  have yC := fun Y => cells_more xC Y
  have yN := fun Y => cells_more xN Y
  simp only [go_sem, inT, q2, gL, hv6, x0, x1, xA, xB, xC, xN, y0, y1, yA, yB, yC, yN, List.append_assoc, List.cons_append, List.nil_append]
  repeat (refine ⟨by first | omega | (simp only [Bool.or_eq_false_iff, Bool.and_eq_true, Bool.not_eq_true', beq_eq_false_iff_ne, decide_eq_false_iff_not, ne_eq]; omega) | (simp; done) | (simp; omega), ?_⟩)
  clear x0 x1 xA xB xC xN y0 y1 yA yB yC yN gL hel hv6
  have eA : ∀ X, frz 6 (HB ++ X) (AVal.agg [AVal.sl a1 0 A.g.length, AVal.sl a2 0 A.p.length, AVal.sl a3 0 A.lo.length, AVal.sl a4 0 A.hi.length]) = Fv A := fun X => by rw [<- hHB]; exact fa.frz [some (Row.cells false 4 [AVal.agg [AVal.view (List.map (AVal.int IntKind.i64) f.g), AVal.view (List.map (AVal.int IntKind.i64) f.p), AVal.view (List.map vw f.lo), AVal.view (List.map vw f.hi)]]), some (Row.cells false 4 [AVal.agg [AVal.view (List.map (AVal.int IntKind.i64) o.g), AVal.view (List.map (AVal.int IntKind.i64) o.p), AVal.view (List.map vw o.lo), AVal.view (List.map vw o.hi)]]), some (Dr w7)] (some (Row.cells false 4 [AVal.agg [AVal.sl a1 0 A.g.length, AVal.sl a2 0 A.p.length, AVal.sl a3 0 A.lo.length, AVal.sl a4 0 A.hi.length]]) :: (YB ++ some (Row.cells false 4 [AVal.agg [AVal.sl b1 0 B.g.length, AVal.sl b2 0 B.p.length, AVal.sl b3 0 B.lo.length, AVal.sl b4 0 B.hi.length]]) :: (YC ++ some (Row.cells false 4 [AVal.agg [AVal.sl c1 0 C.g.length, AVal.sl c2 0 C.p.length, AVal.sl c3 0 C.lo.length, AVal.sl c4 0 C.hi.length]]) :: (YM ++ ([some (Row.cells false 4 [AVal.agg [AVal.sl n1 0 B.g.length, AVal.sl n2 0 B.p.length, AVal.sl n3 0 B.lo.length, AVal.sl n4 0 B.hi.length]]), some (Row.cells false 4 vs)] ++ X))))) (by simp) rfl
  have eB : ∀ X, frz 6 (HB ++ X) (AVal.agg [AVal.sl b1 0 B.g.length, AVal.sl b2 0 B.p.length, AVal.sl b3 0 B.lo.length, AVal.sl b4 0 B.hi.length]) = Fv B := fun X => by rw [<- hHB]; exact fb.frz (some (Row.cells false 4 [AVal.agg [AVal.view (List.map (AVal.int IntKind.i64) f.g), AVal.view (List.map (AVal.int IntKind.i64) f.p), AVal.view (List.map vw f.lo), AVal.view (List.map vw f.hi)]]) :: some (Row.cells false 4 [AVal.agg [AVal.view (List.map (AVal.int IntKind.i64) o.g), AVal.view (List.map (AVal.int IntKind.i64) o.p), AVal.view (List.map vw o.lo), AVal.view (List.map vw o.hi)]]) :: some (Dr w7) :: (YA ++ [some (Row.cells false 4 [AVal.agg [AVal.sl a1 0 A.g.length, AVal.sl a2 0 A.p.length, AVal.sl a3 0 A.lo.length, AVal.sl a4 0 A.hi.length]])])) (some (Row.cells false 4 [AVal.agg [AVal.sl b1 0 B.g.length, AVal.sl b2 0 B.p.length, AVal.sl b3 0 B.lo.length, AVal.sl b4 0 B.hi.length]]) :: (YC ++ some (Row.cells false 4 [AVal.agg [AVal.sl c1 0 C.g.length, AVal.sl c2 0 C.p.length, AVal.sl c3 0 C.lo.length, AVal.sl c4 0 C.hi.length]]) :: (YM ++ ([some (Row.cells false 4 [AVal.agg [AVal.sl n1 0 B.g.length, AVal.sl n2 0 B.p.length, AVal.sl n3 0 B.lo.length, AVal.sl n4 0 B.hi.length]]), some (Row.cells false 4 vs)] ++ X)))) (by simp) (by simp)
  have eC : ∀ X, frz 6 (HB ++ X) (AVal.agg [AVal.sl c1 0 C.g.length, AVal.sl c2 0 C.p.length, AVal.sl c3 0 C.lo.length, AVal.sl c4 0 C.hi.length]) = Fv C := fun X => by rw [<- hHB]; exact fc.frz (some (Row.cells false 4 [AVal.agg [AVal.view (List.map (AVal.int IntKind.i64) f.g), AVal.view (List.map (AVal.int IntKind.i64) f.p), AVal.view (List.map vw f.lo), AVal.view (List.map vw f.hi)]]) :: some (Row.cells false 4 [AVal.agg [AVal.view (List.map (AVal.int IntKind.i64) o.g), AVal.view (List.map (AVal.int IntKind.i64) o.p), AVal.view (List.map vw o.lo), AVal.view (List.map vw o.hi)]]) :: some (Dr w7) :: (YA ++ some (Row.cells false 4 [AVal.agg [AVal.sl a1 0 A.g.length, AVal.sl a2 0 A.p.length, AVal.sl a3 0 A.lo.length, AVal.sl a4 0 A.hi.length]]) :: (YB ++ [some (Row.cells false 4 [AVal.agg [AVal.sl b1 0 B.g.length, AVal.sl b2 0 B.p.length, AVal.sl b3 0 B.lo.length, AVal.sl b4 0 B.hi.length]])]))) (some (Row.cells false 4 [AVal.agg [AVal.sl c1 0 C.g.length, AVal.sl c2 0 C.p.length, AVal.sl c3 0 C.lo.length, AVal.sl c4 0 C.hi.length]]) :: (YM ++ ([some (Row.cells false 4 [AVal.agg [AVal.sl n1 0 B.g.length, AVal.sl n2 0 B.p.length, AVal.sl n3 0 B.lo.length, AVal.sl n4 0 B.hi.length]]), some (Row.cells false 4 vs)] ++ X))) (by simp) (by simp)
  have eN : ∀ X, frz 6 (HB ++ X) (AVal.agg [AVal.sl n1 0 B.g.length, AVal.sl n2 0 B.p.length, AVal.sl n3 0 B.lo.length, AVal.sl n4 0 B.hi.length]) = Fv N := fun X => by rw [<- hHB]; exact fm.frz (some (Row.cells false 4 [AVal.agg [AVal.view (List.map (AVal.int IntKind.i64) f.g), AVal.view (List.map (AVal.int IntKind.i64) f.p), AVal.view (List.map vw f.lo), AVal.view (List.map vw f.hi)]]) :: some (Row.cells false 4 [AVal.agg [AVal.view (List.map (AVal.int IntKind.i64) o.g), AVal.view (List.map (AVal.int IntKind.i64) o.p), AVal.view (List.map vw o.lo), AVal.view (List.map vw o.hi)]]) :: some (Dr w7) :: (YA ++ some (Row.cells false 4 [AVal.agg [AVal.sl a1 0 A.g.length, AVal.sl a2 0 A.p.length, AVal.sl a3 0 A.lo.length, AVal.sl a4 0 A.hi.length]]) :: (YB ++ some (Row.cells false 4 [AVal.agg [AVal.sl b1 0 B.g.length, AVal.sl b2 0 B.p.length, AVal.sl b3 0 B.lo.length, AVal.sl b4 0 B.hi.length]]) :: (YC ++ [some (Row.cells false 4 [AVal.agg [AVal.sl c1 0 C.g.length, AVal.sl c2 0 C.p.length, AVal.sl c3 0 C.lo.length, AVal.sl c4 0 C.hi.length]])])))) ([some (Row.cells false 4 [AVal.agg [AVal.sl n1 0 B.g.length, AVal.sl n2 0 B.p.length, AVal.sl n3 0 B.lo.length, AVal.sl n4 0 B.hi.length]]), some (Row.cells false 4 vs)] ++ X) (by simp) (by simp)
  have eV : ∀ (H : Heap) (F : Fa), frz 6 H (AVal.agg [AVal.view (List.map (AVal.int IntKind.i64) F.g), AVal.view (List.map (AVal.int IntKind.i64) F.p), AVal.view (List.map vw F.lo), AVal.view (List.map vw F.hi)]) = Fv F := fun H F => by simp [frz, Fv, Fcs, vw, tw, Function.comp_def]
  obtain ⟨nH, hnH⟩ : ∃ n, HB.length = n := ⟨_, rfl⟩
  rw [hnH]
  obtain ⟨ws, hws⟩ : ∃ l, [AVal.sl nH 0 2, .sl (nH + 1) 0 2, .sl (nH + 2) 0 3, .sl (nH + 3) 0 2, .nilsl, .sl (nH + 4) 0 41, .sl (nH + 5) 0 1] = l := ⟨_, rfl⟩
  obtain ⟨HC, hHC⟩ : ∃ H : Heap, HB ++ [some (Row.cells false 4 [AVal.agg [AVal.view (List.map (AVal.int IntKind.i64) f.g), AVal.view (List.map (AVal.int IntKind.i64) f.p), AVal.view (List.map vw f.lo), AVal.view (List.map vw f.hi)], AVal.agg [AVal.view (List.map (AVal.int IntKind.i64) o.g), AVal.view (List.map (AVal.int IntKind.i64) o.p), AVal.view (List.map vw o.lo), AVal.view (List.map vw o.hi)]]), some (Row.cells false 4 [AVal.agg [AVal.sl a1 0 A.g.length, AVal.sl a2 0 A.p.length, AVal.sl a3 0 A.lo.length, AVal.sl a4 0 A.hi.length], AVal.agg [AVal.sl b1 0 B.g.length, AVal.sl b2 0 B.p.length, AVal.sl b3 0 B.lo.length, AVal.sl b4 0 B.hi.length]]), some (Row.cells false 4 [AVal.agg [AVal.sl a1 0 A.g.length, AVal.sl a2 0 A.p.length, AVal.sl a3 0 A.lo.length, AVal.sl a4 0 A.hi.length], AVal.agg [AVal.sl b1 0 B.g.length, AVal.sl b2 0 B.p.length, AVal.sl b3 0 B.lo.length, AVal.sl b4 0 B.hi.length], AVal.agg [AVal.sl n1 0 B.g.length, AVal.sl n2 0 B.p.length, AVal.sl n3 0 B.lo.length, AVal.sl n4 0 B.hi.length]]), some (Row.cells false 4 [AVal.agg [AVal.sl a1 0 A.g.length, AVal.sl a2 0 A.p.length, AVal.sl a3 0 A.lo.length, AVal.sl a4 0 A.hi.length], AVal.agg [AVal.sl c1 0 C.g.length, AVal.sl c2 0 C.p.length, AVal.sl c3 0 C.lo.length, AVal.sl c4 0 C.hi.length]]), some (Row.cells false 4 (List.replicate 41 nils4)), some (Row.cells false 4 [AVal.agg [AVal.sl b1 0 B.g.length, AVal.sl b2 0 B.p.length, AVal.sl b3 0 B.lo.length, AVal.sl b4 0 B.hi.length]]), some (Row.cells false 1 ws)] = H := ⟨_, rfl⟩
  have row : ∀ (X : Heap) (d : Nat), d < 7 -> (HC ++ X)[nH + d]? = ([some (Row.cells false 4 [AVal.agg [AVal.view (List.map (AVal.int IntKind.i64) f.g), AVal.view (List.map (AVal.int IntKind.i64) f.p), AVal.view (List.map vw f.lo), AVal.view (List.map vw f.hi)], AVal.agg [AVal.view (List.map (AVal.int IntKind.i64) o.g), AVal.view (List.map (AVal.int IntKind.i64) o.p), AVal.view (List.map vw o.lo), AVal.view (List.map vw o.hi)]]), some (Row.cells false 4 [AVal.agg [AVal.sl a1 0 A.g.length, AVal.sl a2 0 A.p.length, AVal.sl a3 0 A.lo.length, AVal.sl a4 0 A.hi.length], AVal.agg [AVal.sl b1 0 B.g.length, AVal.sl b2 0 B.p.length, AVal.sl b3 0 B.lo.length, AVal.sl b4 0 B.hi.length]]), some (Row.cells false 4 [AVal.agg [AVal.sl a1 0 A.g.length, AVal.sl a2 0 A.p.length, AVal.sl a3 0 A.lo.length, AVal.sl a4 0 A.hi.length], AVal.agg [AVal.sl b1 0 B.g.length, AVal.sl b2 0 B.p.length, AVal.sl b3 0 B.lo.length, AVal.sl b4 0 B.hi.length], AVal.agg [AVal.sl n1 0 B.g.length, AVal.sl n2 0 B.p.length, AVal.sl n3 0 B.lo.length, AVal.sl n4 0 B.hi.length]]), some (Row.cells false 4 [AVal.agg [AVal.sl a1 0 A.g.length, AVal.sl a2 0 A.p.length, AVal.sl a3 0 A.lo.length, AVal.sl a4 0 A.hi.length], AVal.agg [AVal.sl c1 0 C.g.length, AVal.sl c2 0 C.p.length, AVal.sl c3 0 C.lo.length, AVal.sl c4 0 C.hi.length]]), some (Row.cells false 4 (List.replicate 41 nils4)), some (Row.cells false 4 [AVal.agg [AVal.sl b1 0 B.g.length, AVal.sl b2 0 B.p.length, AVal.sl b3 0 B.lo.length, AVal.sl b4 0 B.hi.length]]), some (Row.cells false 1 ws)] : Heap)[d]? := fun X d hd => by
    rw [<- hHC, List.append_assoc, List.getElem?_append_right (by omega), hnH, Nat.add_sub_cancel_left, List.getElem?_append_left (by simpa using hd)]
  have eX : ∀ (X : Heap) (v : AVal) (F : Fa), (∀ X, frz 6 (HB ++ X) v = Fv F) -> frz 6 (HC ++ X) v = Fv F := fun X v F h => by rw [<- hHC, List.append_assoc]; exact h _
  have gW : ∀ X, Heap.cellsAt (HC ++ X) (nH + 6) = some (false, 1, ws) := fun X => cells_at (row X 6 (by omega))
  have hel : ∀ q, q < 7 -> ∃ v u, ws[q]? = some v /\ (v = .nilsl ∨ ∃ a n, v = .sl a 0 n) /\ (∀ X, frz 7 (HC ++ X) v = u) /\ HuBoth u := by
    intro q hq
    obtain rfl | rfl | rfl | rfl | rfl | rfl | rfl : q = 0 ∨ q = 1 ∨ q = 2 ∨ q = 3 ∨ q = 4 ∨ q = 5 ∨ q = 6 := by omega
    . refine ⟨_, huL [f, o], by rw [<- hws]; rfl, .inr ⟨_, _, rfl⟩, fun X => ?_, huBoth_list _ (fun F hF => ?_) (by simp)⟩
      . refine Eq.trans (frz_sl (d := 6) (row X 0 (by omega)) rfl) ?_
        simp only [List.map_cons, List.map_nil, eV, huL]
      . simp only [List.mem_cons, List.not_mem_nil, or_false] at hF
        rcases hF with rfl | rfl <;> omega
    . refine ⟨_, huL [A, B], by rw [<- hws]; rfl, .inr ⟨_, _, rfl⟩, fun X => ?_, huBoth_list _ (fun F hF => ?_) (by simp)⟩
      . refine Eq.trans (frz_sl (d := 6) (row X 1 (by omega)) rfl) ?_
        simp only [List.map_cons, List.map_nil, eX X _ _ eA, eX X _ _ eB, huL]
      . simp only [List.mem_cons, List.not_mem_nil, or_false] at hF
        rcases hF with rfl | rfl <;> omega
    . refine ⟨_, huL [A, B, N], by rw [<- hws]; rfl, .inr ⟨_, _, rfl⟩, fun X => ?_, huBoth_list _ (fun F hF => ?_) (by simp)⟩
      . refine Eq.trans (frz_sl (d := 6) (row X 2 (by omega)) rfl) ?_
        simp only [List.map_cons, List.map_nil, eX X _ _ eA, eX X _ _ eB, eX X _ _ eN, huL]
      . simp only [List.mem_cons, List.not_mem_nil, or_false] at hF
        rcases hF with rfl | rfl | rfl
        . omega
        . omega
        . exact ⟨by rw [N1]; omega, by rw [N2]; omega, by rw [N3]; omega, by omega⟩
    . refine ⟨_, huL [A, C], by rw [<- hws]; rfl, .inr ⟨_, _, rfl⟩, fun X => ?_, huBoth_list _ (fun F hF => ?_) (by simp)⟩
      . refine Eq.trans (frz_sl (d := 6) (row X 3 (by omega)) rfl) ?_
        simp only [List.map_cons, List.map_nil, eX X _ _ eA, eX X _ _ eC, huL]
      . simp only [List.mem_cons, List.not_mem_nil, or_false] at hF
        rcases hF with rfl | rfl <;> omega
    . exact ⟨_, .nilsl, by rw [<- hws]; rfl, .inl rfl, fun X => rfl, huBoth_nil⟩
    . refine ⟨_, .view ((List.replicate 41 nils4).map (frz 6 [])), by rw [<- hws]; rfl, .inr ⟨_, _, rfl⟩, fun X => ?_, huBoth_many _ (by simp) (by simp)⟩
      refine Eq.trans (frz_sl (d := 6) (row X 4 (by omega)) (by simp)) ?_
      rw [List.map_replicate, List.map_replicate]; rfl
    . refine ⟨_, huL [B], by rw [<- hws]; rfl, .inr ⟨_, _, rfl⟩, fun X => ?_, huBoth_list _ (fun F hF => ?_) (by simp)⟩
      . refine Eq.trans (frz_sl (d := 6) (row X 5 (by omega)) rfl) ?_
        simp only [List.map_cons, List.map_nil, eX X _ _ eB, huL]
      . simp only [List.mem_cons, List.not_mem_nil, or_false] at hF
        rcases hF with rfl; omega
  have hw7 : ws.length = 7 := by rw [<- hws]; rfl
  refine loop_ind k_law02_CurveInside_r29.eq_1 (fun q : Nat × Heap => q.1 <= 7) (fun q => 7 - q.1)
    (fun q => (tsets 158 [(17, .sl (nH + 6) 0 7), (18, .int .i64 q.1)], HC ++ q.2)) (0, []) (Nat.zero_le _) (by simp [go_sem]) (by rw [List.append_nil, <- hHC, <- hws]; rfl) ?_
  clear eA eB eC eN eV eX row hHC hHB fa fb fc fm hws
  rintro ⟨q', X⟩ hq' ih
  dsimp only at hq' ih ⊢
  by_cases q1 : q' < 7
  . have q2 : (q' : Int) < 7 := by omega
    have q3 := idx_next q1 (by omega)
    have mq : ¬ (q' : Int) < 0 := by omega
    obtain ⟨v, u, hv, hvs', hu, hb⟩ := hel q' q1
    rcases hvs' with rfl | ⟨va, vn, rfl⟩
    . rcases hb with ⟨e, he, h1, h2⟩ | ⟨F, oF, h1, h2⟩
      . have be : (e == e) = true := beq_self_eq_true e
        simp only [nils4] at h1 h2
        simp only [go_sem, q2, mq, gW, hw7, hv, Int.toNat_natCast]
        refine cF h1 7 ⟨.inl (hu _), trivial⟩ ?_
        simp only [go_sem, q2, mq, gW, hw7, hv, Int.toNat_natCast, List.append_assoc, List.cons_append, List.nil_append]
        refine cF h2 7 ⟨.inl (hu _), trivial⟩ ?_
        simp only [go_sem, bne, be, List.append_assoc, List.cons_append, List.nil_append]
        refine cP rSame_none ?_
        simp only [go_sem, q3, List.append_assoc, List.cons_append, List.nil_append]
        exact ih (q' + 1, _) (by omega) q1 _ (by simp [go_sem])
      . simp only [go_sem, q2, mq, gW, hw7, hv, Int.toNat_natCast]
        refine cFD h1 (huC_pure oF.faP.pure) 7 ⟨.inl (hu _), trivial⟩ ?_
        simp only [List.length_cons, List.length_append, List.length_nil, Nat.zero_add, Nat.reduceAdd, thaw_huC]
        have t1 := atF_thaw oF.faP.pure (HC.length + X.length)
        obtain ⟨g1, g2, g3, g4, eg⟩ := thaw_fv F (HC.length + X.length)
        simp only [eg] at t1 ⊢
        generalize (thaw 6 (HC.length + X.length) (Fv F)).2 = Y1 at *
        simp only [go_sem, q2, mq, gW, hw7, hv, Int.toNat_natCast, List.append_assoc, List.cons_append, List.nil_append]
        refine cFD h2 (huC_pure oF.faP.pure) 7 ⟨.inl (hu _), trivial⟩ ?_
        simp only [List.length_cons, List.length_append, List.length_nil, Nat.zero_add, Nat.reduceAdd, thaw_huC]
        have t2 := atF_thaw oF.faP.pure (HC.length + (X.length + (Y1.length + 1)))
        obtain ⟨r1, r2, r3, r4, er⟩ := thaw_fv F (HC.length + (X.length + (Y1.length + 1)))
        simp only [er] at t2 ⊢
        generalize (thaw 6 (HC.length + (X.length + (Y1.length + 1))) (Fv F)).2 = Y2 at *
        have s1 := oF.g.most
        have s2 := oF.p.most
        have s3 := oF.llen
        have s4 := oF.hlen
        have ks := rSame_run F F ⟨by omega, by omega, ⟨by omega, fun r hr => by rw [oF.lrow r hr]; omega⟩, by omega, fun r hr => by rw [oF.hrow r hr]; omega⟩
        rw [decide_eq_true rfl] at ks
        simp only [go_sem, List.append_assoc, List.cons_append, List.nil_append]
        refine cF ks 6 ⟨.inl (t1.frz (HC ++ X) ([some (Row.cells false 4 [AVal.agg [AVal.sl g1 0 F.g.length, AVal.sl g2 0 F.p.length, AVal.sl g3 0 F.lo.length, AVal.sl g4 0 F.hi.length]])] ++ (Y2 ++ [some (Row.cells false 4 [AVal.agg [AVal.sl r1 0 F.g.length, AVal.sl r2 0 F.p.length, AVal.sl r3 0 F.lo.length, AVal.sl r4 0 F.hi.length]])])) (by simp) (by simp)), .inl (t2.frz (HC ++ (X ++ (Y1 ++ [some (Row.cells false 4 [AVal.agg [AVal.sl g1 0 F.g.length, AVal.sl g2 0 F.p.length, AVal.sl g3 0 F.lo.length, AVal.sl g4 0 F.hi.length]])]))) [some (Row.cells false 4 [AVal.agg [AVal.sl r1 0 F.g.length, AVal.sl r2 0 F.p.length, AVal.sl r3 0 F.lo.length, AVal.sl r4 0 F.hi.length]])] (by simp) (by simp)), trivial⟩ ?_
        simp only [go_sem, q3, List.append_assoc, List.cons_append, List.nil_append]
        exact ih (q' + 1, _) (by omega) q1 _ (by simp [go_sem])
    . rcases hb with ⟨e, he, h1, h2⟩ | ⟨F, oF, h1, h2⟩
      . have be : (e == e) = true := beq_self_eq_true e
        simp only [nils4] at h1 h2
        simp only [go_sem, q2, mq, gW, hw7, hv, Int.toNat_natCast]
        refine cF h1 7 ⟨.inl (hu _), trivial⟩ ?_
        simp only [go_sem, q2, mq, gW, hw7, hv, Int.toNat_natCast, List.append_assoc, List.cons_append, List.nil_append]
        refine cF h2 7 ⟨.inl (hu _), trivial⟩ ?_
        simp only [go_sem, bne, be, List.append_assoc, List.cons_append, List.nil_append]
        refine cP rSame_none ?_
        simp only [go_sem, q3, List.append_assoc, List.cons_append, List.nil_append]
        exact ih (q' + 1, _) (by omega) q1 _ (by simp [go_sem])
      . simp only [go_sem, q2, mq, gW, hw7, hv, Int.toNat_natCast]
        refine cFD h1 (huC_pure oF.faP.pure) 7 ⟨.inl (hu _), trivial⟩ ?_
        simp only [List.length_cons, List.length_append, List.length_nil, Nat.zero_add, Nat.reduceAdd, thaw_huC]
        have t1 := atF_thaw oF.faP.pure (HC.length + X.length)
        obtain ⟨g1, g2, g3, g4, eg⟩ := thaw_fv F (HC.length + X.length)
        simp only [eg] at t1 ⊢
        generalize (thaw 6 (HC.length + X.length) (Fv F)).2 = Y1 at *
        simp only [go_sem, q2, mq, gW, hw7, hv, Int.toNat_natCast, List.append_assoc, List.cons_append, List.nil_append]
        refine cFD h2 (huC_pure oF.faP.pure) 7 ⟨.inl (hu _), trivial⟩ ?_
        simp only [List.length_cons, List.length_append, List.length_nil, Nat.zero_add, Nat.reduceAdd, thaw_huC]
        have t2 := atF_thaw oF.faP.pure (HC.length + (X.length + (Y1.length + 1)))
        obtain ⟨r1, r2, r3, r4, er⟩ := thaw_fv F (HC.length + (X.length + (Y1.length + 1)))
        simp only [er] at t2 ⊢
        generalize (thaw 6 (HC.length + (X.length + (Y1.length + 1))) (Fv F)).2 = Y2 at *
        have s1 := oF.g.most
        have s2 := oF.p.most
        have s3 := oF.llen
        have s4 := oF.hlen
        have ks := rSame_run F F ⟨by omega, by omega, ⟨by omega, fun r hr => by rw [oF.lrow r hr]; omega⟩, by omega, fun r hr => by rw [oF.hrow r hr]; omega⟩
        rw [decide_eq_true rfl] at ks
        simp only [go_sem, List.append_assoc, List.cons_append, List.nil_append]
        refine cF ks 6 ⟨.inl (t1.frz (HC ++ X) ([some (Row.cells false 4 [AVal.agg [AVal.sl g1 0 F.g.length, AVal.sl g2 0 F.p.length, AVal.sl g3 0 F.lo.length, AVal.sl g4 0 F.hi.length]])] ++ (Y2 ++ [some (Row.cells false 4 [AVal.agg [AVal.sl r1 0 F.g.length, AVal.sl r2 0 F.p.length, AVal.sl r3 0 F.lo.length, AVal.sl r4 0 F.hi.length]])])) (by simp) (by simp)), .inl (t2.frz (HC ++ (X ++ (Y1 ++ [some (Row.cells false 4 [AVal.agg [AVal.sl g1 0 F.g.length, AVal.sl g2 0 F.p.length, AVal.sl g3 0 F.lo.length, AVal.sl g4 0 F.hi.length]])]))) [some (Row.cells false 4 [AVal.agg [AVal.sl r1 0 F.g.length, AVal.sl r2 0 F.p.length, AVal.sl r3 0 F.lo.length, AVal.sl r4 0 F.hi.length]])] (by simp) (by simp)), trivial⟩ ?_
        simp only [go_sem, q3, List.append_assoc, List.cons_append, List.nil_append]
        exact ih (q' + 1, _) (by omega) q1 _ (by simp [go_sem])
  . have q2 : ¬ (q' : Int) < 7 := by omega
    simp only [go_sem, q2, gW, hw7]
    refine cP awake_ok ?_
    simp only [go_sem]
end Go.Proofs
