import Derived.Test.YtcnpapgcojagpaaPH
set_option linter.unusedSimpArgs false
set_option linter.unusedVariables false
namespace Go.Proofs
open Go Go.Sx Go.Fam
attribute [local irreducible] Run
def nils4 : AVal := .agg [.nilsl, .nilsl, .nilsl, .nilsl]
def huL (l : List Fa) : AVal := .view (l.map Fv)
def huC (f : Fa) : AVal := .tup [Fv f, .int .i64 0]
def hT (l : List Fa) : List (Nat × AVal) := [(0, huL l), (2, .ptr 0 0 0 1), (3, .int .i64 0), (20, huL l), (21, .int .i64 l.length)]
def FaLs (l : List Fa) : Prop := ∀ f ∈ l, f.g.length <= 1000000 /\ f.p.length <= 1000000 /\ f.lo.length <= 1000000 /\ f.hi.length <= 1000000
theorem hullGo_bad {f0 : Fa} : ∀ {l : List Fa} {i : Nat} {f : Fa}, (∀ j g, j < i -> l[j]? = some g -> famE g = 0 /\ g.g = f0.g /\ g.p = f0.p) -> l[i]? = some f -> ¬ (famE f = 0 /\ f.g = f0.g /\ f.p = f0.p) -> hullGo f0 l = if famE f = 0 then 3 else famE f
  | [], i, f, _, hf, _ => by simp at hf
  | g :: l, 0, f, _, hf, hn => by
    simp at hf; subst hf
    unfold hullGo
    by_cases c : famE g = 0
    . rw [if_pos c, if_pos c, if_neg (fun h => hn ⟨c, h⟩)]
    . rw [if_neg c, if_neg c]
  | g :: l, i + 1, f, h, hf, hn => by
    obtain ⟨h1, h2⟩ := h 0 g (by omega) rfl
    unfold hullGo
    rw [if_pos h1, if_pos h2]
    exact hullGo_bad (i := i) (fun j x hj hx => h (j + 1) x (by omega) (by simpa using hx)) (by simpa using hf) hn
theorem hullE_of {l : List Fa} {f0 : Fa} (h : l[0]? = some f0) : hullE l = if 40 < l.length then 8 else hullGo f0 l := by
  cases l with
  | nil => simp at h
  | cons a r => simp at h; subst h; rfl
def HuPost (l : List Fa) (f0 : Fa) (v : AVal) (H' : Heap) : Prop := (hullE l ≠ 0 /\ v = .tup [nils4, .int .i64 (hullE l)]) ∨ (hullE l = 0 /\ ∃ ι, Dat 7 H' ι v (huC (hullTo f0 (l.drop 1))) /\ ι.Nodup)
structure HuI (m : Nat) (ι : List Nat) (v0 v1 v2 v3 : AVal) (J : Heap) (F : Fa) : Prop where
  r0 : J[0]? = some (some (.cells false 4 [nils4]))
  rm : J[m]? = some (some (.cells false 4 [.agg [v0, v1, v2, v3]]))
  dat : Dat 6 J ι (.agg [v0, v1, v2, v3]) (Fv F)
theorem HuI.more {m : Nat} {ι : List Nat} {v0 v1 v2 v3 : AVal} {J : Heap} {F : Fa} (h : HuI m ι v0 v1 v2 v3 J F) (Y : Heap) : HuI m ι v0 v1 v2 v3 (J ++ Y) F :=
  ⟨by rw [List.getElem?_append_left (List.getElem?_eq_some_iff.1 h.r0).1]; exact h.r0, by rw [List.getElem?_append_left (List.getElem?_eq_some_iff.1 h.rm).1]; exact h.rm, h.dat.app Y fun r hr => h.dat.lt r hr⟩
theorem fam_lines {J : Heap} {ι : List Nat} {F : Fa} {a b n n' : Nat} {v2 v3 : AVal} (h : Dat 6 J ι (.agg [.sl a 0 n, .sl b 0 n', v2, v3]) (Fv F)) : J.cellsAt a = some (true, 1, ivL F.g) /\ J.cellsAt b = some (true, 1, ivL F.p) := by
  obtain ⟨vs, ev, hx⟩ := h
  cases ev
  obtain ⟨κ0, κa, e0, d0, hx⟩ := (show All3 (Dat 5 _) _ [_, _, _, _] [vw F.g, vw F.p, tw F.lo, tw F.hi] from hx)
  obtain ⟨κ1, κb, e1, d1, hx⟩ := hx
  obtain ⟨_, q, eq, -, hq⟩ := vw_get d0
  obtain ⟨_, q', eq', -, hq'⟩ := vw_get d1
  cases eq; cases eq'
  exact ⟨cells_at hq, cells_at hq'⟩
def hMix (A f : Fa) (i k : Nat) : Fa := ⟨A.g, A.p, mkT A.g.length A.p.length (mixF mn (tg A.lo) (tg f.lo) i k), mkT A.g.length A.p.length (mixF mx (tg A.hi) (tg f.hi) i k)⟩
theorem hMix_start {A : Fa} (hA : FaOK A) (f : Fa) : hMix A f 0 0 = A := by
  obtain ⟨e1, e2⟩ := fa_tabs hA
  unfold hMix
  rw [mixF_start, mixF_start, <- e1, <- e2]
theorem hMix_row (A f : Fa) (i : Nat) : hMix A f i A.p.length = hMix A f (i + 1) 0 := by unfold hMix; rw [mixF_row, mixF_row]
theorem hMix_end (A f : Fa) : hMix A f A.g.length 0 = hj A f := by unfold hMix hj; rw [mixF_end, mixF_end]
theorem hullTo_snoc (f0 f : Fa) (r : List Fa) : hullTo f0 (r ++ [f]) = hj (hullTo f0 r) f := by unfold hullTo; rw [List.foldl_append]; rfl
def hU (l : List Fa) (m : Nat) : List (Nat × AVal) := [(2, .ptr 0 0 0 1), (7, .ptr m 0 0 1), (57, huL (l.drop 1)), (58, .int .i64 (l.length - 1 : Nat))]
theorem e_mn (a b : Int) : (if b < a then b else a) = mn a b := rfl
theorem Hull_none : Ans Try.prog n_curve_Hull [huL []] [] (.tup [nils4, .int .i64 6]) [] := by
  refine spec_run e_curve_Hull fun G => ?_
  simp only [go_sem, huL, List.map_nil, List.length_nil, nils4]
set_option maxHeartbeats 8000000 in
set_option maxRecDepth 20000 in
theorem Hull_fn (l : List Fa) (f0 : Fa) (h0 : l[0]? = some f0) (hl : FaLs l) (hn : l.length <= 1000000) : Go.Sx.Fn Try.prog n_curve_Hull [huL l] [] (HuPost l f0) := by
  have npos : 0 < l.length := (List.getElem?_eq_some_iff.1 h0).1
  have c0 : ((l.length : Int) == 0) = false := beq_eq_false_iff_ne.2 (by omega)
  refine run_fn e_curve_Hull fun G => ?_
  by_cases c : 40 < l.length
  . have eE : hullE l = 8 := by rw [hullE_of h0, if_pos c]
    have c2 : (l.length : Int) > 40 := by omega
    simp only [go_sem, huL, List.length_map, c0, c2]
    exact .inl ⟨by rw [eE]; decide, by rw [eE]; rfl⟩
  have c2 : ¬ (l.length : Int) > 40 := by omega
  have eE : hullE l = hullGo f0 l := by rw [hullE_of h0, if_neg c]
  simp only [go_sem, huL, List.length_map, c0, c2]
  refine loop_ind k_curve_Hull_r14.eq_1 (fun q : Nat × Heap => q.1 <= l.length /\ q.2[0]? = some (some (.cells false 4 [nils4])) /\ ∀ j g, j < q.1 -> l[j]? = some g -> famE g = 0 /\ g.g = f0.g /\ g.p = f0.p) (fun q => l.length - q.1)
    (fun q => (tsets 127 (hT l ++ [(22, .int .i64 q.1)]), q.2)) (0, [some (.cells false 4 [nils4])]) ⟨Nat.zero_le _, rfl, fun j g h => by omega⟩ (by simp [go_sem, hT, huL]) (by simp [nils4]) ?_
  rintro ⟨i, J⟩ ⟨hi, hJ, hA⟩ ih
  dsimp only at hi hJ hA ih ⊢
  have d0 := cells_at hJ
  simp only [nils4] at d0
  have lt0 := (List.getElem?_eq_some_iff.1 hJ).1
  by_cases h1 : i < l.length
  . have h2 : (i : Int) < l.length := by omega
    have h3 := idx_next h1 (by omega)
    have m0 : ¬ (i : Int) < 0 := by omega
    obtain ⟨f, hf⟩ : ∃ f, l[i]? = some f := ⟨_, List.getElem?_eq_getElem h1⟩
    obtain ⟨l1, l2, l3, l4⟩ := hl f (List.mem_of_getElem? hf)
    have kc := Check_run f l1 l2 l3 l4
    have k1 := pEqual_run f.g f0.g (by omega)
    have k2 := pEqual_run f.p f0.p (by omega)
    have e0 := fun Y => cells_more d0 Y
    have p0 := fun Y x => put_more (H := J) lt0 Y x
    have s0 := fun g sz es Y => cells_more (H := J.set 0 (some (Row.cells g sz es))) (j := 0) (cells_at (List.getElem?_set_self lt0)) Y
    simp only [Fv, Fcs, vw, tw] at kc
    simp only [vw] at k1 k2
    have z0 : ¬ (0 : Int) < 0 := by decide
    simp only [go_sem, hT, huL, h2, m0, hf, Int.toNat_natCast, List.length_map, Fv, Fcs, vw, tw]
    refine cP kc ?_
    by_cases c3 : famE f = 0
    . rw [c3]
      simp only [go_sem, h0, z0, Fv, Fcs, vw, tw]
      refine cP k1 ?_
      by_cases c4 : f.g = f0.g
      . rw [decide_eq_true c4]
        simp only [go_sem, h0, z0, Fv, Fcs, vw, tw]
        refine cP k2 ?_
        by_cases c5 : f.p = f0.p
        . rw [decide_eq_true c5]
          simp only [go_sem, h3]
          refine ih (i + 1, _) (by omega) ⟨h1, by rw [List.getElem?_append_left lt0]; exact hJ, fun j g hj hg => ?_⟩ _ (by simp [go_sem, hT, huL])
          by_cases c6 : j < i
          . exact hA j g c6 hg
          . obtain rfl : j = i := by omega
            rw [hf] at hg; cases hg
            exact ⟨c3, c4, c5⟩
        . rw [decide_eq_false c5]
          have eh := hullGo_bad hA hf (fun h => c5 h.2.2)
          rw [if_pos c3] at eh
          simp only [go_sem, e0, p0, s0]
          exact .inl ⟨by rw [eE, eh]; decide, by rw [eE, eh]; rfl⟩
      . rw [decide_eq_false c4]
        have eh := hullGo_bad hA hf (fun h => c4 h.2.1)
        rw [if_pos c3] at eh
        simp only [go_sem, e0, p0, s0]
        exact .inl ⟨by rw [eE, eh]; decide, by rw [eE, eh]; rfl⟩
    . have b1 : (famE f == 0) = false := beq_eq_false_iff_ne.2 c3
      have eh := hullGo_bad hA hf (fun h => c3 h.1)
      rw [if_neg c3] at eh
      simp only [go_sem, bne, b1, e0, p0, s0]
      exact .inl ⟨by rw [eE, eh]; exact c3, by rw [eE, eh]; rfl⟩
  . have h2 : ¬ (i : Int) < l.length := by omega
    clear ih
    have hok : HuOK f0 l := fun f hf => by
      obtain ⟨j, hj⟩ := List.mem_iff_getElem?.1 hf
      have := (List.getElem?_eq_some_iff.1 hj).1
      obtain ⟨a, b⟩ := hA j f (by omega) hj
      exact ⟨fam_iff.1 a, b⟩
    have hz : hullE l = 0 := by rw [eE]; exact hullGo_ok.2 hok
    have h0k := (hok f0 (List.mem_of_getElem? h0)).1
    have kc := Copy_run h0k.faP
    have pc := h0k.faP.pure
    have z0 : ¬ (0 : Int) < 0 := by decide
    simp only [go_sem, hT, huL, h2, h0, z0, List.length_map, Fv, Fcs, vw, tw]
    refine cFD kc pc 6 ⟨.inl (by simp [frz, Fv, Fcs, vw, tw, Function.comp_def]), trivial⟩ ?_
    obtain ⟨a, b, c', d, e⟩ := thaw_fv f0 J.length
    have hD := fun (R : Heap) => (thaw_dat (H := J ++ (thaw 6 J.length (Fv f0)).2) J.length pc fun i hi => by rw [get_new rfl]).app R (fun r hr => by rw [upFrom_mem] at hr; simp; omega)
    simp only [e] at hD ⊢
    generalize (thaw 6 J.length (Fv f0)).2 = Y at *
    simp only [go_sem, h2, List.length_map, List.append_assoc, List.length_append]
    refine ⟨by omega, by rw [List.all_eq_true]; intro e he; obtain ⟨x, -, rfl⟩ := List.mem_map.1 he; rfl, ?_⟩
    have hL : J.length + Y.length ≠ 0 := by omega
    have hnd := upFrom_nodup J.length Y.length
    have h0ι : 0 ∉ upFrom J.length Y.length := fun h => by have := upFrom_mem.1 h; omega
    have hmι : J.length + Y.length ∉ upFrom J.length Y.length := fun h => by have := upFrom_mem.1 h; omega
    have hI0 : HuI (J.length + Y.length) (upFrom J.length Y.length) (.sl a 0 f0.g.length) (.sl b 0 f0.p.length) (.sl c' 0 f0.lo.length) (.sl d 0 f0.hi.length) (J ++ (Y ++ [some (Row.cells false 4 [AVal.agg [AVal.sl a 0 f0.g.length, AVal.sl b 0 f0.p.length, AVal.sl c' 0 f0.lo.length, AVal.sl d 0 f0.hi.length]])])) f0 := by
      refine ⟨by rw [List.getElem?_append_left lt0]; exact hJ, ?_, ?_⟩
      . rw [<- List.append_assoc, List.getElem?_append_right (by simp)]; simp
      . rw [<- List.append_assoc]; exact hD _
    generalize upFrom J.length Y.length = ι at *
    generalize J.length + Y.length = m at *
    have hll : f0.lo.length = f0.g.length := h0k.llen
    have hhl : f0.hi.length = f0.g.length := h0k.hlen
    rw [hll, hhl] at hI0
    have gm := h0k.g.most
    have pm := h0k.p.most
    have gp := h0k.g.pos
    have pp := h0k.p.pos
    refine loop_ind k_curve_Hull_r32.eq_1 (fun q : Nat × Heap => q.1 <= l.length - 1 /\ HuI m ι (.sl a 0 f0.g.length) (.sl b 0 f0.p.length) (.sl c' 0 f0.g.length) (.sl d 0 f0.g.length) q.2 (hullTo f0 ((l.drop 1).take q.1))) (fun q => l.length - 1 - q.1)
      (fun q => (tsets 127 (hU l m ++ [(59, .int .i64 q.1)]), q.2)) (0, _) ⟨Nat.zero_le _, hI0⟩ (by simp [go_sem, hU, huL]; exact (List.take_of_length_le (by simp)).symm) (by simp [hll, hhl]) ?_
    clear hI0 hD hJ hA kc pc d0 lt0 e
    rintro ⟨j, J⟩ ⟨hjl, hI⟩ ih
    dsimp only at hjl hI ih ⊢
    by_cases j1 : j < l.length - 1
    . have j2 : (j : Int) < ((l.length - 1 : Nat) : Int) := by omega
      have j3 := idx_next j1 (by omega)
      have mj : ¬ (j : Int) < 0 := by omega
      have hlen : (l.drop 1).length = l.length - 1 := List.length_drop
      obtain ⟨f, hf⟩ : ∃ f, (l.drop 1)[j]? = some f := ⟨_, List.getElem?_eq_getElem (by omega)⟩
      obtain ⟨fok, fg, fp⟩ := hok f (List.mem_of_mem_drop (List.mem_of_getElem? hf))
      obtain ⟨Aok, Ag, Ap, -, -⟩ := hullTo_ok h0k (r := (l.drop 1).take j) fun x hx => hok x (List.mem_of_mem_drop (List.mem_of_mem_take hx))
      have esn : hullTo f0 ((l.drop 1).take (j + 1)) = hj (hullTo f0 ((l.drop 1).take j)) f := by
        rw [List.take_add_one, hf]; exact hullTo_snoc _ _ _
      have ihn := fun J' hh => ih (j + 1, J') (by omega) ⟨by omega, hh⟩
      clear ih
      dsimp only at ihn
      rw [esn] at ihn
      clear esn
      generalize hullTo f0 ((l.drop 1).take j) = A at *
      have gl : A.g.length = f0.g.length := by rw [Ag]
      have pl : A.p.length = f0.p.length := by rw [Ap]
      rw [<- gl, <- pl] at hI ihn
      have fgl : f.g.length = A.g.length := by rw [fg, Ag]
      have fpl : f.p.length = A.p.length := by rw [fp, Ap]
      have d0 := cells_at hI.r0
      have cm := fun Y => cells_more (cells_at hI.rm) Y
      have cg := fun Y => cells_more (fam_lines hI.dat).1 Y
      have hI1 := hI.more [some (Row.cells false 4 [Fv f])]
      have hfb : (J ++ [some (Row.cells false 4 [Fv f])])[J.length]? = some (some (.cells false 4 [Fv f])) := by rw [List.getElem?_append_right (Nat.le_refl _), Nat.sub_self]; rfl
      have hbx : J.length ∉ ι := fun h => by have := hI.dat.lt _ h; omega
      rw [<- hMix_start Aok f] at hI1
      simp only [go_sem, hU, huL, j2, mj, hf, Int.toNat_natCast, List.length_map, hlen, Fv, Fcs, vw, tw, cm, cg]
      generalize J.length = bx at *
      refine loop_ind k_curve_Hull_r30.eq_1 (fun q : Nat × Heap => q.1 <= A.g.length /\ HuI m ι (.sl a 0 A.g.length) (.sl b 0 A.p.length) (.sl c' 0 A.g.length) (.sl d 0 A.g.length) q.2 (hMix A f q.1 0) /\ q.2[bx]? = some (some (.cells false 4 [Fv f]))) (fun q => A.g.length - q.1)
        (fun q => (tsets 127 (hU l m ++ [(59, .int .i64 j), (9, .ptr bx 0 0 1), (65, .int .i64 A.g.length), (66, .int .i64 q.1)]), q.2)) (0, _) ⟨Nat.zero_le _, hI1, hfb⟩ (by simp [go_sem, hU, huL]) (by simp [Fv, Fcs, vw, tw]) ?_
      clear hI1 hfb cm cg hI d0
      rintro ⟨i, J⟩ ⟨hi2, hI, hfb⟩ ihi
      dsimp only at hi2 hI hfb ihi ⊢
      have cm := cells_at hI.rm
      have cp := (fam_lines hI.dat).2
      by_cases i1 : i < A.g.length
      . have i2 : (i : Int) < A.g.length := by omega
        have i3 := idx_next i1 (by omega)
        have mi : ¬ (i : Int) < 0 := by omega
        have cpl : (ivL (hMix A f i 0).p).length = A.p.length := by rw [List.length_map]; rfl
        simp only [go_sem, hU, huL, i2, cm, cp, cpl]
        refine loop_ind k_curve_Hull_r28.eq_1 (fun q : Nat × Heap => q.1 <= A.p.length /\ HuI m ι (.sl a 0 A.g.length) (.sl b 0 A.p.length) (.sl c' 0 A.g.length) (.sl d 0 A.g.length) q.2 (hMix A f i q.1) /\ q.2[bx]? = some (some (.cells false 4 [Fv f]))) (fun q => A.p.length - q.1)
          (fun q => (tsets 127 (hU l m ++ [(59, .int .i64 j), (9, .ptr bx 0 0 1), (10, .int .i64 i), (65, .int .i64 A.g.length), (66, .int .i64 i), (71, .int .i64 A.p.length), (72, .int .i64 q.1)]), q.2)) (0, J) ⟨Nat.zero_le _, hI, hfb⟩ (by simp [go_sem, hU, huL]) rfl ?_
        clear hI hfb cm cp cpl
        rintro ⟨k, J⟩ ⟨hk2, hI, hfb⟩ ihk
        dsimp only at hk2 hI hfb ihk ⊢
        by_cases k1 : k < A.p.length
        . have k2 : (k : Int) < A.p.length := by omega
          have k3 := idx_next k1 (by omega)
          have mk : ¬ (k : Int) < 0 := by omega
          have ihn := fun J' hh => ihk (k + 1, J') (by omega) ⟨k1, hh⟩
          clear ihk
          dsimp only at ihn
          have cm := cells_at hI.rm
          have cf := cells_at hfb
          simp only [Fv, Fcs, vw, tw] at cf
          obtain ⟨tL, tH, sL, sH⟩ := fok.tabs
          obtain ⟨rl, hrl, ll⟩ := tL.row i (by omega)
          obtain ⟨rh, hrh, lh⟩ := tH.row i (by omega)
          have y1 := get_at (l := rl) (i := k) (by omega)
          have y2 := get_at (l := rh) (i := k) (by omega)
          rw [<- tg_get hrl] at y1
          rw [<- tg_get hrh] at y2
          obtain ⟨r, s, vs, us, q, t, e2, e3, gr, gs, lv, lu, gi, gj, gq, gt, hq, ht, hqt, up⟩ := fam_upd hI.dat hnd (mkT_get _ i1) (mkT_get _ i1)
          rw [mkT_len] at e2 e3 lv lu
          cases e2; cases e3
          rw [mkR_len] at gi gj
          have w1 := mkR_get (mixF mn (tg A.lo) (tg f.lo) i k i) k1
          have w2 := mkR_get (mixF mx (tg A.hi) (tg f.hi) i k i) k1
          rw [mixF_at] at w1 w2
          have w3 := mkR_len A.p.length (mixF mn (tg A.lo) (tg f.lo) i k i)
          have w4 := mkR_len A.p.length (mixF mx (tg A.hi) (tg f.hi) i k i)
          have hql := (List.getElem?_eq_some_iff.1 gq).1
          have htl := (List.getElem?_eq_some_iff.1 gt).1
          have nq : ∀ a, a ∉ ι -> a ≠ q /\ a ≠ t := fun a ha => ⟨by rintro rfl; exact ha hq, by rintro rfl; exact ha ht⟩
          have c1 := cells_at gr
          have c2 := cells_at gs
          have c3 := cells_at gq
          have c4 := cells_at gt
          have rq : c' ≠ q := by
            rintro rfl
            rw [gr] at gq
            obtain rfl : vs = _ := by simpa using gq
            rw [List.getElem?_map, Option.map_eq_some_iff] at gi; obtain ⟨_, _, h⟩ := gi; cases h
          have sq : d ≠ q := by
            rintro rfl
            rw [gs] at gq
            obtain rfl : us = _ := by simpa using gq
            rw [List.getElem?_map, Option.map_eq_some_iff] at gj; obtain ⟨_, _, h⟩ := gj; cases h
          have hmq := nq m hmι
          have hbq := nq bx hbx
          have z1 := fun X => cells_at (H := J.set q X) (j := m) (by rw [List.getElem?_set_ne hmq.1.symm]; exact hI.rm)
          have z2 := fun X => cells_at (H := J.set q X) (j := d) (by rw [List.getElem?_set_ne sq.symm]; exact gs)
          have z3 := fun X => cells_at (H := J.set q X) (j := t) (by rw [List.getElem?_set_ne hqt]; exact gt)
          have z4 := fun X => cells_at (H := J.set q X) (j := bx) (by rw [List.getElem?_set_ne hbq.1.symm]; exact hfb)
          simp only [Fv, Fcs, vw, tw] at z4
          have q5 := fun x => put_lt (H := J) (x := x) hql
          have q6 := fun z x => put_lt (H := J.set q z) (j := t) (x := x) (by simpa using htl)
          simp only [go_sem, hU, huL, i2, k2, k3, mi, mk, Int.toNat_natCast, List.length_map, cm, cf, c1, c2, c3, c4, lv, lu, gi, gj, hrl, hrh, y1, y2, w1, w2, w3, w4, vw, z1, z2, z3, z4, q5, q6, ivL_set, e_mn, e_mx]
          refine ihn _ ⟨⟨?_, ?_, ?_⟩, ?_⟩ _ (by simp [go_sem, hU, huL])
          . rw [List.getElem?_set_ne (nq 0 h0ι).2.symm, List.getElem?_set_ne (nq 0 h0ι).1.symm]; exact hI.r0
          . rw [List.getElem?_set_ne hmq.2.symm, List.getElem?_set_ne hmq.1.symm]; exact hI.rm
          . have ne : ∀ {ψ : Nat -> Int} {x : Int}, (mkR A.p.length ψ).set k x ≠ [] := fun {ψ x} e => by
              have := congrArg List.length e
              rw [List.length_set, mkR_len, List.length_nil] at this
              omega
            have := up ((J.set q (some (Row.cells true 1 (ivL ((mkR A.p.length (mixF mn (tg A.lo) (tg f.lo) i k i)).set k (mn (tg A.lo i k) (tg f.lo i k))))))).set t (some (Row.cells true 1 (ivL ((mkR A.p.length (mixF mx (tg A.hi) (tg f.hi) i k i)).set k (mx (tg A.hi i k) (tg f.hi i k)))))))
              _ _ ne ne List.length_set List.length_set (fun a ha n1 n2 => by rw [List.getElem?_set_ne n2.symm, List.getElem?_set_ne n1.symm]) (by rw [List.getElem?_set_ne hqt.symm, List.getElem?_set_self hql]) (by rw [List.getElem?_set_self (by simpa using htl)])
            rw [mixF_step _ _ _ i1 k1, mixF_step _ _ _ i1 k1] at this
            exact this
          . rw [List.getElem?_set_ne hbq.2.symm, List.getElem?_set_ne hbq.1.symm]; exact hfb
        . have k2 : ¬ (k : Int) < A.p.length := by omega
          obtain rfl : k = A.p.length := by omega
          rw [hMix_row] at hI
          simp only [go_sem, hU, huL, k2, i3]
          exact ihi (i + 1, J) (by omega) ⟨i1, hI, hfb⟩ _ (by simp [go_sem, hU, huL])
      . have i2 : ¬ (i : Int) < A.g.length := by omega
        obtain rfl : i = A.g.length := by omega
        rw [hMix_end] at hI
        simp only [go_sem, hU, huL, i2, j3]
        exact ihn J hI _ (by simp [go_sem, hU, huL])
    . have j2 : ¬ (j : Int) < ((l.length - 1 : Nat) : Int) := by omega
      have : (l.drop 1).take j = l.drop 1 := List.take_of_length_le (by rw [List.length_drop]; omega)
      rw [this] at hI
      obtain ⟨r0, rm, dat⟩ := hI
      have cm := cells_at rm
      have c1 := cells_at r0
      simp only [nils4] at c1
      have hlt1 := (List.getElem?_eq_some_iff.1 r0).1
      have q1 := fun x => put_lt (H := J) (x := x) hlt1
      have q2 := fun g sz es => cells_at (H := J.set 0 (some (Row.cells g sz es))) (j := 0) (List.getElem?_set_self hlt1)
      simp only [go_sem, hU, j2, cm, c1, q1, q2]
      exact .inr ⟨hz, ι, ⟨_, rfl, ι, [], by simp, dat.set _ h0ι, [], [], rfl, .int _ _ _ _, rfl⟩, hnd⟩
theorem thaw_huC (f : Fa) (k : Nat) : thaw 7 k (huC f) = (.tup [(thaw 6 k (Fv f)).1, .int .i64 0], (thaw 6 k (Fv f)).2) := by
  unfold huC
  simp only [thaw, mapk, List.append_nil]
theorem huC_pure {f : Fa} (h : Pure 6 (Fv f)) : Pure 7 (huC f) := by
  intro e he
  simp only [List.mem_cons, List.not_mem_nil, or_false] at he
  rcases he with rfl | rfl
  . exact h
  . rfl
theorem Hull_run {l : List Fa} {f0 : Fa} (h0 : l[0]? = some f0) (hl : FaLs l) (hn : l.length <= 1000000) (he : hullE l = 0) (hp : Pure 6 (Fv (hullTo f0 (l.drop 1)))) :
    Ans Try.prog n_curve_Hull [huL l] [] (thaw 7 0 (huC (hullTo f0 (l.drop 1)))).1 (thaw 7 0 (huC (hullTo f0 (l.drop 1)))).2 :=
  ans_dat0 (huC_pure hp) ((Hull_fn l f0 h0 hl hn).mono fun v H' h => by
    rcases h with ⟨h, -⟩ | ⟨-, h⟩
    . exact absurd he h
    . exact h)
theorem Hull_bad (l : List Fa) (hl : FaLs l) (hn : l.length <= 1000000) (he : hullE l ≠ 0) : Ans Try.prog n_curve_Hull [huL l] [] (.tup [nils4, .int .i64 (hullE l)]) [] := by
  cases l with
  | nil => exact Hull_none
  | cons f0 r =>
    refine (Hull_fn (f0 :: r) f0 rfl hl hn).mono fun v H' h => ?_
    rcases h with ⟨-, h⟩ | ⟨h, -⟩
    . exact ⟨h, H', rfl⟩
    . exact absurd h he
end Go.Proofs
namespace Go.Proofs
open Go Go.Sx Go.Fam
attribute [local irreducible] Run
def rcpT (t : List (List Int)) : List (Nat × AVal) := [(0, tw t)]
set_option maxHeartbeats 2000000 in
set_option maxRecDepth 20000 in
theorem rtable_fn (t : List (List Int)) (hl : t.length <= 1000000) (h0 : ∀ r ∈ t, r ≠ [] /\ r.length <= 1000000) (ht : t ≠ []) : Go.Sx.Fn Try.prog n_ref02_table [tw t] [] fun v H' => ∃ ι, Dat 5 H' ι v (tw t) /\ ι.Nodup := by
  have e1 : tw t = tbC t := by unfold tbC; rw [if_neg ht]
  rw [e1]
  suffices h : Go.Sx.Fn Try.prog n_ref02_table [tw t] [] fun v H' => ∃ ι, TS H' ι v t by
    rw [<- e1]
    exact h.mono fun v H' ⟨ι, h⟩ => ⟨ι, by rw [e1]; exact h.dat, h.nd⟩
  clear e1
  refine run_fn e_ref02_table fun G => ?_
  simp only [go_sem, tw, List.length_map]
  refine loop_ind k_ref02_table_r6.eq_1 (fun q : Nat × Heap × AVal × List Nat => q.1 <= t.length /\ TS q.2.1 q.2.2.2 q.2.2.1 (t.take q.1)) (fun q => t.length - q.1)
    (fun q => (tsets 20 (rcpT t ++ [(3, q.2.2.1), (4, .int .i64 q.1)]), q.2.1)) (0, [], .nilsl, []) ⟨Nat.zero_le _, ⟨rfl, rfl, rfl⟩, by simp⟩ (by simp [go_sem, rcpT, tw]) rfl ?_
  rintro ⟨i, J, v, κ⟩ ⟨hi, hT⟩ ih
  dsimp only at hi hT ih ⊢
  by_cases h1 : i < t.length
  . have h2 : (i : Int) < t.length := by omega
    have h3 := idx_next h1 (by omega)
    have m0 : ¬ (i : Int) < 0 := by omega
    obtain ⟨row, hr⟩ : ∃ r, t[i]? = some r := ⟨_, List.getElem?_eq_getElem h1⟩
    obtain ⟨r0, rl⟩ := h0 row (List.mem_of_getElem? hr)
    have kc := rints_run row rl r0
    simp only [vw] at kc
    have et : t.take (i + 1) = t.take i ++ [row] := by rw [List.take_add_one, hr]; rfl
    have lt : (t.take i).length = i := by rw [List.length_take]; omega
    by_cases i0 : i = 0
    . have e0 : t.take i = [] := by rw [i0]; rfl
      rw [e0] at hT et
      obtain ⟨ev, hn⟩ := hT.first
      subst ev
      simp only [go_sem, rcpT, tw, h2, m0, hr, Int.toNat_natCast, List.length_map, vw]
      refine cN1 kc ?_
      simp only [go_sem, ren, h3]
      refine ⟨by decide, ?_⟩
      refine ih (i + 1, _, .sl (J.length + 2) 0 1, [J.length, J.length + 2]) (by omega) ⟨h1, ?_⟩ _ (by simp [go_sem, rcpT, tw])
      dsimp only
      rw [et]
      exact hn _ _ _ row r0 (by omega) (by rw [List.getElem?_append_right (Nat.le_refl _), Nat.sub_self]; rfl) (by rw [get_new rfl]; rfl)
    . have L0 : t.take i ≠ [] := by intro e; rw [e] at lt; simp at lt; omega
      obtain ⟨r, vs, ev, g, al, hn⟩ := hT.next L0
      subst ev
      rw [lt] at al hn ⊢
      have hrl := (List.getElem?_eq_some_iff.1 g).1
      have a1 := fun Y => cells_more (cells_at g) Y
      have a2 := fun Y x => put_more (H := J) hrl Y x
      have z1 : (i + 1) * 24 <= 2 ^ 44 := by omega
      simp only [go_sem, rcpT, tw, h2, m0, hr, Int.toNat_natCast, List.length_map, vw]
      refine cN1 kc ?_
      simp only [go_sem, ren, h3, a1, a2, al, z1]
      obtain ⟨κ', hk⟩ := hn (J.set r (some (Row.cells true 1 (vs ++ [AVal.sl J.length 0 row.length]))) ++ [some (Row.cells true 1 (ivL row)), some (Row.cells false 1 [AVal.sl J.length 0 row.length])]) J.length row r0 (Nat.le_refl _)
        (fun q hq hn => by rw [List.getElem?_append_left (by simpa using hq), List.getElem?_set_ne (fun e => hn e.symm)]) (by rw [List.getElem?_append_right (by simp)]; simp) (by rw [List.getElem?_append_left (by simpa using hrl), List.getElem?_set_self hrl])
      exact ih (i + 1, _, _, κ') (by omega) ⟨h1, by dsimp only; rw [et]; exact hk⟩ _ (by simp [go_sem, rcpT, tw])
  . have h2 : ¬ (i : Int) < t.length := by omega
    have : t.take i = t := List.take_of_length_le (by omega)
    rw [this] at hT
    simp only [go_sem, rcpT, tw, List.length_map, h2]
    exact ⟨κ, hT⟩
theorem rtable_run (t : List (List Int)) (hl : t.length <= 1000000) (h0 : ∀ r ∈ t, r ≠ [] /\ r.length <= 1000000) (ht : t ≠ []) : Ans Try.prog n_ref02_table [tw t] [] (thaw 5 0 (tw t)).1 (thaw 5 0 (tw t)).2 :=
  ans_dat0 (tw_pure t ht fun r hr => (h0 r hr).1) (rtable_fn t hl h0 ht)
set_option maxHeartbeats 2000000 in
set_option maxRecDepth 20000 in
theorem rCopy_fn {f : Fa} (h : FaP f) : Go.Sx.Fn Try.prog n_ref02_Copy [Fv f] [] fun v H' => ∃ ι, Dat 6 H' ι v (Fv f) /\ ι.Nodup := by
  have c1 := rints_run f.g h.g.2 h.g.1
  have c2 := rints_run f.p h.p.2 h.p.1
  have c3 := rtable_run f.lo h.lo.2.1 h.lo.2.2 h.lo.1
  have c4 := rtable_run f.hi h.hi.2.1 h.hi.2.2 h.hi.1
  have p3 := tw_pure f.lo h.lo.1 fun r hr => (h.lo.2.2 r hr).1
  have p4 := tw_pure f.hi h.hi.1 fun r hr => (h.hi.2.2 r hr).1
  simp only [vw] at c1 c2
  refine run_fn e_ref02_Copy fun G => ?_
  simp only [go_sem, Fv, Fcs, vw, tw]
  refine dFN c1 6 [] ?_ ?_
  . exact ⟨.inl (by simp [frz, Function.comp_def]), trivial⟩
  simp only [go_sem, ren]
  refine dFN c2 6 [] ?_ ?_
  . exact ⟨.inl (by simp [frz, Function.comp_def]), trivial⟩
  simp only [go_sem, ren]
  refine dFD c3 p3 6 [] ?_ ?_
  . exact ⟨.inl (by simp [frz, vw, tw, Function.comp_def]), trivial⟩
  simp only [List.length_cons, List.length_nil, List.length_append, Nat.zero_add, Nat.reduceAdd]
  obtain ⟨a, ea⟩ := thaw_tw f.lo 4
  have hD := fun (A : Heap) (hA : A.length = 4) => thaw_dat (H := A ++ (thaw 5 4 (tw f.lo)).2) 4 p3 fun i hi => by rw [get_new hA]
  simp only [ea] at hD ⊢
  generalize (thaw 5 4 (tw f.lo)).2 = Y at *
  simp only [go_sem]
  refine cFD c4 p4 6 ?_ ?_
  . exact ⟨.inl (by simp [frz, vw, tw, Function.comp_def]), trivial⟩
  simp only [List.length_cons, List.length_nil, List.length_append, Nat.zero_add, Nat.reduceAdd]
  obtain ⟨b, eb⟩ := thaw_tw f.hi (Y.length + 1 + 1 + 1 + 1)
  have hD2 := fun (A : Heap) (hA : A.length = Y.length + 1 + 1 + 1 + 1) => thaw_dat (H := A ++ (thaw 5 (Y.length + 1 + 1 + 1 + 1) (tw f.hi)).2) (Y.length + 1 + 1 + 1 + 1) p4 fun i hi => by rw [get_new hA]
  simp only [eb] at hD2 ⊢
  generalize (thaw 5 (Y.length + 1 + 1 + 1 + 1) (tw f.hi)).2 = Z at *
  simp only [go_sem, List.append_assoc, List.cons_append, List.nil_append]
  obtain ⟨r1, hr1⟩ : ∃ r, some (Row.cells false 4 [AVal.agg [AVal.view (List.map (AVal.int IntKind.i64) f.g), AVal.view (List.map (AVal.int IntKind.i64) f.p), AVal.view (List.map vw f.lo), AVal.view (List.map vw f.hi)]]) = r := ⟨_, rfl⟩
  obtain ⟨r2, hr2⟩ : ∃ r, some (Row.cells false 4 [AVal.agg [AVal.sl 2 0 f.g.length, AVal.sl 3 0 f.p.length, AVal.sl a 0 f.lo.length, AVal.sl b 0 f.hi.length]]) = r := ⟨_, rfl⟩
  simp only [hr1, hr2]
  have k1 : Dat 5 (r1 :: r2 :: some (Row.cells true 1 (ivL f.g)) :: some (Row.cells true 1 (ivL f.p)) :: (Y ++ Z)) [2] (.sl 2 0 f.g.length) (vw f.g) := vw_put h.g.1 rfl rfl
  have k2 : Dat 5 (r1 :: r2 :: some (Row.cells true 1 (ivL f.g)) :: some (Row.cells true 1 (ivL f.p)) :: (Y ++ Z)) [3] (.sl 3 0 f.p.length) (vw f.p) := vw_put h.p.1 rfl rfl
  have k3 := (hD [r1, r2, some (Row.cells true 1 (ivL f.g)), some (Row.cells true 1 (ivL f.p))] rfl).app Z (fun r hr => by rw [upFrom_mem] at hr; simp; omega)
  have k4 := hD2 ([r1, r2, some (Row.cells true 1 (ivL f.g)), some (Row.cells true 1 (ivL f.p))] ++ Y) (by simp)
  refine ⟨[2] ++ ([3] ++ (upFrom 4 Y.length ++ (upFrom (Y.length + 1 + 1 + 1 + 1) Z.length ++ []))), ⟨_, rfl, [2], _, rfl, k1, [3], _, rfl, k2, upFrom 4 Y.length, _, rfl, k3, upFrom (Y.length + 1 + 1 + 1 + 1) Z.length, [], rfl, ?_, rfl⟩, ?_⟩
  . simp only [List.cons_append, List.nil_append, List.append_assoc] at k4
    exact k4
  . refine List.nodup_iff_count.2 fun x => ?_
    simp only [List.count_append, List.count_cons, List.count_nil, beq_iff_eq]
    have n3 := List.nodup_iff_count.1 (upFrom_nodup 4 Y.length) x
    have n4 := List.nodup_iff_count.1 (upFrom_nodup (Y.length + 1 + 1 + 1 + 1) Z.length) x
    have z3 : (upFrom 4 Y.length).count x = 0 ∨ (4 <= x /\ x < 4 + Y.length) := by
      by_cases c : x ∈ upFrom 4 Y.length
      . exact .inr (upFrom_mem.1 c)
      . exact .inl (List.count_eq_zero.2 c)
    have z4 : (upFrom (Y.length + 1 + 1 + 1 + 1) Z.length).count x = 0 ∨ Y.length + 4 <= x := by
      by_cases c : x ∈ upFrom (Y.length + 1 + 1 + 1 + 1) Z.length
      . have := upFrom_mem.1 c; exact .inr (by omega)
      . exact .inl (List.count_eq_zero.2 c)
    split <;> split <;> omega
theorem rCopy_run {f : Fa} (h : FaP f) : Ans Try.prog n_ref02_Copy [Fv f] [] (thaw 6 0 (Fv f)).1 (thaw 6 0 (Fv f)).2 := ans_dat0 h.pure (rCopy_fn h)
end Go.Proofs
namespace Go.Proofs
open Go Go.Sx Go.Fam
attribute [local irreducible] Run
theorem rboth_run (a b : List Int) (ha : a.length <= 1000) (hb : b.length <= 1000) (h0 : a ≠ []) : Ans Try.prog n_ref02_both [vw a, vw b] [] (.sl 0 0 (a.length + b.length)) [some (.cells true 1 (ivL a ++ ivL b))] := by
  have k := rints_run a (by omega) h0
  have h8 : (a.length + b.length) * 8 <= 2 ^ 44 := by omega
  simp only [vw] at k
  refine spec_run e_ref02_both fun G => ?_
  simp only [go_sem, vw]
  refine cN1 k ?_
  simp only [go_sem, ren, List.length_map, h8]
  exact ⟨_, rfl⟩
theorem vN_r (t : List (List Int)) (x y : Sp) : vN t x y = (if x.part = 0 then x.whole else 1) * (if y.part = 0 then y.whole else 1) * vN t (if x.part = 0 then ⟨x.at_, 0, 1⟩ else x) (if y.part = 0 then ⟨y.at_, 0, 1⟩ else y) := by
  have L : ∀ (x z : Sp), vN t x z = (if x.part = 0 then x.whole else 1) * vN t (if x.part = 0 then ⟨x.at_, 0, 1⟩ else x) z := fun x z => by
    split
    . rename_i h
      obtain ⟨i, q, w⟩ := x
      simp only at h; subst h
      exact vN_left t i w z
    . rw [Int.one_mul]
  have R : ∀ (z y : Sp), vN t z y = (if y.part = 0 then y.whole else 1) * vN t z (if y.part = 0 then ⟨y.at_, 0, 1⟩ else y) := fun z y => by
    split
    . rename_i h
      obtain ⟨i, q, w⟩ := y
      simp only at h; subst h
      exact vN_right t z i w
    . rw [Int.one_mul]
  rw [L x y, R _ y, <- Int.mul_assoc]
theorem wh_r (x : Sp) : x.whole = (if x.part = 0 then x.whole else 1) * (if x.part = 0 then (⟨x.at_, 0, 1⟩ : Sp) else x).whole := by
  split
  . exact (Int.mul_one _).symm
  . exact (Int.one_mul _).symm
theorem cross {p q a b c d : Int} (hp : 0 < p) (hq : 0 < q) : (p * a * (q * d) < q * b * (p * c)) ↔ a * d < b * c := by
  have e1 : p * a * (q * d) = p * q * (a * d) := by rw [Int.mul_assoc, Int.mul_left_comm a, <- Int.mul_assoc]
  have e2 : q * b * (p * c) = p * q * (b * c) := by rw [Int.mul_assoc, Int.mul_left_comm b, <- Int.mul_assoc, Int.mul_comm q p]
  rw [e1, e2]
  exact Int.mul_lt_mul_left (Int.mul_pos hp hq)
theorem rspot_inAt {f t : Fa} (hf : FaOK f) (ht : FaOK t) (g p : Int) : inAt f t g p = (!loB f t (rspot f.g g) (rspot f.p p) (rspot t.g g) (rspot t.p p) && !hiB f t (rspot f.g g) (rspot f.p p) (rspot t.g g) (rspot t.p p)) := by
  have h1 := sp_g hf g
  have h2 := sp_p hf p
  have h3 := sp_g ht g
  have h4 := sp_p ht p
  unfold inAt rspot
  generalize spot f.g g = x at *
  generalize spot f.p p = y at *
  generalize spot t.g g = a at *
  generalize spot t.p p = b at *
  have P : ∀ {n : Nat} {M : Int} {s : Sp}, SpOK n M s -> 0 < (if s.part = 0 then s.whole else 1) := fun {n M s} hs => by
    have := hs.part
    split <;> omega
  have p1 := Int.mul_pos (P h1) (P h2)
  have p2 := Int.mul_pos (P h3) (P h4)
  have D : ∀ s q : Sp, s.whole * q.whole = (if s.part = 0 then s.whole else 1) * (if q.part = 0 then q.whole else 1) * ((if s.part = 0 then (⟨s.at_, 0, 1⟩ : Sp) else s).whole * (if q.part = 0 then (⟨q.at_, 0, 1⟩ : Sp) else q).whole) := fun s q => by
    have e1 := wh_r s
    have e2 := wh_r q
    generalize (if s.part = 0 then (⟨s.at_, 0, 1⟩ : Sp) else s).whole = u at *
    generalize (if q.part = 0 then (⟨q.at_, 0, 1⟩ : Sp) else q).whole = v at *
    generalize (if s.part = 0 then s.whole else 1) = m at *
    generalize (if q.part = 0 then q.whole else 1) = n at *
    rw [e1, e2, Int.mul_assoc, Int.mul_left_comm u, <- Int.mul_assoc]
  have E1 : loB f t x y a b = loB f t (if x.part = 0 then ⟨x.at_, 0, 1⟩ else x) (if y.part = 0 then ⟨y.at_, 0, 1⟩ else y) (if a.part = 0 then ⟨a.at_, 0, 1⟩ else a) (if b.part = 0 then ⟨b.at_, 0, 1⟩ else b) := by
    unfold loB
    rw [vN_r t.lo a b, vN_r f.lo x y, D x y, D a b]
    exact decide_eq_decide.2 (cross p2 p1)
  have E2 : hiB f t x y a b = hiB f t (if x.part = 0 then ⟨x.at_, 0, 1⟩ else x) (if y.part = 0 then ⟨y.at_, 0, 1⟩ else y) (if a.part = 0 then ⟨a.at_, 0, 1⟩ else a) (if b.part = 0 then ⟨b.at_, 0, 1⟩ else b) := by
    unfold hiB
    rw [vN_r t.hi a b, vN_r f.hi x y, D x y, D a b]
    exact decide_eq_decide.2 (cross p1 p2)
  rw [E1, E2]
theorem rsp_ok {n : Nat} {M : Int} {s : Sp} (h : SpOK n M s) (hM : 1 <= M) : SpOK n M (if s.part = 0 then ⟨s.at_, 0, 1⟩ else s) := by
  split
  . exact ⟨h.at_, by simp, by dsimp only; omega, by simp⟩
  . exact h
theorem rspot_one {a : Int} {l : List Int} (h : Asc a l) {v : Int} (hv : v ∈ l) : (rspot l v).whole = 1 := by
  obtain ⟨i, hi⟩ := List.mem_iff_getElem?.1 hv
  have hlt := (List.getElem?_eq_some_iff.1 hi).1
  rw [get_at hlt] at hi
  cases hi
  unfold rspot
  rw [if_pos (spot_line h hlt).2.1]
end Go.Proofs
namespace Go.Proofs
open Go Go.Sx Go.Fam
attribute [local irreducible] Run
theorem prod4 {x y u v : Int} (hx : 1 <= x /\ x <= 2000000) (hy : 1 <= y /\ y <= 1000000) (hu : 1 <= u /\ u <= 2000000) (hv : 1 <= v /\ v <= 1000000) (h1 : x = 1 ∨ u = 1) (h2 : y = 1 ∨ v = 1) : 0 <= u * v * (x * y) /\ u * v * (x * y) <= 2000000 * 1000000 := by
  refine ⟨Int.mul_nonneg (Int.mul_nonneg (by omega) (by omega)) (Int.mul_nonneg (by omega) (by omega)), ?_⟩
  have e : u * v * (x * y) = (x * u) * (y * v) := by rw [Int.mul_comm (u * v), Int.mul_assoc, Int.mul_left_comm y, Int.mul_assoc]
  rw [e]
  have a : 0 <= x * u /\ x * u <= 2000000 := by rcases h1 with rfl | rfl <;> omega
  have b : 0 <= y * v /\ y * v <= 1000000 := by rcases h2 with rfl | rfl <;> omega
  exact Int.mul_le_mul a.2 b.2 b.1 (by omega)
theorem big_in {N U D : Int} (h0 : 0 <= N) (h1 : N <= 1000000 * U) (hD : 0 <= D) (hb : U * D <= 2000000 * 1000000) : 0 <= N * D /\ N * D <= 2000000 * 1000000 * 1000000 := by
  refine ⟨Int.mul_nonneg h0 hD, ?_⟩
  have := Int.mul_le_mul_of_nonneg_right h1 hD
  rw [Int.mul_assoc] at this
  omega
def riT (n m : Nat) : List (Nat × AVal) := [(2, .ptr 0 0 0 1), (3, .ptr 1 0 0 1), (5, .sl 2 0 n), (6, .sl 3 0 m)]
structure RiH (f t : Fa) (J : Heap) : Prop where
  r0 : J[0]? = some (some (.cells false 4 [Fv f]))
  r1 : J[1]? = some (some (.cells false 4 [Fv t]))
  r2 : J[2]? = some (some (.cells true 1 (ivL f.g ++ ivL t.g)))
  r3 : J[3]? = some (some (.cells true 1 (ivL f.p ++ ivL t.p)))
theorem RiH.more {f t : Fa} {J : Heap} (h : RiH f t J) (Y : Heap) : RiH f t (J ++ Y) := by
  have l0 := (List.getElem?_eq_some_iff.1 h.r0).1
  have l1 := (List.getElem?_eq_some_iff.1 h.r1).1
  have l2 := (List.getElem?_eq_some_iff.1 h.r2).1
  have l3 := (List.getElem?_eq_some_iff.1 h.r3).1
  exact ⟨by rw [List.getElem?_append_left l0]; exact h.r0, by rw [List.getElem?_append_left l1]; exact h.r1, by rw [List.getElem?_append_left l2]; exact h.r2, by rw [List.getElem?_append_left l3]; exact h.r3⟩
set_option maxHeartbeats 8000000 in
set_option maxRecDepth 20000 in
theorem rInside_run (f t : Fa) (hg : f.g.length <= 1000000) (hp : f.p.length <= 1000000) (hl : f.lo.length <= 1000000) (hh : f.hi.length <= 1000000) (tg : t.g.length <= 1000000) (tp : t.p.length <= 1000000) (tl : t.lo.length <= 1000000) (th : t.hi.length <= 1000000) :
    Ans Try.prog n_ref02_Inside [Fv f, Fv t] [] (.bool (insB f t)) [] := by
  have k1 := rCheck_run f hg hp hl hh
  have k2 := rCheck_run t tg tp tl th
  simp only [Fv, Fcs, vw, tw] at k1 k2
  refine spec_run e_ref02_Inside fun G => ?_
  simp only [go_sem, Fv, Fcs, vw, tw]
  refine cP k1 ?_
  by_cases c1 : famE f = 0
  . rw [c1]
    simp only [go_sem]
    refine cP k2 ?_
    by_cases c2 : famE t = 0
    . rw [c2]
      have hf := fam_iff.1 c1
      have ht := fam_iff.1 c2
      have gp := hf.g.pos
      have gm := hf.g.most
      have pp := hf.p.pos
      have pm := hf.p.most
      have hgp := ht.g.pos
      have hgm := ht.g.most
      have hpp := ht.p.pos
      have hpm := ht.p.most
      have q1 := rboth_run f.g t.g (by omega) (by omega) (by intro e; rw [e] at gp; simp at gp)
      have q2 := rboth_run f.p t.p (by omega) (by omega) (by intro e; rw [e] at pp; simp at pp)
      simp only [vw] at q1 q2
      have glen : (f.g ++ t.g).length = f.g.length + t.g.length := List.length_append
      have plen : (f.p ++ t.p).length = f.p.length + t.p.length := List.length_append
      have eB : insB f t = (f.g ++ t.g).all fun g => (f.p ++ t.p).all fun p => inAt f t g p := by unfold insB; rw [decide_eq_true c1, decide_eq_true c2]; simp
      rw [eB]
      clear eB
      simp only [go_sem]
      refine dFN q1 6 [] ⟨.inl (by simp [frz, Function.comp_def]), .inl (by simp [frz, Function.comp_def]), trivial⟩ ?_ (hx := by rw [<- List.map_append, rowi_bel]; trivial) (hxn := by rw [<- List.map_append, rowi_nv]; trivial)
      simp only [go_sem, ren]
      first
        | refine dFN q2 6 [] ⟨.inl (by simp [frz, Function.comp_def]), .inl (by simp [frz, Function.comp_def]), trivial⟩ ?_ (hx := by rw [<- List.map_append, rowi_bel]; trivial) (hxn := by rw [<- List.map_append, rowi_nv]; trivial)
        | refine cFN q2 6 ⟨.inl (by simp [frz, Function.comp_def]), .inl (by simp [frz, Function.comp_def]), trivial⟩ ?_ (hx := by rw [<- List.map_append, rowi_bel]; trivial) (hxn := by rw [<- List.map_append, rowi_nv]; trivial)
      simp only [go_sem, ren]
      refine loop_ind k_ref02_Inside_r16.eq_1 (fun a : Nat × Heap => a.1 <= f.g.length + t.g.length /\ RiH f t a.2 /\ ∀ j x, j < a.1 -> (f.g ++ t.g)[j]? = some x -> ((f.p ++ t.p).all fun p => inAt f t x p) = true) (fun a => f.g.length + t.g.length - a.1)
        (fun a => (tsets 115 (riT (f.g.length + t.g.length) (f.p.length + t.p.length) ++ [(7, .int .i64 a.1)]), a.2)) (0, [some (.cells false 4 [Fv f]), some (.cells false 4 [Fv t]), some (.cells true 1 (ivL f.g ++ ivL t.g)), some (.cells true 1 (ivL f.p ++ ivL t.p))]) ⟨Nat.zero_le _, ⟨rfl, rfl, rfl, rfl⟩, fun j x h => by simp at h⟩ (by simp [go_sem, riT]) (by simp [Fv, Fcs, tw, vw]) ?_
      rintro ⟨i, J⟩ ⟨hi, hH, hAll⟩ ih
      dsimp only at hi hH hAll ih ⊢
      have d2 := cells_at hH.r2
      by_cases h1 : i < f.g.length + t.g.length
      . have h2 : (i : Int) < ((f.g.length + t.g.length : Nat) : Int) := by omega
        have h3 := idx_next h1 (by omega)
        have m0 : ¬ (i : Int) < 0 := by omega
        obtain ⟨x, hx⟩ : ∃ x, (f.g ++ t.g)[i]? = some x := ⟨_, List.getElem?_eq_getElem (by omega)⟩
        have hx2 : (ivL f.g ++ ivL t.g)[i]? = some (.int .i64 x) := by rw [<- List.map_append, List.getElem?_map, hx]; rfl
        have bx := in_lines hf.g ht.g hx
        simp only [go_sem, riT, h2, d2, List.length_append, List.length_map]
        refine loop_ind k_ref02_Inside_r14.eq_1 (fun a : Nat × Heap => a.1 <= f.p.length + t.p.length /\ RiH f t a.2 /\ ∀ j p, j < a.1 -> (f.p ++ t.p)[j]? = some p -> inAt f t x p = true) (fun a => f.p.length + t.p.length - a.1)
          (fun a => (tsets 115 (riT (f.g.length + t.g.length) (f.p.length + t.p.length) ++ [(7, .int .i64 i), (8, .int .i64 a.1)]), a.2)) (0, J) ⟨Nat.zero_le _, hH, fun j p h => by omega⟩ (by simp [go_sem, riT]) rfl ?_
        clear hH d2
        rintro ⟨k, J⟩ ⟨hk, hH, hAllk⟩ ihk
        dsimp only at hk hH hAllk ihk ⊢
        have d0 := cells_at hH.r0
        have d1 := cells_at hH.r1
        have d2 := cells_at hH.r2
        have d3 := cells_at hH.r3
        simp only [Fv, Fcs, vw, tw] at d0 d1
        have e0 := fun Y => cells_more d0 Y
        have e1 := fun Y => cells_more d1 Y
        have e2 := fun Y => cells_more d2 Y
        have e3 := fun Y => cells_more d3 Y
        by_cases j1 : k < f.p.length + t.p.length
        . have j2 : (k : Int) < ((f.p.length + t.p.length : Nat) : Int) := by omega
          have j3 := idx_next j1 (by omega)
          have m1 : ¬ (k : Int) < 0 := by omega
          obtain ⟨y, hy⟩ : ∃ y, (f.p ++ t.p)[k]? = some y := ⟨_, List.getElem?_eq_getElem (by omega)⟩
          have hy2 : (ivL f.p ++ ivL t.p)[k]? = some (.int .i64 y) := by rw [<- List.map_append, List.getElem?_map, hy]; rfl
          have byy := in_lines hf.p ht.p hy
          obtain ⟨tL, tH, sL, sH⟩ := hf.tabs
          obtain ⟨uL, uH, rL, rH⟩ := ht.tabs
          have f1 := rfind_run (a := -1000000) (by omega) hf.g (v := x) bx
          have f2 := rfind_run (a := 0) (by omega) hf.p (v := y) (by omega)
          have f3 := rfind_run (a := -1000000) (by omega) ht.g (v := x) bx
          have f4 := rfind_run (a := 0) (by omega) ht.p (v := y) (by omega)
          have o1 : SpOK f.g.length 2000000 (rspot f.g x) := rsp_ok (sp_g hf x) (by omega)
          have o2 : SpOK f.p.length 1000000 (rspot f.p y) := rsp_ok (sp_p hf y) (by omega)
          have o3 : SpOK t.g.length 2000000 (rspot t.g x) := rsp_ok (sp_g ht x) (by omega)
          have o4 : SpOK t.p.length 1000000 (rspot t.p y) := rsp_ok (sp_p ht y) (by omega)
          have w1 : (rspot f.g x).whole = 1 ∨ (rspot t.g x).whole = 1 := by
            rcases List.mem_append.1 (List.mem_of_getElem? hx) with h | h
            . exact .inl (rspot_one hf.g h)
            . exact .inr (rspot_one ht.g h)
          have w2 : (rspot f.p y).whole = 1 ∨ (rspot t.p y).whole = 1 := by
            rcases List.mem_append.1 (List.mem_of_getElem? hy) with h | h
            . exact .inl (rspot_one hf.p h)
            . exact .inr (rspot_one ht.p h)
          have eI := rspot_inAt hf ht x y
          generalize rspot f.g x = X at *
          generalize rspot f.p y = Y at *
          generalize rspot t.g x = U at *
          generalize rspot t.p y = V at *
          have b1 := o1.part
          have b2 := o2.part
          have b3 := o3.part
          have b4 := o4.part
          have P1 := prod4 (x := X.whole) (y := Y.whole) (u := U.whole) (v := V.whole) ⟨by omega, o1.whole⟩ ⟨by omega, o2.whole⟩ ⟨by omega, o3.whole⟩ ⟨by omega, o4.whole⟩ w1 w2
          have g1 := rweighted_run uL rL (by omega) o3 o4
          have g2 := rweighted_run tL sL (by omega) o1 o2
          have g3 := rweighted_run uH rH (by omega) o3 o4
          have g4 := rweighted_run tH sH (by omega) o1 o2
          have D1 : 0 <= X.whole * Y.whole /\ X.whole * Y.whole <= 2000000 * 1000000 := ⟨Int.mul_nonneg (by omega) (by omega), Int.mul_le_mul o1.whole o2.whole (by omega) (by omega)⟩
          have D2 : 0 <= U.whole * V.whole /\ U.whole * V.whole <= 2000000 * 1000000 := ⟨Int.mul_nonneg (by omega) (by omega), Int.mul_le_mul o3.whole o4.whole (by omega) (by omega)⟩
          have V1 := pacc_in rL o3 o4 (q := 4) (by omega)
          have V2 := pacc_in sL o1 o2 (q := 4) (by omega)
          have V3 := pacc_in rH o3 o4 (q := 4) (by omega)
          have V4 := pacc_in sH o1 o2 (q := 4) (by omega)
          rw [pacc_all] at V1 V2 V3 V4
          have P2 : X.whole * Y.whole * (U.whole * V.whole) <= 2000000 * 1000000 := by rw [Int.mul_comm]; exact P1.2
          have B1 := big_in V1.1 (V1.2.2 rfl) D1.1 P1.2
          have B2 := big_in V2.1 (V2.2.2 rfl) D2.1 P2
          have B3 := big_in V3.1 (V3.2.2 rfl) D1.1 P1.2
          have B4 := big_in V4.1 (V4.2.2 rfl) D2.1 P2
          have W1 : IntKind.i64.wrap (X.whole * Y.whole) = X.whole * Y.whole := w64 (by omega)
          have W2 : IntKind.i64.wrap (U.whole * V.whole) = U.whole * V.whole := w64 (by omega)
          have W3 : IntKind.i64.wrap (vN t.lo U V * (X.whole * Y.whole)) = vN t.lo U V * (X.whole * Y.whole) := w64 (by omega)
          have W4 : IntKind.i64.wrap (vN f.lo X Y * (U.whole * V.whole)) = vN f.lo X Y * (U.whole * V.whole) := w64 (by omega)
          have W5 : IntKind.i64.wrap (vN t.hi U V * (X.whole * Y.whole)) = vN t.hi U V * (X.whole * Y.whole) := w64 (by omega)
          have W6 : IntKind.i64.wrap (vN f.hi X Y * (U.whole * V.whole)) = vN f.hi X Y * (U.whole * V.whole) := w64 (by omega)
          simp only [Sv, vw, tw] at f1 f2 f3 f4 g1 g2 g3 g4
          clear P1 P2 B1 B2 B3 B4 V1 V2 V3 V4 D1 D2
          simp only [go_sem, riT, h2, j2, m0, m1, d0, d1, d2, d3, hx2, hy2, Int.toNat_natCast, List.length_append, List.length_map]
          refine dP f1 ?_
          simp only [go_sem, h2, j2, m0, m1, d0, d1, d2, d3, hx2, hy2, Int.toNat_natCast, List.length_append, List.length_map]
          refine dP f2 ?_
          simp only [go_sem, h2, j2, m0, m1, d0, d1, d2, d3, e0, e1, e2, e3, hx2, hy2, Int.toNat_natCast, List.length_append, List.length_map]
          have l3 := (List.getElem?_eq_some_iff.1 hH.r3).1
          refine ⟨by first | (simp only [Bool.or_eq_false_iff, Bool.and_eq_true, Bool.not_eq_true', beq_eq_false_iff_ne, decide_eq_false_iff_not, ne_eq]; omega) | (simp; done) | (simp; omega) | omega, by first | (simp only [Bool.or_eq_false_iff, Bool.and_eq_true, Bool.not_eq_true', beq_eq_false_iff_ne, decide_eq_false_iff_not, ne_eq]; omega) | (simp; done) | (simp; omega) | omega, ?_⟩
          refine dP f3 ?_
          simp only [go_sem, h2, j2, m0, m1, d0, d1, d2, d3, e0, e1, e2, e3, hx2, hy2, Int.toNat_natCast, List.length_append, List.length_map, W1, W2, W3, W4, W5, W6, List.append_assoc, List.cons_append, List.nil_append]
          refine dP f4 ?_
          simp only [go_sem, h2, j2, m0, m1, d0, d1, d2, d3, e0, e1, e2, e3, hx2, hy2, Int.toNat_natCast, List.length_append, List.length_map, W1, W2, W3, W4, W5, W6, List.append_assoc, List.cons_append, List.nil_append]
          refine ⟨by first | (simp only [Bool.or_eq_false_iff, Bool.and_eq_true, Bool.not_eq_true', beq_eq_false_iff_ne, decide_eq_false_iff_not, ne_eq]; omega) | (simp; done) | (simp; omega) | omega, by first | (simp only [Bool.or_eq_false_iff, Bool.and_eq_true, Bool.not_eq_true', beq_eq_false_iff_ne, decide_eq_false_iff_not, ne_eq]; omega) | (simp; done) | (simp; omega) | omega, ?_⟩
          refine dP g1 ?_
          simp only [go_sem, h2, j2, m0, m1, d0, d1, d2, d3, e0, e1, e2, e3, hx2, hy2, Int.toNat_natCast, List.length_append, List.length_map, W1, W2, W3, W4, W5, W6, List.append_assoc, List.cons_append, List.nil_append]
          refine dP g2 ?_
          have lE : loB f t X Y U V = decide (vN t.lo U V * (X.whole * Y.whole) < vN f.lo X Y * (U.whole * V.whole)) := rfl
          have hE : hiB f t X Y U V = decide (vN f.hi X Y * (U.whole * V.whole) < vN t.hi U V * (X.whole * Y.whole)) := rfl
          rw [lE, hE] at eI
          clear lE hE
          by_cases L1 : vN t.lo U V * (X.whole * Y.whole) < vN f.lo X Y * (U.whole * V.whole)
          . rw [decide_eq_true L1] at eI
            have hE : ((f.g ++ t.g).all fun g => (f.p ++ t.p).all fun p => inAt f t g p) = false := all_not hx (all_not hy eI)
            rw [hE]
            simp only [go_sem, L1, j3, h2, j2, m0, m1, d0, d1, d2, d3, e0, e1, e2, e3, hx2, hy2, Int.toNat_natCast, List.length_append, List.length_map, W1, W2, W3, W4, W5, W6, List.append_assoc, List.cons_append, List.nil_append]
          . rw [decide_eq_false L1] at eI
            simp only [go_sem, L1, j3, h2, j2, m0, m1, d0, d1, d2, d3, e0, e1, e2, e3, hx2, hy2, Int.toNat_natCast, List.length_append, List.length_map, W1, W2, W3, W4, W5, W6, List.append_assoc, List.cons_append, List.nil_append]
            refine dP g3 ?_
            simp only [go_sem, L1, j3, h2, j2, m0, m1, d0, d1, d2, d3, e0, e1, e2, e3, hx2, hy2, Int.toNat_natCast, List.length_append, List.length_map, W1, W2, W3, W4, W5, W6, List.append_assoc, List.cons_append, List.nil_append]
            refine dP g4 ?_
            by_cases L2 : vN f.hi X Y * (U.whole * V.whole) < vN t.hi U V * (X.whole * Y.whole)
            . rw [decide_eq_true L2] at eI
              have hE : ((f.g ++ t.g).all fun g => (f.p ++ t.p).all fun p => inAt f t g p) = false := all_not hx (all_not hy eI)
              rw [hE]
              have L2' : vN t.hi U V * (X.whole * Y.whole) > vN f.hi X Y * (U.whole * V.whole) := L2
              simp only [go_sem, L1, L2', j3, h2, j2, m0, m1, d0, d1, d2, d3, e0, e1, e2, e3, hx2, hy2, Int.toNat_natCast, List.length_append, List.length_map, W1, W2, W3, W4, W5, W6, List.append_assoc, List.cons_append, List.nil_append]
            . rw [decide_eq_false L2] at eI
              have L2' : ¬ vN t.hi U V * (X.whole * Y.whole) > vN f.hi X Y * (U.whole * V.whole) := L2
              simp only [go_sem, L1, L2', j3, h2, j2, m0, m1, d0, d1, d2, d3, e0, e1, e2, e3, hx2, hy2, Int.toNat_natCast, List.length_append, List.length_map, W1, W2, W3, W4, W5, W6, List.append_assoc, List.cons_append, List.nil_append]
              refine ihk (k + 1, _) (by omega) ⟨by omega, hH.more _, fun j p hj hp' => ?_⟩ _ (by simp [go_sem, riT])
              by_cases c : j < k
              . exact hAllk j p c hp'
              . obtain rfl : j = k := by omega
                rw [hy] at hp'; cases hp'; exact eI
        . have j2 : ¬ (k : Int) < ((f.p.length + t.p.length : Nat) : Int) := by omega
          simp only [go_sem, riT, j2, h3, d3, List.length_append, List.length_map]
          refine ih (i + 1, J) (by omega) ⟨by omega, hH, fun j z hj hz => ?_⟩ _ (by simp [go_sem, riT])
          by_cases c : j < i
          . exact hAll j z c hz
          . obtain rfl : j = i := by omega
            rw [hx] at hz; cases hz
            exact all_take hAllk (by omega)
      . have h2 : ¬ (i : Int) < ((f.g.length + t.g.length : Nat) : Int) := by omega
        have hB := all_take hAll (by omega)
        rw [hB]
        simp only [go_sem, riT, h2, d2, List.length_append, List.length_map]
    . have b2 : (famE t == 0) = false := beq_eq_false_iff_ne.2 c2
      have eB : insB f t = false := by unfold insB; rw [decide_eq_false c2]; simp
      rw [eB]
      simp only [go_sem, bne, b2]
  . have b1 : (famE f == 0) = false := beq_eq_false_iff_ne.2 c1
    have eB : insB f t = false := by unfold insB; rw [decide_eq_false c1]; simp
    rw [eB]
    simp only [go_sem, bne, b1]
end Go.Proofs
namespace Go.Proofs
open Go Go.Sx Go.Fam
attribute [local irreducible] Run
def rhT (l : List Fa) : List (Nat × AVal) := [(0, huL l), (2, .ptr 0 0 0 1), (3, .int .i64 0)]
def rhU (l : List Fa) (m : Nat) : List (Nat × AVal) := [(0, huL l), (2, .ptr 0 0 0 1), (6, .ptr m 0 0 1)]
theorem rHull_none : Ans Try.prog n_ref02_Hull [huL []] [] (.tup [nils4, .int .i64 6]) [] := by
  refine spec_run e_ref02_Hull fun G => ?_
  simp only [go_sem, huL, List.map_nil, List.length_nil, nils4]
set_option maxHeartbeats 8000000 in
set_option maxRecDepth 20000 in
theorem rHull_fn (l : List Fa) (f0 : Fa) (h0 : l[0]? = some f0) (hl : FaLs l) (hn : l.length <= 1000000) : Go.Sx.Fn Try.prog n_ref02_Hull [huL l] [] (HuPost l f0) := by
  have npos : 0 < l.length := (List.getElem?_eq_some_iff.1 h0).1
  have c0 : ((l.length : Int) == 0) = false := beq_eq_false_iff_ne.2 (by omega)
  refine run_fn e_ref02_Hull fun G => ?_
  by_cases c : 40 < l.length
  . have eE : hullE l = 8 := by rw [hullE_of h0, if_pos c]
    have c2 : (l.length : Int) > 40 := by omega
    simp only [go_sem, huL, List.length_map, c0, c2]
    exact .inl ⟨by rw [eE]; decide, by rw [eE]; rfl⟩
  have c2 : ¬ (l.length : Int) > 40 := by omega
  have eE : hullE l = hullGo f0 l := by rw [hullE_of h0, if_neg c]
  simp only [go_sem, huL, List.length_map, c0, c2]
  refine loop_ind k_ref02_Hull_r13.eq_1 (fun i : Nat => i <= l.length /\ ∀ j g, j < i -> l[j]? = some g -> famE g = 0 /\ g.g = f0.g /\ g.p = f0.p) (fun i => l.length - i)
    (fun i => (tsets 137 (rhT l ++ [(4, .int .i64 i)]), [some (.cells false 4 [nils4])])) 0 ⟨Nat.zero_le _, fun j g h => by omega⟩ (by simp [go_sem, rhT, huL]) (by simp [nils4]) ?_
  rintro i ⟨hi, hA⟩ ih
  dsimp only at hi hA ih ⊢
  by_cases h1 : i < l.length
  . have h2 : (i : Int) < l.length := by omega
    have h3 := idx_next h1 (by omega)
    have m0 : ¬ (i : Int) < 0 := by omega
    obtain ⟨f, hf⟩ : ∃ f, l[i]? = some f := ⟨_, List.getElem?_eq_getElem h1⟩
    obtain ⟨l1, l2, l3, l4⟩ := hl f (List.mem_of_getElem? hf)
    have kc := rCheck_run f l1 l2 l3 l4
    have k1 := rsameInts_run f.g f0.g (by omega)
    have k2 := rsameInts_run f.p f0.p (by omega)
    simp only [Fv, Fcs, vw, tw] at kc
    simp only [vw] at k1 k2
    have z0 : ¬ (0 : Int) < 0 := by decide
    simp only [go_sem, rhT, huL, h2, m0, hf, Int.toNat_natCast, List.length_map, Fv, Fcs, vw, tw, nils4]
    refine cP kc ?_
    by_cases c3 : famE f = 0
    . rw [c3]
      simp only [go_sem, h0, h2, m0, hf, z0, Int.toNat_natCast, List.length_map, Fv, Fcs, vw, tw]
      refine cP k1 ?_
      by_cases c4 : f.g = f0.g
      . rw [decide_eq_true c4]
        simp only [go_sem, h0, h2, m0, hf, z0, Int.toNat_natCast, List.length_map, Fv, Fcs, vw, tw]
        refine cP k2 ?_
        by_cases c5 : f.p = f0.p
        . rw [decide_eq_true c5]
          simp only [go_sem, h3]
          refine ih (i + 1) (by omega) ⟨h1, fun j g hj hg => ?_⟩ _ (by simp [go_sem, rhT, huL])
          by_cases c6 : j < i
          . exact hA j g c6 hg
          . obtain rfl : j = i := by omega
            rw [hf] at hg; cases hg
            exact ⟨c3, c4, c5⟩
        . rw [decide_eq_false c5]
          have eh := hullGo_bad hA hf (fun h => c5 h.2.2)
          rw [if_pos c3] at eh
          simp only [go_sem]
          exact .inl ⟨by rw [eE, eh]; decide, by rw [eE, eh]; rfl⟩
      . rw [decide_eq_false c4]
        have eh := hullGo_bad hA hf (fun h => c4 h.2.1)
        rw [if_pos c3] at eh
        simp only [go_sem]
        exact .inl ⟨by rw [eE, eh]; decide, by rw [eE, eh]; rfl⟩
    . have b1 : (famE f == 0) = false := beq_eq_false_iff_ne.2 c3
      have eh := hullGo_bad hA hf (fun h => c3 h.1)
      rw [if_neg c3] at eh
      simp only [go_sem, bne, b1]
      exact .inl ⟨by rw [eE, eh]; exact c3, by rw [eE, eh]; rfl⟩
  . have h2 : ¬ (i : Int) < l.length := by omega
    clear ih
    have hok : HuOK f0 l := fun f hf => by
      obtain ⟨j, hj⟩ := List.mem_iff_getElem?.1 hf
      have := (List.getElem?_eq_some_iff.1 hj).1
      obtain ⟨a, b⟩ := hA j f (by omega) hj
      exact ⟨fam_iff.1 a, b⟩
    have hz : hullE l = 0 := by rw [eE]; exact hullGo_ok.2 hok
    have h0k := (hok f0 (List.mem_of_getElem? h0)).1
    have kc := rCopy_run h0k.faP
    have pc := h0k.faP.pure
    have z0 : ¬ (0 : Int) < 0 := by decide
    simp only [go_sem, rhT, huL, h2, h0, z0, List.length_map, Fv, Fcs, vw, tw, nils4]
    refine cFD kc pc 6 ⟨.inl (by simp [frz, Fv, Fcs, vw, tw, Function.comp_def]), trivial⟩ ?_
    obtain ⟨J, hJe⟩ : ∃ J : Heap, J = [some (.cells false 4 [AVal.agg [.nilsl, .nilsl, .nilsl, .nilsl]])] := ⟨_, rfl⟩
    have hJ : J[0]? = some (some (.cells false 4 [nils4])) := by rw [hJe]; rfl
    have lt0 := (List.getElem?_eq_some_iff.1 hJ).1
    rw [<- hJe]
    clear hJe
    obtain ⟨a, b, c', d, e⟩ := thaw_fv f0 J.length
    have hD := fun (R : Heap) => (thaw_dat (H := J ++ (thaw 6 J.length (Fv f0)).2) J.length pc fun i hi => by rw [get_new rfl]).app R (fun r hr => by rw [upFrom_mem] at hr; simp; omega)
    simp only [e] at hD ⊢
    generalize (thaw 6 J.length (Fv f0)).2 = Y at *
    simp only [go_sem, h2, List.length_map, List.append_assoc, List.length_append]
    have hL : J.length + Y.length ≠ 0 := by omega
    have hnd := upFrom_nodup J.length Y.length
    have h0ι : 0 ∉ upFrom J.length Y.length := fun h => by have := upFrom_mem.1 h; omega
    have hmι : J.length + Y.length ∉ upFrom J.length Y.length := fun h => by have := upFrom_mem.1 h; omega
    have hI0 : HuI (J.length + Y.length) (upFrom J.length Y.length) (.sl a 0 f0.g.length) (.sl b 0 f0.p.length) (.sl c' 0 f0.lo.length) (.sl d 0 f0.hi.length) (J ++ (Y ++ [some (Row.cells false 4 [AVal.agg [AVal.sl a 0 f0.g.length, AVal.sl b 0 f0.p.length, AVal.sl c' 0 f0.lo.length, AVal.sl d 0 f0.hi.length]])])) f0 := by
      refine ⟨by rw [List.getElem?_append_left lt0]; exact hJ, ?_, ?_⟩
      . rw [<- List.append_assoc, List.getElem?_append_right (by simp)]; simp
      . rw [<- List.append_assoc]; exact hD _
    generalize upFrom J.length Y.length = ι at *
    generalize J.length + Y.length = m at *
    have hll : f0.lo.length = f0.g.length := h0k.llen
    have hhl : f0.hi.length = f0.g.length := h0k.hlen
    rw [hll, hhl] at hI0
    have gm := h0k.g.most
    have pm := h0k.p.most
    have gp := h0k.g.pos
    have pp := h0k.p.pos
    refine loop_ind k_ref02_Hull_r28.eq_1 (fun q : Nat × Heap => q.1 <= l.length - 1 /\ HuI m ι (.sl a 0 f0.g.length) (.sl b 0 f0.p.length) (.sl c' 0 f0.g.length) (.sl d 0 f0.g.length) q.2 (hullTo f0 ((l.drop 1).take q.1))) (fun q => l.length - 1 - q.1)
      (fun q => (tsets 137 (rhU l m ++ [(7, .int .i64 ((q.1 + 1 : Nat) : Int))]), q.2)) (0, _) ⟨Nat.zero_le _, hI0⟩ (by simp [go_sem, rhU, huL]) (by simp [hll, hhl]) ?_
    clear hI0 hD hJ hA kc pc lt0 e
    rintro ⟨j, J⟩ ⟨hjl, hI⟩ ih
    dsimp only at hjl hI ih ⊢
    by_cases j1 : j < l.length - 1
    . have j2 : ((j + 1 : Nat) : Int) < l.length := by omega
      have j3 : IntKind.i64.wrap (((j + 1 : Nat) : Int) + 1) = ((j + 1 + 1 : Nat) : Int) := by rw [w64 (by omega)]; omega
      have mj : ¬ ((j + 1 : Nat) : Int) < 0 := by omega
      have hlen : (l.drop 1).length = l.length - 1 := List.length_drop
      obtain ⟨f, hf⟩ : ∃ f, (l.drop 1)[j]? = some f := ⟨_, List.getElem?_eq_getElem (by omega)⟩
      obtain ⟨fok, fg, fp⟩ := hok f (List.mem_of_mem_drop (List.mem_of_getElem? hf))
      obtain ⟨Aok, Ag, Ap, -, -⟩ := hullTo_ok h0k (r := (l.drop 1).take j) fun x hx => hok x (List.mem_of_mem_drop (List.mem_of_mem_take hx))
      have esn : hullTo f0 ((l.drop 1).take (j + 1)) = hj (hullTo f0 ((l.drop 1).take j)) f := by
        rw [List.take_add_one, hf]; exact hullTo_snoc _ _ _
      have ihn := fun J' hh => ih (j + 1, J') (by omega) ⟨by omega, hh⟩
      clear ih
      dsimp only at ihn
      rw [esn] at ihn
      clear esn
      generalize hullTo f0 ((l.drop 1).take j) = A at *
      have gl : A.g.length = f0.g.length := by rw [Ag]
      have pl : A.p.length = f0.p.length := by rw [Ap]
      rw [<- gl, <- pl] at hI ihn
      have fgl : f.g.length = A.g.length := by rw [fg, Ag]
      have fpl : f.p.length = A.p.length := by rw [fp, Ap]
      have hf' : l[j + 1]? = some f := by rw [<- hf, List.getElem?_drop, Nat.add_comm]
      have hI1 := hI
      rw [<- hMix_start Aok f] at hI1
      simp only [go_sem, rhU, huL, j2, List.length_map]
      refine loop_ind k_ref02_Hull_r26.eq_1 (fun q : Nat × Heap => q.1 <= A.g.length /\ HuI m ι (.sl a 0 A.g.length) (.sl b 0 A.p.length) (.sl c' 0 A.g.length) (.sl d 0 A.g.length) q.2 (hMix A f q.1 0)) (fun q => A.g.length - q.1)
        (fun q => (tsets 137 (rhU l m ++ [(7, .int .i64 ((j + 1 : Nat) : Int)), (8, .int .i64 q.1)]), q.2)) (0, _) ⟨Nat.zero_le _, hI1⟩ (by simp [go_sem, rhU, huL]) rfl ?_
      clear hI1 hI
      rintro ⟨i, J⟩ ⟨hi2, hI⟩ ihi
      dsimp only at hi2 hI ihi ⊢
      have cm := cells_at hI.rm
      have cg := (fam_lines hI.dat).1
      have cgl : (ivL (hMix A f i 0).g).length = A.g.length := by rw [List.length_map]; rfl
      by_cases i1 : i < A.g.length
      . have i2 : (i : Int) < A.g.length := by omega
        have i3 := idx_next i1 (by omega)
        have mi : ¬ (i : Int) < 0 := by omega
        simp only [go_sem, rhU, huL, i2, cm, cg, cgl]
        refine loop_ind k_ref02_Hull_r24.eq_1 (fun q : Nat × Heap => q.1 <= A.p.length /\ HuI m ι (.sl a 0 A.g.length) (.sl b 0 A.p.length) (.sl c' 0 A.g.length) (.sl d 0 A.g.length) q.2 (hMix A f i q.1)) (fun q => A.p.length - q.1)
          (fun q => (tsets 137 (rhU l m ++ [(7, .int .i64 ((j + 1 : Nat) : Int)), (8, .int .i64 i), (9, .int .i64 q.1)]), q.2)) (0, J) ⟨Nat.zero_le _, hI⟩ (by simp [go_sem, rhU, huL]) rfl ?_
        clear hI cm cg cgl
        rintro ⟨k, J⟩ ⟨hk2, hI⟩ ihk
        dsimp only at hk2 hI ihk ⊢
        have cp := (fam_lines hI.dat).2
        have cpl : (ivL (hMix A f i k).p).length = A.p.length := by rw [List.length_map]; rfl
        by_cases k1 : k < A.p.length
        . have k2 : (k : Int) < A.p.length := by omega
          have k3 := idx_next k1 (by omega)
          have mk : ¬ (k : Int) < 0 := by omega
          have ihn := fun J' hh => ihk (k + 1, J') (by omega) ⟨k1, hh⟩
          clear ihk
          dsimp only at ihn
          have cm := cells_at hI.rm
          obtain ⟨tL, tH, sL, sH⟩ := fok.tabs
          obtain ⟨rl, hrl, ll⟩ := tL.row i (by omega)
          obtain ⟨rh, hrh, lh⟩ := tH.row i (by omega)
          have y1 := get_at (l := rl) (i := k) (by omega)
          have y2 := get_at (l := rh) (i := k) (by omega)
          rw [<- tg_get hrl] at y1
          rw [<- tg_get hrh] at y2
          obtain ⟨r, s, vs, us, q, t, e2, e3, gr, gs, lv, lu, gi, gj, gq, gt, hq, ht, hqt, up⟩ := fam_upd hI.dat hnd (mkT_get _ i1) (mkT_get _ i1)
          rw [mkT_len] at e2 e3 lv lu
          cases e2; cases e3
          rw [mkR_len] at gi gj
          have w1 := mkR_get (mixF mn (tg A.lo) (tg f.lo) i k i) k1
          have w2 := mkR_get (mixF mx (tg A.hi) (tg f.hi) i k i) k1
          rw [mixF_at] at w1 w2
          have w3 := mkR_len A.p.length (mixF mn (tg A.lo) (tg f.lo) i k i)
          have w4 := mkR_len A.p.length (mixF mx (tg A.hi) (tg f.hi) i k i)
          have hql := (List.getElem?_eq_some_iff.1 gq).1
          have htl := (List.getElem?_eq_some_iff.1 gt).1
          have nq : ∀ a, a ∉ ι -> a ≠ q /\ a ≠ t := fun a ha => ⟨by rintro rfl; exact ha hq, by rintro rfl; exact ha ht⟩
          have c1 := cells_at gr
          have c2 := cells_at gs
          have c3 := cells_at gq
          have c4 := cells_at gt
          have rq : c' ≠ q := by
            rintro rfl
            rw [gr] at gq
            obtain rfl : vs = _ := by simpa using gq
            rw [List.getElem?_map, Option.map_eq_some_iff] at gi; obtain ⟨_, _, h⟩ := gi; cases h
          have sq : d ≠ q := by
            rintro rfl
            rw [gs] at gq
            obtain rfl : us = _ := by simpa using gq
            rw [List.getElem?_map, Option.map_eq_some_iff] at gj; obtain ⟨_, _, h⟩ := gj; cases h
          have hmq := nq m hmι
          have z1 := fun X => cells_at (H := J.set q X) (j := m) (by rw [List.getElem?_set_ne hmq.1.symm]; exact hI.rm)
          have z2 := fun X => cells_at (H := J.set q X) (j := d) (by rw [List.getElem?_set_ne sq.symm]; exact gs)
          have z3 := fun X => cells_at (H := J.set q X) (j := t) (by rw [List.getElem?_set_ne hqt]; exact gt)
          have q5 := fun x => put_lt (H := J) (x := x) hql
          have q6 := fun z x => put_lt (H := J.set q z) (j := t) (x := x) (by simpa using htl)
          simp only [go_sem, rhU, huL, i2, j2, mj, hf', k2, k3, mi, mk, Int.toNat_natCast, List.length_map, cm, cp, cpl, c1, c2, c3, c4, lv, lu, gi, gj, hrl, hrh, y1, y2, w1, w2, w3, w4, Fv, Fcs, tw, vw, z1, z2, z3, q5, q6, ivL_set, e_mn, e_mx]
          refine ihn _ ⟨?_, ?_, ?_⟩ _ (by simp [go_sem, rhU, huL])
          . rw [List.getElem?_set_ne (nq 0 h0ι).2.symm, List.getElem?_set_ne (nq 0 h0ι).1.symm]; exact hI.r0
          . rw [List.getElem?_set_ne hmq.2.symm, List.getElem?_set_ne hmq.1.symm]; exact hI.rm
          . have ne : ∀ {ψ : Nat -> Int} {x : Int}, (mkR A.p.length ψ).set k x ≠ [] := fun {ψ x} e => by
              have := congrArg List.length e
              rw [List.length_set, mkR_len, List.length_nil] at this
              omega
            have := up ((J.set q (some (Row.cells true 1 (ivL ((mkR A.p.length (mixF mn (tg A.lo) (tg f.lo) i k i)).set k (mn (tg A.lo i k) (tg f.lo i k))))))).set t (some (Row.cells true 1 (ivL ((mkR A.p.length (mixF mx (tg A.hi) (tg f.hi) i k i)).set k (mx (tg A.hi i k) (tg f.hi i k)))))))
              _ _ ne ne List.length_set List.length_set (fun a ha n1 n2 => by rw [List.getElem?_set_ne n2.symm, List.getElem?_set_ne n1.symm]) (by rw [List.getElem?_set_ne hqt.symm, List.getElem?_set_self hql]) (by rw [List.getElem?_set_self (by simpa using htl)])
            rw [mixF_step _ _ _ i1 k1, mixF_step _ _ _ i1 k1] at this
            exact this
        . have k2 : ¬ (k : Int) < A.p.length := by omega
          obtain rfl : k = A.p.length := by omega
          rw [hMix_row] at hI
          have cm := cells_at hI.rm
          simp only [go_sem, rhU, huL, k2, i3, cm, cp, cpl]
          exact ihi (i + 1, J) (by omega) ⟨i1, hI⟩ _ (by simp [go_sem, rhU, huL])
      . have i2 : ¬ (i : Int) < A.g.length := by omega
        obtain rfl : i = A.g.length := by omega
        rw [hMix_end] at hI
        simp only [go_sem, rhU, huL, i2, j3, cm, cg, cgl]
        exact ihn J hI _ (by simp [go_sem, rhU, huL])
    . have j2 : ¬ ((j + 1 : Nat) : Int) < l.length := by omega
      have : (l.drop 1).take j = l.drop 1 := List.take_of_length_le (by rw [List.length_drop]; omega)
      rw [this] at hI
      obtain ⟨r0, rm, dat⟩ := hI
      have cm := cells_at rm
      have c1 := cells_at r0
      simp only [nils4] at c1
      have hlt1 := (List.getElem?_eq_some_iff.1 r0).1
      have q1 := fun x => put_lt (H := J) (x := x) hlt1
      have q2 := fun g sz es => cells_at (H := J.set 0 (some (Row.cells g sz es))) (j := 0) (List.getElem?_set_self hlt1)
      simp only [go_sem, rhU, huL, j2, List.length_map, cm, c1, q1, q2]
      exact .inr ⟨hz, ι, ⟨_, rfl, ι, [], by simp, dat.set _ h0ι, [], [], rfl, .int _ _ _ _, rfl⟩, hnd⟩
theorem rHull_run {l : List Fa} {f0 : Fa} (h0 : l[0]? = some f0) (hl : FaLs l) (hn : l.length <= 1000000) (he : hullE l = 0) (hp : Pure 6 (Fv (hullTo f0 (l.drop 1)))) :
    Ans Try.prog n_ref02_Hull [huL l] [] (thaw 7 0 (huC (hullTo f0 (l.drop 1)))).1 (thaw 7 0 (huC (hullTo f0 (l.drop 1)))).2 :=
  ans_dat0 (huC_pure hp) ((rHull_fn l f0 h0 hl hn).mono fun v H' h => by
    rcases h with ⟨h, -⟩ | ⟨-, h⟩
    . exact absurd he h
    . exact h)
theorem rHull_bad (l : List Fa) (hl : FaLs l) (hn : l.length <= 1000000) (he : hullE l ≠ 0) : Ans Try.prog n_ref02_Hull [huL l] [] (.tup [nils4, .int .i64 (hullE l)]) [] := by
  cases l with
  | nil => exact rHull_none
  | cons f0 r =>
    refine (rHull_fn (f0 :: r) f0 rfl hl hn).mono fun v H' h => ?_
    rcases h with ⟨-, h⟩ | ⟨h, -⟩
    . exact ⟨h, H', rfl⟩
    . exact absurd h he
end Go.Proofs
namespace Go.Proofs
open Go Go.Sx
end Go.Proofs
namespace Go.Proofs
open Go Go.Sx Go.Fam
attribute [local irreducible] Run
def AtF (n : Nat) (Y : Heap) (v : AVal) (F : Fa) : Prop := ∀ A R : Heap, A.length = n -> Dat 6 (A ++ (Y ++ R)) (upFrom n Y.length) v (Fv F)
theorem atF_thaw {F : Fa} (hp : Pure 6 (Fv F)) (n : Nat) : AtF n (thaw 6 n (Fv F)).2 (thaw 6 n (Fv F)).1 F := fun A R hA => by
  rw [<- List.append_assoc]
  exact (thaw_dat (H := A ++ (thaw 6 n (Fv F)).2) n hp fun i hi => by rw [get_new hA]).app R fun r hr => by rw [upFrom_mem] at hr; simp; omega
theorem AtF.frz {n : Nat} {Y : Heap} {v : AVal} {F : Fa} (h : AtF n Y v F) {H : Heap} (A R : Heap) (e : H = A ++ (Y ++ R)) (hA : A.length = n) : frz 6 H v = Fv F := by rw [e]; exact (h A R hA).frz
theorem AtF.mask {n : Nat} {Y : Heap} {v : AVal} {F : Fa} (h : AtF n Y v F) {H : Heap} (A R : Heap) (e : H = A ++ (Y ++ R)) (hA : A.length = n) (hn : 0 < n) : Sx.frz 6 (H.mask [0]) v = Fv F := by
  rw [e]; exact ((h A R hA).mask fun r hr => by rw [upFrom_mem] at hr; simp; omega).frz
theorem AtF.only {n : Nat} {Y : Heap} {v : AVal} {F : Fa} (h : AtF n Y v F) {H : Heap} {κ : List Nat} (A R : Heap) (e : H = A ++ (Y ++ R)) (hA : A.length = n) (hκ : ∀ r ∈ upFrom n Y.length, r ∈ κ) : Sx.frz 6 (H.onlyR κ) v = Fv F := by
  rw [e]; exact ((h A R hA).onlyR hκ).frz
theorem frz_cells {d r sz n : Nat} {H : Heap} {g : Bool} {es : List AVal} (h : H.cellsAt r = some (g, sz, es)) (hn : n = es.length) : frz (d + 1) H (.sl r 0 n) = .view (es.map (frz d H)) := by
  subst hn
  simp [frz, h]
end Go.Proofs
namespace Go.Proofs
open Go Go.Sx Go.Fam
theorem seg_get {A Y R : Heap} {n r : Nat} (hA : A.length = n) (h1 : n <= r) (h2 : r < n + Y.length) : (A ++ (Y ++ R))[r]? = Y[r - n]? := by
  rw [List.getElem?_append_right (by omega), hA, List.getElem?_append_left (by omega)]
theorem AtF.of {n : Nat} {Y : Heap} {v : AVal} {F : Fa} {A R : Heap} (hA : A.length = n) (h : Dat 6 (A ++ (Y ++ R)) (upFrom n Y.length) v (Fv F)) : AtF n Y v F := fun A' R' hA' => h.congr fun r hr => by
  have := upFrom_mem.1 hr
  rw [seg_get hA' this.1 this.2, seg_get hA this.1 this.2]
theorem fam_mem {J : Heap} {ι : List Nat} {F : Fa} {a b n n' : Nat} {v2 v3 : AVal} (h : Dat 6 J ι (.agg [.sl a 0 n, .sl b 0 n', v2, v3]) (Fv F)) : a ∈ ι /\ b ∈ ι := by
  obtain ⟨vs, ev, hx⟩ := h
  cases ev
  obtain ⟨κ0, κa, e0, d0, hx⟩ := (show All3 (Dat 5 _) _ [_, _, _, _] [vw F.g, vw F.p, tw F.lo, tw F.hi] from hx)
  obtain ⟨κ1, κb, e1, d1, hx⟩ := hx
  obtain ⟨_, q, eq, k0, hq⟩ := vw_get d0
  obtain ⟨_, q', eq', k1, hq'⟩ := vw_get d1
  cases eq; cases eq'
  subst k0; subst k1; subst e1; subst e0
  exact ⟨by simp, by simp⟩
theorem fam_mem3 {J : Heap} {ι : List Nat} {F : Fa} {v0 v1 v2 : AVal} {s n : Nat} (h : Dat 6 J ι (.agg [v0, v1, v2, .sl s 0 n]) (Fv F)) (h0 : F.hi ≠ []) : s ∈ ι := by
  obtain ⟨vs, ev, hx⟩ := h
  cases ev
  obtain ⟨κ0, κa, e0, d0, hx⟩ := (show All3 (Dat 5 _) _ [_, _, _, _] [vw F.g, vw F.p, tw F.lo, tw F.hi] from hx)
  obtain ⟨κ1, κb, e1, d1, hx⟩ := hx
  obtain ⟨κ2, κc, e2, d2, hx⟩ := hx
  obtain ⟨κ3, κd, e3, d3, hx⟩ := hx
  have h' : Dat 5 J κ3 (.sl s 0 n) (tbC F.hi) := by unfold tbC; rwa [if_neg h0]
  obtain ⟨r, vs, κ', e, k, -, -⟩ := tb_get h' h0
  cases e
  subst k; subst e3; subst e2; subst e1; subst e0
  simp
theorem AtF.write {n : Nat} {Y : Heap} {v0 v1 v2 v3 : AVal} {F : Fa} (h : AtF n Y (.agg [v0, v1, v2, v3]) F) {i : Nat} {lo hi : List Int} (hL : F.lo[i]? = some lo) (hU : F.hi[i]? = some hi) (l0 : lo ≠ []) :
    ∃ s us t0, v3 = .sl s 0 F.hi.length /\ t0 < Y.length /\ (∀ A R : Heap, A.length = n -> (A ++ (Y ++ R))[s]? = some (some (.cells true 1 us))) /\ us.length = F.hi.length /\ us[i]? = some (.sl (n + t0) 0 hi.length) /\ (∀ A R : Heap, A.length = n -> (A ++ (Y ++ R))[n + t0]? = some (some (.cells true 1 (ivL hi)))) /\
      n <= s /\ ∀ hi', hi' ≠ [] -> hi'.length = hi.length -> AtF n (Y.set t0 (some (.cells true 1 (ivL hi')))) (.agg [v0, v1, v2, v3]) ⟨F.g, F.p, F.lo, F.hi.set i hi'⟩ := by
  have hA0 : (List.replicate n none : Heap).length = n := List.length_replicate
  have hd := h (List.replicate n none) [] hA0
  have hlt : ∀ {q}, q ∈ upFrom n Y.length -> n <= q /\ q < n + Y.length := fun hq => upFrom_mem.1 hq
  obtain ⟨r, s, vs, us, q, t, e2, e3, gr, gs, lv, lu, gi, gj, gq, gt, hq, ht, hqt, up⟩ := fam_upd hd (upFrom_nodup _ _) hL hU
  have hn0 : F.hi ≠ [] := by rintro e; rw [e] at hU; simp at hU
  rw [e3] at hd
  have hs := hlt (fam_mem3 hd hn0)
  have ht' := hlt ht
  obtain ⟨t0, rfl⟩ : ∃ t0, t = n + t0 := ⟨t - n, by omega⟩
  refine ⟨s, us, t0, e3, by omega, fun A R hA => ?_, lu, gj, fun A R hA => ?_, hs.1, fun hi' h0 hl => ?_⟩
  . rw [seg_get hA hs.1 hs.2, <- seg_get (R := []) hA0 hs.1 hs.2]; exact gs
  . rw [seg_get hA ht'.1 ht'.2, <- seg_get (R := []) hA0 ht'.1 ht'.2]; exact gt
  . have hset : F.lo.set i lo = F.lo := by
      refine List.ext_getElem? fun j => ?_
      rw [List.getElem?_set]
      split
      . rename_i e; subst e
        have := (List.getElem?_eq_some_iff.1 hL).1
        rw [if_pos this, hL]
      . rfl
    have := up (List.replicate n none ++ (Y.set t0 (some (.cells true 1 (ivL hi'))) ++ [])) lo hi' l0 h0 rfl hl (fun a ha n1 n2 => ?_) ?_ ?_
    . rw [hset] at this
      refine AtF.of (A := List.replicate n none) (R := []) hA0 ?_
      rw [List.length_set]; exact this
    . have hr := hlt ha
      rw [seg_get hA0 hr.1 (by rw [List.length_set]; exact hr.2), seg_get hA0 hr.1 hr.2, List.getElem?_set_ne (by omega)]
    . have hr := hlt hq
      rw [seg_get hA0 hr.1 (by rw [List.length_set]; exact hr.2), List.getElem?_set_ne (by omega), <- seg_get (R := []) hA0 hr.1 hr.2]; exact gq
    . rw [seg_get hA0 ht'.1 (by rw [List.length_set]; exact ht'.2), Nat.add_sub_cancel_left, List.getElem?_set_self (by omega)]
theorem put_seg {A Y R : Heap} {n t0 : Nat} {x : Row} (hA : A.length = n) (ht : t0 < Y.length) : Heap.put (A ++ (Y ++ R)) (n + t0) x = A ++ (Y.set t0 (some x) ++ R) := by
  rw [put_lt (by simp; omega), List.set_append_right _ _ (by omega), hA, Nat.add_sub_cancel_left, List.set_append_left _ _ ht]
end Go.Proofs
namespace Go.Proofs
open Go Go.Sx Go.Fam
attribute [local irreducible] Run
def HuBoth (u : AVal) : Prop :=
  (∃ e : Int, e ≠ 0 /\ Ans Try.prog n_curve_Hull [u] [] (.tup [nils4, .int .i64 e]) [] /\ Ans Try.prog n_ref02_Hull [u] [] (.tup [nils4, .int .i64 e]) []) ∨
  ∃ F, FaOK F /\ Ans Try.prog n_curve_Hull [u] [] (thaw 7 0 (huC F)).1 (thaw 7 0 (huC F)).2 /\ Ans Try.prog n_ref02_Hull [u] [] (thaw 7 0 (huC F)).1 (thaw 7 0 (huC F)).2
theorem huBoth_list (L : List Fa) (hl : FaLs L) (hn : L.length <= 1000000) : HuBoth (huL L) := by
  by_cases c : hullE L = 0
  . cases L with
    | nil => exact absurd c (by decide)
    | cons f0 r =>
      have h40 : ¬ 40 < (f0 :: r).length := fun h => by
        rw [hullE_of (f0 := f0) rfl, if_pos h] at c; cases c
      have hco : HuOK f0 (f0 :: r) := by
        rw [hullE_of (f0 := f0) rfl, if_neg h40] at c
        exact hullGo_ok.1 c
      have h0 := (hco f0 (by simp)).1
      have hr := hullTo_ok h0 (r := r) fun f hf => hco f (List.mem_cons_of_mem _ hf)
      exact .inr ⟨hullTo f0 r, hr.1, Hull_run (f0 := f0) rfl hl hn c hr.1.faP.pure, rHull_run (f0 := f0) rfl hl hn c hr.1.faP.pure⟩
  . exact .inl ⟨_, c, Hull_bad L hl hn c, rHull_bad L hl hn c⟩
theorem huBoth_nil : HuBoth .nilsl := by
  have z : Sx.lss [AVal.nilsl] [AVal.view []] := ⟨.inr ⟨rfl, rfl⟩, trivial⟩
  exact .inl ⟨6, by decide, Hull_none.lss z, rHull_none.lss z⟩
theorem Hull_many (es : List AVal) (h : 40 < es.length) (h2 : es.length <= 1000000) : Ans Try.prog n_curve_Hull [.view es] [] (.tup [nils4, .int .i64 8]) [] := by
  have c0 : ((es.length : Int) == 0) = false := beq_eq_false_iff_ne.2 (by omega)
  have c2 : (es.length : Int) > 40 := by omega
  refine spec_run e_curve_Hull fun G => ?_
  simp only [go_sem, nils4, c0, c2]
theorem rHull_many (es : List AVal) (h : 40 < es.length) (h2 : es.length <= 1000000) : Ans Try.prog n_ref02_Hull [.view es] [] (.tup [nils4, .int .i64 8]) [] := by
  have c0 : ((es.length : Int) == 0) = false := beq_eq_false_iff_ne.2 (by omega)
  have c2 : (es.length : Int) > 40 := by omega
  refine spec_run e_ref02_Hull fun G => ?_
  simp only [go_sem, nils4, c0, c2]
theorem huBoth_many (es : List AVal) (h : 40 < es.length) (h2 : es.length <= 1000000) : HuBoth (.view es) := .inl ⟨8, by decide, Hull_many es h h2, rHull_many es h h2⟩
end Go.Proofs
namespace Go.Proofs
open Go Go.Sx
def k_law02_CurveInside_r0 : List AOper := [oz 3 (.box (.tmp 0)), oz 4 (.box (.tmp 1)), oz 6 (.move (.const (.bool false)))]
def k_law02_CurveInside_r1 : List AOper := [oz 23 (.load (some (4)) (.tmp 3)), oz 24 (.call (.const (.fn (.func 24) [] [])) [.tmp 23]), mz 25 24, ⟨some 26, .load (some (4)) (.tmp 4), (some (25, false)), []⟩, ⟨some 27, .call (.const (.fn (.func 24) [] [])) [.tmp 26], (some (25, false)), []⟩, oz 28 (.pick (.tmp 25) (.const (.bool true)) (.tmp 27))]
def k_law02_CurveInside_r2 : List AOper := [oz 29 (.call (.const (.fn (.func 23) [] [])) []), mz 6 29]
def k_law02_CurveInside_r3 : List AOper := [mz 30 2, oz 31 (.call (.const (.fn (.func 12) [] [])) [.tmp 30]), mz 7 31]
def k_law02_CurveInside_r4 : List AOper := [mz 32 7, oz 33 (.call (.const (.fn (.func 25) [] [])) [.tmp 32]), oz 8 (.box (.const (.agg [.nilsl, .nilsl, .nilsl, .nilsl]))), ⟨none, .store 4 (.tmp 8) (.tmp 33), none, []⟩]
def k_law02_CurveInside_r5s : List (List AOper) := [[mz 34 7, qz 35 (.load (some (4)) (.tmp 8)) [0], qz 36 (.move (.tmp 7)) [0, 1], qz 37 (.call (.const (.fn (.func 36) [] [])) [.tmp 36, .const (.int .i64 2)]) [0, 1], oz 38 (.call (.const (.fn (.func 35) [] [])) [.tmp 34, .tmp 35, .tmp 37]), qz 9 (.box (.const (.agg [.nilsl, .nilsl, .nilsl, .nilsl]))) [0, 1, 2, 3, 4]], [⟨none, .store 4 (.tmp 9) (.tmp 38), none, []⟩]]
def k_law02_CurveInside_r5 : List AOper := k_law02_CurveInside_r5s.flatten
theorem k_law02_CurveInside_r5_sg : segs k_law02_CurveInside_r5 = k_law02_CurveInside_r5s := by kernel_rfl
theorem k_law02_CurveInside_r5_st : statOK k_law02_CurveInside_r5 = true := by kernel_rfl
def k_law02_CurveInside_r6 : List AOper := [mz 39 7, oz 40 (.call (.const (.fn (.func 25) [] [])) [.tmp 39]), oz 10 (.box (.const (.agg [.nilsl, .nilsl, .nilsl, .nilsl]))), ⟨none, .store 4 (.tmp 10) (.tmp 40), none, []⟩]
def k_law02_CurveInside_r7 : List AOper := [oz 41 (.load (some (4)) (.tmp 9)), oz 42 (.call (.const (.fn (.func 26) [] [])) [.tmp 41]), oz 11 (.box (.const (.agg [.nilsl, .nilsl, .nilsl, .nilsl]))), ⟨none, .store 4 (.tmp 11) (.tmp 42), none, []⟩]
def k_law02_CurveInside_r8s : List (List AOper) := [[mz 43 7, qz 44 (.fieldAddr 0 (.tmp 11)) [0], qz 45 (.load none (.tmp 44)) [0], qz 46 (.len false (.tmp 45)) [0], oz 47 (.call (.const (.fn (.func 15) [] [])) [.tmp 43, .tmp 46]), qz 48 (.move (.tmp 7)) [0, 1, 2, 3, 4], qz 49 (.fieldAddr 1 (.tmp 11)) [0, 1, 2, 3, 4, 5], qz 50 (.load none (.tmp 49)) [0, 1, 2, 3, 4, 5], qz 51 (.len false (.tmp 50)) [0, 1, 2, 3, 4, 5]], [oz 52 (.call (.const (.fn (.func 15) [] [])) [.tmp 48, .tmp 51])], [mz 12 47], [mz 13 52]]
def k_law02_CurveInside_r8 : List AOper := k_law02_CurveInside_r8s.flatten
theorem k_law02_CurveInside_r8_sg : segs k_law02_CurveInside_r8 = k_law02_CurveInside_r8s := by kernel_rfl
theorem k_law02_CurveInside_r8_st : statOK k_law02_CurveInside_r8 = true := by kernel_rfl
def k_law02_CurveInside_r9s : List (List AOper) := [[oz 53 (.fieldAddr 3 (.tmp 11)), oz 54 (.load none (.tmp 53)), qz 55 (.move (.tmp 12)) [0, 1], oz 56 (.indexAddr 1 (.tmp 54) (.tmp 55)), oz 57 (.load none (.tmp 56)), qz 58 (.move (.tmp 13)) [0, 1, 2, 3, 4], qz 59 (.fieldAddr 3 (.tmp 11)) [0, 1, 2, 3, 4, 5], qz 60 (.load none (.tmp 59)) [0, 1, 2, 3, 4, 5], qz 61 (.move (.tmp 12)) [0, 1, 2, 3, 4, 5, 6, 7], qz 62 (.indexAddr 1 (.tmp 60) (.tmp 61)) [0, 1, 2, 3, 4, 5], qz 63 (.load none (.tmp 62)) [0, 1, 2, 3, 4, 5], qz 64 (.move (.tmp 13)) [0, 1, 2, 3, 4, 5, 6, 7, 8, 9, 10], qz 65 (.indexAddr 1 (.tmp 63) (.tmp 64)) [0, 1, 2, 3, 4, 5], qz 66 (.load none (.tmp 65)) [0, 1, 2, 3, 4, 5], qz 67 (.move (.tmp 7)) [0, 1, 2, 3, 4, 5, 6, 7, 8, 9, 10, 11, 12, 13], qz 68 (.call (.const (.fn (.func 15) [] [])) [.tmp 67, .const (.int .i64 3)]) [0, 1, 2, 3, 4, 5, 6, 7, 8, 9, 10, 11, 12, 13], qz 69 (.bin .plain .add (.tmp 66) (.tmp 68)) [0, 1, 2, 3, 4, 5]], [oz 70 (.indexAddr 1 (.tmp 57) (.tmp 58))], [⟨none, .store 1 (.tmp 70) (.tmp 69), none, []⟩]]
def k_law02_CurveInside_r9 : List AOper := k_law02_CurveInside_r9s.flatten
theorem k_law02_CurveInside_r9_sg : segs k_law02_CurveInside_r9 = k_law02_CurveInside_r9s := by kernel_rfl
theorem k_law02_CurveInside_r9_st : statOK k_law02_CurveInside_r9 = true := by kernel_rfl
def k_law02_CurveInside_r10 : List AOper := [oz 71 (.load (some (4)) (.tmp 3)), oz 72 (.load (some (4)) (.tmp 4)), oz 73 (.load (some (4)) (.tmp 8)), oz 74 (.load (some (4)) (.tmp 9)), oz 75 (.load (some (4)) (.tmp 10)), oz 76 (.load (some (4)) (.tmp 11)), oz 77 (.buildSlice 4 [.tmp 71, .tmp 72, .tmp 73, .tmp 74, .tmp 75, .tmp 76]), mz 14 77]
def k_law02_CurveInside_r11 : List AOper := [oz 15 (.move (.const (.int .i64 0)))]
def k_law02_CurveInside_r12 : List AOper := [mz 78 15, mz 79 14, oz 80 (.len false (.tmp 79)), oz 81 (.bin .plain .lss (.tmp 78) (.tmp 80))]
def k_law02_CurveInside_r13 : List AOper := [oz 16 (.move (.const (.int .i64 0)))]
def k_law02_CurveInside_r14 : List AOper := [mz 84 16, mz 85 14, oz 86 (.len false (.tmp 85)), oz 87 (.bin .plain .lss (.tmp 84) (.tmp 86))]
def k_law02_CurveInside_r15s : List (List AOper) := [[mz 90 14, qz 91 (.move (.tmp 15)) [0], oz 92 (.indexAddr 4 (.tmp 90) (.tmp 91)), oz 93 (.load (some (4)) (.tmp 92)), qz 94 (.move (.tmp 14)) [0, 1, 2, 3], qz 95 (.move (.tmp 16)) [0, 1, 2, 3, 4], qz 96 (.indexAddr 4 (.tmp 94) (.tmp 95)) [0, 1, 2, 3], qz 97 (.load (some (4)) (.tmp 96)) [0, 1, 2, 3], oz 98 (.call (.const (.fn (.func 37) [] [])) [.tmp 93, .tmp 97]), qz 99 (.move (.tmp 14)) [0, 1, 2, 3, 4, 5, 6, 7, 8], qz 100 (.move (.tmp 15)) [0, 1, 2, 3, 4, 5, 6, 7, 8, 9], qz 101 (.indexAddr 4 (.tmp 99) (.tmp 100)) [0, 1, 2, 3, 4, 5, 6, 7, 8], qz 102 (.load (some (4)) (.tmp 101)) [0, 1, 2, 3, 4, 5, 6, 7, 8], qz 103 (.move (.tmp 14)) [0, 1, 2, 3, 4, 5, 6, 7, 8, 9, 10, 11, 12], qz 104 (.move (.tmp 16)) [0, 1, 2, 3, 4, 5, 6, 7, 8, 9, 10, 11, 12, 13], qz 105 (.indexAddr 4 (.tmp 103) (.tmp 104)) [0, 1, 2, 3, 4, 5, 6, 7, 8, 9, 10, 11, 12], qz 106 (.load (some (4)) (.tmp 105)) [0, 1, 2, 3, 4, 5, 6, 7, 8, 9, 10, 11, 12]], [oz 107 (.call (.const (.fn (.func 38) [] [])) [.tmp 102, .tmp 106])], [oz 108 (.bin .bool .neq (.tmp 98) (.tmp 107))]]
def k_law02_CurveInside_r15 : List AOper := k_law02_CurveInside_r15s.flatten
theorem k_law02_CurveInside_r15_sg : segs k_law02_CurveInside_r15 = k_law02_CurveInside_r15s := by kernel_rfl
theorem k_law02_CurveInside_r15_st : statOK k_law02_CurveInside_r15 = true := by kernel_rfl
def k_law02_CurveInside_r16 : List AOper := [oz 6 (.move (.const (.bool false)))]
def k_law02_CurveInside_r17 : List AOper := [mz 88 16, oz 89 (.bin .plain .add (.tmp 88) (.const (.int .i64 1))), mz 16 89]
def k_law02_CurveInside_r18 : ACode := (.seq (.seq (.reg k_law02_CurveInside_r14 false) (.cond (.tmp 87) .skip (.exit 2))) (.seq (.block 3 (.seq (.reg k_law02_CurveInside_r15 true) (.cond (.tmp 108) (.seq (.reg k_law02_CurveInside_r16 false) .ret) .skip))) (.reg k_law02_CurveInside_r17 false)))
def k_law02_CurveInside_r19 : List AOper := [mz 82 15, oz 83 (.bin .plain .add (.tmp 82) (.const (.int .i64 1))), mz 15 83]
def k_law02_CurveInside_r20 : ACode := (.seq (.seq (.reg k_law02_CurveInside_r12 false) (.cond (.tmp 81) .skip (.exit 0))) (.seq (.block 1 (.seq (.reg k_law02_CurveInside_r13 false) (.block 2 (.loop k_law02_CurveInside_r18)))) (.reg k_law02_CurveInside_r19 false)))
def k_law02_CurveInside_r21s : List (List AOper) := [[oz 109 (.load (some (4)) (.tmp 3)), qz 110 (.load (some (4)) (.tmp 4)) [0], oz 111 (.buildSlice 4 [.tmp 109, .tmp 110]), qz 112 (.load (some (4)) (.tmp 8)) [0, 1, 2], qz 113 (.load (some (4)) (.tmp 9)) [0, 1, 2, 3], qz 114 (.buildSlice 4 [.tmp 112, .tmp 113]) [0, 1, 2], qz 115 (.load (some (4)) (.tmp 8)) [0, 1, 2, 3, 4, 5], qz 116 (.load (some (4)) (.tmp 9)) [0, 1, 2, 3, 4, 5, 6], qz 117 (.load (some (4)) (.tmp 11)) [0, 1, 2, 3, 4, 5, 6, 7], qz 118 (.buildSlice 4 [.tmp 115, .tmp 116, .tmp 117]) [0, 1, 2, 3, 4, 5], qz 119 (.load (some (4)) (.tmp 8)) [0, 1, 2, 3, 4, 5, 6, 7, 8, 9], qz 120 (.load (some (4)) (.tmp 10)) [0, 1, 2, 3, 4, 5, 6, 7, 8, 9, 10], qz 121 (.buildSlice 4 [.tmp 119, .tmp 120]) [0, 1, 2, 3, 4, 5, 6, 7, 8, 9], qz 122 (.makeSlice (.agg [.nilsl, .nilsl, .nilsl, .nilsl]) 96 (.const (.int .i64 41)) (.const (.int .i64 41))) [0, 1, 2, 3, 4, 5, 6, 7, 8, 9, 10, 11, 12], qz 123 (.load (some (4)) (.tmp 9)) [0, 1, 2, 3, 4, 5, 6, 7, 8, 9, 10, 11, 12, 13], qz 124 (.buildSlice 4 [.tmp 123]) [0, 1, 2, 3, 4, 5, 6, 7, 8, 9, 10, 11, 12, 13]], [oz 125 (.buildSlice 1 [.tmp 111, .tmp 114, .tmp 118, .tmp 121, .const (.nilsl), .tmp 122, .tmp 124])], [mz 17 125]]
def k_law02_CurveInside_r21 : List AOper := k_law02_CurveInside_r21s.flatten
theorem k_law02_CurveInside_r21_sg : segs k_law02_CurveInside_r21 = k_law02_CurveInside_r21s := by kernel_rfl
theorem k_law02_CurveInside_r21_st : statOK k_law02_CurveInside_r21 = true := by kernel_rfl
def k_law02_CurveInside_r22 : List AOper := [oz 18 (.move (.const (.int .i64 0)))]
def k_law02_CurveInside_r23 : List AOper := [mz 126 18, mz 127 17, oz 128 (.len false (.tmp 127)), oz 129 (.bin .plain .lss (.tmp 126) (.tmp 128))]
def k_law02_CurveInside_r24 : List AOper := [mz 133 17, mz 134 18, oz 135 (.indexAddr 1 (.tmp 133) (.tmp 134)), oz 136 (.load none (.tmp 135)), oz 137 (.call (.const (.fn (.func 39) [] [])) [.tmp 136]), mz 132 137, oz 138 (.extract (.tmp 132) 0), oz 139 (.extract (.tmp 132) 1), oz 19 (.box (.const (.agg [.nilsl, .nilsl, .nilsl, .nilsl]))), ⟨none, .store 4 (.tmp 19) (.tmp 138), none, []⟩, mz 20 139]
def k_law02_CurveInside_r25 : List AOper := [mz 141 17, mz 142 18, oz 143 (.indexAddr 1 (.tmp 141) (.tmp 142)), oz 144 (.load none (.tmp 143)), oz 145 (.call (.const (.fn (.func 40) [] [])) [.tmp 144]), mz 140 145, oz 146 (.extract (.tmp 140) 0), oz 147 (.extract (.tmp 140) 1), oz 21 (.box (.const (.agg [.nilsl, .nilsl, .nilsl, .nilsl]))), ⟨none, .store 4 (.tmp 21) (.tmp 146), none, []⟩, mz 22 147]
def k_law02_CurveInside_r26 : List AOper := [mz 148 20, mz 149 22, oz 150 (.bin .plain .neq (.tmp 148) (.tmp 149)), mz 151 150, ⟨some 152, .load (some (4)) (.tmp 19), (some (151, false)), []⟩, ⟨some 153, .load (some (4)) (.tmp 21), (some (151, false)), []⟩, ⟨some 154, .call (.const (.fn (.func 30) [] [])) [.tmp 152, .tmp 153], (some (151, false)), []⟩, ⟨some 155, .not (.tmp 154), (some (151, false)), []⟩, oz 156 (.pick (.tmp 151) (.const (.bool true)) (.tmp 155))]
def k_law02_CurveInside_r27 : List AOper := [oz 6 (.move (.const (.bool false)))]
def k_law02_CurveInside_r28 : List AOper := [mz 130 18, oz 131 (.bin .plain .add (.tmp 130) (.const (.int .i64 1))), mz 18 131]
def k_law02_CurveInside_r29 : ACode := (.seq (.seq (.reg k_law02_CurveInside_r23 false) (.cond (.tmp 129) .skip (.exit 4))) (.seq (.block 5 (.seq (.reg k_law02_CurveInside_r24 false) (.seq (.reg k_law02_CurveInside_r25 false) (.seq (.reg k_law02_CurveInside_r26 false) (.cond (.tmp 156) (.seq (.reg k_law02_CurveInside_r27 false) .ret) .skip))))) (.reg k_law02_CurveInside_r28 false)))
def k_law02_CurveInside_r30 : List AOper := [oz 157 (.call (.const (.fn (.func 23) [] [])) []), mz 6 157]
def k_law02_CurveInside : AFun := { params := 3, ntmps := 158, body := (.seq (.reg k_law02_CurveInside_r0 false) (.seq (.seq (.reg k_law02_CurveInside_r1 false) (.cond (.tmp 28) (.seq (.reg k_law02_CurveInside_r2 false) .ret) .skip)) (.seq (.reg k_law02_CurveInside_r3 false) (.seq (.reg k_law02_CurveInside_r4 false) (.seq (.reg k_law02_CurveInside_r5 true) (.seq (.reg k_law02_CurveInside_r6 false) (.seq (.reg k_law02_CurveInside_r7 false) (.seq (.reg k_law02_CurveInside_r8 true) (.seq (.reg k_law02_CurveInside_r9 true) (.seq (.reg k_law02_CurveInside_r10 false) (.seq (.seq (.reg k_law02_CurveInside_r11 false) (.block 0 (.loop k_law02_CurveInside_r20))) (.seq (.reg k_law02_CurveInside_r21 true) (.seq (.seq (.reg k_law02_CurveInside_r22 false) (.block 4 (.loop k_law02_CurveInside_r29))) (.seq (.reg k_law02_CurveInside_r30 false) .ret)))))))))))))), res := [.tmp 6] }
theorem k_law02_CurveInside_ok : cfun Try.prog Try.f6 = k_law02_CurveInside := by kernel_rfl
abbrev n_law02_CurveInside : Nat := 6
theorem e_law02_CurveInside : EntryOK Try.prog n_law02_CurveInside k_law02_CurveInside := ⟨Try.f6, Try.func6, k_law02_CurveInside_ok, by kernel_rfl⟩
attribute [go_sem] k_law02_CurveInside_r0 k_law02_CurveInside_r1 k_law02_CurveInside_r2 k_law02_CurveInside_r3 k_law02_CurveInside_r4 k_law02_CurveInside_r5s k_law02_CurveInside_r6 k_law02_CurveInside_r7 k_law02_CurveInside_r8s k_law02_CurveInside_r9s k_law02_CurveInside_r10 k_law02_CurveInside_r11
attribute [go_sem] k_law02_CurveInside_r12 k_law02_CurveInside_r13 k_law02_CurveInside_r14 k_law02_CurveInside_r15s k_law02_CurveInside_r16 k_law02_CurveInside_r17 k_law02_CurveInside_r19 k_law02_CurveInside_r21s k_law02_CurveInside_r22 k_law02_CurveInside_r23 k_law02_CurveInside_r24 k_law02_CurveInside_r25
attribute [go_sem] k_law02_CurveInside_r26 k_law02_CurveInside_r27 k_law02_CurveInside_r28 k_law02_CurveInside_r30 k_law02_CurveInside_r8_sg k_law02_CurveInside_r21_sg k_law02_CurveInside_r15_sg k_law02_CurveInside_r5_sg k_law02_CurveInside_r9_sg k_law02_CurveInside_r8_st k_law02_CurveInside_r21_st k_law02_CurveInside_r15_st
attribute [go_sem] k_law02_CurveInside_r5_st k_law02_CurveInside_r9_st k_law02_CurveInside
end Go.Proofs
