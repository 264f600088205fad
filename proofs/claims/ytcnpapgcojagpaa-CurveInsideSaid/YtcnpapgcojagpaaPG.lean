import Derived.Test.YtcnpapgcojagpaaPF
set_option linter.unusedSimpArgs false
set_option linter.unusedVariables false
namespace Go.Proofs
open Go Go.Sx Go.Fam
attribute [local irreducible] Run
def wF (a : Nat) : Prop := a = 0 ∨ a = 1 ∨ a = 2 ∨ a = 5
structure WnH (f : Fa) (J : Heap) (w : Int) (v0 v1 v2 v3 : AVal) : Prop where
  r0 : J[0]? = some (some (Dr w))
  r1 : J[1]? = some (some (.cells false 4 [Fv f]))
  r2 : J[2]? = some (some (.cells false 4 [.agg [.nilsl, .nilsl, .nilsl, .nilsl]]))
  r5 : J[5]? = some (some (.cells false 4 [.agg [v0, v1, v2, v3]]))
theorem WnH.mono {f : Fa} {J J' : Heap} {w w' : Int} {v0 v1 v2 v3 : AVal} (h : WnH f J w v0 v1 v2 v3) (h0 : J'[0]? = some (some (Dr w'))) (hJ : ∀ q, wF q -> q ≠ 0 -> q < J.length -> J'[q]? = J[q]?) : WnH f J' w' v0 v1 v2 v3 :=
  ⟨h0, by rw [hJ 1 (by simp [wF]) (by decide) (List.getElem?_eq_some_iff.1 h.r1).1]; exact h.r1, by rw [hJ 2 (by simp [wF]) (by decide) (List.getElem?_eq_some_iff.1 h.r2).1]; exact h.r2, by rw [hJ 5 (by simp [wF]) (by decide) (List.getElem?_eq_some_iff.1 h.r5).1]; exact h.r5⟩
def WnI (f : Fa) (J : Heap) (w : Int) (L U : List (List Int)) (lo hi : List Int) (v0 v1 v2 v3 v4 v5 : AVal) : Prop := WnH f J w v0 v1 v2 v3 /\ ∃ κ0 κ1 κ2 κ3 κ4 κ5, FS wF J f.g f.p L U lo hi v0 v1 v2 v3 v4 v5 κ0 κ1 κ2 κ3 κ4 κ5
def wT (b : Bool) : List (Nat × AVal) := [(0, .ptr 0 0 0 1), (2, .bool b), (4, .ptr 1 0 0 1), (6, .ptr 2 0 0 1), (7, .ptr 5 0 0 1)]
set_option maxHeartbeats 16000000 in
set_option maxRecDepth 20000 in
theorem within_true {f : Fa} (hf : FaOK f) (w0 : Int) : Go.Sx.Fn Try.prog n_kit_WithinFamily [.ptr 0 0 0 1, Fv f, .bool true] [some (Dr w0)] fun v H' => ∃ ι, Dat 6 H' ι v (Fv (wnF f true w0)) /\ ι.Nodup /\ 0 ∉ ι /\ H'[0]? = some (some (Dr (wnT f true w0).w)) := by
  obtain ⟨tL, tH, sL, sH⟩ := hf.tabs
  have g0 : f.g ≠ [] := by have := hf.g.pos; intro e; rw [e] at this; simp at this
  have p0 : f.p ≠ [] := by have := hf.p.pos; intro e; rw [e] at this; simp at this
  have gl0 := hf.g.pos
  have pl0 := hf.p.pos
  have gm := hf.g.most
  have pm := hf.p.most
  have o1 := Own_run f.g (by omega)
  have o2 := Own_run f.p (by omega)
  simp only [vw] at o1 o2
  refine run_fn e_kit_WithinFamily fun G => ?_
  simp only [go_sem, Fv, Fcs, tw, vw]
  refine dFN o1 6 [] ?_ ?_
  . exact ⟨.inl (by simp [frz, Function.comp_def]), trivial⟩
  simp only [go_sem, ren]
  refine dFN o2 6 [] ?_ ?_
  . exact ⟨.inl (by simp [frz, Function.comp_def]), trivial⟩
  simp only [go_sem, ren]
  obtain ⟨T, hT⟩ : ∃ T, wnT f true w0 = T := ⟨_, rfl⟩
  have hw : wnF f true w0 = ⟨f.g, f.p, T.lo, T.hi⟩ := by unfold wnF; rw [hT]
  rw [hw, hT]
  have hI0 : WnI f [some (Dr w0), some (.cells false 4 [Fv f]), some (.cells false 4 [.agg [.nilsl, .nilsl, .nilsl, .nilsl]]), some (.cells true 1 (ivL f.g)), some (.cells true 1 (ivL f.p)), some (.cells false 4 [.agg [.sl 3 0 f.g.length, .sl 4 0 f.p.length, .nilsl, .nilsl]])] w0 [] [] [] []
      (.sl 3 0 f.g.length) (.sl 4 0 f.p.length) .nilsl .nilsl .nilsl .nilsl := by
    refine ⟨⟨rfl, rfl, rfl, rfl⟩, [3], [4], [], [], [], [], fun a ha => by unfold wF at ha; simp; omega, vw_put g0 rfl rfl, vw_put p0 rfl rfl, ⟨rfl, rfl, rfl⟩, ⟨rfl, rfl, rfl⟩, ⟨rfl, rfl, rfl⟩, ⟨rfl, rfl, rfl⟩, fun a => ?_, fun a ha => ?_⟩
    . simp only [List.count_cons, List.count_nil, beq_iff_eq]
      split <;> split <;> omega
    . unfold wF at ha
      simp only [List.count_cons, List.count_nil, beq_iff_eq]
      rw [if_neg (by omega), if_neg (by omega)]
  refine loop_ind k_kit_WithinFamily_r24.eq_1 (fun a : Nat × Int × Heap × List (List Int) × List (List Int) × AVal × AVal × AVal × AVal => ∃ m, f.g.length = a.1 + m /\ gTab (wcell f true) f.p.length m a.2.1 a.2.2.2.1 a.2.2.2.2.1 = T /\ a.2.2.2.1.length = a.1 /\ TabI (wnE f true) f.p.length a.2.2.2.1 a.2.2.2.2.1 /\
      WnI f a.2.2.1 a.2.1 a.2.2.2.1 a.2.2.2.2.1 [] [] a.2.2.2.2.2.1 a.2.2.2.2.2.2.1 a.2.2.2.2.2.2.2.1 a.2.2.2.2.2.2.2.2 .nilsl .nilsl) (fun a => f.g.length - a.1)
    (fun a => (tsets 132 (wT true ++ [(8, .int .i64 a.1)]), a.2.2.1)) (0, w0, _, [], [], .sl 3 0 f.g.length, .sl 4 0 f.p.length, .nilsl, .nilsl) ⟨f.g.length, by simp, hT, rfl, tab0, hI0⟩ (by simp [go_sem, wT]) (by simp [Fv, Fcs, tw, vw]) ?_
  rintro ⟨i, w, J, L, U, v0, v1, v2, v3⟩ ⟨m, hm, hG, hL, hTab, hI⟩ ih
  dsimp only at hm hG hL hTab hI ih ⊢
  have hU : U.length = i := by rw [hTab.len, hL]
  by_cases h1 : i < f.g.length
  . have h2 : (i : Int) < f.g.length := by omega
    have m0 : ¬ (i : Int) < 0 := by omega
    have h3 := idx_next h1 (by omega)
    obtain ⟨m, rfl⟩ : ∃ n, m = n + 1 := ⟨m - 1, by omega⟩
    obtain ⟨Ur, hUr⟩ : ∃ Ur, lastOf L U = Ur := ⟨_, rfl⟩
    simp only [gTab, hUr] at hG
    obtain ⟨R, hR⟩ : ∃ R, gRow (wcell f true i) Ur f.p.length w [] [] = R := ⟨_, rfl⟩
    rw [hL, hR] at hG
    have hUE : ∀ j q, j < f.p.length -> upOf Ur j = some q -> ∃ i', i = i' + 1 /\ wnE f true i' j q := fun j q hj hq => by
      rw [<- hUr] at hq
      unfold lastOf upOf at hq
      split at hq
      . cases hq
      . cases hq
        have := hTab.e (L.length - 1) j (by omega) hj
        rw [show U.getD (L.length - 1) [] = U.getD (L.length - 1) [] from rfl]
        exact ⟨L.length - 1, by omega, this⟩
    have hc := wcell_ok hf true
    obtain ⟨rl, hrl', ll⟩ := tL.row i h1
    obtain ⟨rh, hrh', lh⟩ := tH.row i h1
    have c0 := cells_at hI.1.r1
    simp only [Fv, Fcs, vw, tw] at c0
    simp only [go_sem, wT, h2, c0, List.length_map]
    refine loop_ind k_kit_WithinFamily_r21.eq_1 (fun a : Nat × Int × Heap × List Int × List Int × AVal × AVal => ∃ m, f.p.length = a.1 + m /\ gRow (wcell f true i) Ur m a.2.1 a.2.2.2.1 a.2.2.2.2.1 = R /\ a.2.2.2.1.length = a.1 /\ RowI (wnE f true) i Ur a.2.2.2.1 a.2.2.2.2.1 /\
        WnI f a.2.2.1 a.2.1 L U a.2.2.2.1 a.2.2.2.2.1 v0 v1 v2 v3 a.2.2.2.2.2.1 a.2.2.2.2.2.2) (fun a => f.p.length - a.1)
      (fun a => (tsets 132 (wT true ++ [(8, .int .i64 i), (9, a.2.2.2.2.2.1), (10, a.2.2.2.2.2.2), (11, .int .i64 a.1)]), a.2.2.1)) (0, w, J, [], [], .nilsl, .nilsl) ⟨f.p.length, by simp, hR, rfl, ⟨rfl, by simp, by simp, by simp⟩, hI⟩ (by simp [go_sem, wT]) rfl ?_
    rintro ⟨k, w, J, lo, hi, v4, v5⟩ ⟨n, hn, hRg, hlo, hRow, hR'⟩ ihk
    clear hI
    dsimp only at hn hRg hlo hRow hR' ihk ⊢
    obtain ⟨hH, κ0, κ1, κ2, κ3, κ4, κ5, hF⟩ := hR'
    obtain ⟨f0, f1, f2, f5⟩ := hH
    have hhi : hi.length = k := by rw [hRow.len, hlo]
    have c0 := cells_at f1
    simp only [Fv, Fcs, vw, tw] at c0
    by_cases j1 : k < f.p.length
    . have j2 : (k : Int) < f.p.length := by omega
      have m1 : ¬ (k : Int) < 0 := by omega
      have j3 := idx_next j1 (by omega)
      obtain ⟨n, rfl⟩ : ∃ q, n = q + 1 := ⟨n - 1, by omega⟩
      simp only [gRow, hlo] at hRg
      have y1 := get_at (l := rl) (i := k) (by omega)
      have y2 := get_at (l := rh) (i := k) (by omega)
      rw [<- tg_get hrl'] at y1
      rw [<- tg_get hrh'] at y2
      have hk0 := hf.inn i k h1 j1
      have hcell := hc.ok i k w (upOf Ur k) (prevOf lo hi) h1 j1 (fun q hq => hUE k q j1 hq) (fun q hq => by
        unfold prevOf at hq
        split at hq
        . cases hq
        . cases hq
          exact ⟨lo.length - 1, by omega, hRow.e _ (by omega)⟩)
      have hrow' := hRow.snoc (by rw [hlo]; exact hcell.1) (by rw [hlo]; exact hcell.2.1) hcell.2.2
      have ihn := fun J' v4' v5' hh => ihk (k + 1, (wcell f true i k w (upOf Ur k) (prevOf lo hi)).w, J', lo ++ [(wcell f true i k w (upOf Ur k) (prevOf lo hi)).lo], hi ++ [(wcell f true i k w (upOf Ur k) (prevOf lo hi)).hi], v4', v5') (by omega) ⟨n, by omega, hRg, by simp; omega, hrow', hh⟩
      clear ihk hRg hrow'
      dsimp only at ihn
      have kb := between_ok w (tg f.lo i k) (tg f.hi i k) (by omega) (by omega) (by omega)
      have bi := btw_in (w := w) (lo := tg f.lo i k) (hi := tg f.hi i k) (by omega)
      obtain ⟨A, hA⟩ : ∃ x, btw w (tg f.lo i k) (tg f.hi i k) = x := ⟨_, rfl⟩
      obtain ⟨wA, hwA⟩ : ∃ x, dstep w = x := ⟨_, rfl⟩
      rw [hA, hwA] at kb
      rw [hA] at bi
      have z5 := hF.len 5 (by simp [wF])
      have l0 := (List.getElem?_eq_some_iff.1 f0).1
      have hset : ∀ X : Row, (J.set 0 (some X))[0]? = some (some X) := fun X => List.getElem?_set_self l0
      have off : ∀ {j : Nat} {g : Bool} {sz : Nat} {es : List AVal}, J[j]? = some (some (.cells g sz es)) -> j ≠ 0 -> ∀ X, Heap.cellsAt (J.set 0 X) j = some (g, sz, es) := fun h hj X => cells_at (by rw [List.getElem?_set_ne (fun e => hj e.symm)]; exact h)
      have hF2 : ∀ X, FS wF (J.set 0 X) f.g f.p L U lo hi v0 v1 v2 v3 v4 v5 κ0 κ1 κ2 κ3 κ4 κ5 := fun X => hF.fix (fun q hq => List.getElem?_set_ne (fun e => hq (by simp [wF, <- e]))) (fun a ha => by have := hF.len a ha; simpa using this)
      have hlen : ∀ X, (J.set 0 X).length = J.length := fun X => List.length_set
      have o1 : ∀ X, Heap.cellsAt (J.set 0 X) 1 = _ := fun X => off f1 (by decide) X
      simp only [Fv, Fcs, vw, tw] at o1
      have o5 : ∀ X, Heap.cellsAt (J.set 0 X) 5 = _ := fun X => off f5 (by decide) X
      by_cases i0 : i = 0
      . skip
        have k1 : ¬ (i : Int) > 0 := by omega
        have hU0 : Ur = none := by rw [<- hUr]; unfold lastOf; rw [if_pos (by omega)]
        have eu : upOf Ur k = none := by rw [hU0]; rfl
        rw [eu] at ihn hcell
        by_cases k0 : k = 0
        . skip
          have k2 : ¬ (k : Int) > 0 := by omega
          have : lo = [] := List.length_eq_zero_iff.1 (by omega)
          subst this
          have : hi = [] := List.length_eq_zero_iff.1 (by omega)
          subst this
          have ep : prevOf [] [] = none := rfl
          rw [ep] at ihn hcell
          obtain ⟨e4, e5, -⟩ := hF.first
          subst e4; subst e5
          have ec : wcell f true i k w (none) (none) = ⟨A, A, wA⟩ := by subst hA; subst hwA; rfl
          rw [ec] at ihn hcell
          dsimp only at ihn
          clear hcell hRow hUE hc
          simp only [go_sem, wT, j2, vw, List.length_map, m0, m1, hrl', hrh', y1, y2, Int.toNat_natCast, c0]
          refine cD kb ?_ (hj := f0) (hk := by omega)
          simp only [go_sem, List.set_set, e_mx, k1, k2, j3, Int.toNat_natCast, o1, o5, List.length_map, vw]
          refine ⟨by decide, by decide, ?_⟩
          exact ihn _ _ _ ⟨WnH.mono ⟨f0, f1, f2, f5⟩ (by rw [List.getElem?_append_left (by rw [hlen]; omega)]; exact hset _) (fun q hq q0 hl => by rw [List.getElem?_append_left (by rw [hlen]; exact hl), List.getElem?_set_ne (fun e => q0 e.symm)]), _, _, _, _, _, _,
            (hF2 (Dr wA)).first.2.2 _ ((J.set 0 (some (Dr wA))).length + 1) ((J.set 0 (some (Dr wA))).length + 3) A A (by omega) (by omega) (by omega) (fun q _ hq => List.getElem?_append_left hq) (by rw [get_new rfl]; rfl) (by rw [get_new rfl]; rfl)⟩ _ (by simp [go_sem, wT])
        . skip
          have k2 : (k : Int) > 0 := by omega
          obtain ⟨j, rfl⟩ : ∃ j, k = j + 1 := ⟨k - 1, by omega⟩
          have lo0 : lo ≠ [] := by rintro rfl; simp at hlo
          have hi0 : hi ≠ [] := by rintro rfl; simp at hhi
          have l1 := get_at (l := lo) (i := j) (by omega)
          have l2 := get_at (l := hi) (i := j) (by omega)
          have ep : prevOf lo hi = some (at1 lo j, at1 hi j) := by unfold prevOf; rw [if_neg (by omega), hlo, Nat.add_sub_cancel]
          rw [ep] at ihn hcell
          obtain ⟨p1, hp1⟩ : ∃ x, at1 lo j = x := ⟨_, rfl⟩
          obtain ⟨p2, hp2⟩ : ∃ x, at1 hi j = x := ⟨_, rfl⟩
          rw [hp1] at l1 ihn hcell
          rw [hp2] at l2 ihn hcell
          have x4 : IntKind.i64.wrap (((j + 1 : Nat) : Int) - 1) = j := by rw [w64 (by omega)]; omega
          have n4 : ¬ (j : Int) < 0 := by omega
          have y3 : (j : Int) < lo.length := by omega
          have y4 : (j : Int) < hi.length := by omega
          have z3 : (lo.length + 1) * 8 <= 2 ^ 44 := by omega
          have z4 : (hi.length + 1) * 8 <= 2 ^ 44 := by omega
          obtain ⟨r, s, e4, e5, hrs, hr, hs, g4, g5, -⟩ := hF.next lo0 hi0
          have r0 : r ≠ 0 := by rintro rfl; exact hr (by simp [wF])
          have s0 : s ≠ 0 := by rintro rfl; exact hs (by simp [wF])
          have d1 := off g4 r0
          have d2 := off g5 s0
          have hrl := (List.getElem?_eq_some_iff.1 g4).1
          have hsl := (List.getElem?_eq_some_iff.1 g5).1
          have q1 := fun X Y => cells_more (d1 X) Y
          have q2 := fun X Y x => put_more (H := J.set 0 X) (j := r) (by rw [List.length_set]; exact hrl) Y x
          have q3 := fun X x Y => cells_more (H := (J.set 0 X).set r x) (j := s) (cells_at (by rw [List.getElem?_set_ne hrs, List.getElem?_set_ne (fun e => s0 e.symm)]; exact g5)) Y
          have q4 := fun X z Y x => put_more (H := (J.set 0 X).set r z) (j := s) (by simpa using hsl) Y x
          have ec : wcell f true i (j + 1) w (none) (some (p1, p2)) = ⟨mx A p1, mx A p1, wA⟩ := by subst hA; subst hwA; rfl
          rw [ec] at ihn hcell
          dsimp only at ihn
          obtain ⟨C, hC⟩ : ∃ x, mx A p1 = x := ⟨_, rfl⟩
          rw [hC] at ihn
          obtain ⟨r', s', e4', e5', -, -, -, -, -, hnn⟩ := (hF2 (Dr wA)).next lo0 hi0
          subst e4; subst e5
          obtain rfl : r = r' := by simpa using e4'
          obtain rfl : s = s' := by simpa using e5'
          clear hcell hRow hUE hc
          simp only [go_sem, wT, j2, vw, List.length_map, m0, m1, hrl', hrh', y1, y2, Int.toNat_natCast, c0]
          refine cD kb ?_ (hj := f0) (hk := by omega)
          simp only [go_sem, List.set_set, e_mx, k1, k2, j3, Int.toNat_natCast, o1, o5, List.length_map, vw, d1, d2, l1, l2, x4, n4, y3, y4, z3, z4, q1, q2, q3, q4, hC]
          have hrl' : r < (J.set 0 (some (Dr wA))).length := by rw [hlen]; exact hrl
          have hsl' : s < (J.set 0 (some (Dr wA))).length := by rw [hlen]; exact hsl
          have nF : ∀ q, wF q -> q ≠ r /\ q ≠ s := fun q hq => ⟨fun e => hr (by rw [<- e]; exact hq), fun e => hs (by rw [<- e]; exact hq)⟩
          exact ihn _ _ _ ⟨WnH.mono ⟨f0, f1, f2, f5⟩ (by rw [two_off (by rw [hlen]; omega) (nF 0 (by simp [wF])).1 (nF 0 (by simp [wF])).2]; exact hset _) (fun q hq q0 hl => by rw [two_off (by rw [hlen]; exact hl) (nF q hq).1 (nF q hq).2, List.getElem?_set_ne (fun e => q0 e.symm)]), _, _, _, _, _, _,
            hnn _ C C (fun q _ hl a b => two_off hl a b) (two_r hrl' hrs) (two_s hsl') (fun a ha => by have := hF.len a ha; simp; omega)⟩ _ (by simp [go_sem, wT])
      . skip
        have k1 : (i : Int) > 0 := by omega
        obtain ⟨i', rfl⟩ : ∃ q, i = q + 1 := ⟨i - 1, by omega⟩
        have L0 : L ≠ [] := by rintro rfl; simp at hL
        have U0 : U ≠ [] := by rintro rfl; simp at hU
        obtain ⟨ra, hra⟩ : ∃ x, L[i']? = some x := ⟨_, List.getElem?_eq_getElem (by omega)⟩
        obtain ⟨rb, hrb⟩ : ∃ x, U[i']? = some x := ⟨_, List.getElem?_eq_getElem (by omega)⟩
        have la := hTab.l ra (List.mem_of_getElem? hra)
        have lb := hTab.h rb (List.mem_of_getElem? hrb)
        have hU0 : Ur = some (ra, rb) := by
          rw [<- hUr]; unfold lastOf; rw [if_neg (by omega), hL]
          simp only [Nat.add_sub_cancel]
          rw [List.getD_eq_getElem?_getD, List.getD_eq_getElem?_getD, hra, hrb]; rfl
        have eu : upOf Ur k = some (at1 ra k, at1 rb k) := by rw [hU0]; rfl
        rw [eu] at ihn hcell
        obtain ⟨tr, ts, vs, us, ta, tb, ev2, ev3, nr, ns, na, nb, gr, gs, lvs, lus, gva, gub, ga, gb⟩ := hF.read L0 U0 hra hrb
        have tr0 : tr ≠ 0 := by rintro rfl; exact nr (by simp [wF])
        have ts0 : ts ≠ 0 := by rintro rfl; exact ns (by simp [wF])
        have ta0 : ta ≠ 0 := by rintro rfl; exact na (by simp [wF])
        have tb0 : tb ≠ 0 := by rintro rfl; exact nb (by simp [wF])
        have t1 := off gr tr0
        have t2 := off gs ts0
        have t3 := off ga ta0
        have t4 := off gb tb0
        have l5 := get_at (l := ra) (i := k) (by omega)
        have l6 := get_at (l := rb) (i := k) (by omega)
        obtain ⟨Q1, hQ1⟩ : ∃ x, at1 ra k = x := ⟨_, rfl⟩
        obtain ⟨Q2, hQ2⟩ : ∃ x, at1 rb k = x := ⟨_, rfl⟩
        rw [hQ1] at l5 ihn hcell
        rw [hQ2] at l6 ihn hcell
        have x5 : IntKind.i64.wrap (((i' + 1 : Nat) : Int) - 1) = i' := by rw [w64 (by omega)]; omega
        have n5 : ¬ (i' : Int) < 0 := by omega
        have n6 : ¬ (k : Int) < 0 := by omega
        have y5 : (i' : Int) < L.length := by omega
        have y6 : (i' : Int) < U.length := by omega
        have y7 : (k : Int) < ra.length := by omega
        have y8 : (k : Int) < rb.length := by omega
        subst ev2; subst ev3
        by_cases k0 : k = 0
        . skip
          have k2 : ¬ (k : Int) > 0 := by omega
          have : lo = [] := List.length_eq_zero_iff.1 (by omega)
          subst this
          have : hi = [] := List.length_eq_zero_iff.1 (by omega)
          subst this
          have ep : prevOf [] [] = none := rfl
          rw [ep] at ihn hcell
          obtain ⟨e4, e5, -⟩ := hF.first
          subst e4; subst e5
          have ec : wcell f true (i' + 1) k w (some (Q1, Q2)) (none) = ⟨mx A Q1, mx A Q1, wA⟩ := by subst hA; subst hwA; rfl
          rw [ec] at ihn hcell
          dsimp only at ihn
          obtain ⟨C, hC⟩ : ∃ x, mx A Q1 = x := ⟨_, rfl⟩
          rw [hC] at ihn
          clear hcell hRow hUE hc
          simp only [go_sem, wT, j2, vw, List.length_map, m0, m1, hrl', hrh', y1, y2, Int.toNat_natCast, c0]
          refine cD kb ?_ (hj := f0) (hk := by omega)
          simp only [go_sem, List.set_set, e_mx, k1, k2, j3, Int.toNat_natCast, o1, o5, List.length_map, vw, x5, n5, n6, y5, y6, y7, y8, gva, gub, lvs, lus, t1, t2, t3, t4, l5, l6, hC]
          refine ⟨by decide, by decide, ?_⟩
          exact ihn _ _ _ ⟨WnH.mono ⟨f0, f1, f2, f5⟩ (by rw [List.getElem?_append_left (by rw [hlen]; omega)]; exact hset _) (fun q hq q0 hl => by rw [List.getElem?_append_left (by rw [hlen]; exact hl), List.getElem?_set_ne (fun e => q0 e.symm)]), _, _, _, _, _, _,
            (hF2 (Dr wA)).first.2.2 _ ((J.set 0 (some (Dr wA))).length + 1) ((J.set 0 (some (Dr wA))).length + 3) C C (by omega) (by omega) (by omega) (fun q _ hq => List.getElem?_append_left hq) (by rw [get_new rfl]; rfl) (by rw [get_new rfl]; rfl)⟩ _ (by simp [go_sem, wT])
        . skip
          have k2 : (k : Int) > 0 := by omega
          obtain ⟨j, rfl⟩ : ∃ j, k = j + 1 := ⟨k - 1, by omega⟩
          have lo0 : lo ≠ [] := by rintro rfl; simp at hlo
          have hi0 : hi ≠ [] := by rintro rfl; simp at hhi
          have l1 := get_at (l := lo) (i := j) (by omega)
          have l2 := get_at (l := hi) (i := j) (by omega)
          have ep : prevOf lo hi = some (at1 lo j, at1 hi j) := by unfold prevOf; rw [if_neg (by omega), hlo, Nat.add_sub_cancel]
          rw [ep] at ihn hcell
          obtain ⟨p1, hp1⟩ : ∃ x, at1 lo j = x := ⟨_, rfl⟩
          obtain ⟨p2, hp2⟩ : ∃ x, at1 hi j = x := ⟨_, rfl⟩
          rw [hp1] at l1 ihn hcell
          rw [hp2] at l2 ihn hcell
          have x4 : IntKind.i64.wrap (((j + 1 : Nat) : Int) - 1) = j := by rw [w64 (by omega)]; omega
          have n4 : ¬ (j : Int) < 0 := by omega
          have y3 : (j : Int) < lo.length := by omega
          have y4 : (j : Int) < hi.length := by omega
          have z3 : (lo.length + 1) * 8 <= 2 ^ 44 := by omega
          have z4 : (hi.length + 1) * 8 <= 2 ^ 44 := by omega
          obtain ⟨r, s, e4, e5, hrs, hr, hs, g4, g5, -⟩ := hF.next lo0 hi0
          have r0 : r ≠ 0 := by rintro rfl; exact hr (by simp [wF])
          have s0 : s ≠ 0 := by rintro rfl; exact hs (by simp [wF])
          have d1 := off g4 r0
          have d2 := off g5 s0
          have hrl := (List.getElem?_eq_some_iff.1 g4).1
          have hsl := (List.getElem?_eq_some_iff.1 g5).1
          have q1 := fun X Y => cells_more (d1 X) Y
          have q2 := fun X Y x => put_more (H := J.set 0 X) (j := r) (by rw [List.length_set]; exact hrl) Y x
          have q3 := fun X x Y => cells_more (H := (J.set 0 X).set r x) (j := s) (cells_at (by rw [List.getElem?_set_ne hrs, List.getElem?_set_ne (fun e => s0 e.symm)]; exact g5)) Y
          have q4 := fun X z Y x => put_more (H := (J.set 0 X).set r z) (j := s) (by simpa using hsl) Y x
          have ec : wcell f true (i' + 1) (j + 1) w (some (Q1, Q2)) (some (p1, p2)) = ⟨mx (mx A Q1) p1, mx (mx A Q1) p1, wA⟩ := by subst hA; subst hwA; rfl
          rw [ec] at ihn hcell
          dsimp only at ihn
          obtain ⟨C, hC⟩ : ∃ x, mx (mx A Q1) p1 = x := ⟨_, rfl⟩
          rw [hC] at ihn
          obtain ⟨r', s', e4', e5', -, -, -, -, -, hnn⟩ := (hF2 (Dr wA)).next lo0 hi0
          subst e4; subst e5
          obtain rfl : r = r' := by simpa using e4'
          obtain rfl : s = s' := by simpa using e5'
          clear hcell hRow hUE hc
          simp only [go_sem, wT, j2, vw, List.length_map, m0, m1, hrl', hrh', y1, y2, Int.toNat_natCast, c0]
          refine cD kb ?_ (hj := f0) (hk := by omega)
          simp only [go_sem, List.set_set, e_mx, k1, k2, j3, Int.toNat_natCast, o1, o5, List.length_map, vw, x5, n5, n6, y5, y6, y7, y8, gva, gub, lvs, lus, t1, t2, t3, t4, l5, l6, d1, d2, l1, l2, x4, n4, y3, y4, z3, z4, q1, q2, q3, q4, hC]
          have hrl' : r < (J.set 0 (some (Dr wA))).length := by rw [hlen]; exact hrl
          have hsl' : s < (J.set 0 (some (Dr wA))).length := by rw [hlen]; exact hsl
          have nF : ∀ q, wF q -> q ≠ r /\ q ≠ s := fun q hq => ⟨fun e => hr (by rw [<- e]; exact hq), fun e => hs (by rw [<- e]; exact hq)⟩
          exact ihn _ _ _ ⟨WnH.mono ⟨f0, f1, f2, f5⟩ (by rw [two_off (by rw [hlen]; omega) (nF 0 (by simp [wF])).1 (nF 0 (by simp [wF])).2]; exact hset _) (fun q hq q0 hl => by rw [two_off (by rw [hlen]; exact hl) (nF q hq).1 (nF q hq).2, List.getElem?_set_ne (fun e => q0 e.symm)]), _, _, _, _, _, _,
            hnn _ C C (fun q _ hl a b => two_off hl a b) (two_r hrl' hrs) (two_s hsl') (fun a ha => by have := hF.len a ha; simp; omega)⟩ _ (by simp [go_sem, wT])
    . have j2 : ¬ (k : Int) < f.p.length := by omega
      obtain rfl : n = 0 := by omega
      simp only [gRow] at hRg
      subst hRg
      dsimp only at hG
      have kp : k = f.p.length := by omega
      have lo0 : lo ≠ [] := by rintro rfl; simp at hlo; omega
      have hi0 : hi ≠ [] := by rintro rfl; simp at hhi; omega
      have ihn := fun J' v0' v1' v2' v3' hh => ih (i + 1, w, J', L ++ [lo], U ++ [hi], v0', v1', v2', v3') (by omega) ⟨m, by omega, hG, by simp; omega, hTab.snoc (by rw [hUr, hL]; exact hRow) (by omega), hh⟩
      clear ih ihk
      dsimp only at ihn
      have c5 := cells_at f5
      have z0 := hF.len 5 (by simp [wF])
      obtain ⟨r4, e4, -, -⟩ := ls_get hF.d4 lo0
      obtain ⟨r5, e5, -, -⟩ := ls_get hF.d5 hi0
      subst e4; subst e5
      have hlt5 := (List.getElem?_eq_some_iff.1 f5).1
      have q1 := fun Y => cells_more c5 Y
      by_cases i0 : i = 0
      . have : L = [] := List.length_eq_zero_iff.1 (by omega)
        subst this
        have : U = [] := List.length_eq_zero_iff.1 (by omega)
        subst this
        obtain ⟨e2, e3, hn⟩ := hF.row1 lo0 hi0
        subst e2; subst e3
        have q2 := fun Y x => put_more (H := J) hlt5 Y x
        have q3 := fun g sz es Y => cells_more (H := J.set 5 (some (Row.cells g sz es))) (j := 5) (cells_at (List.getElem?_set_self hlt5)) Y
        have q4 := fun z Y x => put_more (H := J.set 5 z) (j := 5) (by simpa using hlt5) Y x
        simp only [go_sem, wT, j2, vw, List.length_map, c0, c5, h3, q1, q2, q3, q4, List.set_set]
        refine ⟨(by first | (simp; done) | (simp; omega)), by decide, (by first | (simp; done) | (simp; omega)), (by first | (simp; done) | (simp; omega)), (by first | (simp; done) | (simp; omega)), by decide, (by first | (simp; done) | (simp; omega)), ?_⟩
        have off : ∀ (A : Option Row) (Y : Heap) (q : Nat), q < J.length -> q ≠ 5 -> (J.set 5 A ++ Y)[q]? = J[q]? := fun A Y q hq hn => by rw [List.getElem?_append_left (by simpa using hq), List.getElem?_set_ne (fun e => hn e.symm)]
        have at5 : ∀ (A : Option Row) (Y : Heap), (J.set 5 A ++ Y)[5]? = some A := fun A Y => by rw [List.getElem?_append_left (by simpa using hlt5), List.getElem?_set_self hlt5]
        exact ihn _ _ _ _ _ ⟨⟨by rw [off _ _ 0 (by omega) (by omega)]; exact f0, by rw [off _ _ 1 (by omega) (by omega)]; exact f1, by rw [off _ _ 2 (by omega) (by omega)]; exact f2, at5 _ _⟩, _, _, _, _, _, _, hn _ (J.length + 1) (J.length + 3) (by omega) (by omega) (by omega) (fun q hnF hq => off _ _ q hq (by rintro rfl; exact hnF (by simp [wF]))) (by rw [get_new (by simp)]; rfl) (by rw [get_new (by simp)]; rfl)⟩ _ (by simp [go_sem, wT])
      . have L0 : L ≠ [] := by rintro rfl; simp at hL; omega
        have U0 : U ≠ [] := by rintro rfl; simp at hU; omega
        obtain ⟨r, s, vs, us, κ2', κ3', e2, e3, hrs, hr, hs, g2, g3, l2, l3, hn⟩ := hF.rows L0 U0 lo0 hi0
        subst e2; subst e3
        have hrl := (List.getElem?_eq_some_iff.1 g2).1
        have hsl := (List.getElem?_eq_some_iff.1 g3).1
        have r5' : r ≠ 5 := by rintro rfl; exact hr (by simp [wF])
        have s5' : s ≠ 5 := by rintro rfl; exact hs (by simp [wF])
        have z1 : (L.length + 1) * 24 <= 2 ^ 44 := by omega
        have z2 : (U.length + 1) * 24 <= 2 ^ 44 := by omega
        have a1 := fun Y => cells_more (cells_at g2) Y
        have a2 := fun Y x => put_more (H := J) hrl Y x
        have a3 := fun x Y => cells_more (H := J.set r x) (j := 5) (cells_at (by rw [List.getElem?_set_ne r5']; exact f5)) Y
        have a4 := fun x Y => cells_more (H := J.set r x) (j := s) (cells_at (by rw [List.getElem?_set_ne hrs]; exact g3)) Y
        have a5 := fun z Y x => put_more (H := J.set r z) (j := s) (by simpa using hsl) Y x
        have a6 := fun x y Y => cells_more (H := (J.set r x).set s y) (j := 5) (cells_at (by rw [List.getElem?_set_ne s5', List.getElem?_set_ne r5']; exact f5)) Y
        have a7 := fun z y Y x => put_more (H := (J.set r z).set s y) (j := 5) (by simpa using hlt5) Y x
        have a8 := fun x y g sz es Y => cells_more (H := ((J.set r x).set s y).set 5 (some (Row.cells g sz es))) (j := 5) (cells_at (List.getElem?_set_self (by simpa using hlt5))) Y
        have a9 := fun z y w Y x => put_more (H := ((J.set r z).set s y).set 5 w) (j := 5) (by simpa using hlt5) Y x
        simp only [go_sem, wT, j2, vw, List.length_map, c0, c5, h3, q1, a1, a2, a3, a4, a5, a6, a7, a8, a9, List.set_set, z1, z2, l2, l3]
        simp only [List.length_set]
        refine ⟨(by first | (simp; done) | (simp; omega)), (by first | (simp; done) | (simp; omega)), (by first | (simp; done) | (simp; omega)), (by first | (simp; done) | (simp; omega)), (by first | (simp; done) | (simp; omega)), ?_⟩
        have off : ∀ (A B C : Option Row) (Y : Heap) (q : Nat), q < J.length -> q ≠ r -> q ≠ s -> q ≠ 5 -> (((J.set r A).set s B).set 5 C ++ Y)[q]? = J[q]? := fun A B C Y q hq n1 n2 n3 => by
          rw [List.getElem?_append_left (by simpa using hq), List.getElem?_set_ne (fun e => n3 e.symm), List.getElem?_set_ne (fun e => n2 e.symm), List.getElem?_set_ne (fun e => n1 e.symm)]
        have at5 : ∀ (A B C : Option Row) (Y : Heap), (((J.set r A).set s B).set 5 C ++ Y)[5]? = some C := fun A B C Y => by rw [List.getElem?_append_left (by simpa using hlt5), List.getElem?_set_self (by simpa using hlt5)]
        have atr : ∀ (A B C : Option Row) (Y : Heap), (((J.set r A).set s B).set 5 C ++ Y)[r]? = some A := fun A B C Y => by
          rw [List.getElem?_append_left (by simpa using hrl), List.getElem?_set_ne (fun e => r5' e.symm), List.getElem?_set_ne (fun e => hrs e.symm), List.getElem?_set_self hrl]
        have ats : ∀ (A B C : Option Row) (Y : Heap), (((J.set r A).set s B).set 5 C ++ Y)[s]? = some B := fun A B C Y => by
          rw [List.getElem?_append_left (by simpa using hsl), List.getElem?_set_ne (fun e => s5' e.symm), List.getElem?_set_self (by simpa using hsl)]
        have nr : ∀ q, wF q -> q ≠ r := fun q hq e => hr (by rw [<- e]; exact hq)
        have ns : ∀ q, wF q -> q ≠ s := fun q hq e => hs (by rw [<- e]; exact hq)
        exact ihn _ _ _ _ _ ⟨⟨by rw [off _ _ _ _ 0 (by omega) (nr 0 (by simp [wF])) (ns 0 (by simp [wF])) (by omega)]; exact f0, by rw [off _ _ _ _ 1 (by omega) (nr 1 (by simp [wF])) (ns 1 (by simp [wF])) (by omega)]; exact f1, by rw [off _ _ _ _ 2 (by omega) (nr 2 (by simp [wF])) (ns 2 (by simp [wF])) (by omega)]; exact f2, at5 _ _ _ _⟩, _, _, _, _, _, _,
          hn _ (fun q hnF hq n1 n2 => off _ _ _ _ q hq n1 n2 (by rintro rfl; exact hnF (by simp [wF]))) (atr _ _ _ _) (ats _ _ _ _) (fun a ha => by have := hF.len a ha; simp; omega)⟩ _ (by simp [go_sem, wT])
  . have h2 : ¬ (i : Int) < f.g.length := by omega
    obtain rfl : m = 0 := by omega
    simp only [gTab] at hG
    subst hG
    obtain ⟨⟨f0, f1, f2, f5⟩, κ0, κ1, κ2, κ3, κ4, κ5, hF⟩ := hI
    have L0 : L ≠ [] := by rintro rfl; simp at hL; omega
    have U0 : U ≠ [] := by rintro rfl; simp at hU; omega
    obtain ⟨ι, hD, hnd, hge⟩ := hF.all L0 U0
    obtain ⟨_, b0, e0, -, -⟩ := vw_get hF.d0
    obtain ⟨_, b1, e1, -, -⟩ := vw_get hF.d1
    obtain ⟨b2, _, _, e2, -, -, -⟩ := tb_get hF.d2 L0
    obtain ⟨b3, _, _, e3, -, -, -⟩ := tb_get hF.d3 U0
    subst e0; subst e1; subst e2; subst e3
    have c0 := cells_at f1
    simp only [Fv, Fcs, vw, tw] at c0
    have c5 := cells_at f5
    have c2 := cells_at f2
    have hlt2 := (List.getElem?_eq_some_iff.1 f2).1
    have q1 := fun x => put_lt (H := J) (x := x) hlt2
    have q2 := fun g sz es => cells_at (H := J.set 2 (some (Row.cells g sz es))) (j := 2) (List.getElem?_set_self hlt2)
    simp only [go_sem, wT, h2, vw, List.length_map, c0, c5, c2, q1, q2]
    exact ⟨ι, hD.set _ (fun h => hge 2 h (by simp [wF])), hnd, fun h => hge 0 h (by simp [wF]), by rw [List.getElem?_set_ne (by omega)]; exact f0⟩
end Go.Proofs
namespace Go.Proofs
open Go Go.Sx Go.Fam
attribute [local irreducible] Run
set_option maxHeartbeats 16000000 in
set_option maxRecDepth 20000 in
theorem within_false {f : Fa} (hf : FaOK f) (w0 : Int) : Go.Sx.Fn Try.prog n_kit_WithinFamily [.ptr 0 0 0 1, Fv f, .bool false] [some (Dr w0)] fun v H' => ∃ ι, Dat 6 H' ι v (Fv (wnF f false w0)) /\ ι.Nodup /\ 0 ∉ ι /\ H'[0]? = some (some (Dr (wnT f false w0).w)) := by
  obtain ⟨tL, tH, sL, sH⟩ := hf.tabs
  have g0 : f.g ≠ [] := by have := hf.g.pos; intro e; rw [e] at this; simp at this
  have p0 : f.p ≠ [] := by have := hf.p.pos; intro e; rw [e] at this; simp at this
  have gl0 := hf.g.pos
  have pl0 := hf.p.pos
  have gm := hf.g.most
  have pm := hf.p.most
  have o1 := Own_run f.g (by omega)
  have o2 := Own_run f.p (by omega)
  simp only [vw] at o1 o2
  refine run_fn e_kit_WithinFamily fun G => ?_
  simp only [go_sem, Fv, Fcs, tw, vw]
  refine dFN o1 6 [] ?_ ?_
  . exact ⟨.inl (by simp [frz, Function.comp_def]), trivial⟩
  simp only [go_sem, ren]
  refine dFN o2 6 [] ?_ ?_
  . exact ⟨.inl (by simp [frz, Function.comp_def]), trivial⟩
  simp only [go_sem, ren]
  obtain ⟨T, hT⟩ : ∃ T, wnT f false w0 = T := ⟨_, rfl⟩
  have hw : wnF f false w0 = ⟨f.g, f.p, T.lo, T.hi⟩ := by unfold wnF; rw [hT]
  rw [hw, hT]
  have hI0 : WnI f [some (Dr w0), some (.cells false 4 [Fv f]), some (.cells false 4 [.agg [.nilsl, .nilsl, .nilsl, .nilsl]]), some (.cells true 1 (ivL f.g)), some (.cells true 1 (ivL f.p)), some (.cells false 4 [.agg [.sl 3 0 f.g.length, .sl 4 0 f.p.length, .nilsl, .nilsl]])] w0 [] [] [] []
      (.sl 3 0 f.g.length) (.sl 4 0 f.p.length) .nilsl .nilsl .nilsl .nilsl := by
    refine ⟨⟨rfl, rfl, rfl, rfl⟩, [3], [4], [], [], [], [], fun a ha => by unfold wF at ha; simp; omega, vw_put g0 rfl rfl, vw_put p0 rfl rfl, ⟨rfl, rfl, rfl⟩, ⟨rfl, rfl, rfl⟩, ⟨rfl, rfl, rfl⟩, ⟨rfl, rfl, rfl⟩, fun a => ?_, fun a ha => ?_⟩
    . simp only [List.count_cons, List.count_nil, beq_iff_eq]
      split <;> split <;> omega
    . unfold wF at ha
      simp only [List.count_cons, List.count_nil, beq_iff_eq]
      rw [if_neg (by omega), if_neg (by omega)]
  refine loop_ind k_kit_WithinFamily_r24.eq_1 (fun a : Nat × Int × Heap × List (List Int) × List (List Int) × AVal × AVal × AVal × AVal => ∃ m, f.g.length = a.1 + m /\ gTab (wcell f false) f.p.length m a.2.1 a.2.2.2.1 a.2.2.2.2.1 = T /\ a.2.2.2.1.length = a.1 /\ TabI (wnE f false) f.p.length a.2.2.2.1 a.2.2.2.2.1 /\
      WnI f a.2.2.1 a.2.1 a.2.2.2.1 a.2.2.2.2.1 [] [] a.2.2.2.2.2.1 a.2.2.2.2.2.2.1 a.2.2.2.2.2.2.2.1 a.2.2.2.2.2.2.2.2 .nilsl .nilsl) (fun a => f.g.length - a.1)
    (fun a => (tsets 132 (wT false ++ [(8, .int .i64 a.1)]), a.2.2.1)) (0, w0, _, [], [], .sl 3 0 f.g.length, .sl 4 0 f.p.length, .nilsl, .nilsl) ⟨f.g.length, by simp, hT, rfl, tab0, hI0⟩ (by simp [go_sem, wT]) (by simp [Fv, Fcs, tw, vw]) ?_
  rintro ⟨i, w, J, L, U, v0, v1, v2, v3⟩ ⟨m, hm, hG, hL, hTab, hI⟩ ih
  dsimp only at hm hG hL hTab hI ih ⊢
  have hU : U.length = i := by rw [hTab.len, hL]
  by_cases h1 : i < f.g.length
  . have h2 : (i : Int) < f.g.length := by omega
    have m0 : ¬ (i : Int) < 0 := by omega
    have h3 := idx_next h1 (by omega)
    obtain ⟨m, rfl⟩ : ∃ n, m = n + 1 := ⟨m - 1, by omega⟩
    obtain ⟨Ur, hUr⟩ : ∃ Ur, lastOf L U = Ur := ⟨_, rfl⟩
    simp only [gTab, hUr] at hG
    obtain ⟨R, hR⟩ : ∃ R, gRow (wcell f false i) Ur f.p.length w [] [] = R := ⟨_, rfl⟩
    rw [hL, hR] at hG
    have hUE : ∀ j q, j < f.p.length -> upOf Ur j = some q -> ∃ i', i = i' + 1 /\ wnE f false i' j q := fun j q hj hq => by
      rw [<- hUr] at hq
      unfold lastOf upOf at hq
      split at hq
      . cases hq
      . cases hq
        have := hTab.e (L.length - 1) j (by omega) hj
        rw [show U.getD (L.length - 1) [] = U.getD (L.length - 1) [] from rfl]
        exact ⟨L.length - 1, by omega, this⟩
    have hc := wcell_ok hf false
    obtain ⟨rl, hrl', ll⟩ := tL.row i h1
    obtain ⟨rh, hrh', lh⟩ := tH.row i h1
    have c0 := cells_at hI.1.r1
    simp only [Fv, Fcs, vw, tw] at c0
    simp only [go_sem, wT, h2, c0, List.length_map]
    refine loop_ind k_kit_WithinFamily_r21.eq_1 (fun a : Nat × Int × Heap × List Int × List Int × AVal × AVal => ∃ m, f.p.length = a.1 + m /\ gRow (wcell f false i) Ur m a.2.1 a.2.2.2.1 a.2.2.2.2.1 = R /\ a.2.2.2.1.length = a.1 /\ RowI (wnE f false) i Ur a.2.2.2.1 a.2.2.2.2.1 /\
        WnI f a.2.2.1 a.2.1 L U a.2.2.2.1 a.2.2.2.2.1 v0 v1 v2 v3 a.2.2.2.2.2.1 a.2.2.2.2.2.2) (fun a => f.p.length - a.1)
      (fun a => (tsets 132 (wT false ++ [(8, .int .i64 i), (9, a.2.2.2.2.2.1), (10, a.2.2.2.2.2.2), (11, .int .i64 a.1)]), a.2.2.1)) (0, w, J, [], [], .nilsl, .nilsl) ⟨f.p.length, by simp, hR, rfl, ⟨rfl, by simp, by simp, by simp⟩, hI⟩ (by simp [go_sem, wT]) rfl ?_
    rintro ⟨k, w, J, lo, hi, v4, v5⟩ ⟨n, hn, hRg, hlo, hRow, hR'⟩ ihk
    clear hI
    dsimp only at hn hRg hlo hRow hR' ihk ⊢
    obtain ⟨hH, κ0, κ1, κ2, κ3, κ4, κ5, hF⟩ := hR'
    obtain ⟨f0, f1, f2, f5⟩ := hH
    have hhi : hi.length = k := by rw [hRow.len, hlo]
    have c0 := cells_at f1
    simp only [Fv, Fcs, vw, tw] at c0
    by_cases j1 : k < f.p.length
    . have j2 : (k : Int) < f.p.length := by omega
      have m1 : ¬ (k : Int) < 0 := by omega
      have j3 := idx_next j1 (by omega)
      obtain ⟨n, rfl⟩ : ∃ q, n = q + 1 := ⟨n - 1, by omega⟩
      simp only [gRow, hlo] at hRg
      have y1 := get_at (l := rl) (i := k) (by omega)
      have y2 := get_at (l := rh) (i := k) (by omega)
      rw [<- tg_get hrl'] at y1
      rw [<- tg_get hrh'] at y2
      have hk0 := hf.inn i k h1 j1
      have hcell := hc.ok i k w (upOf Ur k) (prevOf lo hi) h1 j1 (fun q hq => hUE k q j1 hq) (fun q hq => by
        unfold prevOf at hq
        split at hq
        . cases hq
        . cases hq
          exact ⟨lo.length - 1, by omega, hRow.e _ (by omega)⟩)
      have hrow' := hRow.snoc (by rw [hlo]; exact hcell.1) (by rw [hlo]; exact hcell.2.1) hcell.2.2
      have ihn := fun J' v4' v5' hh => ihk (k + 1, (wcell f false i k w (upOf Ur k) (prevOf lo hi)).w, J', lo ++ [(wcell f false i k w (upOf Ur k) (prevOf lo hi)).lo], hi ++ [(wcell f false i k w (upOf Ur k) (prevOf lo hi)).hi], v4', v5') (by omega) ⟨n, by omega, hRg, by simp; omega, hrow', hh⟩
      clear ihk hRg hrow'
      dsimp only at ihn
      have kb := between_ok w (tg f.lo i k) (tg f.hi i k) (by omega) (by omega) (by omega)
      have bi := btw_in (w := w) (lo := tg f.lo i k) (hi := tg f.hi i k) (by omega)
      obtain ⟨A, hA⟩ : ∃ x, btw w (tg f.lo i k) (tg f.hi i k) = x := ⟨_, rfl⟩
      obtain ⟨wA, hwA⟩ : ∃ x, dstep w = x := ⟨_, rfl⟩
      rw [hA, hwA] at kb
      rw [hA] at bi
      have z5 := hF.len 5 (by simp [wF])
      have l0 := (List.getElem?_eq_some_iff.1 f0).1
      have hset : ∀ X : Row, (J.set 0 (some X))[0]? = some (some X) := fun X => List.getElem?_set_self l0
      have off : ∀ {j : Nat} {g : Bool} {sz : Nat} {es : List AVal}, J[j]? = some (some (.cells g sz es)) -> j ≠ 0 -> ∀ X, Heap.cellsAt (J.set 0 X) j = some (g, sz, es) := fun h hj X => cells_at (by rw [List.getElem?_set_ne (fun e => hj e.symm)]; exact h)
      have hF2 : ∀ X, FS wF (J.set 0 X) f.g f.p L U lo hi v0 v1 v2 v3 v4 v5 κ0 κ1 κ2 κ3 κ4 κ5 := fun X => hF.fix (fun q hq => List.getElem?_set_ne (fun e => hq (by simp [wF, <- e]))) (fun a ha => by have := hF.len a ha; simpa using this)
      have hlen : ∀ X, (J.set 0 X).length = J.length := fun X => List.length_set
      have o1 : ∀ X, Heap.cellsAt (J.set 0 X) 1 = _ := fun X => off f1 (by decide) X
      simp only [Fv, Fcs, vw, tw] at o1
      have o5 : ∀ X, Heap.cellsAt (J.set 0 X) 5 = _ := fun X => off f5 (by decide) X
      by_cases i0 : i = 0
      . skip
        have k1 : ¬ (i : Int) > 0 := by omega
        have hU0 : Ur = none := by rw [<- hUr]; unfold lastOf; rw [if_pos (by omega)]
        have eu : upOf Ur k = none := by rw [hU0]; rfl
        rw [eu] at ihn hcell
        by_cases k0 : k = 0
        . skip
          have k2 : ¬ (k : Int) > 0 := by omega
          have : lo = [] := List.length_eq_zero_iff.1 (by omega)
          subst this
          have : hi = [] := List.length_eq_zero_iff.1 (by omega)
          subst this
          have ep : prevOf [] [] = none := rfl
          rw [ep] at ihn hcell
          obtain ⟨e4, e5, -⟩ := hF.first
          subst e4; subst e5
          obtain ⟨C, hC⟩ : ∃ x, A = x := ⟨_, rfl⟩
          have hAC : Go.Proofs.wA f i k w (none) (none) = C := by subst hC; subst hA; rfl
          have hce : (wcell f false i k w (none) (none)).lo = C := hAC
          have CZ : C <= tg f.hi i k /\ 0 <= C := by have h := hcell.1; rw [hce] at h; unfold wnE at h; omega
          have kc := between_ok wA C (tg f.hi i k) (by omega) (by omega) (by omega)
          obtain ⟨B, hB⟩ : ∃ x, btw wA C (tg f.hi i k) = x := ⟨_, rfl⟩
          obtain ⟨wB', hwB⟩ : ∃ x, dstep wA = x := ⟨_, rfl⟩
          rw [hB, hwB] at kc
          have ec : wcell f false i k w (none) (none) = ⟨C, B, wB'⟩ := by subst hB; subst hwB; subst hC; subst hA; subst hwA; rfl
          rw [ec] at ihn
          dsimp only at ihn
          obtain ⟨D, hDD⟩ : ∃ x, B = x := ⟨_, rfl⟩
          rw [hDD] at ihn
          subst hC; subst hDD
          clear hcell hRow hUE hc
          simp only [go_sem, wT, j2, vw, List.length_map, m0, m1, hrl', hrh', y1, y2, Int.toNat_natCast, c0]
          refine cD kb ?_ (hj := f0) (hk := by omega)
          simp only [go_sem, List.set_set, e_mx, k1, k2, j3, Int.toNat_natCast, o1, o5, List.length_map, vw, m0, m1, hrh', y2]
          refine cD kc ?_ (hj := hset _) (hk := by rw [hlen]; omega)
          simp only [go_sem, List.set_set, e_mx, k1, k2, j3, Int.toNat_natCast, o1, o5, List.length_map, vw, m0, m1, hrh', y2]
          refine ⟨by decide, by decide, ?_⟩
          exact ihn _ _ _ ⟨WnH.mono ⟨f0, f1, f2, f5⟩ (by rw [List.getElem?_append_left (by rw [hlen]; omega)]; exact hset _) (fun q hq q0 hl => by rw [List.getElem?_append_left (by rw [hlen]; exact hl), List.getElem?_set_ne (fun e => q0 e.symm)]), _, _, _, _, _, _,
            (hF2 (Dr wB')).first.2.2 _ ((J.set 0 (some (Dr wB'))).length + 1) ((J.set 0 (some (Dr wB'))).length + 3) A B (by omega) (by omega) (by omega) (fun q _ hq => List.getElem?_append_left hq) (by rw [get_new rfl]; rfl) (by rw [get_new rfl]; rfl)⟩ _ (by simp [go_sem, wT])
        . skip
          have k2 : (k : Int) > 0 := by omega
          obtain ⟨j, rfl⟩ : ∃ j, k = j + 1 := ⟨k - 1, by omega⟩
          have lo0 : lo ≠ [] := by rintro rfl; simp at hlo
          have hi0 : hi ≠ [] := by rintro rfl; simp at hhi
          have l1 := get_at (l := lo) (i := j) (by omega)
          have l2 := get_at (l := hi) (i := j) (by omega)
          have ep : prevOf lo hi = some (at1 lo j, at1 hi j) := by unfold prevOf; rw [if_neg (by omega), hlo, Nat.add_sub_cancel]
          rw [ep] at ihn hcell
          obtain ⟨p1, hp1⟩ : ∃ x, at1 lo j = x := ⟨_, rfl⟩
          obtain ⟨p2, hp2⟩ : ∃ x, at1 hi j = x := ⟨_, rfl⟩
          rw [hp1] at l1 ihn hcell
          rw [hp2] at l2 ihn hcell
          have x4 : IntKind.i64.wrap (((j + 1 : Nat) : Int) - 1) = j := by rw [w64 (by omega)]; omega
          have n4 : ¬ (j : Int) < 0 := by omega
          have y3 : (j : Int) < lo.length := by omega
          have y4 : (j : Int) < hi.length := by omega
          have z3 : (lo.length + 1) * 8 <= 2 ^ 44 := by omega
          have z4 : (hi.length + 1) * 8 <= 2 ^ 44 := by omega
          obtain ⟨r, s, e4, e5, hrs, hr, hs, g4, g5, -⟩ := hF.next lo0 hi0
          have r0 : r ≠ 0 := by rintro rfl; exact hr (by simp [wF])
          have s0 : s ≠ 0 := by rintro rfl; exact hs (by simp [wF])
          have d1 := off g4 r0
          have d2 := off g5 s0
          have hrl := (List.getElem?_eq_some_iff.1 g4).1
          have hsl := (List.getElem?_eq_some_iff.1 g5).1
          have q1 := fun X Y => cells_more (d1 X) Y
          have q2 := fun X Y x => put_more (H := J.set 0 X) (j := r) (by rw [List.length_set]; exact hrl) Y x
          have q3 := fun X x Y => cells_more (H := (J.set 0 X).set r x) (j := s) (cells_at (by rw [List.getElem?_set_ne hrs, List.getElem?_set_ne (fun e => s0 e.symm)]; exact g5)) Y
          have q4 := fun X z Y x => put_more (H := (J.set 0 X).set r z) (j := s) (by simpa using hsl) Y x
          obtain ⟨C, hC⟩ : ∃ x, mx A p1 = x := ⟨_, rfl⟩
          have hAC : Go.Proofs.wA f i (j + 1) w (none) (some (p1, p2)) = C := by subst hC; subst hA; rfl
          have hce : (wcell f false i (j + 1) w (none) (some (p1, p2))).lo = C := hAC
          have CZ : C <= tg f.hi i (j + 1) /\ 0 <= C := by have h := hcell.1; rw [hce] at h; unfold wnE at h; omega
          have kc := between_ok wA C (tg f.hi i (j + 1)) (by omega) (by omega) (by omega)
          obtain ⟨B, hB⟩ : ∃ x, btw wA C (tg f.hi i (j + 1)) = x := ⟨_, rfl⟩
          obtain ⟨wB', hwB⟩ : ∃ x, dstep wA = x := ⟨_, rfl⟩
          rw [hB, hwB] at kc
          have ec : wcell f false i (j + 1) w (none) (some (p1, p2)) = ⟨C, mx B p2, wB'⟩ := by subst hB; subst hwB; subst hC; subst hA; subst hwA; rfl
          rw [ec] at ihn
          dsimp only at ihn
          obtain ⟨D, hDD⟩ : ∃ x, mx B p2 = x := ⟨_, rfl⟩
          rw [hDD] at ihn
          obtain ⟨r', s', e4', e5', -, -, -, -, -, hnn⟩ := (hF2 (Dr wB')).next lo0 hi0
          subst e4; subst e5
          obtain rfl : r = r' := by simpa using e4'
          obtain rfl : s = s' := by simpa using e5'
          clear hcell hRow hUE hc
          simp only [go_sem, wT, j2, vw, List.length_map, m0, m1, hrl', hrh', y1, y2, Int.toNat_natCast, c0]
          refine cD kb ?_ (hj := f0) (hk := by omega)
          simp only [go_sem, List.set_set, e_mx, k1, k2, j3, Int.toNat_natCast, o1, o5, List.length_map, vw, d1, d2, l1, l2, x4, n4, y3, y4, z3, z4, q1, q2, q3, q4, hC, hDD, m0, m1, hrh', y2]
          refine cD kc ?_ (hj := hset _) (hk := by rw [hlen]; omega)
          simp only [go_sem, List.set_set, e_mx, k1, k2, j3, Int.toNat_natCast, o1, o5, List.length_map, vw, d1, d2, l1, l2, x4, n4, y3, y4, z3, z4, q1, q2, q3, q4, hC, hDD, m0, m1, hrh', y2]
          have hrl' : r < (J.set 0 (some (Dr wB'))).length := by rw [hlen]; exact hrl
          have hsl' : s < (J.set 0 (some (Dr wB'))).length := by rw [hlen]; exact hsl
          have nF : ∀ q, wF q -> q ≠ r /\ q ≠ s := fun q hq => ⟨fun e => hr (by rw [<- e]; exact hq), fun e => hs (by rw [<- e]; exact hq)⟩
          exact ihn _ _ _ ⟨WnH.mono ⟨f0, f1, f2, f5⟩ (by rw [two_off (by rw [hlen]; omega) (nF 0 (by simp [wF])).1 (nF 0 (by simp [wF])).2]; exact hset _) (fun q hq q0 hl => by rw [two_off (by rw [hlen]; exact hl) (nF q hq).1 (nF q hq).2, List.getElem?_set_ne (fun e => q0 e.symm)]), _, _, _, _, _, _,
            hnn _ C D (fun q _ hl a b => two_off hl a b) (two_r hrl' hrs) (two_s hsl') (fun a ha => by have := hF.len a ha; simp; omega)⟩ _ (by simp [go_sem, wT])
      . skip
        have k1 : (i : Int) > 0 := by omega
        obtain ⟨i', rfl⟩ : ∃ q, i = q + 1 := ⟨i - 1, by omega⟩
        have L0 : L ≠ [] := by rintro rfl; simp at hL
        have U0 : U ≠ [] := by rintro rfl; simp at hU
        obtain ⟨ra, hra⟩ : ∃ x, L[i']? = some x := ⟨_, List.getElem?_eq_getElem (by omega)⟩
        obtain ⟨rb, hrb⟩ : ∃ x, U[i']? = some x := ⟨_, List.getElem?_eq_getElem (by omega)⟩
        have la := hTab.l ra (List.mem_of_getElem? hra)
        have lb := hTab.h rb (List.mem_of_getElem? hrb)
        have hU0 : Ur = some (ra, rb) := by
          rw [<- hUr]; unfold lastOf; rw [if_neg (by omega), hL]
          simp only [Nat.add_sub_cancel]
          rw [List.getD_eq_getElem?_getD, List.getD_eq_getElem?_getD, hra, hrb]; rfl
        have eu : upOf Ur k = some (at1 ra k, at1 rb k) := by rw [hU0]; rfl
        rw [eu] at ihn hcell
        obtain ⟨tr, ts, vs, us, ta, tb, ev2, ev3, nr, ns, na, nb, gr, gs, lvs, lus, gva, gub, ga, gb⟩ := hF.read L0 U0 hra hrb
        have tr0 : tr ≠ 0 := by rintro rfl; exact nr (by simp [wF])
        have ts0 : ts ≠ 0 := by rintro rfl; exact ns (by simp [wF])
        have ta0 : ta ≠ 0 := by rintro rfl; exact na (by simp [wF])
        have tb0 : tb ≠ 0 := by rintro rfl; exact nb (by simp [wF])
        have t1 := off gr tr0
        have t2 := off gs ts0
        have t3 := off ga ta0
        have t4 := off gb tb0
        have l5 := get_at (l := ra) (i := k) (by omega)
        have l6 := get_at (l := rb) (i := k) (by omega)
        obtain ⟨Q1, hQ1⟩ : ∃ x, at1 ra k = x := ⟨_, rfl⟩
        obtain ⟨Q2, hQ2⟩ : ∃ x, at1 rb k = x := ⟨_, rfl⟩
        rw [hQ1] at l5 ihn hcell
        rw [hQ2] at l6 ihn hcell
        have x5 : IntKind.i64.wrap (((i' + 1 : Nat) : Int) - 1) = i' := by rw [w64 (by omega)]; omega
        have n5 : ¬ (i' : Int) < 0 := by omega
        have n6 : ¬ (k : Int) < 0 := by omega
        have y5 : (i' : Int) < L.length := by omega
        have y6 : (i' : Int) < U.length := by omega
        have y7 : (k : Int) < ra.length := by omega
        have y8 : (k : Int) < rb.length := by omega
        subst ev2; subst ev3
        by_cases k0 : k = 0
        . skip
          have k2 : ¬ (k : Int) > 0 := by omega
          have : lo = [] := List.length_eq_zero_iff.1 (by omega)
          subst this
          have : hi = [] := List.length_eq_zero_iff.1 (by omega)
          subst this
          have ep : prevOf [] [] = none := rfl
          rw [ep] at ihn hcell
          obtain ⟨e4, e5, -⟩ := hF.first
          subst e4; subst e5
          obtain ⟨C, hC⟩ : ∃ x, mx A Q1 = x := ⟨_, rfl⟩
          have hAC : Go.Proofs.wA f (i' + 1) k w (some (Q1, Q2)) (none) = C := by subst hC; subst hA; rfl
          have hce : (wcell f false (i' + 1) k w (some (Q1, Q2)) (none)).lo = C := hAC
          have CZ : C <= tg f.hi (i' + 1) k /\ 0 <= C := by have h := hcell.1; rw [hce] at h; unfold wnE at h; omega
          have kc := between_ok wA C (tg f.hi (i' + 1) k) (by omega) (by omega) (by omega)
          obtain ⟨B, hB⟩ : ∃ x, btw wA C (tg f.hi (i' + 1) k) = x := ⟨_, rfl⟩
          obtain ⟨wB', hwB⟩ : ∃ x, dstep wA = x := ⟨_, rfl⟩
          rw [hB, hwB] at kc
          have ec : wcell f false (i' + 1) k w (some (Q1, Q2)) (none) = ⟨C, mx B Q2, wB'⟩ := by subst hB; subst hwB; subst hC; subst hA; subst hwA; rfl
          rw [ec] at ihn
          dsimp only at ihn
          obtain ⟨D, hDD⟩ : ∃ x, mx B Q2 = x := ⟨_, rfl⟩
          rw [hDD] at ihn
          clear hcell hRow hUE hc
          simp only [go_sem, wT, j2, vw, List.length_map, m0, m1, hrl', hrh', y1, y2, Int.toNat_natCast, c0]
          refine cD kb ?_ (hj := f0) (hk := by omega)
          simp only [go_sem, List.set_set, e_mx, k1, k2, j3, Int.toNat_natCast, o1, o5, List.length_map, vw, x5, n5, n6, y5, y6, y7, y8, gva, gub, lvs, lus, t1, t2, t3, t4, l5, l6, hC, hDD, m0, m1, hrh', y2]
          refine cD kc ?_ (hj := hset _) (hk := by rw [hlen]; omega)
          simp only [go_sem, List.set_set, e_mx, k1, k2, j3, Int.toNat_natCast, o1, o5, List.length_map, vw, x5, n5, n6, y5, y6, y7, y8, gva, gub, lvs, lus, t1, t2, t3, t4, l5, l6, hC, hDD, m0, m1, hrh', y2]
          refine ⟨by decide, by decide, ?_⟩
          exact ihn _ _ _ ⟨WnH.mono ⟨f0, f1, f2, f5⟩ (by rw [List.getElem?_append_left (by rw [hlen]; omega)]; exact hset _) (fun q hq q0 hl => by rw [List.getElem?_append_left (by rw [hlen]; exact hl), List.getElem?_set_ne (fun e => q0 e.symm)]), _, _, _, _, _, _,
            (hF2 (Dr wB')).first.2.2 _ ((J.set 0 (some (Dr wB'))).length + 1) ((J.set 0 (some (Dr wB'))).length + 3) C D (by omega) (by omega) (by omega) (fun q _ hq => List.getElem?_append_left hq) (by rw [get_new rfl]; rfl) (by rw [get_new rfl]; rfl)⟩ _ (by simp [go_sem, wT])
        . skip
          have k2 : (k : Int) > 0 := by omega
          obtain ⟨j, rfl⟩ : ∃ j, k = j + 1 := ⟨k - 1, by omega⟩
          have lo0 : lo ≠ [] := by rintro rfl; simp at hlo
          have hi0 : hi ≠ [] := by rintro rfl; simp at hhi
          have l1 := get_at (l := lo) (i := j) (by omega)
          have l2 := get_at (l := hi) (i := j) (by omega)
          have ep : prevOf lo hi = some (at1 lo j, at1 hi j) := by unfold prevOf; rw [if_neg (by omega), hlo, Nat.add_sub_cancel]
          rw [ep] at ihn hcell
          obtain ⟨p1, hp1⟩ : ∃ x, at1 lo j = x := ⟨_, rfl⟩
          obtain ⟨p2, hp2⟩ : ∃ x, at1 hi j = x := ⟨_, rfl⟩
          rw [hp1] at l1 ihn hcell
          rw [hp2] at l2 ihn hcell
          have x4 : IntKind.i64.wrap (((j + 1 : Nat) : Int) - 1) = j := by rw [w64 (by omega)]; omega
          have n4 : ¬ (j : Int) < 0 := by omega
          have y3 : (j : Int) < lo.length := by omega
          have y4 : (j : Int) < hi.length := by omega
          have z3 : (lo.length + 1) * 8 <= 2 ^ 44 := by omega
          have z4 : (hi.length + 1) * 8 <= 2 ^ 44 := by omega
          obtain ⟨r, s, e4, e5, hrs, hr, hs, g4, g5, -⟩ := hF.next lo0 hi0
          have r0 : r ≠ 0 := by rintro rfl; exact hr (by simp [wF])
          have s0 : s ≠ 0 := by rintro rfl; exact hs (by simp [wF])
          have d1 := off g4 r0
          have d2 := off g5 s0
          have hrl := (List.getElem?_eq_some_iff.1 g4).1
          have hsl := (List.getElem?_eq_some_iff.1 g5).1
          have q1 := fun X Y => cells_more (d1 X) Y
          have q2 := fun X Y x => put_more (H := J.set 0 X) (j := r) (by rw [List.length_set]; exact hrl) Y x
          have q3 := fun X x Y => cells_more (H := (J.set 0 X).set r x) (j := s) (cells_at (by rw [List.getElem?_set_ne hrs, List.getElem?_set_ne (fun e => s0 e.symm)]; exact g5)) Y
          have q4 := fun X z Y x => put_more (H := (J.set 0 X).set r z) (j := s) (by simpa using hsl) Y x
          obtain ⟨C, hC⟩ : ∃ x, mx (mx A Q1) p1 = x := ⟨_, rfl⟩
          have hAC : Go.Proofs.wA f (i' + 1) (j + 1) w (some (Q1, Q2)) (some (p1, p2)) = C := by subst hC; subst hA; rfl
          have hce : (wcell f false (i' + 1) (j + 1) w (some (Q1, Q2)) (some (p1, p2))).lo = C := hAC
          have CZ : C <= tg f.hi (i' + 1) (j + 1) /\ 0 <= C := by have h := hcell.1; rw [hce] at h; unfold wnE at h; omega
          have kc := between_ok wA C (tg f.hi (i' + 1) (j + 1)) (by omega) (by omega) (by omega)
          obtain ⟨B, hB⟩ : ∃ x, btw wA C (tg f.hi (i' + 1) (j + 1)) = x := ⟨_, rfl⟩
          obtain ⟨wB', hwB⟩ : ∃ x, dstep wA = x := ⟨_, rfl⟩
          rw [hB, hwB] at kc
          have ec : wcell f false (i' + 1) (j + 1) w (some (Q1, Q2)) (some (p1, p2)) = ⟨C, mx (mx B Q2) p2, wB'⟩ := by subst hB; subst hwB; subst hC; subst hA; subst hwA; rfl
          rw [ec] at ihn
          dsimp only at ihn
          obtain ⟨D, hDD⟩ : ∃ x, mx (mx B Q2) p2 = x := ⟨_, rfl⟩
          rw [hDD] at ihn
          obtain ⟨r', s', e4', e5', -, -, -, -, -, hnn⟩ := (hF2 (Dr wB')).next lo0 hi0
          subst e4; subst e5
          obtain rfl : r = r' := by simpa using e4'
          obtain rfl : s = s' := by simpa using e5'
          clear hcell hRow hUE hc
          simp only [go_sem, wT, j2, vw, List.length_map, m0, m1, hrl', hrh', y1, y2, Int.toNat_natCast, c0]
          refine cD kb ?_ (hj := f0) (hk := by omega)
          simp only [go_sem, List.set_set, e_mx, k1, k2, j3, Int.toNat_natCast, o1, o5, List.length_map, vw, x5, n5, n6, y5, y6, y7, y8, gva, gub, lvs, lus, t1, t2, t3, t4, l5, l6, d1, d2, l1, l2, x4, n4, y3, y4, z3, z4, q1, q2, q3, q4, hC, hDD, m0, m1, hrh', y2]
          refine cD kc ?_ (hj := hset _) (hk := by rw [hlen]; omega)
          simp only [go_sem, List.set_set, e_mx, k1, k2, j3, Int.toNat_natCast, o1, o5, List.length_map, vw, x5, n5, n6, y5, y6, y7, y8, gva, gub, lvs, lus, t1, t2, t3, t4, l5, l6, d1, d2, l1, l2, x4, n4, y3, y4, z3, z4, q1, q2, q3, q4, hC, hDD, m0, m1, hrh', y2]
          have hrl' : r < (J.set 0 (some (Dr wB'))).length := by rw [hlen]; exact hrl
          have hsl' : s < (J.set 0 (some (Dr wB'))).length := by rw [hlen]; exact hsl
          have nF : ∀ q, wF q -> q ≠ r /\ q ≠ s := fun q hq => ⟨fun e => hr (by rw [<- e]; exact hq), fun e => hs (by rw [<- e]; exact hq)⟩
          exact ihn _ _ _ ⟨WnH.mono ⟨f0, f1, f2, f5⟩ (by rw [two_off (by rw [hlen]; omega) (nF 0 (by simp [wF])).1 (nF 0 (by simp [wF])).2]; exact hset _) (fun q hq q0 hl => by rw [two_off (by rw [hlen]; exact hl) (nF q hq).1 (nF q hq).2, List.getElem?_set_ne (fun e => q0 e.symm)]), _, _, _, _, _, _,
            hnn _ C D (fun q _ hl a b => two_off hl a b) (two_r hrl' hrs) (two_s hsl') (fun a ha => by have := hF.len a ha; simp; omega)⟩ _ (by simp [go_sem, wT])
    . have j2 : ¬ (k : Int) < f.p.length := by omega
      obtain rfl : n = 0 := by omega
      simp only [gRow] at hRg
      subst hRg
      dsimp only at hG
      have kp : k = f.p.length := by omega
      have lo0 : lo ≠ [] := by rintro rfl; simp at hlo; omega
      have hi0 : hi ≠ [] := by rintro rfl; simp at hhi; omega
      have ihn := fun J' v0' v1' v2' v3' hh => ih (i + 1, w, J', L ++ [lo], U ++ [hi], v0', v1', v2', v3') (by omega) ⟨m, by omega, hG, by simp; omega, hTab.snoc (by rw [hUr, hL]; exact hRow) (by omega), hh⟩
      clear ih ihk
      dsimp only at ihn
      have c5 := cells_at f5
      have z0 := hF.len 5 (by simp [wF])
      obtain ⟨r4, e4, -, -⟩ := ls_get hF.d4 lo0
      obtain ⟨r5, e5, -, -⟩ := ls_get hF.d5 hi0
      subst e4; subst e5
      have hlt5 := (List.getElem?_eq_some_iff.1 f5).1
      have q1 := fun Y => cells_more c5 Y
      by_cases i0 : i = 0
      . have : L = [] := List.length_eq_zero_iff.1 (by omega)
        subst this
        have : U = [] := List.length_eq_zero_iff.1 (by omega)
        subst this
        obtain ⟨e2, e3, hn⟩ := hF.row1 lo0 hi0
        subst e2; subst e3
        have q2 := fun Y x => put_more (H := J) hlt5 Y x
        have q3 := fun g sz es Y => cells_more (H := J.set 5 (some (Row.cells g sz es))) (j := 5) (cells_at (List.getElem?_set_self hlt5)) Y
        have q4 := fun z Y x => put_more (H := J.set 5 z) (j := 5) (by simpa using hlt5) Y x
        simp only [go_sem, wT, j2, vw, List.length_map, c0, c5, h3, q1, q2, q3, q4, List.set_set]
        refine ⟨(by first | (simp; done) | (simp; omega)), by decide, (by first | (simp; done) | (simp; omega)), (by first | (simp; done) | (simp; omega)), (by first | (simp; done) | (simp; omega)), by decide, (by first | (simp; done) | (simp; omega)), ?_⟩
        have off : ∀ (A : Option Row) (Y : Heap) (q : Nat), q < J.length -> q ≠ 5 -> (J.set 5 A ++ Y)[q]? = J[q]? := fun A Y q hq hn => by rw [List.getElem?_append_left (by simpa using hq), List.getElem?_set_ne (fun e => hn e.symm)]
        have at5 : ∀ (A : Option Row) (Y : Heap), (J.set 5 A ++ Y)[5]? = some A := fun A Y => by rw [List.getElem?_append_left (by simpa using hlt5), List.getElem?_set_self hlt5]
        exact ihn _ _ _ _ _ ⟨⟨by rw [off _ _ 0 (by omega) (by omega)]; exact f0, by rw [off _ _ 1 (by omega) (by omega)]; exact f1, by rw [off _ _ 2 (by omega) (by omega)]; exact f2, at5 _ _⟩, _, _, _, _, _, _, hn _ (J.length + 1) (J.length + 3) (by omega) (by omega) (by omega) (fun q hnF hq => off _ _ q hq (by rintro rfl; exact hnF (by simp [wF]))) (by rw [get_new (by simp)]; rfl) (by rw [get_new (by simp)]; rfl)⟩ _ (by simp [go_sem, wT])
      . have L0 : L ≠ [] := by rintro rfl; simp at hL; omega
        have U0 : U ≠ [] := by rintro rfl; simp at hU; omega
        obtain ⟨r, s, vs, us, κ2', κ3', e2, e3, hrs, hr, hs, g2, g3, l2, l3, hn⟩ := hF.rows L0 U0 lo0 hi0
        subst e2; subst e3
        have hrl := (List.getElem?_eq_some_iff.1 g2).1
        have hsl := (List.getElem?_eq_some_iff.1 g3).1
        have r5' : r ≠ 5 := by rintro rfl; exact hr (by simp [wF])
        have s5' : s ≠ 5 := by rintro rfl; exact hs (by simp [wF])
        have z1 : (L.length + 1) * 24 <= 2 ^ 44 := by omega
        have z2 : (U.length + 1) * 24 <= 2 ^ 44 := by omega
        have a1 := fun Y => cells_more (cells_at g2) Y
        have a2 := fun Y x => put_more (H := J) hrl Y x
        have a3 := fun x Y => cells_more (H := J.set r x) (j := 5) (cells_at (by rw [List.getElem?_set_ne r5']; exact f5)) Y
        have a4 := fun x Y => cells_more (H := J.set r x) (j := s) (cells_at (by rw [List.getElem?_set_ne hrs]; exact g3)) Y
        have a5 := fun z Y x => put_more (H := J.set r z) (j := s) (by simpa using hsl) Y x
        have a6 := fun x y Y => cells_more (H := (J.set r x).set s y) (j := 5) (cells_at (by rw [List.getElem?_set_ne s5', List.getElem?_set_ne r5']; exact f5)) Y
        have a7 := fun z y Y x => put_more (H := (J.set r z).set s y) (j := 5) (by simpa using hlt5) Y x
        have a8 := fun x y g sz es Y => cells_more (H := ((J.set r x).set s y).set 5 (some (Row.cells g sz es))) (j := 5) (cells_at (List.getElem?_set_self (by simpa using hlt5))) Y
        have a9 := fun z y w Y x => put_more (H := ((J.set r z).set s y).set 5 w) (j := 5) (by simpa using hlt5) Y x
        simp only [go_sem, wT, j2, vw, List.length_map, c0, c5, h3, q1, a1, a2, a3, a4, a5, a6, a7, a8, a9, List.set_set, z1, z2, l2, l3]
        simp only [List.length_set]
        refine ⟨(by first | (simp; done) | (simp; omega)), (by first | (simp; done) | (simp; omega)), (by first | (simp; done) | (simp; omega)), (by first | (simp; done) | (simp; omega)), (by first | (simp; done) | (simp; omega)), ?_⟩
        have off : ∀ (A B C : Option Row) (Y : Heap) (q : Nat), q < J.length -> q ≠ r -> q ≠ s -> q ≠ 5 -> (((J.set r A).set s B).set 5 C ++ Y)[q]? = J[q]? := fun A B C Y q hq n1 n2 n3 => by
          rw [List.getElem?_append_left (by simpa using hq), List.getElem?_set_ne (fun e => n3 e.symm), List.getElem?_set_ne (fun e => n2 e.symm), List.getElem?_set_ne (fun e => n1 e.symm)]
        have at5 : ∀ (A B C : Option Row) (Y : Heap), (((J.set r A).set s B).set 5 C ++ Y)[5]? = some C := fun A B C Y => by rw [List.getElem?_append_left (by simpa using hlt5), List.getElem?_set_self (by simpa using hlt5)]
        have atr : ∀ (A B C : Option Row) (Y : Heap), (((J.set r A).set s B).set 5 C ++ Y)[r]? = some A := fun A B C Y => by
          rw [List.getElem?_append_left (by simpa using hrl), List.getElem?_set_ne (fun e => r5' e.symm), List.getElem?_set_ne (fun e => hrs e.symm), List.getElem?_set_self hrl]
        have ats : ∀ (A B C : Option Row) (Y : Heap), (((J.set r A).set s B).set 5 C ++ Y)[s]? = some B := fun A B C Y => by
          rw [List.getElem?_append_left (by simpa using hsl), List.getElem?_set_ne (fun e => s5' e.symm), List.getElem?_set_self (by simpa using hsl)]
        have nr : ∀ q, wF q -> q ≠ r := fun q hq e => hr (by rw [<- e]; exact hq)
        have ns : ∀ q, wF q -> q ≠ s := fun q hq e => hs (by rw [<- e]; exact hq)
        exact ihn _ _ _ _ _ ⟨⟨by rw [off _ _ _ _ 0 (by omega) (nr 0 (by simp [wF])) (ns 0 (by simp [wF])) (by omega)]; exact f0, by rw [off _ _ _ _ 1 (by omega) (nr 1 (by simp [wF])) (ns 1 (by simp [wF])) (by omega)]; exact f1, by rw [off _ _ _ _ 2 (by omega) (nr 2 (by simp [wF])) (ns 2 (by simp [wF])) (by omega)]; exact f2, at5 _ _ _ _⟩, _, _, _, _, _, _,
          hn _ (fun q hnF hq n1 n2 => off _ _ _ _ q hq n1 n2 (by rintro rfl; exact hnF (by simp [wF]))) (atr _ _ _ _) (ats _ _ _ _) (fun a ha => by have := hF.len a ha; simp; omega)⟩ _ (by simp [go_sem, wT])
  . have h2 : ¬ (i : Int) < f.g.length := by omega
    obtain rfl : m = 0 := by omega
    simp only [gTab] at hG
    subst hG
    obtain ⟨⟨f0, f1, f2, f5⟩, κ0, κ1, κ2, κ3, κ4, κ5, hF⟩ := hI
    have L0 : L ≠ [] := by rintro rfl; simp at hL; omega
    have U0 : U ≠ [] := by rintro rfl; simp at hU; omega
    obtain ⟨ι, hD, hnd, hge⟩ := hF.all L0 U0
    obtain ⟨_, b0, e0, -, -⟩ := vw_get hF.d0
    obtain ⟨_, b1, e1, -, -⟩ := vw_get hF.d1
    obtain ⟨b2, _, _, e2, -, -, -⟩ := tb_get hF.d2 L0
    obtain ⟨b3, _, _, e3, -, -, -⟩ := tb_get hF.d3 U0
    subst e0; subst e1; subst e2; subst e3
    have c0 := cells_at f1
    simp only [Fv, Fcs, vw, tw] at c0
    have c5 := cells_at f5
    have c2 := cells_at f2
    have hlt2 := (List.getElem?_eq_some_iff.1 f2).1
    have q1 := fun x => put_lt (H := J) (x := x) hlt2
    have q2 := fun g sz es => cells_at (H := J.set 2 (some (Row.cells g sz es))) (j := 2) (List.getElem?_set_self hlt2)
    simp only [go_sem, wT, h2, vw, List.length_map, c0, c5, c2, q1, q2]
    exact ⟨ι, hD.set _ (fun h => hge 2 h (by simp [wF])), hnd, fun h => hge 0 h (by simp [wF]), by rw [List.getElem?_set_ne (by omega)]; exact f0⟩
end Go.Proofs
namespace Go.Proofs
open Go Go.Sx Go.Fam
attribute [local irreducible] Run
end Go.Proofs
namespace Go.Proofs
open Go Go.Sx Go.Fam
attribute [local irreducible] Run
theorem take_more {α : Type} {a b : List α} {i : Nat} {x y : α} (h : a.take i = b.take i) (ha : a[i]? = some x) (hb : b[i]? = some y) (e : x = y) : a.take (i + 1) = b.take (i + 1) := by
  rw [List.take_add_one, List.take_add_one, h, ha, hb, e]
theorem take_all {α : Type} {a b : List α} {i : Nat} (h : a.take i = b.take i) (hl : a.length = b.length) (hi : ¬ i < a.length) : a = b := by
  rwa [List.take_of_length_le (by omega), List.take_of_length_le (by omega)] at h
theorem ne_at {α : Type} {a b : List α} {i : Nat} {x y : α} (ha : a[i]? = some x) (hb : b[i]? = some y) (e : x ≠ y) : a ≠ b := by
  rintro rfl; rw [ha] at hb; exact e (Option.some.inj hb)
def smT (a b : List AVal) : List (Nat × AVal) := [(0, .view a), (1, .view b), (4, .bool false)]
theorem rsameInts_run (a b : List Int) (hl : a.length <= 9223372036854775807) : Ans Try.prog n_ref02_sameInts [vw a, vw b] [] (.bool (decide (a = b))) [] := by
  refine spec_run e_ref02_sameInts fun G => ?_
  by_cases c : a.length = b.length
  . have c' : (a.length : Int) = b.length := by omega
    simp only [go_sem, vw, List.length_map, c', beq_self_eq_true]
    refine loop_ind k_ref02_sameInts_r8.eq_1 (fun i : Nat => i <= a.length /\ a.take i = b.take i) (fun i => a.length - i)
      (fun i => (tsets 26 (smT (a.map (.int .i64)) (b.map (.int .i64)) ++ [(5, .int .i64 i)]), [])) 0 ⟨Nat.zero_le _, rfl⟩ (by simp [go_sem, smT]) rfl ?_
    rintro i ⟨hi, hE⟩ ih
    dsimp only at hi hE ih ⊢
    by_cases h1 : i < a.length
    . have h2 : (i : Int) < a.length := by omega
      have h2' : (i : Int) < b.length := by omega
      have m0 : ¬ (i : Int) < 0 := by omega
      have h3 := idx_next h1 hl
      have x1 := get_at h1
      have x2 := get_at (l := b) (i := i) (by omega)
      by_cases e : at1 a i = at1 b i
      . have e' : (at1 a i == at1 b i) = true := by simp [e]
        simp only [go_sem, smT, h2, h2', List.length_map, m0, x1, x2, Int.toNat_natCast, e, h3, e', c', beq_self_eq_true]
        exact ih (i + 1) (by omega) ⟨h1, take_more hE x1 x2 e⟩ _ (by simp [go_sem, smT])
      . have e' : (at1 a i == at1 b i) = false := by simp [e]
        have : decide (a = b) = false := decide_eq_false (ne_at x1 x2 e)
        rw [this]
        simp only [go_sem, smT, h2, h2', List.length_map, m0, x1, x2, Int.toNat_natCast, e, e', c', beq_self_eq_true]
    . have h2 : ¬ (i : Int) < b.length := by omega
      have : decide (a = b) = true := decide_eq_true (take_all hE c h1)
      rw [this]
      simp only [go_sem, smT, h2, List.length_map, c']
  . have c' : ¬ (a.length : Int) = b.length := by omega
    have c2 : ((a.length : Int) == b.length) = false := by simp; exact c'
    have : decide (a = b) = false := decide_eq_false fun h => c (by rw [h])
    rw [this]
    simp only [go_sem, vw, List.length_map, c', c2]
theorem rsameTable_run (a b : List (List Int)) (hl : a.length <= 1000000) (hr : ∀ r ∈ a, r.length <= 9223372036854775807) : Ans Try.prog n_ref02_sameTable [tw a, tw b] [] (.bool (decide (a = b))) [] := by
  refine spec_run e_ref02_sameTable fun G => ?_
  by_cases c : a.length = b.length
  . have c' : (a.length : Int) = b.length := by omega
    simp only [go_sem, tw, List.length_map, c', beq_self_eq_true]
    refine loop_ind k_ref02_sameTable_r8.eq_1 (fun i : Nat => i <= a.length /\ a.take i = b.take i) (fun i => a.length - i)
      (fun i => (tsets 27 (smT (a.map vw) (b.map vw) ++ [(5, .int .i64 i)]), [])) 0 ⟨Nat.zero_le _, rfl⟩ (by simp [go_sem, smT]) rfl ?_
    rintro i ⟨hi, hE⟩ ih
    dsimp only at hi hE ih ⊢
    by_cases h1 : i < a.length
    . have h2 : (i : Int) < a.length := by omega
      have h2' : (i : Int) < b.length := by omega
      have m0 : ¬ (i : Int) < 0 := by omega
      have h3 := idx_next h1 (by omega)
      obtain ⟨r, x1⟩ : ∃ r, a[i]? = some r := ⟨_, List.getElem?_eq_getElem h1⟩
      obtain ⟨s, x2⟩ : ∃ s, b[i]? = some s := ⟨_, List.getElem?_eq_getElem (by omega)⟩
      have k := rsameInts_run r s (hr r (List.mem_of_getElem? x1))
      simp only [vw] at k
      simp only [go_sem, smT, h2, h2', List.length_map, m0, x1, x2, Int.toNat_natCast, vw, c']
      refine cP k ?_
      by_cases e : r = s
      . rw [decide_eq_true e]
        simp only [go_sem, h3]
        exact ih (i + 1) (by omega) ⟨h1, take_more hE x1 x2 e⟩ _ (by simp [go_sem, smT])
      . have : decide (a = b) = false := decide_eq_false (ne_at x1 x2 e)
        rw [this, decide_eq_false e]
        simp only [go_sem]
    . have h2 : ¬ (i : Int) < b.length := by omega
      have : decide (a = b) = true := decide_eq_true (take_all hE c h1)
      rw [this]
      simp only [go_sem, smT, h2, List.length_map, c']
  . have c' : ¬ (a.length : Int) = b.length := by omega
    have c2 : ((a.length : Int) == b.length) = false := by simp; exact c'
    have : decide (a = b) = false := decide_eq_false fun h => c (by rw [h])
    rw [this]
    simp only [go_sem, tw, List.length_map, c', c2]
def FaS (f : Fa) : Prop := f.g.length <= 1000000 /\ f.p.length <= 1000000 /\ (f.lo.length <= 1000000 /\ ∀ r ∈ f.lo, r.length <= 9223372036854775807) /\ f.hi.length <= 1000000 /\ ∀ r ∈ f.hi, r.length <= 9223372036854775807
instance : DecidableEq Fa := fun a b => decidable_of_iff (a.g = b.g /\ a.p = b.p /\ a.lo = b.lo /\ a.hi = b.hi) ⟨fun ⟨h1, h2, h3, h4⟩ => by cases a; cases b; simp_all, by rintro rfl; exact ⟨rfl, rfl, rfl, rfl⟩⟩
theorem fa_eq (a b : Fa) : decide (a = b) = (decide (a.g = b.g) && (decide (a.p = b.p) && (decide (a.lo = b.lo) && decide (a.hi = b.hi)))) := by
  rw [Bool.eq_iff_iff]
  simp only [decide_eq_true_eq, Bool.and_eq_true]
  exact ⟨by rintro rfl; exact ⟨rfl, rfl, rfl, rfl⟩, fun ⟨h1, h2, h3, h4⟩ => by cases a; cases b; simp_all⟩
theorem rSame_run (a b : Fa) (h : FaS a) : Ans Try.prog n_ref02_Same [Fv a, Fv b] [] (.bool (decide (a = b))) [] := by
  obtain ⟨l1, l2, l3, l4⟩ := h
  have k1 := rsameInts_run a.g b.g (by omega)
  have k2 := rsameInts_run a.p b.p (by omega)
  have k3 := rsameTable_run a.lo b.lo l3.1 l3.2
  have k4 := rsameTable_run a.hi b.hi l4.1 l4.2
  rw [fa_eq]
  refine spec_run e_ref02_Same fun G => ?_
  simp only [go_sem, Fv, Fcs]
  refine cP k1 ?_
  by_cases c1 : a.g = b.g
  . rw [decide_eq_true c1]
    simp only [go_sem]
    refine cP k2 ?_
    by_cases c2 : a.p = b.p
    . rw [decide_eq_true c2]
      simp only [go_sem]
      refine cP k3 ?_
      by_cases c3 : a.lo = b.lo
      . rw [decide_eq_true c3]
        simp only [go_sem]
        refine cP k4 ?_
        simp only [go_sem]
      . rw [decide_eq_false c3]
        simp only [go_sem]
    . rw [decide_eq_false c2]
      simp only [go_sem]
  . rw [decide_eq_false c1]
    simp only [go_sem]
theorem rSame_none : Ans Try.prog n_ref02_Same [.agg [.nilsl, .nilsl, .nilsl, .nilsl], .agg [.nilsl, .nilsl, .nilsl, .nilsl]] [] (.bool true) [] := by
  have z : Sx.lss [AVal.nilsl, AVal.nilsl] [AVal.view [], AVal.view []] := ⟨.inr ⟨rfl, rfl⟩, .inr ⟨rfl, rfl⟩, trivial⟩
  have k1 := (rsameInts_run [] [] (by simp)).lss z
  have k2 := (rsameTable_run [] [] (by simp) (by simp)).lss z
  rw [decide_eq_true rfl] at k1 k2
  refine spec_run e_ref02_Same fun G => ?_
  simp only [go_sem]
  refine cP k1 ?_
  simp only [go_sem]
  refine cP k1 ?_
  simp only [go_sem]
  refine cP k2 ?_
  simp only [go_sem]
  refine cP k2 ?_
  simp only [go_sem]
end Go.Proofs
namespace Go.Sx
open Go
end Go.Sx
namespace Go.Proofs
open Go Go.Sx Go.Fam
section
variable {F : Nat -> Prop} {J J' : Heap} {g p : List Int} {L U : List (List Int)} {lo hi : List Int} {v0 v1 v2 v3 v4 v5 : AVal} {κ0 κ1 κ2 κ3 κ4 κ5 : List Nat}
end
end Go.Proofs
namespace Go.Proofs
open Go Go.Sx Go.Fam
attribute [local irreducible] Run
theorem copied_run (l : List Int) (hl : l.length <= 1000000) (h0 : l ≠ []) : Ans Try.prog n_curve_copied [vw l] [] (.sl 0 0 l.length) [some (.cells true 1 (l.map (.int .i64)))] := by
  have h8 : l.length * 8 <= 2 ^ 44 := by omega
  have h1 : ¬ l = [] := h0
  refine spec_run e_curve_copied fun G => ?_
  simp only [go_sem, vw, List.length_map, h8, h1]
  simp [h1]
end Go.Proofs
namespace Go.Proofs
open Go Go.Sx Go.Fam
attribute [local irreducible] Run
structure AcH (f : Fa) (J : Heap) (v0 v1 v2 v3 : AVal) : Prop where
  r0 : J[0]? = some (some (.cells false 4 [Fv f]))
  r1 : J[1]? = some (some (.cells false 4 [.agg [.nilsl, .nilsl, .nilsl, .nilsl]]))
  r4 : J[4]? = some (some (.cells false 4 [.agg [v0, v1, v2, v3]]))
theorem AcH.mono {f : Fa} {J J' : Heap} {v0 v1 v2 v3 : AVal} (h : AcH f J v0 v1 v2 v3) (hJ : ∀ q, oF q -> q < J.length -> J'[q]? = J[q]?) : AcH f J' v0 v1 v2 v3 :=
  ⟨by rw [hJ 0 (by simp [oF]) (List.getElem?_eq_some_iff.1 h.r0).1]; exact h.r0, by rw [hJ 1 (by simp [oF]) (List.getElem?_eq_some_iff.1 h.r1).1]; exact h.r1, by rw [hJ 4 (by simp [oF]) (List.getElem?_eq_some_iff.1 h.r4).1]; exact h.r4⟩
end Go.Proofs
namespace Go.Proofs
open Go Go.Sx Go.Fam
attribute [local irreducible] Run
end Go.Proofs
namespace Go.Proofs
open Go Go.Sx
theorem awake_yes : yes (exFn tab 3000 40 n_law02_awake [] []) = true := by kernel_rfl
theorem awake_ok : Ans Try.prog n_law02_awake [] [] (.bool true) [] := yes_ans mixed tab_ok awake_yes
end Go.Proofs
namespace Go.Proofs
open Go Go.Sx Go.Fam
attribute [local irreducible] Run
def lngB (t : List (List Int)) : Bool := t.any fun r => decide (50 < r.length)
theorem long_run (t : List (List Int)) (ht : t.length <= 1000000) : Ans Try.prog n_law02_long [tw t] [] (.bool (lngB t)) [] := by
  refine spec_run e_law02_long fun G => ?_
  simp only [go_sem, tw]
  refine loop_ind k_law02_long_r6.eq_1 (fun i : Nat => i <= t.length /\ lngB (t.drop i) = lngB t) (fun i => t.length - i)
    (fun i => (tsets 16 [(0, .view (t.map vw)), (2, .bool false), (3, .int .i64 i)], [])) 0 ⟨Nat.zero_le _, rfl⟩ (by simp [go_sem]) rfl ?_
  rintro i ⟨hi, hE⟩ ih
  by_cases h1 : i < t.length
  . have h2 : (i : Int) < t.length := by omega
    have m0 : ¬ (i : Int) < 0 := by omega
    have h3 := idx_next h1 (by omega)
    obtain ⟨r, hr⟩ : ∃ r, t[i]? = some r := ⟨_, List.getElem?_eq_getElem h1⟩
    have hd : t.drop i = r :: t.drop (i + 1) := by rw [List.drop_eq_getElem_cons h1]; congr 1; rw [List.getElem?_eq_getElem h1] at hr; simpa using hr
    rw [hd] at hE
    by_cases c : (r.length : Int) > 50
    . have : lngB t = true := by rw [<- hE]; unfold lngB; rw [List.any_cons, decide_eq_true (by omega)]; rfl
      rw [this]
      simp only [go_sem, h2, List.length_map, m0, hr, Int.toNat_natCast, vw, c]
    . have : lngB (t.drop (i + 1)) = lngB t := by rw [<- hE]; unfold lngB; rw [List.any_cons, decide_eq_false (by omega)]; rfl
      simp only [go_sem, h2, List.length_map, m0, hr, Int.toNat_natCast, vw, c, h3]
      exact ih (i + 1) (by omega) ⟨h1, this⟩ _ (by simp [go_sem])
  . have h2 : ¬ (i : Int) < t.length := by omega
    have : lngB t = false := by rw [<- hE, List.drop_of_length_le (by omega)]; rfl
    rw [this]
    simp only [go_sem, h2, List.length_map]
def lrgB (f : Fa) : Bool := if 50 < f.lo.length ∨ 50 < f.hi.length ∨ lngB [f.g, f.p] = true then true else (lngB f.lo || lngB f.hi)
theorem large_run (f : Fa) : Ans Try.prog n_law02_large [Fv f] [] (.bool (lrgB f)) [] := by
  obtain ⟨b, hb⟩ : ∃ b, lrgB f = b := ⟨_, rfl⟩
  rw [hb]
  unfold lrgB at hb
  refine spec_run e_law02_large fun G => ?_
  by_cases c1 : (f.lo.length : Int) > 50
  . rw [if_pos (.inl (by omega))] at hb
    rw [<- hb]
    simp only [go_sem, Fv, Fcs, tw, List.length_map, c1]
  . by_cases c2 : (f.hi.length : Int) > 50
    . rw [if_pos (.inr (.inl (by omega)))] at hb
      rw [<- hb]
      simp only [go_sem, Fv, Fcs, tw, List.length_map, c1, c2]
    . have k1 := long_run [f.g, f.p] (by simp)
      have k2 := long_run f.lo (by omega)
      have k3 := long_run f.hi (by omega)
      simp only [tw] at k2 k3
      simp only [go_sem, Fv, Fcs, tw, vw, List.length_map, c1, c2]
      refine cF k1 6 ⟨.inl ?_, trivial⟩ ?_
      . simp [frz, Heap.cellsAt, tw, vw, Function.comp_def]
      . by_cases c3 : lngB [f.g, f.p] = true
        . rw [if_pos (.inr (.inr c3))] at hb
          rw [<- hb, c3]
          simp only [go_sem]
        . rw [if_neg (fun h => h.elim (fun h => c1 (by omega)) (fun h => h.elim (fun h => c2 (by omega)) c3))] at hb
          rw [Bool.not_eq_true] at c3
          rw [c3]
          simp only [go_sem]
          refine cP k2 ?_
          by_cases c4 : lngB f.lo = true
          . rw [c4] at hb ⊢
            rw [<- hb]
            simp only [go_sem]
          . rw [Bool.not_eq_true] at c4
            rw [c4] at hb ⊢
            simp only [go_sem]
            refine cP k3 ?_
            rw [<- hb]
            simp only [go_sem]
end Go.Proofs
namespace Go.Proofs
open Go Go.Sx Go.Fam
attribute [local irreducible] Run
@[go_sem] theorem upFrom_contains (k n r : Nat) : (upFrom k n).contains r = decide (k <= r /\ r < k + n) := by
  rw [Bool.eq_iff_iff]; simp [upFrom_mem]
@[go_sem] theorem disj_up (k n : Nat) (l : List Nat) : disj (upFrom k n) l = l.all fun r => !decide (k <= r /\ r < k + n) := by
  unfold disj
  rw [Bool.eq_iff_iff]
  simp only [List.all_eq_true, upFrom_mem, Bool.not_eq_true', List.contains_eq_mem, decide_eq_false_iff_not]
  exact ⟨fun h r hr hk => h r hk hr, fun h r hk hr => h r hr hk⟩
@[go_sem] theorem dr_nv (w : Int) : (Dr w).nv = True := eq_true (by unfold Dr; exact row_nv_cells _ _ ⟨.agg _ (by intro i hi; simp at hi; subst hi; exact .int _ _), trivial⟩)
theorem lrg_no {f : Fa} (h : lrgB f = false) : f.g.length <= 50 /\ f.p.length <= 50 /\ f.lo.length <= 50 /\ f.hi.length <= 50 := by
  unfold lrgB at h
  by_cases c : 50 < f.lo.length ∨ 50 < f.hi.length ∨ lngB [f.g, f.p] = true
  . rw [if_pos c] at h; cases h
  . have c3 : ¬ lngB [f.g, f.p] = true := fun h => c (.inr (.inr h))
    have : lngB [f.g, f.p] = (decide (50 < f.g.length) || (decide (50 < f.p.length) || false)) := rfl
    rw [this] at c3
    simp at c3
    omega
end Go.Proofs
namespace Go.Proofs
open Go Go.Sx Go.Fam
attribute [local irreducible] Run
end Go.Proofs
namespace Go.Proofs
open Go Go.Sx Go.Fam
theorem at_struct {P : Program} {n : Nat} {t : TypeId} {fs : Array Field} (hu : P.underlying t = some (.struct fs)) {vs : List AVal} (h : AT P (n + 1) t vs) : ATs (AT P n) fs.toList vs := by
  unfold AT at h; rw [hu] at h; exact h
theorem at_int {P : Program} {n : Nat} {t : TypeId} {k : IntKind} (hu : P.underlying t = some (.int k)) {vs : List AVal} (h : AT P (n + 1) t vs) : ∃ m, vs = [.int k m] /\ (Lit.int k m).wf = true := by
  unfold AT at h; rw [hu] at h; exact h
theorem at_slice {P : Program} {n : Nat} {t e : TypeId} (hu : P.underlying t = some (.slice e)) {vs : List AVal} (h : AT P (n + 1) t vs) : ∃ es, vs = [.view es] /\ es.length <= maxLen /\ ∀ x ∈ es, if aggT P e = true then ∃ ws, x = .agg ws /\ AT P n e ws else AT P n e [x] := by
  unfold AT at h; rw [hu] at h; exact h
theorem list_mapQ {α β : Type} {f : α -> β} {Q : α -> Prop} : ∀ l : List β, (∀ x ∈ l, ∃ a, x = f a /\ Q a) -> ∃ l' : List α, l = l'.map f /\ ∀ a ∈ l', Q a
  | [], _ => ⟨[], rfl, fun a ha => by simp at ha⟩
  | x :: l, h => by
    obtain ⟨a, rfl, ha⟩ := h x (by simp)
    obtain ⟨l', rfl, h'⟩ := list_mapQ l fun y hy => h y (by simp [hy])
    exact ⟨a :: l', rfl, fun b hb => by
      rcases List.mem_cons.1 hb with rfl | hb
      . exact ha
      . exact h' b hb⟩
attribute [local irreducible] AT
set_option maxRecDepth 100000
theorem atn_int {n : Nat} {vs : List AVal} (h : AT Try.prog (n + 1) 3 vs) : ∃ m, vs = [.int .i64 m] /\ (Lit.int .i64 m).wf = true := at_int Try.underlying3 h
theorem at_ints {n : Nat} {x : AVal} (h : AT Try.prog (n + 2) 26 [x]) : ∃ l : List Int, x = vw l /\ l.length <= 9223372036854775807 := by
  obtain ⟨es, h1, hl, he⟩ := at_slice Try.underlying26 h
  obtain rfl : x = .view es := by simpa using h1
  have hg : ¬ aggT Try.prog 3 = true := by unfold aggT; rw [Try.underlying3]; decide
  obtain ⟨l, rfl, -⟩ := list_mapQ (f := AVal.int .i64) (Q := fun _ => True) es fun x hx => by
    have := he x hx
    rw [if_neg hg] at this
    obtain ⟨m, hm, -⟩ := atn_int this
    exact ⟨m, by simpa using hm, trivial⟩
  have hm : maxLen = 9223372036854775807 := rfl
  rw [hm] at hl
  exact ⟨l, rfl, by simpa using hl⟩
theorem at_tab {n : Nat} {x : AVal} (h : AT Try.prog (n + 3) 40 [x]) : ∃ l : List (List Int), x = tw l /\ l.length <= 9223372036854775807 /\ ∀ r ∈ l, r.length <= 9223372036854775807 := by
  obtain ⟨es, h1, hl, he⟩ := at_slice Try.underlying40 h
  obtain rfl : x = .view es := by simpa using h1
  have hg : ¬ aggT Try.prog 26 = true := by unfold aggT; rw [Try.underlying26]; decide
  obtain ⟨l, rfl, hq⟩ := list_mapQ (f := vw) (Q := fun r : List Int => r.length <= 9223372036854775807) es fun x hx => by
    have := he x hx
    rw [if_neg hg] at this
    obtain ⟨m, hm, hl⟩ := at_ints this
    exact ⟨m, hm, hl⟩
  have hm : maxLen = 9223372036854775807 := rfl
  rw [hm] at hl
  exact ⟨l, rfl, by simpa using hl, hq⟩
structure FaL (f : Fa) : Prop where
  g : f.g.length <= 9223372036854775807
  p : f.p.length <= 9223372036854775807
  lo : f.lo.length <= 9223372036854775807 /\ ∀ r ∈ f.lo, r.length <= 9223372036854775807
  hi : f.hi.length <= 9223372036854775807 /\ ∀ r ∈ f.hi, r.length <= 9223372036854775807
theorem at_family {n : Nat} {ws : List AVal} (h : AT Try.prog (n + 4) 42 ws) : ∃ f : Fa, .agg ws = Fv f /\ FaL f := by
  obtain ⟨a, _, rfl, ha, b, _, rfl, hb, c, _, rfl, hc, d, _, rfl, hd, rfl⟩ := at_struct Try.underlying42 h
  obtain ⟨x, rfl, -⟩ := at_slice Try.underlying26 ha
  obtain ⟨y, rfl, -⟩ := at_slice Try.underlying26 hb
  obtain ⟨z, rfl, -⟩ := at_slice Try.underlying40 hc
  obtain ⟨w, rfl, -⟩ := at_slice Try.underlying40 hd
  obtain ⟨l1, h1, q1⟩ := at_ints ha
  obtain ⟨l2, h2, q2⟩ := at_ints hb
  obtain ⟨l3, h3, q3⟩ := at_tab hc
  obtain ⟨l4, h4, q4⟩ := at_tab hd
  exact ⟨⟨l1, l2, l3, l4⟩, by rw [List.cons_append, h1, List.cons_append, h2, List.cons_append, h3, List.cons_append, h4]; rfl, q1, q2, q3, q4⟩
end Go.Proofs
namespace Go.Proofs
open Go Go.Sx Go.Fam
attribute [local irreducible] Run
end Go.Proofs
namespace Go.Proofs
open Go Go.Sx Go.Fam
attribute [local irreducible] Run
theorem WithinFamily_run {f : Fa} (hf : FaOK f) (hn : FaNE f) (b : Bool) (w : Int) : Ans Try.prog n_kit_WithinFamily [.ptr 0 0 0 1, Fv f, .bool b] [some (Dr w)] (thaw 6 1 (Fv (wnF f b w))).1 (some (Dr (wnT f b w).w) :: (thaw 6 1 (Fv (wnF f b w))).2) :=
  ans_dat (wnF_ne hf hn b w).pure (dr_bel _ _) (by cases b; exact within_false hf w; exact within_true hf w)
end Go.Proofs
