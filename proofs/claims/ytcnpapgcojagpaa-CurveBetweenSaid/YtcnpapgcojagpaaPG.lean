/- A part of the proof. -/
import Derived.Test.YtcnpapgcojagpaaPF
set_option linter.unusedSimpArgs false
set_option linter.unusedVariables false
namespace Go.Proofs
open Go Go.Sx Go.Fam
attribute [local irreducible] Run

set_option maxHeartbeats 16000000 in
set_option maxRecDepth 20000 in
theorem within_false {f : Fa} (hf : FaOK f) (w0 : Int) : Go.Sx.Fn Try.prog n_kit_WithinFamily [.ptr 0 0 0 1, Fv f, .bool false] [some (Dr w0)] fun v H' => ∃ ι, Dat 6 H' ι v (Fv (wnF f false w0)) ∧ ι.Nodup ∧ 0 ∉ ι ∧ H'[0]? = some (some (Dr (wnT f false w0).w)) := by
  obtain ⟨tL, tH, sL, sH⟩ := hf.tabs
  have g0 : f.g ≠ [] := by have := hf.g.pos; intro e; rw [e] at this; simp at this
  have p0 : f.p ≠ [] := by have := hf.p.pos; intro e; rw [e] at this; simp at this
  have gl0 := hf.g.pos
  have pl0 := hf.p.pos
  have gm := hf.g.most
  have pm := hf.p.most
  have o1 := Own_run f.g (by omega)
  have o2 := Own_run f.p (by omega)
  simp only [vw] at o1 o2
  refine run_fn e_kit_WithinFamily fun G => ?_
  simp only [go_sem, Fv, Fcs, tw, vw]
  refine dFN o1 6 [] ?_ ?_
  · exact ⟨.inl (by simp [frz, Function.comp_def]), trivial⟩
  simp only [go_sem, ren]
  refine dFN o2 6 [] ?_ ?_
  · exact ⟨.inl (by simp [frz, Function.comp_def]), trivial⟩
  simp only [go_sem, ren]
  obtain ⟨T, hT⟩ : ∃ T, wnT f false w0 = T := ⟨_, rfl⟩
  have hw : wnF f false w0 = ⟨f.g, f.p, T.lo, T.hi⟩ := by unfold wnF; rw [hT]
  rw [hw, hT]
  have hI0 : WnI f [some (Dr w0), some (.cells false 4 [Fv f]), some (.cells false 4 [.agg [.nilsl, .nilsl, .nilsl, .nilsl]]), some (.cells true 1 (ivL f.g)), some (.cells true 1 (ivL f.p)), some (.cells false 4 [.agg [.sl 3 0 f.g.length, .sl 4 0 f.p.length, .nilsl, .nilsl]])] w0 [] [] [] []
      (.sl 3 0 f.g.length) (.sl 4 0 f.p.length) .nilsl .nilsl .nilsl .nilsl := by
    refine ⟨⟨rfl, rfl, rfl, rfl⟩, [3], [4], [], [], [], [], fun a ha => by unfold wF at ha; simp; omega, vw_put g0 rfl rfl, vw_put p0 rfl rfl, ⟨rfl, rfl, rfl⟩, ⟨rfl, rfl, rfl⟩, ⟨rfl, rfl, rfl⟩, ⟨rfl, rfl, rfl⟩, fun a => ?_, fun a ha => ?_⟩
    · simp only [List.count_cons, List.count_nil, beq_iff_eq]
      split <;> split <;> omega
    · unfold wF at ha
      simp only [List.count_cons, List.count_nil, beq_iff_eq]
      rw [if_neg (by omega), if_neg (by omega)]
  refine loop_ind k_kit_WithinFamily_r24.eq_1 (fun a : Nat × Int × Heap × List (List Int) × List (List Int) × AVal × AVal × AVal × AVal => ∃ m, f.g.length = a.1 + m ∧ gTab (wcell f false) f.p.length m a.2.1 a.2.2.2.1 a.2.2.2.2.1 = T ∧ a.2.2.2.1.length = a.1 ∧ TabI (wnE f false) f.p.length a.2.2.2.1 a.2.2.2.2.1 ∧
      WnI f a.2.2.1 a.2.1 a.2.2.2.1 a.2.2.2.2.1 [] [] a.2.2.2.2.2.1 a.2.2.2.2.2.2.1 a.2.2.2.2.2.2.2.1 a.2.2.2.2.2.2.2.2 .nilsl .nilsl) (fun a => f.g.length - a.1)
    (fun a => (tsets 132 (wT false ++ [(8, .int .i64 a.1)]), a.2.2.1)) (0, w0, _, [], [], .sl 3 0 f.g.length, .sl 4 0 f.p.length, .nilsl, .nilsl) ⟨f.g.length, by simp, hT, rfl, tab0, hI0⟩ (by simp [go_sem, wT]) (by simp [Fv, Fcs, tw, vw]) ?_
  rintro ⟨i, w, J, L, U, v0, v1, v2, v3⟩ ⟨m, hm, hG, hL, hTab, hI⟩ ih
  dsimp only at hm hG hL hTab hI ih ⊢
  have hU : U.length = i := by rw [hTab.len, hL]
  by_cases h1 : i < f.g.length
  · have h2 : (i : Int) < f.g.length := by omega
    have m0 : ¬ (i : Int) < 0 := by omega
    have h3 := idx_next h1 (by omega)
    obtain ⟨m, rfl⟩ : ∃ n, m = n + 1 := ⟨m - 1, by omega⟩
    obtain ⟨Ur, hUr⟩ : ∃ Ur, lastOf L U = Ur := ⟨_, rfl⟩
    simp only [gTab, hUr] at hG
    obtain ⟨R, hR⟩ : ∃ R, gRow (wcell f false i) Ur f.p.length w [] [] = R := ⟨_, rfl⟩
    rw [hL, hR] at hG
    have hUE : ∀ j q, j < f.p.length → upOf Ur j = some q → ∃ i', i = i' + 1 ∧ wnE f false i' j q := fun j q hj hq => by
      rw [← hUr] at hq
      unfold lastOf upOf at hq
      split at hq
      · cases hq
      · cases hq
        have := hTab.e (L.length - 1) j (by omega) hj
        rw [show U.getD (L.length - 1) [] = U.getD (L.length - 1) [] from rfl] 
        exact ⟨L.length - 1, by omega, this⟩
    have hc := wcell_ok hf false
    obtain ⟨rl, hrl', ll⟩ := tL.row i h1
    obtain ⟨rh, hrh', lh⟩ := tH.row i h1
    have c0 := cells_at hI.1.r1
    simp only [Fv, Fcs, vw, tw] at c0
    simp only [go_sem, wT, h2, c0, List.length_map]
    refine loop_ind k_kit_WithinFamily_r21.eq_1 (fun a : Nat × Int × Heap × List Int × List Int × AVal × AVal => ∃ m, f.p.length = a.1 + m ∧ gRow (wcell f false i) Ur m a.2.1 a.2.2.2.1 a.2.2.2.2.1 = R ∧ a.2.2.2.1.length = a.1 ∧ RowI (wnE f false) i Ur a.2.2.2.1 a.2.2.2.2.1 ∧
        WnI f a.2.2.1 a.2.1 L U a.2.2.2.1 a.2.2.2.2.1 v0 v1 v2 v3 a.2.2.2.2.2.1 a.2.2.2.2.2.2) (fun a => f.p.length - a.1)
      (fun a => (tsets 132 (wT false ++ [(8, .int .i64 i), (9, a.2.2.2.2.2.1), (10, a.2.2.2.2.2.2), (11, .int .i64 a.1)]), a.2.2.1)) (0, w, J, [], [], .nilsl, .nilsl) ⟨f.p.length, by simp, hR, rfl, ⟨rfl, by simp, by simp, by simp⟩, hI⟩ (by simp [go_sem, wT]) rfl ?_
    rintro ⟨k, w, J, lo, hi, v4, v5⟩ ⟨n, hn, hRg, hlo, hRow, hR'⟩ ihk
    clear hI
    dsimp only at hn hRg hlo hRow hR' ihk ⊢
    obtain ⟨hH, κ0, κ1, κ2, κ3, κ4, κ5, hF⟩ := hR'
    obtain ⟨f0, f1, f2, f5⟩ := hH
    have hhi : hi.length = k := by rw [hRow.len, hlo]
    have c0 := cells_at f1
    simp only [Fv, Fcs, vw, tw] at c0
    by_cases j1 : k < f.p.length
    · have j2 : (k : Int) < f.p.length := by omega
      have m1 : ¬ (k : Int) < 0 := by omega
      have j3 := idx_next j1 (by omega)
      obtain ⟨n, rfl⟩ : ∃ q, n = q + 1 := ⟨n - 1, by omega⟩
      simp only [gRow, hlo] at hRg
      have y1 := get_at (l := rl) (i := k) (by omega)
      have y2 := get_at (l := rh) (i := k) (by omega)
      rw [← tg_get hrl'] at y1
      rw [← tg_get hrh'] at y2
      have hk0 := hf.inn i k h1 j1
      have hcell := hc.ok i k w (upOf Ur k) (prevOf lo hi) h1 j1 (fun q hq => hUE k q j1 hq) (fun q hq => by
        unfold prevOf at hq
        split at hq
        · cases hq
        · cases hq
          exact ⟨lo.length - 1, by omega, hRow.e _ (by omega)⟩)
      have hrow' := hRow.snoc (by rw [hlo]; exact hcell.1) (by rw [hlo]; exact hcell.2.1) hcell.2.2
      have ihn := fun J' v4' v5' hh => ihk (k + 1, (wcell f false i k w (upOf Ur k) (prevOf lo hi)).w, J', lo ++ [(wcell f false i k w (upOf Ur k) (prevOf lo hi)).lo], hi ++ [(wcell f false i k w (upOf Ur k) (prevOf lo hi)).hi], v4', v5') (by omega) ⟨n, by omega, hRg, by simp; omega, hrow', hh⟩
      clear ihk hRg hrow'
      dsimp only at ihn
      have kb := between_ok w (tg f.lo i k) (tg f.hi i k) (by omega) (by omega) (by omega)
      have bi := btw_in (w := w) (lo := tg f.lo i k) (hi := tg f.hi i k) (by omega)
      obtain ⟨A, hA⟩ : ∃ x, btw w (tg f.lo i k) (tg f.hi i k) = x := ⟨_, rfl⟩
      obtain ⟨wA, hwA⟩ : ∃ x, dstep w = x := ⟨_, rfl⟩
      rw [hA, hwA] at kb
      rw [hA] at bi
      have z5 := hF.len 5 (by simp [wF])
      have l0 := (List.getElem?_eq_some_iff.1 f0).1
      have hset : ∀ X : Row, (J.set 0 (some X))[0]? = some (some X) := fun X => List.getElem?_set_self l0
      have off : ∀ {j : Nat} {g : Bool} {sz : Nat} {es : List AVal}, J[j]? = some (some (.cells g sz es)) → j ≠ 0 → ∀ X, Heap.cellsAt (J.set 0 X) j = some (g, sz, es) := fun h hj X => cells_at (by rw [List.getElem?_set_ne (fun e => hj e.symm)]; exact h)
      have hF2 : ∀ X, FS wF (J.set 0 X) f.g f.p L U lo hi v0 v1 v2 v3 v4 v5 κ0 κ1 κ2 κ3 κ4 κ5 := fun X => hF.fix (fun q hq => List.getElem?_set_ne (fun e => hq (by simp [wF, ← e]))) (fun a ha => by have := hF.len a ha; simpa using this)
      have hlen : ∀ X, (J.set 0 X).length = J.length := fun X => List.length_set
      have o1 : ∀ X, Heap.cellsAt (J.set 0 X) 1 = _ := fun X => off f1 (by decide) X
      simp only [Fv, Fcs, vw, tw] at o1
      have o5 : ∀ X, Heap.cellsAt (J.set 0 X) 5 = _ := fun X => off f5 (by decide) X
      by_cases i0 : i = 0
      · skip
        have k1 : ¬ (i : Int) > 0 := by omega
        have hU0 : Ur = none := by rw [← hUr]; unfold lastOf; rw [if_pos (by omega)]
        have eu : upOf Ur k = none := by rw [hU0]; rfl
        rw [eu] at ihn hcell
        by_cases k0 : k = 0
        · skip
          have k2 : ¬ (k : Int) > 0 := by omega
          have : lo = [] := List.length_eq_zero_iff.1 (by omega)
          subst this
          have : hi = [] := List.length_eq_zero_iff.1 (by omega)
          subst this
          have ep : prevOf [] [] = none := rfl
          rw [ep] at ihn hcell
          obtain ⟨e4, e5, -⟩ := hF.first
          subst e4; subst e5
          obtain ⟨C, hC⟩ : ∃ x, A = x := ⟨_, rfl⟩
          have hAC : Go.Proofs.wA f i k w (none) (none) = C := by subst hC; subst hA; rfl
          have hce : (wcell f false i k w (none) (none)).lo = C := hAC
          have CZ : C ≤ tg f.hi i k ∧ 0 ≤ C := by have h := hcell.1; rw [hce] at h; unfold wnE at h; omega
          have kc := between_ok wA C (tg f.hi i k) (by omega) (by omega) (by omega)
          obtain ⟨B, hB⟩ : ∃ x, btw wA C (tg f.hi i k) = x := ⟨_, rfl⟩
          obtain ⟨wB', hwB⟩ : ∃ x, dstep wA = x := ⟨_, rfl⟩
          rw [hB, hwB] at kc
          have ec : wcell f false i k w (none) (none) = ⟨C, B, wB'⟩ := by subst hB; subst hwB; subst hC; subst hA; subst hwA; rfl
          rw [ec] at ihn
          dsimp only at ihn
          obtain ⟨D, hDD⟩ : ∃ x, B = x := ⟨_, rfl⟩
          rw [hDD] at ihn
          subst hC; subst hDD
          clear hcell hRow hUE hc
          simp only [go_sem, wT, j2, vw, List.length_map, m0, m1, hrl', hrh', y1, y2, Int.toNat_natCast, c0]
          refine cD kb ?_ (hj := f0) (hk := by omega)
          simp only [go_sem, List.set_set, e_mx, k1, k2, j3, Int.toNat_natCast, o1, o5, List.length_map, vw, m0, m1, hrh', y2]
          refine cD kc ?_ (hj := hset _) (hk := by rw [hlen]; omega)
          simp only [go_sem, List.set_set, e_mx, k1, k2, j3, Int.toNat_natCast, o1, o5, List.length_map, vw, m0, m1, hrh', y2]
          refine ⟨by decide, by decide, ?_⟩
          exact ihn _ _ _ ⟨WnH.mono ⟨f0, f1, f2, f5⟩ (by rw [List.getElem?_append_left (by rw [hlen]; omega)]; exact hset _) (fun q hq q0 hl => by rw [List.getElem?_append_left (by rw [hlen]; exact hl), List.getElem?_set_ne (fun e => q0 e.symm)]), _, _, _, _, _, _,
            (hF2 (Dr wB')).first.2.2 _ ((J.set 0 (some (Dr wB'))).length + 1) ((J.set 0 (some (Dr wB'))).length + 3) A B (by omega) (by omega) (by omega) (fun q _ hq => List.getElem?_append_left hq) (by rw [get_new rfl]; rfl) (by rw [get_new rfl]; rfl)⟩ _ (by simp [go_sem, wT])
        · skip
          have k2 : (k : Int) > 0 := by omega
          obtain ⟨j, rfl⟩ : ∃ j, k = j + 1 := ⟨k - 1, by omega⟩
          have lo0 : lo ≠ [] := by rintro rfl; simp at hlo
          have hi0 : hi ≠ [] := by rintro rfl; simp at hhi
          have l1 := get_at (l := lo) (i := j) (by omega)
          have l2 := get_at (l := hi) (i := j) (by omega)
          have ep : prevOf lo hi = some (at1 lo j, at1 hi j) := by unfold prevOf; rw [if_neg (by omega), hlo, Nat.add_sub_cancel]
          rw [ep] at ihn hcell
          obtain ⟨p1, hp1⟩ : ∃ x, at1 lo j = x := ⟨_, rfl⟩
          obtain ⟨p2, hp2⟩ : ∃ x, at1 hi j = x := ⟨_, rfl⟩
          rw [hp1] at l1 ihn hcell
          rw [hp2] at l2 ihn hcell
          have x4 : IntKind.i64.wrap (((j + 1 : Nat) : Int) - 1) = j := by rw [w64 (by omega)]; omega
          have n4 : ¬ (j : Int) < 0 := by omega
          have y3 : (j : Int) < lo.length := by omega
          have y4 : (j : Int) < hi.length := by omega
          have z3 : (lo.length + 1) * 8 ≤ 2 ^ 44 := by omega
          have z4 : (hi.length + 1) * 8 ≤ 2 ^ 44 := by omega
          obtain ⟨r, s, e4, e5, hrs, hr, hs, g4, g5, -⟩ := hF.next lo0 hi0
          have r0 : r ≠ 0 := by rintro rfl; exact hr (by simp [wF])
          have s0 : s ≠ 0 := by rintro rfl; exact hs (by simp [wF])
          have d1 := off g4 r0
          have d2 := off g5 s0
          have hrl := (List.getElem?_eq_some_iff.1 g4).1
          have hsl := (List.getElem?_eq_some_iff.1 g5).1
          have q1 := fun X Y => cells_more (d1 X) Y
          have q2 := fun X Y x => put_more (H := J.set 0 X) (j := r) (by rw [List.length_set]; exact hrl) Y x
          have q3 := fun X x Y => cells_more (H := (J.set 0 X).set r x) (j := s) (cells_at (by rw [List.getElem?_set_ne hrs, List.getElem?_set_ne (fun e => s0 e.symm)]; exact g5)) Y
          have q4 := fun X z Y x => put_more (H := (J.set 0 X).set r z) (j := s) (by simpa using hsl) Y x
          obtain ⟨C, hC⟩ : ∃ x, mx A p1 = x := ⟨_, rfl⟩
          have hAC : Go.Proofs.wA f i (j + 1) w (none) (some (p1, p2)) = C := by subst hC; subst hA; rfl
          have hce : (wcell f false i (j + 1) w (none) (some (p1, p2))).lo = C := hAC
          have CZ : C ≤ tg f.hi i (j + 1) ∧ 0 ≤ C := by have h := hcell.1; rw [hce] at h; unfold wnE at h; omega
          have kc := between_ok wA C (tg f.hi i (j + 1)) (by omega) (by omega) (by omega)
          obtain ⟨B, hB⟩ : ∃ x, btw wA C (tg f.hi i (j + 1)) = x := ⟨_, rfl⟩
          obtain ⟨wB', hwB⟩ : ∃ x, dstep wA = x := ⟨_, rfl⟩
          rw [hB, hwB] at kc
          have ec : wcell f false i (j + 1) w (none) (some (p1, p2)) = ⟨C, mx B p2, wB'⟩ := by subst hB; subst hwB; subst hC; subst hA; subst hwA; rfl
          rw [ec] at ihn
          dsimp only at ihn
          obtain ⟨D, hDD⟩ : ∃ x, mx B p2 = x := ⟨_, rfl⟩
          rw [hDD] at ihn
          obtain ⟨r', s', e4', e5', -, -, -, -, -, hnn⟩ := (hF2 (Dr wB')).next lo0 hi0
          subst e4; subst e5
          obtain rfl : r = r' := by simpa using e4'
          obtain rfl : s = s' := by simpa using e5'
          clear hcell hRow hUE hc
          simp only [go_sem, wT, j2, vw, List.length_map, m0, m1, hrl', hrh', y1, y2, Int.toNat_natCast, c0]
          refine cD kb ?_ (hj := f0) (hk := by omega)
          simp only [go_sem, List.set_set, e_mx, k1, k2, j3, Int.toNat_natCast, o1, o5, List.length_map, vw, d1, d2, l1, l2, x4, n4, y3, y4, z3, z4, q1, q2, q3, q4, hC, hDD, m0, m1, hrh', y2]
          refine cD kc ?_ (hj := hset _) (hk := by rw [hlen]; omega)
          simp only [go_sem, List.set_set, e_mx, k1, k2, j3, Int.toNat_natCast, o1, o5, List.length_map, vw, d1, d2, l1, l2, x4, n4, y3, y4, z3, z4, q1, q2, q3, q4, hC, hDD, m0, m1, hrh', y2]
          have hrl' : r < (J.set 0 (some (Dr wB'))).length := by rw [hlen]; exact hrl
          have hsl' : s < (J.set 0 (some (Dr wB'))).length := by rw [hlen]; exact hsl
          have nF : ∀ q, wF q → q ≠ r ∧ q ≠ s := fun q hq => ⟨fun e => hr (by rw [← e]; exact hq), fun e => hs (by rw [← e]; exact hq)⟩
          exact ihn _ _ _ ⟨WnH.mono ⟨f0, f1, f2, f5⟩ (by rw [two_off (by rw [hlen]; omega) (nF 0 (by simp [wF])).1 (nF 0 (by simp [wF])).2]; exact hset _) (fun q hq q0 hl => by rw [two_off (by rw [hlen]; exact hl) (nF q hq).1 (nF q hq).2, List.getElem?_set_ne (fun e => q0 e.symm)]), _, _, _, _, _, _,
            hnn _ C D (fun q _ hl a b => two_off hl a b) (two_r hrl' hrs) (two_s hsl') (fun a ha => by have := hF.len a ha; simp; omega)⟩ _ (by simp [go_sem, wT])
      · skip
        have k1 : (i : Int) > 0 := by omega
        obtain ⟨i', rfl⟩ : ∃ q, i = q + 1 := ⟨i - 1, by omega⟩
        have L0 : L ≠ [] := by rintro rfl; simp at hL
        have U0 : U ≠ [] := by rintro rfl; simp at hU
        obtain ⟨ra, hra⟩ : ∃ x, L[i']? = some x := ⟨_, List.getElem?_eq_getElem (by omega)⟩
        obtain ⟨rb, hrb⟩ : ∃ x, U[i']? = some x := ⟨_, List.getElem?_eq_getElem (by omega)⟩
        have la := hTab.l ra (List.mem_of_getElem? hra)
        have lb := hTab.h rb (List.mem_of_getElem? hrb)
        have hU0 : Ur = some (ra, rb) := by
          rw [← hUr]; unfold lastOf; rw [if_neg (by omega), hL]
          simp only [Nat.add_sub_cancel]
          rw [List.getD_eq_getElem?_getD, List.getD_eq_getElem?_getD, hra, hrb]; rfl
        have eu : upOf Ur k = some (at1 ra k, at1 rb k) := by rw [hU0]; rfl
        rw [eu] at ihn hcell
        obtain ⟨tr, ts, vs, us, ta, tb, ev2, ev3, nr, ns, na, nb, gr, gs, lvs, lus, gva, gub, ga, gb⟩ := hF.read L0 U0 hra hrb
        have tr0 : tr ≠ 0 := by rintro rfl; exact nr (by simp [wF])
        have ts0 : ts ≠ 0 := by rintro rfl; exact ns (by simp [wF])
        have ta0 : ta ≠ 0 := by rintro rfl; exact na (by simp [wF])
        have tb0 : tb ≠ 0 := by rintro rfl; exact nb (by simp [wF])
        have t1 := off gr tr0
        have t2 := off gs ts0
        have t3 := off ga ta0
        have t4 := off gb tb0
        have l5 := get_at (l := ra) (i := k) (by omega)
        have l6 := get_at (l := rb) (i := k) (by omega)
        obtain ⟨Q1, hQ1⟩ : ∃ x, at1 ra k = x := ⟨_, rfl⟩
        obtain ⟨Q2, hQ2⟩ : ∃ x, at1 rb k = x := ⟨_, rfl⟩
        rw [hQ1] at l5 ihn hcell
        rw [hQ2] at l6 ihn hcell
        have x5 : IntKind.i64.wrap (((i' + 1 : Nat) : Int) - 1) = i' := by rw [w64 (by omega)]; omega
        have n5 : ¬ (i' : Int) < 0 := by omega
        have n6 : ¬ (k : Int) < 0 := by omega
        have y5 : (i' : Int) < L.length := by omega
        have y6 : (i' : Int) < U.length := by omega
        have y7 : (k : Int) < ra.length := by omega
        have y8 : (k : Int) < rb.length := by omega
        subst ev2; subst ev3
        by_cases k0 : k = 0
        · skip
          have k2 : ¬ (k : Int) > 0 := by omega
          have : lo = [] := List.length_eq_zero_iff.1 (by omega)
          subst this
          have : hi = [] := List.length_eq_zero_iff.1 (by omega)
          subst this
          have ep : prevOf [] [] = none := rfl
          rw [ep] at ihn hcell
          obtain ⟨e4, e5, -⟩ := hF.first
          subst e4; subst e5
          obtain ⟨C, hC⟩ : ∃ x, mx A Q1 = x := ⟨_, rfl⟩
          have hAC : Go.Proofs.wA f (i' + 1) k w (some (Q1, Q2)) (none) = C := by subst hC; subst hA; rfl
          have hce : (wcell f false (i' + 1) k w (some (Q1, Q2)) (none)).lo = C := hAC
          have CZ : C ≤ tg f.hi (i' + 1) k ∧ 0 ≤ C := by have h := hcell.1; rw [hce] at h; unfold wnE at h; omega
          have kc := between_ok wA C (tg f.hi (i' + 1) k) (by omega) (by omega) (by omega)
          obtain ⟨B, hB⟩ : ∃ x, btw wA C (tg f.hi (i' + 1) k) = x := ⟨_, rfl⟩
          obtain ⟨wB', hwB⟩ : ∃ x, dstep wA = x := ⟨_, rfl⟩
          rw [hB, hwB] at kc
          have ec : wcell f false (i' + 1) k w (some (Q1, Q2)) (none) = ⟨C, mx B Q2, wB'⟩ := by subst hB; subst hwB; subst hC; subst hA; subst hwA; rfl
          rw [ec] at ihn
          dsimp only at ihn
          obtain ⟨D, hDD⟩ : ∃ x, mx B Q2 = x := ⟨_, rfl⟩
          rw [hDD] at ihn
          clear hcell hRow hUE hc
          simp only [go_sem, wT, j2, vw, List.length_map, m0, m1, hrl', hrh', y1, y2, Int.toNat_natCast, c0]
          refine cD kb ?_ (hj := f0) (hk := by omega)
          simp only [go_sem, List.set_set, e_mx, k1, k2, j3, Int.toNat_natCast, o1, o5, List.length_map, vw, x5, n5, n6, y5, y6, y7, y8, gva, gub, lvs, lus, t1, t2, t3, t4, l5, l6, hC, hDD, m0, m1, hrh', y2]
          refine cD kc ?_ (hj := hset _) (hk := by rw [hlen]; omega)
          simp only [go_sem, List.set_set, e_mx, k1, k2, j3, Int.toNat_natCast, o1, o5, List.length_map, vw, x5, n5, n6, y5, y6, y7, y8, gva, gub, lvs, lus, t1, t2, t3, t4, l5, l6, hC, hDD, m0, m1, hrh', y2]
          refine ⟨by decide, by decide, ?_⟩
          exact ihn _ _ _ ⟨WnH.mono ⟨f0, f1, f2, f5⟩ (by rw [List.getElem?_append_left (by rw [hlen]; omega)]; exact hset _) (fun q hq q0 hl => by rw [List.getElem?_append_left (by rw [hlen]; exact hl), List.getElem?_set_ne (fun e => q0 e.symm)]), _, _, _, _, _, _,
            (hF2 (Dr wB')).first.2.2 _ ((J.set 0 (some (Dr wB'))).length + 1) ((J.set 0 (some (Dr wB'))).length + 3) C D (by omega) (by omega) (by omega) (fun q _ hq => List.getElem?_append_left hq) (by rw [get_new rfl]; rfl) (by rw [get_new rfl]; rfl)⟩ _ (by simp [go_sem, wT])
        · skip
          have k2 : (k : Int) > 0 := by omega
          obtain ⟨j, rfl⟩ : ∃ j, k = j + 1 := ⟨k - 1, by omega⟩
          have lo0 : lo ≠ [] := by rintro rfl; simp at hlo
          have hi0 : hi ≠ [] := by rintro rfl; simp at hhi
          have l1 := get_at (l := lo) (i := j) (by omega)
          have l2 := get_at (l := hi) (i := j) (by omega)
          have ep : prevOf lo hi = some (at1 lo j, at1 hi j) := by unfold prevOf; rw [if_neg (by omega), hlo, Nat.add_sub_cancel]
          rw [ep] at ihn hcell
          obtain ⟨p1, hp1⟩ : ∃ x, at1 lo j = x := ⟨_, rfl⟩
          obtain ⟨p2, hp2⟩ : ∃ x, at1 hi j = x := ⟨_, rfl⟩
          rw [hp1] at l1 ihn hcell
          rw [hp2] at l2 ihn hcell
          have x4 : IntKind.i64.wrap (((j + 1 : Nat) : Int) - 1) = j := by rw [w64 (by omega)]; omega
          have n4 : ¬ (j : Int) < 0 := by omega
          have y3 : (j : Int) < lo.length := by omega
          have y4 : (j : Int) < hi.length := by omega
          have z3 : (lo.length + 1) * 8 ≤ 2 ^ 44 := by omega
          have z4 : (hi.length + 1) * 8 ≤ 2 ^ 44 := by omega
          obtain ⟨r, s, e4, e5, hrs, hr, hs, g4, g5, -⟩ := hF.next lo0 hi0
          have r0 : r ≠ 0 := by rintro rfl; exact hr (by simp [wF])
          have s0 : s ≠ 0 := by rintro rfl; exact hs (by simp [wF])
          have d1 := off g4 r0
          have d2 := off g5 s0
          have hrl := (List.getElem?_eq_some_iff.1 g4).1
          have hsl := (List.getElem?_eq_some_iff.1 g5).1
          have q1 := fun X Y => cells_more (d1 X) Y
          have q2 := fun X Y x => put_more (H := J.set 0 X) (j := r) (by rw [List.length_set]; exact hrl) Y x
          have q3 := fun X x Y => cells_more (H := (J.set 0 X).set r x) (j := s) (cells_at (by rw [List.getElem?_set_ne hrs, List.getElem?_set_ne (fun e => s0 e.symm)]; exact g5)) Y
          have q4 := fun X z Y x => put_more (H := (J.set 0 X).set r z) (j := s) (by simpa using hsl) Y x
          obtain ⟨C, hC⟩ : ∃ x, mx (mx A Q1) p1 = x := ⟨_, rfl⟩
          have hAC : Go.Proofs.wA f (i' + 1) (j + 1) w (some (Q1, Q2)) (some (p1, p2)) = C := by subst hC; subst hA; rfl
          have hce : (wcell f false (i' + 1) (j + 1) w (some (Q1, Q2)) (some (p1, p2))).lo = C := hAC
          have CZ : C ≤ tg f.hi (i' + 1) (j + 1) ∧ 0 ≤ C := by have h := hcell.1; rw [hce] at h; unfold wnE at h; omega
          have kc := between_ok wA C (tg f.hi (i' + 1) (j + 1)) (by omega) (by omega) (by omega)
          obtain ⟨B, hB⟩ : ∃ x, btw wA C (tg f.hi (i' + 1) (j + 1)) = x := ⟨_, rfl⟩
          obtain ⟨wB', hwB⟩ : ∃ x, dstep wA = x := ⟨_, rfl⟩
          rw [hB, hwB] at kc
          have ec : wcell f false (i' + 1) (j + 1) w (some (Q1, Q2)) (some (p1, p2)) = ⟨C, mx (mx B Q2) p2, wB'⟩ := by subst hB; subst hwB; subst hC; subst hA; subst hwA; rfl
          rw [ec] at ihn
          dsimp only at ihn
          obtain ⟨D, hDD⟩ : ∃ x, mx (mx B Q2) p2 = x := ⟨_, rfl⟩
          rw [hDD] at ihn
          obtain ⟨r', s', e4', e5', -, -, -, -, -, hnn⟩ := (hF2 (Dr wB')).next lo0 hi0
          subst e4; subst e5
          obtain rfl : r = r' := by simpa using e4'
          obtain rfl : s = s' := by simpa using e5'
          clear hcell hRow hUE hc
          simp only [go_sem, wT, j2, vw, List.length_map, m0, m1, hrl', hrh', y1, y2, Int.toNat_natCast, c0]
          refine cD kb ?_ (hj := f0) (hk := by omega)
          simp only [go_sem, List.set_set, e_mx, k1, k2, j3, Int.toNat_natCast, o1, o5, List.length_map, vw, x5, n5, n6, y5, y6, y7, y8, gva, gub, lvs, lus, t1, t2, t3, t4, l5, l6, d1, d2, l1, l2, x4, n4, y3, y4, z3, z4, q1, q2, q3, q4, hC, hDD, m0, m1, hrh', y2]
          refine cD kc ?_ (hj := hset _) (hk := by rw [hlen]; omega)
          simp only [go_sem, List.set_set, e_mx, k1, k2, j3, Int.toNat_natCast, o1, o5, List.length_map, vw, x5, n5, n6, y5, y6, y7, y8, gva, gub, lvs, lus, t1, t2, t3, t4, l5, l6, d1, d2, l1, l2, x4, n4, y3, y4, z3, z4, q1, q2, q3, q4, hC, hDD, m0, m1, hrh', y2]
          have hrl' : r < (J.set 0 (some (Dr wB'))).length := by rw [hlen]; exact hrl
          have hsl' : s < (J.set 0 (some (Dr wB'))).length := by rw [hlen]; exact hsl
          have nF : ∀ q, wF q → q ≠ r ∧ q ≠ s := fun q hq => ⟨fun e => hr (by rw [← e]; exact hq), fun e => hs (by rw [← e]; exact hq)⟩
          exact ihn _ _ _ ⟨WnH.mono ⟨f0, f1, f2, f5⟩ (by rw [two_off (by rw [hlen]; omega) (nF 0 (by simp [wF])).1 (nF 0 (by simp [wF])).2]; exact hset _) (fun q hq q0 hl => by rw [two_off (by rw [hlen]; exact hl) (nF q hq).1 (nF q hq).2, List.getElem?_set_ne (fun e => q0 e.symm)]), _, _, _, _, _, _,
            hnn _ C D (fun q _ hl a b => two_off hl a b) (two_r hrl' hrs) (two_s hsl') (fun a ha => by have := hF.len a ha; simp; omega)⟩ _ (by simp [go_sem, wT])
    · have j2 : ¬ (k : Int) < f.p.length := by omega
      obtain rfl : n = 0 := by omega
      simp only [gRow] at hRg
      subst hRg
      dsimp only at hG
      have kp : k = f.p.length := by omega
      have lo0 : lo ≠ [] := by rintro rfl; simp at hlo; omega
      have hi0 : hi ≠ [] := by rintro rfl; simp at hhi; omega
      have ihn := fun J' v0' v1' v2' v3' hh => ih (i + 1, w, J', L ++ [lo], U ++ [hi], v0', v1', v2', v3') (by omega) ⟨m, by omega, hG, by simp; omega, hTab.snoc (by rw [hUr, hL]; exact hRow) (by omega), hh⟩
      clear ih ihk
      dsimp only at ihn
      have c5 := cells_at f5
      have z0 := hF.len 5 (by simp [wF])
      obtain ⟨r4, e4, -, -⟩ := ls_get hF.d4 lo0
      obtain ⟨r5, e5, -, -⟩ := ls_get hF.d5 hi0
      subst e4; subst e5
      have hlt5 := (List.getElem?_eq_some_iff.1 f5).1
      have q1 := fun Y => cells_more c5 Y
      by_cases i0 : i = 0
      · have : L = [] := List.length_eq_zero_iff.1 (by omega)
        subst this
        have : U = [] := List.length_eq_zero_iff.1 (by omega)
        subst this
        obtain ⟨e2, e3, hn⟩ := hF.row1 lo0 hi0
        subst e2; subst e3
        have q2 := fun Y x => put_more (H := J) hlt5 Y x
        have q3 := fun g sz es Y => cells_more (H := J.set 5 (some (Row.cells g sz es))) (j := 5) (cells_at (List.getElem?_set_self hlt5)) Y
        have q4 := fun z Y x => put_more (H := J.set 5 z) (j := 5) (by simpa using hlt5) Y x
        simp only [go_sem, wT, j2, vw, List.length_map, c0, c5, h3, q1, q2, q3, q4, List.set_set]
        refine ⟨(by first | (simp; done) | (simp; omega)), by decide, (by first | (simp; done) | (simp; omega)), (by first | (simp; done) | (simp; omega)), (by first | (simp; done) | (simp; omega)), by decide, (by first | (simp; done) | (simp; omega)), ?_⟩
        have off : ∀ (A : Option Row) (Y : Heap) (q : Nat), q < J.length → q ≠ 5 → (J.set 5 A ++ Y)[q]? = J[q]? := fun A Y q hq hn => by rw [List.getElem?_append_left (by simpa using hq), List.getElem?_set_ne (fun e => hn e.symm)]
        have at5 : ∀ (A : Option Row) (Y : Heap), (J.set 5 A ++ Y)[5]? = some A := fun A Y => by rw [List.getElem?_append_left (by simpa using hlt5), List.getElem?_set_self hlt5]
        exact ihn _ _ _ _ _ ⟨⟨by rw [off _ _ 0 (by omega) (by omega)]; exact f0, by rw [off _ _ 1 (by omega) (by omega)]; exact f1, by rw [off _ _ 2 (by omega) (by omega)]; exact f2, at5 _ _⟩, _, _, _, _, _, _, hn _ (J.length + 1) (J.length + 3) (by omega) (by omega) (by omega) (fun q hnF hq => off _ _ q hq (by rintro rfl; exact hnF (by simp [wF]))) (by rw [get_new (by simp)]; rfl) (by rw [get_new (by simp)]; rfl)⟩ _ (by simp [go_sem, wT])
      · have L0 : L ≠ [] := by rintro rfl; simp at hL; omega
        have U0 : U ≠ [] := by rintro rfl; simp at hU; omega
        obtain ⟨r, s, vs, us, κ2', κ3', e2, e3, hrs, hr, hs, g2, g3, l2, l3, hn⟩ := hF.rows L0 U0 lo0 hi0
        subst e2; subst e3
        have hrl := (List.getElem?_eq_some_iff.1 g2).1
        have hsl := (List.getElem?_eq_some_iff.1 g3).1
        have r5' : r ≠ 5 := by rintro rfl; exact hr (by simp [wF])
        have s5' : s ≠ 5 := by rintro rfl; exact hs (by simp [wF])
        have z1 : (L.length + 1) * 24 ≤ 2 ^ 44 := by omega
        have z2 : (U.length + 1) * 24 ≤ 2 ^ 44 := by omega
        have a1 := fun Y => cells_more (cells_at g2) Y
        have a2 := fun Y x => put_more (H := J) hrl Y x
        have a3 := fun x Y => cells_more (H := J.set r x) (j := 5) (cells_at (by rw [List.getElem?_set_ne r5']; exact f5)) Y
        have a4 := fun x Y => cells_more (H := J.set r x) (j := s) (cells_at (by rw [List.getElem?_set_ne hrs]; exact g3)) Y
        have a5 := fun z Y x => put_more (H := J.set r z) (j := s) (by simpa using hsl) Y x
        have a6 := fun x y Y => cells_more (H := (J.set r x).set s y) (j := 5) (cells_at (by rw [List.getElem?_set_ne s5', List.getElem?_set_ne r5']; exact f5)) Y
        have a7 := fun z y Y x => put_more (H := (J.set r z).set s y) (j := 5) (by simpa using hlt5) Y x
        have a8 := fun x y g sz es Y => cells_more (H := ((J.set r x).set s y).set 5 (some (Row.cells g sz es))) (j := 5) (cells_at (List.getElem?_set_self (by simpa using hlt5))) Y
        have a9 := fun z y w Y x => put_more (H := ((J.set r z).set s y).set 5 w) (j := 5) (by simpa using hlt5) Y x
        simp only [go_sem, wT, j2, vw, List.length_map, c0, c5, h3, q1, a1, a2, a3, a4, a5, a6, a7, a8, a9, List.set_set, z1, z2, l2, l3]
        simp only [List.length_set]
        refine ⟨(by first | (simp; done) | (simp; omega)), (by first | (simp; done) | (simp; omega)), (by first | (simp; done) | (simp; omega)), (by first | (simp; done) | (simp; omega)), (by first | (simp; done) | (simp; omega)), ?_⟩
        have off : ∀ (A B C : Option Row) (Y : Heap) (q : Nat), q < J.length → q ≠ r → q ≠ s → q ≠ 5 → (((J.set r A).set s B).set 5 C ++ Y)[q]? = J[q]? := fun A B C Y q hq n1 n2 n3 => by
          rw [List.getElem?_append_left (by simpa using hq), List.getElem?_set_ne (fun e => n3 e.symm), List.getElem?_set_ne (fun e => n2 e.symm), List.getElem?_set_ne (fun e => n1 e.symm)]
        have at5 : ∀ (A B C : Option Row) (Y : Heap), (((J.set r A).set s B).set 5 C ++ Y)[5]? = some C := fun A B C Y => by rw [List.getElem?_append_left (by simpa using hlt5), List.getElem?_set_self (by simpa using hlt5)]
        have atr : ∀ (A B C : Option Row) (Y : Heap), (((J.set r A).set s B).set 5 C ++ Y)[r]? = some A := fun A B C Y => by
          rw [List.getElem?_append_left (by simpa using hrl), List.getElem?_set_ne (fun e => r5' e.symm), List.getElem?_set_ne (fun e => hrs e.symm), List.getElem?_set_self hrl]
        have ats : ∀ (A B C : Option Row) (Y : Heap), (((J.set r A).set s B).set 5 C ++ Y)[s]? = some B := fun A B C Y => by
          rw [List.getElem?_append_left (by simpa using hsl), List.getElem?_set_ne (fun e => s5' e.symm), List.getElem?_set_self (by simpa using hsl)]
        have nr : ∀ q, wF q → q ≠ r := fun q hq e => hr (by rw [← e]; exact hq)
        have ns : ∀ q, wF q → q ≠ s := fun q hq e => hs (by rw [← e]; exact hq)
        exact ihn _ _ _ _ _ ⟨⟨by rw [off _ _ _ _ 0 (by omega) (nr 0 (by simp [wF])) (ns 0 (by simp [wF])) (by omega)]; exact f0, by rw [off _ _ _ _ 1 (by omega) (nr 1 (by simp [wF])) (ns 1 (by simp [wF])) (by omega)]; exact f1, by rw [off _ _ _ _ 2 (by omega) (nr 2 (by simp [wF])) (ns 2 (by simp [wF])) (by omega)]; exact f2, at5 _ _ _ _⟩, _, _, _, _, _, _,
          hn _ (fun q hnF hq n1 n2 => off _ _ _ _ q hq n1 n2 (by rintro rfl; exact hnF (by simp [wF]))) (atr _ _ _ _) (ats _ _ _ _) (fun a ha => by have := hF.len a ha; simp; omega)⟩ _ (by simp [go_sem, wT])
  · have h2 : ¬ (i : Int) < f.g.length := by omega
    obtain rfl : m = 0 := by omega
    simp only [gTab] at hG
    subst hG
    obtain ⟨⟨f0, f1, f2, f5⟩, κ0, κ1, κ2, κ3, κ4, κ5, hF⟩ := hI
    have L0 : L ≠ [] := by rintro rfl; simp at hL; omega
    have U0 : U ≠ [] := by rintro rfl; simp at hU; omega
    obtain ⟨ι, hD, hnd, hge⟩ := hF.all L0 U0
    obtain ⟨_, b0, e0, -, -⟩ := vw_get hF.d0
    obtain ⟨_, b1, e1, -, -⟩ := vw_get hF.d1
    obtain ⟨b2, _, _, e2, -, -, -⟩ := tb_get hF.d2 L0
    obtain ⟨b3, _, _, e3, -, -, -⟩ := tb_get hF.d3 U0
    subst e0; subst e1; subst e2; subst e3
    have c0 := cells_at f1
    simp only [Fv, Fcs, vw, tw] at c0
    have c5 := cells_at f5
    have c2 := cells_at f2
    have hlt2 := (List.getElem?_eq_some_iff.1 f2).1
    have q1 := fun x => put_lt (H := J) (x := x) hlt2
    have q2 := fun g sz es => cells_at (H := J.set 2 (some (Row.cells g sz es))) (j := 2) (List.getElem?_set_self hlt2)
    simp only [go_sem, wT, h2, vw, List.length_map, c0, c5, c2, q1, q2]
    exact ⟨ι, hD.set _ (fun h => hge 2 h (by simp [wF])), hnd, fun h => hge 0 h (by simp [wF]), by rw [List.getElem?_set_ne (by omega)]; exact f0⟩
end Go.Proofs

namespace Go.Proofs
open Go Go.Sx Go.Fam
attribute [local irreducible] Run

end Go.Proofs

namespace Go.Proofs
open Go Go.Sx Go.Fam
attribute [local irreducible] Run

instance : DecidableEq Fa := fun a b => decidable_of_iff (a.g = b.g ∧ a.p = b.p ∧ a.lo = b.lo ∧ a.hi = b.hi) ⟨fun ⟨h1, h2, h3, h4⟩ => by cases a; cases b; simp_all, by rintro rfl; exact ⟨rfl, rfl, rfl, rfl⟩⟩
end Go.Proofs

namespace Go.Sx
open Go
theorem Less.loosen {P : Program} {G : Ctx} {k : Nat} {ρ : List AVal} {H H' : Heap} (hlen : H'.length = H.length) (hl : Loose H H') : Less P G k ⟨ρ, H, []⟩ ⟨ρ, H', []⟩ := fun μ a w hR => by
  refine ⟨μ, ⟨hR.tr, hR.hr.loosen hl, fun r hr => ?_, ?_, fun r hr => by simp at hr⟩, Mu.leB_refl _ _⟩
  · show r < H'.length
    rw [hlen]; exact hR.dom r hr
  · have := hR.mk'; simpa using this
end Go.Sx
namespace Go.Proofs
open Go Go.Sx Go.Fam

section
variable {F : Nat → Prop} {J J' : Heap} {g p : List Int} {L U : List (List Int)} {lo hi : List Int} {v0 v1 v2 v3 v4 v5 : AVal} {κ0 κ1 κ2 κ3 κ4 κ5 : List Nat}
end
end Go.Proofs

namespace Go.Proofs
open Go Go.Sx Go.Fam
attribute [local irreducible] Run

end Go.Proofs

namespace Go.Proofs
open Go Go.Sx Go.Fam
attribute [local irreducible] Run

structure AcH (f : Fa) (J : Heap) (v0 v1 v2 v3 : AVal) : Prop where
  r0 : J[0]? = some (some (.cells false 4 [Fv f]))
  r1 : J[1]? = some (some (.cells false 4 [.agg [.nilsl, .nilsl, .nilsl, .nilsl]]))
  r4 : J[4]? = some (some (.cells false 4 [.agg [v0, v1, v2, v3]]))
theorem AcH.mono {f : Fa} {J J' : Heap} {v0 v1 v2 v3 : AVal} (h : AcH f J v0 v1 v2 v3) (hJ : ∀ q, oF q → q < J.length → J'[q]? = J[q]?) : AcH f J' v0 v1 v2 v3 :=
  ⟨by rw [hJ 0 (by simp [oF]) (List.getElem?_eq_some_iff.1 h.r0).1]; exact h.r0, by rw [hJ 1 (by simp [oF]) (List.getElem?_eq_some_iff.1 h.r1).1]; exact h.r1, by rw [hJ 4 (by simp [oF]) (List.getElem?_eq_some_iff.1 h.r4).1]; exact h.r4⟩
end Go.Proofs

namespace Go.Proofs
open Go Go.Sx Go.Fam
attribute [local irreducible] Run

end Go.Proofs

namespace Go.Proofs
open Go Go.Sx
theorem awake_yes : yes (exFn tab 3000 40 n_law02_awake [] []) = true := by kernel_rfl
theorem awake_ok : Ans Try.prog n_law02_awake [] [] (.bool true) [] := yes_ans mixed tab_ok awake_yes
end Go.Proofs

namespace Go.Proofs
open Go Go.Sx Go.Fam
attribute [local irreducible] Run

end Go.Proofs

namespace Go.Proofs
open Go Go.Sx Go.Fam
attribute [local irreducible] Run

@[go_sem] theorem upFrom_contains (k n r : Nat) : (upFrom k n).contains r = decide (k ≤ r ∧ r < k + n) := by
  rw [Bool.eq_iff_iff]; simp [upFrom_mem]
@[go_sem] theorem disj_up (k n : Nat) (l : List Nat) : disj (upFrom k n) l = l.all fun r => !decide (k ≤ r ∧ r < k + n) := by
  unfold disj
  rw [Bool.eq_iff_iff]
  simp only [List.all_eq_true, upFrom_mem, Bool.not_eq_true', List.contains_eq_mem, decide_eq_false_iff_not]
  exact ⟨fun h r hr hk => h r hk hr, fun h r hk hr => h r hr hk⟩
@[go_sem] theorem dr_nv (w : Int) : (Dr w).nv = True := eq_true (by unfold Dr; exact row_nv_cells _ _ ⟨.agg _ (by intro i hi; simp at hi; subst hi; exact .int _ _), trivial⟩)
end Go.Proofs

namespace Go.Proofs
open Go Go.Sx Go.Fam
attribute [local irreducible] Run

end Go.Proofs

namespace Go.Proofs
open Go Go.Sx Go.Fam

attribute [local irreducible] AT
set_option maxRecDepth 100000
end Go.Proofs

namespace Go.Proofs
open Go Go.Sx Go.Fam
attribute [local irreducible] Run

end Go.Proofs

namespace Go.Proofs
open Go Go.Sx Go.Fam
attribute [local irreducible] Run

theorem WithinFamily_run {f : Fa} (hf : FaOK f) (hn : FaNE f) (b : Bool) (w : Int) : Ans Try.prog n_kit_WithinFamily [.ptr 0 0 0 1, Fv f, .bool b] [some (Dr w)] (thaw 6 1 (Fv (wnF f b w))).1 (some (Dr (wnT f b w).w) :: (thaw 6 1 (Fv (wnF f b w))).2) :=
  ans_dat (wnF_ne hf hn b w).pure (dr_bel _ _) (by cases b; exact within_false hf w; exact within_true hf w)
theorem within_yes {a b : Rg} (h : Wn a b) : Ans Try.prog n_kit_Within [.agg [.int .i64 a.lo, .int .i64 a.hi], .agg [.int .i64 b.lo, .int .i64 b.hi]] [] (.bool true) [] := by
  unfold Wn at h
  refine spec_run e_kit_Within fun G => ?_
  simp only [go_sem, h.1, h.2]

end Go.Proofs

namespace Go.Proofs
open Go Go.Sx

end Go.Proofs

namespace Go.Proofs
open Go Go.Sx

end Go.Proofs

namespace Go.Proofs
open Go Go.Sx

def k_law02_CurveBetween_r0 : List AOper := [
  ⟨(some (10)), .move (.const (.bool false)), none, []⟩]
def k_law02_CurveBetween_r1 : List AOper := [
  ⟨(some (22)), .move (.tmp 0), none, []⟩, 
  ⟨(some (23)), .call (.const (.fn (.func 12) [] [])) [.tmp 22], none, []⟩, 
  ⟨(some (11)), .move (.tmp 23), none, []⟩]
def k_law02_CurveBetween_r2 : List AOper := [
  ⟨(some (24)), .move (.tmp 11), none, []⟩, 
  ⟨(some (25)), .call (.const (.fn (.func 25) [] [])) [.tmp 24], none, []⟩, 
  ⟨(some (12)), .box (.const (.agg [.nilsl, .nilsl, .nilsl, .nilsl])), none, []⟩, 
  ⟨none, .store 4 (.tmp 12) (.tmp 25), none, []⟩]
def k_law02_CurveBetween_r3 : List AOper := [
  ⟨(some (26)), .move (.tmp 11), none, []⟩, 
  ⟨(some (27)), .load (some (4)) (.tmp 12), none, []⟩, 
  ⟨(some (28)), .move (.tmp 4), none, []⟩, 
  ⟨(some (29)), .call (.const (.fn (.func 35) [] [])) [.tmp 26, .tmp 27, .tmp 28], none, []⟩, 
  ⟨(some (13)), .box (.const (.agg [.nilsl, .nilsl, .nilsl, .nilsl])), none, []⟩, 
  ⟨none, .store 4 (.tmp 13) (.tmp 29), none, []⟩]
def k_law02_CurveBetween_r4 : List AOper := [
  ⟨(some (30)), .move (.tmp 1), none, []⟩, 
  ⟨(some (31)), .call (.const (.fn (.func 50) [] [])) [.tmp 30, .const (.int .i64 16000)], none, []⟩, 
  ⟨(some (32)), .bin .plain .sub (.tmp 31) (.const (.int .i64 11000)), none, []⟩, 
  ⟨(some (33)), .move (.tmp 2), none, []⟩, 
  ⟨(some (34)), .call (.const (.fn (.func 50) [] [])) [.tmp 33, .const (.int .i64 350000)], none, []⟩, 
  ⟨(some (35)), .move (.tmp 3), none, []⟩, 
  ⟨(some (36)), .call (.const (.fn (.func 50) [] [])) [.tmp 35, .const (.int .i64 40000)], none, []⟩, 
  ⟨(some (1)), .move (.tmp 32), none, []⟩, 
  ⟨(some (2)), .move (.tmp 34), none, []⟩, 
  ⟨(some (3)), .move (.tmp 36), none, []⟩]
def k_law02_CurveBetween_r5 : List AOper := [
  ⟨(some (38)), .load (some (4)) (.tmp 12), none, []⟩, 
  ⟨(some (39)), .move (.tmp 1), none, []⟩, 
  ⟨(some (40)), .move (.tmp 2), none, []⟩, 
  ⟨(some (41)), .call (.const (.fn (.func 33) [] [])) [.tmp 38, .tmp 39, .tmp 40], none, []⟩, 
  ⟨(some (37)), .move (.tmp 41), none, []⟩, 
  ⟨(some (42)), .extract (.tmp 37) 0, none, []⟩, 
  ⟨(some (43)), .extract (.tmp 37) 1, none, []⟩, 
  ⟨(some (14)), .box (.const (.agg [.int .i64 0, .int .i64 0])), none, []⟩, 
  ⟨none, .store 2 (.tmp 14) (.tmp 42), none, []⟩, 
  ⟨(some (15)), .move (.tmp 43), none, []⟩]
def k_law02_CurveBetween_r6 : List AOper := [
  ⟨(some (45)), .load (some (4)) (.tmp 12), none, []⟩, 
  ⟨(some (46)), .move (.tmp 1), none, []⟩, 
  ⟨(some (47)), .move (.tmp 3), none, []⟩, 
  ⟨(some (48)), .bin .plain .add (.tmp 46) (.tmp 47), none, []⟩, 
  ⟨(some (49)), .move (.tmp 2), none, []⟩, 
  ⟨(some (50)), .call (.const (.fn (.func 33) [] [])) [.tmp 45, .tmp 48, .tmp 49], none, []⟩, 
  ⟨(some (44)), .move (.tmp 50), none, []⟩, 
  ⟨(some (51)), .extract (.tmp 44) 0, none, []⟩, 
  ⟨(some (52)), .extract (.tmp 44) 1, none, []⟩, 
  ⟨(some (16)), .box (.const (.agg [.int .i64 0, .int .i64 0])), none, []⟩, 
  ⟨none, .store 2 (.tmp 16) (.tmp 51), none, []⟩, 
  ⟨(some (17)), .move (.tmp 52), none, []⟩]
def k_law02_CurveBetween_r7 : List AOper := [
  ⟨(some (54)), .load (some (4)) (.tmp 12), none, []⟩, 
  ⟨(some (55)), .move (.tmp 1), none, []⟩, 
  ⟨(some (56)), .move (.tmp 2), none, []⟩, 
  ⟨(some (57)), .move (.tmp 3), none, []⟩, 
  ⟨(some (58)), .bin .plain .add (.tmp 56) (.tmp 57), none, []⟩, 
  ⟨(some (59)), .call (.const (.fn (.func 33) [] [])) [.tmp 54, .tmp 55, .tmp 58], none, []⟩, 
  ⟨(some (53)), .move (.tmp 59), none, []⟩, 
  ⟨(some (60)), .extract (.tmp 53) 0, none, []⟩, 
  ⟨(some (61)), .extract (.tmp 53) 1, none, []⟩, 
  ⟨(some (18)), .box (.const (.agg [.int .i64 0, .int .i64 0])), none, []⟩, 
  ⟨none, .store 2 (.tmp 18) (.tmp 60), none, []⟩, 
  ⟨(some (19)), .move (.tmp 61), none, []⟩]
def k_law02_CurveBetween_r8 : List AOper := [
  ⟨(some (63)), .load (some (4)) (.tmp 13), none, []⟩, 
  ⟨(some (64)), .move (.tmp 1), none, []⟩, 
  ⟨(some (65)), .move (.tmp 2), none, []⟩, 
  ⟨(some (66)), .call (.const (.fn (.func 33) [] [])) [.tmp 63, .tmp 64, .tmp 65], none, []⟩, 
  ⟨(some (62)), .move (.tmp 66), none, []⟩, 
  ⟨(some (67)), .extract (.tmp 62) 0, none, []⟩, 
  ⟨(some (68)), .extract (.tmp 62) 1, none, []⟩, 
  ⟨(some (20)), .box (.const (.agg [.int .i64 0, .int .i64 0])), none, []⟩, 
  ⟨none, .store 2 (.tmp 20) (.tmp 67), none, []⟩, 
  ⟨(some (21)), .move (.tmp 68), none, []⟩]
def k_law02_CurveBetween_r9 : List AOper := [
  ⟨(some (69)), .move (.tmp 15), none, []⟩, 
  ⟨(some (70)), .bin .plain .neq (.tmp 69) (.const (.int .i64 0)), none, []⟩, 
  ⟨(some (71)), .move (.tmp 70), none, []⟩, 
  ⟨(some (72)), .move (.tmp 17), (some (71, false)), []⟩, 
  ⟨(some (73)), .bin .plain .neq (.tmp 72) (.const (.int .i64 0)), (some (71, false)), []⟩, 
  ⟨(some (74)), .pick (.tmp 71) (.const (.bool true)) (.tmp 73), none, []⟩, 
  ⟨(some (75)), .move (.tmp 74), none, []⟩, 
  ⟨(some (76)), .move (.tmp 19), (some (75, false)), []⟩, 
  ⟨(some (77)), .bin .plain .neq (.tmp 76) (.const (.int .i64 0)), (some (75, false)), []⟩, 
  ⟨(some (78)), .pick (.tmp 75) (.const (.bool true)) (.tmp 77), none, []⟩, 
  ⟨(some (79)), .move (.tmp 78), none, []⟩, 
  ⟨(some (80)), .move (.tmp 21), (some (79, false)), []⟩, 
  ⟨(some (81)), .bin .plain .neq (.tmp 80) (.const (.int .i64 0)), (some (79, false)), []⟩, 
  ⟨(some (82)), .pick (.tmp 79) (.const (.bool true)) (.tmp 81), none, []⟩, 
  ⟨(some (83)), .move (.tmp 82), none, []⟩, 
  ⟨(some (84)), .load (some (4)) (.tmp 12), (some (83, false)), []⟩, 
  ⟨(some (85)), .load (some (4)) (.tmp 13), (some (83, false)), []⟩, 
  ⟨(some (86)), .call (.const (.fn (.func 37) [] [])) [.tmp 84, .tmp 85], (some (83, false)), []⟩, 
  ⟨(some (87)), .not (.tmp 86), (some (83, false)), []⟩, 
  ⟨(some (88)), .pick (.tmp 83) (.const (.bool true)) (.tmp 87), none, []⟩]
def k_law02_CurveBetween_r10 : List AOper := [
  ⟨(some (10)), .move (.const (.bool false)), none, []⟩]
def k_law02_CurveBetween_r11 : List AOper := [
  ⟨(some (89)), .fieldAddr 0 (.tmp 16), none, []⟩, 
  ⟨(some (90)), .load none (.tmp 89), none, []⟩, 
  ⟨(some (91)), .fieldAddr 0 (.tmp 14), none, []⟩, 
  ⟨(some (92)), .load none (.tmp 91), none, []⟩, 
  ⟨(some (93)), .bin .plain .geq (.tmp 90) (.tmp 92), none, []⟩, 
  ⟨(some (94)), .move (.tmp 93), none, []⟩, 
  ⟨(some (95)), .fieldAddr 1 (.tmp 16), (some (94, true)), []⟩, 
  ⟨(some (96)), .load none (.tmp 95), (some (94, true)), []⟩, 
  ⟨(some (97)), .fieldAddr 1 (.tmp 14), (some (94, true)), []⟩, 
  ⟨(some (98)), .load none (.tmp 97), (some (94, true)), []⟩, 
  ⟨(some (99)), .bin .plain .geq (.tmp 96) (.tmp 98), (some (94, true)), []⟩, 
  ⟨(some (100)), .pick (.tmp 94) (.tmp 99) (.const (.bool false)), none, []⟩, 
  ⟨(some (101)), .move (.tmp 100), none, []⟩, 
  ⟨(some (102)), .fieldAddr 0 (.tmp 18), (some (101, true)), []⟩, 
  ⟨(some (103)), .load none (.tmp 102), (some (101, true)), []⟩, 
  ⟨(some (104)), .fieldAddr 0 (.tmp 14), (some (101, true)), []⟩, 
  ⟨(some (105)), .load none (.tmp 104), (some (101, true)), []⟩, 
  ⟨(some (106)), .bin .plain .geq (.tmp 103) (.tmp 105), (some (101, true)), []⟩, 
  ⟨(some (107)), .pick (.tmp 101) (.tmp 106) (.const (.bool false)), none, []⟩, 
  ⟨(some (108)), .move (.tmp 107), none, []⟩, 
  ⟨(some (109)), .fieldAddr 1 (.tmp 18), (some (108, true)), []⟩, 
  ⟨(some (110)), .load none (.tmp 109), (some (108, true)), []⟩, 
  ⟨(some (111)), .fieldAddr 1 (.tmp 14), (some (108, true)), []⟩, 
  ⟨(some (112)), .load none (.tmp 111), (some (108, true)), []⟩, 
  ⟨(some (113)), .bin .plain .geq (.tmp 110) (.tmp 112), (some (108, true)), []⟩, 
  ⟨(some (114)), .pick (.tmp 108) (.tmp 113) (.const (.bool false)), none, []⟩, 
  ⟨(some (115)), .move (.tmp 114), none, []⟩, 
  ⟨(some (116)), .load (some (2)) (.tmp 20), (some (115, true)), []⟩, 
  ⟨(some (117)), .load (some (2)) (.tmp 14), (some (115, true)), []⟩, 
  ⟨(some (118)), .call (.const (.fn (.func 51) [] [])) [.tmp 116, .tmp 117], (some (115, true)), []⟩, 
  ⟨(some (119)), .pick (.tmp 115) (.tmp 118) (.const (.bool false)), none, []⟩, 
  ⟨(some (120)), .move (.tmp 119), none, []⟩, 
  ⟨(some (121)), .call (.const (.fn (.func 23) [] [])) [], (some (120, true)), []⟩, 
  ⟨(some (122)), .pick (.tmp 120) (.tmp 121) (.const (.bool false)), none, []⟩, 
  ⟨(some (10)), .move (.tmp 122), none, []⟩]
def k_law02_CurveBetween : AFun := { params := 5, ntmps := 123, body := (.seq (.reg k_law02_CurveBetween_r0 false) (.seq (.reg k_law02_CurveBetween_r1 false) (.seq (.reg k_law02_CurveBetween_r2 false) (.seq (.reg k_law02_CurveBetween_r3 false) (.seq (.reg k_law02_CurveBetween_r4 false) (.seq (.reg k_law02_CurveBetween_r5 false) (.seq (.reg k_law02_CurveBetween_r6 false) (.seq (.reg k_law02_CurveBetween_r7 false) (.seq (.reg k_law02_CurveBetween_r8 false) (.seq (.seq (.reg k_law02_CurveBetween_r9 false) (.cond (.tmp 88) (.seq (.reg k_law02_CurveBetween_r10 false) .ret) .skip)) (.seq (.reg k_law02_CurveBetween_r11 false) .ret))))))))))), res := [.tmp 10] }
theorem k_law02_CurveBetween_ok : cfun Try.prog Try.f9 = k_law02_CurveBetween := by kernel_rfl


abbrev n_law02_CurveBetween : Nat := 9
theorem e_law02_CurveBetween : EntryOK Try.prog n_law02_CurveBetween k_law02_CurveBetween := ⟨Try.f9, Try.func9, k_law02_CurveBetween_ok, by kernel_rfl⟩

attribute [go_sem] k_law02_CurveBetween_r0 k_law02_CurveBetween_r1 k_law02_CurveBetween_r2 k_law02_CurveBetween_r3 k_law02_CurveBetween_r4 k_law02_CurveBetween_r5 k_law02_CurveBetween_r6 k_law02_CurveBetween_r7 k_law02_CurveBetween_r8 k_law02_CurveBetween_r9 k_law02_CurveBetween_r10 k_law02_CurveBetween_r11
attribute [go_sem] k_law02_CurveBetween
end Go.Proofs

namespace Go.Proofs
open Go Go.Sx Go.Fam
attribute [local irreducible] Run

theorem atA_ok {f : Fa} (hf : FaOK f) {g p : Int} (hg : -1000000 ≤ g ∧ g ≤ 1000000) (hp : 0 ≤ p ∧ p ≤ 1000000) : atA f g p = .tup [.agg [.int .i64 (atV f g p).1, .int .i64 (atV f g p).2], .int .i64 0] := by
  unfold atA; rw [if_pos (fam_iff.2 hf), if_pos ⟨hg, hp⟩]

set_option maxHeartbeats 8000000 in
set_option maxRecDepth 20000 in
theorem curveBetween_ok (xs : List Int) (hl : xs.length ≤ 9223372036854775807) (g p y : Int) (bt : Bool) : Ans Try.prog n_law02_CurveBetween [.view (xs.map (.int .i64)), .int .i64 g, .int .i64 p, .int .i64 y, .bool bt] [] (.bool true) [] := by
  have kd := newdice_ok xs hl
  obtain ⟨w, hw⟩ : ∃ w, feed (IntKind.u64.wrap (IntKind.u64.wrap xs.length + 1374496523)) xs = w := ⟨_, rfl⟩
  rw [hw] at kd
  have kf := FamilyOf_run w
  have hne := famOf_ne w
  have hok := famOf_ok w
  obtain ⟨F, hF⟩ : ∃ F, famOf w = F := ⟨_, rfl⟩
  obtain ⟨w1, hw1⟩ : ∃ x, famEnd w = x := ⟨_, rfl⟩
  rw [hF] at kf hne hok
  rw [hw1] at kf
  have kt := WithinFamily_run hok hne bt w1
  obtain ⟨tok, tin⟩ := wnF_ok hok bt w1
  have tne := wnF_ne hok hne bt w1
  obtain ⟨T, hT⟩ : ∃ T, wnF F bt w1 = T := ⟨_, rfl⟩
  obtain ⟨w2, hw2⟩ : ∃ x, (wnT F bt w1).w = x := ⟨_, rfl⟩
  rw [hT] at kt tok tin tne
  rw [hw2] at kt
  clear hw hF hw1 hT hw2
  have g5 := hne.g.2
  have p5 := hne.p.2
  have l5 := hne.lo.1
  have h5 := hne.hi.1
  refine spec_run e_law02_CurveBetween fun G => ?_
  simp only [go_sem]
  refine callN1 kd ⟨by rw [bel_view, bels_ints]; trivial, trivial⟩ (dr_bel _ _) (by simp) (by simp) ?_
  simp only [go_sem]
  refine cMD kf hne.pure 1 trivial ?_
  obtain ⟨a, b, c', d, e⟩ := thaw_fv F 1
  have hD := fun (A : Heap) (hA : A.length = 1) => thaw_dat (H := A ++ (thaw 6 1 (Fv F)).2) 1 hne.pure fun i hi => by rw [get_new hA]
  simp only [List.length_cons, List.length_nil, e] at hD ⊢
  generalize (thaw 6 1 (Fv F)).2 = Y at *
  simp only [go_sem]
  have hM : frz 6 (Heap.mask (some (Dr w1) :: (Y ++ [some (Row.cells false 4 [AVal.agg [AVal.sl a 0 F.g.length, AVal.sl b 0 F.p.length, AVal.sl c' 0 F.lo.length, AVal.sl d 0 F.hi.length]])])) [0]) (.agg [AVal.sl a 0 F.g.length, AVal.sl b 0 F.p.length, AVal.sl c' 0 F.lo.length, AVal.sl d 0 F.hi.length]) = Fv F :=
    (((hD [some (Dr w1)] rfl).app [some (Row.cells false 4 [AVal.agg [AVal.sl a 0 F.g.length, AVal.sl b 0 F.p.length, AVal.sl c' 0 F.lo.length, AVal.sl d 0 F.hi.length]])] (fun r hr => by rw [upFrom_mem] at hr; simp; omega)).mask (fun r hr => by rw [upFrom_mem] at hr; simp; omega)).frz
  refine cMD kt tne.pure 6 ⟨.inl hM, .inl rfl, trivial⟩ ?_
  obtain ⟨a1, b1, c1, d1, e1⟩ := thaw_fv T (Y.length + 1 + 1)
  have hD2 := fun (A : Heap) (hA : A.length = Y.length + 1 + 1) => thaw_dat (H := A ++ (thaw 6 (Y.length + 1 + 1) (Fv T)).2) (Y.length + 1 + 1) tne.pure fun i hi => by rw [get_new hA]
  simp only [List.length_cons, List.length_append, List.length_nil, Nat.zero_add, e1] at hD2 ⊢
  generalize (thaw 6 (Y.length + 1 + 1) (Fv T)).2 = Z at *
  have tg := tin.g
  have tp := tin.p
  have tl5 := tne.lo.1
  have th5 := tne.hi.1
  have hE : ∀ (r0 : Option Row) (R : Heap), frz 6 (r0 :: (Y ++ R)) (.agg [AVal.sl a 0 F.g.length, AVal.sl b 0 F.p.length, AVal.sl c' 0 F.lo.length, AVal.sl d 0 F.hi.length]) = Fv F := fun r0 R => ((hD [r0] rfl).app R (fun r hr => by rw [upFrom_mem] at hr; simp; omega)).frz
  have hE2 : ∀ (r0 b : Option Row) (R : Heap), frz 6 (r0 :: (Y ++ b :: (Z ++ R))) (.agg [AVal.sl a1 0 T.g.length, AVal.sl b1 0 T.p.length, AVal.sl c1 0 T.lo.length, AVal.sl d1 0 T.hi.length]) = Fv T := fun r0 b R => by
    have := ((hD2 ([r0] ++ (Y ++ [b])) (by simp)).app R (fun r hr => by rw [upFrom_mem] at hr; simp; omega)).frz
    simpa using this
  simp only [List.set_cons_zero, List.cons_append, List.append_assoc, List.nil_append]
  clear hD hD2 hM kt kf kd e e1
  have m1 := mod_pos g 16000 (by omega)
  have m2 := mod_pos p 350000 (by omega)
  have m3 := mod_pos y 40000 (by omega)
  have b5 := Int.emod_nonneg g (b := 16000) (by omega)
  have b6 := Int.emod_lt_of_pos g (b := 16000) (by omega)
  have b7 := Int.emod_nonneg p (b := 350000) (by omega)
  have b8 := Int.emod_lt_of_pos p (b := 350000) (by omega)
  have b9 := Int.emod_nonneg y (b := 40000) (by omega)
  have b10 := Int.emod_lt_of_pos y (b := 40000) (by omega)
  generalize g % 16000 = gm at *
  generalize p % 350000 = pm at *
  generalize y % 40000 = ym at *
  have W3 : IntKind.i64.wrap (gm - 11000) = gm - 11000 := w64 (by omega)
  obtain ⟨G', hG⟩ : ∃ x, gm - 11000 = x := ⟨_, rfl⟩
  rw [hG] at W3
  have W4 : IntKind.i64.wrap (G' + ym) = G' + ym := w64 (by omega)
  have W5 : IntKind.i64.wrap (pm + ym) = pm + ym := w64 (by omega)
  have tgl : T.g.length = F.g.length := by rw [tg]
  have tpl : T.p.length = F.p.length := by rw [tp]
  have A := fun g p => At_run F (by omega) (by omega) (by omega) (by omega) g p
  have B := fun g p => At_run T (by omega) (by omega) (by omega) (by omega) g p
  have A1 := A G' pm
  have A2 := A (G' + ym) pm
  have A3 := A G' (pm + ym)
  have A4 := B G' pm
  have I1 := Inside_run F T (by omega) (by omega) (by omega) (by omega) (by omega) (by omega) (by omega) (by omega)
  rw [insB_wn hok tok tin] at I1
  rw [atA_ok hok (by omega) (by omega)] at A1 A2 A3
  rw [atA_ok tok (by omega) (by omega)] at A4
  have q1 := at_up hok (g := G') (g' := G' + ym) (p := pm) (by omega)
  have q2 := at_right hok (g := G') (p := pm) (p' := pm + ym) (by omega)
  have q3 := at_wn hok tin G' pm
  unfold Nx at q1 q2
  clear A B
  generalize atV F G' pm = r1 at *
  generalize atV F (G' + ym) pm = r2 at *
  generalize atV F G' (pm + ym) = r3 at *
  generalize atV T G' pm = r4 at *
  have v1 := within_yes (a := ⟨r4.1, r4.2⟩) (b := ⟨r1.1, r1.2⟩) ⟨q3.1, q3.2⟩
  have n1 : r2.1 ≥ r1.1 := q1.1
  have n2 : r2.2 ≥ r1.2 := q1.2
  have n3 : r3.1 ≥ r1.1 := q2.1
  have n4 : r3.2 ≥ r1.2 := q2.2
  simp only [go_sem]
  refine cP m1 ?_
  simp only [go_sem, W3, hG]
  refine cP m2 ?_
  simp only [go_sem, W3, hG]
  refine cP m3 ?_
  simp only [go_sem, W3, hG]
  refine cF A1 6 ⟨.inl (hE _ _), .inl rfl, .inl rfl, trivial⟩ ?_
  simp only [go_sem, W4, W5, List.append_assoc, List.cons_append, List.nil_append]
  refine cF A2 6 ⟨.inl (hE _ _), .inl rfl, .inl rfl, trivial⟩ ?_
  simp only [go_sem, W4, W5, List.append_assoc, List.cons_append, List.nil_append]
  refine cF A3 6 ⟨.inl (hE _ _), .inl rfl, .inl rfl, trivial⟩ ?_
  simp only [go_sem, W4, W5, List.append_assoc, List.cons_append, List.nil_append]
  refine cF A4 6 ⟨.inl (hE2 _ _ _), .inl rfl, .inl rfl, trivial⟩ ?_
  simp only [go_sem, W4, W5, List.append_assoc, List.cons_append, List.nil_append]
  refine cF I1 6 ⟨.inl (hE _ _), .inl (hE2 _ _ _), trivial⟩ ?_
  simp only [go_sem, n1, n2, n3, n4, List.append_assoc, List.cons_append, List.nil_append]
  refine cP v1 ?_
  simp only [go_sem, List.append_assoc, List.cons_append, List.nil_append]
  refine cP awake_ok ?_
  simp only [go_sem]
end Go.Proofs

