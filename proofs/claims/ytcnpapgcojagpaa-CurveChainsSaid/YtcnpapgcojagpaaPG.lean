/- A part of the proof. -/
import Derived.Test.YtcnpapgcojagpaaPF
set_option linter.unusedSimpArgs false
set_option linter.unusedVariables false
namespace Go.Proofs
open Go Go.Sx Go.Fam
attribute [local irreducible] Run

set_option maxHeartbeats 16000000 in
set_option maxRecDepth 20000 in
theorem within_false {f : Fa} (hf : FaOK f) (w0 : Int) : Go.Sx.Fn Try.prog n_kit_WithinFamily [.ptr 0 0 0 1, Fv f, .bool false] [some (Dr w0)] fun v H' => ∃ ι, Dat 6 H' ι v (Fv (wnF f false w0)) ∧ ι.Nodup ∧ 0 ∉ ι ∧ H'[0]? = some (some (Dr (wnT f false w0).w)) := by
  obtain ⟨tL, tH, sL, sH⟩ := hf.tabs
  have g0 : f.g ≠ [] := by have := hf.g.pos; intro e; rw [e] at this; simp at this
  have p0 : f.p ≠ [] := by have := hf.p.pos; intro e; rw [e] at this; simp at this
  have gl0 := hf.g.pos
  have pl0 := hf.p.pos
  have gm := hf.g.most
  have pm := hf.p.most
  have o1 := Own_run f.g (by omega)
  have o2 := Own_run f.p (by omega)
  simp only [vw] at o1 o2
  refine run_fn e_kit_WithinFamily fun G => ?_
  simp only [go_sem, Fv, Fcs, tw, vw]
  refine dFN o1 6 [] ?_ ?_
  · exact ⟨.inl (by simp [frz, Function.comp_def]), trivial⟩
  simp only [go_sem, ren]
  refine dFN o2 6 [] ?_ ?_
  · exact ⟨.inl (by simp [frz, Function.comp_def]), trivial⟩
  simp only [go_sem, ren]
  obtain ⟨T, hT⟩ : ∃ T, wnT f false w0 = T := ⟨_, rfl⟩
  have hw : wnF f false w0 = ⟨f.g, f.p, T.lo, T.hi⟩ := by unfold wnF; rw [hT]
  rw [hw, hT]
  have hI0 : WnI f [some (Dr w0), some (.cells false 4 [Fv f]), some (.cells false 4 [.agg [.nilsl, .nilsl, .nilsl, .nilsl]]), some (.cells true 1 (ivL f.g)), some (.cells true 1 (ivL f.p)), some (.cells false 4 [.agg [.sl 3 0 f.g.length, .sl 4 0 f.p.length, .nilsl, .nilsl]])] w0 [] [] [] []
      (.sl 3 0 f.g.length) (.sl 4 0 f.p.length) .nilsl .nilsl .nilsl .nilsl := by
    refine ⟨⟨rfl, rfl, rfl, rfl⟩, [3], [4], [], [], [], [], fun a ha => by unfold wF at ha; simp; omega, vw_put g0 rfl rfl, vw_put p0 rfl rfl, ⟨rfl, rfl, rfl⟩, ⟨rfl, rfl, rfl⟩, ⟨rfl, rfl, rfl⟩, ⟨rfl, rfl, rfl⟩, fun a => ?_, fun a ha => ?_⟩
    · simp only [List.count_cons, List.count_nil, beq_iff_eq]
      split <;> split <;> omega
    · unfold wF at ha
      simp only [List.count_cons, List.count_nil, beq_iff_eq]
      rw [if_neg (by omega), if_neg (by omega)]
  refine loop_ind k_kit_WithinFamily_r24.eq_1 (fun a : Nat × Int × Heap × List (List Int) × List (List Int) × AVal × AVal × AVal × AVal => ∃ m, f.g.length = a.1 + m ∧ gTab (wcell f false) f.p.length m a.2.1 a.2.2.2.1 a.2.2.2.2.1 = T ∧ a.2.2.2.1.length = a.1 ∧ TabI (wnE f false) f.p.length a.2.2.2.1 a.2.2.2.2.1 ∧
      WnI f a.2.2.1 a.2.1 a.2.2.2.1 a.2.2.2.2.1 [] [] a.2.2.2.2.2.1 a.2.2.2.2.2.2.1 a.2.2.2.2.2.2.2.1 a.2.2.2.2.2.2.2.2 .nilsl .nilsl) (fun a => f.g.length - a.1)
    (fun a => (tsets 132 (wT false ++ [(8, .int .i64 a.1)]), a.2.2.1)) (0, w0, _, [], [], .sl 3 0 f.g.length, .sl 4 0 f.p.length, .nilsl, .nilsl) ⟨f.g.length, by simp, hT, rfl, tab0, hI0⟩ (by simp [go_sem, wT]) (by simp [Fv, Fcs, tw, vw]) ?_
  rintro ⟨i, w, J, L, U, v0, v1, v2, v3⟩ ⟨m, hm, hG, hL, hTab, hI⟩ ih
  dsimp only at hm hG hL hTab hI ih ⊢
  have hU : U.length = i := by rw [hTab.len, hL]
  by_cases h1 : i < f.g.length
  · have h2 : (i : Int) < f.g.length := by omega
    have m0 : ¬ (i : Int) < 0 := by omega
    have h3 := idx_next h1 (by omega)
    obtain ⟨m, rfl⟩ : ∃ n, m = n + 1 := ⟨m - 1, by omega⟩
    obtain ⟨Ur, hUr⟩ : ∃ Ur, lastOf L U = Ur := ⟨_, rfl⟩
    simp only [gTab, hUr] at hG
    obtain ⟨R, hR⟩ : ∃ R, gRow (wcell f false i) Ur f.p.length w [] [] = R := ⟨_, rfl⟩
    rw [hL, hR] at hG
    have hUE : ∀ j q, j < f.p.length → upOf Ur j = some q → ∃ i', i = i' + 1 ∧ wnE f false i' j q := fun j q hj hq => by
      rw [← hUr] at hq
      unfold lastOf upOf at hq
      split at hq
      · cases hq
      · cases hq
        have := hTab.e (L.length - 1) j (by omega) hj
        rw [show U.getD (L.length - 1) [] = U.getD (L.length - 1) [] from rfl] 
        exact ⟨L.length - 1, by omega, this⟩
    have hc := wcell_ok hf false
    obtain ⟨rl, hrl', ll⟩ := tL.row i h1
    obtain ⟨rh, hrh', lh⟩ := tH.row i h1
    have c0 := cells_at hI.1.r1
    simp only [Fv, Fcs, vw, tw] at c0
    simp only [go_sem, wT, h2, c0, List.length_map]
    refine loop_ind k_kit_WithinFamily_r21.eq_1 (fun a : Nat × Int × Heap × List Int × List Int × AVal × AVal => ∃ m, f.p.length = a.1 + m ∧ gRow (wcell f false i) Ur m a.2.1 a.2.2.2.1 a.2.2.2.2.1 = R ∧ a.2.2.2.1.length = a.1 ∧ RowI (wnE f false) i Ur a.2.2.2.1 a.2.2.2.2.1 ∧
        WnI f a.2.2.1 a.2.1 L U a.2.2.2.1 a.2.2.2.2.1 v0 v1 v2 v3 a.2.2.2.2.2.1 a.2.2.2.2.2.2) (fun a => f.p.length - a.1)
      (fun a => (tsets 132 (wT false ++ [(8, .int .i64 i), (9, a.2.2.2.2.2.1), (10, a.2.2.2.2.2.2), (11, .int .i64 a.1)]), a.2.2.1)) (0, w, J, [], [], .nilsl, .nilsl) ⟨f.p.length, by simp, hR, rfl, ⟨rfl, by simp, by simp, by simp⟩, hI⟩ (by simp [go_sem, wT]) rfl ?_
    rintro ⟨k, w, J, lo, hi, v4, v5⟩ ⟨n, hn, hRg, hlo, hRow, hR'⟩ ihk
    clear hI
    dsimp only at hn hRg hlo hRow hR' ihk ⊢
    obtain ⟨hH, κ0, κ1, κ2, κ3, κ4, κ5, hF⟩ := hR'
    obtain ⟨f0, f1, f2, f5⟩ := hH
    have hhi : hi.length = k := by rw [hRow.len, hlo]
    have c0 := cells_at f1
    simp only [Fv, Fcs, vw, tw] at c0
    by_cases j1 : k < f.p.length
    · have j2 : (k : Int) < f.p.length := by omega
      have m1 : ¬ (k : Int) < 0 := by omega
      have j3 := idx_next j1 (by omega)
      obtain ⟨n, rfl⟩ : ∃ q, n = q + 1 := ⟨n - 1, by omega⟩
      simp only [gRow, hlo] at hRg
      have y1 := get_at (l := rl) (i := k) (by omega)
      have y2 := get_at (l := rh) (i := k) (by omega)
      rw [← tg_get hrl'] at y1
      rw [← tg_get hrh'] at y2
      have hk0 := hf.inn i k h1 j1
      have hcell := hc.ok i k w (upOf Ur k) (prevOf lo hi) h1 j1 (fun q hq => hUE k q j1 hq) (fun q hq => by
        unfold prevOf at hq
        split at hq
        · cases hq
        · cases hq
          exact ⟨lo.length - 1, by omega, hRow.e _ (by omega)⟩)
      have hrow' := hRow.snoc (by rw [hlo]; exact hcell.1) (by rw [hlo]; exact hcell.2.1) hcell.2.2
      have ihn := fun J' v4' v5' hh => ihk (k + 1, (wcell f false i k w (upOf Ur k) (prevOf lo hi)).w, J', lo ++ [(wcell f false i k w (upOf Ur k) (prevOf lo hi)).lo], hi ++ [(wcell f false i k w (upOf Ur k) (prevOf lo hi)).hi], v4', v5') (by omega) ⟨n, by omega, hRg, by simp; omega, hrow', hh⟩
      clear ihk hRg hrow'
      dsimp only at ihn
      have kb := between_ok w (tg f.lo i k) (tg f.hi i k) (by omega) (by omega) (by omega)
      have bi := btw_in (w := w) (lo := tg f.lo i k) (hi := tg f.hi i k) (by omega)
      obtain ⟨A, hA⟩ : ∃ x, btw w (tg f.lo i k) (tg f.hi i k) = x := ⟨_, rfl⟩
      obtain ⟨wA, hwA⟩ : ∃ x, dstep w = x := ⟨_, rfl⟩
      rw [hA, hwA] at kb
      rw [hA] at bi
      have z5 := hF.len 5 (by simp [wF])
      have l0 := (List.getElem?_eq_some_iff.1 f0).1
      have hset : ∀ X : Row, (J.set 0 (some X))[0]? = some (some X) := fun X => List.getElem?_set_self l0
      have off : ∀ {j : Nat} {g : Bool} {sz : Nat} {es : List AVal}, J[j]? = some (some (.cells g sz es)) → j ≠ 0 → ∀ X, Heap.cellsAt (J.set 0 X) j = some (g, sz, es) := fun h hj X => cells_at (by rw [List.getElem?_set_ne (fun e => hj e.symm)]; exact h)
      have hF2 : ∀ X, FS wF (J.set 0 X) f.g f.p L U lo hi v0 v1 v2 v3 v4 v5 κ0 κ1 κ2 κ3 κ4 κ5 := fun X => hF.fix (fun q hq => List.getElem?_set_ne (fun e => hq (by simp [wF, ← e]))) (fun a ha => by have := hF.len a ha; simpa using this)
      have hlen : ∀ X, (J.set 0 X).length = J.length := fun X => List.length_set
      have o1 : ∀ X, Heap.cellsAt (J.set 0 X) 1 = _ := fun X => off f1 (by decide) X
      simp only [Fv, Fcs, vw, tw] at o1
      have o5 : ∀ X, Heap.cellsAt (J.set 0 X) 5 = _ := fun X => off f5 (by decide) X
      by_cases i0 : i = 0
      · skip
        have k1 : ¬ (i : Int) > 0 := by omega
        have hU0 : Ur = none := by rw [← hUr]; unfold lastOf; rw [if_pos (by omega)]
        have eu : upOf Ur k = none := by rw [hU0]; rfl
        rw [eu] at ihn hcell
        by_cases k0 : k = 0
        · skip
          have k2 : ¬ (k : Int) > 0 := by omega
          have : lo = [] := List.length_eq_zero_iff.1 (by omega)
          subst this
          have : hi = [] := List.length_eq_zero_iff.1 (by omega)
          subst this
          have ep : prevOf [] [] = none := rfl
          rw [ep] at ihn hcell
          obtain ⟨e4, e5, -⟩ := hF.first
          subst e4; subst e5
          obtain ⟨C, hC⟩ : ∃ x, A = x := ⟨_, rfl⟩
          have hAC : Go.Proofs.wA f i k w (none) (none) = C := by subst hC; subst hA; rfl
          have hce : (wcell f false i k w (none) (none)).lo = C := hAC
          have CZ : C ≤ tg f.hi i k ∧ 0 ≤ C := by have h := hcell.1; rw [hce] at h; unfold wnE at h; omega
          have kc := between_ok wA C (tg f.hi i k) (by omega) (by omega) (by omega)
          obtain ⟨B, hB⟩ : ∃ x, btw wA C (tg f.hi i k) = x := ⟨_, rfl⟩
          obtain ⟨wB', hwB⟩ : ∃ x, dstep wA = x := ⟨_, rfl⟩
          rw [hB, hwB] at kc
          have ec : wcell f false i k w (none) (none) = ⟨C, B, wB'⟩ := by subst hB; subst hwB; subst hC; subst hA; subst hwA; rfl
          rw [ec] at ihn
          dsimp only at ihn
          obtain ⟨D, hDD⟩ : ∃ x, B = x := ⟨_, rfl⟩
          rw [hDD] at ihn
          subst hC; subst hDD
          clear hcell hRow hUE hc
          simp only [go_sem, wT, j2, vw, List.length_map, m0, m1, hrl', hrh', y1, y2, Int.toNat_natCast, c0]
          refine cD kb ?_ (hj := f0) (hk := by omega)
          simp only [go_sem, List.set_set, e_mx, k1, k2, j3, Int.toNat_natCast, o1, o5, List.length_map, vw, m0, m1, hrh', y2]
          refine cD kc ?_ (hj := hset _) (hk := by rw [hlen]; omega)
          simp only [go_sem, List.set_set, e_mx, k1, k2, j3, Int.toNat_natCast, o1, o5, List.length_map, vw, m0, m1, hrh', y2]
          refine ⟨by decide, by decide, ?_⟩
          exact ihn _ _ _ ⟨WnH.mono ⟨f0, f1, f2, f5⟩ (by rw [List.getElem?_append_left (by rw [hlen]; omega)]; exact hset _) (fun q hq q0 hl => by rw [List.getElem?_append_left (by rw [hlen]; exact hl), List.getElem?_set_ne (fun e => q0 e.symm)]), _, _, _, _, _, _,
            (hF2 (Dr wB')).first.2.2 _ ((J.set 0 (some (Dr wB'))).length + 1) ((J.set 0 (some (Dr wB'))).length + 3) A B (by omega) (by omega) (by omega) (fun q _ hq => List.getElem?_append_left hq) (by rw [get_new rfl]; rfl) (by rw [get_new rfl]; rfl)⟩ _ (by simp [go_sem, wT])
        · skip
          have k2 : (k : Int) > 0 := by omega
          obtain ⟨j, rfl⟩ : ∃ j, k = j + 1 := ⟨k - 1, by omega⟩
          have lo0 : lo ≠ [] := by rintro rfl; simp at hlo
          have hi0 : hi ≠ [] := by rintro rfl; simp at hhi
          have l1 := get_at (l := lo) (i := j) (by omega)
          have l2 := get_at (l := hi) (i := j) (by omega)
          have ep : prevOf lo hi = some (at1 lo j, at1 hi j) := by unfold prevOf; rw [if_neg (by omega), hlo, Nat.add_sub_cancel]
          rw [ep] at ihn hcell
          obtain ⟨p1, hp1⟩ : ∃ x, at1 lo j = x := ⟨_, rfl⟩
          obtain ⟨p2, hp2⟩ : ∃ x, at1 hi j = x := ⟨_, rfl⟩
          rw [hp1] at l1 ihn hcell
          rw [hp2] at l2 ihn hcell
          have x4 : IntKind.i64.wrap (((j + 1 : Nat) : Int) - 1) = j := by rw [w64 (by omega)]; omega
          have n4 : ¬ (j : Int) < 0 := by omega
          have y3 : (j : Int) < lo.length := by omega
          have y4 : (j : Int) < hi.length := by omega
          have z3 : (lo.length + 1) * 8 ≤ 2 ^ 44 := by omega
          have z4 : (hi.length + 1) * 8 ≤ 2 ^ 44 := by omega
          obtain ⟨r, s, e4, e5, hrs, hr, hs, g4, g5, -⟩ := hF.next lo0 hi0
          have r0 : r ≠ 0 := by rintro rfl; exact hr (by simp [wF])
          have s0 : s ≠ 0 := by rintro rfl; exact hs (by simp [wF])
          have d1 := off g4 r0
          have d2 := off g5 s0
          have hrl := (List.getElem?_eq_some_iff.1 g4).1
          have hsl := (List.getElem?_eq_some_iff.1 g5).1
          have q1 := fun X Y => cells_more (d1 X) Y
          have q2 := fun X Y x => put_more (H := J.set 0 X) (j := r) (by rw [List.length_set]; exact hrl) Y x
          have q3 := fun X x Y => cells_more (H := (J.set 0 X).set r x) (j := s) (cells_at (by rw [List.getElem?_set_ne hrs, List.getElem?_set_ne (fun e => s0 e.symm)]; exact g5)) Y
          have q4 := fun X z Y x => put_more (H := (J.set 0 X).set r z) (j := s) (by simpa using hsl) Y x
          obtain ⟨C, hC⟩ : ∃ x, mx A p1 = x := ⟨_, rfl⟩
          have hAC : Go.Proofs.wA f i (j + 1) w (none) (some (p1, p2)) = C := by subst hC; subst hA; rfl
          have hce : (wcell f false i (j + 1) w (none) (some (p1, p2))).lo = C := hAC
          have CZ : C ≤ tg f.hi i (j + 1) ∧ 0 ≤ C := by have h := hcell.1; rw [hce] at h; unfold wnE at h; omega
          have kc := between_ok wA C (tg f.hi i (j + 1)) (by omega) (by omega) (by omega)
          obtain ⟨B, hB⟩ : ∃ x, btw wA C (tg f.hi i (j + 1)) = x := ⟨_, rfl⟩
          obtain ⟨wB', hwB⟩ : ∃ x, dstep wA = x := ⟨_, rfl⟩
          rw [hB, hwB] at kc
          have ec : wcell f false i (j + 1) w (none) (some (p1, p2)) = ⟨C, mx B p2, wB'⟩ := by subst hB; subst hwB; subst hC; subst hA; subst hwA; rfl
          rw [ec] at ihn
          dsimp only at ihn
          obtain ⟨D, hDD⟩ : ∃ x, mx B p2 = x := ⟨_, rfl⟩
          rw [hDD] at ihn
          obtain ⟨r', s', e4', e5', -, -, -, -, -, hnn⟩ := (hF2 (Dr wB')).next lo0 hi0
          subst e4; subst e5
          obtain rfl : r = r' := by simpa using e4'
          obtain rfl : s = s' := by simpa using e5'
          clear hcell hRow hUE hc
          simp only [go_sem, wT, j2, vw, List.length_map, m0, m1, hrl', hrh', y1, y2, Int.toNat_natCast, c0]
          refine cD kb ?_ (hj := f0) (hk := by omega)
          simp only [go_sem, List.set_set, e_mx, k1, k2, j3, Int.toNat_natCast, o1, o5, List.length_map, vw, d1, d2, l1, l2, x4, n4, y3, y4, z3, z4, q1, q2, q3, q4, hC, hDD, m0, m1, hrh', y2]
          refine cD kc ?_ (hj := hset _) (hk := by rw [hlen]; omega)
          simp only [go_sem, List.set_set, e_mx, k1, k2, j3, Int.toNat_natCast, o1, o5, List.length_map, vw, d1, d2, l1, l2, x4, n4, y3, y4, z3, z4, q1, q2, q3, q4, hC, hDD, m0, m1, hrh', y2]
          have hrl' : r < (J.set 0 (some (Dr wB'))).length := by rw [hlen]; exact hrl
          have hsl' : s < (J.set 0 (some (Dr wB'))).length := by rw [hlen]; exact hsl
          have nF : ∀ q, wF q → q ≠ r ∧ q ≠ s := fun q hq => ⟨fun e => hr (by rw [← e]; exact hq), fun e => hs (by rw [← e]; exact hq)⟩
          exact ihn _ _ _ ⟨WnH.mono ⟨f0, f1, f2, f5⟩ (by rw [two_off (by rw [hlen]; omega) (nF 0 (by simp [wF])).1 (nF 0 (by simp [wF])).2]; exact hset _) (fun q hq q0 hl => by rw [two_off (by rw [hlen]; exact hl) (nF q hq).1 (nF q hq).2, List.getElem?_set_ne (fun e => q0 e.symm)]), _, _, _, _, _, _,
            hnn _ C D (fun q _ hl a b => two_off hl a b) (two_r hrl' hrs) (two_s hsl') (fun a ha => by have := hF.len a ha; simp; omega)⟩ _ (by simp [go_sem, wT])
      · skip
        have k1 : (i : Int) > 0 := by omega
        obtain ⟨i', rfl⟩ : ∃ q, i = q + 1 := ⟨i - 1, by omega⟩
        have L0 : L ≠ [] := by rintro rfl; simp at hL
        have U0 : U ≠ [] := by rintro rfl; simp at hU
        obtain ⟨ra, hra⟩ : ∃ x, L[i']? = some x := ⟨_, List.getElem?_eq_getElem (by omega)⟩
        obtain ⟨rb, hrb⟩ : ∃ x, U[i']? = some x := ⟨_, List.getElem?_eq_getElem (by omega)⟩
        have la := hTab.l ra (List.mem_of_getElem? hra)
        have lb := hTab.h rb (List.mem_of_getElem? hrb)
        have hU0 : Ur = some (ra, rb) := by
          rw [← hUr]; unfold lastOf; rw [if_neg (by omega), hL]
          simp only [Nat.add_sub_cancel]
          rw [List.getD_eq_getElem?_getD, List.getD_eq_getElem?_getD, hra, hrb]; rfl
        have eu : upOf Ur k = some (at1 ra k, at1 rb k) := by rw [hU0]; rfl
        rw [eu] at ihn hcell
        obtain ⟨tr, ts, vs, us, ta, tb, ev2, ev3, nr, ns, na, nb, gr, gs, lvs, lus, gva, gub, ga, gb⟩ := hF.read L0 U0 hra hrb
        have tr0 : tr ≠ 0 := by rintro rfl; exact nr (by simp [wF])
        have ts0 : ts ≠ 0 := by rintro rfl; exact ns (by simp [wF])
        have ta0 : ta ≠ 0 := by rintro rfl; exact na (by simp [wF])
        have tb0 : tb ≠ 0 := by rintro rfl; exact nb (by simp [wF])
        have t1 := off gr tr0
        have t2 := off gs ts0
        have t3 := off ga ta0
        have t4 := off gb tb0
        have l5 := get_at (l := ra) (i := k) (by omega)
        have l6 := get_at (l := rb) (i := k) (by omega)
        obtain ⟨Q1, hQ1⟩ : ∃ x, at1 ra k = x := ⟨_, rfl⟩
        obtain ⟨Q2, hQ2⟩ : ∃ x, at1 rb k = x := ⟨_, rfl⟩
        rw [hQ1] at l5 ihn hcell
        rw [hQ2] at l6 ihn hcell
        have x5 : IntKind.i64.wrap (((i' + 1 : Nat) : Int) - 1) = i' := by rw [w64 (by omega)]; omega
        have n5 : ¬ (i' : Int) < 0 := by omega
        have n6 : ¬ (k : Int) < 0 := by omega
        have y5 : (i' : Int) < L.length := by omega
        have y6 : (i' : Int) < U.length := by omega
        have y7 : (k : Int) < ra.length := by omega
        have y8 : (k : Int) < rb.length := by omega
        subst ev2; subst ev3
        by_cases k0 : k = 0
        · skip
          have k2 : ¬ (k : Int) > 0 := by omega
          have : lo = [] := List.length_eq_zero_iff.1 (by omega)
          subst this
          have : hi = [] := List.length_eq_zero_iff.1 (by omega)
          subst this
          have ep : prevOf [] [] = none := rfl
          rw [ep] at ihn hcell
          obtain ⟨e4, e5, -⟩ := hF.first
          subst e4; subst e5
          obtain ⟨C, hC⟩ : ∃ x, mx A Q1 = x := ⟨_, rfl⟩
          have hAC : Go.Proofs.wA f (i' + 1) k w (some (Q1, Q2)) (none) = C := by subst hC; subst hA; rfl
          have hce : (wcell f false (i' + 1) k w (some (Q1, Q2)) (none)).lo = C := hAC
          have CZ : C ≤ tg f.hi (i' + 1) k ∧ 0 ≤ C := by have h := hcell.1; rw [hce] at h; unfold wnE at h; omega
          have kc := between_ok wA C (tg f.hi (i' + 1) k) (by omega) (by omega) (by omega)
          obtain ⟨B, hB⟩ : ∃ x, btw wA C (tg f.hi (i' + 1) k) = x := ⟨_, rfl⟩
          obtain ⟨wB', hwB⟩ : ∃ x, dstep wA = x := ⟨_, rfl⟩
          rw [hB, hwB] at kc
          have ec : wcell f false (i' + 1) k w (some (Q1, Q2)) (none) = ⟨C, mx B Q2, wB'⟩ := by subst hB; subst hwB; subst hC; subst hA; subst hwA; rfl
          rw [ec] at ihn
          dsimp only at ihn
          obtain ⟨D, hDD⟩ : ∃ x, mx B Q2 = x := ⟨_, rfl⟩
          rw [hDD] at ihn
          clear hcell hRow hUE hc
          simp only [go_sem, wT, j2, vw, List.length_map, m0, m1, hrl', hrh', y1, y2, Int.toNat_natCast, c0]
          refine cD kb ?_ (hj := f0) (hk := by omega)
          simp only [go_sem, List.set_set, e_mx, k1, k2, j3, Int.toNat_natCast, o1, o5, List.length_map, vw, x5, n5, n6, y5, y6, y7, y8, gva, gub, lvs, lus, t1, t2, t3, t4, l5, l6, hC, hDD, m0, m1, hrh', y2]
          refine cD kc ?_ (hj := hset _) (hk := by rw [hlen]; omega)
          simp only [go_sem, List.set_set, e_mx, k1, k2, j3, Int.toNat_natCast, o1, o5, List.length_map, vw, x5, n5, n6, y5, y6, y7, y8, gva, gub, lvs, lus, t1, t2, t3, t4, l5, l6, hC, hDD, m0, m1, hrh', y2]
          refine ⟨by decide, by decide, ?_⟩
          exact ihn _ _ _ ⟨WnH.mono ⟨f0, f1, f2, f5⟩ (by rw [List.getElem?_append_left (by rw [hlen]; omega)]; exact hset _) (fun q hq q0 hl => by rw [List.getElem?_append_left (by rw [hlen]; exact hl), List.getElem?_set_ne (fun e => q0 e.symm)]), _, _, _, _, _, _,
            (hF2 (Dr wB')).first.2.2 _ ((J.set 0 (some (Dr wB'))).length + 1) ((J.set 0 (some (Dr wB'))).length + 3) C D (by omega) (by omega) (by omega) (fun q _ hq => List.getElem?_append_left hq) (by rw [get_new rfl]; rfl) (by rw [get_new rfl]; rfl)⟩ _ (by simp [go_sem, wT])
        · skip
          have k2 : (k : Int) > 0 := by omega
          obtain ⟨j, rfl⟩ : ∃ j, k = j + 1 := ⟨k - 1, by omega⟩
          have lo0 : lo ≠ [] := by rintro rfl; simp at hlo
          have hi0 : hi ≠ [] := by rintro rfl; simp at hhi
          have l1 := get_at (l := lo) (i := j) (by omega)
          have l2 := get_at (l := hi) (i := j) (by omega)
          have ep : prevOf lo hi = some (at1 lo j, at1 hi j) := by unfold prevOf; rw [if_neg (by omega), hlo, Nat.add_sub_cancel]
          rw [ep] at ihn hcell
          obtain ⟨p1, hp1⟩ : ∃ x, at1 lo j = x := ⟨_, rfl⟩
          obtain ⟨p2, hp2⟩ : ∃ x, at1 hi j = x := ⟨_, rfl⟩
          rw [hp1] at l1 ihn hcell
          rw [hp2] at l2 ihn hcell
          have x4 : IntKind.i64.wrap (((j + 1 : Nat) : Int) - 1) = j := by rw [w64 (by omega)]; omega
          have n4 : ¬ (j : Int) < 0 := by omega
          have y3 : (j : Int) < lo.length := by omega
          have y4 : (j : Int) < hi.length := by omega
          have z3 : (lo.length + 1) * 8 ≤ 2 ^ 44 := by omega
          have z4 : (hi.length + 1) * 8 ≤ 2 ^ 44 := by omega
          obtain ⟨r, s, e4, e5, hrs, hr, hs, g4, g5, -⟩ := hF.next lo0 hi0
          have r0 : r ≠ 0 := by rintro rfl; exact hr (by simp [wF])
          have s0 : s ≠ 0 := by rintro rfl; exact hs (by simp [wF])
          have d1 := off g4 r0
          have d2 := off g5 s0
          have hrl := (List.getElem?_eq_some_iff.1 g4).1
          have hsl := (List.getElem?_eq_some_iff.1 g5).1
          have q1 := fun X Y => cells_more (d1 X) Y
          have q2 := fun X Y x => put_more (H := J.set 0 X) (j := r) (by rw [List.length_set]; exact hrl) Y x
          have q3 := fun X x Y => cells_more (H := (J.set 0 X).set r x) (j := s) (cells_at (by rw [List.getElem?_set_ne hrs, List.getElem?_set_ne (fun e => s0 e.symm)]; exact g5)) Y
          have q4 := fun X z Y x => put_more (H := (J.set 0 X).set r z) (j := s) (by simpa using hsl) Y x
          obtain ⟨C, hC⟩ : ∃ x, mx (mx A Q1) p1 = x := ⟨_, rfl⟩
          have hAC : Go.Proofs.wA f (i' + 1) (j + 1) w (some (Q1, Q2)) (some (p1, p2)) = C := by subst hC; subst hA; rfl
          have hce : (wcell f false (i' + 1) (j + 1) w (some (Q1, Q2)) (some (p1, p2))).lo = C := hAC
          have CZ : C ≤ tg f.hi (i' + 1) (j + 1) ∧ 0 ≤ C := by have h := hcell.1; rw [hce] at h; unfold wnE at h; omega
          have kc := between_ok wA C (tg f.hi (i' + 1) (j + 1)) (by omega) (by omega) (by omega)
          obtain ⟨B, hB⟩ : ∃ x, btw wA C (tg f.hi (i' + 1) (j + 1)) = x := ⟨_, rfl⟩
          obtain ⟨wB', hwB⟩ : ∃ x, dstep wA = x := ⟨_, rfl⟩
          rw [hB, hwB] at kc
          have ec : wcell f false (i' + 1) (j + 1) w (some (Q1, Q2)) (some (p1, p2)) = ⟨C, mx (mx B Q2) p2, wB'⟩ := by subst hB; subst hwB; subst hC; subst hA; subst hwA; rfl
          rw [ec] at ihn
          dsimp only at ihn
          obtain ⟨D, hDD⟩ : ∃ x, mx (mx B Q2) p2 = x := ⟨_, rfl⟩
          rw [hDD] at ihn
          obtain ⟨r', s', e4', e5', -, -, -, -, -, hnn⟩ := (hF2 (Dr wB')).next lo0 hi0
          subst e4; subst e5
          obtain rfl : r = r' := by simpa using e4'
          obtain rfl : s = s' := by simpa using e5'
          clear hcell hRow hUE hc
          simp only [go_sem, wT, j2, vw, List.length_map, m0, m1, hrl', hrh', y1, y2, Int.toNat_natCast, c0]
          refine cD kb ?_ (hj := f0) (hk := by omega)
          simp only [go_sem, List.set_set, e_mx, k1, k2, j3, Int.toNat_natCast, o1, o5, List.length_map, vw, x5, n5, n6, y5, y6, y7, y8, gva, gub, lvs, lus, t1, t2, t3, t4, l5, l6, d1, d2, l1, l2, x4, n4, y3, y4, z3, z4, q1, q2, q3, q4, hC, hDD, m0, m1, hrh', y2]
          refine cD kc ?_ (hj := hset _) (hk := by rw [hlen]; omega)
          simp only [go_sem, List.set_set, e_mx, k1, k2, j3, Int.toNat_natCast, o1, o5, List.length_map, vw, x5, n5, n6, y5, y6, y7, y8, gva, gub, lvs, lus, t1, t2, t3, t4, l5, l6, d1, d2, l1, l2, x4, n4, y3, y4, z3, z4, q1, q2, q3, q4, hC, hDD, m0, m1, hrh', y2]
          have hrl' : r < (J.set 0 (some (Dr wB'))).length := by rw [hlen]; exact hrl
          have hsl' : s < (J.set 0 (some (Dr wB'))).length := by rw [hlen]; exact hsl
          have nF : ∀ q, wF q → q ≠ r ∧ q ≠ s := fun q hq => ⟨fun e => hr (by rw [← e]; exact hq), fun e => hs (by rw [← e]; exact hq)⟩
          exact ihn _ _ _ ⟨WnH.mono ⟨f0, f1, f2, f5⟩ (by rw [two_off (by rw [hlen]; omega) (nF 0 (by simp [wF])).1 (nF 0 (by simp [wF])).2]; exact hset _) (fun q hq q0 hl => by rw [two_off (by rw [hlen]; exact hl) (nF q hq).1 (nF q hq).2, List.getElem?_set_ne (fun e => q0 e.symm)]), _, _, _, _, _, _,
            hnn _ C D (fun q _ hl a b => two_off hl a b) (two_r hrl' hrs) (two_s hsl') (fun a ha => by have := hF.len a ha; simp; omega)⟩ _ (by simp [go_sem, wT])
    · have j2 : ¬ (k : Int) < f.p.length := by omega
      obtain rfl : n = 0 := by omega
      simp only [gRow] at hRg
      subst hRg
      dsimp only at hG
      have kp : k = f.p.length := by omega
      have lo0 : lo ≠ [] := by rintro rfl; simp at hlo; omega
      have hi0 : hi ≠ [] := by rintro rfl; simp at hhi; omega
      have ihn := fun J' v0' v1' v2' v3' hh => ih (i + 1, w, J', L ++ [lo], U ++ [hi], v0', v1', v2', v3') (by omega) ⟨m, by omega, hG, by simp; omega, hTab.snoc (by rw [hUr, hL]; exact hRow) (by omega), hh⟩
      clear ih ihk
      dsimp only at ihn
      have c5 := cells_at f5
      have z0 := hF.len 5 (by simp [wF])
      obtain ⟨r4, e4, -, -⟩ := ls_get hF.d4 lo0
      obtain ⟨r5, e5, -, -⟩ := ls_get hF.d5 hi0
      subst e4; subst e5
      have hlt5 := (List.getElem?_eq_some_iff.1 f5).1
      have q1 := fun Y => cells_more c5 Y
      by_cases i0 : i = 0
      · have : L = [] := List.length_eq_zero_iff.1 (by omega)
        subst this
        have : U = [] := List.length_eq_zero_iff.1 (by omega)
        subst this
        obtain ⟨e2, e3, hn⟩ := hF.row1 lo0 hi0
        subst e2; subst e3
        have q2 := fun Y x => put_more (H := J) hlt5 Y x
        have q3 := fun g sz es Y => cells_more (H := J.set 5 (some (Row.cells g sz es))) (j := 5) (cells_at (List.getElem?_set_self hlt5)) Y
        have q4 := fun z Y x => put_more (H := J.set 5 z) (j := 5) (by simpa using hlt5) Y x
        simp only [go_sem, wT, j2, vw, List.length_map, c0, c5, h3, q1, q2, q3, q4, List.set_set]
        refine ⟨(by first | (simp; done) | (simp; omega)), by decide, (by first | (simp; done) | (simp; omega)), (by first | (simp; done) | (simp; omega)), (by first | (simp; done) | (simp; omega)), by decide, (by first | (simp; done) | (simp; omega)), ?_⟩
        have off : ∀ (A : Option Row) (Y : Heap) (q : Nat), q < J.length → q ≠ 5 → (J.set 5 A ++ Y)[q]? = J[q]? := fun A Y q hq hn => by rw [List.getElem?_append_left (by simpa using hq), List.getElem?_set_ne (fun e => hn e.symm)]
        have at5 : ∀ (A : Option Row) (Y : Heap), (J.set 5 A ++ Y)[5]? = some A := fun A Y => by rw [List.getElem?_append_left (by simpa using hlt5), List.getElem?_set_self hlt5]
        exact ihn _ _ _ _ _ ⟨⟨by rw [off _ _ 0 (by omega) (by omega)]; exact f0, by rw [off _ _ 1 (by omega) (by omega)]; exact f1, by rw [off _ _ 2 (by omega) (by omega)]; exact f2, at5 _ _⟩, _, _, _, _, _, _, hn _ (J.length + 1) (J.length + 3) (by omega) (by omega) (by omega) (fun q hnF hq => off _ _ q hq (by rintro rfl; exact hnF (by simp [wF]))) (by rw [get_new (by simp)]; rfl) (by rw [get_new (by simp)]; rfl)⟩ _ (by simp [go_sem, wT])
      · have L0 : L ≠ [] := by rintro rfl; simp at hL; omega
        have U0 : U ≠ [] := by rintro rfl; simp at hU; omega
        obtain ⟨r, s, vs, us, κ2', κ3', e2, e3, hrs, hr, hs, g2, g3, l2, l3, hn⟩ := hF.rows L0 U0 lo0 hi0
        subst e2; subst e3
        have hrl := (List.getElem?_eq_some_iff.1 g2).1
        have hsl := (List.getElem?_eq_some_iff.1 g3).1
        have r5' : r ≠ 5 := by rintro rfl; exact hr (by simp [wF])
        have s5' : s ≠ 5 := by rintro rfl; exact hs (by simp [wF])
        have z1 : (L.length + 1) * 24 ≤ 2 ^ 44 := by omega
        have z2 : (U.length + 1) * 24 ≤ 2 ^ 44 := by omega
        have a1 := fun Y => cells_more (cells_at g2) Y
        have a2 := fun Y x => put_more (H := J) hrl Y x
        have a3 := fun x Y => cells_more (H := J.set r x) (j := 5) (cells_at (by rw [List.getElem?_set_ne r5']; exact f5)) Y
        have a4 := fun x Y => cells_more (H := J.set r x) (j := s) (cells_at (by rw [List.getElem?_set_ne hrs]; exact g3)) Y
        have a5 := fun z Y x => put_more (H := J.set r z) (j := s) (by simpa using hsl) Y x
        have a6 := fun x y Y => cells_more (H := (J.set r x).set s y) (j := 5) (cells_at (by rw [List.getElem?_set_ne s5', List.getElem?_set_ne r5']; exact f5)) Y
        have a7 := fun z y Y x => put_more (H := (J.set r z).set s y) (j := 5) (by simpa using hlt5) Y x
        have a8 := fun x y g sz es Y => cells_more (H := ((J.set r x).set s y).set 5 (some (Row.cells g sz es))) (j := 5) (cells_at (List.getElem?_set_self (by simpa using hlt5))) Y
        have a9 := fun z y w Y x => put_more (H := ((J.set r z).set s y).set 5 w) (j := 5) (by simpa using hlt5) Y x
        simp only [go_sem, wT, j2, vw, List.length_map, c0, c5, h3, q1, a1, a2, a3, a4, a5, a6, a7, a8, a9, List.set_set, z1, z2, l2, l3]
        simp only [List.length_set]
        refine ⟨(by first | (simp; done) | (simp; omega)), (by first | (simp; done) | (simp; omega)), (by first | (simp; done) | (simp; omega)), (by first | (simp; done) | (simp; omega)), (by first | (simp; done) | (simp; omega)), ?_⟩
        have off : ∀ (A B C : Option Row) (Y : Heap) (q : Nat), q < J.length → q ≠ r → q ≠ s → q ≠ 5 → (((J.set r A).set s B).set 5 C ++ Y)[q]? = J[q]? := fun A B C Y q hq n1 n2 n3 => by
          rw [List.getElem?_append_left (by simpa using hq), List.getElem?_set_ne (fun e => n3 e.symm), List.getElem?_set_ne (fun e => n2 e.symm), List.getElem?_set_ne (fun e => n1 e.symm)]
        have at5 : ∀ (A B C : Option Row) (Y : Heap), (((J.set r A).set s B).set 5 C ++ Y)[5]? = some C := fun A B C Y => by rw [List.getElem?_append_left (by simpa using hlt5), List.getElem?_set_self (by simpa using hlt5)]
        have atr : ∀ (A B C : Option Row) (Y : Heap), (((J.set r A).set s B).set 5 C ++ Y)[r]? = some A := fun A B C Y => by
          rw [List.getElem?_append_left (by simpa using hrl), List.getElem?_set_ne (fun e => r5' e.symm), List.getElem?_set_ne (fun e => hrs e.symm), List.getElem?_set_self hrl]
        have ats : ∀ (A B C : Option Row) (Y : Heap), (((J.set r A).set s B).set 5 C ++ Y)[s]? = some B := fun A B C Y => by
          rw [List.getElem?_append_left (by simpa using hsl), List.getElem?_set_ne (fun e => s5' e.symm), List.getElem?_set_self (by simpa using hsl)]
        have nr : ∀ q, wF q → q ≠ r := fun q hq e => hr (by rw [← e]; exact hq)
        have ns : ∀ q, wF q → q ≠ s := fun q hq e => hs (by rw [← e]; exact hq)
        exact ihn _ _ _ _ _ ⟨⟨by rw [off _ _ _ _ 0 (by omega) (nr 0 (by simp [wF])) (ns 0 (by simp [wF])) (by omega)]; exact f0, by rw [off _ _ _ _ 1 (by omega) (nr 1 (by simp [wF])) (ns 1 (by simp [wF])) (by omega)]; exact f1, by rw [off _ _ _ _ 2 (by omega) (nr 2 (by simp [wF])) (ns 2 (by simp [wF])) (by omega)]; exact f2, at5 _ _ _ _⟩, _, _, _, _, _, _,
          hn _ (fun q hnF hq n1 n2 => off _ _ _ _ q hq n1 n2 (by rintro rfl; exact hnF (by simp [wF]))) (atr _ _ _ _) (ats _ _ _ _) (fun a ha => by have := hF.len a ha; simp; omega)⟩ _ (by simp [go_sem, wT])
  · have h2 : ¬ (i : Int) < f.g.length := by omega
    obtain rfl : m = 0 := by omega
    simp only [gTab] at hG
    subst hG
    obtain ⟨⟨f0, f1, f2, f5⟩, κ0, κ1, κ2, κ3, κ4, κ5, hF⟩ := hI
    have L0 : L ≠ [] := by rintro rfl; simp at hL; omega
    have U0 : U ≠ [] := by rintro rfl; simp at hU; omega
    obtain ⟨ι, hD, hnd, hge⟩ := hF.all L0 U0
    obtain ⟨_, b0, e0, -, -⟩ := vw_get hF.d0
    obtain ⟨_, b1, e1, -, -⟩ := vw_get hF.d1
    obtain ⟨b2, _, _, e2, -, -, -⟩ := tb_get hF.d2 L0
    obtain ⟨b3, _, _, e3, -, -, -⟩ := tb_get hF.d3 U0
    subst e0; subst e1; subst e2; subst e3
    have c0 := cells_at f1
    simp only [Fv, Fcs, vw, tw] at c0
    have c5 := cells_at f5
    have c2 := cells_at f2
    have hlt2 := (List.getElem?_eq_some_iff.1 f2).1
    have q1 := fun x => put_lt (H := J) (x := x) hlt2
    have q2 := fun g sz es => cells_at (H := J.set 2 (some (Row.cells g sz es))) (j := 2) (List.getElem?_set_self hlt2)
    simp only [go_sem, wT, h2, vw, List.length_map, c0, c5, c2, q1, q2]
    exact ⟨ι, hD.set _ (fun h => hge 2 h (by simp [wF])), hnd, fun h => hge 0 h (by simp [wF]), by rw [List.getElem?_set_ne (by omega)]; exact f0⟩
end Go.Proofs

namespace Go.Proofs
open Go Go.Sx Go.Fam
attribute [local irreducible] Run

end Go.Proofs

namespace Go.Proofs
open Go Go.Sx Go.Fam
attribute [local irreducible] Run

theorem take_more {α : Type} {a b : List α} {i : Nat} {x y : α} (h : a.take i = b.take i) (ha : a[i]? = some x) (hb : b[i]? = some y) (e : x = y) : a.take (i + 1) = b.take (i + 1) := by
  rw [List.take_add_one, List.take_add_one, h, ha, hb, e]
theorem take_all {α : Type} {a b : List α} {i : Nat} (h : a.take i = b.take i) (hl : a.length = b.length) (hi : ¬ i < a.length) : a = b := by
  rwa [List.take_of_length_le (by omega), List.take_of_length_le (by omega)] at h
theorem ne_at {α : Type} {a b : List α} {i : Nat} {x y : α} (ha : a[i]? = some x) (hb : b[i]? = some y) (e : x ≠ y) : a ≠ b := by
  rintro rfl; rw [ha] at hb; exact e (Option.some.inj hb)
def FaS (f : Fa) : Prop := f.g.length ≤ 1000000 ∧ f.p.length ≤ 1000000 ∧ (f.lo.length ≤ 1000000 ∧ ∀ r ∈ f.lo, r.length ≤ 9223372036854775807) ∧ f.hi.length ≤ 1000000 ∧ ∀ r ∈ f.hi, r.length ≤ 9223372036854775807
instance : DecidableEq Fa := fun a b => decidable_of_iff (a.g = b.g ∧ a.p = b.p ∧ a.lo = b.lo ∧ a.hi = b.hi) ⟨fun ⟨h1, h2, h3, h4⟩ => by cases a; cases b; simp_all, by rintro rfl; exact ⟨rfl, rfl, rfl, rfl⟩⟩
theorem fa_eq (a b : Fa) : decide (a = b) = (decide (a.g = b.g) && (decide (a.p = b.p) && (decide (a.lo = b.lo) && decide (a.hi = b.hi)))) := by
  rw [Bool.eq_iff_iff]
  simp only [decide_eq_true_eq, Bool.and_eq_true]
  exact ⟨by rintro rfl; exact ⟨rfl, rfl, rfl, rfl⟩, fun ⟨h1, h2, h3, h4⟩ => by cases a; cases b; simp_all⟩
end Go.Proofs

namespace Go.Sx
open Go
theorem Less.loosen {P : Program} {G : Ctx} {k : Nat} {ρ : List AVal} {H H' : Heap} (hlen : H'.length = H.length) (hl : Loose H H') : Less P G k ⟨ρ, H, []⟩ ⟨ρ, H', []⟩ := fun μ a w hR => by
  refine ⟨μ, ⟨hR.tr, hR.hr.loosen hl, fun r hr => ?_, ?_, fun r hr => by simp at hr⟩, Mu.leB_refl _ _⟩
  · show r < H'.length
    rw [hlen]; exact hR.dom r hr
  · have := hR.mk'; simpa using this
end Go.Sx
namespace Go.Proofs
open Go Go.Sx Go.Fam

section
variable {F : Nat → Prop} {J J' : Heap} {g p : List Int} {L U : List (List Int)} {lo hi : List Int} {v0 v1 v2 v3 v4 v5 : AVal} {κ0 κ1 κ2 κ3 κ4 κ5 : List Nat}
end
end Go.Proofs

namespace Go.Proofs
open Go Go.Sx Go.Fam
attribute [local irreducible] Run

theorem copied_run (l : List Int) (hl : l.length ≤ 1000000) (h0 : l ≠ []) : Ans Try.prog n_curve_copied [vw l] [] (.sl 0 0 l.length) [some (.cells true 1 (l.map (.int .i64)))] := by
  have h8 : l.length * 8 ≤ 2 ^ 44 := by omega
  have h1 : ¬ l = [] := h0
  refine spec_run e_curve_copied fun G => ?_
  simp only [go_sem, vw, List.length_map, h8, h1]
  simp [h1]
end Go.Proofs

namespace Go.Proofs
open Go Go.Sx Go.Fam
attribute [local irreducible] Run

structure AcH (f : Fa) (J : Heap) (v0 v1 v2 v3 : AVal) : Prop where
  r0 : J[0]? = some (some (.cells false 4 [Fv f]))
  r1 : J[1]? = some (some (.cells false 4 [.agg [.nilsl, .nilsl, .nilsl, .nilsl]]))
  r4 : J[4]? = some (some (.cells false 4 [.agg [v0, v1, v2, v3]]))
theorem AcH.mono {f : Fa} {J J' : Heap} {v0 v1 v2 v3 : AVal} (h : AcH f J v0 v1 v2 v3) (hJ : ∀ q, oF q → q < J.length → J'[q]? = J[q]?) : AcH f J' v0 v1 v2 v3 :=
  ⟨by rw [hJ 0 (by simp [oF]) (List.getElem?_eq_some_iff.1 h.r0).1]; exact h.r0, by rw [hJ 1 (by simp [oF]) (List.getElem?_eq_some_iff.1 h.r1).1]; exact h.r1, by rw [hJ 4 (by simp [oF]) (List.getElem?_eq_some_iff.1 h.r4).1]; exact h.r4⟩
end Go.Proofs

namespace Go.Proofs
open Go Go.Sx Go.Fam
attribute [local irreducible] Run

end Go.Proofs

namespace Go.Proofs
open Go Go.Sx
theorem awake_yes : yes (exFn tab 3000 40 n_law02_awake [] []) = true := by kernel_rfl
theorem awake_ok : Ans Try.prog n_law02_awake [] [] (.bool true) [] := yes_ans mixed tab_ok awake_yes
end Go.Proofs

namespace Go.Proofs
open Go Go.Sx Go.Fam
attribute [local irreducible] Run

end Go.Proofs

namespace Go.Proofs
open Go Go.Sx Go.Fam
attribute [local irreducible] Run

@[go_sem] theorem upFrom_contains (k n r : Nat) : (upFrom k n).contains r = decide (k ≤ r ∧ r < k + n) := by
  rw [Bool.eq_iff_iff]; simp [upFrom_mem]
@[go_sem] theorem disj_up (k n : Nat) (l : List Nat) : disj (upFrom k n) l = l.all fun r => !decide (k ≤ r ∧ r < k + n) := by
  unfold disj
  rw [Bool.eq_iff_iff]
  simp only [List.all_eq_true, upFrom_mem, Bool.not_eq_true', List.contains_eq_mem, decide_eq_false_iff_not]
  exact ⟨fun h r hr hk => h r hk hr, fun h r hk hr => h r hr hk⟩
@[go_sem] theorem dr_nv (w : Int) : (Dr w).nv = True := eq_true (by unfold Dr; exact row_nv_cells _ _ ⟨.agg _ (by intro i hi; simp at hi; subst hi; exact .int _ _), trivial⟩)
end Go.Proofs

namespace Go.Proofs
open Go Go.Sx Go.Fam
attribute [local irreducible] Run

end Go.Proofs

namespace Go.Proofs
open Go Go.Sx Go.Fam

attribute [local irreducible] AT
set_option maxRecDepth 100000
end Go.Proofs

namespace Go.Proofs
open Go Go.Sx Go.Fam
attribute [local irreducible] Run

end Go.Proofs

namespace Go.Proofs
open Go Go.Sx Go.Fam
attribute [local irreducible] Run

theorem WithinFamily_run {f : Fa} (hf : FaOK f) (hn : FaNE f) (b : Bool) (w : Int) : Ans Try.prog n_kit_WithinFamily [.ptr 0 0 0 1, Fv f, .bool b] [some (Dr w)] (thaw 6 1 (Fv (wnF f b w))).1 (some (Dr (wnT f b w).w) :: (thaw 6 1 (Fv (wnF f b w))).2) :=
  ans_dat (wnF_ne hf hn b w).pure (dr_bel _ _) (by cases b; exact within_false hf w; exact within_true hf w)
end Go.Proofs

namespace Go.Proofs
open Go Go.Sx

def k_curve_Copy_r0 : List AOper := [
  ⟨some 1, .box (.tmp 0), none, []⟩,
 ⟨some 2, .box (.const (.agg [.nilsl, .nilsl, .nilsl, .nilsl])), none, []⟩]
def k_curve_Copy_r1 : List AOper := [
  ⟨some 3, .fieldAddr 0 (.tmp 1), none, []⟩,
 ⟨some 4, .load none (.tmp 3), none, []⟩,
 ⟨some 5, .call (.const (.fn (.func 79) [] [])) [.tmp 4], none, []⟩,
 ⟨some 6, .fieldAddr 1 (.tmp 1), none, [0, 1, 2]⟩,
 ⟨some 7, .load none (.tmp 6), none, [0, 1, 2]⟩,
 ⟨some 8, .call (.const (.fn (.func 79) [] [])) [.tmp 7], none, []⟩,
 ⟨some 9, .fieldAddr 2 (.tmp 1), none, [0, 1, 2, 3, 4, 5]⟩,
 ⟨some 10, .load none (.tmp 9), none, [0, 1, 2, 3, 4, 5]⟩,
 ⟨some 11, .call (.const (.fn (.func 80) [] [])) [.tmp 10], none, []⟩,
 ⟨some 12, .fieldAddr 3 (.tmp 1), none, [0, 1, 2, 3, 4, 5, 6, 7, 8]⟩,
 ⟨some 13, .load none (.tmp 12), none, [0, 1, 2, 3, 4, 5, 6, 7, 8]⟩,
 ⟨some 14, .call (.const (.fn (.func 80) [] [])) [.tmp 13], none, []⟩,
 ⟨some 15, .build [.nilsl, .nilsl, .nilsl, .nilsl] [(0, 1, .tmp 5), (1, 1, .tmp 8), (2, 1, .tmp 11), (3, 1, .tmp 14)], none, []⟩,
 ⟨none, .store 4 (.tmp 2) (.tmp 15), none, []⟩]
def k_curve_Copy_r1s : List (List AOper) := [
  [
  ⟨some 3, .fieldAddr 0 (.tmp 1), none, []⟩,
 ⟨some 4, .load none (.tmp 3), none, []⟩,
 ⟨some 5, .call (.const (.fn (.func 79) [] [])) [.tmp 4], none, []⟩,
 ⟨some 6, .fieldAddr 1 (.tmp 1), none, [0, 1, 2]⟩,
 ⟨some 7, .load none (.tmp 6), none, [0, 1, 2]⟩,
 ⟨some 8, .call (.const (.fn (.func 79) [] [])) [.tmp 7], none, []⟩,
 ⟨some 9, .fieldAddr 2 (.tmp 1), none, [0, 1, 2, 3, 4, 5]⟩,
 ⟨some 10, .load none (.tmp 9), none, [0, 1, 2, 3, 4, 5]⟩,
 ⟨some 11, .call (.const (.fn (.func 80) [] [])) [.tmp 10], none, []⟩,
 ⟨some 12, .fieldAddr 3 (.tmp 1), none, [0, 1, 2, 3, 4, 5, 6, 7, 8]⟩,
 ⟨some 13, .load none (.tmp 12), none, [0, 1, 2, 3, 4, 5, 6, 7, 8]⟩], 
  [
  ⟨some 14, .call (.const (.fn (.func 80) [] [])) [.tmp 13], none, []⟩], 
  [
  ⟨some 15, .build [.nilsl, .nilsl, .nilsl, .nilsl] [(0, 1, .tmp 5), (1, 1, .tmp 8), (2, 1, .tmp 11), (3, 1, .tmp 14)], none, []⟩], 
  [
  ⟨none, .store 4 (.tmp 2) (.tmp 15), none, []⟩]]
theorem k_curve_Copy_r1_sg : segs k_curve_Copy_r1 = k_curve_Copy_r1s := by kernel_rfl
theorem k_curve_Copy_r1_st : statOK k_curve_Copy_r1 = true := by kernel_rfl
def k_curve_Copy : AFun := { params := 1, ntmps := 16, body := (.seq (.reg k_curve_Copy_r0 false) (.seq (.reg k_curve_Copy_r1 true) .ret)), res := [.cell 2 (some ((some (4))))] }
theorem k_curve_Copy_ok : cfun Try.prog Try.f31 = k_curve_Copy := by kernel_rfl

def k_curve_Hull_r0 : List AOper := [
  ⟨some 2, .box (.const (.agg [.nilsl, .nilsl, .nilsl, .nilsl])), none, []⟩,
 ⟨some 3, .move (.const (.int .i64 0)), none, []⟩]
def k_curve_Hull_r1 : List AOper := [
  ⟨some 12, .move (.tmp 0), none, []⟩,
 ⟨some 13, .len false (.tmp 12), none, []⟩,
 ⟨some 14, .bin .plain .eql (.tmp 13) (.const (.int .i64 0)), none, []⟩]
def k_curve_Hull_r2 : List AOper := [
  ⟨some 15, .build [.nilsl, .nilsl, .nilsl, .nilsl] [], none, []⟩,
 ⟨none, .store 4 (.tmp 2) (.tmp 15), none, []⟩,
 ⟨some 3, .move (.const (.int .i64 6)), none, []⟩]
def k_curve_Hull_r3 : List AOper := [
  ⟨some 16, .move (.tmp 0), none, []⟩,
 ⟨some 17, .len false (.tmp 16), none, []⟩,
 ⟨some 18, .bin .plain .gtr (.tmp 17) (.const (.int .i64 40)), none, []⟩]
def k_curve_Hull_r4 : List AOper := [
  ⟨some 19, .build [.nilsl, .nilsl, .nilsl, .nilsl] [], none, []⟩,
 ⟨none, .store 4 (.tmp 2) (.tmp 19), none, []⟩,
 ⟨some 3, .move (.const (.int .i64 8)), none, []⟩]
def k_curve_Hull_r5 : List AOper := [
  ⟨some 20, .move (.tmp 0), none, []⟩,
 ⟨some 21, .len false (.tmp 20), none, []⟩,
 ⟨some 22, .move (.const (.int .i64 0)), none, []⟩]
def k_curve_Hull_r6 : List AOper := [
  ⟨some 23, .bin .plain .lss (.tmp 22) (.tmp 21), none, []⟩]
def k_curve_Hull_r7 : List AOper := [
  ⟨some 24, .indexAddr 4 (.tmp 20) (.tmp 22), none, []⟩,
 ⟨some 25, .load (some (4)) (.tmp 24), none, []⟩,
 ⟨some 5, .box (.const (.agg [.nilsl, .nilsl, .nilsl, .nilsl])), none, []⟩,
 ⟨none, .store 4 (.tmp 5) (.tmp 25), none, []⟩]
def k_curve_Hull_r8 : List AOper := [
  ⟨some 26, .load (some (4)) (.tmp 5), none, []⟩,
 ⟨some 27, .call (.const (.fn (.func 27) [] [])) [.tmp 26], none, []⟩,
 ⟨some 6, .move (.tmp 27), none, []⟩]
def k_curve_Hull_r9 : List AOper := [
  ⟨some 28, .move (.tmp 6), none, []⟩,
 ⟨some 29, .bin .plain .neq (.tmp 28) (.const (.int .i64 0)), none, []⟩]
def k_curve_Hull_r10 : List AOper := [
  ⟨some 30, .build [.nilsl, .nilsl, .nilsl, .nilsl] [], none, []⟩,
 ⟨some 31, .move (.tmp 6), none, []⟩,
 ⟨none, .store 4 (.tmp 2) (.tmp 30), none, []⟩,
 ⟨some 3, .move (.tmp 31), none, []⟩]
def k_curve_Hull_r11 : List AOper := [
  ⟨some 32, .fieldAddr 0 (.tmp 5), none, []⟩,
 ⟨some 33, .load none (.tmp 32), none, []⟩,
 ⟨some 34, .move (.tmp 0), none, [0, 1]⟩,
 ⟨some 35, .indexAddr 4 (.tmp 34) (.const (.int .i64 0)), none, [0, 1]⟩,
 ⟨some 36, .fieldAddr 0 (.tmp 35), none, [0, 1]⟩,
 ⟨some 37, .load none (.tmp 36), none, [0, 1]⟩,
 ⟨some 38, .call (.const (.fn (.func 75) [] [])) [.tmp 33, .tmp 37], none, []⟩,
 ⟨some 39, .not (.tmp 38), none, []⟩,
 ⟨some 40, .move (.tmp 39), none, []⟩,
 ⟨some 41, .fieldAddr 1 (.tmp 5), (some (40, false)), []⟩,
 ⟨some 42, .load none (.tmp 41), (some (40, false)), []⟩,
 ⟨some 43, .move (.tmp 0), (some (40, false)), [9, 10]⟩,
 ⟨some 44, .indexAddr 4 (.tmp 43) (.const (.int .i64 0)), (some (40, false)), [9, 10]⟩,
 ⟨some 45, .fieldAddr 1 (.tmp 44), (some (40, false)), [9, 10]⟩,
 ⟨some 46, .load none (.tmp 45), (some (40, false)), [9, 10]⟩,
 ⟨some 47, .call (.const (.fn (.func 75) [] [])) [.tmp 42, .tmp 46], (some (40, false)), []⟩,
 ⟨some 48, .not (.tmp 47), (some (40, false)), []⟩,
 ⟨some 49, .pick (.tmp 40) (.const (.bool true)) (.tmp 48), none, []⟩]
def k_curve_Hull_r11s : List (List AOper) := [
  [
  ⟨some 32, .fieldAddr 0 (.tmp 5), none, []⟩,
 ⟨some 33, .load none (.tmp 32), none, []⟩,
 ⟨some 34, .move (.tmp 0), none, [0, 1]⟩,
 ⟨some 35, .indexAddr 4 (.tmp 34) (.const (.int .i64 0)), none, [0, 1]⟩,
 ⟨some 36, .fieldAddr 0 (.tmp 35), none, [0, 1]⟩,
 ⟨some 37, .load none (.tmp 36), none, [0, 1]⟩], 
  [
  ⟨some 38, .call (.const (.fn (.func 75) [] [])) [.tmp 33, .tmp 37], none, []⟩], 
  [
  ⟨some 39, .not (.tmp 38), none, []⟩], 
  [
  ⟨some 40, .move (.tmp 39), none, []⟩], 
  [
  ⟨some 41, .fieldAddr 1 (.tmp 5), (some (40, false)), []⟩,
 ⟨some 42, .load none (.tmp 41), (some (40, false)), []⟩,
 ⟨some 43, .move (.tmp 0), (some (40, false)), [9, 10]⟩,
 ⟨some 44, .indexAddr 4 (.tmp 43) (.const (.int .i64 0)), (some (40, false)), [9, 10]⟩,
 ⟨some 45, .fieldAddr 1 (.tmp 44), (some (40, false)), [9, 10]⟩,
 ⟨some 46, .load none (.tmp 45), (some (40, false)), [9, 10]⟩], 
  [
  ⟨some 47, .call (.const (.fn (.func 75) [] [])) [.tmp 42, .tmp 46], (some (40, false)), []⟩], 
  [
  ⟨some 48, .not (.tmp 47), (some (40, false)), []⟩], 
  [
  ⟨some 49, .pick (.tmp 40) (.const (.bool true)) (.tmp 48), none, []⟩]]
theorem k_curve_Hull_r11_sg : segs k_curve_Hull_r11 = k_curve_Hull_r11s := by kernel_rfl
theorem k_curve_Hull_r11_st : statOK k_curve_Hull_r11 = true := by kernel_rfl
def k_curve_Hull_r12 : List AOper := [
  ⟨some 50, .build [.nilsl, .nilsl, .nilsl, .nilsl] [], none, []⟩,
 ⟨none, .store 4 (.tmp 2) (.tmp 50), none, []⟩,
 ⟨some 3, .move (.const (.int .i64 3)), none, []⟩]
def k_curve_Hull_r13 : List AOper := [
  ⟨some 51, .bin .plain .add (.tmp 22) (.const (.int .i64 1)), none, []⟩,
 ⟨some 22, .move (.tmp 51), none, []⟩]
def k_curve_Hull_r14 : ACode := (.seq (.reg k_curve_Hull_r6 false) (.seq (.cond (.tmp 23) .skip (.exit 0)) (.seq (.block 1 (.seq (.reg k_curve_Hull_r7 false) (.seq (.seq (.reg k_curve_Hull_r8 false) (.seq (.reg k_curve_Hull_r9 false) (.cond (.tmp 29) (.seq (.reg k_curve_Hull_r10 false) .ret) .skip))) (.seq (.reg k_curve_Hull_r11 true) (.cond (.tmp 49) (.seq (.reg k_curve_Hull_r12 false) .ret) .skip))))) (.reg k_curve_Hull_r13 false))))
def k_curve_Hull_r15 : List AOper := [
  ⟨some 52, .move (.tmp 0), none, []⟩,
 ⟨some 53, .indexAddr 4 (.tmp 52) (.const (.int .i64 0)), none, []⟩,
 ⟨some 54, .load (some (4)) (.tmp 53), none, []⟩,
 ⟨some 55, .call (.const (.fn (.func 31) [] [])) [.tmp 54], none, []⟩,
 ⟨some 7, .box (.const (.agg [.nilsl, .nilsl, .nilsl, .nilsl])), none, []⟩,
 ⟨none, .store 4 (.tmp 7) (.tmp 55), none, []⟩]
def k_curve_Hull_r16 : List AOper := [
  ⟨some 56, .move (.tmp 0), none, []⟩,
 ⟨some 57, .slice false 4 (.tmp 56) (some (.const (.int .i64 1))) none, none, []⟩,
 ⟨some 58, .len false (.tmp 57), none, []⟩,
 ⟨some 59, .move (.const (.int .i64 0)), none, []⟩]
def k_curve_Hull_r17 : List AOper := [
  ⟨some 60, .bin .plain .lss (.tmp 59) (.tmp 58), none, []⟩]
def k_curve_Hull_r18 : List AOper := [
  ⟨some 61, .indexAddr 4 (.tmp 57) (.tmp 59), none, []⟩,
 ⟨some 62, .load (some (4)) (.tmp 61), none, []⟩,
 ⟨some 9, .box (.const (.agg [.nilsl, .nilsl, .nilsl, .nilsl])), none, []⟩,
 ⟨none, .store 4 (.tmp 9) (.tmp 62), none, []⟩]
def k_curve_Hull_r19 : List AOper := [
  ⟨some 63, .fieldAddr 0 (.tmp 7), none, []⟩,
 ⟨some 64, .load none (.tmp 63), none, []⟩,
 ⟨some 65, .len false (.tmp 64), none, []⟩,
 ⟨some 66, .move (.const (.int .i64 0)), none, []⟩]
def k_curve_Hull_r20 : List AOper := [
  ⟨some 67, .bin .plain .lss (.tmp 66) (.tmp 65), none, []⟩]
def k_curve_Hull_r21 : List AOper := [
  ⟨some 68, .move (.tmp 66), none, []⟩,
 ⟨some 10, .move (.tmp 68), none, []⟩]
def k_curve_Hull_r22 : List AOper := [
  ⟨some 69, .fieldAddr 1 (.tmp 7), none, []⟩,
 ⟨some 70, .load none (.tmp 69), none, []⟩,
 ⟨some 71, .len false (.tmp 70), none, []⟩,
 ⟨some 72, .move (.const (.int .i64 0)), none, []⟩]
def k_curve_Hull_r23 : List AOper := [
  ⟨some 73, .bin .plain .lss (.tmp 72) (.tmp 71), none, []⟩]
def k_curve_Hull_r24 : List AOper := [
  ⟨some 74, .move (.tmp 72), none, []⟩,
 ⟨some 11, .move (.tmp 74), none, []⟩]
def k_curve_Hull_r25 : List AOper := [
  ⟨some 75, .fieldAddr 2 (.tmp 7), none, []⟩,
 ⟨some 76, .load none (.tmp 75), none, []⟩,
 ⟨some 77, .move (.tmp 10), none, [0, 1]⟩,
 ⟨some 78, .indexAddr 1 (.tmp 76) (.tmp 77), none, []⟩,
 ⟨some 79, .load none (.tmp 78), none, []⟩,
 ⟨some 80, .move (.tmp 11), none, [0, 1, 2, 3, 4]⟩,
 ⟨some 81, .fieldAddr 2 (.tmp 7), none, [0, 1, 2, 3, 4, 5]⟩,
 ⟨some 82, .load none (.tmp 81), none, [0, 1, 2, 3, 4, 5]⟩,
 ⟨some 83, .move (.tmp 10), none, [0, 1, 2, 3, 4, 5, 6, 7]⟩,
 ⟨some 84, .indexAddr 1 (.tmp 82) (.tmp 83), none, [0, 1, 2, 3, 4, 5]⟩,
 ⟨some 85, .load none (.tmp 84), none, [0, 1, 2, 3, 4, 5]⟩,
 ⟨some 86, .move (.tmp 11), none, [0, 1, 2, 3, 4, 5, 6, 7, 8, 9, 10]⟩,
 ⟨some 87, .indexAddr 1 (.tmp 85) (.tmp 86), none, [0, 1, 2, 3, 4, 5]⟩,
 ⟨some 88, .load none (.tmp 87), none, [0, 1, 2, 3, 4, 5]⟩,
 ⟨some 89, .fieldAddr 2 (.tmp 9), none, [0, 1, 2, 3, 4, 5, 6, 7, 8, 9, 10, 11, 12, 13]⟩,
 ⟨some 90, .load none (.tmp 89), none, [0, 1, 2, 3, 4, 5, 6, 7, 8, 9, 10, 11, 12, 13]⟩,
 ⟨some 91, .move (.tmp 10), none, [0, 1, 2, 3, 4, 5, 6, 7, 8, 9, 10, 11, 12, 13, 14, 15]⟩,
 ⟨some 92, .indexAddr 1 (.tmp 90) (.tmp 91), none, [0, 1, 2, 3, 4, 5, 6, 7, 8, 9, 10, 11, 12, 13]⟩,
 ⟨some 93, .load none (.tmp 92), none, [0, 1, 2, 3, 4, 5, 6, 7, 8, 9, 10, 11, 12, 13]⟩,
 ⟨some 94, .move (.tmp 11), none, [0, 1, 2, 3, 4, 5, 6, 7, 8, 9, 10, 11, 12, 13, 14, 15, 16, 17, 18]⟩,
 ⟨some 95, .indexAddr 1 (.tmp 93) (.tmp 94), none, [0, 1, 2, 3, 4, 5, 6, 7, 8, 9, 10, 11, 12, 13]⟩,
 ⟨some 96, .load none (.tmp 95), none, [0, 1, 2, 3, 4, 5, 6, 7, 8, 9, 10, 11, 12, 13]⟩,
 ⟨some 97, .minmax false [.tmp 88, .tmp 96], none, [0, 1, 2, 3, 4, 5]⟩,
 ⟨some 98, .indexAddr 1 (.tmp 79) (.tmp 80), none, []⟩,
 ⟨none, .store 1 (.tmp 98) (.tmp 97), none, []⟩]
def k_curve_Hull_r25s : List (List AOper) := [
  [
  ⟨some 75, .fieldAddr 2 (.tmp 7), none, []⟩,
 ⟨some 76, .load none (.tmp 75), none, []⟩,
 ⟨some 77, .move (.tmp 10), none, [0, 1]⟩,
 ⟨some 78, .indexAddr 1 (.tmp 76) (.tmp 77), none, []⟩,
 ⟨some 79, .load none (.tmp 78), none, []⟩,
 ⟨some 80, .move (.tmp 11), none, [0, 1, 2, 3, 4]⟩,
 ⟨some 81, .fieldAddr 2 (.tmp 7), none, [0, 1, 2, 3, 4, 5]⟩,
 ⟨some 82, .load none (.tmp 81), none, [0, 1, 2, 3, 4, 5]⟩,
 ⟨some 83, .move (.tmp 10), none, [0, 1, 2, 3, 4, 5, 6, 7]⟩,
 ⟨some 84, .indexAddr 1 (.tmp 82) (.tmp 83), none, [0, 1, 2, 3, 4, 5]⟩,
 ⟨some 85, .load none (.tmp 84), none, [0, 1, 2, 3, 4, 5]⟩,
 ⟨some 86, .move (.tmp 11), none, [0, 1, 2, 3, 4, 5, 6, 7, 8, 9, 10]⟩,
 ⟨some 87, .indexAddr 1 (.tmp 85) (.tmp 86), none, [0, 1, 2, 3, 4, 5]⟩,
 ⟨some 88, .load none (.tmp 87), none, [0, 1, 2, 3, 4, 5]⟩,
 ⟨some 89, .fieldAddr 2 (.tmp 9), none, [0, 1, 2, 3, 4, 5, 6, 7, 8, 9, 10, 11, 12, 13]⟩,
 ⟨some 90, .load none (.tmp 89), none, [0, 1, 2, 3, 4, 5, 6, 7, 8, 9, 10, 11, 12, 13]⟩,
 ⟨some 91, .move (.tmp 10), none, [0, 1, 2, 3, 4, 5, 6, 7, 8, 9, 10, 11, 12, 13, 14, 15]⟩,
 ⟨some 92, .indexAddr 1 (.tmp 90) (.tmp 91), none, [0, 1, 2, 3, 4, 5, 6, 7, 8, 9, 10, 11, 12, 13]⟩,
 ⟨some 93, .load none (.tmp 92), none, [0, 1, 2, 3, 4, 5, 6, 7, 8, 9, 10, 11, 12, 13]⟩,
 ⟨some 94, .move (.tmp 11), none, [0, 1, 2, 3, 4, 5, 6, 7, 8, 9, 10, 11, 12, 13, 14, 15, 16, 17, 18]⟩,
 ⟨some 95, .indexAddr 1 (.tmp 93) (.tmp 94), none, [0, 1, 2, 3, 4, 5, 6, 7, 8, 9, 10, 11, 12, 13]⟩,
 ⟨some 96, .load none (.tmp 95), none, [0, 1, 2, 3, 4, 5, 6, 7, 8, 9, 10, 11, 12, 13]⟩,
 ⟨some 97, .minmax false [.tmp 88, .tmp 96], none, [0, 1, 2, 3, 4, 5]⟩], 
  [
  ⟨some 98, .indexAddr 1 (.tmp 79) (.tmp 80), none, []⟩], 
  [
  ⟨none, .store 1 (.tmp 98) (.tmp 97), none, []⟩]]
theorem k_curve_Hull_r25_sg : segs k_curve_Hull_r25 = k_curve_Hull_r25s := by kernel_rfl
theorem k_curve_Hull_r25_st : statOK k_curve_Hull_r25 = true := by kernel_rfl
def k_curve_Hull_r26 : List AOper := [
  ⟨some 99, .fieldAddr 3 (.tmp 7), none, []⟩,
 ⟨some 100, .load none (.tmp 99), none, []⟩,
 ⟨some 101, .move (.tmp 10), none, [0, 1]⟩,
 ⟨some 102, .indexAddr 1 (.tmp 100) (.tmp 101), none, []⟩,
 ⟨some 103, .load none (.tmp 102), none, []⟩,
 ⟨some 104, .move (.tmp 11), none, [0, 1, 2, 3, 4]⟩,
 ⟨some 105, .fieldAddr 3 (.tmp 7), none, [0, 1, 2, 3, 4, 5]⟩,
 ⟨some 106, .load none (.tmp 105), none, [0, 1, 2, 3, 4, 5]⟩,
 ⟨some 107, .move (.tmp 10), none, [0, 1, 2, 3, 4, 5, 6, 7]⟩,
 ⟨some 108, .indexAddr 1 (.tmp 106) (.tmp 107), none, [0, 1, 2, 3, 4, 5]⟩,
 ⟨some 109, .load none (.tmp 108), none, [0, 1, 2, 3, 4, 5]⟩,
 ⟨some 110, .move (.tmp 11), none, [0, 1, 2, 3, 4, 5, 6, 7, 8, 9, 10]⟩,
 ⟨some 111, .indexAddr 1 (.tmp 109) (.tmp 110), none, [0, 1, 2, 3, 4, 5]⟩,
 ⟨some 112, .load none (.tmp 111), none, [0, 1, 2, 3, 4, 5]⟩,
 ⟨some 113, .fieldAddr 3 (.tmp 9), none, [0, 1, 2, 3, 4, 5, 6, 7, 8, 9, 10, 11, 12, 13]⟩,
 ⟨some 114, .load none (.tmp 113), none, [0, 1, 2, 3, 4, 5, 6, 7, 8, 9, 10, 11, 12, 13]⟩,
 ⟨some 115, .move (.tmp 10), none, [0, 1, 2, 3, 4, 5, 6, 7, 8, 9, 10, 11, 12, 13, 14, 15]⟩,
 ⟨some 116, .indexAddr 1 (.tmp 114) (.tmp 115), none, [0, 1, 2, 3, 4, 5, 6, 7, 8, 9, 10, 11, 12, 13]⟩,
 ⟨some 117, .load none (.tmp 116), none, [0, 1, 2, 3, 4, 5, 6, 7, 8, 9, 10, 11, 12, 13]⟩,
 ⟨some 118, .move (.tmp 11), none, [0, 1, 2, 3, 4, 5, 6, 7, 8, 9, 10, 11, 12, 13, 14, 15, 16, 17, 18]⟩,
 ⟨some 119, .indexAddr 1 (.tmp 117) (.tmp 118), none, [0, 1, 2, 3, 4, 5, 6, 7, 8, 9, 10, 11, 12, 13]⟩,
 ⟨some 120, .load none (.tmp 119), none, [0, 1, 2, 3, 4, 5, 6, 7, 8, 9, 10, 11, 12, 13]⟩,
 ⟨some 121, .minmax true [.tmp 112, .tmp 120], none, [0, 1, 2, 3, 4, 5]⟩,
 ⟨some 122, .indexAddr 1 (.tmp 103) (.tmp 104), none, []⟩,
 ⟨none, .store 1 (.tmp 122) (.tmp 121), none, []⟩]
def k_curve_Hull_r26s : List (List AOper) := [
  [
  ⟨some 99, .fieldAddr 3 (.tmp 7), none, []⟩,
 ⟨some 100, .load none (.tmp 99), none, []⟩,
 ⟨some 101, .move (.tmp 10), none, [0, 1]⟩,
 ⟨some 102, .indexAddr 1 (.tmp 100) (.tmp 101), none, []⟩,
 ⟨some 103, .load none (.tmp 102), none, []⟩,
 ⟨some 104, .move (.tmp 11), none, [0, 1, 2, 3, 4]⟩,
 ⟨some 105, .fieldAddr 3 (.tmp 7), none, [0, 1, 2, 3, 4, 5]⟩,
 ⟨some 106, .load none (.tmp 105), none, [0, 1, 2, 3, 4, 5]⟩,
 ⟨some 107, .move (.tmp 10), none, [0, 1, 2, 3, 4, 5, 6, 7]⟩,
 ⟨some 108, .indexAddr 1 (.tmp 106) (.tmp 107), none, [0, 1, 2, 3, 4, 5]⟩,
 ⟨some 109, .load none (.tmp 108), none, [0, 1, 2, 3, 4, 5]⟩,
 ⟨some 110, .move (.tmp 11), none, [0, 1, 2, 3, 4, 5, 6, 7, 8, 9, 10]⟩,
 ⟨some 111, .indexAddr 1 (.tmp 109) (.tmp 110), none, [0, 1, 2, 3, 4, 5]⟩,
 ⟨some 112, .load none (.tmp 111), none, [0, 1, 2, 3, 4, 5]⟩,
 ⟨some 113, .fieldAddr 3 (.tmp 9), none, [0, 1, 2, 3, 4, 5, 6, 7, 8, 9, 10, 11, 12, 13]⟩,
 ⟨some 114, .load none (.tmp 113), none, [0, 1, 2, 3, 4, 5, 6, 7, 8, 9, 10, 11, 12, 13]⟩,
 ⟨some 115, .move (.tmp 10), none, [0, 1, 2, 3, 4, 5, 6, 7, 8, 9, 10, 11, 12, 13, 14, 15]⟩,
 ⟨some 116, .indexAddr 1 (.tmp 114) (.tmp 115), none, [0, 1, 2, 3, 4, 5, 6, 7, 8, 9, 10, 11, 12, 13]⟩,
 ⟨some 117, .load none (.tmp 116), none, [0, 1, 2, 3, 4, 5, 6, 7, 8, 9, 10, 11, 12, 13]⟩,
 ⟨some 118, .move (.tmp 11), none, [0, 1, 2, 3, 4, 5, 6, 7, 8, 9, 10, 11, 12, 13, 14, 15, 16, 17, 18]⟩,
 ⟨some 119, .indexAddr 1 (.tmp 117) (.tmp 118), none, [0, 1, 2, 3, 4, 5, 6, 7, 8, 9, 10, 11, 12, 13]⟩,
 ⟨some 120, .load none (.tmp 119), none, [0, 1, 2, 3, 4, 5, 6, 7, 8, 9, 10, 11, 12, 13]⟩,
 ⟨some 121, .minmax true [.tmp 112, .tmp 120], none, [0, 1, 2, 3, 4, 5]⟩], 
  [
  ⟨some 122, .indexAddr 1 (.tmp 103) (.tmp 104), none, []⟩], 
  [
  ⟨none, .store 1 (.tmp 122) (.tmp 121), none, []⟩]]
theorem k_curve_Hull_r26_sg : segs k_curve_Hull_r26 = k_curve_Hull_r26s := by kernel_rfl
theorem k_curve_Hull_r26_st : statOK k_curve_Hull_r26 = true := by kernel_rfl
def k_curve_Hull_r27 : List AOper := [
  ⟨some 123, .bin .plain .add (.tmp 72) (.const (.int .i64 1)), none, []⟩,
 ⟨some 72, .move (.tmp 123), none, []⟩]
def k_curve_Hull_r28 : ACode := (.seq (.reg k_curve_Hull_r23 false) (.seq (.cond (.tmp 73) .skip (.exit 6)) (.seq (.block 7 (.seq (.reg k_curve_Hull_r24 false) (.seq (.reg k_curve_Hull_r25 true) (.reg k_curve_Hull_r26 true)))) (.reg k_curve_Hull_r27 false))))
def k_curve_Hull_r29 : List AOper := [
  ⟨some 124, .bin .plain .add (.tmp 66) (.const (.int .i64 1)), none, []⟩,
 ⟨some 66, .move (.tmp 124), none, []⟩]
def k_curve_Hull_r30 : ACode := (.seq (.reg k_curve_Hull_r20 false) (.seq (.cond (.tmp 67) .skip (.exit 4)) (.seq (.block 5 (.seq (.reg k_curve_Hull_r21 false) (.seq (.reg k_curve_Hull_r22 false) (.block 6 (.loop k_curve_Hull_r28))))) (.reg k_curve_Hull_r29 false))))
def k_curve_Hull_r31 : List AOper := [
  ⟨some 125, .bin .plain .add (.tmp 59) (.const (.int .i64 1)), none, []⟩,
 ⟨some 59, .move (.tmp 125), none, []⟩]
def k_curve_Hull_r32 : ACode := (.seq (.reg k_curve_Hull_r17 false) (.seq (.cond (.tmp 60) .skip (.exit 2)) (.seq (.block 3 (.seq (.reg k_curve_Hull_r18 false) (.seq (.reg k_curve_Hull_r19 false) (.block 4 (.loop k_curve_Hull_r30))))) (.reg k_curve_Hull_r31 false))))
def k_curve_Hull_r33 : List AOper := [
  ⟨some 126, .load (some (4)) (.tmp 7), none, []⟩,
 ⟨none, .store 4 (.tmp 2) (.tmp 126), none, []⟩,
 ⟨some 3, .move (.const (.int .i64 0)), none, []⟩]
def k_curve_Hull : AFun := { params := 1, ntmps := 127, body := (.seq (.reg k_curve_Hull_r0 false) (.seq (.seq (.reg k_curve_Hull_r1 false) (.cond (.tmp 14) (.seq (.reg k_curve_Hull_r2 false) .ret) .skip)) (.seq (.seq (.reg k_curve_Hull_r3 false) (.cond (.tmp 18) (.seq (.reg k_curve_Hull_r4 false) .ret) .skip)) (.seq (.seq (.reg k_curve_Hull_r5 false) (.block 0 (.loop k_curve_Hull_r14))) (.seq (.reg k_curve_Hull_r15 false) (.seq (.seq (.reg k_curve_Hull_r16 false) (.block 2 (.loop k_curve_Hull_r32))) (.seq (.reg k_curve_Hull_r33 false) .ret))))))), res := [.cell 2 (some ((some (4)))), .tmp 3] }
theorem k_curve_Hull_ok : cfun Try.prog Try.f39 = k_curve_Hull := by kernel_rfl

def k_curve_copiedTable_r0 : List AOper := [
  ⟨some 2, .move (.const (.nilsl)), none, []⟩]
def k_curve_copiedTable_r1 : List AOper := [
  ⟨some 3, .move (.const (.nilsl)), none, []⟩]
def k_curve_copiedTable_r2 : List AOper := [
  ⟨some 6, .move (.tmp 0), none, []⟩,
 ⟨some 7, .len false (.tmp 6), none, []⟩,
 ⟨some 8, .move (.const (.int .i64 0)), none, []⟩]
def k_curve_copiedTable_r3 : List AOper := [
  ⟨some 9, .bin .plain .lss (.tmp 8) (.tmp 7), none, []⟩]
def k_curve_copiedTable_r4 : List AOper := [
  ⟨some 10, .indexAddr 1 (.tmp 6) (.tmp 8), none, []⟩,
 ⟨some 11, .load none (.tmp 10), none, []⟩,
 ⟨some 5, .move (.tmp 11), none, []⟩]
def k_curve_copiedTable_r5 : List AOper := [
  ⟨some 12, .move (.tmp 3), none, []⟩,
 ⟨some 13, .move (.tmp 5), none, []⟩,
 ⟨some 14, .call (.const (.fn (.func 79) [] [])) [.tmp 13], none, []⟩,
 ⟨some 15, .buildSlice 1 [.tmp 14], none, []⟩,
 ⟨some 16, .append 1 24 false (.tmp 12) (.tmp 15), none, []⟩,
 ⟨some 3, .move (.tmp 16), none, []⟩]
def k_curve_copiedTable_r6 : List AOper := [
  ⟨some 17, .bin .plain .add (.tmp 8) (.const (.int .i64 1)), none, []⟩,
 ⟨some 8, .move (.tmp 17), none, []⟩]
def k_curve_copiedTable_r7 : ACode := (.seq (.reg k_curve_copiedTable_r3 false) (.seq (.cond (.tmp 9) .skip (.exit 0)) (.seq (.block 1 (.seq (.reg k_curve_copiedTable_r4 false) (.reg k_curve_copiedTable_r5 false))) (.reg k_curve_copiedTable_r6 false))))
def k_curve_copiedTable_r8 : List AOper := [
  ⟨some 18, .move (.tmp 3), none, []⟩,
 ⟨some 2, .move (.tmp 18), none, []⟩]
def k_curve_copiedTable : AFun := { params := 1, ntmps := 19, body := (.seq (.reg k_curve_copiedTable_r0 false) (.seq (.reg k_curve_copiedTable_r1 false) (.seq (.seq (.reg k_curve_copiedTable_r2 false) (.block 0 (.loop k_curve_copiedTable_r7))) (.seq (.reg k_curve_copiedTable_r8 false) .ret)))), res := [.tmp 2] }
theorem k_curve_copiedTable_ok : cfun Try.prog Try.f80 = k_curve_copiedTable := by kernel_rfl


abbrev n_curve_Copy : Nat := 31
theorem e_curve_Copy : EntryOK Try.prog n_curve_Copy k_curve_Copy := ⟨Try.f31, Try.func31, k_curve_Copy_ok, by kernel_rfl⟩
abbrev n_curve_Hull : Nat := 39
theorem e_curve_Hull : EntryOK Try.prog n_curve_Hull k_curve_Hull := ⟨Try.f39, Try.func39, k_curve_Hull_ok, by kernel_rfl⟩
abbrev n_curve_copiedTable : Nat := 80
theorem e_curve_copiedTable : EntryOK Try.prog n_curve_copiedTable k_curve_copiedTable := ⟨Try.f80, Try.func80, k_curve_copiedTable_ok, by kernel_rfl⟩

attribute [go_sem] k_curve_Copy_r0 k_curve_Copy_r1s k_curve_Hull_r0 k_curve_Hull_r1 k_curve_Hull_r2 k_curve_Hull_r3 k_curve_Hull_r4 k_curve_Hull_r5 k_curve_Hull_r6 k_curve_Hull_r7 k_curve_Hull_r8 k_curve_Hull_r9
attribute [go_sem] k_curve_Hull_r10 k_curve_Hull_r11s k_curve_Hull_r12 k_curve_Hull_r13 k_curve_Hull_r15 k_curve_Hull_r16 k_curve_Hull_r17 k_curve_Hull_r18 k_curve_Hull_r19 k_curve_Hull_r20 k_curve_Hull_r21 k_curve_Hull_r22
attribute [go_sem] k_curve_Hull_r23 k_curve_Hull_r24 k_curve_Hull_r25s k_curve_Hull_r26s k_curve_Hull_r27 k_curve_Hull_r29 k_curve_Hull_r31 k_curve_Hull_r33 k_curve_copiedTable_r0 k_curve_copiedTable_r1 k_curve_copiedTable_r2 k_curve_copiedTable_r3
attribute [go_sem] k_curve_copiedTable_r4 k_curve_copiedTable_r5 k_curve_copiedTable_r6 k_curve_copiedTable_r8 k_curve_Hull_r26_sg k_curve_Copy_r1_sg k_curve_Hull_r11_sg k_curve_Hull_r25_sg k_curve_Hull_r26_st k_curve_Copy_r1_st k_curve_Hull_r11_st k_curve_Hull_r25_st
attribute [go_sem] k_curve_Copy k_curve_Hull k_curve_copiedTable
end Go.Proofs

namespace Go.Proofs
open Go Go.Sx

end Go.Proofs

namespace Go.Proofs
open Go Go.Sx

end Go.Proofs

namespace Go.Proofs
open Go Go.Sx Go.Fam
attribute [local irreducible] Run

end Go.Proofs

namespace Go.Sx
open Go
theorem All3.upd {R : List Nat → AVal → AVal → Prop} : ∀ {ι : List Nat} {vs es : List AVal} (i : Nat) (e : AVal), All3 R ι vs es → es[i]? = some e →
    ∃ κ v, vs[i]? = some v ∧ (∀ r ∈ κ, r ∈ ι) ∧ R κ v e ∧ ∀ (R' : List Nat → AVal → AVal → Prop) (e' : AVal), (∀ κ' v' e'', (∀ r ∈ κ', r ∈ ι) → (∀ r ∈ κ', r ∉ κ) → R κ' v' e'' → R' κ' v' e'') → R' κ v e' → ι.Nodup → All3 R' ι vs (es.set i e')
  | _, v :: vs, e' :: es, 0, e, ⟨κ1, κ2, h1, h2, h3⟩, he => by
    simp at he; subst he; subst h1
    refine ⟨κ1, v, rfl, fun r hr => List.mem_append_left _ hr, h2, fun R' e'' hR hv hn => ⟨κ1, κ2, rfl, hv, h3.mono fun κ' v' e'' hs _ h => hR κ' v' e'' (fun r hr => List.mem_append_right _ (hs r hr)) (fun r hr h1 => ?_) h⟩⟩
    exact (List.nodup_append.1 hn).2.2 r h1 r (hs r hr) rfl
  | _, v :: vs, e' :: es, i + 1, e, ⟨κ1, κ2, h1, h2, h3⟩, he => by
    obtain ⟨κ, u, k1, k2, k3, k4⟩ := h3.upd i e (by simpa using he)
    subst h1
    refine ⟨κ, u, by simpa using k1, fun r hr => List.mem_append_right _ (k2 r hr), k3, fun R' e'' hR hv hn => ⟨κ1, κ2, rfl, ?_, k4 R' e'' (fun κ' v' e3 hs => hR κ' v' e3 fun r hr => List.mem_append_right _ (hs r hr)) hv (List.nodup_append.1 hn).2.1⟩⟩
    exact hR _ _ _ (fun r hr => List.mem_append_left _ hr) (fun r hr h1 => (List.nodup_append.1 hn).2.2 r hr r (k2 r h1) rfl) h2
  | _, [], [], i, e, _, he => by simp at he
  | _, [], _ :: _, _, _, h, _ => h.elim
  | _, _ :: _, [], _, _, h, _ => h.elim
end Go.Sx
namespace Go.Proofs
open Go Go.Sx Go.Fam

theorem tw_upd {J : Heap} {κ : List Nat} {v : AVal} {L : List (List Int)} {i : Nat} {lo : List Int} (h : Dat 5 J κ v (tw L)) (hi : L[i]? = some lo) (hn : κ.Nodup) : ∃ r vs q, v = .sl r 0 L.length ∧ J[r]? = some (some (.cells true 1 vs)) ∧ vs.length = L.length ∧ vs[i]? = some (.sl q 0 lo.length) ∧ r ∈ κ ∧ q ∈ κ ∧ J[q]? = some (some (.cells true 1 (ivL lo))) ∧
    ∀ (J' : Heap) (lo' : List Int), lo' ≠ [] → lo'.length = lo.length → (∀ a ∈ κ, a ≠ q → J'[a]? = J[a]?) → J'[q]? = some (some (.cells true 1 (ivL lo'))) → Dat 5 J' κ v (tw (L.set i lo')) := by
  have L0 : L ≠ [] := by rintro rfl; simp at hi
  have h' : Dat 5 J κ v (tbC L) := by unfold tbC; rwa [if_neg L0]
  obtain ⟨r, vs, κ', e, k, g, a⟩ := tb_get h' L0
  subst e; subst k
  have al := a.len
  simp only [List.length_map] at al
  obtain ⟨κ1, u, u1, u2, u3, u4⟩ := a.upd i (vw lo) (by rw [List.getElem?_map, hi]; rfl)
  obtain ⟨lo0, q, e1, k1, gq⟩ := vw_get u3
  subst e1; subst k1
  have nd := List.nodup_append.1 hn
  have hq : q ∈ κ' := u2 q (by simp)
  have hqr : r ≠ q := fun e => nd.2.2 q hq r (by simp) e.symm
  refine ⟨r, vs, q, rfl, g, al, u1, by simp, List.mem_append_left _ hq, gq, fun J' lo' l0 hl hJ hq' => ?_⟩
  have hs : L.set i lo' ≠ [] := by intro e; have := congrArg List.length e; simp at this; exact L0 this
  have := tb_put (d := 4) (n := L.length) hs (by simp) (by rw [hJ r (by simp) hqr]; exact g) (by rw [List.map_set]; exact u4 (Dat 4 J') (vw lo') (fun κ2 v2 e2 m1 m2 hd => hd.congr fun b hb => hJ b (List.mem_append_left _ (m1 b hb)) (by rintro rfl; exact m2 _ hb (by simp))) (vw_put l0 hl.symm hq') nd.1)
  unfold tbC at this
  rwa [if_neg hs] at this

theorem fam_upd {J : Heap} {ι : List Nat} {g p : List Int} {L U : List (List Int)} {v0 v1 v2 v3 : AVal} {i : Nat} {lo hi : List Int} (h : Dat 6 J ι (.agg [v0, v1, v2, v3]) (Fv ⟨g, p, L, U⟩)) (hn : ι.Nodup) (hL : L[i]? = some lo) (hU : U[i]? = some hi) :
    ∃ r s vs us q t, v2 = .sl r 0 L.length ∧ v3 = .sl s 0 U.length ∧ J[r]? = some (some (.cells true 1 vs)) ∧ J[s]? = some (some (.cells true 1 us)) ∧ vs.length = L.length ∧ us.length = U.length ∧ vs[i]? = some (.sl q 0 lo.length) ∧ us[i]? = some (.sl t 0 hi.length) ∧
      J[q]? = some (some (.cells true 1 (ivL lo))) ∧ J[t]? = some (some (.cells true 1 (ivL hi))) ∧ q ∈ ι ∧ t ∈ ι ∧ q ≠ t ∧
      ∀ (J' : Heap) (lo' hi' : List Int), lo' ≠ [] → hi' ≠ [] → lo'.length = lo.length → hi'.length = hi.length → (∀ a ∈ ι, a ≠ q → a ≠ t → J'[a]? = J[a]?) → J'[q]? = some (some (.cells true 1 (ivL lo'))) → J'[t]? = some (some (.cells true 1 (ivL hi'))) →
        Dat 6 J' ι (.agg [v0, v1, v2, v3]) (Fv ⟨g, p, L.set i lo', U.set i hi'⟩) := by
  obtain ⟨xs, ex, hx⟩ := h
  cases ex
  obtain ⟨κ0, κa, e0, d0, hx⟩ := (show All3 (Dat 5 J) ι [v0, v1, v2, v3] [vw g, vw p, tw L, tw U] from hx)
  obtain ⟨κ1, κb, e1, d1, hx⟩ := hx
  obtain ⟨κ2, κc, e2, d2, hx⟩ := hx
  obtain ⟨κ3, κd, e3, d3, hx⟩ := hx
  obtain rfl : κd = [] := hx
  subst e3; subst e2; subst e1; subst e0
  have n0 := List.nodup_append.1 hn
  have n1 := List.nodup_append.1 n0.2.1
  have n2 := List.nodup_append.1 n1.2.1
  have n3 := List.nodup_append.1 n2.2.1
  obtain ⟨r, vs, q, rfl, gr, lv, gi, hr, hq, gq, up2⟩ := tw_upd d2 hL n2.1
  obtain ⟨s, us, t, rfl, gs, lu, gj, hs, ht, gt, up3⟩ := tw_upd d3 hU n3.1
  have hqt : q ≠ t := fun e => n2.2.2 q hq t (List.mem_append_left _ ht) e
  refine ⟨r, s, vs, us, q, t, rfl, rfl, gr, gs, lv, lu, gi, gj, gq, gt, by simp [hq], by simp [ht], hqt, fun J' lo' hi' l0 h0 ll hl hJ h1 h2 => ?_⟩
  have c0 : ∀ a ∈ κ0, a ≠ q ∧ a ≠ t := fun a ha => ⟨n0.2.2 a ha q (by simp [hq]), n0.2.2 a ha t (by simp [ht])⟩
  have c1 : ∀ a ∈ κ1, a ≠ q ∧ a ≠ t := fun a ha => ⟨n1.2.2 a ha q (by simp [hq]), n1.2.2 a ha t (by simp [ht])⟩
  have c2 : ∀ a ∈ κ2, a ≠ t := fun a ha => n2.2.2 a ha t (by simp [ht])
  have c3 : ∀ a ∈ κ3, a ≠ q := fun a ha e => n2.2.2 q hq a (by simp [ha]) e.symm
  exact ⟨_, rfl, κ0, _, rfl, d0.congr fun a ha => hJ a (by simp [ha]) (c0 a ha).1 (c0 a ha).2, κ1, _, rfl, d1.congr fun a ha => hJ a (by simp [ha]) (c1 a ha).1 (c1 a ha).2,
    κ2, _, rfl, up2 J' lo' l0 ll (fun a ha n => hJ a (by simp [ha]) n (c2 a ha)) h1, κ3, [], rfl, up3 J' hi' h0 hl (fun a ha n => hJ a (by simp [ha]) (c3 a ha) n) h2, rfl⟩
end Go.Proofs

namespace Go.Proofs
open Go Go.Sx Go.Fam
attribute [local irreducible] Run

theorem ivL_set (l : List Int) (k : Nat) (x : Int) : (ivL l).set k (.int .i64 x) = ivL (l.set k x) := by unfold ivL; rw [List.map_set]
end Go.Proofs

namespace Go.Sx
open Go
section
variable {P : Program} {g : FuncId} {c : AVal} {d : Nat} {G : Ctx} {H : Heap} {k : Nat} {rd : Option Nat} {R : Runner} {l : List AOper} {fs : List Frame} {ρ : List AVal} {ms : List Nat} {Q : Goal} {dst : Option Nat}
  {ao : AOper} {lo hi : Nat} {tr : List (List Nat × List Nat)} {ss : List (List AOper)} {args ys : List AVal}
theorem dFD (h : Ans P g ys [] (thaw d 0 c).1 (thaw d 0 c).2) (hp : Pure d c) (e : Nat) (deps : List Nat) (hys : Sx.lss (args.map (frz e (H.onlyR deps))) ys)
    (hK : R (.grp lo l (tr ++ [(deps, upFrom H.length (thaw d H.length c).2.length)]) hi ss) fs ⟨setD ρ ao.dst (thaw d H.length c).1, H ++ (thaw d H.length c).2, ms⟩ Q)
    (hms : ∀ q ∈ ms, q < H.length := by simp) (hd : dynOK ao.free deps (upFrom H.length (thaw d H.length c).2.length) tr lo = true := by first | (simp only [go_sem]; done) | (simp [go_sem]; done) | (simp [go_sem]; omega)) : DCallR P R g args ao lo l tr hi ss fs ρ H ms Q := by
  have hw := thaw_wf 0 hp
  have hσ : ∀ i, outσ [] H.length (0 + i) = H.length + (0 + i) := fun i => by simp [outσ]
  obtain ⟨e1, e2⟩ := thaw_ren (σ := outσ [] H.length) (k' := H.length) 0 0 hp fun i _ => hσ i
  rw [Nat.add_zero] at e1 e2
  have e3 : H.puts (outΔ (outσ [] H.length) 0 (thaw d 0 c).2) = H ++ (thaw d H.length c).2 := by
    rw [puts_from (thaw_rows hp 0) fun i _ => by rw [hσ, Nat.zero_add], e2]
  have e4 : (outΔ (outσ [] H.length) 0 (thaw d 0 c).2).map (·.1) = upFrom H.length (thaw d H.length c).2.length := by
    rw [outΔ_names (N := H.length) (thaw_rows hp 0) fun i _ => by rw [hσ, Nat.zero_add], thaw_len hp 0 H.length]
  have h1 := (h.lss hys).dfrz (H := H) (args := args) e deps rfl (hw.2.1.mono fun r hr => by omega) hw.2.2 (by simpa using full_thaw (A := []) hp 0 rfl fun i hi => by omega) (by simpa using fullnv_thaw (A := []) hp 0 trivial)
  rw [e1] at h1
  refine dcallR (deps := deps) h1 ⟨fun q hq => ?_, fun q hq => ?_, ?_, ?_⟩
  · show q ∉ (outΔ _ _ _).map (·.1)
    rw [e4]
    have := hms q hq
    simp only [upFrom_mem]; omega
  · rw [mem_newNames] at hq
    refine ⟨hq.1, ?_⟩
    show q < (H.puts (outΔ _ _ _)).length
    rw [e3, List.length_append, ← thaw_len hp 0 H.length]
    omega
  · show dynOK _ _ ((outΔ _ _ _).map (·.1)) _ _ = true
    rw [e4]; exact hd
  · show R (.grp lo l (tr ++ [(deps, (outΔ _ _ _).map (·.1))]) hi ss) fs ⟨_, H.puts (outΔ _ _ _), ms⟩ Q
    rw [e4, e3]; exact hK
end
end Go.Sx
namespace Go.Proofs
open Go Go.Sx Go.Fam
attribute [local irreducible] Run
end Go.Proofs

namespace Go.Proofs
open Go Go.Sx Go.Fam
attribute [local irreducible] Run

end Go.Proofs

namespace Go.Proofs
open Go Go.Sx Go.Fam
attribute [local irreducible] Run

end Go.Proofs

namespace Go.Proofs
open Go Go.Sx Go.Fam
attribute [local irreducible] AT
set_option maxRecDepth 100000
end Go.Proofs

namespace Go.Proofs
open Go Go.Sx Go.Fam
attribute [local irreducible] Run


end Go.Proofs

namespace Go.Proofs
open Go Go.Sx

end Go.Proofs

namespace Go.Proofs
open Go Go.Sx Go.Fam
attribute [local irreducible] Run

end Go.Proofs

namespace Go.Proofs
open Go Go.Sx Go.Fam
attribute [local irreducible] Run

def eqT (a b : List AVal) (n : Nat) : List (Nat × AVal) := [(0, .view a), (1, .view b), (4, .bool false), (11, .view a), (12, .int .i64 n)]
theorem pEqual_run (a b : List Int) (hl : a.length ≤ 9223372036854775807) : Ans Try.prog n_slices_Equal_int_int [vw a, vw b] [] (.bool (decide (a = b))) [] := by
  refine spec_run e_slices_Equal_int_int fun G => ?_
  by_cases c : a.length = b.length
  · have c' : (a.length : Int) = b.length := by omega
    have c3 : ((a.length : Int) == b.length) = true := by rw [c']; exact beq_self_eq_true _
    simp only [go_sem, vw, List.length_map, bne, c3]
    refine loop_ind k_slices_Equal_int_int_r9.eq_1 (fun i : Nat => i ≤ a.length ∧ a.take i = b.take i) (fun i => a.length - i)
      (fun i => (tsets 26 (eqT (a.map (.int .i64)) (b.map (.int .i64)) a.length ++ [(13, .int .i64 i)]), [])) 0 ⟨Nat.zero_le _, rfl⟩ (by simp [go_sem, eqT]) rfl ?_
    rintro i ⟨hi, hE⟩ ih
    dsimp only at hi hE ih ⊢
    by_cases h1 : i < a.length
    · have h2 : (i : Int) < a.length := by omega
      have h2' : (i : Int) < b.length := by omega
      have m0 : ¬ (i : Int) < 0 := by omega
      have h3 := idx_next h1 hl
      have x1 := get_at h1
      have x2 := get_at (l := b) (i := i) (by omega)
      by_cases e : at1 a i = at1 b i
      · have e' : (at1 a i == at1 b i) = true := by simp [e]
        simp only [go_sem, eqT, h2, h2', List.length_map, m0, x1, x2, Int.toNat_natCast, h3, bne, e', beq_self_eq_true]
        exact ih (i + 1) (by omega) ⟨h1, take_more hE x1 x2 e⟩ _ (by simp [go_sem, eqT])
      · have e' : (at1 a i == at1 b i) = false := by simp [e]
        have : decide (a = b) = false := decide_eq_false (ne_at x1 x2 e)
        rw [this]
        simp only [go_sem, eqT, h2, h2', List.length_map, m0, x1, x2, Int.toNat_natCast, bne, e', beq_self_eq_true]
    · have h2 : ¬ (i : Int) < a.length := by omega
      have : decide (a = b) = true := decide_eq_true (take_all hE c h1)
      rw [this]
      simp only [go_sem, eqT, h2, List.length_map]
  · have c' : ¬ (a.length : Int) = b.length := by omega
    have c2 : ((a.length : Int) == b.length) = false := by simp; exact c'
    have : decide (a = b) = false := decide_eq_false fun h => c (by rw [h])
    rw [this]
    simp only [go_sem, vw, List.length_map, bne, c2]
def efT (a b : List AVal) (n : Nat) : List (Nat × AVal) := [(0, .view a), (1, .view b), (2, .fn (.func n_slices_Equal_int_int) [] []), (6, .bool false), (15, .view a), (16, .int .i64 n)]
theorem pEqualFunc_run (a b : List (List Int)) (hl : a.length ≤ 1000000) (hr : ∀ r ∈ a, r.length ≤ 9223372036854775807) : Ans Try.prog n_slices_EqualFunc_int_int_int_int [tw a, tw b, .fn (.func n_slices_Equal_int_int) [] []] [] (.bool (decide (a = b))) [] := by
  refine spec_run e_slices_EqualFunc_int_int_int_int fun G => ?_
  by_cases c : a.length = b.length
  · have c' : (a.length : Int) = b.length := by omega
    have c3 : ((a.length : Int) == b.length) = true := by rw [c']; exact beq_self_eq_true _
    simp only [go_sem, tw, List.length_map, bne, c3]
    refine loop_ind k_slices_EqualFunc_int_int_int_int_r10.eq_1 (fun i : Nat => i ≤ a.length ∧ a.take i = b.take i) (fun i => a.length - i)
      (fun i => (tsets 32 (efT (a.map vw) (b.map vw) a.length ++ [(17, .int .i64 i)]), [])) 0 ⟨Nat.zero_le _, rfl⟩ (by simp [go_sem, efT]) rfl ?_
    rintro i ⟨hi, hE⟩ ih
    dsimp only at hi hE ih ⊢
    by_cases h1 : i < a.length
    · have h2 : (i : Int) < a.length := by omega
      have h2' : (i : Int) < b.length := by omega
      have m0 : ¬ (i : Int) < 0 := by omega
      have h3 := idx_next h1 (by omega)
      obtain ⟨r, x1⟩ : ∃ r, a[i]? = some r := ⟨_, List.getElem?_eq_getElem h1⟩
      obtain ⟨s, x2⟩ : ∃ s, b[i]? = some s := ⟨_, List.getElem?_eq_getElem (by omega)⟩
      have k := pEqual_run r s (hr r (List.mem_of_getElem? x1))
      simp only [vw] at k
      simp only [go_sem, efT, h2, h2', List.length_map, m0, x1, x2, Int.toNat_natCast, vw]
      refine cP k ?_
      by_cases e : r = s
      · rw [decide_eq_true e]
        simp only [go_sem, h3]
        exact ih (i + 1) (by omega) ⟨h1, take_more hE x1 x2 e⟩ _ (by simp [go_sem, efT])
      · have : decide (a = b) = false := decide_eq_false (ne_at x1 x2 e)
        rw [this, decide_eq_false e]
        simp only [go_sem]
    · have h2 : ¬ (i : Int) < a.length := by omega
      have : decide (a = b) = true := decide_eq_true (take_all hE c h1)
      rw [this]
      simp only [go_sem, efT, h2, List.length_map]
  · have c' : ¬ (a.length : Int) = b.length := by omega
    have c2 : ((a.length : Int) == b.length) = false := by simp; exact c'
    have : decide (a = b) = false := decide_eq_false fun h => c (by rw [h])
    rw [this]
    simp only [go_sem, tw, List.length_map, bne, c2]
theorem psameTable_run (a b : List (List Int)) (hl : a.length ≤ 1000000) (hr : ∀ r ∈ a, r.length ≤ 9223372036854775807) : Ans Try.prog n_curve_sameTable [tw a, tw b] [] (.bool (decide (a = b))) [] := by
  have k := pEqualFunc_run a b hl hr
  refine spec_run e_curve_sameTable fun G => ?_
  simp only [go_sem]
  refine cP k ?_
  simp only [go_sem]
theorem pSame_run (a b : Fa) (h : FaS a) : Ans Try.prog n_curve_Same [Fv a, Fv b] [] (.bool (decide (a = b))) [] := by
  obtain ⟨l1, l2, l3, l4⟩ := h
  have k1 := pEqual_run a.g b.g (by omega)
  have k2 := pEqual_run a.p b.p (by omega)
  have k3 := psameTable_run a.lo b.lo l3.1 l3.2
  have k4 := psameTable_run a.hi b.hi l4.1 l4.2
  rw [fa_eq]
  refine spec_run e_curve_Same fun G => ?_
  simp only [go_sem, Fv, Fcs]
  refine cP k1 ?_
  by_cases c1 : a.g = b.g
  · rw [decide_eq_true c1]
    simp only [go_sem]
    refine cP k2 ?_
    by_cases c2 : a.p = b.p
    · rw [decide_eq_true c2]
      simp only [go_sem]
      refine cP k3 ?_
      by_cases c3 : a.lo = b.lo
      · rw [decide_eq_true c3]
        simp only [go_sem]
        refine cP k4 ?_
        simp only [go_sem]
      · rw [decide_eq_false c3]
        simp only [go_sem]
    · rw [decide_eq_false c2]
      simp only [go_sem]
  · rw [decide_eq_false c1]
    simp only [go_sem]
end Go.Proofs

