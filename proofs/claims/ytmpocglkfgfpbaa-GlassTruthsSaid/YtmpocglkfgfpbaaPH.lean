/- A part of the proof. -/
import Derived.Test.YtmpocglkfgfpbaaPG
set_option linter.unusedSimpArgs false
set_option linter.unusedVariables false
namespace Go.Proofs
open Go Go.Sx
attribute [local irreducible] Run

structure TsOK (zs : List Zn) (th : Int) (ts : List Tk) (k : Nat) (l : List Int) : Prop where
  len : l.length = k + 1
  bd : ∀ j, j ≤ k → (stAt zs th ts j).1 ≤ l.getD j 0 ∧ l.getD j 0 ≤ (stAt zs th ts j).2
theorem TsOK.snoc {zs : List Zn} {th : Int} {ts : List Tk} {k : Nat} {l : List Int} (h : TsOK zs th ts k l) {v : Int} (hv : (stAt zs th ts (k + 1)).1 ≤ v ∧ v ≤ (stAt zs th ts (k + 1)).2) : TsOK zs th ts (k + 1) (l ++ [v]) := ⟨by rw [List.length_append, h.len]; rfl, fun j hj => by
  have hl := h.len
  rw [List.getD_eq_getElem?_getD]
  by_cases e : j = k + 1
  · subst e
    rw [List.getElem?_append_right (by omega), hl, Nat.sub_self]; exact hv
  · rw [List.getElem?_append_left (by omega), ← List.getD_eq_getElem?_getD]; exact h.bd j (by omega)⟩
theorem truth_step {zs : List Zn} (hz : ZsOK zs) {th : Int} (hth : 1 ≤ th ∧ th ≤ 1000) {p : Int × Int} (hp : 0 ≤ p.1 ∧ p.2 ≤ capS) {t : Tk} (ht : TkOK t) {x r a : Int} (hx : p.1 ≤ x ∧ x ≤ p.2)
    (hr : x * (zAt zs t.t).rlo / 1000000 ≤ r ∧ r ≤ (x * (zAt zs t.t).rhi + 999999) / 1000000) (ha : addL t (zAt zs t.t) th ≤ a ∧ a ≤ addH t (zAt zs t.t) th) :
    (stepS zs th p t).1 ≤ min (x - r + a) capS ∧ min (x - r + a) capS ≤ (stepS zs th p t).2 ∧ 0 ≤ x - r ∧ x - r ≤ capS := by
  have hzo := zAt_ok hz t.t
  have hrr := hzo.r
  have a1 := leastL_mono2 (z' := zAt zs t.t) hzo ⟨by omega, Int.le_refl _⟩ hp.1 hx.1
  have a2 := mostL_mono2 (z' := zAt zs t.t) hzo ⟨by omega, Int.le_refl _⟩ (x := x) (by omega) hx.2
  have l1 := leastL_in (x := x) (by omega) hzo
  have l2 := mostL_in (x := x) (by omega) hzo
  unfold stepS
  dsimp only
  unfold leastL mostL at *
  omega
set_option maxHeartbeats 8000000 in
set_option maxRecDepth 10000 in
theorem strainsOf_run (w : Int) {brk : Int} {zs : List Zn} (h : StOK brk zs) {th : Int} (hth : 1 ≤ th ∧ th ≤ 1000) {f : Int} {ls : List Lg} (ho : OvOK f ls) :
    AnsE Try.prog n_kit_StrainsOf [.ptr 0 0 0 1, .agg [.int .i64 brk, .sl 1 0 zs.length], .int .i64 th, .agg [.int .i64 f, .sl 2 0 ls.length]] [some (Dr w), some (.cells true 5 (zs.map Zn.v)), some (.cells true 2 (ls.map Lg.v))]
      (fun a : Int × List Int => TsOK zs th (allT 0 f ls) (allT 0 f ls).length a.2) (fun _ => .sl 3 0 ((allT 0 f ls).length + 1)) (fun a => [some (Dr a.1), some (.cells true 5 (zs.map Zn.v)), some (.cells true 2 (ls.map Lg.v)), some (.cells (g2 ((allT 0 f ls).length + 1)) 1 (il a.2))]) := by
  have zb : ∀ S : Nat → Prop, (Row.cells true 5 (zs.map Zn.v)).bel S := fun S => by rw [row_bel_cells]; simp only [go_sem]
  have lb : ∀ S : Nat → Prop, (Row.cells true 2 (ls.map Lg.v)).bel S := fun S => by rw [row_bel_cells]; simp only [go_sem]
  have ib : ∀ (g : Bool) (l : List Int) (S : Nat → Prop), (Row.cells g 1 (il l)).bel S := fun g l S => by rw [row_bel_cells]; exact bels_map _ _ fun z => by simp only [go_sem]
  refine AnsE.keep (run_fn e_kit_StrainsOf fun G => ?_) (fun a ha => ⟨by simp, by simp [go_sem], dr_bel _ _, zb _, lb _, ib _ _ _, trivial⟩)
  have kh := Heats_run ho
  have hat := fun i t => hts_at (n := 0) (b := f) ho.all i t
  have htk := allT_ok (n := 0) ho.f ho.all
  have htot := allT_total ho.all 0 f
  have hlen := ho.len
  rw [hts_len] at kh
  obtain ⟨ts, hts'⟩ : ∃ ts, allT 0 f ls = ts := ⟨_, rfl⟩
  rw [hts'] at kh hat htk htot ⊢
  have hht : ∀ i t, ts[i]? = some t → (hts f ts)[i + 1]? = some t.t := fun i t h => by unfold hts; rw [List.getElem?_cons_succ, List.getElem?_map, h]; rfl
  have hhl := hts_len f ts
  simp only [go_sem]
  refine cFN kh 6 ⟨.inl (ov_frz (g := true) rfl rfl), trivial⟩ ?_ (hx := ib _ _ _) (hxn := row_nv_cells _ _ (nvs_map _ _ fun z => by simp only [go_sem]))
  simp only [go_sem, ren, rens]
  have u4 := upto_in (w := w) (n := 4) (by decide)
  refine cD (upto_ok w 4 (by decide)) ?_
  obtain ⟨sty, hsty⟩ : ∃ s, upto w 4 = s := ⟨_, rfl⟩
  rw [hsty] at u4 ⊢
  obtain ⟨w1, hw1⟩ : ∃ s, dstep w = s := ⟨_, rfl⟩
  rw [hw1]
  simp only [go_sem]
  obtain ⟨hs, hhs⟩ : ∃ hs, hts f ts = hs := ⟨_, rfl⟩
  rw [hhs] at hat hht hhl ⊢
  refine loop_ind k_kit_StrainsOf_r18.eq_1 (fun a : Nat × Int × List Int × Heap => a.1 ≤ ts.length ∧ TsOK zs th ts a.1 a.2.2.1) (fun a => ts.length - a.1)
    (fun a => (tsets 101 [(0, .ptr 0 0 0 1), (2, .int .i64 th), (5, .ptr 3 0 0 1), (8, .nilsl), (9, .sl 5 0 (ts.length + 1)), (10, .sl 6 0 (a.1 + 1)), (11, .int .i64 sty), (12, .int .i64 ((a.1 + 1 : Nat) : Int))],
      some (Dr a.2.1) :: some (.cells true 5 (zs.map Zn.v)) :: some (.cells true 2 (ls.map Lg.v)) :: some (.cells false 2 [.agg [.int .i64 brk, .sl 1 0 zs.length]]) :: some (.cells false 2 [.agg [.int .i64 f, .sl 2 0 ls.length]]) :: some (.cells (g2 (ts.length + 1)) 1 (il hs)) :: some (.cells (g2 (a.1 + 1)) 1 (il a.2.2.1)) :: a.2.2.2)) (0, w1, [0], []) ⟨Nat.zero_le _, rfl, fun j hj => by
        dsimp only at hj
        obtain rfl : j = 0 := by omega
        rw [stAt_zero]; exact ⟨Int.le_refl _, Int.le_refl _⟩⟩ (by simp [go_sem]) (by simp [g2, il]) ?_
  rintro ⟨i, wi, l, X⟩ ⟨hi, hl⟩ ih
  dsimp only at hi hl ih ⊢
  have ll := hl.len
  by_cases h1 : i < ts.length
  · have h2 : ((i + 1 : Nat) : Int) < (ts.length + 1 : Nat) := by omega
    obtain ⟨t, ht⟩ : ∃ t, ts[i]? = some t := ⟨_, List.getElem?_eq_getElem h1⟩
    have hto := htk t (List.mem_of_getElem? ht)
    have e1 : (il hs)[i + 1]? = some (.int .i64 t.t) := by unfold il; rw [List.getElem?_map, hht i t ht]; rfl
    have e2 : (il hs)[i]? = some (.int .i64 t.f) := by unfold il; rw [List.getElem?_map, hat i t ht]; rfl
    have hpi := stAt_in h.zs hth htk i
    have hzo := zAt_ok h.zs t.t
    have zo := rZoneOf_run brk h.zs (t := t.t) hto.t
    have f1 := hto.f
    have f2 := hto.t
    obtain ⟨x, hx⟩ : ∃ x, l.getD i 0 = x := ⟨_, rfl⟩
    have hbx := hl.bd i (Nat.le_refl _)
    rw [hx] at hbx
    have e3 : (il l)[i]? = some (.int .i64 x) := by unfold il; rw [List.getElem?_map, ← hx, List.getD_eq_getElem?_getD, List.getElem?_eq_getElem (by omega)]; rfl
    have hstep := fun r a => truth_step h.zs hth (p := stAt zs th ts i) (r := r) (a := a) ⟨hpi.1, hpi.2.2.2⟩ hto hbx
    have hS := stAt_succ (zs := zs) (th := th) ht
    rw [← hS] at hstep
    have hadd := add_in hto hzo hth
    have hlh := add_low_high hto hzo hth
    obtain ⟨d, hd⟩ : ∃ d, max (t.f - t.t) (t.t - t.f) = d := ⟨_, rfl⟩
    have ka := radds_run hth (d := d) (by omega) hzo
    have kr := rrelaxes_run (a := x) (b := x) ⟨by omega, by omega⟩ ⟨by omega, by omega⟩ hzo
    have eL : addL t (zAt zs t.t) th = d * th * (zAt zs t.t).glo / 100 := by unfold addL; rw [hd]
    have eH : addH t (zAt zs t.t) th = (d * th * (zAt zs t.t).ghi + 99) / 100 := by unfold addH; rw [hd]
    rw [← eL, ← eH] at ka
    have hl1 := leastL_in (x := x) (by omega) hzo
    have hl2 := mostL_in (x := x) (by omega) hzo
    have hl3 := least_most2 (x := x) hzo (by omega)
    unfold leastL at hl1 hl3
    unfold mostL at hl2 hl3
    obtain ⟨z, hze⟩ : ∃ z, zAt zs t.t = z := ⟨_, rfl⟩
    rw [hze] at ka kr zo hstep hadd hlh hl1 hl2 hl3 hzo
    obtain ⟨aL, haL⟩ : ∃ a, addL t z th = a := ⟨_, rfl⟩
    obtain ⟨aH, haH⟩ : ∃ a, addH t z th = a := ⟨_, rfl⟩
    obtain ⟨rL, hrL⟩ : ∃ a, x * z.rlo / 1000000 = a := ⟨_, rfl⟩
    obtain ⟨rH, hrH⟩ : ∃ a, (x * z.rhi + 999999) / 1000000 = a := ⟨_, rfl⟩
    rw [haL, haH] at ka hstep hadd hlh
    rw [hrL, hrH] at kr hstep hl3
    rw [hrL] at hl2
    rw [hrH] at hl1
    clear eL eH haL haH hrL hrH hS
    have hcs : capS = 1099511627776 := rfl
    have h5 : IntKind.i64.wrap (((i + 1 : Nat) : Int) - 1) = i := by rw [w64 (by omega)]; omega
    have h6 : (i : Int) < (ts.length + 1 : Nat) := by omega
    have h6' : i < ts.length + 1 := by omega
    have h7 : i + 1 < ts.length + 1 := by omega
    have h8 : IntKind.i64.wrap (t.t - t.f) = t.t - t.f := w64 (by omega)
    have h9 : IntKind.i64.wrap (t.f - t.t) = t.f - t.t := w64 (by omega)
    have h10 : (if t.f - t.t > t.t - t.f then t.f - t.t else t.t - t.f) = d := by rw [← hd]; split <;> omega
    have h11 : IntKind.i64.wrap (((i + 1 : Nat) : Int) + 1) = ((i + 1 + 1 : Nat) : Int) := by rw [w64 (by omega)]; rfl
    have h12 : (i : Int) < ((i + 1 : Nat) : Int) := by omega
    have h13 : i < i + 1 := by omega
    have q8 : (i + 1 + 1) * 8 ≤ 2 ^ 44 := by omega
    have g1 : g2 (i + 1 + 1) = true := g2_yes (by omega)
    have ihn := fun v (hv : (stAt zs th ts (i + 1)).1 ≤ v ∧ v ≤ (stAt zs th ts (i + 1)).2) w' Y => ih (i + 1, w', l ++ [v], Y) (by dsimp only; omega) ⟨h1, hl.snoc hv⟩
    clear ih
    dsimp only at ihn
    rw [g1] at ihn
    simp only [Zn.v, Zn.cs, r2] at zo ka kr
    simp only [go_sem, h2, h7, e1, il_len, hhl]
    refine dF zo 6 [1] ⟨.inl (st_frz (g := true) rfl rfl), .inl rfl, trivial⟩ ?_
    simp only [go_sem, h5, h12, h13, e3, ll, il_len]
    refine ⟨by simp <;> omega, ?_⟩
    simp only [go_sem, h2, h5, h6, h6', h7, h8, h9, h10, e1, e2, il_len, hhl]
    refine dP ka ?_
    simp only [go_sem]
    refine ⟨by simp <;> omega, ?_⟩
    have ei : ∀ v, il l ++ [.int .i64 v] = il (l ++ [v]) := fun v => il_snoc _ _
    have em : ∀ v : Int, (if 1099511627776 < v then 1099511627776 else v) = min v capS := fun v => by rw [hcs]; split <;> omega
    by_cases s0 : sty = 0
    · have c0 : (sty == 0) = true := by rw [s0]; rfl
      have y1 : IntKind.i64.wrap (x - rH) = x - rH := w64 (by omega)
      have y2 : IntKind.i64.wrap (x - rH + aL) = x - rH + aL := w64 (by omega)
      have hv := hstep rH aL (by omega) (by omega)
      refine cP kr ?_ (hk := by simp)
      simp only [go_sem, c0, y1, y2, em, ll, il_len, q8, ei, h11]
      exact ihn _ ⟨hv.1, hv.2.1⟩ _ _ _ (by simp [go_sem])
    · have c0 : (sty == 0) = false := beq_eq_false_iff_ne.2 s0
      by_cases s1 : sty = 1
      · have c1 : (sty == 1) = true := by rw [s1]; rfl
        have y1 : IntKind.i64.wrap (x - rL) = x - rL := w64 (by omega)
        have y2 : IntKind.i64.wrap (x - rL + aH) = x - rL + aH := w64 (by omega)
        have hv := hstep rL aH (by omega) (by omega)
        refine cP kr ?_ (hk := by simp)
        simp only [go_sem, c0, c1, y1, y2, em, ll, il_len, q8, ei, h11]
        exact ihn _ ⟨hv.1, hv.2.1⟩ _ _ _ (by simp [go_sem])
      · have c1 : (sty == 1) = false := beq_eq_false_iff_ne.2 s1
        have kd1 := in_ok3 wi rL rH (by omega)
        have bd1 := btw_in (w := wi) (lo := rL) (hi := rH) (by omega)
        have kd2 := in_ok3 (dstep wi) aL aH (by omega)
        have bd2 := btw_in (w := dstep wi) (lo := aL) (hi := aH) (by omega)
        obtain ⟨r1, hr1⟩ : ∃ r, btw wi rL rH = r := ⟨_, rfl⟩
        obtain ⟨a1, ha1⟩ : ∃ r, btw (dstep wi) aL aH = r := ⟨_, rfl⟩
        rw [hr1] at kd1 bd1
        rw [ha1] at kd2 bd2
        have y1 : IntKind.i64.wrap (x - r1) = x - r1 := w64 (by omega)
        have y2 : IntKind.i64.wrap (x - r1 + a1) = x - r1 + a1 := w64 (by omega)
        have hv := hstep r1 a1 (by omega) (by omega)
        simp only [r2] at kd1 kd2
        refine cP kr ?_ (hk := by simp)
        simp only [go_sem, c0, c1]
        refine dD kd1 ?_
        simp only [go_sem, y1]
        refine dD kd2 ?_
        simp only [go_sem, y2, em, ll, il_len, q8, ei, h11]
        exact ihn _ ⟨hv.1, hv.2.1⟩ _ _ _ (by simp [go_sem])
  · obtain rfl : i = ts.length := by omega
    have h2 : ¬ ((ts.length + 1 : Nat) : Int) < (ts.length + 1 : Nat) := by omega
    simp only [go_sem, h2, il_len, hhl]
    refine ⟨(wi, l), hl, kept_new (A := [some (Dr wi), some (.cells true 5 (zs.map Zn.v)), some (.cells true 2 (ls.map Lg.v))]) 3 6 rfl rfl (by omega) rfl (fun i x hx => ?_) (ib _ _ _) rfl⟩
    match i, hx with
    | 0, hx => simp at hx; subst hx; exact ⟨dr_bel _ _, rfl⟩
    | 1, hx => simp at hx; subst hx; exact ⟨zb _, rfl⟩
    | 2, hx => simp at hx; subst hx; exact ⟨lb _, rfl⟩
set_option maxHeartbeats 4000000 in
set_option maxRecDepth 10000 in
theorem strainsOf_nil (w : Int) {brk : Int} {zs : List Zn} {th : Int} {f : Int} (hf : 0 ≤ f ∧ f ≤ 2000) :
    AnsE Try.prog n_kit_StrainsOf [.ptr 0 0 0 1, .agg [.int .i64 brk, .sl 1 0 zs.length], .int .i64 th, .agg [.int .i64 f, .nilsl]] [some (Dr w), some (.cells true 5 (zs.map Zn.v))]
      (fun _ : Int => True) (fun _ => .sl 2 0 1) (fun a => [some (Dr a), some (.cells true 5 (zs.map Zn.v)), some (.cells false 1 (il [0]))]) := by
  have zb : ∀ S : Nat → Prop, (Row.cells true 5 (zs.map Zn.v)).bel S := fun S => by rw [row_bel_cells]; simp only [go_sem]
  have ib : ∀ (g : Bool) (l : List Int) (S : Nat → Prop), (Row.cells g 1 (il l)).bel S := fun g l S => by rw [row_bel_cells]; exact bels_map _ _ fun z => by simp only [go_sem]
  refine AnsE.keep (run_fn e_kit_StrainsOf fun G => ?_) (fun a ha => ⟨by simp, by simp [go_sem], dr_bel _ _, zb _, ib _ _ _, trivial⟩)
  have kh := Ans.lso (Heats_run (f := f) (ls := []) ⟨hf, by simp, fun l hl => by simp at hl⟩) (args' := [.agg [.int .i64 f, .nilsl]]) ⟨.inr ⟨_, rfl, rfl⟩, trivial⟩
  simp only [allT, hts, List.map_nil, List.length_cons, List.length_nil] at kh
  simp only [go_sem]
  refine cFN kh 6 ⟨.inl rfl, trivial⟩ ?_ (hx := ib _ _ _) (hxn := row_nv_cells _ _ (nvs_map _ _ fun z => by simp only [go_sem]))
  simp only [go_sem, ren, rens]
  refine cD (upto_ok w 4 (by decide)) ?_
  simp only [go_sem]
  refine loop_body 400 k_kit_StrainsOf_r18.eq_1 ?_
  simp only [go_sem, il]
  refine ⟨dstep w, kept_new (A := [some (Dr (dstep w)), some (.cells true 5 (zs.map Zn.v))]) 2 5 rfl rfl (by omega) rfl (fun i x hx => ?_) (ib _ [0] _) rfl⟩
  match i, hx with
  | 0, hx => simp at hx; subst hx; exact ⟨dr_bel _ _, rfl⟩
  | 1, hx => simp at hx; subst hx; exact ⟨zb _, rfl⟩
section
variable {P : Program} {G : Ctx} {g : FuncId} {largs args : List AVal} {H : Heap} {α : Type} {Φ : α → Prop} {r : α → AVal} {k : Nat} {R : Runner} {l : List AOper} {fs : List Sx.Frame} {ρ : List AVal} {ms : List Nat} {Q : Sx.Goal} {dst : Option Nat}
theorem callE3N {x0 x1 x2 : Row} {x' y : α → Row} {j0 j1 j2 : Nat} (h : AnsE P g largs [some x0, some x1, some x2] Φ r fun a => [some (x' a), some x1, some x2, some (y a)]) (hargs : args = largs.map (ren (nth [j0, j1, j2]))) (hb : Bels (· < 3) largs)
    (h0 : H[j0]? = some (some x0)) (h1 : H[j1]? = some (some x1)) (h2 : H[j2]? = some (some x2)) (hx0 : x0.bel (fun _ => False)) (hx1 : x1.bel (fun _ => False)) (hx2 : x2.bel (fun _ => False)) (hn : [j0, j1, j2].Nodup)
    (hwf : ∀ a, Φ a → Bel (· = 3) (r a) ∧ (x' a).bel (fun _ => False) ∧ (y a).bel (fun _ => False)) (hk : k ≤ H.length) (hms : ∀ q ∈ ms, q ∉ [j0, j1, j2] ∧ H[q]? = some (some .dfr))
    (hK : ∀ a, Φ a → R (.ops l) fs ⟨setD ρ dst (ren (fun _ => H.length) (r a)), H.set j0 (some (x' a)) ++ [some (y a)], ms⟩ Q) : CallR P G k R g args dst l fs ρ H ms Q := by
  have l0 := (List.getElem?_eq_some_iff.1 h0).1
  have l1 := (List.getElem?_eq_some_iff.1 h1).1
  have l2 := (List.getElem?_eq_some_iff.1 h2).1
  have n1 : j0 ≠ j1 ∧ j0 ≠ j2 := by simp at hn; omega
  have e : ∀ a, Φ a → outΔ (outσ [j0, j1, j2] H.length) 0 [some (x' a), some x1, some x2, some (y a)] = [(j0, x' a), (j1, x1), (j2, x2), (H.length, y a)] := fun a ha => by
    simp only [outΔ, Row.ren_same (hwf a ha).2.1, Row.ren_same hx1, Row.ren_same hx2, Row.ren_same (hwf a ha).2.2]
    rfl
  refine callE h [j0, j1, j2] hn ⟨by rw [Row.ren_same hx0]; exact h0, by rw [Row.ren_same hx1]; exact h1, by rw [Row.ren_same hx2]; exact h2, trivial⟩ hargs hb
    ⟨bel_mono_row hx0 fun _ h => h.elim, bel_mono_row hx1 fun _ h => h.elim, bel_mono_row hx2 fun _ h => h.elim, trivial⟩
    (fun a ha => ⟨by simp, (hwf a ha).1.mono fun q hq => by subst hq; simp, bel_mono_row (hwf a ha).2.1 fun _ h => h.elim, bel_mono_row hx1 fun _ h => h.elim, bel_mono_row hx2 fun _ h => h.elim, bel_mono_row (hwf a ha).2.2 fun _ h => h.elim, trivial⟩) (by simp; omega) hk (fun a ha q hq => ?_) fun a ha => ?_
  · rw [e a ha]
    have := (List.getElem?_eq_some_iff.1 (hms q hq).2).1
    have h3 := (hms q hq).1
    simp only [List.mem_cons, List.not_mem_nil, or_false, not_or] at h3
    refine ⟨?_, (hms q hq).2⟩
    simp only [List.map_cons, List.map_nil, List.mem_cons, List.not_mem_nil, or_false, not_or]
    exact ⟨h3.1, h3.2.1, h3.2.2, by omega⟩
  · rw [e a ha]
    have e2 : ren (outσ [j0, j1, j2] H.length) (r a) = ren (fun _ => H.length) (r a) := ren_agree (fun q hq => by subst hq; simp [outσ]) (hwf a ha).1
    have q1 : (H.set j0 (some (x' a)))[j1]? = some (some x1) := by rw [List.getElem?_set_ne n1.1]; exact h1
    have q2 : (H.set j0 (some (x' a)))[j2]? = some (some x2) := by rw [List.getElem?_set_ne n1.2]; exact h2
    have e3 : Heap.put (H.set j0 (some (x' a))) H.length (y a) = H.set j0 (some (x' a)) ++ [some (y a)] := by
      have := Heap.put_end (H.set j0 (some (x' a))) (y a)
      rwa [List.length_set] at this
    rw [e2]
    simp only [Heap.puts, put_lt l0, put_id q1, put_id q2, e3]
    exact hK a ha
theorem callE2N {x0 x1 : Row} {x' y : α → Row} {j0 j1 : Nat} (h : AnsE P g largs [some x0, some x1] Φ r fun a => [some (x' a), some x1, some (y a)]) (hargs : args = largs.map (ren (nth [j0, j1]))) (hb : Bels (· < 2) largs)
    (h0 : H[j0]? = some (some x0)) (h1 : H[j1]? = some (some x1)) (hx0 : x0.bel (fun _ => False)) (hx1 : x1.bel (fun _ => False)) (hn : [j0, j1].Nodup)
    (hwf : ∀ a, Φ a → Bel (· = 2) (r a) ∧ (x' a).bel (fun _ => False) ∧ (y a).bel (fun _ => False)) (hk : k ≤ H.length) (hms : ∀ q ∈ ms, q ∉ [j0, j1] ∧ H[q]? = some (some .dfr))
    (hK : ∀ a, Φ a → R (.ops l) fs ⟨setD ρ dst (ren (fun _ => H.length) (r a)), H.set j0 (some (x' a)) ++ [some (y a)], ms⟩ Q) : CallR P G k R g args dst l fs ρ H ms Q := by
  have l0 := (List.getElem?_eq_some_iff.1 h0).1
  have l1 := (List.getElem?_eq_some_iff.1 h1).1
  have n1 : j0 ≠ j1 := by simpa using hn
  have e : ∀ a, Φ a → outΔ (outσ [j0, j1] H.length) 0 [some (x' a), some x1, some (y a)] = [(j0, x' a), (j1, x1), (H.length, y a)] := fun a ha => by
    simp only [outΔ, Row.ren_same (hwf a ha).2.1, Row.ren_same hx1, Row.ren_same (hwf a ha).2.2]
    rfl
  refine callE h [j0, j1] hn ⟨by rw [Row.ren_same hx0]; exact h0, by rw [Row.ren_same hx1]; exact h1, trivial⟩ hargs hb
    ⟨bel_mono_row hx0 fun _ h => h.elim, bel_mono_row hx1 fun _ h => h.elim, trivial⟩
    (fun a ha => ⟨by simp, (hwf a ha).1.mono fun q hq => by subst hq; simp, bel_mono_row (hwf a ha).2.1 fun _ h => h.elim, bel_mono_row hx1 fun _ h => h.elim, bel_mono_row (hwf a ha).2.2 fun _ h => h.elim, trivial⟩) (by simp; omega) hk (fun a ha q hq => ?_) fun a ha => ?_
  · rw [e a ha]
    have := (List.getElem?_eq_some_iff.1 (hms q hq).2).1
    have h3 := (hms q hq).1
    simp only [List.mem_cons, List.not_mem_nil, or_false, not_or] at h3
    refine ⟨?_, (hms q hq).2⟩
    simp only [List.map_cons, List.map_nil, List.mem_cons, List.not_mem_nil, or_false, not_or]
    exact ⟨h3.1, h3.2, by omega⟩
  · rw [e a ha]
    have e2 : ren (outσ [j0, j1] H.length) (r a) = ren (fun _ => H.length) (r a) := ren_agree (fun q hq => by subst hq; simp [outσ]) (hwf a ha).1
    have q1 : (H.set j0 (some (x' a)))[j1]? = some (some x1) := by rw [List.getElem?_set_ne n1]; exact h1
    have e3 : Heap.put (H.set j0 (some (x' a))) H.length (y a) = H.set j0 (some (x' a)) ++ [some (y a)] := by
      have := Heap.put_end (H.set j0 (some (x' a))) (y a)
      rwa [List.length_set] at this
    rw [e2]
    simp only [Heap.puts, put_lt l0, put_id q1, e3]
    exact hK a ha
end
theorem gFrom_le {brk hol : Nat → Bool} {num : Nat → Int} {B : Int} (hB : 0 ≤ B) : ∀ n k : Nat, (∀ i, i < k + n → num i ≤ B) → (gFrom brk hol num n k).2 ≤ B := by
  have h1 : ∀ k, (∀ i, i < k → num i ≤ B) → (gV hol num k).2 ≤ B := fun k => by
    induction k with
    | zero => intro _; exact hB
    | succ k ih =>
      intro h
      rw [gV]; split
      · exact h k (by omega)
      · exact ih fun i hi => h i (by omega)
  intro n
  induction n with
  | zero => intro k h; exact h1 k fun i hi => h i (by omega)
  | succ n ih =>
    intro k h
    rw [gFrom]; split
    · exact h k (by omega)
    · exact ih (k + 1) fun i hi => h i (by omega)
theorem judR_tick (brk : Int) (zs : List Zn) (th f left : Int) (ls : List Lg) : 0 ≤ (judR brk zs th f left ls).2 ∧ (judR brk zs th f left ls).2 ≤ (allT 0 f ls).length :=
  ⟨gFrom_bd (fun i => by unfold numS; omega) _ _, gFrom_le (by omega) _ _ fun i hi => by unfold numS; omega⟩
theorem truth_at {brk : Int} (hbrk : 1 ≤ brk) {zs : List Zn} {th f left : Int} (hleft : 0 ≤ left) {ls : List Lg} {l : List Int} (hl : TsOK zs th (allT 0 f ls) (allT 0 f ls).length l) {i : Nat} (hi : i ≤ (allT 0 f ls).length) :
    ((judR brk zs th f left ls).1 = 1 → l.getD i 0 ≤ brk ∧ (i < (allT 0 f ls).length ∨ l.getD i 0 ≤ left)) ∧
    ((judR brk zs th f left ls).1 = 2 → (i : Int) = (judR brk zs th f left ls).2 → ¬ (l.getD i 0 ≤ brk ∧ (i < (allT 0 f ls).length ∨ l.getD i 0 ≤ left))) := by
  have hb := hl.bd i hi
  refine ⟨fun h => ?_, fun h h2 => ?_⟩
  · cases i with
    | zero => rw [stAt_zero] at hb; dsimp only at hb; omega
    | succ j =>
      have := gFrom_one _ _ h j (by omega)
      unfold holS limA at this
      rw [decide_eq_true_eq] at this
      split at this <;> omega
  · obtain ⟨j, a1, a2, a3, a4⟩ := gFrom_two _ _ h
    have e3 : (judR brk zs th f left ls).2 = numS j := a3
    rw [e3] at h2
    unfold numS at h2
    obtain rfl : i = j + 1 := by omega
    unfold brkS limA at a4
    rw [decide_eq_true_eq] at a4
    split at a4 <;> omega
end Go.Proofs

namespace Go.Proofs
open Go Go.Sx
attribute [local irreducible] Run

set_option maxHeartbeats 16000000 in
set_option maxRecDepth 20000 in
theorem truths_loop {G : Ctx} {H : Heap} {jt N : Nat} {g : Bool} {tr : List Int} {brk left V1 V2 : Int} {v : AVal} (hN : N ≤ 1000000) (htl : tr.length = N + 1) (c2 : H.cellsAt 2 = some (false, 2, [.agg [.int .i64 brk, v]])) (ct : H.cellsAt jt = some (g, 1, il tr))
    (hat : ∀ i, i ≤ N → (V1 = 1 → tr.getD i 0 ≤ brk ∧ (i < N ∨ tr.getD i 0 ≤ left)) ∧ (V1 = 2 → (i : Int) = V2 → ¬ (tr.getD i 0 ≤ brk ∧ (i < N ∨ tr.getD i 0 ≤ left)))) :
    Sx.Loop Try.prog G 0 none k_law05_GlassTruths_r25 [.blk 2, .seq (.seq (.reg k_law05_GlassTruths_r26 false) .ret)]
      ⟨tsets 164 [(2, .bool false), (4, .ptr 2 0 0 1), (7, .int .i64 left), (8, .sl jt 0 (N + 1)), (11, .int .i64 V1), (12, .int .i64 V2), (16, .int .i64 0)], H, []⟩ (RetPost [.tmp 2] fun v _ => v = .bool true) := by
  refine loop_indH k_law05_GlassTruths_r25.eq_1 (fun i : Nat => i ≤ N + 1) (fun i => N + 1 - i)
    (fun i => tsets 164 [(2, .bool false), (4, .ptr 2 0 0 1), (7, .int .i64 left), (8, .sl jt 0 (N + 1)), (11, .int .i64 V1), (12, .int .i64 V2), (16, .int .i64 i)]) 0 (Nat.zero_le _) (by simp [go_sem]) ?_
  intro i hi ih
  by_cases i1 : i < N + 1
  · have i2 : (i : Int) < ((N + 1 : Nat) : Int) := by omega
    have ihn := ih (i + 1) (by omega) i1
    clear ih
    have hA := hat i (by omega)
    obtain ⟨x, hx⟩ : ∃ x, tr.getD i 0 = x := ⟨_, rfl⟩
    rw [hx] at hA
    have e3 : (il tr)[i]? = some (.int .i64 x) := by unfold il; rw [List.getElem?_map, ← hx, List.getD_eq_getElem?_getD, List.getElem?_eq_getElem (by omega)]; rfl
    have wN : IntKind.i64.wrap (((N + 1 : Nat) : Int) - 1) = N := by rw [w64 (by omega)]; omega
    have w9 : IntKind.i64.wrap ((i : Int) + 1) = ((i + 1 : Nat) : Int) := by rw [w64 (by omega)]; rfl
    by_cases c1 : x ≤ brk
    · by_cases c3 : (i : Int) < N
      · have his : x ≤ brk ∧ (i < N ∨ x ≤ left) := ⟨c1, .inl (by omega)⟩
        have hA2 := fun h1 h2 => (hA.2 h1 h2) his
        by_cases v1 : V1 = 1
        · have b1 : (V1 == 1) = true := by rw [v1]; rfl
          have b2 : (V1 == 2) = false := by rw [v1]; rfl
          simp only [go_sem, c2, ct, htl, il_len, i2, i1, e3, wN, w9, c1, c3, b1, b2]
          exact ihn _ (by simp [go_sem])
        · have b1 : (V1 == 1) = false := beq_eq_false_iff_ne.2 v1
          by_cases v2 : V1 = 2
          · have b2 : (V1 == 2) = true := by rw [v2]; rfl
            have b3 : ((i : Int) == V2) = false := beq_eq_false_iff_ne.2 fun e => hA2 v2 e
            simp only [go_sem, c2, ct, htl, il_len, i2, i1, e3, wN, w9, c1, c3, b1, b2, b3]
            exact ihn _ (by simp [go_sem])
          · have b2 : (V1 == 2) = false := beq_eq_false_iff_ne.2 v2
            simp only [go_sem, c2, ct, htl, il_len, i2, i1, e3, wN, w9, c1, c3, b1, b2]
            exact ihn _ (by simp [go_sem])
      · by_cases c4 : x ≤ left
        · have his : x ≤ brk ∧ (i < N ∨ x ≤ left) := ⟨c1, .inr c4⟩
          have hA2 := fun h1 h2 => (hA.2 h1 h2) his
          by_cases v1 : V1 = 1
          · have b1 : (V1 == 1) = true := by rw [v1]; rfl
            have b2 : (V1 == 2) = false := by rw [v1]; rfl
            simp only [go_sem, c2, ct, htl, il_len, i2, i1, e3, wN, w9, c1, c3, c4, b1, b2]
            exact ihn _ (by simp [go_sem])
          · have b1 : (V1 == 1) = false := beq_eq_false_iff_ne.2 v1
            by_cases v2 : V1 = 2
            · have b2 : (V1 == 2) = true := by rw [v2]; rfl
              have b3 : ((i : Int) == V2) = false := beq_eq_false_iff_ne.2 fun e => hA2 v2 e
              simp only [go_sem, c2, ct, htl, il_len, i2, i1, e3, wN, w9, c1, c3, c4, b1, b2, b3]
              exact ihn _ (by simp [go_sem])
            · have b2 : (V1 == 2) = false := beq_eq_false_iff_ne.2 v2
              simp only [go_sem, c2, ct, htl, il_len, i2, i1, e3, wN, w9, c1, c3, c4, b1, b2]
              exact ihn _ (by simp [go_sem])
        · have his : ¬ (x ≤ brk ∧ (i < N ∨ x ≤ left)) := fun h => by omega
          have b1 : (V1 == 1) = false := beq_eq_false_iff_ne.2 fun e => his (hA.1 e)
          by_cases v2 : V1 = 2
          · have b2 : (V1 == 2) = true := by rw [v2]; rfl
            by_cases v3 : (i : Int) = V2
            · have b3 : ((i : Int) == V2) = true := by rw [v3]; simp
              simp only [go_sem, c2, ct, htl, il_len, i2, i1, e3, wN, w9, c1, c3, c4, b1, b2, b3]
              exact ihn _ (by simp [go_sem])
            · have b3 : ((i : Int) == V2) = false := beq_eq_false_iff_ne.2 v3
              simp only [go_sem, c2, ct, htl, il_len, i2, i1, e3, wN, w9, c1, c3, c4, b1, b2, b3]
              exact ihn _ (by simp [go_sem])
          · have b2 : (V1 == 2) = false := beq_eq_false_iff_ne.2 v2
            simp only [go_sem, c2, ct, htl, il_len, i2, i1, e3, wN, w9, c1, c3, c4, b1, b2]
            exact ihn _ (by simp [go_sem])
    · have his : ¬ (x ≤ brk ∧ (i < N ∨ x ≤ left)) := fun h => c1 h.1
      have b1 : (V1 == 1) = false := beq_eq_false_iff_ne.2 fun e => his (hA.1 e)
      by_cases v2 : V1 = 2
      · have b2 : (V1 == 2) = true := by rw [v2]; rfl
        by_cases v3 : (i : Int) = V2
        · have b3 : ((i : Int) == V2) = true := by rw [v3]; simp
          simp only [go_sem, c2, ct, htl, il_len, i2, i1, e3, wN, w9, c1, b1, b2, b3]
          exact ihn _ (by simp [go_sem])
        · have b3 : ((i : Int) == V2) = false := beq_eq_false_iff_ne.2 v3
          simp only [go_sem, c2, ct, htl, il_len, i2, i1, e3, wN, w9, c1, b1, b2, b3]
          exact ihn _ (by simp [go_sem])
      · have b2 : (V1 == 2) = false := beq_eq_false_iff_ne.2 v2
        simp only [go_sem, c2, ct, htl, il_len, i2, i1, e3, wN, w9, c1, b1, b2]
        exact ihn _ (by simp [go_sem])
  · have i2 : ¬ (i : Int) < ((N + 1 : Nat) : Int) := by omega
    simp only [go_sem, htl, il_len, ct, i2]
    refine cP awake_ok ?_
    simp only [go_sem]
set_option maxHeartbeats 16000000 in
set_option maxRecDepth 20000 in
theorem truths_law (ns : List Int) (hl : ns.length ≤ 9223372036854775807) : Ans Try.prog n_law05_GlassTruths [.view (ns.map (.int .i64))] [] (.bool true) [] := by
  refine spec_run e_law05_GlassTruths fun G => ?_
  simp only [go_sem]
  refine callN1 (newdice_ok ns hl) (by simp only [go_sem]) (dr_bel _ _) (by simp) (by simp) ?_
  generalize seedW ns = w
  simp only [go_sem]
  refine callDN (stuffOf_run w) rfl (by simp only [go_sem]) (dr_bel _ _) (fun a ha => ⟨by simp [go_sem], dr_bel _ _, by rw [row_bel_cells]; simp only [go_sem]⟩) (by simp) (by simp) ?_
  rintro ⟨brk, zs, w1⟩ h1
  dsimp only at h1 ⊢
  simp only [go_sem, ren, rens]
  refine callDSf (u := fun a : Int × List Lg × Int => .int .i64 a.1) (es := fun a => lgL a.2.1) (x' := fun a => Dr a.2.2) (ovenOf_run w1 4 30 (by decide) (by decide)) rfl (by simp only [go_sem]) (dr_bel _ _) (fun a ha => ⟨dr_bel _ _, by unfold lgL; simp only [go_sem], by simp only [go_sem]⟩) (by simp) (by simp) ?_
  rintro ⟨f, ls, w2⟩ ⟨hf, hl4, hok⟩
  dsimp only at hf hl4 hok ⊢
  have ho : OvOK f ls := ⟨by omega, by omega, hok⟩
  have zb : ∀ S : Nat → Prop, (Row.cells true 5 (zs.map Zn.v)).bel S := fun S => by rw [row_bel_cells]; simp only [go_sem]
  have ib : ∀ (g : Bool) (l : List Int) (S : Nat → Prop), (Row.cells g 1 (il l)).bel S := fun g l S => by rw [row_bel_cells]; exact bels_map _ _ fun z => by simp only [go_sem]
  have u2 := upto_in (w := w2) (n := 2) (by decide)
  have ku := upto_ok w2 2 (by decide)
  obtain ⟨tm, htm, sb⟩ := sel2i _ 20 1000 u2
  have n2 : ¬ upto w2 2 < 0 := by omega
  have tmb : 1 ≤ tm ∧ tm ≤ 1000 := by rcases htm with rfl | rfl <;> omega
  have kb := between_ok (dstep w2) 1 tm (by decide) (by omega) (by omega)
  have bb := btw_in (w := dstep w2) (lo := 1) (hi := tm) (by omega)
  obtain ⟨th, hth⟩ : ∃ t, btw (dstep w2) 1 tm = t := ⟨_, rfl⟩
  rw [hth] at kb bb
  obtain ⟨w3, hw3⟩ : ∃ t, dstep (dstep w2) = t := ⟨_, rfl⟩
  rw [hw3] at kb
  have hthb : 1 ≤ th ∧ th ≤ 1000 := by omega
  have htot := allT_total ho.all 0 f
  have hlen := ho.len
  by_cases hne : ls = []
  · subst hne
    simp only [(slr_none (lgL_nil rfl) true 2 _).1, (slr_none (lgL_nil rfl) true 2 0).2]
    simp only [go_sem]
    refine cD ku ?_
    simp only [go_sem, n2, sb]
    refine ⟨u2.2, ?_⟩
    refine cD kb ?_
    simp only [go_sem]
    refine callE2 (leftOf_nil w3 h1 hthb (f := f) (by omega)) (j0 := 0) (j1 := 1) rfl (by simp [go_sem]) rfl rfl (dr_bel _ _) (zb _) (by decide) (fun q hq => ⟨by simp only [go_sem], dr_bel _ _⟩) (by simp) (by simp) ?_
    rintro ⟨left, w4⟩ hleft
    dsimp only at hleft ⊢
    simp only [go_sem]
    refine callE2N (strainsOf_nil w4 (brk := brk) (zs := zs) (th := th) (f := f) (by omega)) (j0 := 0) (j1 := 1) rfl (by simp [go_sem]) rfl rfl (dr_bel _ _) (zb _) (by decide) (fun q hq => ⟨by simp [go_sem], dr_bel _ _, ib _ _ _⟩) (by simp) (by simp) ?_
    rintro w5 -
    have htr : TsOK zs th (allT 0 f []) (allT 0 f []).length [0] := ⟨rfl, fun j hj => by
      obtain rfl : j = 0 := by simpa [allT] using hj
      rw [stAt_zero]; exact ⟨Int.le_refl _, Int.le_refl _⟩⟩
    have ks := Ans.lso (Strain_run h1 hthb ho) (args' := [stV brk zs, .int .i64 th, .agg [.int .i64 f, .nilsl]]) ⟨.inl rfl, .inl rfl, .inr ⟨_, rfl, rfl⟩, trivial⟩
    have kj := Ans.lso (Judge_run h1 hthb ho hleft) (args' := [stV brk zs, .int .i64 th, .agg [.int .i64 f, .nilsl], .int .i64 left]) ⟨.inl rfl, .inl rfl, .inr ⟨_, rfl, rfl⟩, .inl rfl, trivial⟩
    rw [aftS_eq hok] at ks
    simp only [List.length_nil, legSs, List.range_zero, List.map_nil] at ks
    have hat := fun i (hi : i ≤ (allT 0 f []).length) => truth_at (brk := brk) h1.brk.1 hleft.1 htr hi
    have hvt := judR_tick brk zs th f left []
    obtain ⟨V, hV⟩ : ∃ V, judR brk zs th f left [] = V := ⟨_, rfl⟩
    rw [hV] at kj hat hvt
    have hN : (allT 0 f []).length = 0 := rfl
    rw [hN] at hat hvt
    simp only [go_sem, ren, rens]
    refine cFN ks 6 ⟨.inl (st_frz (g := true) rfl rfl), .inl rfl, .inl rfl, trivial⟩ ?_ (hx := by rw [row_bel_cells]; simp only [go_sem]) (hxn := row_nv_cells _ _ trivial)
    simp only [go_sem, ren, rens]
    refine cF kj 6 ⟨.inl (st_frz (g := true) rfl rfl), .inl rfl, .inl rfl, .inl rfl, trivial⟩ ?_
    have v1 : ¬ V.2 < 0 := by omega
    have v2 : ¬ V.2 ≥ 1 := by omega
    simp only [go_sem, v1, v2]
    refine loop_body 400 k_law05_GlassTruths_r18.eq_1 ?_
    simp only [go_sem]
    refine loop_wk ?_ (truths_loop (N := 0) (jt := 5) (tr := [0]) (brk := brk) (left := left) (V1 := V.1) (V2 := V.2) (by omega) rfl rfl rfl hat)
    simp [go_sem]
  · simp only [(slr_some (lgL_ne hne) true 2 _).1, (slr_some (lgL_ne hne) true 2 0).2]
    have hll : (lgL ls).length = ls.length := by simp [lgL]
    have lb : ∀ S : Nat → Prop, (Row.cells true 2 (ls.map Lg.v)).bel S := fun S => by rw [row_bel_cells]; simp only [go_sem]
    simp only [go_sem, hll, lgL]
    refine cD ku ?_
    simp only [go_sem, n2, sb]
    refine ⟨u2.2, ?_⟩
    refine cD kb ?_
    simp only [go_sem]
    refine callE3 (leftOf_run w3 h1 hthb ho hne) (j0 := 0) (j1 := 1) (j2 := 3) rfl (by simp [go_sem]) rfl rfl rfl (dr_bel _ _) (zb _) (lb _) (by decide) (fun q hq => ⟨by simp only [go_sem], dr_bel _ _⟩) (by simp) (by simp) ?_
    rintro ⟨left, w4⟩ hleft
    dsimp only at hleft ⊢
    simp only [go_sem]
    refine callE3N (strainsOf_run w4 h1 hthb ho) (j0 := 0) (j1 := 1) (j2 := 3) rfl (by simp [go_sem]) rfl rfl rfl (dr_bel _ _) (zb _) (lb _) (by decide) (fun q hq => ⟨by simp [go_sem], dr_bel _ _, ib _ _ _⟩) (by simp) (by simp) ?_
    rintro ⟨w5, tr⟩ htr
    dsimp only at htr ⊢
    have ks := Strain_run h1 hthb ho
    rw [aftS_eq hok] at ks
    have kj := Judge_run h1 hthb ho hleft
    have hat := fun i (hi : i ≤ (allT 0 f ls).length) => truth_at (brk := brk) h1.brk.1 hleft.1 htr hi
    have hvt := judR_tick brk zs th f left ls
    obtain ⟨V, hV⟩ : ∃ V, judR brk zs th f left ls = V := ⟨_, rfl⟩
    rw [hV] at kj hat hvt
    have hle := fun i => allT_take_le 0 f ls i
    have hgl : ∀ i, legS zs th f ls i = stAt zs th (allT 0 f ls) (allT 0 f (ls.take (i + 1))).length := fun i => rfl
    have hbd := htr.bd
    have htl := htr.len
    have hxl := legSs_len zs th f ls ls.length
    have hxg : ∀ i, i < ls.length → ((legSs zs th f ls ls.length).map rv)[i]? = some (.agg [.int .i64 (legS zs th f ls i).1, .int .i64 (legS zs th f ls i).2]) := fun i hi => by rw [List.getElem?_map, legSs_get hi]; rfl
    obtain ⟨N, hN⟩ : ∃ N, (allT 0 f ls).length = N := ⟨_, rfl⟩
    rw [hN] at hat hvt hle hbd htl htot ⊢
    obtain ⟨XL, hXL⟩ : ∃ L, legSs zs th f ls ls.length = L := ⟨_, rfl⟩
    rw [hXL] at hxl hxg ks
    simp only [go_sem, ren, rens]
    refine cFN ks 6 ⟨.inl (st_frz (g := true) rfl rfl), .inl rfl, .inl (ov_frz (g := true) rfl rfl), trivial⟩ ?_ (hx := by rw [row_bel_cells]; simp only [rvs_bel]) (hxn := row_nv_cells _ _ (nvs_map _ _ fun z => by simp only [go_sem, rv, r2]))
    simp only [go_sem, ren, rens]
    refine cF kj 6 ⟨.inl (st_frz (g := true) rfl rfl), .inl rfl, .inl (ov_frz (g := true) rfl rfl), .inl rfl, trivial⟩ ?_
    have v1 : ¬ V.2 < 0 := by omega
    have v2 : ¬ V.2 ≥ ((N + 1 : Nat) : Int) := by omega
    simp only [go_sem, v1, v2, il_len, htl]
    refine loop_indH k_law05_GlassTruths_r18.eq_1 (fun i : Nat => i ≤ ls.length) (fun i => ls.length - i)
      (fun i => tsets 164 [(2, .bool false), (4, .ptr 2 0 0 1), (5, .ptr 4 0 0 1), (7, .int .i64 left), (8, .sl 6 0 (N + 1)), (9, .sl 7 0 ls.length), (11, .int .i64 V.1), (12, .int .i64 V.2), (14, .int .i64 ((allT 0 f (ls.take i)).length : Nat)), (15, .int .i64 i)]) 0 (Nat.zero_le _) (by simp [go_sem, allT]) ?_
    intro i hi ih
    by_cases i1 : i < ls.length
    · have i2 : (i : Int) < ls.length := by omega
      obtain ⟨z, hz⟩ : ∃ z, ls[i]? = some z := ⟨_, List.getElem?_eq_getElem i1⟩
      have hzt := (hok z (List.mem_of_getElem? hz)).tk
      have hs := allT_sum ls 0 f i z hz hzt.1
      have hle2 := hle (i + 1)
      have hbd2 := hbd (allT 0 f (ls.take (i + 1))).length hle2
      rw [← hgl i] at hbd2
      have ihn := ih (i + 1) (by omega) i1
      clear ih
      obtain ⟨A, hA⟩ : ∃ A, (allT 0 f (ls.take i)).length = A := ⟨_, rfl⟩
      obtain ⟨B, hB⟩ : ∃ A, (allT 0 f (ls.take (i + 1))).length = A := ⟨_, rfl⟩
      rw [hA, hB] at hs
      rw [hB] at hle2 hbd2 ihn
      rw [hA]
      obtain ⟨x, hx⟩ : ∃ x, tr.getD B 0 = x := ⟨_, rfl⟩
      rw [hx] at hbd2
      have e3 : (il tr)[B]? = some (.int .i64 x) := by unfold il; rw [List.getElem?_map, ← hx, List.getD_eq_getElem?_getD, List.getElem?_eq_getElem (by omega)]; rfl
      have w3 : IntKind.i64.wrap ((A : Int) + z.tk) = B := by rw [w64 (by omega)]; omega
      have w9 : IntKind.i64.wrap ((i : Int) + 1) = ((i + 1 : Nat) : Int) := by rw [w64 (by omega)]; rfl
      have c1 : (B : Int) < ((N + 1 : Nat) : Int) := by omega
      have c2 : B < N + 1 := by omega
      have c3 : ¬ x < (legS zs th f ls i).1 := by omega
      have c4 : ¬ x > (legS zs th f ls i).2 := by omega
      simp only [go_sem, i2, i1, hz, Lg.v, w3, c1, c2, e3, htl, il_len, hxg i i1, hxl, List.length_map, c3, c4, w9]
      exact ihn _ (by simp [go_sem])
    · have i2 : ¬ (i : Int) < ls.length := by omega
      clear ih
      simp only [go_sem, i2]
      refine loop_wk ?_ (truths_loop (N := N) (jt := 6) (brk := brk) (left := left) (V1 := V.1) (V2 := V.2) (by omega) htl rfl rfl hat)
      simp [go_sem]
end Go.Proofs

