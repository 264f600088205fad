/- A part of the proof. -/
import Derived.Test.YtmpocglkfgfpbaaPF
set_option linter.unusedSimpArgs false
set_option linter.unusedVariables false
namespace Go.Proofs
open Go Go.Sx
attribute [local irreducible] Run

theorem ediv_step (a d c : Int) : (a + c + d * 1000000) / 1000000 = (a + c) / 1000000 + d := Int.add_mul_ediv_right _ _ (by decide)
theorem left_mono {x y q q' c : Int} (h0 : 0 ≤ x) (h : x ≤ y) (hq : 0 ≤ q' ∧ q' ≤ q ∧ q ≤ 1000000) : x - (x * q + c) / 1000000 ≤ y - (y * q' + c) / 1000000 := by
  have h1 : y * q' ≤ y * q := Int.mul_le_mul_of_nonneg_left hq.2.1 (by omega)
  have h2 : (y - x) * q ≤ (y - x) * 1000000 := Int.mul_le_mul_of_nonneg_left hq.2.2 (by omega)
  have h3 : y * q = x * q + (y - x) * q := by rw [Int.sub_mul]; omega
  have h4 : (y * q' + c) / 1000000 ≤ (x * q + c + (y - x) * 1000000) / 1000000 := Int.ediv_le_ediv (by decide) (by omega)
  rw [ediv_step] at h4
  omega
theorem leastL_mono2 {x y : Int} {z z' : Zn} (hz : ZnOK z) (hr : 0 ≤ z'.rhi ∧ z'.rhi ≤ z.rhi) (h0 : 0 ≤ x) (h : x ≤ y) : leastL x z ≤ leastL y z' := by
  have := hz.r
  exact left_mono h0 h ⟨hr.1, hr.2, by omega⟩
theorem mostL_mono2 {x y : Int} {z z' : Zn} (hz : ZnOK z) (hr : 0 ≤ z'.rlo ∧ z'.rlo ≤ z.rlo) (h0 : 0 ≤ x) (h : x ≤ y) : mostL x z ≤ mostL y z' := by
  have := hz.r
  have := left_mono (c := 0) h0 h ⟨hr.1, hr.2, by omega⟩
  unfold mostL
  rw [Int.add_zero, Int.add_zero] at this
  exact this
theorem least_most2 {x : Int} {z : Zn} (hz : ZnOK z) (h0 : 0 ≤ x) : leastL x z ≤ mostL x z := by
  have hr := hz.r
  have h1 : x * z.rlo ≤ x * z.rhi := Int.mul_le_mul_of_nonneg_left hr.2.1 h0
  unfold leastL mostL; omega
theorem add_low_high {t : Tk} (ht : TkOK t) {z : Zn} (hz : ZnOK z) {th : Int} (hth : 1 ≤ th ∧ th ≤ 1000) : addL t z th ≤ addH t z th := by
  have hp := pull_in ht hth
  have hg := hz.g
  have := Int.mul_le_mul_of_nonneg_left hg.2.1 hp.1
  unfold addL addH; omega
theorem addL_mono {t : Tk} (ht : TkOK t) {z z' : Zn} (hz : ZnOK z) (hg' : z.glo ≤ z'.glo) {th th' : Int} (hth : 1 ≤ th ∧ th ≤ th') : addL t z th ≤ addL t z' th' := by
  have h1 := ht.f
  have h2 := ht.t
  have hg := hz.g
  unfold addL
  have h0 : 0 ≤ max (t.f - t.t) (t.t - t.f) := by omega
  generalize max (t.f - t.t) (t.t - t.f) = m at *
  have a1 := Int.mul_le_mul_of_nonneg_left hth.2 h0
  have a2 := Int.mul_nonneg h0 (show 0 ≤ th by omega)
  have a3 := Int.mul_le_mul_of_nonneg_left hg' a2
  have a4 := Int.mul_le_mul_of_nonneg_right a1 (show 0 ≤ z'.glo by omega)
  omega
theorem addH_mono {t : Tk} (ht : TkOK t) {z z' : Zn} (hz : 0 ≤ z.ghi) (hg' : z.ghi ≤ z'.ghi) {th th' : Int} (hth : 1 ≤ th ∧ th ≤ th') : addH t z th ≤ addH t z' th' := by
  have h1 := ht.f
  have h2 := ht.t
  unfold addH
  have h0 : 0 ≤ max (t.f - t.t) (t.t - t.f) := by omega
  generalize max (t.f - t.t) (t.t - t.f) = m at *
  have a1 := Int.mul_le_mul_of_nonneg_left hth.2 h0
  have a2 := Int.mul_nonneg h0 (show 0 ≤ th by omega)
  have a3 := Int.mul_le_mul_of_nonneg_left hg' a2
  have a4 := Int.mul_le_mul_of_nonneg_right a1 (show 0 ≤ z'.ghi by omega)
  omega
theorem stAt_none {zs : List Zn} {th : Int} {ts : List Tk} {i : Nat} (h : ts[i]? = none) : stAt zs th ts (i + 1) = stAt zs th ts i := by
  unfold stAt
  rw [List.take_add_one, h]; simp
theorem stAt_zero (zs : List Zn) (th : Int) (ts : List Tk) : stAt zs th ts 0 = (0, 0) := by simp [stAt]
theorem st_le {zs : List Zn} (hz : ZsOK zs) {th : Int} (hth : 1 ≤ th ∧ th ≤ 1000) {ts : List Tk} (h : ∀ t ∈ ts, TkOK t) : ∀ i, (stAt zs th ts i).1 ≤ (stAt zs th ts i).2
  | 0 => by rw [stAt_zero]; exact Int.le_refl _
  | i + 1 => by
    have ih := st_le hz hth h i
    cases ht : ts[i]? with
    | none => rw [stAt_none ht]; exact ih
    | some t =>
      have hto := h t (List.mem_of_getElem? ht)
      have hzo := zAt_ok hz t.t
      have hb := stAt_in hz hth h i
      rw [stAt_succ ht]
      have a1 := add_low_high hto hzo hth
      have a2 := least_most2 hzo hb.1
      have a3 := mostL_mono2 (z' := zAt zs t.t) hzo ⟨by have := hzo.r; omega, Int.le_refl _⟩ hb.1 ih
      unfold stepS; dsimp only; omega
theorem st_thick {zs : List Zn} (hz : ZsOK zs) {th th' : Int} (hth : 1 ≤ th ∧ th ≤ th' ∧ th' ≤ 1000) {ts : List Tk} (h : ∀ t ∈ ts, TkOK t) : ∀ i, (stAt zs th ts i).1 ≤ (stAt zs th' ts i).1 ∧ (stAt zs th ts i).2 ≤ (stAt zs th' ts i).2
  | 0 => by rw [stAt_zero, stAt_zero]; exact ⟨Int.le_refl _, Int.le_refl _⟩
  | i + 1 => by
    have ih := st_thick hz hth h i
    cases ht : ts[i]? with
    | none => rw [stAt_none ht, stAt_none ht]; exact ih
    | some t =>
      have hto := h t (List.mem_of_getElem? ht)
      have hzo := zAt_ok hz t.t
      have hb := stAt_in hz (th := th) (by omega) h i
      have hr := hzo.r
      rw [stAt_succ ht, stAt_succ ht]
      have a1 := addL_mono hto (z' := zAt zs t.t) hzo (Int.le_refl _) (th := th) (th' := th') (by omega)
      have a2 := addH_mono hto (z := zAt zs t.t) (z' := zAt zs t.t) (by have := hzo.g; omega) (Int.le_refl _) (th := th) (th' := th') (by omega)
      have a3 := leastL_mono2 (z' := zAt zs t.t) hzo ⟨by omega, Int.le_refl _⟩ hb.1 ih.1
      have a4 := mostL_mono2 (z' := zAt zs t.t) hzo ⟨by omega, Int.le_refl _⟩ hb.2.2.1 ih.2
      unfold stepS; dsimp only; omega
theorem allT_split : ∀ (ls : List Lg) (n b : Int) (i : Nat), i ≤ ls.length → allT n b ls = allT n b (ls.take i) ++ allT (n + i) (begAt b ls i) (ls.drop i)
  | ls, n, b, 0, _ => by simp [allT, begAt]
  | [], n, b, i + 1, h => by simp at h
  | x :: r, n, b, i + 1, h => by
    have := allT_split r (n + 1) x.ht i (by simpa using h)
    rw [List.take_succ_cons, List.drop_succ_cons, allT, allT, this, List.append_assoc]
    congr 3
    · push_cast; omega
    · cases i with
      | zero => rfl
      | succ i => simp [begAt]
theorem leg_after {f : Int} {ls : List Lg} {j k : Nat} {t : Tk} (hj : j < ls.length) (hk : (allT 0 f (ls.take (j + 1))).length ≤ k) (ht : (allT 0 f ls)[k]? = some t) : (j : Int) < t.n := by
  rw [allT_split ls 0 f (j + 1) (by omega), List.getElem?_append_right hk] at ht
  have := (allT_n t (List.mem_of_getElem? ht)).1
  push_cast at this; omega
theorem aftS_at {zs : List Zn} {th f : Int} {ls : List Lg} (hok : ∀ l ∈ ls, LgOK l) {j : Nat} (hj : j < ls.length) : ∀ k, (allT 0 f (ls.take (j + 1))).length + k ≤ (allT 0 f ls).length → (aftS zs th (allT 0 f ls) ls.length ((allT 0 f (ls.take (j + 1))).length + k))[j]? = some (legS zs th f ls j)
  | 0, h => by
    obtain ⟨z, hz⟩ : ∃ z, ls[j]? = some z := ⟨_, List.getElem?_eq_getElem hj⟩
    have hzt := (hok z (List.mem_of_getElem? hz)).tk
    have hl := allT_len (n := 0) (b := f) hz
    have hg := allT_get (n := 0) (b := f) (t := z.tk.toNat - 1) hz (by omega)
    have e : (allT 0 f (ls.take (j + 1))).length + 0 = (allT 0 f (ls.take j)).length + (z.tk.toNat - 1) + 1 := by omega
    have e2 : legS zs th f ls j = stAt zs th (allT 0 f ls) ((allT 0 f (ls.take j)).length + (z.tk.toNat - 1) + 1) := by unfold legS; congr 1
    rw [e, aftS_succ hg, e2]
    dsimp only
    rw [show ((0 : Int) + (j : Int)).toNat = j by omega]
    exact List.getElem?_set_self (by rw [aftS_len]; exact hj)
  | k + 1, h => by
    have ih := aftS_at (zs := zs) (th := th) (f := f) hok hj k (by omega)
    obtain ⟨t, ht⟩ : ∃ t, (allT 0 f ls)[(allT 0 f (ls.take (j + 1))).length + k]? = some t := ⟨_, List.getElem?_eq_getElem (by omega)⟩
    have hn := leg_after hj (by omega) ht
    rw [← Nat.add_assoc, aftS_succ ht, List.getElem?_set_ne (by omega)]
    exact ih
theorem aftS_eq {zs : List Zn} {th f : Int} {ls : List Lg} (hok : ∀ l ∈ ls, LgOK l) : aftS zs th (allT 0 f ls) ls.length (allT 0 f ls).length = legSs zs th f ls ls.length := by
  refine List.ext_getElem? fun j => ?_
  by_cases hj : j < ls.length
  · have hle := allT_take_le 0 f ls (j + 1)
    have := aftS_at (zs := zs) (th := th) (f := f) hok hj ((allT 0 f ls).length - (allT 0 f (ls.take (j + 1))).length) (by omega)
    rw [show (allT 0 f (ls.take (j + 1))).length + ((allT 0 f ls).length - (allT 0 f (ls.take (j + 1))).length) = (allT 0 f ls).length by omega] at this
    rw [this, legSs_get hj]
  · rw [List.getElem?_eq_none (by rw [aftS_len]; omega), List.getElem?_eq_none (by rw [legSs_len]; omega)]

theorem limA_mono {brk left left' : Int} (h : left ≤ left') (N i : Nat) : limA brk left N i ≤ limA brk left' N i := by
  unfold limA; split <;> omega
theorem sure_more {brk : Int} {zs : List Zn} (hz : ZsOK zs) {th : Int} (hth : 1 ≤ th ∧ th ≤ 1000) {f left left' : Int} (h : left ≤ left') {ls : List Lg} (ho : OvOK f ls) (hs : (judR brk zs th f left ls).1 = 1) : judR brk zs th f left' ls = (1, 0) := by
  have htk := allT_ok (n := 0) ho.f ho.all
  refine gFrom_is_one _ _ fun i hi => ?_
  have h1 := gFrom_one _ _ hs i hi
  have h2 := st_le hz hth htk (i + 1)
  have h3 := limA_mono (brk := brk) h (allT 0 f ls).length i
  unfold holS at h1 ⊢
  unfold brkS
  rw [decide_eq_true_eq] at h1 ⊢
  rw [decide_eq_false_iff_not]
  omega
end Go.Proofs

namespace Go.Proofs
open Go Go.Sx
attribute [local irreducible] Run

theorem vr_nilo {G : Ctx} {μ : Mu} {a : AVal} {x : Value} (h : VR G μ (.agg [a, .nilsl]) x) : VR G μ (.agg [a, .view []]) x := by
  cases h with
  | agg _ vs hl hv =>
    refine .agg _ vs (by simpa using hl) fun i hi => ?_
    match i, hi with
    | 0, _ => exact hv 0 (by simp)
    | 1, _ =>
      have h3 := hv 1 (by simp)
      simp only [List.getD_cons_zero, List.getD_cons_succ] at h3 ⊢
      generalize vs.getD 1 undef = y at *
      cases h3
      exact .viewnil none 0
def lso : List AVal → List AVal → Prop
  | [], [] => True
  | v :: vs, u :: us => (v = u ∨ (∃ a, v = .agg [a, .nilsl] ∧ u = .agg [a, .view []])) ∧ lso vs us
  | _, _ => False
theorem lso_len : ∀ {l l' : List AVal}, lso l l' → l.length = l'.length
  | [], [], _ => rfl
  | v :: l, u :: l', h => by simp [lso_len h.2]
  | [], _ :: _, h => h.elim
  | _ :: _, [], h => h.elim
theorem lso_vr {G : Ctx} {μ : Mu} : ∀ {l l' : List AVal}, lso l l' → ∀ i c, i < l.length → VR G μ (l.getD i .any) c → VR G μ (l'.getD i .any) c
  | [], [], _, i, c, hi, _ => by simp at hi
  | v :: l, u :: l', h, i, c, hi, hv => by
    cases i with
    | zero =>
      simp only [List.getD_cons_zero] at hv ⊢
      rcases h.1 with rfl | ⟨a, rfl, rfl⟩
      · exact hv
      · exact vr_nilo hv
    | succ i =>
      simp only [List.getD_cons_succ] at hv ⊢
      exact lso_vr h.2 i c (by simpa using hi) hv
  | [], _ :: _, h, _, _, _, _ => h.elim
  | _ :: _, [], h, _, _, _, _ => h.elim
theorem Ans.lso {P : Program} {g : FuncId} {args args' : List AVal} {LH LH' : Heap} {r : AVal} (h : Ans P g args LH r LH') (hw : Go.Proofs.lso args' args) : Ans P g args' LH r LH' := h.weak (lso_len hw) fun _ _ i c hi hv => lso_vr hw i c hi hv
theorem in_ok3 (w a b : Int) (h : 0 ≤ a ∧ a ≤ b ∧ b ≤ 2000000000000) : Ans Try.prog n_kit_Dice_In [.ptr 0 0 0 1, r2 a b] [some (Dr w)] (.int .i64 (btw w a b)) [some (Dr (dstep w))] := by
  have e : (if b > a then b else a) = b := by split <;> omega
  refine spec_run e_kit_Dice_In fun G => ?_
  simp only [go_sem, r2, e]
  refine cD (between_ok _ a b (by omega) h.2.1 (by omega)) ?_
  simp only [go_sem]
  exact ⟨_, rfl⟩
theorem ov_frz {H : Heap} {f : Int} {ls : List Lg} {j n : Nat} {g : Bool} (h : H[j]? = some (some (.cells g 2 (ls.map Lg.v)))) (hn : n = ls.length) : frz 6 H (.agg [.int .i64 f, .sl j 0 n]) = ovV f ls := by
  have h1 : frz 5 H (.sl j 0 n) = .view (ls.map Lg.v) := by
    rw [frz_sl (d := 4) h (by simpa using hn), List.map_map]; rfl
  show AVal.agg [_, frz 5 H (.sl j 0 n)] = _
  rw [h1]; rfl
theorem pick5 (i a b c d e : Int) (hi : 0 ≤ i ∧ i < 5) : ∃ v, (v = a ∨ v = b ∨ v = c ∨ v = d ∨ v = e) ∧ [AVal.int .i64 a, .int .i64 b, .int .i64 c, .int .i64 d, .int .i64 e][i.toNat]? = some (.int .i64 v) := by
  obtain rfl | rfl | rfl | rfl | rfl : i = 0 ∨ i = 1 ∨ i = 2 ∨ i = 3 ∨ i = 4 := by omega
  · exact ⟨a, .inl rfl, rfl⟩
  · exact ⟨b, .inr (.inl rfl), rfl⟩
  · exact ⟨c, .inr (.inr (.inl rfl)), rfl⟩
  · exact ⟨d, .inr (.inr (.inr (.inl rfl))), rfl⟩
  · exact ⟨e, .inr (.inr (.inr (.inr rfl))), rfl⟩
theorem legS_in {zs : List Zn} (hz : ZsOK zs) {th : Int} (hth : 1 ≤ th ∧ th ≤ 1000) {f : Int} {ls : List Lg} (ho : OvOK f ls) (i : Nat) : 0 ≤ (legS zs th f ls i).1 ∧ (legS zs th f ls i).1 ≤ (legS zs th f ls i).2 ∧ (legS zs th f ls i).2 ≤ capS := by
  have htk := allT_ok (n := 0) ho.f ho.all
  have h1 := stAt_in hz hth htk (allT 0 f (ls.take (i + 1))).length
  have h2 := st_le hz hth htk (allT 0 f (ls.take (i + 1))).length
  unfold legS; omega
set_option maxHeartbeats 4000000 in
set_option maxRecDepth 10000 in
theorem leftOf_run (w : Int) {brk : Int} {zs : List Zn} (h : StOK brk zs) {th : Int} (hth : 1 ≤ th ∧ th ≤ 1000) {f : Int} {ls : List Lg} (ho : OvOK f ls) (hne : ls ≠ []) :
    AnsE Try.prog n_kit_LeftOf [.ptr 0 0 0 1, .agg [.int .i64 brk, .sl 1 0 zs.length], .int .i64 th, .agg [.int .i64 f, .sl 2 0 ls.length]] [some (Dr w), some (.cells true 5 (zs.map Zn.v)), some (.cells true 2 (ls.map Lg.v))]
      (fun a : Int × Int => 0 ≤ a.1 ∧ a.1 ≤ capS) (fun a => .int .i64 a.1) (fun a => [some (Dr a.2), some (.cells true 5 (zs.map Zn.v)), some (.cells true 2 (ls.map Lg.v))]) := by
  have zb : ∀ S : Nat → Prop, (Row.cells true 5 (zs.map Zn.v)).bel S := fun S => by rw [row_bel_cells]; simp only [go_sem]
  have lb : ∀ S : Nat → Prop, (Row.cells true 2 (ls.map Lg.v)).bel S := fun S => by rw [row_bel_cells]; simp only [go_sem]
  refine AnsE.keep (run_fn e_kit_LeftOf fun G => ?_) (fun a ha => ⟨by simp, by simp [go_sem], dr_bel _ _, zb _, lb _, trivial⟩)
  have k1 := rStrain_run h hth ho hne
  have hn : 0 < ls.length := List.length_pos_iff.2 hne
  have hlen := ho.len
  have hli := legS_in h.zs hth ho (ls.length - 1)
  have sl := legSs_len zs th f ls ls.length
  have s1 : ((legSs zs th f ls ls.length).map rv)[ls.length - 1]? = some (AVal.agg [.int .i64 (legS zs th f ls (ls.length - 1)).1, .int .i64 (legS zs th f ls (ls.length - 1)).2]) := by rw [List.getElem?_map, legSs_get (by omega)]; rfl
  obtain ⟨p, hp⟩ : ∃ p, legS zs th f ls (ls.length - 1) = p := ⟨_, rfl⟩
  rw [hp] at hli s1
  have c0 : ((ls.length : Int) == 0) = false := beq_eq_false_iff_ne.2 (by omega)
  have c1 : IntKind.i64.wrap ((ls.length : Int) - 1) = ((ls.length - 1 : Nat) : Int) := by rw [w64 (by omega)]; omega
  have c2 : ((ls.length - 1 : Nat) : Int) < ls.length := by omega
  have c3 : ls.length - 1 < ls.length := by omega
  simp only [go_sem]
  refine cFN k1 6 ⟨.inl (st_frz (g := true) rfl rfl), .inl rfl, .inl (ov_frz (g := true) rfl rfl), trivial⟩ ?_ (hx := by rw [row_bel_cells]; simp only [rvs_bel]) (hxn := row_nv_cells _ _ (nvs_map _ _ fun z => by simp only [go_sem, rv, r2]))
  simp only [go_sem, ren, rens, c0, c1, c2, c3, s1, sl, List.length_map]
  unfold capS at hli
  have kd := in_ok3 w p.1 p.2 (by omega)
  have bd := btw_in (w := w) (lo := p.1) (hi := p.2) hli.2.1
  simp only [r2] at kd
  refine dD kd ?_
  obtain ⟨b, hb⟩ : ∃ b, btw w p.1 p.2 = b := ⟨_, rfl⟩
  rw [hb] at bd ⊢
  have w2 : IntKind.i64.wrap (p.1 - 1) = p.1 - 1 := w64 (by omega)
  obtain ⟨c, hc⟩ : ∃ c, (if 0 < p.1 - 1 then p.1 - 1 else 0) = c := ⟨_, rfl⟩
  have hcb : 0 ≤ c ∧ c ≤ p.1 := by rw [← hc]; split <;> omega
  simp only [go_sem, w2, hc]
  have u5 := upto_in (w := dstep w) (n := 5) (by decide)
  refine dD (upto_ok (dstep w) 5 (by decide)) ?_
  obtain ⟨v, hv, sv⟩ := pick5 _ p.1 p.2 b c 1099511627776 u5
  have n5 : ¬ upto (dstep w) 5 < 0 := by omega
  simp only [go_sem, n5, sv]
  refine ⟨u5.2, ?_⟩
  refine ⟨(v, dstep (dstep w)), by unfold capS; dsimp only; omega, ?_⟩
  exact kept_id rfl (by simp only [go_sem]) fun i x hx => by
    rcases i with _ | _ | _ | i
    · cases hx; exact ⟨dr_bel _ _, rfl⟩
    · cases hx; exact ⟨zb _, rfl⟩
    · cases hx; exact ⟨lb _, rfl⟩
    · simp at hx
set_option maxHeartbeats 4000000 in
set_option maxRecDepth 10000 in
theorem leftOf_nil (w : Int) {brk : Int} {zs : List Zn} (h : StOK brk zs) {th : Int} (hth : 1 ≤ th ∧ th ≤ 1000) {f : Int} (hf : 0 ≤ f ∧ f ≤ 2000) :
    AnsE Try.prog n_kit_LeftOf [.ptr 0 0 0 1, .agg [.int .i64 brk, .sl 1 0 zs.length], .int .i64 th, .agg [.int .i64 f, .nilsl]] [some (Dr w), some (.cells true 5 (zs.map Zn.v))]
      (fun a : Int × Int => 0 ≤ a.1 ∧ a.1 ≤ capS) (fun a => .int .i64 a.1) (fun a => [some (Dr a.2), some (.cells true 5 (zs.map Zn.v))]) := by
  have zb : ∀ S : Nat → Prop, (Row.cells true 5 (zs.map Zn.v)).bel S := fun S => by rw [row_bel_cells]; simp only [go_sem]
  refine AnsE.keep (run_fn e_kit_LeftOf fun G => ?_) (fun a ha => ⟨by simp, by simp [go_sem], dr_bel _ _, zb _, trivial⟩)
  have k1 := Ans.lso (rStrain_nil h hth hf) (args' := [stV brk zs, .int .i64 th, .agg [.int .i64 f, .nilsl]]) ⟨.inl rfl, .inl rfl, .inr ⟨_, rfl, rfl⟩, trivial⟩
  have u9 := upto_in (w := w) (n := 9) (by decide)
  simp only [go_sem]
  refine cF k1 6 ⟨.inl (st_frz (g := true) rfl rfl), .inl rfl, .inl rfl, trivial⟩ ?_
  simp only [go_sem]
  refine cD (upto_ok w 9 (by decide)) ?_
  simp only [go_sem]
  refine ⟨(upto w 9, dstep w), by unfold capS; dsimp only; omega, ?_⟩
  exact kept_id rfl (by simp only [go_sem]) fun i x hx => by
    rcases i with _ | _ | i
    · cases hx; exact ⟨dr_bel _ _, rfl⟩
    · cases hx; exact ⟨zb _, rfl⟩
    · simp at hx
end Go.Proofs

namespace Go.Proofs
open Go Go.Sx
attribute [local irreducible] Run

theorem slr_none {P : List AVal} (h : P = []) (gr : Bool) (sz j : Nat) : slv j P = .nilsl ∧ slrG gr sz P = [] := by subst h; exact ⟨rfl, rfl⟩
theorem slr_some {P : List AVal} (h : P ≠ []) (gr : Bool) (sz j : Nat) : slv j P = .sl j 0 P.length ∧ slrG gr sz P = [some (.cells gr sz P)] := by
  unfold slv slrG; rw [if_neg h, if_neg h]; exact ⟨rfl, rfl⟩
theorem lgL_nil {ls : List Lg} (h : ls = []) : lgL ls = [] := by subst h; rfl
theorem lgL_ne {ls : List Lg} (h : ls ≠ []) : lgL ls ≠ [] := fun e => h (by unfold lgL at e; exact List.map_eq_nil_iff.1 e)
section
variable {P : Program} {G : Ctx} {g : FuncId} {largs args : List AVal} {H : Heap} {α : Type} {Φ : α → Prop} {r : α → AVal} {k : Nat} {R : Runner} {l : List AOper} {fs : List Sx.Frame} {ρ : List AVal} {ms : List Nat} {Q : Sx.Goal} {dst : Option Nat}
theorem callE3 {x0 x1 x2 : Row} {x' : α → Row} {j0 j1 j2 : Nat} (h : AnsE P g largs [some x0, some x1, some x2] Φ r fun a => [some (x' a), some x1, some x2]) (hargs : args = largs.map (ren (nth [j0, j1, j2]))) (hb : Bels (· < 3) largs)
    (h0 : H[j0]? = some (some x0)) (h1 : H[j1]? = some (some x1)) (h2 : H[j2]? = some (some x2)) (hx0 : x0.bel (fun _ => False)) (hx1 : x1.bel (fun _ => False)) (hx2 : x2.bel (fun _ => False)) (hn : [j0, j1, j2].Nodup)
    (hwf : ∀ a, Φ a → Bel (fun _ => False) (r a) ∧ (x' a).bel (fun _ => False)) (hk : k ≤ H.length) (hms : ∀ q ∈ ms, q ∉ [j0, j1, j2] ∧ H[q]? = some (some .dfr))
    (hK : ∀ a, Φ a → R (.ops l) fs ⟨setD ρ dst (r a), H.set j0 (some (x' a)), ms⟩ Q) : CallR P G k R g args dst l fs ρ H ms Q := by
  have l0 := (List.getElem?_eq_some_iff.1 h0).1
  have l1 := (List.getElem?_eq_some_iff.1 h1).1
  have l2 := (List.getElem?_eq_some_iff.1 h2).1
  have n1 : j0 ≠ j1 ∧ j0 ≠ j2 := by simp at hn; omega
  have e : ∀ a, Φ a → outΔ (outσ [j0, j1, j2] H.length) 0 [some (x' a), some x1, some x2] = [(j0, x' a), (j1, x1), (j2, x2)] := fun a ha => by
    simp only [outΔ, Row.ren_same (hwf a ha).2, Row.ren_same hx1, Row.ren_same hx2]
    rfl
  refine callE h [j0, j1, j2] hn ⟨by rw [Row.ren_same hx0]; exact h0, by rw [Row.ren_same hx1]; exact h1, by rw [Row.ren_same hx2]; exact h2, trivial⟩ hargs hb
    ⟨bel_mono_row hx0 fun _ h => h.elim, bel_mono_row hx1 fun _ h => h.elim, bel_mono_row hx2 fun _ h => h.elim, trivial⟩
    (fun a ha => ⟨by simp, (hwf a ha).1.mono fun _ h => h.elim, bel_mono_row (hwf a ha).2 fun _ h => h.elim, bel_mono_row hx1 fun _ h => h.elim, bel_mono_row hx2 fun _ h => h.elim, trivial⟩) (by simp; omega) hk (fun a ha q hq => ?_) fun a ha => ?_
  · rw [e a ha]; exact ⟨by simpa using (hms q hq).1, (hms q hq).2⟩
  · rw [e a ha, ren_same (hwf a ha).1]
    have q1 : (H.set j0 (some (x' a)))[j1]? = some (some x1) := by rw [List.getElem?_set_ne n1.1]; exact h1
    have q2 : (H.set j0 (some (x' a)))[j2]? = some (some x2) := by rw [List.getElem?_set_ne n1.2]; exact h2
    simp only [Heap.puts, put_lt l0, put_id q1, put_id q2]
    exact hK a ha
theorem callE2 {x0 x1 : Row} {x' : α → Row} {j0 j1 : Nat} (h : AnsE P g largs [some x0, some x1] Φ r fun a => [some (x' a), some x1]) (hargs : args = largs.map (ren (nth [j0, j1]))) (hb : Bels (· < 2) largs)
    (h0 : H[j0]? = some (some x0)) (h1 : H[j1]? = some (some x1)) (hx0 : x0.bel (fun _ => False)) (hx1 : x1.bel (fun _ => False)) (hn : [j0, j1].Nodup)
    (hwf : ∀ a, Φ a → Bel (fun _ => False) (r a) ∧ (x' a).bel (fun _ => False)) (hk : k ≤ H.length) (hms : ∀ q ∈ ms, q ∉ [j0, j1] ∧ H[q]? = some (some .dfr))
    (hK : ∀ a, Φ a → R (.ops l) fs ⟨setD ρ dst (r a), H.set j0 (some (x' a)), ms⟩ Q) : CallR P G k R g args dst l fs ρ H ms Q := by
  have l0 := (List.getElem?_eq_some_iff.1 h0).1
  have l1 := (List.getElem?_eq_some_iff.1 h1).1
  have n1 : j0 ≠ j1 := by simpa using hn
  have e : ∀ a, Φ a → outΔ (outσ [j0, j1] H.length) 0 [some (x' a), some x1] = [(j0, x' a), (j1, x1)] := fun a ha => by
    simp only [outΔ, Row.ren_same (hwf a ha).2, Row.ren_same hx1]
    rfl
  refine callE h [j0, j1] hn ⟨by rw [Row.ren_same hx0]; exact h0, by rw [Row.ren_same hx1]; exact h1, trivial⟩ hargs hb
    ⟨bel_mono_row hx0 fun _ h => h.elim, bel_mono_row hx1 fun _ h => h.elim, trivial⟩
    (fun a ha => ⟨by simp, (hwf a ha).1.mono fun _ h => h.elim, bel_mono_row (hwf a ha).2 fun _ h => h.elim, bel_mono_row hx1 fun _ h => h.elim, trivial⟩) (by simp; omega) hk (fun a ha q hq => ?_) fun a ha => ?_
  · rw [e a ha]; exact ⟨by simpa using (hms q hq).1, (hms q hq).2⟩
  · rw [e a ha, ren_same (hwf a ha).1]
    have q1 : (H.set j0 (some (x' a)))[j1]? = some (some x1) := by rw [List.getElem?_set_ne n1]; exact h1
    simp only [Heap.puts, put_lt l0, put_id q1]
    exact hK a ha
end
set_option maxHeartbeats 8000000 in
set_option maxRecDepth 20000 in
theorem thicker_law (ns : List Int) (hl : ns.length ≤ 9223372036854775807) (a1 a2 a3 : Int) : Ans Try.prog n_law05_GlassThicker [.view (ns.map (.int .i64)), .int .i64 a1, .int .i64 a2, .int .i64 a3] [] (.bool true) [] := by
  have m1 := mod_in a1 1000 (by omega)
  have e1 := mod_pos a1 1000 (by omega)
  have m2 := mod_in a2 1000 (by omega)
  have e2 := mod_pos a2 1000 (by omega)
  have m3 := mod_in a3 1048576 (by omega)
  have e3 := mod_pos a3 1048576 (by omega)
  obtain ⟨a, ha⟩ : ∃ a, a1 % 1000 = a := ⟨_, rfl⟩
  obtain ⟨b, hb⟩ : ∃ a, a2 % 1000 = a := ⟨_, rfl⟩
  obtain ⟨c, hc⟩ : ∃ a, a3 % 1048576 = a := ⟨_, rfl⟩
  rw [ha] at m1 e1
  rw [hb] at m2 e2
  rw [hc] at m3 e3
  have x1 : IntKind.i64.wrap (1 + a) = 1 + a := w64 (by omega)
  have x2 : IntKind.i64.wrap (1 + b) = 1 + b := w64 (by omega)
  refine spec_run e_law05_GlassThicker fun G => ?_
  simp only [go_sem]
  refine callN1 (newdice_ok ns hl) (by simp only [go_sem]) (dr_bel _ _) (by simp) (by simp) ?_
  generalize seedW ns = w
  simp only [go_sem]
  refine callDN (stuffOf_run w) rfl (by simp only [go_sem]) (dr_bel _ _) (fun a ha => ⟨by simp [go_sem], dr_bel _ _, by rw [row_bel_cells]; simp only [go_sem]⟩) (by simp) (by simp) ?_
  rintro ⟨brk, zs, w1⟩ h1
  dsimp only at h1 ⊢
  simp only [go_sem, ren, rens]
  refine callDSf (u := fun a : Int × List Lg × Int => .int .i64 a.1) (es := fun a => lgL a.2.1) (x' := fun a => Dr a.2.2) (ovenOf_run w1 4 30 (by decide) (by decide)) rfl (by simp only [go_sem]) (dr_bel _ _) (fun a ha => ⟨dr_bel _ _, by unfold lgL; simp only [go_sem], by simp only [go_sem]⟩) (by simp) (by simp) ?_
  rintro ⟨f, ls, w2⟩ ⟨hf, hl4, hok⟩
  dsimp only at hf hl4 hok ⊢
  have ho : OvOK f ls := ⟨by omega, by omega, hok⟩
  obtain ⟨lm, hlm⟩ : ∃ l, min (1 + a) (1 + b) = l := ⟨_, rfl⟩
  obtain ⟨lx, hlx⟩ : ∃ l, max (1 + a) (1 + b) = l := ⟨_, rfl⟩
  have y1 : (if 1 + b < 1 + a then 1 + b else 1 + a) = lm := by rw [← hlm]; split <;> omega
  have y2 : (if 1 + b > 1 + a then 1 + b else 1 + a) = lx := by rw [← hlx]; split <;> omega
  have k1 := Strain_run h1 (th := lm) (by omega) ho
  have k2 := Strain_run h1 (th := lx) (by omega) ho
  rw [aftS_eq hok] at k1 k2
  by_cases hne : ls = []
  · subst hne
    simp only [(slr_none (lgL_nil rfl) true 2 _).1, (slr_none (lgL_nil rfl) true 2 0).2]
    simp only [go_sem]
    refine cP e1 ?_
    simp only [go_sem, x1]
    refine cP e2 ?_
    simp only [go_sem, x1, x2, y1, y2]
    have k1 := Ans.lso k1 (args' := [stV brk zs, .int .i64 lm, .agg [.int .i64 f, .nilsl]]) ⟨.inl rfl, .inl rfl, .inr ⟨_, rfl, rfl⟩, trivial⟩
    have k2 := Ans.lso k2 (args' := [stV brk zs, .int .i64 lx, .agg [.int .i64 f, .nilsl]]) ⟨.inl rfl, .inl rfl, .inr ⟨_, rfl, rfl⟩, trivial⟩
    have zb : ∀ S : Nat → Prop, (Row.cells true 5 (zs.map Zn.v)).bel S := fun S => by rw [row_bel_cells]; simp only [go_sem]
    simp only [List.length_nil, legSs, List.range_zero, List.map_nil] at k1 k2
    refine cFN k1 6 ⟨.inl (st_frz (g := true) rfl rfl), .inl rfl, .inl rfl, trivial⟩ ?_ (hx := by rw [row_bel_cells]; simp only [go_sem]) (hxn := row_nv_cells _ _ trivial)
    simp only [go_sem, ren, rens, x1, x2, y1, y2]
    refine cFN k2 6 ⟨.inl (st_frz (g := true) rfl rfl), .inl rfl, .inl rfl, trivial⟩ ?_ (hx := by rw [row_bel_cells]; simp only [go_sem]) (hxn := row_nv_cells _ _ trivial)
    simp only [go_sem, ren, rens]
    refine loop_body 400 k_law05_GlassThicker_r14.eq_1 ?_
    simp only [go_sem]
    refine callE2 (leftOf_nil w2 h1 (th := 1 + a) (by omega) (f := f) (by omega)) (j0 := 0) (j1 := 1) rfl (by simp [go_sem]) rfl rfl (dr_bel _ _) (zb _) (by decide) (fun q hq => ⟨by simp only [go_sem], dr_bel _ _⟩) (by simp) (by simp) ?_
    rintro ⟨left, w3⟩ hleft
    dsimp only at hleft ⊢
    have kj := Ans.lso (Judge_run h1 (th := 1 + a) (by omega) ho hleft) (args' := [stV brk zs, .int .i64 (1 + a), .agg [.int .i64 f, .nilsl], .int .i64 left]) ⟨.inl rfl, .inl rfl, .inr ⟨_, rfl, rfl⟩, .inl rfl, trivial⟩
    obtain ⟨l2, hl2⟩ : ∃ l, min (left + c) capS = l := ⟨_, rfl⟩
    have hl2b : left ≤ l2 ∧ l2 ≤ capS := by omega
    have kj2 := Ans.lso (Judge_run h1 (th := 1 + a) (by omega) ho (left := l2) (by omega)) (args' := [stV brk zs, .int .i64 (1 + a), .agg [.int .i64 f, .nilsl], .int .i64 l2]) ⟨.inl rfl, .inl rfl, .inr ⟨_, rfl, rfl⟩, .inl rfl, trivial⟩
    have hsure := sure_more (brk := brk) h1.zs (th := 1 + a) (by omega) hl2b.1 ho
    have wc : IntKind.i64.wrap (left + c) = left + c := w64 (by unfold capS at hleft; omega)
    have y3 : (if left + c < 1099511627776 then left + c else 1099511627776) = l2 := by rw [← hl2]; unfold capS; split <;> omega
    obtain ⟨V, hV⟩ : ∃ V, judR brk zs (1 + a) f left [] = V := ⟨_, rfl⟩
    obtain ⟨W, hW⟩ : ∃ V, judR brk zs (1 + a) f l2 [] = V := ⟨_, rfl⟩
    rw [hV] at kj hsure
    rw [hW] at kj2 hsure
    simp only [go_sem]
    refine cF kj 6 ⟨.inl (st_frz (g := true) rfl rfl), .inl rfl, .inl rfl, .inl rfl, trivial⟩ ?_
    simp only [go_sem]
    refine dP e3 ?_
    simp only [go_sem, wc, y3]
    refine cF kj2 6 ⟨.inl (st_frz (g := true) rfl rfl), .inl rfl, .inl rfl, .inl rfl, trivial⟩ ?_
    by_cases cv : V.1 = 1
    · have hs := hsure cv
      have q1 : (V.1 != 1) = false := by rw [cv]; rfl
      have q2 : (W.1 == 1) = true := by rw [hs]; rfl
      simp only [go_sem, q1, q2]
      refine cP awake_ok ?_
      simp only [go_sem]
    · have q1 : (V.1 != 1) = true := by simpa using cv
      simp only [go_sem, q1]
      refine cP awake_ok ?_
      simp only [go_sem]
  · simp only [(slr_some (lgL_ne hne) true 2 _).1, (slr_some (lgL_ne hne) true 2 0).2]
    have hll : (lgL ls).length = ls.length := by simp [lgL]
    simp only [go_sem, hll, lgL]
    refine cP e1 ?_
    simp only [go_sem, x1]
    refine cP e2 ?_
    simp only [go_sem, x1, x2, y1, y2]
    refine cFN k1 6 ⟨.inl (st_frz (g := true) rfl rfl), .inl rfl, .inl (ov_frz (g := true) rfl rfl), trivial⟩ ?_ (hx := by rw [row_bel_cells]; simp only [rvs_bel]) (hxn := row_nv_cells _ _ (nvs_map _ _ fun z => by simp only [go_sem, rv, r2]))
    simp only [go_sem, ren, rens, x1, x2, y1, y2]
    refine cFN k2 6 ⟨.inl (st_frz (g := true) rfl rfl), .inl rfl, .inl (ov_frz (g := true) rfl rfl), trivial⟩ ?_ (hx := by rw [row_bel_cells]; simp only [rvs_bel]) (hxn := row_nv_cells _ _ (nvs_map _ _ fun z => by simp only [go_sem, rv, r2]))
    simp only [go_sem, ren, rens]
    have hst := fun i => st_thick h1.zs (th := lm) (th' := lx) (ts := allT 0 f ls) (by omega) (allT_ok ho.f hok) (allT 0 f (ls.take (i + 1))).length
    have hxl := legSs_len zs lm f ls ls.length
    have hyl := legSs_len zs lx f ls ls.length
    have hxg : ∀ i, i < ls.length → ((legSs zs lm f ls ls.length).map rv)[i]? = some (.agg [.int .i64 (legS zs lm f ls i).1, .int .i64 (legS zs lm f ls i).2]) := fun i hi => by rw [List.getElem?_map, legSs_get hi]; rfl
    have hyg : ∀ i, i < ls.length → ((legSs zs lx f ls ls.length).map rv)[i]? = some (.agg [.int .i64 (legS zs lx f ls i).1, .int .i64 (legS zs lx f ls i).2]) := fun i hi => by rw [List.getElem?_map, legSs_get hi]; rfl
    obtain ⟨XL, hXL⟩ : ∃ L, legSs zs lm f ls ls.length = L := ⟨_, rfl⟩
    obtain ⟨YL, hYL⟩ : ∃ L, legSs zs lx f ls ls.length = L := ⟨_, rfl⟩
    rw [hXL] at hxl hxg ⊢
    rw [hYL] at hyl hyg ⊢
    have zb : ∀ S : Nat → Prop, (Row.cells true 5 (zs.map Zn.v)).bel S := fun S => by rw [row_bel_cells]; simp only [go_sem]
    have lb : ∀ S : Nat → Prop, (Row.cells true 2 (ls.map Lg.v)).bel S := fun S => by rw [row_bel_cells]; simp only [go_sem]
    refine loop_indH k_law05_GlassThicker_r14.eq_1 (fun i : Nat => i ≤ ls.length) (fun i => ls.length - i)
      (fun i => tsets 147 [(1, .int .i64 (1 + a)), (3, .int .i64 a3), (8, .bool false), (9, .ptr 0 0 0 1), (10, .ptr 2 0 0 1), (11, .ptr 4 0 0 1), (12, .sl 5 0 ls.length), (14, .sl 6 0 ls.length), (16, .int .i64 i)]) 0 (Nat.zero_le _) (by simp [go_sem]) ?_
    intro i hi ih
    by_cases i1 : i < ls.length
    · have i2 : (i : Int) < ls.length := by omega
      have ht := hst i
      have c1 : ¬ (legS zs lm f ls i).1 > (legS zs lx f ls i).1 := by unfold legS; omega
      have c2 : ¬ (legS zs lm f ls i).2 > (legS zs lx f ls i).2 := by unfold legS; omega
      have w9 : IntKind.i64.wrap ((i : Int) + 1) = ((i + 1 : Nat) : Int) := by rw [w64 (by omega)]; rfl
      have ihn := ih (i + 1) (by omega) i1
      simp only [go_sem, i2, i1, hxg i i1, hyg i i1, hxl, hyl, List.length_map, c1, c2, w9]
      exact ihn _ (by simp [go_sem])
    · have i2 : ¬ (i : Int) < ls.length := by omega
      clear ih
      simp only [go_sem, i2]
      refine callE3 (leftOf_run w2 h1 (th := 1 + a) (by omega) ho hne) (j0 := 0) (j1 := 1) (j2 := 3) rfl (by simp [go_sem]) rfl rfl rfl (dr_bel _ _) (zb _) (lb _) (by decide) (fun q hq => ⟨by simp only [go_sem], dr_bel _ _⟩) (by simp) (by simp) ?_
      rintro ⟨left, w3⟩ hleft
      dsimp only at hleft ⊢
      have kj := Judge_run h1 (th := 1 + a) (by omega) ho hleft
      obtain ⟨l2, hl2⟩ : ∃ l, min (left + c) capS = l := ⟨_, rfl⟩
      have hl2b : left ≤ l2 ∧ l2 ≤ capS := by omega
      have kj2 := Judge_run h1 (th := 1 + a) (by omega) ho (left := l2) (by omega)
      have hsure := sure_more (brk := brk) h1.zs (th := 1 + a) (by omega) hl2b.1 ho
      have wc : IntKind.i64.wrap (left + c) = left + c := w64 (by unfold capS at hleft; omega)
      have y3 : (if left + c < 1099511627776 then left + c else 1099511627776) = l2 := by rw [← hl2]; unfold capS; split <;> omega
      obtain ⟨V, hV⟩ : ∃ V, judR brk zs (1 + a) f left ls = V := ⟨_, rfl⟩
      obtain ⟨W, hW⟩ : ∃ V, judR brk zs (1 + a) f l2 ls = V := ⟨_, rfl⟩
      rw [hV] at kj hsure
      rw [hW] at kj2 hsure
      simp only [go_sem]
      refine cF kj 6 ⟨.inl (st_frz (g := true) rfl rfl), .inl rfl, .inl (ov_frz (g := true) rfl rfl), .inl rfl, trivial⟩ ?_
      simp only [go_sem]
      refine dP e3 ?_
      simp only [go_sem, wc, y3]
      refine cF kj2 6 ⟨.inl (st_frz (g := true) rfl rfl), .inl rfl, .inl (ov_frz (g := true) rfl rfl), .inl rfl, trivial⟩ ?_
      by_cases cv : V.1 = 1
      · have hs := hsure cv
        have q1 : (V.1 != 1) = false := by rw [cv]; rfl
        have q2 : (W.1 == 1) = true := by rw [hs]; rfl
        simp only [go_sem, q1, q2]
        refine cP awake_ok ?_
        simp only [go_sem]
      · have q1 : (V.1 != 1) = true := by simpa using cv
        simp only [go_sem, q1]
        refine cP awake_ok ?_
        simp only [go_sem]
end Go.Proofs

