/- A part of the proof. -/
import Derived.Test.YtmpocglkfgfpbaaPF
set_option linter.unusedSimpArgs false
set_option linter.unusedVariables false
namespace Go.Proofs
open Go Go.Sx
attribute [local irreducible] Run

theorem ediv_step (a d c : Int) : (a + c + d * 1000000) / 1000000 = (a + c) / 1000000 + d := Int.add_mul_ediv_right _ _ (by decide)
theorem left_mono {x y q q' c : Int} (h0 : 0 ≤ x) (h : x ≤ y) (hq : 0 ≤ q' ∧ q' ≤ q ∧ q ≤ 1000000) : x - (x * q + c) / 1000000 ≤ y - (y * q' + c) / 1000000 := by
  have h1 : y * q' ≤ y * q := Int.mul_le_mul_of_nonneg_left hq.2.1 (by omega)
  have h2 : (y - x) * q ≤ (y - x) * 1000000 := Int.mul_le_mul_of_nonneg_left hq.2.2 (by omega)
  have h3 : y * q = x * q + (y - x) * q := by rw [Int.sub_mul]; omega
  have h4 : (y * q' + c) / 1000000 ≤ (x * q + c + (y - x) * 1000000) / 1000000 := Int.ediv_le_ediv (by decide) (by omega)
  rw [ediv_step] at h4
  omega
theorem mostL_mono2 {x y : Int} {z z' : Zn} (hz : ZnOK z) (hr : 0 ≤ z'.rlo ∧ z'.rlo ≤ z.rlo) (h0 : 0 ≤ x) (h : x ≤ y) : mostL x z ≤ mostL y z' := by
  have := hz.r
  have := left_mono (c := 0) h0 h ⟨hr.1, hr.2, by omega⟩
  unfold mostL
  rw [Int.add_zero, Int.add_zero] at this
  exact this
theorem least_most2 {x : Int} {z : Zn} (hz : ZnOK z) (h0 : 0 ≤ x) : leastL x z ≤ mostL x z := by
  have hr := hz.r
  have h1 : x * z.rlo ≤ x * z.rhi := Int.mul_le_mul_of_nonneg_left hr.2.1 h0
  unfold leastL mostL; omega
theorem add_low_high {t : Tk} (ht : TkOK t) {z : Zn} (hz : ZnOK z) {th : Int} (hth : 1 ≤ th ∧ th ≤ 1000) : addL t z th ≤ addH t z th := by
  have hp := pull_in ht hth
  have hg := hz.g
  have := Int.mul_le_mul_of_nonneg_left hg.2.1 hp.1
  unfold addL addH; omega
theorem stAt_none {zs : List Zn} {th : Int} {ts : List Tk} {i : Nat} (h : ts[i]? = none) : stAt zs th ts (i + 1) = stAt zs th ts i := by
  unfold stAt
  rw [List.take_add_one, h]; simp
theorem stAt_zero (zs : List Zn) (th : Int) (ts : List Tk) : stAt zs th ts 0 = (0, 0) := by simp [stAt]
theorem st_le {zs : List Zn} (hz : ZsOK zs) {th : Int} (hth : 1 ≤ th ∧ th ≤ 1000) {ts : List Tk} (h : ∀ t ∈ ts, TkOK t) : ∀ i, (stAt zs th ts i).1 ≤ (stAt zs th ts i).2
  | 0 => by rw [stAt_zero]; exact Int.le_refl _
  | i + 1 => by
    have ih := st_le hz hth h i
    cases ht : ts[i]? with
    | none => rw [stAt_none ht]; exact ih
    | some t =>
      have hto := h t (List.mem_of_getElem? ht)
      have hzo := zAt_ok hz t.t
      have hb := stAt_in hz hth h i
      rw [stAt_succ ht]
      have a1 := add_low_high hto hzo hth
      have a2 := least_most2 hzo hb.1
      have a3 := mostL_mono2 (z' := zAt zs t.t) hzo ⟨by have := hzo.r; omega, Int.le_refl _⟩ hb.1 ih
      unfold stepS; dsimp only; omega
theorem allT_split : ∀ (ls : List Lg) (n b : Int) (i : Nat), i ≤ ls.length → allT n b ls = allT n b (ls.take i) ++ allT (n + i) (begAt b ls i) (ls.drop i)
  | ls, n, b, 0, _ => by simp [allT, begAt]
  | [], n, b, i + 1, h => by simp at h
  | x :: r, n, b, i + 1, h => by
    have := allT_split r (n + 1) x.ht i (by simpa using h)
    rw [List.take_succ_cons, List.drop_succ_cons, allT, allT, this, List.append_assoc]
    congr 3
    · push_cast; omega
    · cases i with
      | zero => rfl
      | succ i => simp [begAt]
theorem leg_after {f : Int} {ls : List Lg} {j k : Nat} {t : Tk} (hj : j < ls.length) (hk : (allT 0 f (ls.take (j + 1))).length ≤ k) (ht : (allT 0 f ls)[k]? = some t) : (j : Int) < t.n := by
  rw [allT_split ls 0 f (j + 1) (by omega), List.getElem?_append_right hk] at ht
  have := (allT_n t (List.mem_of_getElem? ht)).1
  push_cast at this; omega
theorem aftS_at {zs : List Zn} {th f : Int} {ls : List Lg} (hok : ∀ l ∈ ls, LgOK l) {j : Nat} (hj : j < ls.length) : ∀ k, (allT 0 f (ls.take (j + 1))).length + k ≤ (allT 0 f ls).length → (aftS zs th (allT 0 f ls) ls.length ((allT 0 f (ls.take (j + 1))).length + k))[j]? = some (legS zs th f ls j)
  | 0, h => by
    obtain ⟨z, hz⟩ : ∃ z, ls[j]? = some z := ⟨_, List.getElem?_eq_getElem hj⟩
    have hzt := (hok z (List.mem_of_getElem? hz)).tk
    have hl := allT_len (n := 0) (b := f) hz
    have hg := allT_get (n := 0) (b := f) (t := z.tk.toNat - 1) hz (by omega)
    have e : (allT 0 f (ls.take (j + 1))).length + 0 = (allT 0 f (ls.take j)).length + (z.tk.toNat - 1) + 1 := by omega
    have e2 : legS zs th f ls j = stAt zs th (allT 0 f ls) ((allT 0 f (ls.take j)).length + (z.tk.toNat - 1) + 1) := by unfold legS; congr 1
    rw [e, aftS_succ hg, e2]
    dsimp only
    rw [show ((0 : Int) + (j : Int)).toNat = j by omega]
    exact List.getElem?_set_self (by rw [aftS_len]; exact hj)
  | k + 1, h => by
    have ih := aftS_at (zs := zs) (th := th) (f := f) hok hj k (by omega)
    obtain ⟨t, ht⟩ : ∃ t, (allT 0 f ls)[(allT 0 f (ls.take (j + 1))).length + k]? = some t := ⟨_, List.getElem?_eq_getElem (by omega)⟩
    have hn := leg_after hj (by omega) ht
    rw [← Nat.add_assoc, aftS_succ ht, List.getElem?_set_ne (by omega)]
    exact ih
theorem aftS_eq {zs : List Zn} {th f : Int} {ls : List Lg} (hok : ∀ l ∈ ls, LgOK l) : aftS zs th (allT 0 f ls) ls.length (allT 0 f ls).length = legSs zs th f ls ls.length := by
  refine List.ext_getElem? fun j => ?_
  by_cases hj : j < ls.length
  · have hle := allT_take_le 0 f ls (j + 1)
    have := aftS_at (zs := zs) (th := th) (f := f) hok hj ((allT 0 f ls).length - (allT 0 f (ls.take (j + 1))).length) (by omega)
    rw [show (allT 0 f (ls.take (j + 1))).length + ((allT 0 f ls).length - (allT 0 f (ls.take (j + 1))).length) = (allT 0 f ls).length by omega] at this
    rw [this, legSs_get hj]
  · rw [List.getElem?_eq_none (by rw [aftS_len]; omega), List.getElem?_eq_none (by rw [legSs_len]; omega)]

end Go.Proofs

namespace Go.Proofs
open Go Go.Sx
attribute [local irreducible] Run

theorem vr_nilo {G : Ctx} {μ : Mu} {a : AVal} {x : Value} (h : VR G μ (.agg [a, .nilsl]) x) : VR G μ (.agg [a, .view []]) x := by
  cases h with
  | agg _ vs hl hv =>
    refine .agg _ vs (by simpa using hl) fun i hi => ?_
    match i, hi with
    | 0, _ => exact hv 0 (by simp)
    | 1, _ =>
      have h3 := hv 1 (by simp)
      simp only [List.getD_cons_zero, List.getD_cons_succ] at h3 ⊢
      generalize vs.getD 1 undef = y at *
      cases h3
      exact .viewnil none 0
def lso : List AVal → List AVal → Prop
  | [], [] => True
  | v :: vs, u :: us => (v = u ∨ (∃ a, v = .agg [a, .nilsl] ∧ u = .agg [a, .view []])) ∧ lso vs us
  | _, _ => False
theorem lso_len : ∀ {l l' : List AVal}, lso l l' → l.length = l'.length
  | [], [], _ => rfl
  | v :: l, u :: l', h => by simp [lso_len h.2]
  | [], _ :: _, h => h.elim
  | _ :: _, [], h => h.elim
theorem lso_vr {G : Ctx} {μ : Mu} : ∀ {l l' : List AVal}, lso l l' → ∀ i c, i < l.length → VR G μ (l.getD i .any) c → VR G μ (l'.getD i .any) c
  | [], [], _, i, c, hi, _ => by simp at hi
  | v :: l, u :: l', h, i, c, hi, hv => by
    cases i with
    | zero =>
      simp only [List.getD_cons_zero] at hv ⊢
      rcases h.1 with rfl | ⟨a, rfl, rfl⟩
      · exact hv
      · exact vr_nilo hv
    | succ i =>
      simp only [List.getD_cons_succ] at hv ⊢
      exact lso_vr h.2 i c (by simpa using hi) hv
  | [], _ :: _, h, _, _, _, _ => h.elim
  | _ :: _, [], h, _, _, _, _ => h.elim
theorem Ans.lso {P : Program} {g : FuncId} {args args' : List AVal} {LH LH' : Heap} {r : AVal} (h : Ans P g args LH r LH') (hw : Go.Proofs.lso args' args) : Ans P g args' LH r LH' := h.weak (lso_len hw) fun _ _ i c hi hv => lso_vr hw i c hi hv
theorem in_ok3 (w a b : Int) (h : 0 ≤ a ∧ a ≤ b ∧ b ≤ 2000000000000) : Ans Try.prog n_kit_Dice_In [.ptr 0 0 0 1, r2 a b] [some (Dr w)] (.int .i64 (btw w a b)) [some (Dr (dstep w))] := by
  have e : (if b > a then b else a) = b := by split <;> omega
  refine spec_run e_kit_Dice_In fun G => ?_
  simp only [go_sem, r2, e]
  refine cD (between_ok _ a b (by omega) h.2.1 (by omega)) ?_
  simp only [go_sem]
  exact ⟨_, rfl⟩
theorem ov_frz {H : Heap} {f : Int} {ls : List Lg} {j n : Nat} {g : Bool} (h : H[j]? = some (some (.cells g 2 (ls.map Lg.v)))) (hn : n = ls.length) : frz 6 H (.agg [.int .i64 f, .sl j 0 n]) = ovV f ls := by
  have h1 : frz 5 H (.sl j 0 n) = .view (ls.map Lg.v) := by
    rw [frz_sl (d := 4) h (by simpa using hn), List.map_map]; rfl
  show AVal.agg [_, frz 5 H (.sl j 0 n)] = _
  rw [h1]; rfl
theorem pick5 (i a b c d e : Int) (hi : 0 ≤ i ∧ i < 5) : ∃ v, (v = a ∨ v = b ∨ v = c ∨ v = d ∨ v = e) ∧ [AVal.int .i64 a, .int .i64 b, .int .i64 c, .int .i64 d, .int .i64 e][i.toNat]? = some (.int .i64 v) := by
  obtain rfl | rfl | rfl | rfl | rfl : i = 0 ∨ i = 1 ∨ i = 2 ∨ i = 3 ∨ i = 4 := by omega
  · exact ⟨a, .inl rfl, rfl⟩
  · exact ⟨b, .inr (.inl rfl), rfl⟩
  · exact ⟨c, .inr (.inr (.inl rfl)), rfl⟩
  · exact ⟨d, .inr (.inr (.inr (.inl rfl))), rfl⟩
  · exact ⟨e, .inr (.inr (.inr (.inr rfl))), rfl⟩
theorem legS_in {zs : List Zn} (hz : ZsOK zs) {th : Int} (hth : 1 ≤ th ∧ th ≤ 1000) {f : Int} {ls : List Lg} (ho : OvOK f ls) (i : Nat) : 0 ≤ (legS zs th f ls i).1 ∧ (legS zs th f ls i).1 ≤ (legS zs th f ls i).2 ∧ (legS zs th f ls i).2 ≤ capS := by
  have htk := allT_ok (n := 0) ho.f ho.all
  have h1 := stAt_in hz hth htk (allT 0 f (ls.take (i + 1))).length
  have h2 := st_le hz hth htk (allT 0 f (ls.take (i + 1))).length
  unfold legS; omega
set_option maxHeartbeats 4000000 in
set_option maxRecDepth 10000 in
theorem leftOf_run (w : Int) {brk : Int} {zs : List Zn} (h : StOK brk zs) {th : Int} (hth : 1 ≤ th ∧ th ≤ 1000) {f : Int} {ls : List Lg} (ho : OvOK f ls) (hne : ls ≠ []) :
    AnsE Try.prog n_kit_LeftOf [.ptr 0 0 0 1, .agg [.int .i64 brk, .sl 1 0 zs.length], .int .i64 th, .agg [.int .i64 f, .sl 2 0 ls.length]] [some (Dr w), some (.cells true 5 (zs.map Zn.v)), some (.cells true 2 (ls.map Lg.v))]
      (fun a : Int × Int => 0 ≤ a.1 ∧ a.1 ≤ capS) (fun a => .int .i64 a.1) (fun a => [some (Dr a.2), some (.cells true 5 (zs.map Zn.v)), some (.cells true 2 (ls.map Lg.v))]) := by
  have zb : ∀ S : Nat → Prop, (Row.cells true 5 (zs.map Zn.v)).bel S := fun S => by rw [row_bel_cells]; simp only [go_sem]
  have lb : ∀ S : Nat → Prop, (Row.cells true 2 (ls.map Lg.v)).bel S := fun S => by rw [row_bel_cells]; simp only [go_sem]
  refine AnsE.keep (run_fn e_kit_LeftOf fun G => ?_) (fun a ha => ⟨by simp, by simp [go_sem], dr_bel _ _, zb _, lb _, trivial⟩)
  have k1 := rStrain_run h hth ho hne
  have hn : 0 < ls.length := List.length_pos_iff.2 hne
  have hlen := ho.len
  have hli := legS_in h.zs hth ho (ls.length - 1)
  have sl := legSs_len zs th f ls ls.length
  have s1 : ((legSs zs th f ls ls.length).map rv)[ls.length - 1]? = some (AVal.agg [.int .i64 (legS zs th f ls (ls.length - 1)).1, .int .i64 (legS zs th f ls (ls.length - 1)).2]) := by rw [List.getElem?_map, legSs_get (by omega)]; rfl
  obtain ⟨p, hp⟩ : ∃ p, legS zs th f ls (ls.length - 1) = p := ⟨_, rfl⟩
  rw [hp] at hli s1
  have c0 : ((ls.length : Int) == 0) = false := beq_eq_false_iff_ne.2 (by omega)
  have c1 : IntKind.i64.wrap ((ls.length : Int) - 1) = ((ls.length - 1 : Nat) : Int) := by rw [w64 (by omega)]; omega
  have c2 : ((ls.length - 1 : Nat) : Int) < ls.length := by omega
  have c3 : ls.length - 1 < ls.length := by omega
  simp only [go_sem]
  refine cFN k1 6 ⟨.inl (st_frz (g := true) rfl rfl), .inl rfl, .inl (ov_frz (g := true) rfl rfl), trivial⟩ ?_ (hx := by rw [row_bel_cells]; simp only [rvs_bel]) (hxn := row_nv_cells _ _ (nvs_map _ _ fun z => by simp only [go_sem, rv, r2]))
  simp only [go_sem, ren, rens, c0, c1, c2, c3, s1, sl, List.length_map]
  unfold capS at hli
  have kd := in_ok3 w p.1 p.2 (by omega)
  have bd := btw_in (w := w) (lo := p.1) (hi := p.2) hli.2.1
  simp only [r2] at kd
  refine dD kd ?_
  obtain ⟨b, hb⟩ : ∃ b, btw w p.1 p.2 = b := ⟨_, rfl⟩
  rw [hb] at bd ⊢
  have w2 : IntKind.i64.wrap (p.1 - 1) = p.1 - 1 := w64 (by omega)
  obtain ⟨c, hc⟩ : ∃ c, (if 0 < p.1 - 1 then p.1 - 1 else 0) = c := ⟨_, rfl⟩
  have hcb : 0 ≤ c ∧ c ≤ p.1 := by rw [← hc]; split <;> omega
  simp only [go_sem, w2, hc]
  have u5 := upto_in (w := dstep w) (n := 5) (by decide)
  refine dD (upto_ok (dstep w) 5 (by decide)) ?_
  obtain ⟨v, hv, sv⟩ := pick5 _ p.1 p.2 b c 1099511627776 u5
  have n5 : ¬ upto (dstep w) 5 < 0 := by omega
  simp only [go_sem, n5, sv]
  refine ⟨u5.2, ?_⟩
  refine ⟨(v, dstep (dstep w)), by unfold capS; dsimp only; omega, ?_⟩
  exact kept_id rfl (by simp only [go_sem]) fun i x hx => by
    rcases i with _ | _ | _ | i
    · cases hx; exact ⟨dr_bel _ _, rfl⟩
    · cases hx; exact ⟨zb _, rfl⟩
    · cases hx; exact ⟨lb _, rfl⟩
    · simp at hx
set_option maxHeartbeats 4000000 in
set_option maxRecDepth 10000 in
theorem leftOf_nil (w : Int) {brk : Int} {zs : List Zn} (h : StOK brk zs) {th : Int} (hth : 1 ≤ th ∧ th ≤ 1000) {f : Int} (hf : 0 ≤ f ∧ f ≤ 2000) :
    AnsE Try.prog n_kit_LeftOf [.ptr 0 0 0 1, .agg [.int .i64 brk, .sl 1 0 zs.length], .int .i64 th, .agg [.int .i64 f, .nilsl]] [some (Dr w), some (.cells true 5 (zs.map Zn.v))]
      (fun a : Int × Int => 0 ≤ a.1 ∧ a.1 ≤ capS) (fun a => .int .i64 a.1) (fun a => [some (Dr a.2), some (.cells true 5 (zs.map Zn.v))]) := by
  have zb : ∀ S : Nat → Prop, (Row.cells true 5 (zs.map Zn.v)).bel S := fun S => by rw [row_bel_cells]; simp only [go_sem]
  refine AnsE.keep (run_fn e_kit_LeftOf fun G => ?_) (fun a ha => ⟨by simp, by simp [go_sem], dr_bel _ _, zb _, trivial⟩)
  have k1 := Ans.lso (rStrain_nil h hth hf) (args' := [stV brk zs, .int .i64 th, .agg [.int .i64 f, .nilsl]]) ⟨.inl rfl, .inl rfl, .inr ⟨_, rfl, rfl⟩, trivial⟩
  have u9 := upto_in (w := w) (n := 9) (by decide)
  simp only [go_sem]
  refine cF k1 6 ⟨.inl (st_frz (g := true) rfl rfl), .inl rfl, .inl rfl, trivial⟩ ?_
  simp only [go_sem]
  refine cD (upto_ok w 9 (by decide)) ?_
  simp only [go_sem]
  refine ⟨(upto w 9, dstep w), by unfold capS; dsimp only; omega, ?_⟩
  exact kept_id rfl (by simp only [go_sem]) fun i x hx => by
    rcases i with _ | _ | i
    · cases hx; exact ⟨dr_bel _ _, rfl⟩
    · cases hx; exact ⟨zb _, rfl⟩
    · simp at hx
end Go.Proofs

namespace Go.Proofs
open Go Go.Sx
attribute [local irreducible] Run

def fstE (e : Nat → Int) : Nat → Nat → Int
  | 0, _ => 0
  | n + 1, i => if e i = 0 then fstE e n (i + 1) else e i
theorem fstE_go {e : Nat → Int} {n i : Nat} (h : i < n) (h0 : e i = 0) : fstE e (n - i) i = fstE e (n - (i + 1)) (i + 1) := by
  rw [show n - i = (n - (i + 1)) + 1 by omega, fstE, if_pos h0]
theorem fstE_stop {e : Nat → Int} {n i : Nat} (h : i < n) (h0 : e i ≠ 0) : fstE e (n - i) i = e i := by
  rw [show n - i = (n - (i + 1)) + 1 by omega, fstE, if_neg h0]
theorem fstE_end (e : Nat → Int) (n : Nat) : fstE e (n - n) n = 0 := by rw [Nat.sub_self]; rfl
theorem fstE_zero {e : Nat → Int} : ∀ {n i : Nat}, fstE e n i = 0 → ∀ j, i ≤ j → j < i + n → e j = 0
  | 0, i, _, j, h1, h2 => by omega
  | n + 1, i, h, j, h1, h2 => by
    rw [fstE] at h
    by_cases c : e i = 0
    · rw [if_pos c] at h
      by_cases hj : j = i
      · rw [hj]; exact c
      · exact fstE_zero h j (by omega) (by omega)
    · rw [if_neg c] at h; exact absurd h c

def rgE5 (a b m : Int) : Int := if 0 ≤ a ∧ a ≤ m then (if 0 ≤ b ∧ b ≤ m then (if a > b then 11 else 0) else 2) else 2
theorem rgE5_ok {a b m : Int} (h : rgE5 a b m = 0) : 0 ≤ a ∧ a ≤ b ∧ b ≤ m := by
  unfold rgE5 at h
  split at h
  · split at h
    · split at h
      · simp at h
      · omega
    · simp at h
  · simp at h
theorem gwithin_no {n a b : Int} (h : ¬ (a ≤ n ∧ n ≤ b)) : Ans Try.prog n_glass_within [.int .i64 n, .int .i64 a, .int .i64 b] [] (.bool false) [] := by
  have := gwithin n a b
  rwa [show (decide (a ≤ n) && decide (n ≤ b)) = false by rw [Bool.and_eq_false_iff, decide_eq_false_iff_not, decide_eq_false_iff_not]; omega] at this
theorem isHeat_no {n : Int} (h : ¬ (0 ≤ n ∧ n ≤ 2000)) : Ans Try.prog n_glass_isHeat [.int .i64 n] [] (.bool false) [] := by
  refine spec_run e_glass_isHeat fun G => ?_
  simp only [go_sem]
  refine cP (gwithin_no h) ?_
  simp only [go_sem]
theorem checkRange_raw (a b m : Int) : Ans Try.prog n_glass_checkRange [r2 a b, .int .i64 m] [] (.int .i64 (rgE5 a b m)) [] := by
  unfold rgE5
  refine spec_run e_glass_checkRange fun G => ?_
  by_cases h1 : 0 ≤ a ∧ a ≤ m
  · rw [if_pos h1]
    by_cases h2 : 0 ≤ b ∧ b ≤ m
    · rw [if_pos h2]
      by_cases h3 : a > b
      · simp only [go_sem, r2]
        refine cP (gwithin_yes h1) ?_
        simp only [go_sem]
        refine cP (gwithin_yes h2) ?_
        simp only [go_sem, h3]
      · simp only [go_sem, r2]
        refine cP (gwithin_yes h1) ?_
        simp only [go_sem]
        refine cP (gwithin_yes h2) ?_
        simp only [go_sem, h3]
    · rw [if_neg h2]
      simp only [go_sem, r2]
      refine cP (gwithin_yes h1) ?_
      simp only [go_sem]
      refine cP (gwithin_no h2) ?_
      simp only [go_sem]
  · rw [if_neg h1]
    simp only [go_sem, r2]
    refine cP (gwithin_no h1) ?_
    simp only [go_sem]
theorem rbeyond_yes {n a b : Int} (h : ¬ (a ≤ n ∧ n ≤ b)) : Ans Try.prog n_ref05_beyond [.int .i64 n, .int .i64 a, .int .i64 b] [] (.bool true) [] := by
  refine spec_run e_ref05_beyond fun G => ?_
  by_cases h1 : n < a
  · simp only [go_sem, h1]
  · have h2 : n > b := by omega
    simp only [go_sem, h1, h2]
theorem rcheckRange_raw (a b m : Int) : Ans Try.prog n_ref05_checkRange [r2 a b, .int .i64 m] [] (.int .i64 (rgE5 a b m)) [] := by
  unfold rgE5
  refine spec_run e_ref05_checkRange fun G => ?_
  by_cases h1 : 0 ≤ a ∧ a ≤ m
  · rw [if_pos h1]
    by_cases h2 : 0 ≤ b ∧ b ≤ m
    · rw [if_pos h2]
      by_cases h3 : a > b
      · simp only [go_sem, r2]
        refine cP (rbeyond_no h1) ?_
        simp only [go_sem]
        refine cP (rbeyond_no h2) ?_
        simp only [go_sem, h3]
      · simp only [go_sem, r2]
        refine cP (rbeyond_no h1) ?_
        simp only [go_sem]
        refine cP (rbeyond_no h2) ?_
        simp only [go_sem, h3]
    · rw [if_neg h2]
      simp only [go_sem, r2]
      refine cP (rbeyond_no h1) ?_
      simp only [go_sem]
      refine cP (rbeyond_yes h2) ?_
      simp only [go_sem]
  · rw [if_neg h1]
    simp only [go_sem, r2]
    refine cP (rbeyond_yes h1) ?_
    simp only [go_sem]
def znE (zs : List Zn) (i : Nat) : Int :=
  if 0 ≤ (zs.getD i default).f ∧ (zs.getD i default).f ≤ 2000 then
    (if (i = 0 ∧ (zs.getD i default).f ≠ 0) ∨ (0 < i ∧ (zs.getD i default).f ≤ (zs.getD (i - 1) default).f) then 11 else
      (if rgE5 (zs.getD i default).glo (zs.getD i default).ghi 100000 = 0 then rgE5 (zs.getD i default).rlo (zs.getD i default).rhi 1000000 else rgE5 (zs.getD i default).glo (zs.getD i default).ghi 100000))
  else 2
def stE (brk : Int) (zs : List Zn) : Int := if 1 ≤ brk ∧ brk ≤ 1000000000 then (if zs.length = 0 then 6 else if zs.length > 16 then 8 else fstE (znE zs) zs.length 0) else 2
theorem znE_ok {zs : List Zn} {i : Nat} {z : Zn} (hz : zs[i]? = some z) (h : znE zs i = 0) : ZnOK z ∧ (i = 0 → z.f = 0) ∧ (∀ j y, i = j + 1 → zs[j]? = some y → y.f < z.f) := by
  have e : zs.getD i default = z := by rw [List.getD_eq_getElem?_getD, hz]; rfl
  unfold znE at h
  rw [e] at h
  split at h
  · rename_i h1
    split at h
    · simp at h
    · rename_i h2
      split at h
      · rename_i h3
        refine ⟨⟨h1, rgE5_ok h3, rgE5_ok h⟩, fun hi => by omega, fun j y hj hy => ?_⟩
        subst hj
        rw [Nat.add_sub_cancel, List.getD_eq_getElem?_getD, hy] at h2
        simp only [Option.getD_some] at h2
        omega
      · rename_i h3; exact absurd h h3
  · simp at h
theorem stE_ok {brk : Int} {zs : List Zn} (h : stE brk zs = 0) : StOK brk zs := by
  unfold stE at h
  split at h
  · rename_i h1
    split at h
    · simp at h
    · split at h
      · simp at h
      · rename_i h2 h3
        have hz := fun i (z : Zn) (hz : zs[i]? = some z) => znE_ok hz (fstE_zero h i (Nat.zero_le _) (by have := (List.getElem?_eq_some_iff.1 hz).1; omega))
        refine ⟨h1, ⟨by omega, fun z hm => ?_, fun z h0 => (hz 0 z h0).2.1 rfl, fun i y z hy hz' => (hz (i + 1) z hz').2.2 i y rfl hy⟩⟩
        obtain ⟨i, hi⟩ := List.getElem?_of_mem hm
        exact (hz i z hi).1
  · simp at h
set_option maxHeartbeats 8000000 in
set_option maxRecDepth 10000 in
theorem Check_raw5 (brk : Int) (zs : List Zn) (hl : zs.length ≤ 1000) : Ans Try.prog n_glass_Check [stV brk zs] [] (.int .i64 (stE brk zs)) [] := by
  unfold stE
  refine spec_run e_glass_Check fun G => ?_
  by_cases hb : 1 ≤ brk ∧ brk ≤ 1000000000
  rotate_left
  · rw [if_neg hb]
    simp only [go_sem, stV]
    refine cP (gwithin_no hb) ?_
    simp only [go_sem]
  rw [if_pos hb]
  simp only [go_sem, stV]
  refine cP (gwithin_yes hb) ?_
  by_cases n1 : zs.length = 0
  · have e1 : ((zs.length : Int) == 0) = true := by rw [n1]; rfl
    rw [if_pos n1]
    simp only [go_sem, e1, List.length_map]
  have e1 : ((zs.length : Int) == 0) = false := beq_eq_false_iff_ne.2 (by omega)
  rw [if_neg n1]
  by_cases n2 : zs.length > 16
  · have e2 : (zs.length : Int) > 16 := by omega
    rw [if_pos n2]
    simp only [go_sem, e1, e2, List.length_map]
  have e2 : ¬ (zs.length : Int) > 16 := by omega
  rw [if_neg n2]
  simp only [go_sem, e1, e2, List.length_map]
  obtain ⟨RES, hRES⟩ : ∃ R, fstE (znE zs) zs.length 0 = R := ⟨_, rfl⟩
  rw [hRES]
  refine loop_ind k_glass_Check_r21.eq_1 (fun s : Nat × Heap => s.1 ≤ zs.length ∧ fstE (znE zs) (zs.length - s.1) s.1 = RES) (fun s => zs.length - s.1)
    (fun s => (tsets 67 [(1, .ptr 0 0 0 1), (2, .int .i64 0), (20, .view (zs.map Zn.v)), (21, .int .i64 zs.length), (22, .int .i64 s.1)], some (.cells false 2 [.agg [.int .i64 brk, .view (zs.map Zn.v)]]) :: s.2)) (0, []) ⟨Nat.zero_le _, hRES⟩ (by simp [go_sem]) rfl ?_
  clear hRES
  rintro ⟨i, X⟩ ⟨hi, hR⟩ ih
  dsimp only at hi hR ih ⊢
  by_cases h1 : i < zs.length
  · have h2 : (i : Int) < zs.length := by omega
    have n0 : ¬ (i : Int) < 0 := by omega
    have h3 : IntKind.i64.wrap ((i : Int) + 1) = ((i + 1 : Nat) : Int) := by rw [w64 (by omega)]; rfl
    obtain ⟨z, hzi⟩ : ∃ z, zs[i]? = some z := ⟨_, List.getElem?_eq_getElem h1⟩
    have ez : zs.getD i default = z := by rw [List.getD_eq_getElem?_getD, hzi]; rfl
    have ihn := fun (h0 : znE zs i = 0) Y => ih (i + 1, Y) (by dsimp only; omega) ⟨h1, by dsimp only; rw [← fstE_go h1 h0]; exact hR⟩
    have hst := fun (h0 : znE zs i ≠ 0) => (fstE_stop h1 h0).symm.trans hR
    clear ih hR
    have k1 := checkRange_raw z.glo z.ghi 100000
    have k2 := checkRange_raw z.rlo z.rhi 1000000
    simp only [r2] at k1 k2
    unfold znE at ihn hst
    rw [ez] at ihn hst
    by_cases c1 : 0 ≤ z.f ∧ z.f ≤ 2000
    rotate_left
    · rw [if_neg c1] at hst
      have hst := hst (by decide)
      subst hst
      simp only [go_sem, h2, n0, hzi, Zn.v, Zn.cs]
      refine cP (isHeat_no c1) ?_
      simp only [go_sem]
    rw [if_pos c1] at hst ihn
    obtain ⟨g, hg⟩ : ∃ g, rgE5 z.glo z.ghi 100000 = g := ⟨_, rfl⟩
    obtain ⟨r, hr⟩ : ∃ g, rgE5 z.rlo z.rhi 1000000 = g := ⟨_, rfl⟩
    rw [hg] at k1 hst ihn
    rw [hr] at k2 hst ihn
    simp only [go_sem, h2, n0, hzi, Zn.v, Zn.cs]
    refine cP (isHeat_yes c1) ?_
    by_cases h0 : i = 0
    · subst h0
      have e0 : (((0 : Nat) : Int) == 0) = true := rfl
      have e3 : ¬ (0 : Int) < ((0 : Nat) : Int) := by omega
      by_cases c2 : z.f = 0
      · have e4 : (z.f != 0) = false := by rw [c2]; rfl
        rw [if_neg (by omega)] at hst ihn
        simp only [go_sem, e0, e3, e4]
        refine cP k1 ?_
        by_cases c3 : g = 0
        · have e5 : (g != 0) = false := by rw [c3]; rfl
          rw [if_pos c3] at hst ihn
          simp only [go_sem, e5]
          refine cP k2 ?_
          by_cases c4 : r = 0
          · have e6 : (r != 0) = false := by rw [c4]; rfl
            simp only [go_sem, e6, h3]
            exact ihn c4 _ _ (by simp [go_sem]; rfl)
          · have e6 : (r != 0) = true := by simpa using c4
            have hst := hst c4
            subst hst
            simp only [go_sem, e6]
        · have e5 : (g != 0) = true := by simpa using c3
          rw [if_neg c3] at hst
          have hst := hst c3
          subst hst
          simp only [go_sem, e5]
      · have e4 : (z.f != 0) = true := by simpa using c2
        rw [if_pos (by omega)] at hst
        have hst := hst (by decide)
        subst hst
        simp only [go_sem, e0, e3, e4]
    · have e0 : ((i : Int) == 0) = false := beq_eq_false_iff_ne.2 (by omega)
      have e3 : (0 : Int) < (i : Int) := by omega
      obtain ⟨j, rfl⟩ : ∃ j, i = j + 1 := ⟨i - 1, by omega⟩
      obtain ⟨y, hy⟩ : ∃ y, zs[j]? = some y := ⟨_, List.getElem?_eq_getElem (by omega)⟩
      have ey : zs.getD (j + 1 - 1) default = y := by rw [Nat.add_sub_cancel, List.getD_eq_getElem?_getD, hy]; rfl
      have e7 : IntKind.i64.wrap (((j + 1 : Nat) : Int) - 1) = j := by rw [w64 (by omega)]; omega
      have e8 : ¬ (j : Int) < 0 := by omega
      rw [ey] at hst ihn
      by_cases c2 : y.f < z.f
      · have e4 : ¬ z.f ≤ y.f := by omega
        rw [if_neg (by omega)] at hst ihn
        simp only [go_sem, e0, e3, e4, e7, e8, hy, Int.toNat_natCast, Zn.v, Zn.cs]
        refine cP k1 ?_
        by_cases c3 : g = 0
        · have e5 : (g != 0) = false := by rw [c3]; rfl
          rw [if_pos c3] at hst ihn
          simp only [go_sem, e5]
          refine cP k2 ?_
          by_cases c4 : r = 0
          · have e6 : (r != 0) = false := by rw [c4]; rfl
            simp only [go_sem, e6, h3]
            exact ihn c4 _ _ (by simp [go_sem])
          · have e6 : (r != 0) = true := by simpa using c4
            have hst := hst c4
            subst hst
            simp only [go_sem, e6]
        · have e5 : (g != 0) = true := by simpa using c3
          rw [if_neg c3] at hst
          have hst := hst c3
          subst hst
          simp only [go_sem, e5]
      · have e4 : z.f ≤ y.f := by omega
        rw [if_pos (by omega)] at hst
        have hst := hst (by decide)
        subst hst
        simp only [go_sem, e0, e3, e4, e7, e8, hy, Int.toNat_natCast, Zn.v, Zn.cs]
  · have h2 : ¬ (i : Int) < zs.length := by omega
    obtain rfl : i = zs.length := by omega
    rw [fstE_end] at hR
    subst hR
    simp only [go_sem, h2]
set_option maxHeartbeats 8000000 in
set_option maxRecDepth 10000 in
theorem rCheck_raw5 (brk : Int) (zs : List Zn) (hl : zs.length ≤ 1000) : Ans Try.prog n_ref05_Check [stV brk zs] [] (.int .i64 (stE brk zs)) [] := by
  unfold stE
  refine spec_run e_ref05_Check fun G => ?_
  by_cases hb : 1 ≤ brk ∧ brk ≤ 1000000000
  rotate_left
  · rw [if_neg hb]
    simp only [go_sem, stV]
    refine cP (rbeyond_yes hb) ?_
    simp only [go_sem]
  rw [if_pos hb]
  simp only [go_sem, stV]
  refine cP (rbeyond_no hb) ?_
  by_cases n1 : zs.length = 0
  · have e1 : ((zs.length : Int) == 0) = true := by rw [n1]; rfl
    rw [if_pos n1]
    simp only [go_sem, e1, List.length_map]
  have e1 : ((zs.length : Int) == 0) = false := beq_eq_false_iff_ne.2 (by omega)
  rw [if_neg n1]
  by_cases n2 : zs.length > 16
  · have e2 : (zs.length : Int) > 16 := by omega
    rw [if_pos n2]
    simp only [go_sem, e1, e2, List.length_map]
  have e2 : ¬ (zs.length : Int) > 16 := by omega
  rw [if_neg n2]
  simp only [go_sem, e1, e2, List.length_map]
  obtain ⟨RES, hRES⟩ : ∃ R, fstE (znE zs) zs.length 0 = R := ⟨_, rfl⟩
  rw [hRES]
  refine loop_ind k_ref05_Check_r23.eq_1 (fun s : Nat × Int × Heap => s.1 ≤ zs.length ∧ fstE (znE zs) (zs.length - s.1) s.1 = RES ∧ (s.1 = 0 → s.2.1 = -1) ∧ (0 < s.1 → s.2.1 = (zs.getD (s.1 - 1) default).f)) (fun s => zs.length - s.1)
    (fun s => (tsets 61 [(1, .ptr 0 0 0 1), (2, .int .i64 0), (3, .int .i64 s.2.1), (4, .int .i64 s.1)], some (.cells false 2 [.agg [.int .i64 brk, .view (zs.map Zn.v)]]) :: s.2.2)) (0, -1, []) ⟨Nat.zero_le _, hRES, fun _ => rfl, fun h => absurd h (by simp)⟩ (by simp [go_sem]) rfl ?_
  clear hRES
  rintro ⟨i, last, X⟩ ⟨hi, hR, hl0, hl1⟩ ih
  dsimp only at hi hR hl0 hl1 ih ⊢
  by_cases h1 : i < zs.length
  · have h2 : (i : Int) < zs.length := by omega
    have n0 : ¬ (i : Int) < 0 := by omega
    have h3 : IntKind.i64.wrap ((i : Int) + 1) = ((i + 1 : Nat) : Int) := by rw [w64 (by omega)]; rfl
    obtain ⟨z, hzi⟩ : ∃ z, zs[i]? = some z := ⟨_, List.getElem?_eq_getElem h1⟩
    have ez : zs.getD i default = z := by rw [List.getD_eq_getElem?_getD, hzi]; rfl
    have ihn := fun (h0 : znE zs i = 0) Y => ih (i + 1, z.f, Y) (by dsimp only; omega) ⟨h1, by dsimp only; rw [← fstE_go h1 h0]; exact hR, fun h => absurd h (by dsimp only; omega), fun _ => by dsimp only; rw [Nat.add_sub_cancel, ez]⟩
    have hst := fun (h0 : znE zs i ≠ 0) => (fstE_stop h1 h0).symm.trans hR
    clear ih hR
    have k1 := rcheckRange_raw z.glo z.ghi 100000
    have k2 := rcheckRange_raw z.rlo z.rhi 1000000
    simp only [r2] at k1 k2
    unfold znE at ihn hst
    rw [ez] at ihn hst
    by_cases c1 : 0 ≤ z.f ∧ z.f ≤ 2000
    rotate_left
    · rw [if_neg c1] at hst
      have hst := hst (by decide)
      subst hst
      simp only [go_sem, h2, n0, hzi, Zn.v, Zn.cs]
      refine cP (rbeyond_yes c1) ?_
      simp only [go_sem]
    rw [if_pos c1] at hst ihn
    obtain ⟨g, hg⟩ : ∃ g, rgE5 z.glo z.ghi 100000 = g := ⟨_, rfl⟩
    obtain ⟨r, hr⟩ : ∃ g, rgE5 z.rlo z.rhi 1000000 = g := ⟨_, rfl⟩
    rw [hg] at k1 hst ihn
    rw [hr] at k2 hst ihn
    obtain ⟨bd, hbd⟩ : ∃ b : Bool, b = (decide (i = 0 ∧ z.f ≠ 0) || decide (0 < i ∧ z.f ≤ (zs.getD (i - 1) default).f)) := ⟨_, rfl⟩
    simp only [go_sem, h2, n0, hzi, Zn.v, Zn.cs]
    refine cP (rbeyond_no c1) ?_
    by_cases c2 : (i = 0 ∧ z.f ≠ 0) ∨ (0 < i ∧ z.f ≤ (zs.getD (i - 1) default).f)
    · rw [if_pos c2] at hst
      have hst := hst (by decide)
      subst hst
      by_cases h0 : i = 0
      · have q1 : 0 < z.f := by omega
        subst h0
        have e0 : (((0 : Nat) : Int) == 0) = true := rfl
        simp only [go_sem, e0, q1]
      · have e0 : ((i : Int) == 0) = false := beq_eq_false_iff_ne.2 (by omega)
        have q1 : z.f ≤ last := by have := hl1 (by omega); omega
        simp only [go_sem, e0, q1]
    · rw [if_neg c2] at hst ihn
      by_cases h0 : i = 0
      · have q2 : z.f = 0 := by omega
        have q1 : ¬ z.f ≤ last := by have := hl0 h0; omega
        subst h0
        have e0 : (((0 : Nat) : Int) == 0) = true := rfl
        rw [q2] at ihn q1
        simp only [go_sem, e0, q1, q2]
        refine cP k1 ?_
        by_cases c3 : g = 0
        · have e5 : (g != 0) = false := by rw [c3]; rfl
          rw [if_pos c3] at hst ihn
          simp only [go_sem, e5]
          refine cP k2 ?_
          by_cases c4 : r = 0
          · have e6 : (r != 0) = false := by rw [c4]; rfl
            simp only [go_sem, e6, h3]
            exact ihn c4 _ _ (by simp [go_sem]; rfl)
          · have e6 : (r != 0) = true := by simpa using c4
            have hst := hst c4
            subst hst
            simp only [go_sem, e6]
        · have e5 : (g != 0) = true := by simpa using c3
          rw [if_neg c3] at hst
          have hst := hst c3
          subst hst
          simp only [go_sem, e5]
      · have e0 : ((i : Int) == 0) = false := beq_eq_false_iff_ne.2 (by omega)
        have q1 : ¬ z.f ≤ last := by have := hl1 (by omega); omega
        simp only [go_sem, e0, q1]
        refine cP k1 ?_
        by_cases c3 : g = 0
        · have e5 : (g != 0) = false := by rw [c3]; rfl
          rw [if_pos c3] at hst ihn
          simp only [go_sem, e5]
          refine cP k2 ?_
          by_cases c4 : r = 0
          · have e6 : (r != 0) = false := by rw [c4]; rfl
            simp only [go_sem, e6, h3]
            exact ihn c4 _ _ (by simp [go_sem])
          · have e6 : (r != 0) = true := by simpa using c4
            have hst := hst c4
            subst hst
            simp only [go_sem, e6]
        · have e5 : (g != 0) = true := by simpa using c3
          rw [if_neg c3] at hst
          have hst := hst c3
          subst hst
          simp only [go_sem, e5]
  · have h2 : ¬ (i : Int) < zs.length := by omega
    obtain rfl : i = zs.length := by omega
    rw [fstE_end] at hR
    subst hR
    simp only [go_sem, h2]
end Go.Proofs

namespace Go.Proofs
open Go Go.Sx
attribute [local irreducible] Run

theorem slr_none {P : List AVal} (h : P = []) (gr : Bool) (sz j : Nat) : slv j P = .nilsl ∧ slrG gr sz P = [] := by subst h; exact ⟨rfl, rfl⟩
theorem slr_some {P : List AVal} (h : P ≠ []) (gr : Bool) (sz j : Nat) : slv j P = .sl j 0 P.length ∧ slrG gr sz P = [some (.cells gr sz P)] := by
  unfold slv slrG; rw [if_neg h, if_neg h]; exact ⟨rfl, rfl⟩
theorem lgL_nil {ls : List Lg} (h : ls = []) : lgL ls = [] := by subst h; rfl
theorem lgL_ne {ls : List Lg} (h : ls ≠ []) : lgL ls ≠ [] := fun e => h (by unfold lgL at e; exact List.map_eq_nil_iff.1 e)
section
variable {P : Program} {G : Ctx} {g : FuncId} {largs args : List AVal} {H : Heap} {α : Type} {Φ : α → Prop} {r : α → AVal} {k : Nat} {R : Runner} {l : List AOper} {fs : List Sx.Frame} {ρ : List AVal} {ms : List Nat} {Q : Sx.Goal} {dst : Option Nat}
theorem callE3 {x0 x1 x2 : Row} {x' : α → Row} {j0 j1 j2 : Nat} (h : AnsE P g largs [some x0, some x1, some x2] Φ r fun a => [some (x' a), some x1, some x2]) (hargs : args = largs.map (ren (nth [j0, j1, j2]))) (hb : Bels (· < 3) largs)
    (h0 : H[j0]? = some (some x0)) (h1 : H[j1]? = some (some x1)) (h2 : H[j2]? = some (some x2)) (hx0 : x0.bel (fun _ => False)) (hx1 : x1.bel (fun _ => False)) (hx2 : x2.bel (fun _ => False)) (hn : [j0, j1, j2].Nodup)
    (hwf : ∀ a, Φ a → Bel (fun _ => False) (r a) ∧ (x' a).bel (fun _ => False)) (hk : k ≤ H.length) (hms : ∀ q ∈ ms, q ∉ [j0, j1, j2] ∧ H[q]? = some (some .dfr))
    (hK : ∀ a, Φ a → R (.ops l) fs ⟨setD ρ dst (r a), H.set j0 (some (x' a)), ms⟩ Q) : CallR P G k R g args dst l fs ρ H ms Q := by
  have l0 := (List.getElem?_eq_some_iff.1 h0).1
  have l1 := (List.getElem?_eq_some_iff.1 h1).1
  have l2 := (List.getElem?_eq_some_iff.1 h2).1
  have n1 : j0 ≠ j1 ∧ j0 ≠ j2 := by simp at hn; omega
  have e : ∀ a, Φ a → outΔ (outσ [j0, j1, j2] H.length) 0 [some (x' a), some x1, some x2] = [(j0, x' a), (j1, x1), (j2, x2)] := fun a ha => by
    simp only [outΔ, Row.ren_same (hwf a ha).2, Row.ren_same hx1, Row.ren_same hx2]
    rfl
  refine callE h [j0, j1, j2] hn ⟨by rw [Row.ren_same hx0]; exact h0, by rw [Row.ren_same hx1]; exact h1, by rw [Row.ren_same hx2]; exact h2, trivial⟩ hargs hb
    ⟨bel_mono_row hx0 fun _ h => h.elim, bel_mono_row hx1 fun _ h => h.elim, bel_mono_row hx2 fun _ h => h.elim, trivial⟩
    (fun a ha => ⟨by simp, (hwf a ha).1.mono fun _ h => h.elim, bel_mono_row (hwf a ha).2 fun _ h => h.elim, bel_mono_row hx1 fun _ h => h.elim, bel_mono_row hx2 fun _ h => h.elim, trivial⟩) (by simp; omega) hk (fun a ha q hq => ?_) fun a ha => ?_
  · rw [e a ha]; exact ⟨by simpa using (hms q hq).1, (hms q hq).2⟩
  · rw [e a ha, ren_same (hwf a ha).1]
    have q1 : (H.set j0 (some (x' a)))[j1]? = some (some x1) := by rw [List.getElem?_set_ne n1.1]; exact h1
    have q2 : (H.set j0 (some (x' a)))[j2]? = some (some x2) := by rw [List.getElem?_set_ne n1.2]; exact h2
    simp only [Heap.puts, put_lt l0, put_id q1, put_id q2]
    exact hK a ha
theorem callE2 {x0 x1 : Row} {x' : α → Row} {j0 j1 : Nat} (h : AnsE P g largs [some x0, some x1] Φ r fun a => [some (x' a), some x1]) (hargs : args = largs.map (ren (nth [j0, j1]))) (hb : Bels (· < 2) largs)
    (h0 : H[j0]? = some (some x0)) (h1 : H[j1]? = some (some x1)) (hx0 : x0.bel (fun _ => False)) (hx1 : x1.bel (fun _ => False)) (hn : [j0, j1].Nodup)
    (hwf : ∀ a, Φ a → Bel (fun _ => False) (r a) ∧ (x' a).bel (fun _ => False)) (hk : k ≤ H.length) (hms : ∀ q ∈ ms, q ∉ [j0, j1] ∧ H[q]? = some (some .dfr))
    (hK : ∀ a, Φ a → R (.ops l) fs ⟨setD ρ dst (r a), H.set j0 (some (x' a)), ms⟩ Q) : CallR P G k R g args dst l fs ρ H ms Q := by
  have l0 := (List.getElem?_eq_some_iff.1 h0).1
  have l1 := (List.getElem?_eq_some_iff.1 h1).1
  have n1 : j0 ≠ j1 := by simpa using hn
  have e : ∀ a, Φ a → outΔ (outσ [j0, j1] H.length) 0 [some (x' a), some x1] = [(j0, x' a), (j1, x1)] := fun a ha => by
    simp only [outΔ, Row.ren_same (hwf a ha).2, Row.ren_same hx1]
    rfl
  refine callE h [j0, j1] hn ⟨by rw [Row.ren_same hx0]; exact h0, by rw [Row.ren_same hx1]; exact h1, trivial⟩ hargs hb
    ⟨bel_mono_row hx0 fun _ h => h.elim, bel_mono_row hx1 fun _ h => h.elim, trivial⟩
    (fun a ha => ⟨by simp, (hwf a ha).1.mono fun _ h => h.elim, bel_mono_row (hwf a ha).2 fun _ h => h.elim, bel_mono_row hx1 fun _ h => h.elim, trivial⟩) (by simp; omega) hk (fun a ha q hq => ?_) fun a ha => ?_
  · rw [e a ha]; exact ⟨by simpa using (hms q hq).1, (hms q hq).2⟩
  · rw [e a ha, ren_same (hwf a ha).1]
    have q1 : (H.set j0 (some (x' a)))[j1]? = some (some x1) := by rw [List.getElem?_set_ne n1]; exact h1
    simp only [Heap.puts, put_lt l0, put_id q1]
    exact hK a ha
end
end Go.Proofs

namespace Go.Proofs
open Go Go.Sx
attribute [local irreducible] Run

structure TsOK (zs : List Zn) (th : Int) (ts : List Tk) (k : Nat) (l : List Int) : Prop where
  len : l.length = k + 1
  bd : ∀ j, j ≤ k → (stAt zs th ts j).1 ≤ l.getD j 0 ∧ l.getD j 0 ≤ (stAt zs th ts j).2
theorem TsOK.snoc {zs : List Zn} {th : Int} {ts : List Tk} {k : Nat} {l : List Int} (h : TsOK zs th ts k l) {v : Int} (hv : (stAt zs th ts (k + 1)).1 ≤ v ∧ v ≤ (stAt zs th ts (k + 1)).2) : TsOK zs th ts (k + 1) (l ++ [v]) := ⟨by rw [List.length_append, h.len]; rfl, fun j hj => by
  have hl := h.len
  rw [List.getD_eq_getElem?_getD]
  by_cases e : j = k + 1
  · subst e
    rw [List.getElem?_append_right (by omega), hl, Nat.sub_self]; exact hv
  · rw [List.getElem?_append_left (by omega), ← List.getD_eq_getElem?_getD]; exact h.bd j (by omega)⟩
section
variable {P : Program} {G : Ctx} {g : FuncId} {largs args : List AVal} {H : Heap} {α : Type} {Φ : α → Prop} {r : α → AVal} {k : Nat} {R : Runner} {l : List AOper} {fs : List Sx.Frame} {ρ : List AVal} {ms : List Nat} {Q : Sx.Goal} {dst : Option Nat}
end
end Go.Proofs

namespace Go.Proofs
open Go Go.Sx
attribute [local irreducible] Run

theorem range_okg (w lo hi : Int) (h1 : -1152921504606846976 ≤ lo) (h2 : lo ≤ hi) (h3 : hi ≤ 1152921504606846976) : Ans Try.prog n_kit_Dice_Range [.ptr 0 0 0 1, .int .i64 lo, .int .i64 hi] [some (Dr w)] (rngR w lo hi).v [some (Dr (dstep (dstep w)))] := by
  refine spec_run e_kit_Dice_Range fun G => ?_
  simp only [go_sem]
  refine callD (between_ok w lo hi h1 h2 h3) rfl ⟨.int _ _, .int _ _, trivial⟩ (.int _ _) (dr_bel _ _) (dr_bel _ _) (by simp) (by simp) ?_
  simp only [go_sem]
  refine callD (between_ok (dstep w) lo hi h1 h2 h3) rfl ⟨.int _ _, .int _ _, trivial⟩ (.int _ _) (dr_bel _ _) (dr_bel _ _) (by simp) (by simp) ?_
  simp only [go_sem]
  exact ⟨rfl, _, rfl⟩
structure NarZ (y z : Zn) : Prop where
  f : y.f = z.f
  g : z.glo ≤ y.glo ∧ y.glo ≤ y.ghi ∧ y.ghi ≤ z.ghi
  r : z.rlo ≤ y.rlo ∧ y.rlo ≤ y.rhi ∧ y.rhi ≤ z.rhi
def NarL : List Zn → List Zn → Prop
  | [], [] => True
  | y :: a, z :: b => NarZ y z ∧ NarL a b
  | _, _ => False
theorem NarL.zAt : ∀ {a b : List Zn}, NarL a b → b ≠ [] → ∀ t, NarZ (Go.Proofs.zAt a t) (Go.Proofs.zAt b t)
  | [], [], _, h, _ => absurd rfl h
  | [y], [z], h, _, t => h.1
  | y :: y2 :: a, z :: z2 :: b, h, _, t => by
    show NarZ (if y2.f ≤ t then Go.Proofs.zAt (y2 :: a) t else y) (if z2.f ≤ t then Go.Proofs.zAt (z2 :: b) t else z)
    rw [h.2.1.f]
    split
    · exact NarL.zAt h.2 (by simp) t
    · exact h.1
  | [], _ :: _, h, _, _ => h.elim
  | _ :: _, [], h, _, _ => h.elim
  | [_], _ :: _ :: _, h, _, _ => h.2.elim
  | _ :: _ :: _, [_], h, _, _ => h.2.elim
theorem NarL.get : ∀ {a b : List Zn}, NarL a b → a.length = b.length ∧ ∀ (i : Nat) (y : Zn), a[i]? = some y → ∃ z, b[i]? = some z ∧ NarZ y z
  | [], [], _ => ⟨rfl, fun i y h => by simp at h⟩
  | y :: a, z :: b, h => by
    obtain ⟨h1, h2⟩ := NarL.get h.2
    refine ⟨by simp [h1], fun i x hx => ?_⟩
    cases i with
    | zero => simp at hx; subst hx; exact ⟨z, rfl, h.1⟩
    | succ i => simpa using h2 i x (by simpa using hx)
  | [], _ :: _, h => h.elim
  | _ :: _, [], h => h.elim
theorem NarL.ok {a b : List Zn} (h : NarL a b) (hb : ZsOK b) : ZsOK a := by
  obtain ⟨h1, h2⟩ := h.get
  refine ⟨by rw [h1]; exact hb.len, fun y hy => ?_, fun y hy => ?_, fun i y x hy hx => ?_⟩
  · obtain ⟨i, hi⟩ := List.getElem?_of_mem hy
    obtain ⟨z, hz, hn⟩ := h2 i y hi
    have ho := hb.all z (List.mem_of_getElem? hz)
    have hg := hn.g
    have hr := hn.r
    exact ⟨by rw [hn.f]; exact ho.f, by have := ho.g; omega, by have := ho.r; omega⟩
  · obtain ⟨z, hz, hn⟩ := h2 0 y hy
    rw [hn.f]; exact hb.zero z hz
  · obtain ⟨z, hz, hn⟩ := h2 i y hy
    obtain ⟨u, hu, hn2⟩ := h2 (i + 1) x hx
    rw [hn.f, hn2.f]; exact hb.asc i z u hz hu
section
variable {a b : List Zn} (h : NarL a b) (hb : ZsOK b)
include h hb
end
end Go.Proofs

namespace Go.Proofs
open Go Go.Sx

end Go.Proofs

namespace Go.Proofs
open Go Go.Sx
attribute [local irreducible] Run

def t3 (p : Int × Int × Int) : AVal := .tup [r2 p.1 p.2.1, .int .i64 p.2.2]
section
variable (b1 : Int) (z1 : List Zn) (hl1 : z1.length ≤ 1000) (b2 : Int) (z2 : List Zn) (hl2 : z2.length ≤ 1000) (s t : Int)
include hl1 hl2
end
end Go.Proofs

namespace Go.Proofs
open Go Go.Sx
attribute [local irreducible] Run

def lgE (l : Lg) : Int := if 1 ≤ l.tk ∧ l.tk ≤ 2000 then (if 0 ≤ l.ht ∧ l.ht ≤ 2000 then 0 else 2) else 2
def lgEs (ls : List Lg) (i : Nat) : Int := lgE (ls.getD i default)
def ovE (f : Int) (ls : List Lg) : Int := if 0 ≤ f ∧ f ≤ 2000 then (if ls.length > 20 then 8 else fstE (lgEs ls) ls.length 0) else 2
def whE (brk : Int) (zs : List Zn) (th f : Int) (ls : List Lg) : Int := if stE brk zs = 0 then (if 1 ≤ th ∧ th ≤ 1000 then ovE f ls else 2) else stE brk zs
theorem ovE_ok {f : Int} {ls : List Lg} (h : ovE f ls = 0) : OvOK f ls := by
  unfold ovE at h
  split at h
  · rename_i h1
    split at h
    · simp at h
    · rename_i h2
      refine ⟨h1, by omega, fun l hm => ?_⟩
      obtain ⟨i, hi⟩ := List.getElem?_of_mem hm
      have e : lgEs ls i = 0 := fstE_zero h i (Nat.zero_le _) (by have := (List.getElem?_eq_some_iff.1 hi).1; omega)
      have e2 : ls.getD i default = l := by rw [List.getD_eq_getElem?_getD, hi]; rfl
      unfold lgEs lgE at e
      rw [e2] at e
      split at e
      · rename_i h3
        split at e
        · rename_i h4; exact ⟨h3, h4⟩
        · simp at e
      · simp at e
  · simp at h
theorem whE_ok {brk : Int} {zs : List Zn} {th f : Int} {ls : List Lg} (h : whE brk zs th f ls = 0) : StOK brk zs ∧ (1 ≤ th ∧ th ≤ 1000) ∧ OvOK f ls := by
  unfold whE at h
  split at h
  · rename_i h1
    split at h
    · rename_i h2; exact ⟨stE_ok h1, h2, ovE_ok h⟩
    · simp at h
  · rename_i h1; exact absurd h h1
set_option maxHeartbeats 8000000 in
set_option maxRecDepth 10000 in
theorem CheckOven_raw (f : Int) (ls : List Lg) : Ans Try.prog n_glass_CheckOven [ovV f ls] [] (.int .i64 (ovE f ls)) [] := by
  unfold ovE
  refine spec_run e_glass_CheckOven fun G => ?_
  by_cases hf : 0 ≤ f ∧ f ≤ 2000
  rotate_left
  · rw [if_neg hf]
    simp only [go_sem, ovV]
    refine cP (isHeat_no hf) ?_
    simp only [go_sem]
  rw [if_pos hf]
  simp only [go_sem, ovV]
  refine cP (isHeat_yes hf) ?_
  by_cases c2 : ls.length > 20
  · have n2 : (ls.length : Int) > 20 := by omega
    rw [if_pos c2]
    simp only [go_sem, n2, List.length_map]
  have n2 : ¬ (ls.length : Int) > 20 := by omega
  rw [if_neg c2]
  simp only [go_sem, n2, List.length_map]
  obtain ⟨RES, hRES⟩ : ∃ R, fstE (lgEs ls) ls.length 0 = R := ⟨_, rfl⟩
  rw [hRES]
  refine loop_ind k_glass_CheckOven_r11.eq_1 (fun s : Nat × Heap => s.1 ≤ ls.length ∧ fstE (lgEs ls) (ls.length - s.1) s.1 = RES) (fun s => ls.length - s.1)
    (fun s => (tsets 31 [(1, .ptr 0 0 0 1), (2, .int .i64 0), (14, .view (ls.map Lg.v)), (15, .int .i64 ls.length), (16, .int .i64 s.1)], some (.cells false 2 [.agg [.int .i64 f, .view (ls.map Lg.v)]]) :: s.2)) (0, []) ⟨Nat.zero_le _, hRES⟩ (by simp [go_sem]) rfl ?_
  clear hRES
  rintro ⟨i, X⟩ ⟨hi, hR⟩ ih
  dsimp only at hi hR ih ⊢
  by_cases h1 : i < ls.length
  · have h2 : (i : Int) < ls.length := by omega
    have n0 : ¬ (i : Int) < 0 := by omega
    have h3 : IntKind.i64.wrap ((i : Int) + 1) = ((i + 1 : Nat) : Int) := by rw [w64 (by omega)]; rfl
    obtain ⟨z, hzi⟩ : ∃ z, ls[i]? = some z := ⟨_, List.getElem?_eq_getElem h1⟩
    have ez : ls.getD i default = z := by rw [List.getD_eq_getElem?_getD, hzi]; rfl
    have ihn := fun (h0 : lgEs ls i = 0) Y => ih (i + 1, Y) (by dsimp only; omega) ⟨h1, by dsimp only; rw [← fstE_go h1 h0]; exact hR⟩
    have hst := fun (h0 : lgEs ls i ≠ 0) => (fstE_stop h1 h0).symm.trans hR
    clear ih hR
    unfold lgEs lgE at ihn hst
    rw [ez] at ihn hst
    simp only [go_sem, h2, n0, hzi, Lg.v]
    by_cases c1 : 1 ≤ z.tk ∧ z.tk ≤ 2000
    · rw [if_pos c1] at ihn hst
      refine cP (gwithin_yes c1) ?_
      simp only [go_sem]
      by_cases c3 : 0 ≤ z.ht ∧ z.ht ≤ 2000
      · rw [if_pos c3] at ihn hst
        refine cP (isHeat_yes c3) ?_
        simp only [go_sem, h3]
        exact ihn rfl _ _ (by simp [go_sem])
      · rw [if_neg c3] at hst
        have hst := hst (by decide)
        subst hst
        refine cP (isHeat_no c3) ?_
        simp only [go_sem]
    · rw [if_neg c1] at hst
      have hst := hst (by decide)
      subst hst
      refine cP (gwithin_no c1) ?_
      simp only [go_sem]
  · have h2 : ¬ (i : Int) < ls.length := by omega
    obtain rfl : i = ls.length := by omega
    rw [fstE_end] at hR
    subst hR
    simp only [go_sem, h2]
set_option maxHeartbeats 8000000 in
set_option maxRecDepth 10000 in
theorem rCheckOven_raw (f : Int) (ls : List Lg) : Ans Try.prog n_ref05_CheckOven [ovV f ls] [] (.int .i64 (ovE f ls)) [] := by
  unfold ovE
  refine spec_run e_ref05_CheckOven fun G => ?_
  by_cases hf : 0 ≤ f ∧ f ≤ 2000
  rotate_left
  · rw [if_neg hf]
    simp only [go_sem, ovV]
    refine cP (rbeyond_yes hf) ?_
    simp only [go_sem]
  rw [if_pos hf]
  simp only [go_sem, ovV]
  refine cP (rbeyond_no hf) ?_
  by_cases c2 : ls.length > 20
  · have n2 : (ls.length : Int) > 20 := by omega
    rw [if_pos c2]
    simp only [go_sem, n2, List.length_map]
  have n2 : ¬ (ls.length : Int) > 20 := by omega
  rw [if_neg c2]
  simp only [go_sem, n2, List.length_map]
  obtain ⟨RES, hRES⟩ : ∃ R, fstE (lgEs ls) ls.length 0 = R := ⟨_, rfl⟩
  rw [hRES]
  refine loop_ind k_ref05_CheckOven_r10.eq_1 (fun s : Nat × Heap => s.1 ≤ ls.length ∧ fstE (lgEs ls) (ls.length - s.1) s.1 = RES) (fun s => ls.length - s.1)
    (fun s => (tsets 34 [(1, .ptr 0 0 0 1), (2, .int .i64 0), (3, .int .i64 s.1)], some (.cells false 2 [.agg [.int .i64 f, .view (ls.map Lg.v)]]) :: s.2)) (0, []) ⟨Nat.zero_le _, hRES⟩ (by simp [go_sem]) rfl ?_
  clear hRES
  rintro ⟨i, X⟩ ⟨hi, hR⟩ ih
  dsimp only at hi hR ih ⊢
  by_cases h1 : i < ls.length
  · have h2 : (i : Int) < ls.length := by omega
    have n0 : ¬ (i : Int) < 0 := by omega
    have h3 : IntKind.i64.wrap ((i : Int) + 1) = ((i + 1 : Nat) : Int) := by rw [w64 (by omega)]; rfl
    obtain ⟨z, hzi⟩ : ∃ z, ls[i]? = some z := ⟨_, List.getElem?_eq_getElem h1⟩
    have ez : ls.getD i default = z := by rw [List.getD_eq_getElem?_getD, hzi]; rfl
    have ihn := fun (h0 : lgEs ls i = 0) Y => ih (i + 1, Y) (by dsimp only; omega) ⟨h1, by dsimp only; rw [← fstE_go h1 h0]; exact hR⟩
    have hst := fun (h0 : lgEs ls i ≠ 0) => (fstE_stop h1 h0).symm.trans hR
    clear ih hR
    unfold lgEs lgE at ihn hst
    rw [ez] at ihn hst
    simp only [go_sem, h2, n0, hzi, Lg.v]
    by_cases c1 : 1 ≤ z.tk ∧ z.tk ≤ 2000
    · rw [if_pos c1] at ihn hst
      refine cP (rbeyond_no c1) ?_
      simp only [go_sem, h2, n0, hzi, Lg.v]
      by_cases c3 : 0 ≤ z.ht ∧ z.ht ≤ 2000
      · rw [if_pos c3] at ihn hst
        refine cP (rbeyond_no c3) ?_
        simp only [go_sem, h3]
        exact ihn rfl _ _ (by simp [go_sem])
      · rw [if_neg c3] at hst
        have hst := hst (by decide)
        subst hst
        refine cP (rbeyond_yes c3) ?_
        simp only [go_sem]
    · rw [if_neg c1] at hst
      have hst := hst (by decide)
      subst hst
      refine cP (rbeyond_yes c1) ?_
      simp only [go_sem]
  · have h2 : ¬ (i : Int) < ls.length := by omega
    obtain rfl : i = ls.length := by omega
    rw [fstE_end] at hR
    subst hR
    simp only [go_sem, h2]
section
variable (brk : Int) (zs : List Zn) (hl : zs.length ≤ 1000) (th f : Int) (ls : List Lg)
include hl
theorem checkHeated_raw : Ans Try.prog n_glass_checkHeated [wlV brk zs th, ovV f ls] [] (.int .i64 (whE brk zs th f ls)) [] := by
  have kc := Check_raw5 brk zs hl
  have k2 := CheckOven_raw f ls
  simp only [stV, ovV] at kc k2
  have k1 : Ans Try.prog n_glass_wall_check [wlV brk zs th] [] (.int .i64 (if stE brk zs = 0 then (if 1 ≤ th ∧ th ≤ 1000 then 0 else 2) else stE brk zs)) [] := by
    generalize stE brk zs = E at *
    refine spec_run e_glass_wall_check fun G => ?_
    simp only [go_sem, wlV]
    refine cP kc ?_
    by_cases h1 : E = 0
    · have e1 : (E != 0) = false := by rw [h1]; rfl
      rw [if_pos h1]
      simp only [go_sem, e1]
      by_cases h2 : 1 ≤ th ∧ th ≤ 1000
      · rw [if_pos h2]
        refine cP (gwithin_yes h2) ?_
        simp only [go_sem]
      · rw [if_neg h2]
        refine cP (gwithin_no h2) ?_
        simp only [go_sem]
    · have e1 : (E != 0) = true := by simpa using h1
      rw [if_neg h1]
      simp only [go_sem, e1]
  unfold whE
  generalize ovE f ls = F at *
  generalize stE brk zs = E at *
  simp only [wlV] at k1
  refine spec_run e_glass_checkHeated fun G => ?_
  simp only [go_sem, wlV, ovV]
  refine cP k1 ?_
  by_cases h1 : E = 0
  · subst h1
    rw [if_pos rfl, if_pos rfl]
    by_cases h2 : 1 ≤ th ∧ th ≤ 1000
    · rw [if_pos h2, if_pos h2]
      simp only [go_sem]
      refine cP k2 ?_
      simp only [go_sem]
    · rw [if_neg h2, if_neg h2]
      simp only [go_sem]
  · have e1 : (E != 0) = true := by simpa using h1
    rw [if_neg h1, if_neg h1]
    simp only [go_sem, e1]
theorem rcheckWall_raw : Ans Try.prog n_ref05_checkWall [stV brk zs, .int .i64 th, ovV f ls] [] (.int .i64 (whE brk zs th f ls)) [] := by
  have kc := rCheck_raw5 brk zs hl
  have k2 := rCheckOven_raw f ls
  simp only [stV, ovV] at kc k2
  unfold whE
  generalize ovE f ls = F at *
  generalize stE brk zs = E at *
  refine spec_run e_ref05_checkWall fun G => ?_
  simp only [go_sem, stV, ovV]
  refine cP kc ?_
  by_cases h1 : E = 0
  · subst h1
    rw [if_pos rfl]
    simp only [go_sem]
    by_cases h2 : 1 ≤ th ∧ th ≤ 1000
    · rw [if_pos h2]
      refine cP (rbeyond_no h2) ?_
      simp only [go_sem]
      refine cP k2 ?_
      simp only [go_sem]
    · rw [if_neg h2]
      refine cP (rbeyond_yes h2) ?_
      simp only [go_sem]
  · have e1 : (E != 0) = true := by simpa using h1
    rw [if_neg h1]
    simp only [go_sem, e1]
end
end Go.Proofs

