/- CathodeVerdicts. -/
import Derived.Test.YtgikocfbedopmaaYdI
import Derived.Test.YtgikocfbedopmaaYdB
namespace Go.Proofs
open Go Go.Sx
attribute [local irreducible] Run

theorem Crs.at {c : Ct} {a : List Ht} {w : List Mx} {m : Mx} (h : Crs c a w m) (p : Nat) (hp : p < a.length) : ∃ (z : Ht) (m1 m2 : Mx), a.take (p + 1) = a.take p ++ [z] ∧ w.getD p default = m1 ∧ w.getD (p + 1) default = m2 ∧ Crs c (a.take p) (w.take (p + 1)) m1 ∧ Fol m1 m2 (ratesAt c (heatOf c (a.take p ++ [z])) z.cur) ∧ z ∈ a := by
  obtain ⟨z, m1, m2, e1, e2, e3, e4, e5⟩ := h.part p hp
  refine ⟨z, m1, m2, by rw [List.take_add_one, e1]; rfl, ?_, ?_, e2, e5, List.mem_of_getElem? e1⟩
  · rw [List.getD_eq_getElem?_getD, e3]; rfl
  · rw [List.getD_eq_getElem?_getD, e4]; rfl

theorem crs_ne {c : Ct} {l : List Ht} {w : List Mx} {m : Mx} (hw : Crs c (flat l) w m) : w ≠ [] := by
  have := hw.len
  intro h
  rw [h] at this; simp at this

section
variable {c : Ct} (hc : CtOK c) {l : List Ht} (hl : LsOK l) {w : List Mx} {m : Mx} (hw : Crs c (flat l) w m)
include hc hl hw
theorem crs_tick (p : Nat) (hp : p < (flat l).length) : (coatOf c ((flat l).take (p + 1))).gas.lo ≤ (w.getD p default).carb - (w.getD (p + 1) default).carb ∧ (w.getD p default).carb - (w.getD (p + 1) default).carb ≤ (coatOf c ((flat l).take (p + 1))).gas.hi ∧
    Holds (coatOf c ((flat l).take (p + 1))) (w.getD (p + 1) default) := by
  have hfl := flat_len hl.all
  have hsum := hl.sum
  obtain ⟨z, m1, m2, e1, e2, e3, e4, e5, e6⟩ := hw.at p hp
  have hz := hl.all z (flat_mem e6)
  have ha : ∀ y ∈ (flat l).take p, HtOK y := fun y hy => hl.all y (flat_mem (List.mem_of_mem_take hy))
  have hlp : ((flat l).take p).length ≤ 1000000 := by simp; omega
  have hg := e4.gas hc ha hz hlp e5
  have ha1 : ∀ y ∈ (flat l).take p ++ [z], HtOK y := fun y hy => by
    rcases List.mem_append.1 hy with hy | hy
    · exact ha y hy
    · simp at hy; subst hy; exact hz
  have hh := (e4.snoc e5).holds hc ha1 (by simp; omega)
  rw [e2, e3, e1, coatOf_snoc]
  rw [coatOf_snoc] at hh
  exact ⟨hg.1, hg.2, hh⟩
theorem crs_end : Holds (coatOf c (flat l)) (w.getD (w.length - 1) default) := by
  have hfl := flat_len hl.all
  have hsum := hl.sum
  have hh := hw.holds hc (fun y hy => hl.all y (flat_mem hy)) (by omega)
  have e := hw.last
  rw [hw.len, Nat.add_sub_cancel, List.getD_eq_getElem?_getD, e]
  exact hh
theorem sure_kept {d : Dm} (h : (judgeV c d l).1 = 1) : keptL d w = true := by
  rw [keptL_iff d w (crs_ne hw), hw.len]
  obtain ⟨h1, h2⟩ := judge_sure.1 h
  have he := crs_end hc hl hw
  rw [hw.len] at he
  obtain ⟨h3, h4⟩ := lastV_sure.1 h2
  refine ⟨fun p hp => ?_, by have := he.carb; omega, by have := he.ba; omega⟩
  have ht := crs_tick hc hl hw p (by omega)
  obtain ⟨k1, k2, k3⟩ := eachV_sure.1 (h1 p (by omega))
  have := ht.2.2.lost
  omega
theorem never_kept {d : Dm} (hd : d.wear = 1099511627776) (h : (judgeV c d l).1 = 2) : keptL d w = false := by
  have hfl := flat_len hl.all
  have hsum := hl.sum
  have hg : ∀ p, p ≤ (flat l).length → Good c (coatOf c ((flat l).take p)) p := fun p hp => by
    have := coatOf_good hc (a := (flat l).take p) (fun y hy => hl.all y (flat_mem (List.mem_of_mem_take hy))) (by simp; omega)
    rwa [List.length_take, Nat.min_eq_left hp] at this
  cases hk : keptL d w with
  | false => rfl
  | true =>
    exfalso
    obtain ⟨h1, h2, h3⟩ := (keptL_iff d w (crs_ne hw)).1 hk
    rcases judge_never.1 h with ⟨p, hp, hv⟩ | hv
    · have ht := crs_tick hc hl hw p hp
      have hgp := hg (p + 1) (by omega)
      have hkp := h1 p (by rw [hw.len]; omega)
      have hwl := hgp.ok.wear.all
      have hww := hgp.wear
      have hlo := ht.2.2.lost
      rcases (eachV_never hgp.ok).1 hv with h | h | h <;> omega
    · have he := crs_end hc hl hw
      have hgl := hg (flat l).length (Nat.le_refl _)
      rw [List.take_length] at hgl
      have e1 := he.carb; have e2 := he.ba
      rcases (lastV_never hgl.ok).1 hv with h | h <;> omega
end

/-- Stricter demands. -/
structure DmLe (y x : Dm) : Prop where
  gas : y.gas ≤ x.gas
  wear : y.wear ≤ x.wear
  lost : y.lost ≤ x.lost
  rest : y.rest ≤ x.rest
  ba : x.ba ≤ y.ba
theorem stricter_sure {c : Ct} {l : List Ht} {x y : Dm} (h : DmLe y x) (hy : (judgeV c y l).1 = 1) : (judgeV c x l).1 = 1 := by
  obtain ⟨h1, h2⟩ := judge_sure.1 hy
  obtain ⟨a1, a2, a3, a4, a5⟩ := h
  refine judge_sure.2 ⟨fun p hp => ?_, ?_⟩
  · obtain ⟨k1, k2, k3⟩ := eachV_sure.1 (h1 p hp)
    exact eachV_sure.2 ⟨by omega, by omega, by omega⟩
  · obtain ⟨k1, k2⟩ := lastV_sure.1 h2
    exact lastV_sure.2 ⟨by omega, by omega⟩
theorem stricter_never {c : Ct} (hc : CtOK c) {l : List Ht} (hl : LsOK l) {x y : Dm} (h : DmLe y x) (hx : (judgeV c x l).1 = 2) : (judgeV c y l).1 = 2 := by
  have hfl := flat_len hl.all
  have hsum := hl.sum
  have hg : ∀ p, p ≤ (flat l).length → CgOK c (coatOf c ((flat l).take p)) := fun p hp => (coatOf_good hc (a := (flat l).take p) (fun y hy => hl.all y (flat_mem (List.mem_of_mem_take hy))) (by simp; omega)).ok
  obtain ⟨a1, a2, a3, a4, a5⟩ := h
  rcases judge_never.1 hx with ⟨p, hp, hv⟩ | hv
  · refine judge_never.2 (.inl ⟨p, hp, ?_⟩)
    have h1 := (eachV_never (hg (p + 1) (by omega))).1 hv
    exact (eachV_never (hg (p + 1) (by omega))).2 (by omega)
  · refine judge_never.2 (.inr ?_)
    have h0 := hg (flat l).length (Nat.le_refl _)
    rw [List.take_length] at h0
    have h1 := (lastV_never h0).1 hv
    exact (lastV_never h0).2 (by omega)

set_option maxRecDepth 20000 in
set_option maxHeartbeats 8000000 in
theorem stricter_run (xs : List Int) (hl : xs.length ≤ 9223372036854775807) (by' : Int) : Ans Try.prog n_law03_stricter [.view (xs.map (.int .i64)), .int .i64 by'] [] (.bool true) [] := by
  have hd := newdice_ok xs hl
  generalize seedW xs = w at *
  have hm := mod_pos by' 100 (by decide)
  have hb : 0 ≤ by' % 100 ∧ by' % 100 < 100 := by omega
  refine spec_run e_law03_stricter fun G => ?_
  simp only [go_sem]
  refine callN1 hd ⟨by rw [bel_view]; exact bels_map _ _ fun _ => .int _ _, trivial⟩ (dr_bel _ _) (by simp) (by simp) ?_
  simp only [go_sem]
  refine callDN (coatOf_run w) rfl trivial (dr_bel _ _) (fun a ha => ⟨by simp only [go_sem], by simp only [go_sem], by simp only [go_sem]⟩) (by simp) (by simp) ?_
  rintro ⟨c, w1⟩ hc
  dsimp only at hc
  simp only [go_sem, Ct.v, Ct.cs, ren, rens]
  refine callDS (scheduleOf_run w1 5 20 (by decide) (by decide)) rfl ⟨.int _ _, .int _ _, trivial⟩ (dr_bel _ _) (fun a ha => ⟨by simp only [go_sem], by simp only [go_sem]⟩) (by simp) (by simp) ?_
  rintro ⟨l, w2⟩ hl
  dsimp only at hl
  have hls := hl.ok (by decide) (by decide) (by decide)
  have key : ∀ (x : Dm), DmOK x → x.ba ≤ 1000000 → ∀ w : Int, ∃ y : Dm, DmOK y ∧ DmLe y x ∧
      y = ⟨(if x.gas - upto w (by' % 100 + 1) > 0 then x.gas - upto w (by' % 100 + 1) else 0), (if x.wear - upto (dstep w) (by' % 100 + 1) > 0 then x.wear - upto (dstep w) (by' % 100 + 1) else 0),
        (if x.lost - upto (dstep (dstep w)) (by' % 100 + 1) > 0 then x.lost - upto (dstep (dstep w)) (by' % 100 + 1) else 0), (if x.rest - upto (dstep (dstep (dstep w))) (by' % 100 + 1) > 0 then x.rest - upto (dstep (dstep (dstep w))) (by' % 100 + 1) else 0),
        x.ba + upto (dstep (dstep (dstep (dstep w)))) (by' % 100 + 1)⟩ := by
    intro x hx hxb w
    have u := fun w => upto_in (w := w) (n := by' % 100 + 1) (by omega)
    have u1 := u w; have u2 := u (dstep w); have u3 := u (dstep (dstep w)); have u4 := u (dstep (dstep (dstep w))); have u5 := u (dstep (dstep (dstep (dstep w))))
    obtain ⟨x1, x2, x3, x4, x5⟩ := hx
    refine ⟨_, ⟨?_, ?_, ?_, ?_, ?_⟩, ⟨?_, ?_, ?_, ?_, ?_⟩, rfl⟩ <;> dsimp only <;> (try split) <;> omega
  generalize by' % 100 = b at *
  have wb : IntKind.i64.wrap (b + 1) = b + 1 := w64 (by omega)
  by_cases hnil : l = []
  · have e1 : slv 3 (List.map Ht.v l) = .nilsl := by rw [hnil]; rfl
    have e2 : slrG true 3 (List.map Ht.v l) = [] := by rw [hnil]; rfl
    have hls0 : LsOK ([] : List Ht) := ⟨by simp, fun h hh => by simp at hh, by simp [lenOfL]⟩
    simp only [go_sem, e1, e2]
    refine callR1n (demandOf_nil w2 c hc) (j0 := 0) (j1 := 1) (by simp only [go_sem, ren, rens, nth, Ct.v, Ct.cs]; rfl) ⟨by rw [bel_ptr]; decide, by rw [ct_bel, bel_sl]; decide, .nilsl, trivial⟩ rfl rfl (by simp only [go_sem]) (by simp only [go_sem]) (by decide)
      (fun a ha => ⟨by simp only [go_sem], by simp only [go_sem]⟩) (by simp) (by simp) ?_
    rintro ⟨x, w3⟩ ⟨hx, hxb⟩
    dsimp only at hx hxb
    obtain ⟨y, hy, hyx, hye⟩ := key x hx hxb w3
    have u := fun w => upto_in (w := w) (n := b + 1) (by omega)
    have uo := fun w => upto_ok w (b + 1) (by omega)
    have u1 := u w3; have u2 := u (dstep w3); have u3 := u (dstep (dstep w3)); have u4 := u (dstep (dstep (dstep w3))); have u5 := u (dstep (dstep (dstep (dstep w3))))
    have o1 := uo w3; have o2 := uo (dstep w3); have o3 := uo (dstep (dstep w3)); have o4 := uo (dstep (dstep (dstep w3))); have o5 := uo (dstep (dstep (dstep (dstep w3))))
    have x1 := hx.gas; have x2 := hx.wear; have x3 := hx.lost; have x4 := hx.rest; have x5 := hx.ba
    generalize upto w3 (b + 1) = k1 at *
    generalize upto (dstep w3) (b + 1) = k2 at *
    generalize upto (dstep (dstep w3)) (b + 1) = k3 at *
    generalize upto (dstep (dstep (dstep w3))) (b + 1) = k4 at *
    generalize upto (dstep (dstep (dstep (dstep w3)))) (b + 1) = k5 at *
    have f1 : IntKind.i64.wrap (x.gas - k1) = x.gas - k1 := w64 (by omega)
    have f2 : IntKind.i64.wrap (x.wear - k2) = x.wear - k2 := w64 (by omega)
    have f3 : IntKind.i64.wrap (x.lost - k3) = x.lost - k3 := w64 (by omega)
    have f4 : IntKind.i64.wrap (x.rest - k4) = x.rest - k4 := w64 (by omega)
    have f5 : IntKind.i64.wrap (x.ba + k5) = x.ba + k5 := w64 (by omega)
    have hJx := Judge_run c hc x hx [] hls0
    have hJy := Judge_run c hc y hy [] hls0
    have s1 : (judgeV c y []).1 = 1 → (judgeV c x []).1 = 1 := stricter_sure hyx
    have s2 : (judgeV c x []).1 = 2 → (judgeV c y []).1 = 2 := stricter_never hc hls0 hyx
    simp only [go_sem, Dm.v, Dm.cs]
    refine cP hm ?_
    simp only [go_sem, wb]
    refine dD o1 ?_
    simp only [go_sem, f1, wb]
    refine dD o2 ?_
    simp only [go_sem, f2, wb]
    refine dD o3 ?_
    simp only [go_sem, f3, wb]
    refine dD o4 ?_
    simp only [go_sem, f4, wb]
    refine dD o5 ?_
    simp only [go_sem, f5]
    refine cF hJx 6 ⟨.inl (ct_frz (H := _) rfl), .inl rfl, .inr ⟨rfl, rfl⟩, trivial⟩ ?_
    simp only [go_sem]
    subst hye
    refine cF hJy 6 ⟨.inl (ct_frz (H := _) rfl), .inl rfl, .inr ⟨rfl, rfl⟩, trivial⟩ ?_
    have j1 := @judge_in c x []
    generalize (judgeV c x []).1 = va at *
    generalize hvb : (judgeV c _ []).1 = vb at *
    have j2 : vb = 1 ∨ vb = 2 ∨ vb = 3 := hvb ▸ judge_in
    clear hvb hJx hJy
    rcases j1 with rfl | rfl | rfl
    · rcases j2 with rfl | rfl | rfl <;> simp only [go_sem]
    · have := s2 rfl
      subst this
      simp only [go_sem]
    · rcases j2 with rfl | rfl | rfl
      · exact absurd (s1 rfl) (by decide)
      · simp only [go_sem]
      · simp only [go_sem]
  have hne : List.map Ht.v l ≠ [] := by simpa using hnil
  have e1 : slv 3 (List.map Ht.v l) = .sl 3 0 l.length := by unfold slv; rw [if_neg hne, List.length_map]
  have e2 : slrG true 3 (List.map Ht.v l) = [some (.cells true 3 (List.map Ht.v l))] := by unfold slrG; rw [if_neg hne]
  simp only [go_sem, e1, e2]
  refine callR2n (demandOf_run w2 c hc l hls true hnil) (j0 := 0) (j1 := 1) (j2 := 3) (by simp only [go_sem, ren, rens, nth, Ct.v, Ct.cs]; rfl) ⟨by rw [bel_ptr]; decide, by rw [ct_bel, bel_sl]; decide, by rw [bel_sl]; decide, trivial⟩ rfl rfl rfl (by simp only [go_sem]) (by simp only [go_sem]) (by rw [row_bel_cells]; simp only [go_sem]) (by decide)
    (fun a ha => ⟨by simp only [go_sem], by simp only [go_sem]⟩) (by simp) (by simp) ?_
  rintro ⟨x, w3⟩ ⟨hx, hxb⟩
  dsimp only at hx hxb
  obtain ⟨y, hy, hyx, hye⟩ := key x hx hxb w3
  have u := fun w => upto_in (w := w) (n := b + 1) (by omega)
  have uo := fun w => upto_ok w (b + 1) (by omega)
  have u1 := u w3; have u2 := u (dstep w3); have u3 := u (dstep (dstep w3)); have u4 := u (dstep (dstep (dstep w3))); have u5 := u (dstep (dstep (dstep (dstep w3))))
  have o1 := uo w3; have o2 := uo (dstep w3); have o3 := uo (dstep (dstep w3)); have o4 := uo (dstep (dstep (dstep w3))); have o5 := uo (dstep (dstep (dstep (dstep w3))))
  have x1 := hx.gas; have x2 := hx.wear; have x3 := hx.lost; have x4 := hx.rest; have x5 := hx.ba
  generalize upto w3 (b + 1) = k1 at *
  generalize upto (dstep w3) (b + 1) = k2 at *
  generalize upto (dstep (dstep w3)) (b + 1) = k3 at *
  generalize upto (dstep (dstep (dstep w3))) (b + 1) = k4 at *
  generalize upto (dstep (dstep (dstep (dstep w3)))) (b + 1) = k5 at *
  have f1 : IntKind.i64.wrap (x.gas - k1) = x.gas - k1 := w64 (by omega)
  have f2 : IntKind.i64.wrap (x.wear - k2) = x.wear - k2 := w64 (by omega)
  have f3 : IntKind.i64.wrap (x.lost - k3) = x.lost - k3 := w64 (by omega)
  have f4 : IntKind.i64.wrap (x.rest - k4) = x.rest - k4 := w64 (by omega)
  have f5 : IntKind.i64.wrap (x.ba + k5) = x.ba + k5 := w64 (by omega)
  have hJx := Judge_run c hc x hx l hls
  have hJy := Judge_run c hc y hy l hls
  have s1 : (judgeV c y l).1 = 1 → (judgeV c x l).1 = 1 := stricter_sure hyx
  have s2 : (judgeV c x l).1 = 2 → (judgeV c y l).1 = 2 := stricter_never hc hls hyx
  simp only [go_sem, Dm.v, Dm.cs]
  refine cP hm ?_
  simp only [go_sem, wb]
  refine dD o1 ?_
  simp only [go_sem, f1, wb]
  refine dD o2 ?_
  simp only [go_sem, f2, wb]
  refine dD o3 ?_
  simp only [go_sem, f3, wb]
  refine dD o4 ?_
  simp only [go_sem, f4, wb]
  refine dD o5 ?_
  simp only [go_sem, f5]
  refine cF hJx 6 ⟨.inl (ct_frz (H := _) rfl), .inl rfl, .inl (sch_frz (H := _) rfl rfl), trivial⟩ ?_
  simp only [go_sem]
  subst hye
  refine cF hJy 6 ⟨.inl (ct_frz (H := _) rfl), .inl rfl, .inl (sch_frz (H := _) rfl rfl), trivial⟩ ?_
  have j1 := @judge_in c x l
  generalize (judgeV c x l).1 = va at *
  generalize hvb : (judgeV c _ l).1 = vb at *
  have j2 : vb = 1 ∨ vb = 2 ∨ vb = 3 := hvb ▸ judge_in
  clear hvb hJx hJy
  rcases j1 with rfl | rfl | rfl
  · rcases j2 with rfl | rfl | rfl <;> simp only [go_sem]
  · have := s2 rfl
    subst this
    simp only [go_sem]
  · rcases j2 with rfl | rfl | rfl
    · exact absurd (s1 rfl) (by decide)
    · simp only [go_sem]
    · simp only [go_sem]
end Go.Proofs
