/- CathodeVerdicts. -/
import Derived.Test.YtgikocfbedopmaaYdJ
namespace Go.Proofs
open Go Go.Sx
attribute [local irreducible] Run


theorem crs_ok {c : Ct} (hc : CtOK c) {l : List Ht} (hl : LsOK l) {w : List Mx} {m : Mx} (hw : Crs c (flat l) w m) (p : Nat) (hp : p < w.length) : MxOK c w[p] := by
  have hfl := flat_len hl.all
  have hsum := hl.sum
  have hln := hw.len
  by_cases h : p < (flat l).length
  · obtain ⟨z, m1, m2, e1, e2, e3, e4, e5⟩ := hw.part p h
    have : w[p] = m1 := by
      have := List.getElem?_eq_some_iff.1 e3
      exact this.2
    rw [this]
    exact e2.ok hc fun y hy => hl.all y (flat_mem (List.mem_of_mem_take hy))
  · have hpe : p = (flat l).length := by omega
    have e := hw.last
    have : w[p] = m := by
      have := List.getElem?_eq_some_iff.1 e
      subst hpe
      exact this.2
    rw [this]
    exact hw.ok hc fun y hy => hl.all y (flat_mem hy)

set_option maxRecDepth 20000 in
set_option maxHeartbeats 8000000 in
theorem verdicts_ok (xs : List Int) (hl : xs.length ≤ 9223372036854775807) (by' : Int) : Ans Try.prog n_law03_CathodeVerdicts [.view (xs.map (.int .i64)), .int .i64 by'] [] (.bool true) [] := by
  have hst := stricter_run xs hl by'
  have hbx : Bels (fun _ => False) [AVal.view (xs.map (.int .i64)), .int .i64 by'] := ⟨by rw [bel_view]; exact bels_map _ _ fun _ => .int _ _, .int _ _, trivial⟩
  have hd := newdice_ok xs hl
  generalize seedW xs = w at *
  refine spec_run e_law03_CathodeVerdicts fun G => ?_
  simp only [go_sem]
  refine callN1 hd ⟨by rw [bel_view]; exact bels_map _ _ fun _ => .int _ _, trivial⟩ (dr_bel _ _) (by simp) (by simp) ?_
  simp only [go_sem]
  refine callDN (coatOf_run w) rfl trivial (dr_bel _ _) (fun a ha => ⟨by simp only [go_sem], by simp only [go_sem], by simp only [go_sem]⟩) (by simp) (by simp) ?_
  rintro ⟨c, w1⟩ hc
  dsimp only at hc
  simp only [go_sem, Ct.v, Ct.cs, ren, rens]
  refine callDS (scheduleOf_run w1 4 9 (by decide) (by decide)) rfl ⟨.int _ _, .int _ _, trivial⟩ (dr_bel _ _) (fun a ha => ⟨by simp only [go_sem], by simp only [go_sem]⟩) (by simp) (by simp) ?_
  rintro ⟨l, w2⟩ hl
  dsimp only at hl
  have hls := hl.ok (by decide) (by decide) (by decide)
  have hm := hc.amount
  by_cases hnil : l = []
  · have e1 : slv 3 (List.map Ht.v l) = .nilsl := by rw [hnil]; rfl
    have e2 : slrG true 3 (List.map Ht.v l) = [] := by rw [hnil]; rfl
    have hls0 : LsOK ([] : List Ht) := ⟨by simp, fun h hh => by simp at hh, by simp [lenOfL]⟩
    simp only [go_sem, e1, e2]
    refine callR1n (demandOf_nil w2 c hc) (j0 := 0) (j1 := 1) (by simp only [go_sem, ren, rens, nth, Ct.v, Ct.cs]; rfl) ⟨by rw [bel_ptr]; decide, by rw [ct_bel, bel_sl]; decide, .nilsl, trivial⟩ rfl rfl (by simp only [go_sem]) (by simp only [go_sem]) (by decide)
      (fun a ha => ⟨by simp only [go_sem], by simp only [go_sem]⟩) (by simp) (by simp) ?_
    rintro ⟨x, w3⟩ ⟨hx, hxb⟩
    dsimp only at hx hxb
    simp only [go_sem, Dm.v, Dm.cs]
    refine callR1 ((courseOf_nil w3 c).toE (Φ := fun _ : Unit => True) (r := fun _ => .sl 2 0 1) (L' := fun _ => [some (Dr (dstep w3)), some (BdR c.bands), some (.cells false 4 ([start c].map Mx.v))]) (a := ()) trivial) (j0 := 0) (j1 := 1) (by simp only [go_sem, ren, rens, nth, Ct.v, Ct.cs]; rfl) ⟨by rw [bel_ptr]; decide, by rw [ct_bel, bel_sl]; decide, .nilsl, trivial⟩ rfl rfl (by simp only [go_sem]) (by simp only [go_sem]) (by decide)
      (fun a ha => ⟨by rw [bel_sl], by simp only [go_sem], by rw [row_bel_cells]; simp only [go_sem]⟩) (by simp) (by simp) ?_
    intro _ _
    simp only [go_sem, ren]
    have hway : Crs c (flat []) [start c] (start c) := Crs.nil
    generalize hwy : [start c] = way at hway
    have hw1 : way.length = 1 := by rw [← hwy]; rfl
    have hwl := hway.len
    have hfl := flat_len (l := []) hls0.all
    have hsum := hls0.sum
    have hmx : ∀ m ∈ way, 0 ≤ m.carb ∧ m.carb ≤ 1000000 := fun m hm => by
      obtain ⟨p, hp, rfl⟩ := List.mem_iff_getElem.1 hm
      have hh := mx_bound hc (crs_ok hc hls0 hway p hp)
      omega
    have hne' := crs_ne hway
    have hx' : DmOK { x with wear := 1099511627776 } := ⟨hx.gas, by dsimp only; omega, hx.lost, hx.rest, hx.ba⟩
    have hJx := Judge_run c hc x hx [] hls0
    have hJy := Judge_run c hc _ hx' [] hls0
    have hle : DmLe x { x with wear := 1099511627776 } := ⟨Int.le_refl _, hx.wear.2, Int.le_refl _, Int.le_refl _, Int.le_refl _⟩
    have hK := kept_run { x with wear := 1099511627776 } way hne' (by omega) hmx
    have s1 : (judgeV c x []).1 = 1 → (judgeV c x []).2 = 0 := judge_tick
    have s2 : (judgeV c x []).1 = 1 → (judgeV c { x with wear := 1099511627776 } []).1 = 1 := stricter_sure hle
    have s3 : (judgeV c { x with wear := 1099511627776 } []).1 = 1 → keptL { x with wear := 1099511627776 } way = true := sure_kept hc hls0 hway
    have s4 : (judgeV c { x with wear := 1099511627776 } []).1 = 2 → keptL { x with wear := 1099511627776 } way = false := never_kept hc hls0 hway rfl
    have j1 := @judge_in c x []
    have j2 := @judge_in c { x with wear := 1099511627776 } []
    generalize judgeV c { x with wear := 1099511627776 } [] = vy at *
    generalize judgeV c x [] = vx at *
    generalize keptL { x with wear := 1099511627776 } way = is at *
    obtain ⟨v, t⟩ := vx
    obtain ⟨u, t'⟩ := vy
    dsimp only at s1 s2 s3 s4 j1 j2 hJx hJy
    refine cF hJx 6 ⟨.inl (ct_frz (H := _) rfl), .inl rfl, .inr ⟨rfl, rfl⟩, trivial⟩ ?_
    simp only [go_sem]
    refine cF hJy 6 ⟨.inl (ct_frz (H := _) rfl), .inl rfl, .inr ⟨rfl, rfl⟩, trivial⟩ ?_
    rcases j1 with rfl | rfl | rfl
    · have h1 := s1 rfl; have h2 := s2 rfl
      subst h1; subst h2
      have h3 := s3 rfl
      subst h3
      simp only [go_sem, Int.reduceBNe]
      refine cF hK 6 ⟨.inl rfl, .inl (way_frz (H := _) (by rw [← hwy]; rfl) (by rw [hw1])), trivial⟩ ?_
      simp only [go_sem, Int.reduceBNe]
      refine cP hst ?_ hbx
      simp only [go_sem]
      refine cP awake_ok ?_
      simp only [go_sem]
    · by_cases ht : t = 0
      · subst ht
        simp only [go_sem, Int.reduceBEq]
        refine cF hK 6 ⟨.inl rfl, .inl (way_frz (H := _) (by rw [← hwy]; rfl) (by rw [hw1])), trivial⟩ ?_
        rcases j2 with rfl | rfl | rfl
        · have h3 := s3 rfl
          subst h3
          simp only [go_sem, Int.reduceBNe]
          refine cP hst ?_ hbx
          simp only [go_sem]
          refine cP awake_ok ?_
          simp only [go_sem]
        · have h3 := s4 rfl
          subst h3
          simp only [go_sem, Int.reduceBNe]
          refine cP hst ?_ hbx
          simp only [go_sem]
          refine cP awake_ok ?_
          simp only [go_sem]
        · simp only [go_sem, Int.reduceBNe]
          refine cP hst ?_ hbx
          simp only [go_sem]
          refine cP awake_ok ?_
          simp only [go_sem]
      · have bt : (t == 0) = false := by simp [ht]
        simp only [go_sem, bt, Int.reduceBEq]
        refine cF hK 6 ⟨.inl rfl, .inl (way_frz (H := _) (by rw [← hwy]; rfl) (by rw [hw1])), trivial⟩ ?_
        rcases j2 with rfl | rfl | rfl
        · have h3 := s3 rfl
          subst h3
          simp only [go_sem, Int.reduceBNe]
          refine cP hst ?_ hbx
          simp only [go_sem]
          refine cP awake_ok ?_
          simp only [go_sem]
        · have h3 := s4 rfl
          subst h3
          simp only [go_sem, Int.reduceBNe]
          refine cP hst ?_ hbx
          simp only [go_sem]
          refine cP awake_ok ?_
          simp only [go_sem]
        · simp only [go_sem, Int.reduceBNe]
          refine cP hst ?_ hbx
          simp only [go_sem]
          refine cP awake_ok ?_
          simp only [go_sem]
    · by_cases ht : t = 0
      · subst ht
        simp only [go_sem, Int.reduceBNe, Int.reduceBEq]
        refine cF hK 6 ⟨.inl rfl, .inl (way_frz (H := _) (by rw [← hwy]; rfl) (by rw [hw1])), trivial⟩ ?_
        rcases j2 with rfl | rfl | rfl
        · have h3 := s3 rfl
          subst h3
          simp only [go_sem, Int.reduceBNe]
          refine cP hst ?_ hbx
          simp only [go_sem]
          refine cP awake_ok ?_
          simp only [go_sem]
        · have h3 := s4 rfl
          subst h3
          simp only [go_sem, Int.reduceBNe]
          refine cP hst ?_ hbx
          simp only [go_sem]
          refine cP awake_ok ?_
          simp only [go_sem]
        · simp only [go_sem, Int.reduceBNe]
          refine cP hst ?_ hbx
          simp only [go_sem]
          refine cP awake_ok ?_
          simp only [go_sem]
      · have bt : (t == 0) = false := by simp [ht]
        simp only [go_sem, bt, Int.reduceBEq]
        refine cF hK 6 ⟨.inl rfl, .inl (way_frz (H := _) (by rw [← hwy]; rfl) (by rw [hw1])), trivial⟩ ?_
        rcases j2 with rfl | rfl | rfl
        · have h3 := s3 rfl
          subst h3
          simp only [go_sem, Int.reduceBNe]
          refine cP hst ?_ hbx
          simp only [go_sem]
          refine cP awake_ok ?_
          simp only [go_sem]
        · have h3 := s4 rfl
          subst h3
          simp only [go_sem, Int.reduceBNe]
          refine cP hst ?_ hbx
          simp only [go_sem]
          refine cP awake_ok ?_
          simp only [go_sem]
        · simp only [go_sem, Int.reduceBNe]
          refine cP hst ?_ hbx
          simp only [go_sem]
          refine cP awake_ok ?_
          simp only [go_sem]

  have hne : List.map Ht.v l ≠ [] := by simpa using hnil
  have e1 : slv 3 (List.map Ht.v l) = .sl 3 0 l.length := by unfold slv; rw [if_neg hne, List.length_map]
  have e2 : slrG true 3 (List.map Ht.v l) = [some (.cells true 3 (List.map Ht.v l))] := by unfold slrG; rw [if_neg hne]
  simp only [go_sem, e1, e2]
  refine callR2n (demandOf_run w2 c hc l hls true hnil) (j0 := 0) (j1 := 1) (j2 := 3) (by simp only [go_sem, ren, rens, nth, Ct.v, Ct.cs]; rfl) ⟨by rw [bel_ptr]; decide, by rw [ct_bel, bel_sl]; decide, by rw [bel_sl]; decide, trivial⟩ rfl rfl rfl (by simp only [go_sem]) (by simp only [go_sem]) (by rw [row_bel_cells]; simp only [go_sem]) (by decide)
    (fun a ha => ⟨by simp only [go_sem], by simp only [go_sem]⟩) (by simp) (by simp) ?_
  rintro ⟨x, w3⟩ ⟨hx, hxb⟩
  dsimp only at hx hxb
  simp only [go_sem, Dm.v, Dm.cs]
  refine callR2 (courseOf_run w3 c hc l hls true hnil) (j0 := 0) (j1 := 1) (j2 := 3) (by simp only [go_sem, ren, rens, nth, Ct.v, Ct.cs]; rfl) ⟨by rw [bel_ptr]; decide, by rw [ct_bel, bel_sl]; decide, by rw [bel_sl]; decide, trivial⟩ rfl rfl rfl (by simp only [go_sem]) (by simp only [go_sem]) (by rw [row_bel_cells]; simp only [go_sem]) (by decide)
    (fun a ha => ⟨by rw [bel_sl], by simp only [go_sem], by rw [row_bel_cells]; simp only [go_sem]⟩) (by simp) (by simp) ?_
  rintro ⟨way, w4, wb⟩ ⟨mE, hway⟩
  dsimp only at hway
  simp only [go_sem, ren]
  have hwl := hway.len
  have hfl := flat_len (l := l) hls.all
  have hsum := hls.sum
  have hmx : ∀ m ∈ way, 0 ≤ m.carb ∧ m.carb ≤ 1000000 := fun m hm => by
    obtain ⟨p, hp, rfl⟩ := List.mem_iff_getElem.1 hm
    have hh := mx_bound hc (crs_ok hc hls hway p hp)
    omega
  have hne' := crs_ne hway
  have hx' : DmOK { x with wear := 1099511627776 } := ⟨hx.gas, by dsimp only; omega, hx.lost, hx.rest, hx.ba⟩
  have hJx := Judge_run c hc x hx l hls
  have hJy := Judge_run c hc _ hx' l hls
  have hle : DmLe x { x with wear := 1099511627776 } := ⟨Int.le_refl _, hx.wear.2, Int.le_refl _, Int.le_refl _, Int.le_refl _⟩
  have hK := kept_run { x with wear := 1099511627776 } way hne' (by omega) hmx
  have s1 : (judgeV c x l).1 = 1 → (judgeV c x l).2 = 0 := judge_tick
  have s2 : (judgeV c x l).1 = 1 → (judgeV c { x with wear := 1099511627776 } l).1 = 1 := stricter_sure hle
  have s3 : (judgeV c { x with wear := 1099511627776 } l).1 = 1 → keptL { x with wear := 1099511627776 } way = true := sure_kept hc hls hway
  have s4 : (judgeV c { x with wear := 1099511627776 } l).1 = 2 → keptL { x with wear := 1099511627776 } way = false := never_kept hc hls hway rfl
  have j1 := @judge_in c x l
  have j2 := @judge_in c { x with wear := 1099511627776 } l
  generalize judgeV c { x with wear := 1099511627776 } l = vy at *
  generalize judgeV c x l = vx at *
  generalize keptL { x with wear := 1099511627776 } way = is at *
  obtain ⟨v, t⟩ := vx
  obtain ⟨u, t'⟩ := vy
  dsimp only at s1 s2 s3 s4 j1 j2 hJx hJy
  refine cF hJx 6 ⟨.inl (ct_frz (H := _) rfl), .inl rfl, .inl (sch_frz (H := _) rfl rfl), trivial⟩ ?_
  simp only [go_sem]
  refine cF hJy 6 ⟨.inl (ct_frz (H := _) rfl), .inl rfl, .inl (sch_frz (H := _) rfl rfl), trivial⟩ ?_
  rcases j1 with rfl | rfl | rfl
  · have h1 := s1 rfl; have h2 := s2 rfl
    subst h1; subst h2
    have h3 := s3 rfl
    subst h3
    simp only [go_sem, Int.reduceBNe]
    refine cF hK 6 ⟨.inl rfl, .inl (way_frz (H := _) rfl rfl), trivial⟩ ?_
    simp only [go_sem, Int.reduceBNe]
    refine cP hst ?_ hbx
    simp only [go_sem]
    refine cP awake_ok ?_
    simp only [go_sem]
  · by_cases ht : t = 0
    · subst ht
      simp only [go_sem, Int.reduceBEq]
      refine cF hK 6 ⟨.inl rfl, .inl (way_frz (H := _) rfl rfl), trivial⟩ ?_
      rcases j2 with rfl | rfl | rfl
      · have h3 := s3 rfl
        subst h3
        simp only [go_sem, Int.reduceBNe]
        refine cP hst ?_ hbx
        simp only [go_sem]
        refine cP awake_ok ?_
        simp only [go_sem]
      · have h3 := s4 rfl
        subst h3
        simp only [go_sem, Int.reduceBNe]
        refine cP hst ?_ hbx
        simp only [go_sem]
        refine cP awake_ok ?_
        simp only [go_sem]
      · simp only [go_sem, Int.reduceBNe]
        refine cP hst ?_ hbx
        simp only [go_sem]
        refine cP awake_ok ?_
        simp only [go_sem]
    · have bt : (t == 0) = false := by simp [ht]
      simp only [go_sem, bt, Int.reduceBEq]
      refine cF hK 6 ⟨.inl rfl, .inl (way_frz (H := _) rfl rfl), trivial⟩ ?_
      rcases j2 with rfl | rfl | rfl
      · have h3 := s3 rfl
        subst h3
        simp only [go_sem, Int.reduceBNe]
        refine cP hst ?_ hbx
        simp only [go_sem]
        refine cP awake_ok ?_
        simp only [go_sem]
      · have h3 := s4 rfl
        subst h3
        simp only [go_sem, Int.reduceBNe]
        refine cP hst ?_ hbx
        simp only [go_sem]
        refine cP awake_ok ?_
        simp only [go_sem]
      · simp only [go_sem, Int.reduceBNe]
        refine cP hst ?_ hbx
        simp only [go_sem]
        refine cP awake_ok ?_
        simp only [go_sem]
  · by_cases ht : t = 0
    · subst ht
      simp only [go_sem, Int.reduceBNe, Int.reduceBEq]
      refine cF hK 6 ⟨.inl rfl, .inl (way_frz (H := _) rfl rfl), trivial⟩ ?_
      rcases j2 with rfl | rfl | rfl
      · have h3 := s3 rfl
        subst h3
        simp only [go_sem, Int.reduceBNe]
        refine cP hst ?_ hbx
        simp only [go_sem]
        refine cP awake_ok ?_
        simp only [go_sem]
      · have h3 := s4 rfl
        subst h3
        simp only [go_sem, Int.reduceBNe]
        refine cP hst ?_ hbx
        simp only [go_sem]
        refine cP awake_ok ?_
        simp only [go_sem]
      · simp only [go_sem, Int.reduceBNe]
        refine cP hst ?_ hbx
        simp only [go_sem]
        refine cP awake_ok ?_
        simp only [go_sem]
    · have bt : (t == 0) = false := by simp [ht]
      simp only [go_sem, bt, Int.reduceBEq]
      refine cF hK 6 ⟨.inl rfl, .inl (way_frz (H := _) rfl rfl), trivial⟩ ?_
      rcases j2 with rfl | rfl | rfl
      · have h3 := s3 rfl
        subst h3
        simp only [go_sem, Int.reduceBNe]
        refine cP hst ?_ hbx
        simp only [go_sem]
        refine cP awake_ok ?_
        simp only [go_sem]
      · have h3 := s4 rfl
        subst h3
        simp only [go_sem, Int.reduceBNe]
        refine cP hst ?_ hbx
        simp only [go_sem]
        refine cP awake_ok ?_
        simp only [go_sem]
      · simp only [go_sem, Int.reduceBNe]
        refine cP hst ?_ hbx
        simp only [go_sem]
        refine cP awake_ok ?_
        simp only [go_sem]

end Go.Proofs
