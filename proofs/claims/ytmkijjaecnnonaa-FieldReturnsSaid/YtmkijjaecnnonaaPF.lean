/- A part of the proof. -/
import Derived.Test.YtmkijjaecnnonaaPE
set_option linter.unusedSimpArgs false
set_option linter.unusedVariables false
namespace Go.Proofs
open Go Go.Sx
attribute [local irreducible] Run

def mirA (p : Pl) (l : List Int) : Heap := [some (.cells false 4 [p.v]), some (.cells false 4 [.agg [.int .i64 0, .int .i64 0, .bool false, .nilsl]]), some (.cells true 1 (iv l)), some (.cells false 4 [p.a (.sl 2 0 p.cs.length)])]
def mirB (p : Pl) (l f : List Int) (g : Option Row) : Heap := [some (.cells false 4 [p.v]), some (.cells false 4 [.agg [.int .i64 0, .int .i64 0, .bool false, .nilsl]]), some (.cells true 1 (iv l)), some (.cells false 4 [p.a (.sl 2 0 p.cs.length)]), g, some (.cells true 1 (iv f))]

set_option maxHeartbeats 4000000 in
set_option maxRecDepth 10000 in
theorem mirrored_ok {p : Pl} (hp : PlOK p) (r : Bool) : Ans Try.prog n_law01_mirrored [p.v, .bool r] [] (.tup [p.a (.sl 0 0 p.cs.length), .sl 1 0 p.cs.length]) [some (.cells true 1 (iv (mirL p r))), some (.cells true 1 (iv (frm p r)))] := by
  have hN : p.cs.length ≤ 256 := by
    rw [hp.len]; have := Nat.mul_le_mul hp.w.2 hp.h.2; omega
  have hN1 : 1 ≤ p.cs.length := by
    obtain ⟨i, hi, _⟩ := hp.some
    rw [hp.len]; omega
  have hw := hp.w
  have hh := hp.h
  refine Ans.keep (run_fn e_law01_mirrored fun G => ?_) (by simp) (by simp [go_sem, Pl.a, Pl.c4]) ⟨iv_row _ _ _, iv_row _ _ _, trivial⟩
  have hc := Copy_ok (p := p) (by omega) hN1
  simp only [go_sem, Pl.v, Pl.a, Pl.c4, vw]
  refine cN1 hc ?_ (hr := by simp [go_sem, Pl.a, Pl.c4]) (hx := iv_row _ _ _)
  simp only [go_sem, Pl.a, Pl.c4, ren, rens]
  have hml := mirL_len p r
  have hfl := frm_len p r
  have hm0 : p.cs = mixTo (mirL p r) p.cs 0 := by simp [mixTo]
  refine loop_ind k_law01_mirrored_r11.eq_1 (fun a : Nat × AVal × Heap => a.1 ≤ p.cs.length ∧ ((a.1 = 0 ∧ a.2.1 = .nilsl ∧ a.2.2 = mirA p (mixTo (mirL p r) p.cs a.1)) ∨ (1 ≤ a.1 ∧ a.2.1 = .sl 5 0 a.1 ∧ ∃ g X, a.2.2 = mirB p (mixTo (mirL p r) p.cs a.1) ((frm p r).take a.1) g ++ X))) (fun a => p.cs.length - a.1)
    (fun a => (tsets 70 [(1, .bool r), (2, .ptr 0 0 0 1), (4, .ptr 1 0 0 1), (6, .ptr 3 0 0 1), (7, a.2.1), (8, .int .i64 a.1)], a.2.2)) (0, .nilsl, mirA p (mixTo (mirL p r) p.cs 0)) ⟨Nat.zero_le _, .inl ⟨rfl, rfl, rfl⟩⟩ (by simp [go_sem]) (by rw [← hm0]; rfl) ?_
  rintro ⟨i, t7, H⟩ ⟨hi, hH⟩ ih
  dsimp only at hi hH ih ⊢
  by_cases h1 : i < p.cs.length
  · have h2 : (i : Int) < p.cs.length := by omega
    have h3 := idx_next h1 (by omega)
    have n0 : ¬ (i : Int) < 0 := by omega
    have hiN : i < p.w * p.h := by rw [← hp.len]; exact h1
    have hk := mir_lt p r hiN
    rw [← hp.len] at hk
    obtain ⟨c1, c2, c3⟩ := cell_lt hiN
    have f1 := mix_len (a := mirL p r) (b := p.cs) hml (i := i) (by omega)
    rw [hml] at f1
    have s1 := mix_set (a := mirL p r) (b := p.cs) hml (i := i) (by omega)
    rw [gt_mirL p r h1] at s1
    have hT : (frm p r).take (i + 1) = (frm p r).take i ++ [(mir p r i : Int)] := by
      rw [List.take_add_one, gt_get (by omega), gt_frm p r h1]; rfl
    have hTl : ((frm p r).take i).length = i := by simp; omega
    have gk := gt_get hk
    have gi : (iv (mixTo (mirL p r) p.cs i))[i]? = some (.int .i64 (gt (mixTo (mirL p r) p.cs i) i)) := iv_get (by omega)
    have hmd : mir p r i = if r then (p.h - 1 - i / p.w) * p.w + i % p.w else i / p.w * p.w + (p.w - 1 - i % p.w) := rfl
    have e1 := nat_rem i p.w
    have e2 := nat_quo i p.w
    have wne : ¬ (p.w : Int) = 0 := by omega
    generalize mir p r i = k at *
    generalize hx0 : i % p.w = x0 at *
    generalize hy0 : i / p.w = y0 at *
    have w1 : IntKind.i64.wrap (p.w - 1) = p.w - 1 := w64 (by omega)
    have w2 : IntKind.i64.wrap (p.h - 1) = p.h - 1 := w64 (by omega)
    have w3 : IntKind.i64.wrap ((x0 : Nat) : Int) = x0 := w64 (by omega)
    have w4 : IntKind.i64.wrap ((y0 : Nat) : Int) = y0 := w64 (by omega)
    have w5 : IntKind.i64.wrap ((p.w : Int) - 1 - x0) = ((p.w - 1 - x0 : Nat) : Int) := by rw [w64 (by omega)]; omega
    have w6 : IntKind.i64.wrap ((p.h : Int) - 1 - y0) = ((p.h - 1 - y0 : Nat) : Int) := by rw [w64 (by omega)]; omega
    have hg2 : ∀ Y : Nat, Y < p.h → IntKind.i64.wrap ((Y : Int) * p.w) = ((Y * p.w : Nat) : Int) := fun Y hY => by
      have : Y * p.w ≤ 16 * 16 := Nat.mul_le_mul (by omega) hw.2
      rw [w64 (by push_cast at *; omega)]; push_cast; rfl
    have w7 := hg2 y0 c2
    have w8 := hg2 (p.h - 1 - y0) (by omega)
    have hk64 : IntKind.i64.wrap ((k : Nat) : Int) = k := w64 (by omega)
    have nk : ¬ (k : Int) < 0 := by omega
    have hkN : (k : Int) < p.cs.length := by omega
    have ihn := fun t7' H' => ih (i + 1, t7', H') (by dsimp only; omega)
    clear ih
    rcases hH with ⟨hi0, rfl, rfl⟩ | ⟨hi1, rfl, g, X, rfl⟩
    · have hT0 : (frm p r).take i = [] := by rw [hi0]; rfl
      rw [hT0, List.nil_append] at hT
      have hk1 : iv [(k : Int)] = [.int .i64 k] := rfl
      simp only [hT, mirB, hk1] at ihn
      simp only [hi0] at hTl
      cases r with
      | true =>
        rw [if_pos rfl] at hmd
        have w9 : IntKind.i64.wrap (((p.h - 1 - y0) * p.w : Nat) + (x0 : Int)) = k := by rw [w64 (by omega)]; omega
        simp only [mirA]
        simp only [go_sem, Pl.v, Pl.a, Pl.c4, vw, List.length_map, h2, e1, e2, wne, w1, w2, w3, w4, w5, w6, w7, w8, w9, gk, nk, hkN, n0, iv_len, f1, gi, iv_set, s1, h3, hTl, iv_app]
        refine ⟨by decide, ?_⟩
        have q := fun g X ρ' => ihn _ _ ⟨h1, .inr ⟨by omega, rfl, g, X, rfl⟩⟩ ρ'
        exact q _ [] _ (by simp [go_sem, hi0])
      | false =>
        simp only [Bool.false_eq_true, if_false] at hmd
        have w9 : IntKind.i64.wrap ((y0 * p.w : Nat) + ((p.w - 1 - x0 : Nat) : Int)) = k := by rw [w64 (by omega)]; omega
        simp only [mirA]
        simp only [go_sem, Pl.v, Pl.a, Pl.c4, vw, List.length_map, h2, e1, e2, wne, w1, w2, w3, w4, w5, w6, w7, w8, w9, gk, nk, hkN, n0, iv_len, f1, gi, iv_set, s1, h3, hTl, iv_app]
        refine ⟨by decide, ?_⟩
        have q := fun g X ρ' => ihn _ _ ⟨h1, .inr ⟨by omega, rfl, g, X, rfl⟩⟩ ρ'
        exact q _ [] _ (by simp [go_sem, hi0])
    · simp only [hT, mirB, List.cons_append, List.nil_append] at ihn
      cases r with
      | true =>
        rw [if_pos rfl] at hmd
        have w9 : IntKind.i64.wrap (((p.h - 1 - y0) * p.w : Nat) + (x0 : Int)) = k := by rw [w64 (by omega)]; omega
        simp only [mirB, List.cons_append, List.nil_append]
        simp only [go_sem, Pl.v, Pl.a, Pl.c4, vw, List.length_map, h2, e1, e2, wne, w1, w2, w3, w4, w5, w6, w7, w8, w9, gk, nk, hkN, n0, iv_len, f1, gi, iv_set, s1, h3, hTl, iv_app]
        refine ⟨by omega, ?_⟩
        have q := fun g X ρ' => ihn _ _ ⟨h1, .inr ⟨by omega, rfl, g, X, rfl⟩⟩ ρ'
        exact q _ _ _ (by simp [go_sem])
      | false =>
        simp only [Bool.false_eq_true, if_false] at hmd
        have w9 : IntKind.i64.wrap ((y0 * p.w : Nat) + ((p.w - 1 - x0 : Nat) : Int)) = k := by rw [w64 (by omega)]; omega
        simp only [mirB, List.cons_append, List.nil_append]
        simp only [go_sem, Pl.v, Pl.a, Pl.c4, vw, List.length_map, h2, e1, e2, wne, w1, w2, w3, w4, w5, w6, w7, w8, w9, gk, nk, hkN, n0, iv_len, f1, gi, iv_set, s1, h3, hTl, iv_app]
        refine ⟨by omega, ?_⟩
        have q := fun g X ρ' => ihn _ _ ⟨h1, .inr ⟨by omega, rfl, g, X, rfl⟩⟩ ρ'
        exact q _ _ _ (by simp [go_sem])
  · have h2 : ¬ (i : Int) < p.cs.length := by omega
    have hie : i = p.cs.length := by omega
    rcases hH with ⟨hi0, rfl, rfl⟩ | ⟨hi1, rfl, g, X, rfl⟩
    · omega
    have hf1 : mixTo (mirL p r) p.cs i = mirL p r := by have := mix_end hml; rwa [hml, ← hie] at this
    have hf2 : (frm p r).take i = frm p r := List.take_of_length_le (by omega)
    rw [hf1, hf2]
    clear ih
    simp only [mirB, List.cons_append, List.nil_append, go_sem, Pl.v, Pl.a, Pl.c4, vw, List.length_map, h2]
    rw [hie]
    exact kept_pair 2 5 (by omega) (by simp [ren, rens]) (iv_row _ _ _) (iv_row _ _ _) rfl rfl

theorem mxL_or : ∀ (l : List Int) (a : Int), mxL a l = a ∨ mxL a l ∈ l
  | [], _ => .inl rfl
  | c :: l, a => by
    rw [mxL]
    rcases mxL_or l (if a < c then c else a) with h | h
    · rw [h]; split
      · exact .inr (by simp)
      · exact .inl rfl
    · exact .inr (by simp [h])
theorem gmax_mirror {p : Pl} (hp : PlOK p) (r : Bool) : gmax (p.mirror r).cs = gmax p.cs := by
  have h1 := hp.max
  have h2 := (mirror_ok hp r).max
  have sub1 : ∀ c ∈ (p.mirror r).cs, c ∈ p.cs := fun c hc => by
    obtain ⟨i, hi, rfl⟩ := mem_gt (l := mirL p r) hc
    rw [mirL_len] at hi
    rw [gt_mirL p r hi]
    exact hp.mem (mir_lt p r (by rw [← hp.len]; exact hi))
  have sub2 : ∀ c ∈ p.cs, c ∈ (p.mirror r).cs := fun c hc => by
    obtain ⟨i, hi, rfl⟩ := mem_gt hc
    rw [hp.len] at hi
    rw [← mirror_el hp r hi]
    exact gt_mem (by show _ < (mirL p r).length; rw [mirL_len, hp.len]; exact mir_lt p r hi)
  have k1 : gmax p.cs ∈ p.cs := by
    rcases mxL_or p.cs 0 with h | h
    · have : gmax p.cs = 0 := h
      omega
    · exact h
  have k2 : gmax (p.mirror r).cs ∈ (p.mirror r).cs := by
    rcases mxL_or (p.mirror r).cs 0 with h | h
    · have : gmax (p.mirror r).cs = 0 := h
      omega
    · exact h
  have := h1.2.2 _ (sub1 _ k2)
  have := h2.2.2 _ (sub2 _ k1)
  omega

set_option maxHeartbeats 8000000 in
set_option maxRecDepth 10000 in
theorem mirrors_law (zs : List Int) (hl : zs.length ≤ 9223372036854775807) (a1 : Int) (a2 : Bool) : Ans Try.prog n_law01_FieldMirrors [.view (zs.map (.int .i64)), .int .i64 a1, .bool a2] [] (.bool true) [] := by
  have m1 := mod_in a1 41 (by omega)
  have e1 := mod_pos a1 41 (by omega)
  generalize a1 % 41 = n1 at *
  obtain ⟨n, rfl⟩ : ∃ n : Nat, n1 = n := ⟨n1.toNat, by omega⟩
  refine spec_run e_law01_FieldMirrors fun G => ?_
  simp only [go_sem]
  refine callN1 (newdice_ok zs hl) (by simp only [go_sem]) (dr_bel _ _) (by simp) (by simp) ?_
  generalize seedW zs = w
  simp only [go_sem]
  refine callDN (PlanOf_ok w 8 6 (by omega) (by omega)) rfl (by simp only [go_sem]) (dr_bel _ _) (fun q hq => ⟨pla_bel _ _ _ _ rfl, dr_bel _ _, iv_row _ _ _⟩) (by simp) (by simp) ?_
  rintro ⟨w1, p⟩ hp
  dsimp only at hp ⊢
  have hpo := hp.ok
  have hpl : p.cs.length ≤ 1000000 := by
    rw [hpo.len]; have := Nat.mul_le_mul hpo.w.2 hpo.h.2; omega
  have hmx := hpo.max
  simp only [go_sem, Pl.a, Pl.c4, ren, rens]
  refine callR1 (VoltsOf_ok w1 hpl (by omega) true) (j0 := 0) (j1 := 1) rfl (by simp [go_sem, Pl.a, Pl.c4]) rfl rfl (dr_bel _ _) (iv_row _ _ _) (by decide) (fun q hq => ⟨by simp [go_sem], dr_bel _ _, iv_row _ _ _⟩) (by simp) (by simp) ?_
  rintro ⟨w2, v⟩ hvv
  dsimp only at hvv ⊢
  have hv := hvv.2
  have hvl := hvv.len hp
  simp only [go_sem, ren, rens]
  obtain ⟨r, hr, hrr⟩ : ∃ r : Bool, (r = true ∨ p.rd = false) ∧ r = (a2 || p.rd) := ⟨a2 || p.rd, by cases a2 <;> cases p.rd <;> simp, rfl⟩
  have hm := mirrored_ok hpo r
  have hpick : (if a2 = true then AVal.bool true else AVal.bool p.rd) = .bool r := by cases a2 <;> simp [hrr]
  have s1 := Solve_ok hpo hv hvl (n := n) (by omega)
  have s2 := Solve_ok (mirror_ok hpo r) hv (by rw [gmax_mirror hpo r]; exact hvl) (n := n) (by omega)
  have hql : (p.mirror r).cs.length = p.cs.length := mirL_len p r
  have hfl := frm_len p r
  rw [hql] at s2
  have meet := fun j (hj : j < p.w * p.h) => mirrors_meet hpo hr v (cnt p v n) (cnt (p.mirror r) v n) hj
  have L1 := (low_ok hpo v (cnt p v n)).len; have L2 := (high_ok hpo v (cnt p v n)).len
  have L3 := (low_ok (mirror_ok hpo r) v (cnt (p.mirror r) v n)).len; have L4 := (high_ok (mirror_ok hpo r) v (cnt (p.mirror r) v n)).len
  have eN : (p.mirror r).w * (p.mirror r).h = p.w * p.h := rfl
  rw [eN] at L3 L4
  rw [← hpo.len] at L1 L2 L3 L4
  cases a2 with
  | true =>
    simp only [Bool.true_or] at hrr
    subst hrr
    simp only [go_sem, Pl.a, Pl.c4]
    refine cFN2 hm 6 ⟨.inl (pla_frz 3 (j := 1) (g := true) rfl rfl), .inl rfl, trivial⟩ ?_ (by simp [go_sem, Pl.a, Pl.c4]) (by simp only [go_sem, Pl.a, Pl.c4]) (iv_row _ _ _) (iv_nv _ _) (iv_row _ _ _) (iv_nv _ _)
    simp only [go_sem, ren, rens, Pl.a, Pl.c4]
    refine cP e1 ?_
    simp only [go_sem]
    refine cFN2 s1 6 ⟨.inl (pla_frz 3 (j := 1) (g := true) rfl rfl), .inl (iv_frz_sl (d := 4) (j := 3) (g := false) rfl rfl), .inl rfl, trivial⟩ ?_ (by simp [go_sem, fldV]) (by simp only [go_sem, fldV]) (iv_row _ _ _) (iv_nv _ _) (iv_row _ _ _) (iv_nv _ _)
    simp only [go_sem, ren, rens, fldV, Pl.a, Pl.c4]
    refine cFN2 s2 6 ⟨.inl (pla_frz 3 (p := p.mirror true) (j := 4) (g := true) rfl hql.symm), .inl (iv_frz_sl (d := 4) (j := 3) (g := false) rfl rfl), .inl rfl, trivial⟩ ?_ (by simp [go_sem, fldV]) (by simp only [go_sem, fldV]) (iv_row _ _ _) (iv_nv _ _) (iv_row _ _ _) (iv_nv _ _)
    clear s1 s2
    generalize lowB p v (cnt p v n) = la at *
    generalize highB p v (cnt p v n) = ha at *
    generalize lowB (p.mirror true) v (cnt (p.mirror true) v n) = lb at *
    generalize highB (p.mirror true) v (cnt (p.mirror true) v n) = hb at *
    generalize stl p v (cnt p v n) = t1 at *
    generalize cnt p v n = c1 at *
    generalize stl (p.mirror true) v (cnt (p.mirror true) v n) = t2 at *
    generalize cnt (p.mirror true) v n = c2 at *
    simp only [go_sem, ren, rens, fldV, Pl.a, Pl.c4, bne_self_eq_false, iv_len, L1, L2, L3, L4]
    refine loop_ind k_law01_FieldMirrors_r15.eq_1 (fun a : Nat => a ≤ p.cs.length) (fun a => p.cs.length - a)
      (fun a => (tsets 130 [(11, .sl 5 0 p.cs.length), (13, .ptr 9 0 0 1), (15, .ptr 12 0 0 1), (17, .int .i64 a)],
        [some (Dr w2), some (.cells true 1 (iv p.cs)), some (.cells false 4 [p.a (.sl 1 0 p.cs.length)]), some (.cells false 1 (iv v)), some (.cells true 1 (iv (mirL p true))), some (.cells true 1 (iv (frm p true))), some (.cells false 4 [p.a (.sl 4 0 p.cs.length)]),
         some (.cells false 1 (iv la)), some (.cells false 1 (iv ha)), some (.cells false 4 [fldV p.cs.length c1 t1 7 8]),
         some (.cells false 1 (iv lb)), some (.cells false 1 (iv hb)), some (.cells false 4 [fldV p.cs.length c2 t2 10 11])])) 0 (Nat.zero_le _) (by simp [go_sem]) rfl ?_
    intro j hj ih
    dsimp only at hj ih ⊢
    by_cases h4 : j < p.cs.length
    · have h5 : (j : Int) < p.cs.length := by omega
      have h6 := idx_next h4 (by omega)
      have n0 : ¬ (j : Int) < 0 := by omega
      have hjN : j < p.w * p.h := by rw [← hpo.len]; exact h4
      have hk := mir_lt p true hjN
      rw [← hpo.len] at hk
      have gF := iv_get (l := frm p true) (i := j) (by omega)
      rw [gt_frm p true h4] at gF
      have q5 := meet j hjN
      generalize mir p true j = k at *
      have nk : ¬ (k : Int) < 0 := by omega
      have hkN : (k : Int) < p.cs.length := by omega
      have ga := iv_get (l := la) (i := k) (by omega)
      have gb := iv_get (l := ha) (i := k) (by omega)
      have gc := iv_get (l := lb) (i := j) (by omega)
      have gd := iv_get (l := hb) (i := j) (by omega)
      generalize gt la k = y1 at *
      generalize gt ha k = y2 at *
      generalize gt lb j = y3 at *
      generalize gt hb j = y4 at *
      have r3 : ¬ y4 < y1 := by omega
      have r4 : ¬ y2 < y3 := by omega
      simp only [go_sem, fldV, Pl.a, Pl.c4, iv_len, h5, n0, nk, hkN, gF, ga, gb, gc, gd, r3, r4, L1, L2, L3, L4, hfl, h6]
      exact ih (j + 1) (by omega) h4 _ (by simp [go_sem])
    · have h5 : ¬ (j : Int) < p.cs.length := by omega
      simp only [go_sem, fldV, Pl.a, Pl.c4, iv_len, hfl, h5]
      refine cP awake_ok ?_
      simp only [go_sem]
  | false =>
    simp only [Bool.false_or] at hrr
    subst hrr
    clear hpick
    simp only [go_sem, Pl.a, Pl.c4]
    refine cFN2 hm 6 ⟨.inl (pla_frz 3 (j := 1) (g := true) rfl rfl), .inl rfl, trivial⟩ ?_ (by simp [go_sem, Pl.a, Pl.c4]) (by simp only [go_sem, Pl.a, Pl.c4]) (iv_row _ _ _) (iv_nv _ _) (iv_row _ _ _) (iv_nv _ _)
    simp only [go_sem, ren, rens, Pl.a, Pl.c4]
    refine cP e1 ?_
    simp only [go_sem]
    refine cFN2 s1 6 ⟨.inl (pla_frz 3 (j := 1) (g := true) rfl rfl), .inl (iv_frz_sl (d := 4) (j := 3) (g := false) rfl rfl), .inl rfl, trivial⟩ ?_ (by simp [go_sem, fldV]) (by simp only [go_sem, fldV]) (iv_row _ _ _) (iv_nv _ _) (iv_row _ _ _) (iv_nv _ _)
    simp only [go_sem, ren, rens, fldV, Pl.a, Pl.c4]
    refine cFN2 s2 6 ⟨.inl (pla_frz 3 (p := p.mirror p.rd) (j := 4) (g := true) rfl hql.symm), .inl (iv_frz_sl (d := 4) (j := 3) (g := false) rfl rfl), .inl rfl, trivial⟩ ?_ (by simp [go_sem, fldV]) (by simp only [go_sem, fldV]) (iv_row _ _ _) (iv_nv _ _) (iv_row _ _ _) (iv_nv _ _)
    clear s1 s2
    generalize lowB p v (cnt p v n) = la at *
    generalize highB p v (cnt p v n) = ha at *
    generalize lowB (p.mirror p.rd) v (cnt (p.mirror p.rd) v n) = lb at *
    generalize highB (p.mirror p.rd) v (cnt (p.mirror p.rd) v n) = hb at *
    generalize stl p v (cnt p v n) = t1 at *
    generalize cnt p v n = c1 at *
    generalize stl (p.mirror p.rd) v (cnt (p.mirror p.rd) v n) = t2 at *
    generalize cnt (p.mirror p.rd) v n = c2 at *
    simp only [go_sem, ren, rens, fldV, Pl.a, Pl.c4, bne_self_eq_false, iv_len, L1, L2, L3, L4]
    refine loop_ind k_law01_FieldMirrors_r15.eq_1 (fun a : Nat => a ≤ p.cs.length) (fun a => p.cs.length - a)
      (fun a => (tsets 130 [(11, .sl 5 0 p.cs.length), (13, .ptr 9 0 0 1), (15, .ptr 12 0 0 1), (17, .int .i64 a)],
        [some (Dr w2), some (.cells true 1 (iv p.cs)), some (.cells false 4 [p.a (.sl 1 0 p.cs.length)]), some (.cells false 1 (iv v)), some (.cells true 1 (iv (mirL p p.rd))), some (.cells true 1 (iv (frm p p.rd))), some (.cells false 4 [p.a (.sl 4 0 p.cs.length)]),
         some (.cells false 1 (iv la)), some (.cells false 1 (iv ha)), some (.cells false 4 [fldV p.cs.length c1 t1 7 8]),
         some (.cells false 1 (iv lb)), some (.cells false 1 (iv hb)), some (.cells false 4 [fldV p.cs.length c2 t2 10 11])])) 0 (Nat.zero_le _) (by simp [go_sem]) rfl ?_
    intro j hj ih
    dsimp only at hj ih ⊢
    by_cases h4 : j < p.cs.length
    · have h5 : (j : Int) < p.cs.length := by omega
      have h6 := idx_next h4 (by omega)
      have n0 : ¬ (j : Int) < 0 := by omega
      have hjN : j < p.w * p.h := by rw [← hpo.len]; exact h4
      have hk := mir_lt p p.rd hjN
      rw [← hpo.len] at hk
      have gF := iv_get (l := frm p p.rd) (i := j) (by omega)
      rw [gt_frm p p.rd h4] at gF
      have q5 := meet j hjN
      generalize mir p p.rd j = k at *
      have nk : ¬ (k : Int) < 0 := by omega
      have hkN : (k : Int) < p.cs.length := by omega
      have ga := iv_get (l := la) (i := k) (by omega)
      have gb := iv_get (l := ha) (i := k) (by omega)
      have gc := iv_get (l := lb) (i := j) (by omega)
      have gd := iv_get (l := hb) (i := j) (by omega)
      generalize gt la k = y1 at *
      generalize gt ha k = y2 at *
      generalize gt lb j = y3 at *
      generalize gt hb j = y4 at *
      have r3 : ¬ y4 < y1 := by omega
      have r4 : ¬ y2 < y3 := by omega
      simp only [go_sem, fldV, Pl.a, Pl.c4, iv_len, h5, n0, nk, hkN, gF, ga, gb, gc, gd, r3, r4, L1, L2, L3, L4, hfl, h6]
      exact ih (j + 1) (by omega) h4 _ (by simp [go_sem])
    · have h5 : ¬ (j : Int) < p.cs.length := by omega
      simp only [go_sem, fldV, Pl.a, Pl.c4, iv_len, hfl, h5]
      refine cP awake_ok ?_
      simp only [go_sem]
end Go.Proofs
namespace Go.Proofs
open Go Go.Sx
attribute [local irreducible] Run

/-- What a cell adds to the charge of an electrode. -/
def chC (p : Pl) (a : List Int) (e : Int) (i : Nat) : Nat → Int := fun n => if gt p.cs n = e then 0 else gt a i - gt a n
def chTo (p : Pl) (a : List Int) (e : Int) : Nat → Int
  | 0 => 0
  | i + 1 => chTo p a e i + if gt p.cs i = e then wsum (nbs p i) (chC p a e i) else 0
def chg (p : Pl) (a : List Int) (e : Int) : Int := chTo p a e (p.w * p.h)
theorem chC_bd {p : Pl} {a : List Int} (ha : AtOK p a) (e : Int) {i n : Nat} (hi : i < p.w * p.h) (hn : n < p.w * p.h) : -2000000 ≤ chC p a e i n ∧ chC p a e i n ≤ 2000000 := by
  have h1 := ha.bd i hi
  have h2 := ha.bd n hn
  unfold chC; split <;> omega
theorem chS_bd {p : Pl} (hp : PlOK p) {a : List Int} (ha : AtOK p a) (e : Int) {i : Nat} (hi : i < p.w * p.h) (k : Nat) : -256000000 ≤ wsum ((nbs p i).take k) (chC p a e i) ∧ wsum ((nbs p i).take k) (chC p a e i) ≤ 256000000 := by
  have hN := nbs_in p hp.w.2 hi
  have hl := nbs_len p i
  have h1 := wtot_bd (l := (nbs p i).take k) fun q hq => ⟨(hN q (List.mem_of_mem_take hq)).2.1, (hN q (List.mem_of_mem_take hq)).2.2.1⟩
  have h2 := wsum_in (l := (nbs p i).take k) (f := chC p a e i) (a := -2000000) (b := 2000000) fun q hq => by
    obtain ⟨k1, k2, _⟩ := hN q (List.mem_of_mem_take hq)
    exact ⟨by omega, chC_bd ha e hi k1⟩
  have h3 : ((nbs p i).take k).length ≤ 4 := by rw [List.length_take]; omega
  omega
theorem chTo_bd {p : Pl} (hp : PlOK p) {a : List Int} (ha : AtOK p a) (e : Int) : ∀ i, i ≤ p.w * p.h → -256000000 * (i : Int) ≤ chTo p a e i ∧ chTo p a e i ≤ 256000000 * (i : Int)
  | 0, _ => by simp [chTo]
  | i + 1, h => by
    have ih := chTo_bd hp ha e i (by omega)
    have h1 := chS_bd hp ha e (show i < p.w * p.h by omega) (nbs p i).length
    rw [List.take_length] at h1
    rw [chTo]
    push_cast
    split <;> omega

theorem freed_get : ∀ (ms : List Nat) (H : Heap) {j : Nat}, (∀ q ∈ ms, q ≠ j) → (freed H ms)[j]? = H[j]?
  | [], _, _, _ => rfl
  | m :: ms, H, j, h => by
    rw [freed, freed_get ms _ fun q hq => h q (by simp [hq]), List.getElem?_set_ne (h m (by simp))]
/-- The first rows of 'charge'. -/
def chF (p : Pl) (f : AVal) (e lo hi : Int) : Heap :=
  [some (.cells false 4 [p.v]), some (.cells false 4 [f]), some (.cells false 1 [.int .i64 e]), some (.cells false 2 [.agg [.int .i64 0, .int .i64 0]]), some (.cells false 2 [.agg [.int .i64 lo, .int .i64 hi]])]
def chH (p : Pl) (f : AVal) (e lo hi : Int) (X T Y : Heap) : Heap := chF p f e lo hi ++ (X ++ (T ++ Y))
theorem chH_get (p : Pl) (f : AVal) (e lo hi : Int) (X T Y : Heap) {j : Nat} (hj : j < T.length) : (chH p f e lo hi X T Y)[X.length + 5 + j]? = T[j]? := by
  unfold chH
  rw [List.getElem?_append_right (by simp [chF]; omega), List.getElem?_append_right (by simp [chF]; omega), List.getElem?_append_left (by simp [chF]; omega)]
  congr 1
  simp [chF]; omega
theorem chH_old (p : Pl) (f : AVal) (e lo hi : Int) (X T Y : Heap) {k : Nat} (hk : k < X.length) : (chH p f e lo hi X T Y)[k + 5]? = X[k]? := by
  unfold chH
  rw [List.getElem?_append_right (by simp [chF]), List.getElem?_append_left (by simp [chF]; exact hk)]
  congr 1
theorem chH_set (p : Pl) (f : AVal) (e lo hi : Int) (a0 a b c d : Option Row) (X Y : Heap) (y : Option Row) : (chH p f e lo hi X [a0, a, b, c, d] Y).set (X.length + 9) y = chH p f e lo hi X [a0, a, b, c, y] Y := by
  unfold chH
  rw [List.set_append_right _ _ (by simp [chF]), List.set_append_right _ _ (by simp [chF]), List.set_append_left _ _ (by simp [chF])]
  have e : X.length + 9 - (chF p f e lo hi).length - X.length = 4 := by simp only [chF, List.length_cons, List.length_nil]; omega
  rw [e]; rfl
theorem chH_put (p : Pl) (f : AVal) (e lo hi : Int) (a0 a b c d : Option Row) (X Y : Heap) (y : Row) : Heap.put (chH p f e lo hi X [a0, a, b, c, d] Y) (X.length + 9) y = chH p f e lo hi X [a0, a, b, c, some y] Y := by
  rw [put_lt (by simp [chH, chF]; omega)]
  exact chH_set _ _ _ _ _ _ _ _ _ _ _ _ _
theorem chH_len (p : Pl) (f : AVal) (e lo hi : Int) (X T Y : Heap) : (chH p f e lo hi X T Y).length = X.length + T.length + Y.length + 5 := by
  simp [chH, chF]; omega
def chT (p : Pl) (n m : Nat) : List (Nat × AVal) := [(3, .ptr 0 0 0 1), (4, .ptr 1 0 0 1), (5, .ptr 2 0 0 1), (6, .ptr 3 0 0 1), (7, .ptr 4 0 0 1), (8, .ptr (m + 5) 0 0 1), (13, vw p.cs), (14, .int .i64 p.cs.length), (15, .int .i64 n), (25, .fn (.func n_field_neighbours_1) [] [.ptr (m + 7) 0 0 1, .ptr (m + 6) 0 0 1])]
def chL (p : Pl) (n m : Nat) (st : LoopState) (pe : Option ACode) : Row := .loop (tsets 71 (chT p n m)) [26, 27] k_field_charge_r12 k_field_charge_r13 (m + 8) st pe
def chR (p : Pl) (n m : Nat) (st : LoopState) : Heap := [some (.cells false 1 [.int .i64 n]), some (.cells false 4 [p.v]), some (.cells false 1 [.int .i64 n]), some .dfr, some (chL p n m st none)]

set_option maxHeartbeats 4000000 in
set_option maxRecDepth 8000 in
theorem charge_ok {p : Pl} (hp : PlOK p) {la ha : List Int} (hla : AtOK p la) (hha : AtOK p ha) (s : Nat) (t : Bool) (e : Int) : Ans Try.prog n_field_charge [p.v, fldW la ha s t, .int .i64 e] [] (Rg.v ⟨chg p ha e, chg p la e⟩) [] := by
  have hw := hp.w; have hh := hp.h
  have hN : p.w * p.h ≤ 256 := Nat.mul_le_mul hw.2 hh.2
  have hlen := hp.len
  refine spec_run e_field_charge fun G => ?_
  simp only [go_sem, Pl.v, Pl.a, Pl.c4, vw, fldW, List.length_map]
  refine loop_indM k_field_charge_r15.eq_1 (fun a : Nat × Heap × List Nat => a.1 ≤ p.cs.length ∧ a.2.2.Nodup ∧ ∀ q ∈ a.2.2, ∃ k, q = k + 5 ∧ a.2.1[k]? = some (some .dfr)) (fun a => p.cs.length - a.1)
    (fun a => (tsets 71 [(3, .ptr 0 0 0 1), (4, .ptr 1 0 0 1), (5, .ptr 2 0 0 1), (6, .ptr 3 0 0 1), (7, .ptr 4 0 0 1), (13, vw p.cs), (14, .int .i64 p.cs.length), (15, .int .i64 a.1)], chF p (fldW la ha s t) e (chTo p ha e a.1) (chTo p la e a.1) ++ a.2.1, a.2.2)) (0, [], []) ⟨Nat.zero_le _, List.nodup_nil, fun q hq => by simp at hq⟩ (by simp [go_sem, vw]) rfl rfl ?_
  rintro ⟨n, X, ms⟩ ⟨hn, hms1, hms2⟩ ih
  dsimp only at hn hms1 hms2 ih ⊢
  by_cases h1 : n < p.cs.length
  · have h2 : (n : Int) < p.cs.length := by omega
    have h3 := idx_next h1 (by omega)
    have n0 : ¬ (n : Int) < 0 := by omega
    have hnN : n < p.w * p.h := by rw [← hlen]; exact h1
    have hx := gt_get h1
    have b1 := chTo_bd hp hla e (n + 1) hnN
    have b2 := chTo_bd hp hha e (n + 1) hnN
    simp only [chTo] at b1 b2
    by_cases he : gt p.cs n = e
    · have he' : (gt p.cs n != e) = false := by simp [he]
      have hchT : chTo p la e (n + 1) = chTo p la e n + wsum (nbs p n) (chC p la e n) := by rw [chTo, if_pos he]
      have hchU : chTo p ha e (n + 1) = chTo p ha e n + wsum (nbs p n) (chC p ha e n) := by rw [chTo, if_pos he]
      have c1 := chTo_bd hp hla e n (by omega)
      have c2 := chTo_bd hp hha e n (by omega)
      have hdf : ∀ (L : Heap), ∀ q ∈ ms, (chF p (fldW la ha s t) e (chTo p ha e n) (chTo p la e n) ++ (X ++ L))[q]? = some (some .dfr) := fun L q hq => by
        obtain ⟨k, rfl, hk⟩ := hms2 q hq
        have hkl := (List.getElem?_eq_some_iff.1 hk).1
        have := chH_old p (fldW la ha s t) e (chTo p ha e n) (chTo p la e n) X [] L hkl
        unfold chH at this
        rw [List.nil_append] at this
        rw [this]; exact hk
      generalize chTo p la e n = ch0 at *
      generalize chTo p ha e n = cl0 at *
      simp only [chF, List.cons_append, List.nil_append]
      generalize hz : gt p.cs n = z at *
      simp only [go_sem, Pl.v, Pl.a, Pl.c4, vw, fldW, List.length_map, h2, n0, hx, he']
      refine cN2 (neighbours_ok p n) ?_ (hms := ?_)
      · simp only [go_sem, ren, rens]
        have hl : (chF p (fldW la ha s t) e cl0 ch0 ++ (X ++ [some (Row.cells false 1 [.int .i64 (n : Int)]), some (Row.cells false 4 [p.v]), some (Row.cells false 1 [.int .i64 (n : Int)])])).length = X.length + 8 := by simp [chF]
        show Mean Try.prog G 0 none _ _ ⟨_, chF p (fldW la ha s t) e cl0 ch0 ++ (X ++ [some (Row.cells false 1 [.int .i64 (n : Int)]), some (Row.cells false 4 [p.v]), some (Row.cells false 1 [.int .i64 (n : Int)])]), ms⟩ _
        refine rangeF 2000 (ρ := tsets 71 (chT p n X.length)) (by simp [go_sem, chT, vw]) (by simp only [go_sem, chT]; rfl)
          (R := fun v H' => v = .tup [] ∧ (H' = chH p (fldW la ha s t) e (cl0 + wsum (nbs p n) (chC p ha e n)) (ch0 + wsum (nbs p n) (chC p la e n)) X (chR p n X.length .ready) [] ∨ False)) ?_ (by simp) ?_
        · rw [hl]
          have hheap : chF p (fldW la ha s t) e cl0 ch0 ++ (X ++ [some (Row.cells false 1 [.int .i64 (n : Int)]), some (Row.cells false 4 [p.v]), some (Row.cells false 1 [.int .i64 (n : Int)])]) ++ [some .dfr] ++ [some (.loop (tsets 71 (chT p n X.length)) [26, 27] k_field_charge_r12 k_field_charge_r13 (X.length + 8) .ready none)] = chH p (fldW la ha s t) e cl0 ch0 X (chR p n X.length .ready) [] := by
            simp [chH, chR, chL]
          rw [hheap]
          have hit := nbs1_iter (G := G) hp hnN (r := X.length + 9) (jc := X.length + 7) (jp := X.length + 6) (N := X.length + 10) (Pre := fun k H => H = chH p (fldW la ha s t) e (cl0 + wsum ((nbs p n).take k) (chC p ha e n)) (ch0 + wsum ((nbs p n).take k) (chC p la e n)) X (chR p n X.length .ready) []) (Stop := fun _ => False) ⟨?_, ?_⟩
            (by rw [List.take_zero, wsum, wsum, Int.add_zero, Int.add_zero]) (by rw [chH_len]; simp [chR])
          · rw [List.take_length] at hit
            exact hit
          · rintro k H rfl
            exact ⟨by rw [chH_len]; simp [chR], chH_get _ _ _ _ _ X (chR p n X.length .ready) [] (j := 2) (by simp [chR]), chH_get _ _ _ _ _ X (chR p n X.length .ready) [] (j := 1) (by simp [chR])⟩
          · rintro k ⟨m, wt⟩ H hq rfl
            obtain ⟨hm, k2, k3, _⟩ := nbs_in p hw.2 hnN _ (List.mem_of_getElem? hq)
            dsimp only at hm k2 k3 ⊢
            have t1 : wsum ((nbs p n).take (k + 1)) (chC p ha e n) = wsum ((nbs p n).take k) (chC p ha e n) + wt * chC p ha e n m := wsum_take hq _
            have t2 : wsum ((nbs p n).take (k + 1)) (chC p la e n) = wsum ((nbs p n).take k) (chC p la e n) + wt * chC p la e n m := wsum_take hq _
            have d1 := chS_bd hp hha e hnN k
            have d2 := chS_bd hp hla e hnN k
            have d3 := chS_bd hp hha e hnN (k + 1)
            have d4 := chS_bd hp hla e hnN (k + 1)
            have hrow := fun u v => chH_get p (fldW la ha s t) e u v X (chR p n X.length .ready) [] (j := 4) (by simp [chR])
            have hmx := gt_get (l := p.cs) (i := m) (by omega)
            have ga := gt_get (l := la) (i := m) (by rw [hla.len]; exact hm)
            have gb := gt_get (l := ha) (i := m) (by rw [hha.len]; exact hm)
            have gc := gt_get (l := la) (i := n) (by rw [hla.len]; exact hnN)
            have gd := gt_get (l := ha) (i := n) (by rw [hha.len]; exact hnN)
            have q0 : ¬ (m : Int) < 0 := by omega
            have q1 : (m : Int) < p.cs.length := by omega
            have q2 : (m : Int) < la.length := by rw [hla.len]; omega
            have q3 : (m : Int) < ha.length := by rw [hha.len]; omega
            have q4 : (n : Int) < la.length := by rw [hla.len]; omega
            have q5 : (n : Int) < ha.length := by rw [hha.len]; omega
            have v1 := hla.bd n hnN
            have v2 := hha.bd n hnN
            have v3 := hla.bd m hm
            have v4 := hha.bd m hm
            have w1 : chC p ha e n m = if gt p.cs m = e then 0 else gt ha n - gt ha m := rfl
            have w2 : chC p la e n m = if gt p.cs m = e then 0 else gt la n - gt la m := rfl
            rw [w1] at t1
            rw [w2] at t2
            clear w1 w2
            generalize hR : (fun (v : AVal) (H' : Heap) => (v = .bool true ∧ H' = chH p (fldW la ha s t) e (cl0 + wsum ((nbs p n).take (k + 1)) (chC p ha e n)) (ch0 + wsum ((nbs p n).take (k + 1)) (chC p la e n)) X (chR p n X.length .ready) []) ∨ (v = .bool false ∧ False)) = R
            have hfin : R (.bool true) (chH p (fldW la ha s t) e (cl0 + wsum ((nbs p n).take (k + 1)) (chC p ha e n)) (ch0 + wsum ((nbs p n).take (k + 1)) (chC p la e n)) X (chR p n X.length .ready) []) := by rw [← hR]; exact .inl ⟨rfl, rfl⟩
            clear hR
            generalize wsum ((nbs p n).take (k + 1)) (chC p ha e n) = A1 at *
            generalize wsum ((nbs p n).take (k + 1)) (chC p la e n) = B1 at *
            generalize wsum ((nbs p n).take k) (chC p ha e n) = A0 at *
            generalize wsum ((nbs p n).take k) (chC p la e n) = B0 at *
            by_cases hme : gt p.cs m = e
            · rw [if_pos hme, Int.mul_zero, Int.add_zero] at t1 t2
              subst t1
              subst t2
              have hme' : (gt p.cs m != e) = false := by simp [hme]
              generalize gt p.cs m = zm at *
              refine roundW_run 500 k_field_charge_r12.eq_1 (hrow _ _) rfl (ρ' := tsets 71 (chT p n X.length ++ [(26, .int .i64 (m : Int)), (27, .int .i64 wt)])) rfl ?_
              simp only [go_sem, chT]
              refine roundMid_run 500 k_field_charge_r13.eq_1 (hrow _ _) (chH_put _ _ _ _ _ _ _ _ _ _ _ _ _) ?_
              have hci := fun u v => cells_at (chH_get p (fldW la ha s t) e u v X [some (.cells false 1 [.int .i64 n]), some (.cells false 4 [p.v]), some (.cells false 1 [.int .i64 n]), some .dfr, some (chL p n X.length .busy none)] [] (j := 0) (by simp))
              have hrow2 := fun u v => chH_get p (fldW la ha s t) e u v X [some (.cells false 1 [.int .i64 n]), some (.cells false 4 [p.v]), some (.cells false 1 [.int .i64 n]), some .dfr, some (chL p n X.length .busy none)] [] (j := 4) (by simp)
              have hput := fun u v => chH_put p (fldW la ha s t) e u v (some (.cells false 1 [.int .i64 n])) (some (.cells false 4 [p.v])) (some (.cells false 1 [.int .i64 n])) (some .dfr) (some (chL p n X.length .busy none)) X [] (chL p n X.length .ready none)
              simp only [chH, chF, Nat.add_zero, List.append_nil, List.cons_append, List.nil_append, Pl.v, Pl.a, Pl.c4, vw, fldW] at hci hrow2 hput hfin ⊢
              simp only [go_sem, hci, hmx, q0, q1, hme', List.length_map]
              refine roundEnd_on (hrow2 _ _) ?_
              exact Eq.mpr (congrArg (R (.bool true)) (hput _ _)) hfin
            · rw [if_neg hme] at t1 t2
              have hme' : (gt p.cs m != e) = true := by simp [hme]
              generalize gt p.cs m = zm at *
              generalize gt la n = y1 at *
              generalize gt ha n = y2 at *
              generalize gt la m = y3 at *
              generalize gt ha m = y4 at *
              have m1 : -64000000 ≤ wt * (y2 - y4) ∧ wt * (y2 - y4) ≤ 64000000 := by
                have h4 := Int.mul_le_mul_of_nonneg_left (show y2 - y4 ≤ 2000000 by omega) (show 0 ≤ wt by omega)
                have h5 := Int.mul_le_mul_of_nonneg_left (show -2000000 ≤ y2 - y4 by omega) (show 0 ≤ wt by omega)
                omega
              have m2 : -64000000 ≤ wt * (y1 - y3) ∧ wt * (y1 - y3) ≤ 64000000 := by
                have h4 := Int.mul_le_mul_of_nonneg_left (show y1 - y3 ≤ 2000000 by omega) (show 0 ≤ wt by omega)
                have h5 := Int.mul_le_mul_of_nonneg_left (show -2000000 ≤ y1 - y3 by omega) (show 0 ≤ wt by omega)
                omega
              have z1 : IntKind.i64.wrap (y2 - y4) = y2 - y4 := w64 (by omega)
              have z2 : IntKind.i64.wrap (y1 - y3) = y1 - y3 := w64 (by omega)
              have z3 : IntKind.i64.wrap (wt * (y2 - y4)) = wt * (y2 - y4) := w64 (by omega)
              have z4 : IntKind.i64.wrap (wt * (y1 - y3)) = wt * (y1 - y3) := w64 (by omega)
              have z5 : IntKind.i64.wrap (cl0 + A0 + wt * (y2 - y4)) = cl0 + A1 := by rw [w64 (by omega)]; omega
              have z6 : IntKind.i64.wrap (ch0 + B0 + wt * (y1 - y3)) = ch0 + B1 := by rw [w64 (by omega)]; omega
              clear t1 t2
              refine roundW_run 500 k_field_charge_r12.eq_1 (hrow _ _) rfl (ρ' := tsets 71 (chT p n X.length ++ [(26, .int .i64 (m : Int)), (27, .int .i64 wt)])) rfl ?_
              simp only [go_sem, chT]
              refine roundMid_run 500 k_field_charge_r13.eq_1 (hrow _ _) (chH_put _ _ _ _ _ _ _ _ _ _ _ _ _) ?_
              have hci := fun u v => cells_at (chH_get p (fldW la ha s t) e u v X [some (.cells false 1 [.int .i64 n]), some (.cells false 4 [p.v]), some (.cells false 1 [.int .i64 n]), some .dfr, some (chL p n X.length .busy none)] [] (j := 0) (by simp))
              have hrow2 := fun u v => chH_get p (fldW la ha s t) e u v X [some (.cells false 1 [.int .i64 n]), some (.cells false 4 [p.v]), some (.cells false 1 [.int .i64 n]), some .dfr, some (chL p n X.length .busy none)] [] (j := 4) (by simp)
              have hput := fun u v => chH_put p (fldW la ha s t) e u v (some (.cells false 1 [.int .i64 n])) (some (.cells false 4 [p.v])) (some (.cells false 1 [.int .i64 n])) (some .dfr) (some (chL p n X.length .busy none)) X [] (chL p n X.length .ready none)
              simp only [chH, chF, Nat.add_zero, List.append_nil, List.cons_append, List.nil_append, Pl.v, Pl.a, Pl.c4, vw, fldW] at hci hrow2 hput hfin ⊢
              simp only [go_sem, hci, hmx, q0, q1, hme', List.length_map, ga, gb, gc, gd, q2, q3, q4, q5, n0, z1, z2, z3, z4, z5, z6]
              refine roundEnd_on (hrow2 _ _) ?_
              exact Eq.mpr (congrArg (R (.bool true)) (hput _ _)) hfin
        · rintro v H' ⟨rfl, rfl | h⟩
          · rw [hl]
            refine ⟨fun q hq => ?_, _, _, _, _, _, _, _, chH_get _ _ _ _ _ X (chR p n X.length .ready) [] (j := 4) (by simp [chR]), by decide, ?_⟩
            · rcases List.mem_cons.1 hq with rfl | hq
              · exact chH_get _ _ _ _ _ X (chR p n X.length .ready) [] (j := 3) (by simp [chR])
              · obtain ⟨k, rfl, hk⟩ := hms2 q hq
                rw [chH_old _ _ _ _ _ _ _ _ (List.getElem?_eq_some_iff.1 hk).1]; exact hk
            · show Run Try.prog G 0 none 2000 (.out .normal) _ ⟨_, (chH p (fldW la ha s t) e _ _ X (chR p n X.length .ready) []).set (X.length + 9) none, _⟩ _
              unfold chR
              rw [chH_set]
              simp only [go_sem, chT, tsets, h3]
              have ihn := ih (n + 1, (X ++ ([some (.cells false 1 [.int .i64 n]), some (.cells false 4 [p.v]), some (.cells false 1 [.int .i64 n]), some .dfr, none] : Heap) : Heap), (X.length + 8) :: ms) (by dsimp only; omega)
              dsimp only at ihn
              rw [hchT, hchU] at ihn
              refine ihn ⟨h1, ?_, fun q hq => ?_⟩ _ (by simp [go_sem, vw])
              · refine List.nodup_cons.2 ⟨fun h => ?_, hms1⟩
                obtain ⟨k, hk1, hk2⟩ := hms2 _ h
                have := (List.getElem?_eq_some_iff.1 hk2).1
                omega
              · rcases List.mem_cons.1 hq with rfl | hq
                · refine ⟨X.length + 3, rfl, ?_⟩
                  rw [List.getElem?_append_right (by omega)]
                  simp
                · obtain ⟨k, hk1, hk2⟩ := hms2 q hq
                  exact ⟨k, hk1, by rw [List.getElem?_append_left (List.getElem?_eq_some_iff.1 hk2).1]; exact hk2⟩
          · exact h.elim
      · exact hdf [some (.cells false 1 [.int .i64 n])]
    · have he' : (gt p.cs n != e) = true := by simp [he]
      have ihn := ih (n + 1, X ++ [some (.cells false 1 [.int .i64 n])], ms) (by dsimp only; omega) ⟨h1, hms1, fun q hq => by
        obtain ⟨k, hk1, hk2⟩ := hms2 q hq
        exact ⟨k, hk1, by dsimp only; rw [List.getElem?_append_left (List.getElem?_eq_some_iff.1 hk2).1]; exact hk2⟩⟩
      simp only [chTo, if_neg he, Int.add_zero] at ihn
      simp only [chF, List.cons_append, List.nil_append] at ihn ⊢
      generalize gt p.cs n = z at *
      simp only [go_sem, Pl.v, Pl.a, Pl.c4, vw, fldW, List.length_map, h2, n0, hx, he', h3]
      exact ihn _ (by simp [go_sem, vw])
  · have h2 : ¬ (n : Int) < p.cs.length := by omega
    have hnN : n = p.w * p.h := by omega
    subst hnN
    have hne : ∀ q ∈ ms, q ≠ 3 := fun q hq => by obtain ⟨k, hk, _⟩ := hms2 q hq; omega
    have hc := fun L : Heap => freed_get ms (some (.cells false 4 [p.v]) :: some (.cells false 4 [fldW la ha s t]) :: some (.cells false 1 [.int .i64 e]) :: some (.cells false 2 [.agg [.int .i64 (chTo p ha e (p.w * p.h)), .int .i64 (chTo p la e (p.w * p.h))]]) :: L) hne
    have hc' := fun L : Heap => cells_at ((hc L).trans rfl)
    simp only [chF, go_sem, Pl.v, Pl.a, Pl.c4, vw, fldW, List.length_map, h2, List.cons_append, List.nil_append] at hc' ⊢
    simp only [hc', go_sem]
    exact ⟨hms1, rfl⟩
end Go.Proofs
namespace Go.Proofs
open Go Go.Sx
attribute [local irreducible] Run

theorem kitHas_ok {l : List Int} (x : Int) (hlen : l.length ≤ 1000000) : Ans Try.prog n_kit_Has [vw l, .int .i64 x] [] (.bool (decide (x ∈ l))) [] := by
  generalize hRES : decide (x ∈ l) = RES
  refine spec_run e_kit_Has fun G => ?_
  simp only [go_sem, vw]
  refine loop_ind k_kit_Has_r6.eq_1 (fun i : Nat => i ≤ l.length ∧ decide (x ∈ l.drop i) = RES) (fun i => l.length - i)
    (fun i => (tsets 18 [(0, vw l), (1, .int .i64 x), (5, .int .i64 i)], [])) 0 ⟨Nat.zero_le _, by simpa using hRES⟩ (by simp [go_sem, vw]) rfl ?_
  rintro i ⟨hi, hm⟩ ih
  dsimp only at hi hm ih ⊢
  by_cases h1 : i < l.length
  · have h2 : (i : Int) < l.length := by omega
    have h3 := idx_next h1 (by omega)
    have n0 : ¬ (i : Int) < 0 := by omega
    have hx := gt_get h1
    rw [drop_step h1] at hm
    generalize gt l i = z at *
    by_cases hz : z = x
    · have hz' : (z == x) = true := by simp [hz]
      simp only [go_sem, vw, List.length_map, h2, n0, hx, hz']
      rw [← hm, hz]; simp
    · have hz' : (z == x) = false := by simp [hz]
      have hz2 : ¬ x = z := fun h => hz h.symm
      simp only [go_sem, vw, List.length_map, h2, n0, hx, hz', h3]
      exact ih (i + 1) (by omega) ⟨h1, by rw [← hm]; simp [hz2]⟩ _ (by simp [go_sem, vw])
  · have h2 : ¬ (i : Int) < l.length := by omega
    rw [drop_end (by omega)] at hm
    simp only [go_sem, vw, List.length_map, h2]
    rw [← hm]; simp

/-- The first place of a number, or -1. -/
def idxF (x : Int) : List Int → Nat → Int
  | [], _ => -1
  | c :: cs, i => if x = c then i else idxF x cs (i + 1)
theorem idxF_mem (x : Int) : ∀ (l : List Int) (i : Nat), 0 ≤ idxF x l i ↔ x ∈ l
  | [], i => by simp [idxF]
  | c :: cs, i => by
    rw [idxF]
    by_cases h : x = c
    · simp [h]
    · simp [h, idxF_mem x cs (i + 1)]

theorem Index_ok {l : List Int} (x : Int) (hlen : l.length ≤ 1000000) : Ans Try.prog n_slices_Index_int_int [vw l, .int .i64 x] [] (.int .i64 (idxF x l 0)) [] := by
  generalize hRES : idxF x l 0 = RES
  refine spec_run e_slices_Index_int_int fun G => ?_
  simp only [go_sem, vw]
  refine loop_ind k_slices_Index_int_int_r7.eq_1 (fun i : Nat => i ≤ l.length ∧ idxF x (l.drop i) i = RES) (fun i => l.length - i)
    (fun i => (tsets 19 [(0, vw l), (1, .int .i64 x), (7, .int .i64 l.length), (8, .int .i64 i)], [])) 0 ⟨Nat.zero_le _, by simpa using hRES⟩ (by simp [go_sem, vw]) rfl ?_
  rintro i ⟨hi, hm⟩ ih
  dsimp only at hi hm ih ⊢
  by_cases h1 : i < l.length
  · have h2 : (i : Int) < l.length := by omega
    have h3 := idx_next h1 (by omega)
    have n0 : ¬ (i : Int) < 0 := by omega
    have hx := gt_get h1
    rw [drop_step h1, idxF] at hm
    generalize gt l i = z at *
    by_cases hz : x = z
    · have hz' : (x == z) = true := by simp [hz]
      rw [if_pos hz] at hm
      simp only [go_sem, vw, List.length_map, h2, n0, hx, hz']
      rw [← hm]
    · have hz' : (x == z) = false := by simp [hz]
      rw [if_neg hz] at hm
      simp only [go_sem, vw, List.length_map, h2, n0, hx, hz', h3]
      exact ih (i + 1) (by omega) ⟨h1, hm⟩ _ (by simp [go_sem, vw])
  · have h2 : ¬ (i : Int) < l.length := by omega
    rw [drop_end (by omega), idxF] at hm
    simp only [go_sem, vw, List.length_map, h2]
    rw [← hm]

theorem Contains_ok {l : List Int} (x : Int) (hlen : l.length ≤ 1000000) : Ans Try.prog n_slices_Contains_int_int [vw l, .int .i64 x] [] (.bool (decide (x ∈ l))) [] := by
  have h := Index_ok x hlen
  have hm := idxF_mem x l 0
  refine spec_run e_slices_Contains_int_int fun G => ?_
  simp only [go_sem, vw]
  refine cP h ?_
  simp only [go_sem]
  rw [decide_eq_decide.2 hm]

theorem has_ok {p : Pl} (hlen : p.cs.length ≤ 1000000) (e : Int) : Ans Try.prog n_field_has [p.v, .int .i64 e] [] (.bool (decide (e ≠ 0 ∧ e ∈ p.cs))) [] := by
  have h := Contains_ok e hlen
  refine spec_run e_field_has fun G => ?_
  by_cases he : e = 0
  · have he' : (e != 0) = false := by simp [he]
    simp only [go_sem, Pl.v, Pl.a, Pl.c4, vw, he']
    simp [he]
  · have he' : (e != 0) = true := by simp [he]
    simp only [go_sem, Pl.v, Pl.a, Pl.c4, vw, he']
    refine cP h ?_
    simp only [go_sem]
    simp [he]

/-- What is charged: the answer of 'Charge'. -/
def chgA (p : Pl) (v : List Int) (n : Nat) (e : Int) : AVal := if e ≠ 0 ∧ e ∈ p.cs then .tup [Rg.v ⟨chg p (highB p v (cnt p v n)) e, chg p (lowB p v (cnt p v n)) e⟩, .int .i64 0] else .tup [Rg.v ⟨0, 0⟩, .int .i64 7]

theorem Charge_ok {p : Pl} (hp : PlOK p) {v : List Int} (hv : VOK v) (hvl : (v.length : Int) = gmax p.cs) {n : Nat} (hn : n ≤ 200) (e : Int) : Ans Try.prog n_field_Charge [p.v, vw v, .int .i64 n, .int .i64 e] [] (chgA p v n e) [] := by
  have hs := Solve_ok hp hv hvl hn
  have hN : p.w * p.h ≤ 256 := Nat.mul_le_mul hp.w.2 hp.h.2
  have hlen := hp.len
  have hh := has_ok (p := p) (by omega) e
  have A := (low_ok hp v (cnt p v n)).at hv
  have B := (high_ok hp v (cnt p v n)).at hv
  have hc := charge_ok hp A B (cnt p v n) (stl p v (cnt p v n)) e
  have L1 := A.len; have L2 := B.len
  rw [← hlen] at L1 L2
  unfold chgA
  refine spec_run e_field_Charge fun G => ?_
  simp only [go_sem, Pl.v, Pl.a, Pl.c4, vw]
  refine cN2 hs ?_ (hr := by simp [go_sem, fldV]) (hx := iv_row _ _ _) (hy := iv_row _ _ _)
  simp only [go_sem, ren, rens, fldV, Pl.v, Pl.a, Pl.c4, vw]
  refine cP hh ?_
  by_cases hb : e ≠ 0 ∧ e ∈ p.cs
  · have hb' : decide (e ≠ 0 ∧ e ∈ p.cs) = true := by simp [hb]
    rw [if_pos hb, hb']
    simp only [go_sem, Pl.v, Pl.a, Pl.c4, vw]
    refine cF hc 6 ⟨.inl (plv_frz 3 _ p), .inl (fldW_frz (j0 := 2) (j1 := 3) rfl rfl L1.symm L2.symm), .inl rfl, trivial⟩ ?_
    simp only [go_sem, Rg.v]
    trace_state
  · have hb' : decide (e ≠ 0 ∧ e ∈ p.cs) = false := by simp [hb]
    rw [if_neg hb, hb']
    simp only [go_sem, Pl.v, Pl.a, Pl.c4, vw]
    rfl
end Go.Proofs
namespace Go.Proofs
open Go Go.Sx

def sumN (f : Nat → Int) : Nat → Int
  | 0 => 0
  | n + 1 => sumN f n + f n
theorem sumN_congr {f g : Nat → Int} : ∀ n, (∀ i, i < n → f i = g i) → sumN f n = sumN g n
  | 0, _ => rfl
  | n + 1, h => by rw [sumN, sumN, sumN_congr n fun i hi => h i (by omega), h n (by omega)]
theorem sumN_add (f g : Nat → Int) : ∀ n, sumN (fun i => f i + g i) n = sumN f n + sumN g n
  | 0 => rfl
  | n + 1 => by rw [sumN, sumN, sumN, sumN_add f g n]; omega
theorem sumN_neg (f : Nat → Int) : ∀ n, sumN (fun i => - f i) n = - sumN f n
  | 0 => rfl
  | n + 1 => by rw [sumN, sumN, sumN_neg f n]; omega
theorem sumN_mul (c : Int) (f : Nat → Int) : ∀ n, sumN (fun i => c * f i) n = c * sumN f n
  | 0 => by simp [sumN]
  | n + 1 => by rw [sumN, sumN, sumN_mul c f n, Int.mul_add]
theorem sumN_le {f g : Nat → Int} : ∀ n, (∀ i, i < n → f i ≤ g i) → sumN f n ≤ sumN g n
  | 0, _ => Int.le_refl _
  | n + 1, h => by have := sumN_le n fun i hi => h i (by omega); have := h n (by omega); rw [sumN, sumN]; omega
theorem sumN_zero : ∀ n, sumN (fun _ => 0) n = 0
  | 0 => rfl
  | n + 1 => by rw [sumN, sumN_zero n]; rfl
theorem sumN_if (c : Prop) [Decidable c] (f : Nat → Int) (n : Nat) : sumN (fun i => if c then f i else 0) n = if c then sumN f n else 0 := by
  split
  · rfl
  · exact sumN_zero n
theorem sumN_app (f : Nat → Int) (a : Nat) : ∀ b, sumN f (a + b) = sumN f a + sumN (fun i => f (a + i)) b
  | 0 => by simp [sumN]
  | b + 1 => by rw [← Nat.add_assoc, sumN, sumN_app f a b, sumN]; omega
theorem sumN_grid (f : Nat → Int) (w : Nat) : ∀ h, sumN f (h * w) = sumN (fun y => sumN (fun x => f (y * w + x)) w) h
  | 0 => by simp [sumN]
  | h + 1 => by rw [Nat.add_mul, Nat.one_mul, sumN_app, sumN_grid f w h, sumN]
theorem sumN_before (f : Nat → Int) : ∀ n, sumN (fun x => if 0 < x then f (x - 1) else 0) (n + 1) = sumN f n
  | 0 => by simp [sumN]
  | n + 1 => by rw [sumN, sumN_before f n, sumN]; simp
theorem sumN_after (f : Nat → Int) (n : Nat) : sumN (fun x => if x + 1 < n + 1 then f x else 0) (n + 1) = sumN f n := by
  rw [sumN, if_neg (by omega), Int.add_zero]
  exact sumN_congr n fun i hi => by rw [if_pos (by omega)]
/-- What is taken from one and given to the next. -/
theorem sumN_pairs (f g : Nat → Int) (n : Nat) (hn : 1 ≤ n) (h : ∀ x, x + 1 < n → g (x + 1) = - f x) : sumN (fun x => (if 0 < x then g x else 0) + (if x + 1 < n then f x else 0)) n = 0 := by
  obtain ⟨m, rfl⟩ : ∃ m, n = m + 1 := ⟨n - 1, by omega⟩
  rw [sumN_add, sumN_after]
  have e : sumN (fun x => if 0 < x then g x else 0) (m + 1) = sumN (fun x => if 0 < x then (fun x => g (x + 1)) (x - 1) else 0) (m + 1) := sumN_congr _ fun i hi => by
    split
    · rename_i h0
      show g i = g (i - 1 + 1)
      rw [show i - 1 + 1 = i by omega]
    · rfl
  rw [e, sumN_before (fun x => g (x + 1))]
  have e2 : sumN (fun x => g (x + 1)) m = sumN (fun x => - f x) m := sumN_congr _ fun i hi => h i (by omega)
  rw [e2, sumN_neg]; omega

/-- Over all neighbours, what one takes from the other comes to nothing. -/
theorem sum_anti (p : Pl) (hw : 1 ≤ p.w) (hh : 1 ≤ p.h) (g : Nat → Nat → Int) (hg : ∀ i j, g i j = - g j i) : sumN (fun i => wsum (nbs p i) (g i)) (p.w * p.h) = 0 := by
  rw [Nat.mul_comm, sumN_grid]
  have e : sumN (fun y => sumN (fun x => wsum (nbs p (y * p.w + x)) (g (y * p.w + x))) p.w) p.h =
      sumN (fun y => sumN (fun x => (if 0 < x then besW p.rd (x - 1) * g (y * p.w + x) (y * p.w + (x - 1)) else 0) + (if x + 1 < p.w then besW p.rd x * g (y * p.w + x) (y * p.w + (x + 1)) else 0)) p.w +
        ((if 0 < y then sumN (fun x => abvW p.rd x * g (y * p.w + x) ((y - 1) * p.w + x)) p.w else 0) + (if y + 1 < p.h then sumN (fun x => abvW p.rd x * g (y * p.w + x) ((y + 1) * p.w + x)) p.w else 0))) p.h := sumN_congr _ fun y hy => by
    rw [← sumN_if, ← sumN_if, ← sumN_add, ← sumN_add]
    exact sumN_congr _ fun x hx => by rw [wsum_nbs p hx]; omega
  rw [e, sumN_add]
  have e1 : sumN (fun y => sumN (fun x => (if 0 < x then besW p.rd (x - 1) * g (y * p.w + x) (y * p.w + (x - 1)) else 0) + (if x + 1 < p.w then besW p.rd x * g (y * p.w + x) (y * p.w + (x + 1)) else 0)) p.w) p.h = 0 := by
    refine (sumN_congr (g := fun _ => 0) _ fun y hy => ?_).trans (sumN_zero p.h)
    refine sumN_pairs (fun x => besW p.rd x * g (y * p.w + x) (y * p.w + (x + 1))) (fun x => besW p.rd (x - 1) * g (y * p.w + x) (y * p.w + (x - 1))) p.w hw fun x hx => ?_
    rw [Nat.add_sub_cancel, hg (y * p.w + (x + 1)), Int.mul_neg]
  have e2 : sumN (fun y => (if 0 < y then sumN (fun x => abvW p.rd x * g (y * p.w + x) ((y - 1) * p.w + x)) p.w else 0) + (if y + 1 < p.h then sumN (fun x => abvW p.rd x * g (y * p.w + x) ((y + 1) * p.w + x)) p.w else 0)) p.h = 0 := by
    refine sumN_pairs (fun y => sumN (fun x => abvW p.rd x * g (y * p.w + x) ((y + 1) * p.w + x)) p.w) (fun y => sumN (fun x => abvW p.rd x * g (y * p.w + x) ((y - 1) * p.w + x)) p.w) p.h hh fun y hy => ?_
    rw [← sumN_neg]
    refine sumN_congr _ fun x hx => ?_
    rw [Nat.add_sub_cancel, hg ((y + 1) * p.w + x), Int.mul_neg]
  rw [e1, e2]; rfl

/-- What a cell gives to its neighbours. -/
def lap (p : Pl) (a : Nat → Int) (i : Nat) : Int := wsum (nbs p i) fun n => a i - a n
theorem lap_eq (p : Pl) (a : Nat → Int) (i : Nat) : lap p a i = wtot (nbs p i) * a i - wsum (nbs p i) a := by
  unfold lap
  rw [wsum_sub, wsum_const]
theorem lap_all {p : Pl} (hp : PlOK p) (a : Nat → Int) : sumN (lap p a) (p.w * p.h) = 0 := sum_anti p hp.w.1 hp.h.1 (fun i n => a i - a n) fun i j => by omega
/-- Green. -/
theorem lap_green {p : Pl} (hp : PlOK p) (a b : Nat → Int) : sumN (fun i => b i * lap p a i) (p.w * p.h) = sumN (fun i => a i * lap p b i) (p.w * p.h) := by
  have h := sum_anti p hp.w.1 hp.h.1 (fun i n => a i * b n - b i * a n) fun i j => by rw [Int.mul_comm (b j), Int.mul_comm (a j)]; omega
  have e : sumN (fun i => wsum (nbs p i) fun n => a i * b n - b i * a n) (p.w * p.h) = sumN (fun i => b i * lap p a i + - (a i * lap p b i)) (p.w * p.h) := sumN_congr _ fun i _ => by
    rw [lap_eq, lap_eq, wsum_sub, wsum_mul, wsum_mul, Int.mul_sub, Int.mul_sub]
    have : b i * (wtot (nbs p i) * a i) = a i * (wtot (nbs p i) * b i) := by rw [Int.mul_left_comm, Int.mul_left_comm (a i), Int.mul_comm (b i)]
    omega
  rw [e, sumN_add, sumN_neg] at h
  omega

/-- A charge is what an electrode's cells give. -/
theorem chTo_sum (p : Pl) (a : List Int) (e : Int) : ∀ n, chTo p a e n = sumN (fun i => if gt p.cs i = e then wsum (nbs p i) (chC p a e i) else 0) n
  | 0 => rfl
  | n + 1 => by rw [chTo, sumN, chTo_sum p a e n]
/-- Numbers of cells that are the voltages at the electrodes. -/
def ElOK (p : Pl) (v a : List Int) : Prop := ∀ i, i < p.w * p.h → p.el i → gt a i = vo v (gt p.cs i)
theorem chC_lap {p : Pl} (hp : PlOK p) {v a : List Int} (h : ElOK p v a) {i : Nat} (hi : i < p.w * p.h) (hE : p.el i) : wsum (nbs p i) (chC p a (gt p.cs i) i) = lap p (gt a) i := by
  unfold lap
  refine wsum_congr fun q hq => ?_
  obtain ⟨k1, _⟩ := nbs_in p hp.w.2 hi q hq
  unfold chC
  split
  · rename_i he
    have hq' : p.el q.1 := by unfold Pl.el at *; rw [he]; exact hE
    rw [h i hi hE, h _ k1 hq', he]; omega
  · rfl
theorem chg_lap {p : Pl} (hp : PlOK p) {v a : List Int} (h : ElOK p v a) {e : Int} (he : e ≠ 0) : chg p a e = sumN (fun i => if gt p.cs i = e then lap p (gt a) i else 0) (p.w * p.h) := by
  unfold chg
  rw [chTo_sum]
  refine sumN_congr _ fun i hi => ?_
  split
  · rename_i h1
    subst h1
    exact chC_lap hp h hi he
  · rfl

theorem sumN_comm (f : Nat → Nat → Int) (m : Nat) : ∀ n, sumN (fun i => sumN (fun j => f i j) m) n = sumN (fun j => sumN (fun i => f i j) n) m
  | 0 => by simp only [sumN]; exact (sumN_zero m).symm
  | n + 1 => by rw [sumN, sumN_comm f m n, ← sumN_add]; rfl
theorem sumN_pick (c L : Int) : ∀ g : Nat, sumN (fun k : Nat => if c = (k : Int) + 1 then L else 0) g = if 1 ≤ c ∧ c ≤ g then L else 0
  | 0 => by rw [sumN, if_neg (by omega)]
  | g + 1 => by
    rw [sumN, sumN_pick c L g]
    by_cases h : c = (g : Int) + 1
    · rw [if_neg (by omega), if_pos h, if_pos (by push_cast; omega)]; omega
    · rw [if_neg h]
      by_cases h2 : 1 ≤ c ∧ c ≤ g
      · rw [if_pos h2, if_pos (by push_cast; omega)]; omega
      · rw [if_neg h2, if_neg (by push_cast; omega)]; rfl
/-- The charges of all electrodes together. -/
theorem chg_total {p : Pl} (hp : PlOK p) {v a : List Int} (h : ElOK p v a) {g : Nat} (hg : (g : Int) = gmax p.cs) :
    sumN (fun k => chg p a ((k : Int) + 1)) g = sumN (fun i => if p.el i then lap p (gt a) i else 0) (p.w * p.h) := by
  have e : sumN (fun k => chg p a ((k : Int) + 1)) g = sumN (fun k => sumN (fun i => if gt p.cs i = (k : Int) + 1 then lap p (gt a) i else 0) (p.w * p.h)) g := sumN_congr _ fun k _ => chg_lap hp h (by omega)
  rw [e, sumN_comm]
  refine sumN_congr _ fun i hi => ?_
  rw [sumN_pick]
  have h1 := hp.cell _ (hp.mem hi)
  have h2 := hp.max.2.2 _ (hp.mem hi)
  by_cases h0 : p.el i
  · have h3 : gt p.cs i ≠ 0 := h0
    rw [if_pos (by omega), if_pos h0]
  · have h3 : ¬ gt p.cs i ≠ 0 := h0
    rw [if_neg (by omega), if_neg h0]
theorem total_sub {p : Pl} (hp : PlOK p) {a : List Int} (hs : SubH p p.el (gt a)) : 0 ≤ sumN (fun i => if p.el i then lap p (gt a) i else 0) (p.w * p.h) := by
  have h1 := lap_all hp (gt a)
  have h2 : sumN (lap p (gt a)) (p.w * p.h) ≤ sumN (fun i => if p.el i then lap p (gt a) i else 0) (p.w * p.h) := sumN_le _ fun i hi => by
    split
    · exact Int.le_refl _
    · rename_i hE
      have := hs i hi hE
      rw [lap_eq]; omega
  omega
theorem total_sup {p : Pl} (hp : PlOK p) {a : List Int} (hs : SupH p p.el (gt a)) : sumN (fun i => if p.el i then lap p (gt a) i else 0) (p.w * p.h) ≤ 0 := by
  have h1 := lap_all hp (gt a)
  have h2 : sumN (fun i => if p.el i then lap p (gt a) i else 0) (p.w * p.h) ≤ sumN (lap p (gt a)) (p.w * p.h) := sumN_le _ fun i hi => by
    split
    · exact Int.le_refl _
    · rename_i hE
      have := hs i hi hE
      rw [lap_eq]; omega
  omega
/-- The charge that the lows give is at least that which the highs give. -/
theorem chg_order {p : Pl} (hp : PlOK p) {v la ha : List Int} (hl : ElOK p v la) (hh : ElOK p v ha) (h : ∀ i, i < p.w * p.h → gt la i ≤ gt ha i) {e : Int} (he : e ≠ 0) : chg p ha e ≤ chg p la e := by
  rw [chg_lap hp hl he, chg_lap hp hh he]
  refine sumN_le _ fun i hi => ?_
  split
  · rename_i h1
    have hE : p.el i := by unfold Pl.el; rw [h1]; exact he
    unfold lap
    refine wsum_mono fun q hq => ?_
    obtain ⟨k1, k2, _⟩ := nbs_in p hp.w.2 hi q hq
    have := h _ k1
    have h3 := hl i hi hE
    have h4 := hh i hi hE
    exact ⟨by omega, by omega⟩
  · exact Int.le_refl _
theorem chg_none (p : Pl) (a : List Int) {e : Int} (h : e ∉ p.cs) (hlen : p.cs.length = p.w * p.h) : chg p a e = 0 := by
  unfold chg
  rw [chTo_sum]
  refine (sumN_congr (g := fun _ => 0) _ fun i hi => ?_).trans (sumN_zero _)
  rw [if_neg fun h1 => h (by rw [← h1]; exact gt_mem (by omega))]
end Go.Proofs
namespace Go.Proofs
open Go Go.Sx

-- 14: thermion/thermionlaw01.FieldKeeps
def k_law01_FieldKeeps_r0 : List AOper := [
  ⟨(some (4)), .move (.const (.bool false)), none, []⟩]
def k_law01_FieldKeeps_r1 : List AOper := [
  ⟨(some (12)), .move (.tmp 0), none, []⟩, 
  ⟨(some (13)), .call (.const (.fn (.func 22) [] [])) [.tmp 12], none, []⟩, 
  ⟨(some (5)), .move (.tmp 13), none, []⟩]
def k_law01_FieldKeeps_r2 : List AOper := [
  ⟨(some (14)), .move (.tmp 5), none, []⟩, 
  ⟨(some (15)), .call (.const (.fn (.func 21) [] [])) [.tmp 14, .const (.int .i64 8), .const (.int .i64 6)], none, []⟩, 
  ⟨(some (6)), .box (.const (.agg [.int .i64 0, .int .i64 0, .bool false, .nilsl])), none, []⟩, 
  ⟨none, .store 4 (.tmp 6) (.tmp 15), none, []⟩]
def k_law01_FieldKeeps_r3 : List AOper := [
  ⟨(some (16)), .move (.tmp 5), none, []⟩, 
  ⟨(some (17)), .load (some (4)) (.tmp 6), none, []⟩, 
  ⟨(some (18)), .call (.const (.fn (.func 37) [] [])) [.tmp 16, .tmp 17], none, []⟩, 
  ⟨(some (7)), .move (.tmp 18), none, []⟩]
def k_law01_FieldKeeps_r4 : List AOper := [
  ⟨(some (8)), .box (.const (.agg [.int .i64 0, .int .i64 0])), none, []⟩]
def k_law01_FieldKeeps_r5 : List AOper := [
  ⟨(some (9)), .move (.const (.int .i64 1)), none, []⟩]
def k_law01_FieldKeeps_r6 : List AOper := [
  ⟨(some (19)), .move (.tmp 9), none, []⟩, 
  ⟨(some (20)), .load (some (4)) (.tmp 6), none, []⟩, 
  ⟨(some (21)), .call (.const (.fn (.func 58) [] [])) [.tmp 20], none, []⟩, 
  ⟨(some (22)), .bin .plain .leq (.tmp 19) (.tmp 21), none, []⟩]
def k_law01_FieldKeeps_r7 : List AOper := [
  ⟨(some (26)), .load (some (4)) (.tmp 6), none, []⟩, 
  ⟨(some (27)), .move (.tmp 7), none, [0]⟩, 
  ⟨(some (28)), .move (.tmp 1), none, [0, 1]⟩, 
  ⟨(some (29)), .call (.const (.fn (.func 23) [] [])) [.tmp 28, .const (.int .i64 41)], none, [0, 1]⟩, 
  ⟨(some (30)), .move (.tmp 9), none, [0, 1, 2, 3]⟩, 
  ⟨(some (31)), .call (.const (.fn (.func 44) [] [])) [.tmp 26, .tmp 27, .tmp 29, .tmp 30], none, []⟩, 
  ⟨(some (25)), .move (.tmp 31), none, []⟩, 
  ⟨(some (32)), .extract (.tmp 25) 0, none, []⟩, 
  ⟨(some (33)), .extract (.tmp 25) 1, none, [7]⟩, 
  ⟨(some (10)), .box (.const (.agg [.int .i64 0, .int .i64 0])), none, [0, 1, 2, 3, 4, 5, 6, 7, 8]⟩, 
  ⟨none, .store 2 (.tmp 10) (.tmp 32), none, [8]⟩, 
  ⟨(some (11)), .move (.tmp 33), none, []⟩]
def k_law01_FieldKeeps_r7s : List (List AOper) := [
  [
  ⟨(some (26)), .load (some (4)) (.tmp 6), none, []⟩, 
  ⟨(some (27)), .move (.tmp 7), none, [0]⟩, 
  ⟨(some (28)), .move (.tmp 1), none, [0, 1]⟩, 
  ⟨(some (29)), .call (.const (.fn (.func 23) [] [])) [.tmp 28, .const (.int .i64 41)], none, [0, 1]⟩, 
  ⟨(some (30)), .move (.tmp 9), none, [0, 1, 2, 3]⟩, 
  ⟨(some (31)), .call (.const (.fn (.func 44) [] [])) [.tmp 26, .tmp 27, .tmp 29, .tmp 30], none, []⟩, 
  ⟨(some (25)), .move (.tmp 31), none, []⟩, 
  ⟨(some (32)), .extract (.tmp 25) 0, none, []⟩, 
  ⟨(some (33)), .extract (.tmp 25) 1, none, [7]⟩, 
  ⟨(some (10)), .box (.const (.agg [.int .i64 0, .int .i64 0])), none, [0, 1, 2, 3, 4, 5, 6, 7, 8]⟩, 
  ⟨none, .store 2 (.tmp 10) (.tmp 32), none, [8]⟩], 
  [
  ⟨(some (11)), .move (.tmp 33), none, []⟩]]
theorem k_law01_FieldKeeps_r7_sg : segs k_law01_FieldKeeps_r7 = k_law01_FieldKeeps_r7s := by kernel_rfl
theorem k_law01_FieldKeeps_r7_st : statOK k_law01_FieldKeeps_r7 = true := by kernel_rfl
def k_law01_FieldKeeps_r8 : List AOper := [
  ⟨(some (34)), .move (.tmp 11), none, []⟩, 
  ⟨(some (35)), .bin .plain .eql (.tmp 34) (.const (.int .i64 7)), none, []⟩]
def k_law01_FieldKeeps_r9 : List AOper := [
  ⟨(some (36)), .fieldAddr 3 (.tmp 6), none, []⟩, 
  ⟨(some (37)), .load none (.tmp 36), none, []⟩, 
  ⟨(some (38)), .move (.tmp 9), none, []⟩, 
  ⟨(some (39)), .call (.const (.fn (.func 59) [] [])) [.tmp 37, .tmp 38], none, []⟩]
def k_law01_FieldKeeps_r10 : List AOper := [
  ⟨(some (4)), .move (.const (.bool false)), none, []⟩]
def k_law01_FieldKeeps_r11 : List AOper := [
  ⟨(some (40)), .move (.tmp 11), none, []⟩, 
  ⟨(some (41)), .bin .plain .neq (.tmp 40) (.const (.int .i64 0)), none, []⟩, 
  ⟨(some (42)), .move (.tmp 41), none, []⟩, 
  ⟨(some (43)), .fieldAddr 0 (.tmp 10), (some (42, false)), []⟩, 
  ⟨(some (44)), .load none (.tmp 43), (some (42, false)), []⟩, 
  ⟨(some (45)), .fieldAddr 1 (.tmp 10), (some (42, false)), []⟩, 
  ⟨(some (46)), .load none (.tmp 45), (some (42, false)), []⟩, 
  ⟨(some (47)), .bin .plain .gtr (.tmp 44) (.tmp 46), (some (42, false)), []⟩, 
  ⟨(some (48)), .pick (.tmp 42) (.const (.bool true)) (.tmp 47), none, []⟩]
def k_law01_FieldKeeps_r12 : List AOper := [
  ⟨(some (4)), .move (.const (.bool false)), none, []⟩]
def k_law01_FieldKeeps_r13 : List AOper := [
  ⟨(some (49)), .fieldAddr 0 (.tmp 8), none, []⟩, 
  ⟨(some (50)), .load none (.tmp 49), none, []⟩, 
  ⟨(some (51)), .fieldAddr 0 (.tmp 10), none, [0, 1]⟩, 
  ⟨(some (52)), .load none (.tmp 51), none, [0, 1]⟩, 
  ⟨(some (53)), .bin .plain .add (.tmp 50) (.tmp 52), none, []⟩, 
  ⟨(some (54)), .fieldAddr 1 (.tmp 8), none, [0, 1, 2, 3, 4]⟩, 
  ⟨(some (55)), .load none (.tmp 54), none, [0, 1, 2, 3, 4]⟩, 
  ⟨(some (56)), .fieldAddr 1 (.tmp 10), none, [0, 1, 2, 3, 4, 5, 6]⟩, 
  ⟨(some (57)), .load none (.tmp 56), none, [0, 1, 2, 3, 4, 5, 6]⟩, 
  ⟨(some (58)), .bin .plain .add (.tmp 55) (.tmp 57), none, [0, 1, 2, 3, 4]⟩, 
  ⟨(some (59)), .fieldAddr 0 (.tmp 8), none, [7, 8, 9]⟩, 
  ⟨none, .store 1 (.tmp 59) (.tmp 53), none, [7, 8, 9]⟩, 
  ⟨(some (60)), .fieldAddr 1 (.tmp 8), none, []⟩, 
  ⟨none, .store 1 (.tmp 60) (.tmp 58), none, []⟩]
def k_law01_FieldKeeps_r13s : List (List AOper) := [
  [
  ⟨(some (49)), .fieldAddr 0 (.tmp 8), none, []⟩, 
  ⟨(some (50)), .load none (.tmp 49), none, []⟩, 
  ⟨(some (51)), .fieldAddr 0 (.tmp 10), none, [0, 1]⟩, 
  ⟨(some (52)), .load none (.tmp 51), none, [0, 1]⟩, 
  ⟨(some (53)), .bin .plain .add (.tmp 50) (.tmp 52), none, []⟩, 
  ⟨(some (54)), .fieldAddr 1 (.tmp 8), none, [0, 1, 2, 3, 4]⟩, 
  ⟨(some (55)), .load none (.tmp 54), none, [0, 1, 2, 3, 4]⟩, 
  ⟨(some (56)), .fieldAddr 1 (.tmp 10), none, [0, 1, 2, 3, 4, 5, 6]⟩, 
  ⟨(some (57)), .load none (.tmp 56), none, [0, 1, 2, 3, 4, 5, 6]⟩, 
  ⟨(some (58)), .bin .plain .add (.tmp 55) (.tmp 57), none, [0, 1, 2, 3, 4]⟩, 
  ⟨(some (59)), .fieldAddr 0 (.tmp 8), none, [7, 8, 9]⟩, 
  ⟨none, .store 1 (.tmp 59) (.tmp 53), none, [7, 8, 9]⟩], 
  [
  ⟨(some (60)), .fieldAddr 1 (.tmp 8), none, []⟩], 
  [
  ⟨none, .store 1 (.tmp 60) (.tmp 58), none, []⟩]]
theorem k_law01_FieldKeeps_r13_sg : segs k_law01_FieldKeeps_r13 = k_law01_FieldKeeps_r13s := by kernel_rfl
theorem k_law01_FieldKeeps_r13_st : statOK k_law01_FieldKeeps_r13 = true := by kernel_rfl
def k_law01_FieldKeeps_r14 : List AOper := [
  ⟨(some (23)), .move (.tmp 9), none, []⟩, 
  ⟨(some (24)), .bin .plain .add (.tmp 23) (.const (.int .i64 1)), none, []⟩, 
  ⟨(some (9)), .move (.tmp 24), none, []⟩]
def k_law01_FieldKeeps_r15 : ACode := (.seq (.seq (.reg k_law01_FieldKeeps_r6 false) (.cond (.tmp 22) .skip (.exit 0))) (.seq (.block 1 (.seq (.reg k_law01_FieldKeeps_r7 true) (.seq (.seq (.reg k_law01_FieldKeeps_r8 false) (.cond (.tmp 35) (.seq (.seq (.reg k_law01_FieldKeeps_r9 false) (.cond (.tmp 39) (.seq (.reg k_law01_FieldKeeps_r10 false) .ret) .skip)) (.exit 1)) .skip)) (.seq (.seq (.reg k_law01_FieldKeeps_r11 false) (.cond (.tmp 48) (.seq (.reg k_law01_FieldKeeps_r12 false) .ret) .skip)) (.reg k_law01_FieldKeeps_r13 true))))) (.reg k_law01_FieldKeeps_r14 false)))
def k_law01_FieldKeeps_r16 : List AOper := [
  ⟨(some (61)), .fieldAddr 0 (.tmp 8), none, []⟩, 
  ⟨(some (62)), .load none (.tmp 61), none, []⟩, 
  ⟨(some (63)), .bin .plain .leq (.tmp 62) (.const (.int .i64 0)), none, []⟩, 
  ⟨(some (64)), .move (.tmp 63), none, []⟩, 
  ⟨(some (65)), .fieldAddr 1 (.tmp 8), (some (64, true)), []⟩, 
  ⟨(some (66)), .load none (.tmp 65), (some (64, true)), []⟩, 
  ⟨(some (67)), .bin .plain .geq (.tmp 66) (.const (.int .i64 0)), (some (64, true)), []⟩, 
  ⟨(some (68)), .pick (.tmp 64) (.tmp 67) (.const (.bool false)), none, []⟩, 
  ⟨(some (69)), .move (.tmp 68), none, []⟩, 
  ⟨(some (70)), .call (.const (.fn (.func 20) [] [])) [], (some (69, true)), []⟩, 
  ⟨(some (71)), .pick (.tmp 69) (.tmp 70) (.const (.bool false)), none, []⟩, 
  ⟨(some (4)), .move (.tmp 71), none, []⟩]
def k_law01_FieldKeeps : AFun := { params := 2, ntmps := 72, body := (.seq (.reg k_law01_FieldKeeps_r0 false) (.seq (.reg k_law01_FieldKeeps_r1 false) (.seq (.reg k_law01_FieldKeeps_r2 false) (.seq (.reg k_law01_FieldKeeps_r3 false) (.seq (.reg k_law01_FieldKeeps_r4 false) (.seq (.seq (.reg k_law01_FieldKeeps_r5 false) (.block 0 (.loop k_law01_FieldKeeps_r15))) (.seq (.reg k_law01_FieldKeeps_r16 false) .ret))))))), res := [.tmp 4] }
theorem k_law01_FieldKeeps_ok : cfun Try.prog Try.f14 = k_law01_FieldKeeps := by kernel_rfl


abbrev n_law01_FieldKeeps : Nat := 14
theorem e_law01_FieldKeeps : EntryOK Try.prog n_law01_FieldKeeps k_law01_FieldKeeps := ⟨Try.f14, Try.func14, k_law01_FieldKeeps_ok, by kernel_rfl⟩

attribute [go_sem] k_law01_FieldKeeps_r0 k_law01_FieldKeeps_r1 k_law01_FieldKeeps_r2 k_law01_FieldKeeps_r3 k_law01_FieldKeeps_r4 k_law01_FieldKeeps_r5 k_law01_FieldKeeps_r6 k_law01_FieldKeeps_r7s k_law01_FieldKeeps_r8 k_law01_FieldKeeps_r9 k_law01_FieldKeeps_r10 k_law01_FieldKeeps_r11
attribute [go_sem] k_law01_FieldKeeps_r12 k_law01_FieldKeeps_r13s k_law01_FieldKeeps_r13_sg k_law01_FieldKeeps_r13_st k_law01_FieldKeeps_r14 k_law01_FieldKeeps_r16 k_law01_FieldKeeps_r7_sg k_law01_FieldKeeps_r7_st k_law01_FieldKeeps
end Go.Proofs
namespace Go.Proofs
open Go Go.Sx
attribute [local irreducible] Run

theorem chg_bd {p : Pl} (hp : PlOK p) {a : List Int} (ha : AtOK p a) (e : Int) : -100000000000 ≤ chg p a e ∧ chg p a e ≤ 100000000000 := by
  have hN : p.w * p.h ≤ 256 := Nat.mul_le_mul hp.w.2 hp.h.2
  have := chTo_bd hp ha e (p.w * p.h) (Nat.le_refl _)
  unfold chg; omega
theorem sumN_bd (f : Nat → Int) (h : ∀ k, -100000000000 ≤ f k ∧ f k ≤ 100000000000) : ∀ n : Nat, -100000000000 * (n : Int) ≤ sumN f n ∧ sumN f n ≤ 100000000000 * (n : Int)
  | 0 => by simp [sumN]
  | n + 1 => by have := sumN_bd f h n; have := h n; rw [sumN]; push_cast; omega

set_option maxHeartbeats 8000000 in
set_option maxRecDepth 10000 in
theorem keeps_law (zs : List Int) (hl : zs.length ≤ 9223372036854775807) (a1 : Int) : Ans Try.prog n_law01_FieldKeeps [.view (zs.map (.int .i64)), .int .i64 a1] [] (.bool true) [] := by
  have m1 := mod_in a1 41 (by omega)
  have e1 := mod_pos a1 41 (by omega)
  generalize a1 % 41 = n1 at *
  obtain ⟨n, rfl⟩ : ∃ n : Nat, n1 = n := ⟨n1.toNat, by omega⟩
  refine spec_run e_law01_FieldKeeps fun G => ?_
  simp only [go_sem]
  refine callN1 (newdice_ok zs hl) (by simp only [go_sem]) (dr_bel _ _) (by simp) (by simp) ?_
  generalize seedW zs = w
  simp only [go_sem]
  refine callDN (PlanOf_ok w 8 6 (by omega) (by omega)) rfl (by simp only [go_sem]) (dr_bel _ _) (fun q hq => ⟨pla_bel _ _ _ _ rfl, dr_bel _ _, iv_row _ _ _⟩) (by simp) (by simp) ?_
  rintro ⟨w1, p⟩ hp
  dsimp only at hp ⊢
  have hpo := hp.ok
  have hpl : p.cs.length ≤ 1000000 := by
    rw [hpo.len]; have := Nat.mul_le_mul hpo.w.2 hpo.h.2; omega
  have hmx := hpo.max
  simp only [go_sem, Pl.a, Pl.c4, ren, rens]
  refine callR1 (VoltsOf_ok w1 hpl (by omega) true) (j0 := 0) (j1 := 1) rfl (by simp [go_sem, Pl.a, Pl.c4]) rfl rfl (dr_bel _ _) (iv_row _ _ _) (by decide) (fun q hq => ⟨by simp [go_sem], dr_bel _ _, iv_row _ _ _⟩) (by simp) (by simp) ?_
  rintro ⟨w2, v⟩ hvv
  dsimp only at hvv ⊢
  have hv := hvv.2
  have hvl := hvv.len hp
  simp only [go_sem, ren, rens]
  have hG := Greatest_ok hpl
  have hC := fun e => Charge_ok hpo hv hvl (n := n) (by omega) e
  have A := low_ok hpo v (cnt p v n)
  have B := high_ok hpo v (cnt p v n)
  obtain ⟨g, hg⟩ : ∃ g : Nat, gmax p.cs = g := ⟨(gmax p.cs).toNat, by omega⟩
  have T1 := chg_total hpo A.elec hg.symm
  have T2 := chg_total hpo B.elec hg.symm
  have T3 := total_sub hpo A.sub
  have T4 := total_sup hpo B.sup
  rw [← T1] at T3
  rw [← T2] at T4
  clear T1 T2
  have hle : ∀ i, i < p.w * p.h → gt (lowB p v (cnt p v n)) i ≤ gt (highB p v (cnt p v n)) i := fun i hi => compare hpo.w.2 A.sub B.sup hpo.some (fun j hj hE => by rw [A.elec j hj hE, B.elec j hj hE]; exact Int.le_refl _) i hi
  have ord := fun (e : Int) (he : e ≠ 0) => chg_order hpo A.elec B.elec hle he
  have S1 := fun e => chg_bd hpo (A.at hv) e
  have S2 := fun e => chg_bd hpo (B.at hv) e
  have N1 := fun e (h : e ∉ p.cs) => chg_none p (lowB p v (cnt p v n)) h hpo.len
  have N2 := fun e (h : e ∉ p.cs) => chg_none p (highB p v (cnt p v n)) h hpo.len
  unfold chgA at hC
  generalize hcl : (fun e => chg p (lowB p v (cnt p v n)) e) = cl at *
  generalize hch : (fun e => chg p (highB p v (cnt p v n)) e) = ch at *
  have ecl : ∀ e, chg p (lowB p v (cnt p v n)) e = cl e := fun e => by rw [← hcl]
  have ech : ∀ e, chg p (highB p v (cnt p v n)) e = ch e := fun e => by rw [← hch]
  simp only [ecl, ech] at hC T3 T4 ord S1 S2 N1 N2
  clear hcl hch ecl ech A B hle
  have hg6 : g ≤ 6 := by omega
  have U1 := sumN_bd (fun k => cl ((k : Int) + 1)) fun k => S1 _
  have U2 := sumN_bd (fun k => ch ((k : Int) + 1)) fun k => S2 _
  rw [hg] at hG
  refine loop_ind k_law01_FieldKeeps_r15.eq_1 (fun a : Nat × Heap => a.1 ≤ g) (fun a => g - a.1)
    (fun a => (tsets 72 [(1, .int .i64 a1), (6, .ptr 2 0 0 1), (7, .sl 3 0 v.length), (8, .ptr 4 0 0 1), (9, .int .i64 ((a.1 : Int) + 1))],
      some (Dr w2) :: some (.cells true 1 (iv p.cs)) :: some (.cells false 4 [p.a (.sl 1 0 p.cs.length)]) :: some (.cells false 1 (iv v)) :: some (.cells false 2 [.agg [.int .i64 (sumN (fun k => ch ((k : Int) + 1)) a.1), .int .i64 (sumN (fun k => cl ((k : Int) + 1)) a.1)]]) :: a.2)) (0, []) (Nat.zero_le _) (by simp [go_sem]) rfl ?_
  rintro ⟨k, X⟩ hk ih
  dsimp only at hk ih ⊢
  simp only [go_sem, Pl.a, Pl.c4]
  refine cF hG 6 ⟨.inl (pla_frz 3 (j := 1) (g := true) rfl rfl), trivial⟩ ?_
  by_cases h1 : k < g
  · have h2 : (k : Int) + 1 ≤ g := by omega
    have h3 : IntKind.i64.wrap ((k : Int) + 1 + 1) = ((k + 1 : Nat) : Int) + 1 := by rw [w64 (by omega)]; omega
    have he0 : (k : Int) + 1 ≠ 0 := by omega
    have hCk := hC ((k : Int) + 1)
    have hH := kitHas_ok (l := p.cs) ((k : Int) + 1) hpl
    have V1 := U1 k
    have V2 := U2 k
    have V3 := S1 ((k : Int) + 1)
    have V4 := S2 ((k : Int) + 1)
    have V5 := ord _ he0
    have ihn := fun X => ih (k + 1, X) (by dsimp only; omega) h1
    simp only [sumN] at ihn
    clear ih
    generalize sumN (fun k => ch ((k : Int) + 1)) k = sh at *
    generalize sumN (fun k => cl ((k : Int) + 1)) k = sl at *
    by_cases hb : (k : Int) + 1 ∈ p.cs
    · rw [if_pos ⟨he0, hb⟩] at hCk
      generalize cl ((k : Int) + 1) = c1 at *
      generalize ch ((k : Int) + 1) = c2 at *
      simp only [go_sem, h2, Pl.a, Pl.c4]
      refine dP e1 ?_
      simp only [go_sem]
      refine dF hCk 6 [1, 3] ⟨.inl (pla_frz 3 (j := 1) (g := true) (onlyR_row rfl (by simp)) rfl), .inl (iv_frz_sl (d := 4) (j := 3) (g := false) (onlyR_row rfl (by simp)) rfl), .inl rfl, .inl rfl, trivial⟩ ?_ (hr := by simp only [go_sem, Rg.v]) (hnv := by simp only [go_sem, Rg.v])
      have n1 : ¬ c1 < c2 := by omega
      have w1 : IntKind.i64.wrap (sh + c2) = sh + c2 := w64 (by omega)
      have w2' : IntKind.i64.wrap (sl + c1) = sl + c1 := w64 (by omega)
      simp only [go_sem, Rg.v, n1, w1, w2', h3, Pl.a, Pl.c4]
      exact ⟨by simp <;> omega, by simp <;> omega, ihn _ _ (by simp [go_sem])⟩
    · rw [if_neg fun h => hb h.2] at hCk
      simp only [N1 _ hb, N2 _ hb, Int.add_zero] at ihn
      simp only [go_sem, h2, Pl.a, Pl.c4]
      refine dP e1 ?_
      simp only [go_sem]
      refine dF hCk 6 [1, 3] ⟨.inl (pla_frz 3 (j := 1) (g := true) (onlyR_row rfl (by simp)) rfl), .inl (iv_frz_sl (d := 4) (j := 3) (g := false) (onlyR_row rfl (by simp)) rfl), .inl rfl, .inl rfl, trivial⟩ ?_ (hr := by simp only [go_sem, Rg.v]) (hnv := by simp only [go_sem, Rg.v])
      have hb' : decide ((k : Int) + 1 ∈ p.cs) = false := by simp [hb]
      rw [hb'] at hH
      simp only [go_sem, Rg.v, h3, Pl.a, Pl.c4]
      refine ⟨by simp <;> omega, ?_⟩
      refine cF hH 6 ⟨.inl (iv_frz_sl (d := 4) (j := 1) (g := true) rfl rfl), .inl rfl, trivial⟩ ?_
      simp only [go_sem, Rg.v, h3, Pl.a, Pl.c4]
      exact ihn _ _ (by simp [go_sem])
  · have h2 : ¬ (k : Int) + 1 ≤ g := by omega
    have hkg : k = g := by omega
    subst hkg
    generalize sumN (fun k => ch ((k : Int) + 1)) k = sh at *
    generalize sumN (fun k => cl ((k : Int) + 1)) k = sl at *
    have q1 : sh ≤ 0 := T4
    have q2 : 0 ≤ sl := T3
    simp only [go_sem, h2, Pl.a, Pl.c4, q1, q2]
    refine cP awake_ok ?_
    simp only [go_sem]
end Go.Proofs
namespace Go.Proofs
open Go Go.Sx
attribute [local irreducible] Run

/-- The greatest voltage at one electrode, none at the others. -/
def unitV (g : Nat) (a : Int) : List Int := (List.replicate g 0).set (a - 1).toNat 1000000
theorem unitV_len (g : Nat) (a : Int) : (unitV g a).length = g := by simp [unitV]
theorem unitV_vo {g : Nat} {a : Int} (ha : 1 ≤ a ∧ a ≤ g) {c : Int} (hc : 1 ≤ c) : vo (unitV g a) c = if c = a then 1000000 else 0 := by
  unfold vo unitV
  rw [gt_set _ _ _ _ (by simp; omega)]
  by_cases h : c = a
  · rw [if_pos (by rw [h]), if_pos h]
  · rw [if_neg (by omega), if_neg h]
    unfold gt
    rw [List.getD_eq_getElem?_getD, List.getElem?_replicate]
    split <;> rfl
theorem unitV_vok (g : Nat) (a : Int) : VOK (unitV g a) := fun x hx => by
  rcases List.mem_or_eq_of_mem_set hx with h | h
  · rw [List.mem_replicate] at h; omega
  · omega

theorem checkOf_ok {p : Pl} (hp : PlOK p) {n : Nat} (hn : n ≤ 200) {a k : Int} (ha : a ≠ 0) (hk : k ≠ 0) (hak : a ≠ k) : Ans Try.prog n_field_checkOf [p.v, .int .i64 n, vw [a, k]] [] (.int .i64 (if a ∈ p.cs ∧ k ∈ p.cs then 0 else 7)) [] := by
  have hN : p.w * p.h ≤ 256 := Nat.mul_le_mul hp.w.2 hp.h.2
  have hlen := hp.len
  have c1 := Check_ok hp
  have c2 := checkSweeps_ok (n := n) ⟨by omega, by omega⟩
  have c3 := has_ok (p := p) (by omega) a
  have c4 := has_ok (p := p) (by omega) k
  have c5 := Contains_ok (l := []) a (by simp)
  have c6 := Contains_ok (l := [a]) k (by simp)
  have u1 : IntKind.i64.wrap 1 = 1 := rfl
  have u2 : IntKind.i64.wrap 2 = 2 := rfl
  refine spec_run e_field_checkOf fun G => ?_
  simp only [go_sem, Pl.v, Pl.a, Pl.c4, vw]
  refine cP c1 ?_
  simp only [go_sem]
  refine cP c2 ?_
  simp only [go_sem, List.map_cons, List.map_nil]
  refine loop_body 3000 k_field_checkOf_r13.eq_1 ?_
  simp only [go_sem, Pl.v, Pl.a, Pl.c4, vw]
  refine cP c3 ?_
  by_cases h1 : a ∈ p.cs
  · have h1' : decide (a ≠ 0 ∧ a ∈ p.cs) = true := by simp [ha, h1]
    rw [h1']
    simp only [go_sem]
    refine loop_body 3000 k_field_checkOf_r13.eq_1 ?_
    simp only [go_sem, Pl.v, Pl.a, Pl.c4, vw, u1, u2]
    refine cP c4 ?_
    by_cases h2 : k ∈ p.cs
    · have h2' : decide (k ≠ 0 ∧ k ∈ p.cs) = true := by simp [hk, h2]
      rw [h2', if_pos ⟨h1, h2⟩]
      simp only [go_sem, u1, u2]
      refine loop_body 3000 k_field_checkOf_r13.eq_1 ?_
      simp only [go_sem, Pl.v, Pl.a, Pl.c4, vw, u1, u2]
      refine loop_body 3000 k_field_checkOf_r20.eq_1 ?_
      simp only [go_sem, Pl.v, Pl.a, Pl.c4, vw, u1, u2]
      have d5 : decide (a ∈ ([] : List Int)) = false := by simp
      have d6 : decide (k ∈ [a]) = false := by simp [Ne.symm hak]
      rw [d5] at c5
      rw [d6] at c6
      refine cP c5 ?_
      simp only [go_sem, u1, u2]
      refine loop_body 3000 k_field_checkOf_r20.eq_1 ?_
      simp only [go_sem, Pl.v, Pl.a, Pl.c4, vw, u1, u2]
      refine cP c6 ?_
      simp only [go_sem, u1, u2]
      refine loop_body 3000 k_field_checkOf_r20.eq_1 ?_
      simp only [go_sem, Pl.v, Pl.a, Pl.c4, vw, u1, u2]
    · have h2' : decide (k ≠ 0 ∧ k ∈ p.cs) = false := by simp [h2]
      rw [h2', if_neg fun h => h2 h.2]
      simp only [go_sem]
  · have h1' : decide (a ≠ 0 ∧ a ∈ p.cs) = false := by simp [h1]
    rw [h1', if_neg fun h => h1 h.1]
    simp only [go_sem]

theorem VLen_unit {p : Pl} (hp : PlOK p) {g : Nat} (hg : (g : Int) = gmax p.cs) (a : Int) : VLen p (unitV g a) := fun c hc => by rw [unitV_len, hg]; exact hp.max.2.2 c hc

set_option maxHeartbeats 2000000 in
theorem influence_ok {p : Pl} (hp : PlOK p) {g : Nat} (hg : (g : Int) = gmax p.cs) {n : Nat} (hn : n ≤ 200) {a k : Int} (ha : 1 ≤ a ∧ a ≤ g) :
    Ans Try.prog n_field_influence [p.v, .int .i64 n, .int .i64 a, .int .i64 k] [] (Rg.v ⟨- chg p (lowB p (unitV g a) (cnt p (unitV g a) n)) k, - chg p (highB p (unitV g a) (cnt p (unitV g a) n)) k⟩) [] := by
  have hN : p.w * p.h ≤ 256 := Nat.mul_le_mul hp.w.2 hp.h.2
  have hlen := hp.len
  have hm := max_ok (l := p.cs) hp.ne (fun c hc => (hp.cell c hc).1) (by omega)
  have hmx := hp.max
  rw [← hg] at hm
  have hv := unitV_vok g a
  have hs := solve_ok hp hv (VLen_unit hp hg a) hn
  have A := (low_ok hp (unitV g a) (cnt p (unitV g a) n)).at hv
  have B := (high_ok hp (unitV g a) (cnt p (unitV g a) n)).at hv
  have hc := charge_ok hp A B (cnt p (unitV g a) n) (stl p (unitV g a) (cnt p (unitV g a) n)) k
  have L1 := A.len; have L2 := B.len
  rw [← hlen] at L1 L2
  have b1 := chg_bd hp A k
  have b2 := chg_bd hp B k
  have hul := unitV_len g a
  have hu : (iv (List.replicate g 0)).set (a - 1).toNat (.int .i64 1000000) = iv (unitV g a) := by rw [iv_set]; rfl
  have hr0 : List.replicate g (AVal.int .i64 0) = iv (List.replicate g 0) := by simp [iv]
  generalize lowB p (unitV g a) (cnt p (unitV g a) n) = la at *
  generalize highB p (unitV g a) (cnt p (unitV g a) n) = ha' at *
  generalize stl p (unitV g a) (cnt p (unitV g a) n) = t1 at *
  generalize cnt p (unitV g a) n = c1 at *
  generalize unitV g a = u at *
  have q1 : (0 : Int) ≤ g := by omega
  have q2 : (g : Int) ≤ 2 ^ 44 := by omega
  have q3 : (g : Int) * 8 ≤ 2 ^ 44 := by omega
  have w1 : IntKind.i64.wrap (a - 1) = a - 1 := w64 (by omega)
  have k1 : ¬ a - 1 < 0 := by omega
  have k2 : a - 1 < g := by omega
  have k3 : (a - 1).toNat < g := by omega
  have hge : (iv (List.replicate g 0))[(a - 1).toNat]? = some (.int .i64 (gt (List.replicate g 0) (a - 1).toNat)) := iv_get (by simpa using k3)
  generalize gt (List.replicate g 0) (a - 1).toNat = z0 at *
  refine spec_run e_field_influence fun G => ?_
  simp only [go_sem, Pl.v, Pl.a, Pl.c4, vw]
  refine cP hm ?_
  simp only [go_sem, q1, q2, q3, Int.toNat_natCast, hr0, w1, k1, k2, hge, hu]
  refine ⟨Int.le_refl _, ?_⟩
  refine dFN2 hs 6 [2] ⟨.inl (plv_frz 3 _ p), .inl (iv_frz_sl (d := 4) (j := 2) (g := false) (onlyR_row rfl (by simp)) hul.symm), .inl rfl, trivial⟩ ?_ (by simp [go_sem, fldV]) (by simp only [go_sem, fldV]) (iv_row _ _ _) (iv_nv _ _) (iv_row _ _ _) (iv_nv _ _) (by simp [go_sem])
  simp only [go_sem, ren, rens, fldV, Pl.v, Pl.a, Pl.c4, vw]
  refine dF hc 6 [3, 4] ⟨.inl (plv_frz 3 _ p), .inl (fldW_frz (j0 := 3) (j1 := 4) (onlyR_row rfl (by simp)) (onlyR_row rfl (by simp)) L1.symm L2.symm), .inl rfl, trivial⟩ ?_
  have z1 : IntKind.i64.wrap (0 - chg p la k) = - chg p la k := by rw [w64 (by omega)]; omega
  have z2 : IntKind.i64.wrap (0 - chg p ha' k) = - chg p ha' k := by rw [w64 (by omega)]; omega
  simp only [go_sem, Rg.v, z1, z2]

/-- What is answered of an influence. -/
def inflA (p : Pl) (n : Nat) (a k : Int) (g : Nat) : AVal :=
  if a ∈ p.cs ∧ k ∈ p.cs then .tup [Rg.v ⟨- chg p (lowB p (unitV g a) (cnt p (unitV g a) n)) k, - chg p (highB p (unitV g a) (cnt p (unitV g a) n)) k⟩, .int .i64 0] else .tup [Rg.v ⟨0, 0⟩, .int .i64 7]

theorem Influence_ok {p : Pl} (hp : PlOK p) {g : Nat} (hg : (g : Int) = gmax p.cs) {n : Nat} (hn : n ≤ 200) {a k : Int} (ha : 1 ≤ a) (hk : 1 ≤ k) (hak : a ≠ k) :
    Ans Try.prog n_field_Influence [p.v, .int .i64 n, .int .i64 a, .int .i64 k] [] (inflA p n a k g) [] := by
  have h1 := checkOf_ok hp hn (a := a) (k := k) (by omega) (by omega) hak
  unfold inflA
  refine spec_run e_field_Influence fun G => ?_
  simp only [go_sem, Pl.v, Pl.a, Pl.c4, vw]
  refine cF h1 6 ⟨.inl (plv_frz 3 _ p), .inl rfl, .inl (iv_frz_sl (d := 4) (j := 2) (g := false) (l := [a, k]) rfl rfl), trivial⟩ ?_
  by_cases hb : a ∈ p.cs ∧ k ∈ p.cs
  · rw [if_pos hb, if_pos hb]
    have hle : a ≤ g := by rw [hg]; exact hp.max.2.2 a hb.1
    have h2 := influence_ok hp hg hn (a := a) (k := k) ⟨ha, hle⟩
    simp only [go_sem, Pl.v, Pl.a, Pl.c4, vw]
    refine cF h2 6 ⟨.inl (plv_frz 3 _ p), .inl rfl, .inl rfl, .inl rfl, trivial⟩ ?_ (hr := by simp only [go_sem, Rg.v]) (hnv := by simp only [go_sem, Rg.v])
    simp only [go_sem, Rg.v]
  · rw [if_neg hb, if_neg hb]
    simp only [go_sem, Rg.v]
end Go.Proofs
namespace Go.Proofs
open Go Go.Sx

-- 16: thermion/thermionlaw01.FieldScreens
def k_law01_FieldScreens_r0 : List AOper := [
  ⟨(some (6)), .move (.const (.bool false)), none, []⟩]
def k_law01_FieldScreens_r1 : List AOper := [
  ⟨(some (14)), .move (.tmp 0), none, []⟩, 
  ⟨(some (15)), .call (.const (.fn (.func 22) [] [])) [.tmp 14], none, []⟩, 
  ⟨(some (16)), .call (.const (.fn (.func 21) [] [])) [.tmp 15, .const (.int .i64 8), .const (.int .i64 6)], none, []⟩, 
  ⟨(some (7)), .box (.const (.agg [.int .i64 0, .int .i64 0, .bool false, .nilsl])), none, []⟩, 
  ⟨none, .store 4 (.tmp 7) (.tmp 16), none, []⟩]
def k_law01_FieldScreens_r2 : List AOper := [
  ⟨(some (17)), .move (.tmp 1), none, []⟩, 
  ⟨(some (18)), .fieldAddr 3 (.tmp 7), none, []⟩, 
  ⟨(some (19)), .load none (.tmp 18), none, []⟩, 
  ⟨(some (20)), .len false (.tmp 19), none, []⟩, 
  ⟨(some (21)), .call (.const (.fn (.func 23) [] [])) [.tmp 17, .tmp 20], none, []⟩, 
  ⟨(some (1)), .move (.tmp 21), none, []⟩]
def k_law01_FieldScreens_r3 : List AOper := [
  ⟨(some (22)), .fieldAddr 3 (.tmp 7), none, []⟩, 
  ⟨(some (23)), .load none (.tmp 22), none, []⟩, 
  ⟨(some (24)), .move (.tmp 1), none, []⟩, 
  ⟨(some (25)), .indexAddr 1 (.tmp 23) (.tmp 24), none, []⟩, 
  ⟨(some (26)), .load none (.tmp 25), none, []⟩, 
  ⟨(some (27)), .bin .plain .gtr (.tmp 26) (.const (.int .i64 0)), none, []⟩, 
  ⟨(some (28)), .move (.tmp 27), none, []⟩, 
  ⟨(some (29)), .fieldAddr 3 (.tmp 7), (some (28, false)), []⟩, 
  ⟨(some (30)), .load none (.tmp 29), (some (28, false)), []⟩, 
  ⟨(some (31)), .call (.const (.fn (.func 59) [] [])) [.tmp 30, .const (.int .i64 2)], (some (28, false)), []⟩, 
  ⟨(some (32)), .not (.tmp 31), (some (28, false)), []⟩, 
  ⟨(some (33)), .pick (.tmp 28) (.const (.bool true)) (.tmp 32), none, []⟩, 
  ⟨(some (34)), .move (.tmp 33), none, []⟩, 
  ⟨(some (35)), .fieldAddr 3 (.tmp 7), (some (34, false)), []⟩, 
  ⟨(some (36)), .load none (.tmp 35), (some (34, false)), []⟩, 
  ⟨(some (37)), .call (.const (.fn (.func 59) [] [])) [.tmp 36, .const (.int .i64 1)], (some (34, false)), []⟩, 
  ⟨(some (38)), .not (.tmp 37), (some (34, false)), []⟩, 
  ⟨(some (39)), .pick (.tmp 34) (.const (.bool true)) (.tmp 38), none, []⟩]
def k_law01_FieldScreens_r4 : List AOper := [
  ⟨(some (40)), .call (.const (.fn (.func 20) [] [])) [], none, []⟩, 
  ⟨(some (6)), .move (.tmp 40), none, []⟩]
def k_law01_FieldScreens_r5 : List AOper := [
  ⟨(some (41)), .load (some (4)) (.tmp 7), none, []⟩, 
  ⟨(some (42)), .call (.const (.fn (.func 24) [] [])) [.tmp 41], none, []⟩, 
  ⟨(some (8)), .box (.const (.agg [.int .i64 0, .int .i64 0, .bool false, .nilsl])), none, []⟩, 
  ⟨none, .store 4 (.tmp 8) (.tmp 42), none, []⟩]
def k_law01_FieldScreens_r6 : List AOper := [
  ⟨(some (43)), .fieldAddr 3 (.tmp 8), none, []⟩, 
  ⟨(some (44)), .load none (.tmp 43), none, []⟩, 
  ⟨(some (45)), .move (.tmp 1), none, []⟩, 
  ⟨(some (46)), .indexAddr 1 (.tmp 44) (.tmp 45), none, []⟩, 
  ⟨none, .store 1 (.tmp 46) (.const (.int .i64 4)), none, []⟩]
def k_law01_FieldScreens_r7 : List AOper := [
  ⟨(some (47)), .move (.tmp 2), none, []⟩, 
  ⟨(some (48)), .call (.const (.fn (.func 23) [] [])) [.tmp 47, .const (.int .i64 41)], none, []⟩, 
  ⟨(some (9)), .move (.tmp 48), none, []⟩]
def k_law01_FieldScreens_r8 : List AOper := [
  ⟨(some (50)), .load (some (4)) (.tmp 7), none, []⟩, 
  ⟨(some (51)), .move (.tmp 9), none, []⟩, 
  ⟨(some (52)), .call (.const (.fn (.func 47) [] [])) [.tmp 50, .tmp 51, .const (.int .i64 2), .const (.int .i64 1)], none, []⟩, 
  ⟨(some (49)), .move (.tmp 52), none, []⟩, 
  ⟨(some (53)), .extract (.tmp 49) 0, none, []⟩, 
  ⟨(some (54)), .extract (.tmp 49) 1, none, []⟩, 
  ⟨(some (10)), .box (.const (.agg [.int .i64 0, .int .i64 0])), none, []⟩, 
  ⟨none, .store 2 (.tmp 10) (.tmp 53), none, []⟩, 
  ⟨(some (11)), .move (.tmp 54), none, []⟩]
def k_law01_FieldScreens_r9 : List AOper := [
  ⟨(some (56)), .load (some (4)) (.tmp 8), none, []⟩, 
  ⟨(some (57)), .move (.tmp 9), none, []⟩, 
  ⟨(some (58)), .call (.const (.fn (.func 47) [] [])) [.tmp 56, .tmp 57, .const (.int .i64 2), .const (.int .i64 1)], none, []⟩, 
  ⟨(some (55)), .move (.tmp 58), none, []⟩, 
  ⟨(some (59)), .extract (.tmp 55) 0, none, []⟩, 
  ⟨(some (60)), .extract (.tmp 55) 1, none, []⟩, 
  ⟨(some (12)), .box (.const (.agg [.int .i64 0, .int .i64 0])), none, []⟩, 
  ⟨none, .store 2 (.tmp 12) (.tmp 59), none, []⟩, 
  ⟨(some (13)), .move (.tmp 60), none, []⟩]
def k_law01_FieldScreens_r10 : List AOper := [
  ⟨(some (61)), .move (.tmp 11), none, []⟩, 
  ⟨(some (62)), .bin .plain .eql (.tmp 61) (.const (.int .i64 0)), none, []⟩, 
  ⟨(some (63)), .move (.tmp 62), none, []⟩, 
  ⟨(some (64)), .move (.tmp 13), (some (63, true)), []⟩, 
  ⟨(some (65)), .bin .plain .eql (.tmp 64) (.const (.int .i64 0)), (some (63, true)), []⟩, 
  ⟨(some (66)), .pick (.tmp 63) (.tmp 65) (.const (.bool false)), none, []⟩, 
  ⟨(some (67)), .move (.tmp 66), none, []⟩, 
  ⟨(some (68)), .fieldAddr 0 (.tmp 12), (some (67, true)), []⟩, 
  ⟨(some (69)), .load none (.tmp 68), (some (67, true)), []⟩, 
  ⟨(some (70)), .fieldAddr 1 (.tmp 10), (some (67, true)), []⟩, 
  ⟨(some (71)), .load none (.tmp 70), (some (67, true)), []⟩, 
  ⟨(some (72)), .bin .plain .leq (.tmp 69) (.tmp 71), (some (67, true)), []⟩, 
  ⟨(some (73)), .pick (.tmp 67) (.tmp 72) (.const (.bool false)), none, []⟩, 
  ⟨(some (74)), .move (.tmp 73), none, []⟩, 
  ⟨(some (75)), .call (.const (.fn (.func 20) [] [])) [], (some (74, true)), []⟩, 
  ⟨(some (76)), .pick (.tmp 74) (.tmp 75) (.const (.bool false)), none, []⟩, 
  ⟨(some (6)), .move (.tmp 76), none, []⟩]
def k_law01_FieldScreens : AFun := { params := 3, ntmps := 77, body := (.seq (.reg k_law01_FieldScreens_r0 false) (.seq (.reg k_law01_FieldScreens_r1 false) (.seq (.reg k_law01_FieldScreens_r2 false) (.seq (.seq (.reg k_law01_FieldScreens_r3 false) (.cond (.tmp 39) (.seq (.reg k_law01_FieldScreens_r4 false) .ret) .skip)) (.seq (.reg k_law01_FieldScreens_r5 false) (.seq (.reg k_law01_FieldScreens_r6 false) (.seq (.reg k_law01_FieldScreens_r7 false) (.seq (.reg k_law01_FieldScreens_r8 false) (.seq (.reg k_law01_FieldScreens_r9 false) (.seq (.reg k_law01_FieldScreens_r10 false) .ret)))))))))), res := [.tmp 6] }
theorem k_law01_FieldScreens_ok : cfun Try.prog Try.f16 = k_law01_FieldScreens := by kernel_rfl


abbrev n_law01_FieldScreens : Nat := 16
theorem e_law01_FieldScreens : EntryOK Try.prog n_law01_FieldScreens k_law01_FieldScreens := ⟨Try.f16, Try.func16, k_law01_FieldScreens_ok, by kernel_rfl⟩

attribute [go_sem] k_law01_FieldScreens_r0 k_law01_FieldScreens_r1 k_law01_FieldScreens_r2 k_law01_FieldScreens_r3 k_law01_FieldScreens_r4 k_law01_FieldScreens_r5 k_law01_FieldScreens_r6 k_law01_FieldScreens_r7 k_law01_FieldScreens_r8 k_law01_FieldScreens_r9 k_law01_FieldScreens_r10 k_law01_FieldScreens
end Go.Proofs
