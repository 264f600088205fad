/- FieldMirrors. -/
import Derived.Test.YtmkijjaecnnonaaPE
set_option linter.unusedSimpArgs false
set_option linter.unusedVariables false
namespace Go.Proofs
open Go Go.Sx
attribute [local irreducible] Run

def mirA (p : Pl) (l : List Int) : Heap := [some (.cells false 4 [p.v]), some (.cells false 4 [.agg [.int .i64 0, .int .i64 0, .bool false, .nilsl]]), some (.cells true 1 (iv l)), some (.cells false 4 [p.a (.sl 2 0 p.cs.length)])]
def mirB (p : Pl) (l f : List Int) (g : Option Row) : Heap := [some (.cells false 4 [p.v]), some (.cells false 4 [.agg [.int .i64 0, .int .i64 0, .bool false, .nilsl]]), some (.cells true 1 (iv l)), some (.cells false 4 [p.a (.sl 2 0 p.cs.length)]), g, some (.cells true 1 (iv f))]

set_option maxHeartbeats 4000000 in
set_option maxRecDepth 10000 in
theorem mirrored_ok {p : Pl} (hp : PlOK p) (r : Bool) : Ans Try.prog n_law01_mirrored [p.v, .bool r] [] (.tup [p.a (.sl 0 0 p.cs.length), .sl 1 0 p.cs.length]) [some (.cells true 1 (iv (mirL p r))), some (.cells true 1 (iv (frm p r)))] := by
  have hN : p.cs.length ≤ 256 := by
    rw [hp.len]; have := Nat.mul_le_mul hp.w.2 hp.h.2; omega
  have hN1 : 1 ≤ p.cs.length := by
    obtain ⟨i, hi, _⟩ := hp.some
    rw [hp.len]; omega
  have hw := hp.w
  have hh := hp.h
  refine Ans.keep (run_fn e_law01_mirrored fun G => ?_) (by simp) (by simp [go_sem, Pl.a, Pl.c4]) ⟨iv_row _ _ _, iv_row _ _ _, trivial⟩
  have hc := Copy_ok (p := p) (by omega) hN1
  simp only [go_sem, Pl.v, Pl.a, Pl.c4, vw]
  refine cN1 hc ?_ (hr := by simp [go_sem, Pl.a, Pl.c4]) (hx := iv_row _ _ _)
  simp only [go_sem, Pl.a, Pl.c4, ren, rens]
  have hml := mirL_len p r
  have hfl := frm_len p r
  have hm0 : p.cs = mixTo (mirL p r) p.cs 0 := by simp [mixTo]
  refine loop_ind k_law01_mirrored_r11.eq_1 (fun a : Nat × AVal × Heap => a.1 ≤ p.cs.length ∧ ((a.1 = 0 ∧ a.2.1 = .nilsl ∧ a.2.2 = mirA p (mixTo (mirL p r) p.cs a.1)) ∨ (1 ≤ a.1 ∧ a.2.1 = .sl 5 0 a.1 ∧ ∃ g X, a.2.2 = mirB p (mixTo (mirL p r) p.cs a.1) ((frm p r).take a.1) g ++ X))) (fun a => p.cs.length - a.1)
    (fun a => (tsets 70 [(1, .bool r), (2, .ptr 0 0 0 1), (4, .ptr 1 0 0 1), (6, .ptr 3 0 0 1), (7, a.2.1), (8, .int .i64 a.1)], a.2.2)) (0, .nilsl, mirA p (mixTo (mirL p r) p.cs 0)) ⟨Nat.zero_le _, .inl ⟨rfl, rfl, rfl⟩⟩ (by simp [go_sem]) (by rw [← hm0]; rfl) ?_
  rintro ⟨i, t7, H⟩ ⟨hi, hH⟩ ih
  dsimp only at hi hH ih ⊢
  by_cases h1 : i < p.cs.length
  · have h2 : (i : Int) < p.cs.length := by omega
    have h3 := idx_next h1 (by omega)
    have n0 : ¬ (i : Int) < 0 := by omega
    have hiN : i < p.w * p.h := by rw [← hp.len]; exact h1
    have hk := mir_lt p r hiN
    rw [← hp.len] at hk
    obtain ⟨c1, c2, c3⟩ := cell_lt hiN
    have f1 := mix_len (a := mirL p r) (b := p.cs) hml (i := i) (by omega)
    rw [hml] at f1
    have s1 := mix_set (a := mirL p r) (b := p.cs) hml (i := i) (by omega)
    rw [gt_mirL p r h1] at s1
    have hT : (frm p r).take (i + 1) = (frm p r).take i ++ [(mir p r i : Int)] := by
      rw [List.take_add_one, gt_get (by omega), gt_frm p r h1]; rfl
    have hTl : ((frm p r).take i).length = i := by simp; omega
    have gk := gt_get hk
    have gi : (iv (mixTo (mirL p r) p.cs i))[i]? = some (.int .i64 (gt (mixTo (mirL p r) p.cs i) i)) := iv_get (by omega)
    have hmd : mir p r i = if r then (p.h - 1 - i / p.w) * p.w + i % p.w else i / p.w * p.w + (p.w - 1 - i % p.w) := rfl
    have e1 := nat_rem i p.w
    have e2 := nat_quo i p.w
    have wne : ¬ (p.w : Int) = 0 := by omega
    generalize mir p r i = k at *
    generalize hx0 : i % p.w = x0 at *
    generalize hy0 : i / p.w = y0 at *
    have w1 : IntKind.i64.wrap (p.w - 1) = p.w - 1 := w64 (by omega)
    have w2 : IntKind.i64.wrap (p.h - 1) = p.h - 1 := w64 (by omega)
    have w3 : IntKind.i64.wrap ((x0 : Nat) : Int) = x0 := w64 (by omega)
    have w4 : IntKind.i64.wrap ((y0 : Nat) : Int) = y0 := w64 (by omega)
    have w5 : IntKind.i64.wrap ((p.w : Int) - 1 - x0) = ((p.w - 1 - x0 : Nat) : Int) := by rw [w64 (by omega)]; omega
    have w6 : IntKind.i64.wrap ((p.h : Int) - 1 - y0) = ((p.h - 1 - y0 : Nat) : Int) := by rw [w64 (by omega)]; omega
    have hg2 : ∀ Y : Nat, Y < p.h → IntKind.i64.wrap ((Y : Int) * p.w) = ((Y * p.w : Nat) : Int) := fun Y hY => by
      have : Y * p.w ≤ 16 * 16 := Nat.mul_le_mul (by omega) hw.2
      rw [w64 (by push_cast at *; omega)]; push_cast; rfl
    have w7 := hg2 y0 c2
    have w8 := hg2 (p.h - 1 - y0) (by omega)
    have hk64 : IntKind.i64.wrap ((k : Nat) : Int) = k := w64 (by omega)
    have nk : ¬ (k : Int) < 0 := by omega
    have hkN : (k : Int) < p.cs.length := by omega
    have ihn := fun t7' H' => ih (i + 1, t7', H') (by dsimp only; omega)
    clear ih
    rcases hH with ⟨hi0, rfl, rfl⟩ | ⟨hi1, rfl, g, X, rfl⟩
    · have hT0 : (frm p r).take i = [] := by rw [hi0]; rfl
      rw [hT0, List.nil_append] at hT
      have hk1 : iv [(k : Int)] = [.int .i64 k] := rfl
      simp only [hT, mirB, hk1] at ihn
      simp only [hi0] at hTl
      cases r with
      | true =>
        rw [if_pos rfl] at hmd
        have w9 : IntKind.i64.wrap (((p.h - 1 - y0) * p.w : Nat) + (x0 : Int)) = k := by rw [w64 (by omega)]; omega
        simp only [mirA]
        simp only [go_sem, Pl.v, Pl.a, Pl.c4, vw, List.length_map, h2, e1, e2, wne, w1, w2, w3, w4, w5, w6, w7, w8, w9, gk, nk, hkN, n0, iv_len, f1, gi, iv_set, s1, h3, hTl, iv_app]
        refine ⟨by decide, ?_⟩
        have q := fun g X ρ' => ihn _ _ ⟨h1, .inr ⟨by omega, rfl, g, X, rfl⟩⟩ ρ'
        exact q _ [] _ (by simp [go_sem, hi0])
      | false =>
        simp only [Bool.false_eq_true, if_false] at hmd
        have w9 : IntKind.i64.wrap ((y0 * p.w : Nat) + ((p.w - 1 - x0 : Nat) : Int)) = k := by rw [w64 (by omega)]; omega
        simp only [mirA]
        simp only [go_sem, Pl.v, Pl.a, Pl.c4, vw, List.length_map, h2, e1, e2, wne, w1, w2, w3, w4, w5, w6, w7, w8, w9, gk, nk, hkN, n0, iv_len, f1, gi, iv_set, s1, h3, hTl, iv_app]
        refine ⟨by decide, ?_⟩
        have q := fun g X ρ' => ihn _ _ ⟨h1, .inr ⟨by omega, rfl, g, X, rfl⟩⟩ ρ'
        exact q _ [] _ (by simp [go_sem, hi0])
    · simp only [hT, mirB, List.cons_append, List.nil_append] at ihn
      cases r with
      | true =>
        rw [if_pos rfl] at hmd
        have w9 : IntKind.i64.wrap (((p.h - 1 - y0) * p.w : Nat) + (x0 : Int)) = k := by rw [w64 (by omega)]; omega
        simp only [mirB, List.cons_append, List.nil_append]
        simp only [go_sem, Pl.v, Pl.a, Pl.c4, vw, List.length_map, h2, e1, e2, wne, w1, w2, w3, w4, w5, w6, w7, w8, w9, gk, nk, hkN, n0, iv_len, f1, gi, iv_set, s1, h3, hTl, iv_app]
        refine ⟨by omega, ?_⟩
        have q := fun g X ρ' => ihn _ _ ⟨h1, .inr ⟨by omega, rfl, g, X, rfl⟩⟩ ρ'
        exact q _ _ _ (by simp [go_sem])
      | false =>
        simp only [Bool.false_eq_true, if_false] at hmd
        have w9 : IntKind.i64.wrap ((y0 * p.w : Nat) + ((p.w - 1 - x0 : Nat) : Int)) = k := by rw [w64 (by omega)]; omega
        simp only [mirB, List.cons_append, List.nil_append]
        simp only [go_sem, Pl.v, Pl.a, Pl.c4, vw, List.length_map, h2, e1, e2, wne, w1, w2, w3, w4, w5, w6, w7, w8, w9, gk, nk, hkN, n0, iv_len, f1, gi, iv_set, s1, h3, hTl, iv_app]
        refine ⟨by omega, ?_⟩
        have q := fun g X ρ' => ihn _ _ ⟨h1, .inr ⟨by omega, rfl, g, X, rfl⟩⟩ ρ'
        exact q _ _ _ (by simp [go_sem])
  · have h2 : ¬ (i : Int) < p.cs.length := by omega
    have hie : i = p.cs.length := by omega
    rcases hH with ⟨hi0, rfl, rfl⟩ | ⟨hi1, rfl, g, X, rfl⟩
    · omega
    have hf1 : mixTo (mirL p r) p.cs i = mirL p r := by have := mix_end hml; rwa [hml, ← hie] at this
    have hf2 : (frm p r).take i = frm p r := List.take_of_length_le (by omega)
    rw [hf1, hf2]
    clear ih
    simp only [mirB, List.cons_append, List.nil_append, go_sem, Pl.v, Pl.a, Pl.c4, vw, List.length_map, h2]
    rw [hie]
    exact kept_pair 2 5 (by omega) (by simp [ren, rens]) (iv_row _ _ _) (iv_row _ _ _) rfl rfl

theorem mxL_or : ∀ (l : List Int) (a : Int), mxL a l = a ∨ mxL a l ∈ l
  | [], _ => .inl rfl
  | c :: l, a => by
    rw [mxL]
    rcases mxL_or l (if a < c then c else a) with h | h
    · rw [h]; split
      · exact .inr (by simp)
      · exact .inl rfl
    · exact .inr (by simp [h])
theorem gmax_mirror {p : Pl} (hp : PlOK p) (r : Bool) : gmax (p.mirror r).cs = gmax p.cs := by
  have h1 := hp.max
  have h2 := (mirror_ok hp r).max
  have sub1 : ∀ c ∈ (p.mirror r).cs, c ∈ p.cs := fun c hc => by
    obtain ⟨i, hi, rfl⟩ := mem_gt (l := mirL p r) hc
    rw [mirL_len] at hi
    rw [gt_mirL p r hi]
    exact hp.mem (mir_lt p r (by rw [← hp.len]; exact hi))
  have sub2 : ∀ c ∈ p.cs, c ∈ (p.mirror r).cs := fun c hc => by
    obtain ⟨i, hi, rfl⟩ := mem_gt hc
    rw [hp.len] at hi
    rw [← mirror_el hp r hi]
    exact gt_mem (by show _ < (mirL p r).length; rw [mirL_len, hp.len]; exact mir_lt p r hi)
  have k1 : gmax p.cs ∈ p.cs := by
    rcases mxL_or p.cs 0 with h | h
    · have : gmax p.cs = 0 := h
      omega
    · exact h
  have k2 : gmax (p.mirror r).cs ∈ (p.mirror r).cs := by
    rcases mxL_or (p.mirror r).cs 0 with h | h
    · have : gmax (p.mirror r).cs = 0 := h
      omega
    · exact h
  have := h1.2.2 _ (sub1 _ k2)
  have := h2.2.2 _ (sub2 _ k1)
  omega

set_option maxHeartbeats 8000000 in
set_option maxRecDepth 10000 in
theorem mirrors_law (zs : List Int) (hl : zs.length ≤ 9223372036854775807) (a1 : Int) (a2 : Bool) : Ans Try.prog n_law01_FieldMirrors [.view (zs.map (.int .i64)), .int .i64 a1, .bool a2] [] (.bool true) [] := by
  have m1 := mod_in a1 41 (by omega)
  have e1 := mod_pos a1 41 (by omega)
  generalize a1 % 41 = n1 at *
  obtain ⟨n, rfl⟩ : ∃ n : Nat, n1 = n := ⟨n1.toNat, by omega⟩
  refine spec_run e_law01_FieldMirrors fun G => ?_
  simp only [go_sem]
  refine callN1 (newdice_ok zs hl) (by simp only [go_sem]) (dr_bel _ _) (by simp) (by simp) ?_
  generalize seedW zs = w
  simp only [go_sem]
  refine callDN (PlanOf_ok w 8 6 (by omega) (by omega)) rfl (by simp only [go_sem]) (dr_bel _ _) (fun q hq => ⟨pla_bel _ _ _ _ rfl, dr_bel _ _, iv_row _ _ _⟩) (by simp) (by simp) ?_
  rintro ⟨w1, p⟩ hp
  dsimp only at hp ⊢
  have hpo := hp.ok
  have hpl : p.cs.length ≤ 1000000 := by
    rw [hpo.len]; have := Nat.mul_le_mul hpo.w.2 hpo.h.2; omega
  have hmx := hpo.max
  simp only [go_sem, Pl.a, Pl.c4, ren, rens]
  refine callR1 (VoltsOf_ok w1 hpl (by omega) true) (j0 := 0) (j1 := 1) rfl (by simp [go_sem, Pl.a, Pl.c4]) rfl rfl (dr_bel _ _) (iv_row _ _ _) (by decide) (fun q hq => ⟨by simp [go_sem], dr_bel _ _, iv_row _ _ _⟩) (by simp) (by simp) ?_
  rintro ⟨w2, v⟩ hvv
  dsimp only at hvv ⊢
  have hv := hvv.2
  have hvl := hvv.len hp
  simp only [go_sem, ren, rens]
  obtain ⟨r, hr, hrr⟩ : ∃ r : Bool, (r = true ∨ p.rd = false) ∧ r = (a2 || p.rd) := ⟨a2 || p.rd, by cases a2 <;> cases p.rd <;> simp, rfl⟩
  have hm := mirrored_ok hpo r
  have hpick : (if a2 = true then AVal.bool true else AVal.bool p.rd) = .bool r := by cases a2 <;> simp [hrr]
  have s1 := Solve_ok hpo hv hvl (n := n) (by omega)
  have s2 := Solve_ok (mirror_ok hpo r) hv (by rw [gmax_mirror hpo r]; exact hvl) (n := n) (by omega)
  have hql : (p.mirror r).cs.length = p.cs.length := mirL_len p r
  have hfl := frm_len p r
  rw [hql] at s2
  have meet := fun j (hj : j < p.w * p.h) => mirrors_meet hpo hr v (cnt p v n) (cnt (p.mirror r) v n) hj
  have L1 := (low_ok hpo v (cnt p v n)).len; have L2 := (high_ok hpo v (cnt p v n)).len
  have L3 := (low_ok (mirror_ok hpo r) v (cnt (p.mirror r) v n)).len; have L4 := (high_ok (mirror_ok hpo r) v (cnt (p.mirror r) v n)).len
  have eN : (p.mirror r).w * (p.mirror r).h = p.w * p.h := rfl
  rw [eN] at L3 L4
  rw [← hpo.len] at L1 L2 L3 L4
  cases a2 with
  | true =>
    simp only [Bool.true_or] at hrr
    subst hrr
    simp only [go_sem, Pl.a, Pl.c4]
    refine cFN2 hm 6 ⟨.inl (pla_frz 3 (j := 1) (g := true) rfl rfl), .inl rfl, trivial⟩ ?_ (by simp [go_sem, Pl.a, Pl.c4]) (by simp only [go_sem, Pl.a, Pl.c4]) (iv_row _ _ _) (iv_nv _ _) (iv_row _ _ _) (iv_nv _ _)
    simp only [go_sem, ren, rens, Pl.a, Pl.c4]
    refine cP e1 ?_
    simp only [go_sem]
    refine cFN2 s1 6 ⟨.inl (pla_frz 3 (j := 1) (g := true) rfl rfl), .inl (iv_frz_sl (d := 4) (j := 3) (g := false) rfl rfl), .inl rfl, trivial⟩ ?_ (by simp [go_sem, fldV]) (by simp only [go_sem, fldV]) (iv_row _ _ _) (iv_nv _ _) (iv_row _ _ _) (iv_nv _ _)
    simp only [go_sem, ren, rens, fldV, Pl.a, Pl.c4]
    refine cFN2 s2 6 ⟨.inl (pla_frz 3 (p := p.mirror true) (j := 4) (g := true) rfl hql.symm), .inl (iv_frz_sl (d := 4) (j := 3) (g := false) rfl rfl), .inl rfl, trivial⟩ ?_ (by simp [go_sem, fldV]) (by simp only [go_sem, fldV]) (iv_row _ _ _) (iv_nv _ _) (iv_row _ _ _) (iv_nv _ _)
    clear s1 s2
    generalize lowB p v (cnt p v n) = la at *
    generalize highB p v (cnt p v n) = ha at *
    generalize lowB (p.mirror true) v (cnt (p.mirror true) v n) = lb at *
    generalize highB (p.mirror true) v (cnt (p.mirror true) v n) = hb at *
    generalize stl p v (cnt p v n) = t1 at *
    generalize cnt p v n = c1 at *
    generalize stl (p.mirror true) v (cnt (p.mirror true) v n) = t2 at *
    generalize cnt (p.mirror true) v n = c2 at *
    simp only [go_sem, ren, rens, fldV, Pl.a, Pl.c4, bne_self_eq_false, iv_len, L1, L2, L3, L4]
    refine loop_ind k_law01_FieldMirrors_r15.eq_1 (fun a : Nat => a ≤ p.cs.length) (fun a => p.cs.length - a)
      (fun a => (tsets 130 [(11, .sl 5 0 p.cs.length), (13, .ptr 9 0 0 1), (15, .ptr 12 0 0 1), (17, .int .i64 a)],
        [some (Dr w2), some (.cells true 1 (iv p.cs)), some (.cells false 4 [p.a (.sl 1 0 p.cs.length)]), some (.cells false 1 (iv v)), some (.cells true 1 (iv (mirL p true))), some (.cells true 1 (iv (frm p true))), some (.cells false 4 [p.a (.sl 4 0 p.cs.length)]),
         some (.cells false 1 (iv la)), some (.cells false 1 (iv ha)), some (.cells false 4 [fldV p.cs.length c1 t1 7 8]),
         some (.cells false 1 (iv lb)), some (.cells false 1 (iv hb)), some (.cells false 4 [fldV p.cs.length c2 t2 10 11])])) 0 (Nat.zero_le _) (by simp [go_sem]) rfl ?_
    intro j hj ih
    dsimp only at hj ih ⊢
    by_cases h4 : j < p.cs.length
    · have h5 : (j : Int) < p.cs.length := by omega
      have h6 := idx_next h4 (by omega)
      have n0 : ¬ (j : Int) < 0 := by omega
      have hjN : j < p.w * p.h := by rw [← hpo.len]; exact h4
      have hk := mir_lt p true hjN
      rw [← hpo.len] at hk
      have gF := iv_get (l := frm p true) (i := j) (by omega)
      rw [gt_frm p true h4] at gF
      have q5 := meet j hjN
      generalize mir p true j = k at *
      have nk : ¬ (k : Int) < 0 := by omega
      have hkN : (k : Int) < p.cs.length := by omega
      have ga := iv_get (l := la) (i := k) (by omega)
      have gb := iv_get (l := ha) (i := k) (by omega)
      have gc := iv_get (l := lb) (i := j) (by omega)
      have gd := iv_get (l := hb) (i := j) (by omega)
      generalize gt la k = y1 at *
      generalize gt ha k = y2 at *
      generalize gt lb j = y3 at *
      generalize gt hb j = y4 at *
      have r3 : ¬ y4 < y1 := by omega
      have r4 : ¬ y2 < y3 := by omega
      simp only [go_sem, fldV, Pl.a, Pl.c4, iv_len, h5, n0, nk, hkN, gF, ga, gb, gc, gd, r3, r4, L1, L2, L3, L4, hfl, h6]
      exact ih (j + 1) (by omega) h4 _ (by simp [go_sem])
    · have h5 : ¬ (j : Int) < p.cs.length := by omega
      simp only [go_sem, fldV, Pl.a, Pl.c4, iv_len, hfl, h5]
      refine cP awake_ok ?_
      simp only [go_sem]
  | false =>
    simp only [Bool.false_or] at hrr
    subst hrr
    clear hpick
    simp only [go_sem, Pl.a, Pl.c4]
    refine cFN2 hm 6 ⟨.inl (pla_frz 3 (j := 1) (g := true) rfl rfl), .inl rfl, trivial⟩ ?_ (by simp [go_sem, Pl.a, Pl.c4]) (by simp only [go_sem, Pl.a, Pl.c4]) (iv_row _ _ _) (iv_nv _ _) (iv_row _ _ _) (iv_nv _ _)
    simp only [go_sem, ren, rens, Pl.a, Pl.c4]
    refine cP e1 ?_
    simp only [go_sem]
    refine cFN2 s1 6 ⟨.inl (pla_frz 3 (j := 1) (g := true) rfl rfl), .inl (iv_frz_sl (d := 4) (j := 3) (g := false) rfl rfl), .inl rfl, trivial⟩ ?_ (by simp [go_sem, fldV]) (by simp only [go_sem, fldV]) (iv_row _ _ _) (iv_nv _ _) (iv_row _ _ _) (iv_nv _ _)
    simp only [go_sem, ren, rens, fldV, Pl.a, Pl.c4]
    refine cFN2 s2 6 ⟨.inl (pla_frz 3 (p := p.mirror p.rd) (j := 4) (g := true) rfl hql.symm), .inl (iv_frz_sl (d := 4) (j := 3) (g := false) rfl rfl), .inl rfl, trivial⟩ ?_ (by simp [go_sem, fldV]) (by simp only [go_sem, fldV]) (iv_row _ _ _) (iv_nv _ _) (iv_row _ _ _) (iv_nv _ _)
    clear s1 s2
    generalize lowB p v (cnt p v n) = la at *
    generalize highB p v (cnt p v n) = ha at *
    generalize lowB (p.mirror p.rd) v (cnt (p.mirror p.rd) v n) = lb at *
    generalize highB (p.mirror p.rd) v (cnt (p.mirror p.rd) v n) = hb at *
    generalize stl p v (cnt p v n) = t1 at *
    generalize cnt p v n = c1 at *
    generalize stl (p.mirror p.rd) v (cnt (p.mirror p.rd) v n) = t2 at *
    generalize cnt (p.mirror p.rd) v n = c2 at *
    simp only [go_sem, ren, rens, fldV, Pl.a, Pl.c4, bne_self_eq_false, iv_len, L1, L2, L3, L4]
    refine loop_ind k_law01_FieldMirrors_r15.eq_1 (fun a : Nat => a ≤ p.cs.length) (fun a => p.cs.length - a)
      (fun a => (tsets 130 [(11, .sl 5 0 p.cs.length), (13, .ptr 9 0 0 1), (15, .ptr 12 0 0 1), (17, .int .i64 a)],
        [some (Dr w2), some (.cells true 1 (iv p.cs)), some (.cells false 4 [p.a (.sl 1 0 p.cs.length)]), some (.cells false 1 (iv v)), some (.cells true 1 (iv (mirL p p.rd))), some (.cells true 1 (iv (frm p p.rd))), some (.cells false 4 [p.a (.sl 4 0 p.cs.length)]),
         some (.cells false 1 (iv la)), some (.cells false 1 (iv ha)), some (.cells false 4 [fldV p.cs.length c1 t1 7 8]),
         some (.cells false 1 (iv lb)), some (.cells false 1 (iv hb)), some (.cells false 4 [fldV p.cs.length c2 t2 10 11])])) 0 (Nat.zero_le _) (by simp [go_sem]) rfl ?_
    intro j hj ih
    dsimp only at hj ih ⊢
    by_cases h4 : j < p.cs.length
    · have h5 : (j : Int) < p.cs.length := by omega
      have h6 := idx_next h4 (by omega)
      have n0 : ¬ (j : Int) < 0 := by omega
      have hjN : j < p.w * p.h := by rw [← hpo.len]; exact h4
      have hk := mir_lt p p.rd hjN
      rw [← hpo.len] at hk
      have gF := iv_get (l := frm p p.rd) (i := j) (by omega)
      rw [gt_frm p p.rd h4] at gF
      have q5 := meet j hjN
      generalize mir p p.rd j = k at *
      have nk : ¬ (k : Int) < 0 := by omega
      have hkN : (k : Int) < p.cs.length := by omega
      have ga := iv_get (l := la) (i := k) (by omega)
      have gb := iv_get (l := ha) (i := k) (by omega)
      have gc := iv_get (l := lb) (i := j) (by omega)
      have gd := iv_get (l := hb) (i := j) (by omega)
      generalize gt la k = y1 at *
      generalize gt ha k = y2 at *
      generalize gt lb j = y3 at *
      generalize gt hb j = y4 at *
      have r3 : ¬ y4 < y1 := by omega
      have r4 : ¬ y2 < y3 := by omega
      simp only [go_sem, fldV, Pl.a, Pl.c4, iv_len, h5, n0, nk, hkN, gF, ga, gb, gc, gd, r3, r4, L1, L2, L3, L4, hfl, h6]
      exact ih (j + 1) (by omega) h4 _ (by simp [go_sem])
    · have h5 : ¬ (j : Int) < p.cs.length := by omega
      simp only [go_sem, fldV, Pl.a, Pl.c4, iv_len, hfl, h5]
      refine cP awake_ok ?_
      simp only [go_sem]
end Go.Proofs
