/- CathodeBounds. -/
import Derived.Test.YtgikocfbedopmaaYdBounds
import Derived.Test.YtgikocfbedopmaaYdA
import Derived.Test.YtgikocfbedopmaaSxF
namespace Go.Proofs
open Go Go.Sx
attribute [local irreducible] Run

theorem holds_run {x : Cg} {m : Mx} (h : Holds x m) : Ans Try.prog n_law03_holds [x.v, m.v] [] (.bool true) [] := by
  obtain ⟨⟨h1, h2⟩, ⟨h3, h4⟩, ⟨h5, h6⟩, ⟨h7, h8⟩⟩ := h
  refine spec_run e_law03_holds fun G => ?_
  simp only [go_sem, Cg.v, Cg.cs, Mx.v, Mx.cs, h1, h2, h3, h4, h5, h6, h7, h8]

theorem mxs_frz (l : List Mx) (d : Nat) (H : Heap) : (l.map Mx.v).map (frz (d + 2) H) = l.map Mx.v := by rw [List.map_map]; rfl
theorem way_frz {l : List Mx} {H : Heap} {j n : Nat} {gr : Bool} (h : H[j]? = some (some (.cells gr 4 (l.map Mx.v)))) (hn : n = l.length) : frz 6 H (.sl j 0 n) = .view (l.map Mx.v) := by
  rw [frz_sl (d := 5) h (by simpa using hn), mxs_frz]

theorem follow_end {c : Ct} {l : List Ht} (h0 : l ≠ []) : (follow c l)[l.length - 1]? = some (coatOf c (flat l)) := by
  rw [← endX_flat]
  have hl := List.length_pos_iff.2 h0
  obtain ⟨i, hi⟩ : ∃ i, l.length = i + 1 := ⟨l.length - 1, by omega⟩
  have hx : l[i]? = some l[i] := List.getElem?_eq_getElem (by omega)
  have hf := followX_succ (c := c) hx (fresh c)
  have he := endX_succ (c := c) hx (fresh c)
  rw [List.take_of_length_le (by omega)] at hf he
  unfold follow
  rw [hf, he]
  rw [show l.length - 1 = (followX c (fresh c) (l.take i)).length by rw [followX_len, List.length_take]; omega]
  simp

set_option maxRecDepth 20000 in
set_option maxHeartbeats 8000000 in
theorem bounds_ok (xs : List Int) (hl : xs.length ≤ 9223372036854775807) : Ans Try.prog n_law03_CathodeBounds [.view (xs.map (.int .i64))] [] (.bool true) [] := by
  have hd := newdice_ok xs hl
  generalize seedW xs = w at *
  refine spec_run e_law03_CathodeBounds fun G => ?_
  simp only [go_sem]
  refine callN1 hd ⟨by rw [bel_view]; exact bels_map _ _ fun _ => .int _ _, trivial⟩ (dr_bel _ _) (by simp) (by simp) ?_
  simp only [go_sem]
  refine callDN (coatOf_run w) rfl trivial (dr_bel _ _) (fun a ha => ⟨by simp only [go_sem], by simp only [go_sem], by simp only [go_sem]⟩) (by simp) (by simp) ?_
  rintro ⟨c, w1⟩ hc
  dsimp only at hc
  simp only [go_sem, Ct.v, Ct.cs, ren, rens]
  refine callDS (scheduleOf_run w1 4 9 (by decide) (by decide)) rfl ⟨.int _ _, .int _ _, trivial⟩ (dr_bel _ _) (fun a ha => ⟨by simp only [go_sem], by simp only [go_sem]⟩) (by simp) (by simp) ?_
  rintro ⟨l, w2⟩ hl
  dsimp only at hl
  have hls := hl.ok (by decide) (by decide) (by decide)
  have hfr := Fresh_run c hc
  have hm := hc.amount
  by_cases hnil : l = []
  · have e1 : slv 3 (List.map Ht.v l) = .nilsl := by rw [hnil]; rfl
    have e2 : slrG true 3 (List.map Ht.v l) = [] := by rw [hnil]; rfl
    simp only [go_sem, e1, e2]
    refine callR1 ((courseOf_nil w2 c).toE (Φ := fun _ : Unit => True) (r := fun _ => .sl 2 0 1) (L' := fun _ => [some (Dr (dstep w2)), some (BdR c.bands), some (.cells false 4 ([start c].map Mx.v))]) (a := ()) trivial) (j0 := 0) (j1 := 1) (by simp only [go_sem, ren, rens, nth, Ct.v, Ct.cs]; rfl) ⟨by rw [bel_ptr]; decide, by rw [ct_bel, bel_sl]; decide, .nilsl, trivial⟩ rfl rfl (by simp only [go_sem]) (by simp only [go_sem]) (by decide)
      (fun a ha => ⟨by rw [bel_sl], by simp only [go_sem], by rw [row_bel_cells]; simp only [go_sem]⟩) (by simp) (by simp) ?_
    intro _ _
    simp only [go_sem, ren, rens]
    refine cF hfr 6 ⟨.inl (ct_frz (H := _) rfl), trivial⟩ ?_
    have hP := Possible_run c hc [] ⟨by simp, fun h hh => by simp at hh, by simp [lenOfL]⟩ [start c] (start c) Crs.nil
    simp only [go_sem, Cg.v, Cg.cs]
    refine cF hP 6 ⟨.inl (ct_frz (H := _) rfl), .inr ⟨rfl, rfl⟩, .inl (way_frz (H := _) rfl rfl), trivial⟩ ?_
    simp only [go_sem]
    refine loop_body 200 k_law03_CathodeBounds_r22.eq_1 ?_
    simp only [go_sem]
    refine cF (Follow_nil c hc) 6 ⟨.inl (ct_frz (H := _) rfl), .inr ⟨rfl, rfl⟩, trivial⟩ ?_
    simp only [go_sem]
    refine cP awake_ok ?_
    simp only [go_sem]
  have hne : List.map Ht.v l ≠ [] := by simpa using hnil
  have e1 : slv 3 (List.map Ht.v l) = .sl 3 0 l.length := by unfold slv; rw [if_neg hne, List.length_map]
  have e2 : slrG true 3 (List.map Ht.v l) = [some (.cells true 3 (List.map Ht.v l))] := by unfold slrG; rw [if_neg hne]
  simp only [go_sem, e1, e2]
  refine callR2 (courseOf_run w2 c hc l hls true hnil) (j0 := 0) (j1 := 1) (j2 := 3) (by simp only [go_sem, ren, rens, nth, Ct.v, Ct.cs]; rfl) ⟨by rw [bel_ptr]; decide, by rw [ct_bel, bel_sl]; decide, by rw [bel_sl]; decide, trivial⟩ rfl rfl rfl (by simp only [go_sem]) (by simp only [go_sem]) (by rw [row_bel_cells]; simp only [go_sem]) (by decide)
    (fun a ha => ⟨by rw [bel_sl], by simp only [go_sem], by rw [row_bel_cells]; simp only [go_sem]⟩) (by simp) (by simp) ?_
  rintro ⟨way, w3, wb⟩ ⟨mE, hway⟩
  dsimp only at hway
  simp only [go_sem, ren, rens]
  refine cF hfr 6 ⟨.inl (ct_frz (H := _) rfl), trivial⟩ ?_
  have hP := Possible_run c hc l hls way mE hway
  have hlen := hls.len
  have hsum := hls.sum
  have hfl := flat_len hls.all
  have hwl := hway.len
  simp only [go_sem, Cg.v, Cg.cs]
  refine cF hP 6 ⟨.inl (ct_frz (H := _) rfl), .inl (sch_frz (H := _) rfl rfl), .inl (way_frz (H := _) rfl rfl), trivial⟩ ?_
  simp only [go_sem]
  refine loop_ind k_law03_CathodeBounds_r22.eq_1 (fun a : Nat × Heap => a.1 ≤ l.length) (fun a => l.length - a.1)
    (fun a => (tsets 160 [(2, .bool false), (4, .ptr 2 0 0 1), (5, .sl 3 0 l.length), (6, .sl 4 0 way.length), (7, .ptr 5 0 0 1), (8, .int .i64 0), (9, .int .i64 (flat (l.take a.1)).length), (10, .int .i64 a.1)],
      some (Dr w3) :: some (BdR c.bands) :: some (.cells false 7 [c.v (.sl 1 0 c.bands.length)]) :: some (.cells true 3 (l.map Ht.v)) :: some (.cells wb 4 (way.map Mx.v)) :: some (.cells false 13 [(coatOf c (flat (l.take a.1))).v]) :: a.2))
    (0, []) (Nat.zero_le _) (by simp [go_sem, flat]) rfl ?_
  rintro ⟨i, X⟩ hi ih
  dsimp only at hi ih ⊢
  by_cases h1 : i < l.length
  · have h2 : (i : Int) < l.length := by omega
    have n0 : ¬ (i : Int) < 0 := by omega
    have hx : l[i]? = some l[i] := List.getElem?_eq_getElem h1
    have hz := hls.all _ (List.getElem_mem h1)
    have hs := flat_succ hx
    have hlt := fun t => flat_at (t := t) hx
    have h3 := idx_next h1 (by omega)
    have hfi := flat_len (l := l.take i) fun x hx => hls.all x (List.mem_of_mem_take hx)
    have hr0 := lenOfL_take hls.all i
    have hr1 := lenOfL_take hls.all (i + 1)
    have hls1 := lenOfL_succ hx
    generalize l[i] = z at *
    have hzt := hz.ticks
    simp only [go_sem, h2, List.length_map]
    refine loop_ind k_law03_CathodeBounds_r20.eq_1 (fun a : Nat × Heap => a.1 ≤ z.ticks.toNat) (fun a => z.ticks.toNat - a.1)
      (fun a => (tsets 160 [(2, .bool false), (4, .ptr 2 0 0 1), (5, .sl 3 0 l.length), (6, .sl 4 0 way.length), (7, .ptr 5 0 0 1), (8, .int .i64 0), (9, .int .i64 ((flat (l.take i)).length + a.1)), (10, .int .i64 i), (11, .int .i64 a.1)],
        some (Dr w3) :: some (BdR c.bands) :: some (.cells false 7 [c.v (.sl 1 0 c.bands.length)]) :: some (.cells true 3 (l.map Ht.v)) :: some (.cells wb 4 (way.map Mx.v)) :: some (.cells false 13 [(coatOf c (flat (l.take i) ++ List.replicate a.1 z)).v]) :: a.2))
      (0, X) (Nat.zero_le _) (by simp [go_sem]) (by simp) ?_
    rintro ⟨t, Y⟩ ht ih2
    dsimp only at ht ih2 ⊢
    by_cases h4 : t < z.ticks.toNat
    · have h5 : (t : Int) < z.ticks := by omega
      have h6 := idx_next h4 (by omega)
      obtain ⟨f1, f2⟩ := hlt t h4
      obtain ⟨z', m1, m2, q1, q2, q3, q4, q5⟩ := hway.part _ (List.getElem?_eq_some_iff.1 f1).1
      rw [f1] at q1; cases q1
      rw [f2] at q2 q5
      have hall0 : ∀ y ∈ flat (l.take i) ++ List.replicate t z, HtOK y := fun y hy => by
        rcases List.mem_append.1 hy with hy | hy
        · exact hls.all _ (List.mem_of_mem_take (flat_mem hy))
        · rw [List.mem_replicate] at hy; rw [hy.2]; exact hz
      have hal : (flat (l.take i) ++ List.replicate t z).length = (flat (l.take i)).length + t := by simp
      have hal2 : (flat (l.take i) ++ List.replicate t z).length ≤ 1000000 := by omega
      have hg := coatOf_good hc hall0 hal2
      have hgn := after_good hc hg (by omega) hz.heat hz.cur
      have hwn := hgn.wear
      have htick := Tick_run c hc _ hg.ok z.heat z.cur hz.heat hz.cur (by omega)
      have hsn : coatOf c (flat (l.take i) ++ List.replicate (t + 1) z) = after c (coatOf c (flat (l.take i) ++ List.replicate t z)) z.heat z.cur := by rw [List.replicate_succ', ← List.append_assoc, coatOf_snoc]
      have hcr := q2.snoc q5
      have hall1 : ∀ y ∈ flat (l.take i) ++ List.replicate t z ++ [z], HtOK y := fun y hy => by
        rcases List.mem_append.1 hy with hy | hy
        · exact hall0 y hy
        · simp at hy; subst hy; exact hz
      have hho := hcr.holds hc hall1 (by simp; omega)
      have hga := q2.gas hc hall0 hz hal2 q5
      have hk0 := q2.ok hc hall0
      have hk1 := hcr.ok hc hall1
      rw [coatOf_snoc] at hho
      have hih := fun b hb hib ρ' => ih2 (t + 1, b) hb hib ρ'
      simp only [hsn] at hih
      clear ih2
      generalize after c (coatOf c (flat (l.take i) ++ List.replicate t z)) z.heat z.cur = n at *
      generalize coatOf c (flat (l.take i) ++ List.replicate t z) = y at *
      have hH := holds_run hho
      have o1 := hk0.carb; have o2 := hk0.ox; have o3 := hk0.ba; have o4 := hk0.lost; have o5 := hk0.sum
      have p1 := hk1.carb; have p2 := hk1.ox; have p3 := hk1.ba; have p4 := hk1.lost; have p5 := hk1.sum
      have g1 : ((flat (l.take i)).length + (t : Int)) < way.length := by omega
      have g2 : ((flat (l.take i)).length + (t : Int)) + 1 < way.length := by omega
      have g3 : ¬ ((flat (l.take i)).length + (t : Int)) < 0 := by omega
      have g4 : ¬ ((flat (l.take i)).length + (t : Int)) + 1 < 0 := by omega
      have g5 : IntKind.i64.wrap ((flat (l.take i)).length + (t : Int) + 1) = (flat (l.take i)).length + (t : Int) + 1 := w64 (by omega)
      have g6 : IntKind.i64.wrap ((flat (l.take i)).length + (t : Int) + 1 - 1) = (flat (l.take i)).length + (t : Int) := by rw [w64 (by omega)]; omega
      have g7 : ((flat (l.take i)).length + (t : Int)).toNat = (flat (l.take i)).length + t := by omega
      have g8 : ((flat (l.take i)).length + (t : Int) + 1).toNat = (flat (l.take i)).length + t + 1 := by omega
      have u1 : IntKind.i64.wrap (m1.carb - m2.carb) = m1.carb - m2.carb := w64 (by omega)
      have u2 : IntKind.i64.wrap (m2.carb + m2.ox) = m2.carb + m2.ox := w64 (by omega)
      have u3 : IntKind.i64.wrap (m2.carb + m2.ox + m2.ba) = m2.carb + m2.ox + m2.ba := w64 (by omega)
      have u4 : IntKind.i64.wrap (m2.carb + m2.ox + m2.ba + m2.lost) = c.amount := by rw [w64 (by omega)]; omega
      have v1 : ¬ m1.carb - m2.carb < n.gas.lo := by omega
      have v2 : ¬ n.gas.hi < m1.carb - m2.carb := by omega
      simp only [go_sem, hx, h2, n0, h5, Ht.v, Ht.cs, Cg.v, Cg.cs, Ct.v, Ct.cs, List.length_map]
      refine cF htick 6 ⟨.inl (ct_frz (H := _) rfl), .inl rfl, .inl rfl, .inl rfl, trivial⟩ ?_ (by simp only [go_sem, Cg.v, Cg.cs]) (by simp only [go_sem, Cg.v, Cg.cs])
      simp only [go_sem, Cg.v, Cg.cs, g1, g2, g3, g4, g5, g6, g7, g8, q3, q4, Mx.v, Mx.cs, u1, List.length_map]
      refine cP hH ?_
      simp only [go_sem, Cg.v, Cg.cs, v1, v2, u2, u3, u4, Ct.v, Ct.cs]
      simp only [h6]
      refine hih _ (by omega) h4 _ ?_
      simp [go_sem]
      omega
    · have h5 : ¬ (t : Int) < z.ticks := by omega
      have hte : t = z.ticks.toNat := by omega
      simp only [go_sem, hx, h2, n0, h5, Ht.v, Ht.cs, List.length_map]
      simp only [h3]
      rw [hte, ← hs]
      refine ih (i + 1, Y) (by dsimp only; omega) h1 _ ?_
      simp [go_sem, hs]
  · have h2 : ¬ (i : Int) < l.length := by omega
    have hF := Follow_run c hc l hls hnil
    have hlast := follow_end (c := c) hnil
    have hlp := List.length_pos_iff.2 hnil
    have hFl : (follow c l).length = l.length := followX_len c _ _
    rw [List.take_of_length_le (by omega)]
    generalize coatOf c (flat l) = y at *
    generalize follow c l = F at *
    have g0 : ((l.length : Int) == 0) = false := by simp; omega
    have g1 : IntKind.i64.wrap ((l.length : Int) - 1) = ((l.length - 1 : Nat) : Int) := by rw [w64 (by omega)]; omega
    have g2 : ¬ ((l.length - 1 : Nat) : Int) < 0 := by omega
    have g3 : ((l.length - 1 : Nat) : Int) < l.length := by omega
    simp only [go_sem, h2, List.length_map, Ct.v, Ct.cs]
    refine cFN hF 6 ⟨.inl (ct_frz (H := _) rfl), .inl (sch_frz (H := _) rfl rfl), trivial⟩ ?_
    simp only [go_sem, ren, rens, CgR, List.length_map, hFl, g0, g1, g2, g3, hlast, Cg.v, Cg.cs]
    refine cP awake_ok ?_
    simp only [go_sem]
end Go.Proofs
