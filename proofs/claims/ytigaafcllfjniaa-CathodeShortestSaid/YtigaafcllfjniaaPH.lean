/- A part of the proof. -/
import Derived.Test.YtigaafcllfjniaaPG
set_option linter.unusedSimpArgs false
set_option linter.unusedVariables false
namespace Go.Proofs
open Go Go.Sx
attribute [local irreducible] Run

set_option maxHeartbeats 1000000 in
theorem Same_run (l : List Int) (hl : l.length ≤ 1000) : Ans Try.prog n_kit_Same [.view (ivs l), .view (ivs l)] [] (.bool true) [] := by
  have g0 : ((l.length : Int) != l.length) = false := by simp
  refine spec_run e_kit_Same fun G => ?_
  simp only [go_sem, ivs_len, g0]
  refine loop_ind k_kit_Same_r8.eq_1 (fun a : Nat => a ≤ l.length) (fun a => l.length - a)
    (fun a => (tsets 26 [(0, .view (ivs l)), (1, .view (ivs l)), (5, .int .i64 a)], [])) 0 (Nat.zero_le _) (by simp [go_sem]) rfl ?_
  intro i hi ih
  dsimp only at ih ⊢
  by_cases h1 : i < l.length
  · have h2 : (i : Int) < l.length := by omega
    have n0 : ¬ (i : Int) < 0 := by omega
    have hv := ivs_get (List.getElem?_eq_getElem h1)
    have h3 := idx_next h1 (by omega)
    have b0 : ∀ x : Int, (x != x) = false := fun x => by simp
    simp only [go_sem, ivs_len, h2, n0, hv, h3, b0]
    exact ih (i + 1) (by omega) h1 _ (by simp [go_sem])
  · have h2 : ¬ (i : Int) < l.length := by omega
    simp only [go_sem, ivs_len, h2]

def gm (F : List Cg) : Int := F.foldl (fun g y => if y.gas.hi > g then y.gas.hi else g) 0
theorem gm_snoc {F : List Cg} {i : Nat} {y : Cg} (h : F[i]? = some y) : gm (F.take (i + 1)) = if y.gas.hi > gm (F.take i) then y.gas.hi else gm (F.take i) := by
  rw [take_snoc h]; simp [gm]
theorem gm_go : ∀ (F : List Cg) (g : Int), (∀ y ∈ F, 0 ≤ y.gas.hi ∧ y.gas.hi ≤ 1000000) → 0 ≤ g ∧ g ≤ 1000000 → 0 ≤ F.foldl (fun g y => if y.gas.hi > g then y.gas.hi else g) g ∧ F.foldl (fun g y => if y.gas.hi > g then y.gas.hi else g) g ≤ 1000000
  | [], _, _, h => h
  | y :: F, g, hF, h => by
    have hy := hF y (by simp)
    refine gm_go F _ (fun z hz => hF z (by simp [hz])) ?_
    dsimp only
    split <;> omega
theorem gm_in {F : List Cg} (h : ∀ y ∈ F, 0 ≤ y.gas.hi ∧ y.gas.hi ≤ 1000000) : 0 ≤ gm F ∧ gm F ≤ 1000000 := gm_go F 0 h (by decide)

set_option maxHeartbeats 4000000 in
set_option maxRecDepth 4000 in
theorem demandOf_det (w : Int) (c : Ct) (hc : CtOK c) (l : List Ht) (hl : LsOK l) (g : Bool) (h0 : l ≠ []) :
    ∃ D w', DmOK D ∧ Ans Try.prog n_kit_DemandOf [.ptr 0 0 0 1, c.v (.sl 1 0 c.bands.length), .sl 2 0 l.length] [some (Dr w), some (BdR c.bands), some (.cells g 3 (l.map Ht.v))] (Dm.v D) [some (Dr w'), some (BdR c.bands), some (.cells g 3 (l.map Ht.v))] := by
  have hlen := hl.len
  have hsum := hl.sum
  have hlp : 0 < l.length := List.length_pos_iff.2 h0
  have hF := rFollow_run c hc l hl h0
  have hFl : (follow c l).length = l.length := followX_len c _ _
  have hall : ∀ y ∈ flat l, HtOK y := fun y hy => hl.all y (flat_mem hy)
  have hfl := flat_len hl.all
  have hgood : ∀ i, i < l.length → ∃ y, (follow c l)[i]? = some y ∧ CgOK c y := fun i hi => ⟨_, follow_get hi, by
    have h1 := flat_len_le l (i + 1)
    exact (coatOf_good hc (fun y hy => hl.all y (List.mem_of_mem_take (flat_mem hy))) (by omega)).ok⟩
  obtain ⟨x, hx, hxo⟩ := hgood (l.length - 1) (by omega)
  generalize follow c l = F at *
  have g0 : (0 : Int) < l.length := by omega
  have g1 : IntKind.i64.wrap ((l.length : Int) - 1) = ((l.length - 1 : Nat) : Int) := by rw [w64 (by omega)]; omega
  have g2 : ¬ ((l.length - 1 : Nat) : Int) < 0 := by omega
  have g3 : ((l.length - 1 : Nat) : Int) < l.length := by omega
  have hgm : ∀ i, i ≤ l.length → 0 ≤ gm (F.take i) ∧ gm (F.take i) ≤ 1000000 := fun i hi => gm_in fun y hy => by
    obtain ⟨q, hq, rfl⟩ := List.mem_iff_getElem.1 hy
    rw [List.length_take] at hq
    obtain ⟨y', h1, h2⟩ := hgood q (by omega)
    have : F[q]? = some (F.take i)[q] := by rw [List.getElem_take]; exact List.getElem?_eq_getElem _
    rw [this] at h1
    have h3 := h2.gas.all
    have hm := hc.amount
    cases h1
    omega
  have hg00 := hgm l.length (Nat.le_refl _)
  rw [show F.take l.length = F from List.take_of_length_le (by omega)] at hg00
  have hok := demV_ok (w := w) hc hxo hg00
  refine ⟨demV w (gm F) c x, dstep (dstep (dstep (dstep (dstep (dstep (dstep (dstep (dstep (dstep w))))))))), hok.1, Ans.keep (run_fn e_kit_DemandOf fun G => ?_) (by simp) (by simp only [go_sem]) ⟨by simp only [go_sem], by simp only [go_sem], by rw [row_bel_cells]; exact hts_belS _, trivial⟩⟩
  clear hok
  simp only [go_sem, Ct.v, Ct.cs]
  refine cFN hF 6 ⟨.inl (ct_frz (H := _) rfl), .inl (sch_frz (H := _) rfl rfl), trivial⟩ ?_
  simp only [go_sem, ren, rens, CgR, List.length_map, hFl, g0, g1, g2, g3, hx, Cg.v, Cg.cs]
  refine loop_ind k_kit_DemandOf_r10.eq_1 (fun a : Nat × Heap => a.1 ≤ l.length) (fun a => l.length - a.1)
    (fun a => (tsets 81 [(0, .ptr 0 0 0 1), (4, .ptr 3 0 0 1), (6, .ptr 4 0 0 1), (7, .ptr 5 0 0 1), (8, .int .i64 (gm (F.take a.1))), (9, .sl 6 0 l.length), (11, .int .i64 a.1)], demH w c l g x (some (.cells true 13 (F.map Cg.v)) :: a.2)))
    (0, []) (Nat.zero_le _) (by simp [go_sem, gm]) rfl ?_
  rintro ⟨i, X⟩ hi ih
  dsimp only at hi ih ⊢
  by_cases h1 : i < l.length
  · have h2 : (i : Int) < l.length := by omega
    have n0 : ¬ (i : Int) < 0 := by omega
    obtain ⟨y, hy, hyo⟩ := hgood i h1
    have h3 := idx_next h1 (by omega)
    have hyg := hyo.gas.all
    have hm := hc.amount
    simp only [go_sem, demH, h2, n0, hy, hFl, List.length_map, Cg.v, Cg.cs, h3]
    refine ih (i + 1, X) (by dsimp only; omega) h1 _ ?_
    rw [gm_snoc hy]
    simp [go_sem]
  · have h2 : ¬ (i : Int) < l.length := by omega
    have hm := hc.amount
    have hie : F.take i = F := List.take_of_length_le (by omega)
    rw [hie]
    have hg0 := hg00.1
    have hg1 := hg00.2
    unfold demV
    dsimp only
    generalize gm F = gas at *
    have hu1 := upto_ok w (gas + 2) (by omega)
    have hu2 := upto_ok (dstep w) 3 (by decide)
    have q1 := upto_in (w := dstep w) (n := 3) (by decide)
    have s1 := sel3v_ok _ gas (upto w (gas + 2)) c.amount q1
    have e1 : IntKind.i64.wrap (gas + 2) = gas + 2 := w64 (by omega)
    have n1 : ¬ upto (dstep w) 3 < 0 := by omega
    have n2 : upto (dstep w) 3 < 3 := q1.2
    have r1 := near_run (dstep (dstep w)) x.wear hxo.wear (by decide)
    have r2 := near_run (dstep (dstep (dstep (dstep w)))) x.lost hxo.lost (by omega)
    have r3 := near_run (dstep (dstep (dstep (dstep (dstep (dstep w)))))) x.carb hxo.carb (by omega)
    have r4 := in_run (dstep (dstep (dstep (dstep (dstep (dstep (dstep (dstep w)))))))) x.ba hxo.ba (by omega)
    have hu3 := upto_ok (dstep (dstep (dstep (dstep (dstep (dstep (dstep (dstep (dstep w))))))))) 4 (by decide)
    have q2 := upto_in (w := dstep (dstep (dstep (dstep (dstep (dstep (dstep (dstep (dstep w))))))))) (n := 4) (by decide)
    have s2 := sel4v_ok _ 0 x.ba.lo x.ba.hi (btw (dstep (dstep (dstep (dstep (dstep (dstep (dstep (dstep w)))))))) x.ba.lo x.ba.hi) q2
    have n3 : ¬ upto (dstep (dstep (dstep (dstep (dstep (dstep (dstep (dstep (dstep w))))))))) 4 < 0 := by omega
    have n4 : upto (dstep (dstep (dstep (dstep (dstep (dstep (dstep (dstep (dstep w))))))))) 4 < 4 := q2.2
    generalize nearV (dstep (dstep w)) x.wear = v1 at *
    generalize nearV (dstep (dstep (dstep (dstep w)))) x.lost = v2 at *
    generalize nearV (dstep (dstep (dstep (dstep (dstep (dstep w)))))) x.carb = v3 at *
    generalize btw (dstep (dstep (dstep (dstep (dstep (dstep (dstep (dstep w)))))))) x.ba.lo x.ba.hi = v4 at *
    generalize upto (dstep (dstep (dstep (dstep (dstep (dstep (dstep (dstep (dstep w))))))))) 4 = v5 at *
    generalize upto (dstep w) 3 = v6 at *
    generalize upto w (gas + 2) = v7 at *
    simp only [go_sem, demH, h2, hFl, List.length_map, Cg.v, Cg.cs, e1]
    refine dD hu1 ?_
    simp only [go_sem, Ct.v, Ct.cs]
    refine dD hu2 ?_
    simp only [go_sem, n1, n2, s1]
    refine dD r1 ?_
    simp only [go_sem]
    refine dD r2 ?_
    simp only [go_sem]
    refine dD r3 ?_
    simp only [go_sem]
    refine dD r4 ?_
    simp only [go_sem]
    refine ⟨by simp <;> omega, ?_⟩
    refine dD hu3 ?_
    simp only [go_sem, n3, n4, s2]
    refine ⟨by omega, by omega, kept_id rfl (by simp only [go_sem]) ?_⟩
    intro i z hz
    have hi3 := (List.getElem?_eq_some_iff.1 hz).1
    simp only [List.length_cons, List.length_nil] at hi3
    obtain rfl | rfl | rfl : i = 0 ∨ i = 1 ∨ i = 2 := by omega
    · simp at hz; subst hz; exact ⟨by simp only [go_sem], rfl⟩
    · simp at hz; subst hz; exact ⟨by simp only [go_sem], rfl⟩
    · simp at hz; subst hz; exact ⟨by rw [row_bel_cells]; simp only [go_sem], rfl⟩
end Go.Proofs

namespace Go.Proofs
open Go Go.Sx
attribute [local irreducible] Run

section
variable {P : Program} {g : FuncId} {args largs : List AVal} {H : Heap} {r : AVal} {R : Runner} {ao : AOper} {lo hi : Nat} {l : List AOper} {tr : List (List Nat × List Nat)} {ss : List (List AOper)} {fs : List Sx.Frame} {ρ : List AVal} {ms : List Nat} {Q : Goal}
theorem dS3 {x0 x1 x2 y0 : Row} {j0 j1 j2 : Nat} (h : Ans P g largs [some x0, some x1, some x2] r [some y0, some x1, some x2]) (hargs : args = largs.map (ren (nth [j0, j1, j2]))) (hb : Bels (· < 3) largs)
    (h0 : H[j0]? = some (some x0)) (h1 : H[j1]? = some (some x1)) (h2 : H[j2]? = some (some x2)) (hx0 : x0.bel (fun _ => False)) (hx1 : x1.bel (fun _ => False)) (hx2 : x2.bel (fun _ => False)) (hy0 : y0.bel (fun _ => False)) (hn : [j0, j1, j2].Nodup) (hr : Bel (fun _ => False) r)
    (hms : ∀ q ∈ ms, q ∉ [j0, j1, j2]) (hd : dynOK ao.free [j0, j1, j2] [j0, j1, j2] tr lo = true)
    (hK : R (.grp lo l (tr ++ [([j0, j1, j2], [j0, j1, j2])]) hi ss) fs ⟨setD ρ ao.dst r, H.set j0 (some y0), ms⟩ Q) : DCallR P R g args ao lo l tr hi ss fs ρ H ms Q := by
  have hlt0 := (List.getElem?_eq_some_iff.1 h0).1
  have hlt1 := (List.getElem?_eq_some_iff.1 h1).1
  have hlt2 := (List.getElem?_eq_some_iff.1 h2).1
  have n1 : j0 ≠ j1 ∧ j0 ≠ j2 ∧ j1 ≠ j2 := by simp at hn; omega
  have e : outΔ (outσ [j0, j1, j2] H.length) 0 [some y0, some x1, some x2] = [(j0, y0), (j1, x1), (j2, x2)] := by
    simp only [outΔ, Row.ren_same hy0, Row.ren_same hx1, Row.ren_same hx2]
    rfl
  refine dS h [j0, j1, j2] hn ⟨by rw [Row.ren_same hx0]; exact h0, by rw [Row.ren_same hx1]; exact h1, by rw [Row.ren_same hx2]; exact h2, trivial⟩ hargs hb ⟨bel_mono_row hx0 fun _ h => h.elim, bel_mono_row hx1 fun _ h => h.elim, bel_mono_row hx2 fun _ h => h.elim, trivial⟩
    rfl hr ⟨bel_mono_row hy0 fun _ h => h.elim, bel_mono_row hx1 fun _ h => h.elim, bel_mono_row hx2 fun _ h => h.elim, trivial⟩ (by simp; omega) (fun q hq => by rw [e]; exact hms q hq) (by rw [e]; exact hd) ?_
  rw [e]
  simp only [Heap.puts, put_lt hlt0]
  have q1 : (H.set j0 (some y0))[j1]? = some (some x1) := by rw [List.getElem?_set_ne n1.1]; exact h1
  have q2 : (H.set j0 (some y0))[j2]? = some (some x2) := by rw [List.getElem?_set_ne n1.2.1]; exact h2
  rw [put_same q1, put_same q2]
  exact hK
end

theorem ivs_nv (g : Bool) (l : List Int) : (Row.cells g 1 (ivs l)).nv := row_nv_cells _ _ (nvs_map _ _ fun _ => .int _ _)

end Go.Proofs

namespace Go.Proofs
open Go Go.Sx
attribute [local irreducible] Run

theorem iv_frz {l : List Int} {H : Heap} {j n : Nat} (h : H[j]? = some (some (.cells true 1 (ivs l)))) (hn : n = l.length) : frz 6 H (.sl j 0 n) = .view (ivs l) := by
  rw [frz_sl (d := 5) h (by rw [ivs_len]; exact hn)]
  unfold ivs; rw [List.map_map]; rfl

set_option maxRecDepth 20000 in
set_option maxHeartbeats 16000000 in
theorem shortest_ok (c : Ct) (x : Dm) (menu : List Ht) (most : Int) (xs : List Int) (hxs : xs.length ≤ 9223372036854775807) : Ans Try.prog n_law03_CathodeShortest [c.v (.view (c.bands.map Bd.v)), x.v, .view (menu.map Ht.v), .int .i64 most, .view (xs.map (.int .i64))] [] (.bool true) [] := by
  have hd := newdice_ok xs hxs
  generalize seedW xs = w at *
  refine spec_run e_law03_CathodeShortest fun G => ?_
  by_cases k1 : (30 : Int) < c.bands.length
  · simp only [go_sem, Ct.v, Ct.cs, Dm.v, Dm.cs, List.length_map, k1]
    refine cP awake_ok ?_
    simp only [go_sem]
  by_cases k2 : (6 : Int) < menu.length
  · simp only [go_sem, Ct.v, Ct.cs, Dm.v, Dm.cs, List.length_map, k1, k2]
    refine cP awake_ok ?_
    simp only [go_sem]
  have hmod := mod_pos most 4 (by decide)
  have hm0 : 0 ≤ most % 4 ∧ most % 4 < 4 := ⟨Int.emod_nonneg _ (by decide), Int.emod_lt_of_pos _ (by decide)⟩
  have w1' : IntKind.i64.wrap (1 + most % 4) = 1 + most % 4 := w64 (by omega)
  generalize most % 4 = kk at *
  have both1 := sh_both c (by omega) x menu (by omega) most
  have z0 : ∀ a : Int, (a != a) = false := fun a => by simp
  have z1 : ∀ a : Int, (a == a) = true := fun a => by simp
  have s0 := Same_run [] (by simp)
  have v0 : ∀ (H : Heap), frz 6 H (c.v (.view (c.bands.map Bd.v))) = c.v (.view (c.bands.map Bd.v)) := fun H => by simp only [go_sem, frz, bds_frz, Ct.v, Ct.cs]
  have l0 : ∀ (H : Heap), frz 6 H (.view (menu.map Ht.v)) = .view (menu.map Ht.v) := fun H => by
    show AVal.view ((menu.map Ht.v).map (frz 5 H)) = _
    rw [hts_frz]
  simp only [go_sem, Ct.v, Ct.cs, Dm.v, Dm.cs, List.length_map, k1, k2]
  refine callN1 hd ⟨by rw [bel_view]; exact bels_map _ _ fun _ => .int _ _, trivial⟩ (dr_bel _ _) (by simp) (by simp) ?_
  simp only [go_sem]
  refine callDN (coatOf_run w) rfl trivial (dr_bel _ _) (fun a ha => ⟨by simp only [go_sem], by simp only [go_sem], by simp only [go_sem]⟩) (by simp) (by simp) ?_
  rintro ⟨m, w1⟩ hm
  dsimp only at hm
  simp only [go_sem, Ct.v, Ct.cs, ren, rens]
  refine callDS (scheduleOf_run w1 3 12 (by decide) (by decide)) rfl ⟨.int _ _, .int _ _, trivial⟩ (dr_bel _ _) (fun a ha => ⟨by simp only [go_sem], by simp only [go_sem]⟩) (by simp) (by simp) ?_
  rintro ⟨p, w2⟩ hp
  dsimp only at hp
  have hml := hm.len
  have hpl := hp.len
  have hps := hp.ok (by decide) (by decide) (by decide)
  by_cases hnil : p = []
  · have e1 : slv 4 (List.map Ht.v p) = .nilsl := by rw [hnil]; rfl
    have e2 : slrG true 3 (List.map Ht.v p) = [] := by rw [hnil]; rfl
    obtain ⟨D, w3, hD⟩ := demandOf_none w2 m hm true
    simp only [go_sem, e1, e2, Ct.v, Ct.cs]
    refine ⟨by decide, by decide, ?_⟩
    refine dS3 hD (j0 := 2) (j1 := 3) (j2 := 5) (by simp [ren, rens, nth, Ct.v, Ct.cs]) ⟨by rw [bel_ptr]; decide, by rw [ct_bel, bel_sl]; decide, by rw [bel_sl]; decide, trivial⟩ rfl rfl rfl (by simp only [go_sem]) (by simp only [go_sem]) (by rw [row_bel_cells]; trivial) (by simp only [go_sem]) (by decide) (by simp only [go_sem]) (by simp) (by rfl) ?_
    simp only [go_sem, Ct.v, Ct.cs, Dm.v, Dm.cs]
    have both2 := sh_both m (by omega) D [] (by simp) (1 + kk)
    rcases both1 with ⟨e1', pa⟩ | ⟨la, na, hla, pa⟩
    · refine cF pa.1 6 ⟨.inl (v0 _), .inl rfl, .inl (l0 _), .inl rfl, trivial⟩ ?_
      simp only [go_sem, Ct.v, Ct.cs, Dm.v, Dm.cs, ren, rens, z0, z1]
      refine cF pa.2 6 ⟨.inl (v0 _), .inl rfl, .inl (l0 _), .inl rfl, trivial⟩ ?_
      simp only [go_sem, Ct.v, Ct.cs, Dm.v, Dm.cs, ren, rens, z0, z1]
      refine cF s0 6 ⟨.inr ⟨rfl, rfl⟩, .inr ⟨rfl, rfl⟩, trivial⟩ ?_
      simp only [go_sem, Ct.v, Ct.cs, Dm.v, Dm.cs, ren, rens, z0, z1]
      refine cP hmod ?_
      simp only [go_sem, w1', Ct.v, Ct.cs, Dm.v, Dm.cs, ren, rens]
      rcases both2 with ⟨e2', pb⟩ | ⟨lb, nb, hlb, pb⟩
      · refine cF pb.1 6 ⟨.inl (ct_frz (H := _) rfl), .inl rfl, .inr ⟨rfl, rfl⟩, .inl rfl, trivial⟩ ?_
        simp only [go_sem, Ct.v, Ct.cs, Dm.v, Dm.cs, ren, rens, z0, z1]
        refine cF pb.2 6 ⟨.inl (ct_frz (H := _) rfl), .inl rfl, .inr ⟨rfl, rfl⟩, .inl rfl, trivial⟩ ?_
        simp only [go_sem, Ct.v, Ct.cs, Dm.v, Dm.cs, ren, rens, z0, z1]
        refine cF s0 6 ⟨.inr ⟨rfl, rfl⟩, .inr ⟨rfl, rfl⟩, trivial⟩ ?_
        simp only [go_sem, Ct.v, Ct.cs, Dm.v, Dm.cs, ren, rens, z0, z1]
        refine cP awake_ok ?_
        simp only [go_sem]
      · have sb := Same_run lb (by omega)
        refine cFN pb.1 6 ⟨.inl (ct_frz (H := _) rfl), .inl rfl, .inr ⟨rfl, rfl⟩, .inl rfl, trivial⟩ ?_ (hx := ivs_row _ _ _) (hxn := ivs_nv _ _)
        simp only [go_sem, Ct.v, Ct.cs, Dm.v, Dm.cs, ren, rens, z0, z1]
        refine cFN pb.2 6 ⟨.inl (ct_frz (H := _) rfl), .inl rfl, .inr ⟨rfl, rfl⟩, .inl rfl, trivial⟩ ?_ (hx := ivs_row _ _ _) (hxn := ivs_nv _ _)
        simp only [go_sem, Ct.v, Ct.cs, Dm.v, Dm.cs, ren, rens, z0, z1]
        refine cF sb 6 ⟨.inl (iv_frz (H := _) rfl rfl), .inl (iv_frz (H := _) rfl rfl), trivial⟩ ?_
        simp only [go_sem, Ct.v, Ct.cs, Dm.v, Dm.cs, ren, rens, z0, z1]
        refine cP awake_ok ?_
        simp only [go_sem]
    · have sa := Same_run la (by omega)
      refine cFN pa.1 6 ⟨.inl (v0 _), .inl rfl, .inl (l0 _), .inl rfl, trivial⟩ ?_ (hx := ivs_row _ _ _) (hxn := ivs_nv _ _)
      simp only [go_sem, Ct.v, Ct.cs, Dm.v, Dm.cs, ren, rens, z0, z1]
      refine cFN pa.2 6 ⟨.inl (v0 _), .inl rfl, .inl (l0 _), .inl rfl, trivial⟩ ?_ (hx := ivs_row _ _ _) (hxn := ivs_nv _ _)
      simp only [go_sem, Ct.v, Ct.cs, Dm.v, Dm.cs, ren, rens, z0, z1]
      refine cF sa 6 ⟨.inl (iv_frz (H := _) rfl rfl), .inl (iv_frz (H := _) rfl rfl), trivial⟩ ?_
      simp only [go_sem, Ct.v, Ct.cs, Dm.v, Dm.cs, ren, rens, z0, z1]
      refine cP hmod ?_
      simp only [go_sem, w1', Ct.v, Ct.cs, Dm.v, Dm.cs, ren, rens]
      rcases both2 with ⟨e2', pb⟩ | ⟨lb, nb, hlb, pb⟩
      · refine cF pb.1 6 ⟨.inl (ct_frz (H := _) rfl), .inl rfl, .inr ⟨rfl, rfl⟩, .inl rfl, trivial⟩ ?_
        simp only [go_sem, Ct.v, Ct.cs, Dm.v, Dm.cs, ren, rens, z0, z1]
        refine cF pb.2 6 ⟨.inl (ct_frz (H := _) rfl), .inl rfl, .inr ⟨rfl, rfl⟩, .inl rfl, trivial⟩ ?_
        simp only [go_sem, Ct.v, Ct.cs, Dm.v, Dm.cs, ren, rens, z0, z1]
        refine cF s0 6 ⟨.inr ⟨rfl, rfl⟩, .inr ⟨rfl, rfl⟩, trivial⟩ ?_
        simp only [go_sem, Ct.v, Ct.cs, Dm.v, Dm.cs, ren, rens, z0, z1]
        refine cP awake_ok ?_
        simp only [go_sem]
      · have sb := Same_run lb (by omega)
        refine cFN pb.1 6 ⟨.inl (ct_frz (H := _) rfl), .inl rfl, .inr ⟨rfl, rfl⟩, .inl rfl, trivial⟩ ?_ (hx := ivs_row _ _ _) (hxn := ivs_nv _ _)
        simp only [go_sem, Ct.v, Ct.cs, Dm.v, Dm.cs, ren, rens, z0, z1]
        refine cFN pb.2 6 ⟨.inl (ct_frz (H := _) rfl), .inl rfl, .inr ⟨rfl, rfl⟩, .inl rfl, trivial⟩ ?_ (hx := ivs_row _ _ _) (hxn := ivs_nv _ _)
        simp only [go_sem, Ct.v, Ct.cs, Dm.v, Dm.cs, ren, rens, z0, z1]
        refine cF sb 6 ⟨.inl (iv_frz (H := _) rfl rfl), .inl (iv_frz (H := _) rfl rfl), trivial⟩ ?_
        simp only [go_sem, Ct.v, Ct.cs, Dm.v, Dm.cs, ren, rens, z0, z1]
        refine cP awake_ok ?_
        simp only [go_sem]
  · have hne : List.map Ht.v p ≠ [] := by simpa using hnil
    have e1 : slv 4 (List.map Ht.v p) = .sl 4 0 p.length := by unfold slv; rw [if_neg hne, List.length_map]
    have e2 : slrG true 3 (List.map Ht.v p) = [some (.cells true 3 (List.map Ht.v p))] := by unfold slrG; rw [if_neg hne]
    have hpp : Sch (p ++ p) 6 12 := ⟨by simp; omega, fun z hz => (List.mem_append.1 hz).elim (hp.all z) (hp.all z)⟩
    have hpps := hpp.ok (by decide) (by decide) (by decide)
    have hss := hts_sized p
    have htk : List.take p.length (List.map Ht.v p) = List.map Ht.v p := List.take_of_length_le (by simp)
    have b1 : p.length * 24 ≤ 2 ^ 44 := by omega
    have b2 : (p.length + p.length) * 24 ≤ 2 ^ 44 := by omega
    obtain ⟨D, w3, -, hD⟩ := demandOf_det w2 m hm (p ++ p) hpps true (by simp [hnil])
    rw [List.length_append, List.map_append] at hD
    simp only [go_sem, e1, e2, Ct.v, Ct.cs, List.length_map, htk, hss, b1, b2]
    refine dS3 hD (j0 := 2) (j1 := 3) (j2 := 6) (by simp [ren, rens, nth, Ct.v, Ct.cs]) ⟨by rw [bel_ptr]; decide, by rw [ct_bel, bel_sl]; decide, by rw [bel_sl]; decide, trivial⟩ rfl rfl rfl (by simp only [go_sem]) (by simp only [go_sem]) (by rw [row_bel_cells, ← List.map_append]; exact hts_belS _) (by simp only [go_sem]) (by decide) (by simp only [go_sem]) (by simp) (by rfl) ?_
    simp only [go_sem, Ct.v, Ct.cs, Dm.v, Dm.cs]
    have both2 := sh_both m (by omega) D p (by omega) (1 + kk)
    rcases both1 with ⟨e1', pa⟩ | ⟨la, na, hla, pa⟩
    · refine cF pa.1 6 ⟨.inl (v0 _), .inl rfl, .inl (l0 _), .inl rfl, trivial⟩ ?_
      simp only [go_sem, Ct.v, Ct.cs, Dm.v, Dm.cs, ren, rens, z0, z1]
      refine cF pa.2 6 ⟨.inl (v0 _), .inl rfl, .inl (l0 _), .inl rfl, trivial⟩ ?_
      simp only [go_sem, Ct.v, Ct.cs, Dm.v, Dm.cs, ren, rens, z0, z1]
      refine cF s0 6 ⟨.inr ⟨rfl, rfl⟩, .inr ⟨rfl, rfl⟩, trivial⟩ ?_
      simp only [go_sem, Ct.v, Ct.cs, Dm.v, Dm.cs, ren, rens, z0, z1]
      refine cP hmod ?_
      simp only [go_sem, w1', Ct.v, Ct.cs, Dm.v, Dm.cs, ren, rens]
      rcases both2 with ⟨e2', pb⟩ | ⟨lb, nb, hlb, pb⟩
      · refine cF pb.1 6 ⟨.inl (ct_frz (H := _) rfl), .inl rfl, .inl (sch_frz (H := _) rfl rfl), .inl rfl, trivial⟩ ?_
        simp only [go_sem, Ct.v, Ct.cs, Dm.v, Dm.cs, ren, rens, z0, z1]
        refine cF pb.2 6 ⟨.inl (ct_frz (H := _) rfl), .inl rfl, .inl (sch_frz (H := _) rfl rfl), .inl rfl, trivial⟩ ?_
        simp only [go_sem, Ct.v, Ct.cs, Dm.v, Dm.cs, ren, rens, z0, z1]
        refine cF s0 6 ⟨.inr ⟨rfl, rfl⟩, .inr ⟨rfl, rfl⟩, trivial⟩ ?_
        simp only [go_sem, Ct.v, Ct.cs, Dm.v, Dm.cs, ren, rens, z0, z1]
        refine cP awake_ok ?_
        simp only [go_sem]
      · have sb := Same_run lb (by omega)
        refine cFN pb.1 6 ⟨.inl (ct_frz (H := _) rfl), .inl rfl, .inl (sch_frz (H := _) rfl rfl), .inl rfl, trivial⟩ ?_ (hx := ivs_row _ _ _) (hxn := ivs_nv _ _)
        simp only [go_sem, Ct.v, Ct.cs, Dm.v, Dm.cs, ren, rens, z0, z1]
        refine cFN pb.2 6 ⟨.inl (ct_frz (H := _) rfl), .inl rfl, .inl (sch_frz (H := _) rfl rfl), .inl rfl, trivial⟩ ?_ (hx := ivs_row _ _ _) (hxn := ivs_nv _ _)
        simp only [go_sem, Ct.v, Ct.cs, Dm.v, Dm.cs, ren, rens, z0, z1]
        refine cF sb 6 ⟨.inl (iv_frz (H := _) rfl rfl), .inl (iv_frz (H := _) rfl rfl), trivial⟩ ?_
        simp only [go_sem, Ct.v, Ct.cs, Dm.v, Dm.cs, ren, rens, z0, z1]
        refine cP awake_ok ?_
        simp only [go_sem]
    · have sa := Same_run la (by omega)
      refine cFN pa.1 6 ⟨.inl (v0 _), .inl rfl, .inl (l0 _), .inl rfl, trivial⟩ ?_ (hx := ivs_row _ _ _) (hxn := ivs_nv _ _)
      simp only [go_sem, Ct.v, Ct.cs, Dm.v, Dm.cs, ren, rens, z0, z1]
      refine cFN pa.2 6 ⟨.inl (v0 _), .inl rfl, .inl (l0 _), .inl rfl, trivial⟩ ?_ (hx := ivs_row _ _ _) (hxn := ivs_nv _ _)
      simp only [go_sem, Ct.v, Ct.cs, Dm.v, Dm.cs, ren, rens, z0, z1]
      refine cF sa 6 ⟨.inl (iv_frz (H := _) rfl rfl), .inl (iv_frz (H := _) rfl rfl), trivial⟩ ?_
      simp only [go_sem, Ct.v, Ct.cs, Dm.v, Dm.cs, ren, rens, z0, z1]
      refine cP hmod ?_
      simp only [go_sem, w1', Ct.v, Ct.cs, Dm.v, Dm.cs, ren, rens]
      rcases both2 with ⟨e2', pb⟩ | ⟨lb, nb, hlb, pb⟩
      · refine cF pb.1 6 ⟨.inl (ct_frz (H := _) rfl), .inl rfl, .inl (sch_frz (H := _) rfl rfl), .inl rfl, trivial⟩ ?_
        simp only [go_sem, Ct.v, Ct.cs, Dm.v, Dm.cs, ren, rens, z0, z1]
        refine cF pb.2 6 ⟨.inl (ct_frz (H := _) rfl), .inl rfl, .inl (sch_frz (H := _) rfl rfl), .inl rfl, trivial⟩ ?_
        simp only [go_sem, Ct.v, Ct.cs, Dm.v, Dm.cs, ren, rens, z0, z1]
        refine cF s0 6 ⟨.inr ⟨rfl, rfl⟩, .inr ⟨rfl, rfl⟩, trivial⟩ ?_
        simp only [go_sem, Ct.v, Ct.cs, Dm.v, Dm.cs, ren, rens, z0, z1]
        refine cP awake_ok ?_
        simp only [go_sem]
      · have sb := Same_run lb (by omega)
        refine cFN pb.1 6 ⟨.inl (ct_frz (H := _) rfl), .inl rfl, .inl (sch_frz (H := _) rfl rfl), .inl rfl, trivial⟩ ?_ (hx := ivs_row _ _ _) (hxn := ivs_nv _ _)
        simp only [go_sem, Ct.v, Ct.cs, Dm.v, Dm.cs, ren, rens, z0, z1]
        refine cFN pb.2 6 ⟨.inl (ct_frz (H := _) rfl), .inl rfl, .inl (sch_frz (H := _) rfl rfl), .inl rfl, trivial⟩ ?_ (hx := ivs_row _ _ _) (hxn := ivs_nv _ _)
        simp only [go_sem, Ct.v, Ct.cs, Dm.v, Dm.cs, ren, rens, z0, z1]
        refine cF sb 6 ⟨.inl (iv_frz (H := _) rfl rfl), .inl (iv_frz (H := _) rfl rfl), trivial⟩ ?_
        simp only [go_sem, Ct.v, Ct.cs, Dm.v, Dm.cs, ren, rens, z0, z1]
        refine cP awake_ok ?_
        simp only [go_sem]
end Go.Proofs

