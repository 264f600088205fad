/- CathodeFirst. -/
import Derived.Test.YtgikocfbedopmaaYdS
namespace Go.Proofs
open Go Go.Sx
attribute [local irreducible] Run

set_option maxHeartbeats 1000000 in
theorem Same_run (l : List Int) (hl : l.length ≤ 1000) : Ans Try.prog n_kit_Same [.view (ivs l), .view (ivs l)] [] (.bool true) [] := by
  have g0 : ((l.length : Int) != l.length) = false := by simp
  refine spec_run e_kit_Same fun G => ?_
  simp only [go_sem, ivs_len, g0]
  refine loop_ind k_kit_Same_r8.eq_1 (fun a : Nat => a ≤ l.length) (fun a => l.length - a)
    (fun a => (tsets 26 [(0, .view (ivs l)), (1, .view (ivs l)), (5, .int .i64 a)], [])) 0 (Nat.zero_le _) (by simp [go_sem]) rfl ?_
  intro i hi ih
  dsimp only at ih ⊢
  by_cases h1 : i < l.length
  · have h2 : (i : Int) < l.length := by omega
    have n0 : ¬ (i : Int) < 0 := by omega
    have hv := ivs_get (List.getElem?_eq_getElem h1)
    have h3 := idx_next h1 (by omega)
    have b0 : ∀ x : Int, (x != x) = false := fun x => by simp
    simp only [go_sem, ivs_len, h2, n0, hv, h3, b0]
    exact ih (i + 1) (by omega) h1 _ (by simp [go_sem])
  · have h2 : ¬ (i : Int) < l.length := by omega
    simp only [go_sem, ivs_len, h2]

def gm (F : List Cg) : Int := F.foldl (fun g y => if y.gas.hi > g then y.gas.hi else g) 0
theorem gm_snoc {F : List Cg} {i : Nat} {y : Cg} (h : F[i]? = some y) : gm (F.take (i + 1)) = if y.gas.hi > gm (F.take i) then y.gas.hi else gm (F.take i) := by
  rw [take_snoc h]; simp [gm]
theorem gm_go : ∀ (F : List Cg) (g : Int), (∀ y ∈ F, 0 ≤ y.gas.hi ∧ y.gas.hi ≤ 1000000) → 0 ≤ g ∧ g ≤ 1000000 → 0 ≤ F.foldl (fun g y => if y.gas.hi > g then y.gas.hi else g) g ∧ F.foldl (fun g y => if y.gas.hi > g then y.gas.hi else g) g ≤ 1000000
  | [], _, _, h => h
  | y :: F, g, hF, h => by
    have hy := hF y (by simp)
    refine gm_go F _ (fun z hz => hF z (by simp [hz])) ?_
    dsimp only
    split <;> omega
theorem gm_in {F : List Cg} (h : ∀ y ∈ F, 0 ≤ y.gas.hi ∧ y.gas.hi ≤ 1000000) : 0 ≤ gm F ∧ gm F ≤ 1000000 := gm_go F 0 h (by decide)

set_option maxHeartbeats 4000000 in
set_option maxRecDepth 4000 in
theorem demandOf_det (w : Int) (c : Ct) (hc : CtOK c) (l : List Ht) (hl : LsOK l) (g : Bool) (h0 : l ≠ []) :
    ∃ D w', DmOK D ∧ Ans Try.prog n_kit_DemandOf [.ptr 0 0 0 1, c.v (.sl 1 0 c.bands.length), .sl 2 0 l.length] [some (Dr w), some (BdR c.bands), some (.cells g 3 (l.map Ht.v))] (Dm.v D) [some (Dr w'), some (BdR c.bands), some (.cells g 3 (l.map Ht.v))] := by
  have hlen := hl.len
  have hsum := hl.sum
  have hlp : 0 < l.length := List.length_pos_iff.2 h0
  have hF := rFollow_run c hc l hl h0
  have hFl : (follow c l).length = l.length := followX_len c _ _
  have hall : ∀ y ∈ flat l, HtOK y := fun y hy => hl.all y (flat_mem hy)
  have hfl := flat_len hl.all
  have hgood : ∀ i, i < l.length → ∃ y, (follow c l)[i]? = some y ∧ CgOK c y := fun i hi => ⟨_, follow_get hi, by
    have h1 := flat_len_le l (i + 1)
    exact (coatOf_good hc (fun y hy => hl.all y (List.mem_of_mem_take (flat_mem hy))) (by omega)).ok⟩
  obtain ⟨x, hx, hxo⟩ := hgood (l.length - 1) (by omega)
  generalize follow c l = F at *
  have g0 : (0 : Int) < l.length := by omega
  have g1 : IntKind.i64.wrap ((l.length : Int) - 1) = ((l.length - 1 : Nat) : Int) := by rw [w64 (by omega)]; omega
  have g2 : ¬ ((l.length - 1 : Nat) : Int) < 0 := by omega
  have g3 : ((l.length - 1 : Nat) : Int) < l.length := by omega
  have hgm : ∀ i, i ≤ l.length → 0 ≤ gm (F.take i) ∧ gm (F.take i) ≤ 1000000 := fun i hi => gm_in fun y hy => by
    obtain ⟨q, hq, rfl⟩ := List.mem_iff_getElem.1 hy
    rw [List.length_take] at hq
    obtain ⟨y', h1, h2⟩ := hgood q (by omega)
    have : F[q]? = some (F.take i)[q] := by rw [List.getElem_take]; exact List.getElem?_eq_getElem _
    rw [this] at h1
    have h3 := h2.gas.all
    have hm := hc.amount
    cases h1
    omega
  have hg00 := hgm l.length (Nat.le_refl _)
  rw [show F.take l.length = F from List.take_of_length_le (by omega)] at hg00
  have hok := demV_ok (w := w) hc hxo hg00
  refine ⟨demV w (gm F) c x, dstep (dstep (dstep (dstep (dstep (dstep (dstep (dstep (dstep (dstep w))))))))), hok.1, Ans.keep (run_fn e_kit_DemandOf fun G => ?_) (by simp) (by simp only [go_sem]) ⟨by simp only [go_sem], by simp only [go_sem], by rw [row_bel_cells]; exact hts_belS _, trivial⟩⟩
  clear hok
  simp only [go_sem, Ct.v, Ct.cs]
  refine cFN hF 6 ⟨.inl (ct_frz (H := _) rfl), .inl (sch_frz (H := _) rfl rfl), trivial⟩ ?_
  simp only [go_sem, ren, rens, CgR, List.length_map, hFl, g0, g1, g2, g3, hx, Cg.v, Cg.cs]
  refine loop_ind k_kit_DemandOf_r10.eq_1 (fun a : Nat × Heap => a.1 ≤ l.length) (fun a => l.length - a.1)
    (fun a => (tsets 81 [(0, .ptr 0 0 0 1), (4, .ptr 3 0 0 1), (6, .ptr 4 0 0 1), (7, .ptr 5 0 0 1), (8, .int .i64 (gm (F.take a.1))), (9, .sl 6 0 l.length), (11, .int .i64 a.1)], demH w c l g x (some (.cells true 13 (F.map Cg.v)) :: a.2)))
    (0, []) (Nat.zero_le _) (by simp [go_sem, gm]) rfl ?_
  rintro ⟨i, X⟩ hi ih
  dsimp only at hi ih ⊢
  by_cases h1 : i < l.length
  · have h2 : (i : Int) < l.length := by omega
    have n0 : ¬ (i : Int) < 0 := by omega
    obtain ⟨y, hy, hyo⟩ := hgood i h1
    have h3 := idx_next h1 (by omega)
    have hyg := hyo.gas.all
    have hm := hc.amount
    simp only [go_sem, demH, h2, n0, hy, hFl, List.length_map, Cg.v, Cg.cs, h3]
    refine ih (i + 1, X) (by dsimp only; omega) h1 _ ?_
    rw [gm_snoc hy]
    simp [go_sem]
  · have h2 : ¬ (i : Int) < l.length := by omega
    have hm := hc.amount
    have hie : F.take i = F := List.take_of_length_le (by omega)
    rw [hie]
    have hg0 := hg00.1
    have hg1 := hg00.2
    unfold demV
    dsimp only
    generalize gm F = gas at *
    have hu1 := upto_ok w (gas + 2) (by omega)
    have hu2 := upto_ok (dstep w) 3 (by decide)
    have q1 := upto_in (w := dstep w) (n := 3) (by decide)
    have s1 := sel3v_ok _ gas (upto w (gas + 2)) c.amount q1
    have e1 : IntKind.i64.wrap (gas + 2) = gas + 2 := w64 (by omega)
    have n1 : ¬ upto (dstep w) 3 < 0 := by omega
    have n2 : upto (dstep w) 3 < 3 := q1.2
    have r1 := near_run (dstep (dstep w)) x.wear hxo.wear (by decide)
    have r2 := near_run (dstep (dstep (dstep (dstep w)))) x.lost hxo.lost (by omega)
    have r3 := near_run (dstep (dstep (dstep (dstep (dstep (dstep w)))))) x.carb hxo.carb (by omega)
    have r4 := in_run (dstep (dstep (dstep (dstep (dstep (dstep (dstep (dstep w)))))))) x.ba hxo.ba (by omega)
    have hu3 := upto_ok (dstep (dstep (dstep (dstep (dstep (dstep (dstep (dstep (dstep w))))))))) 4 (by decide)
    have q2 := upto_in (w := dstep (dstep (dstep (dstep (dstep (dstep (dstep (dstep (dstep w))))))))) (n := 4) (by decide)
    have s2 := sel4v_ok _ 0 x.ba.lo x.ba.hi (btw (dstep (dstep (dstep (dstep (dstep (dstep (dstep (dstep w)))))))) x.ba.lo x.ba.hi) q2
    have n3 : ¬ upto (dstep (dstep (dstep (dstep (dstep (dstep (dstep (dstep (dstep w))))))))) 4 < 0 := by omega
    have n4 : upto (dstep (dstep (dstep (dstep (dstep (dstep (dstep (dstep (dstep w))))))))) 4 < 4 := q2.2
    generalize nearV (dstep (dstep w)) x.wear = v1 at *
    generalize nearV (dstep (dstep (dstep (dstep w)))) x.lost = v2 at *
    generalize nearV (dstep (dstep (dstep (dstep (dstep (dstep w)))))) x.carb = v3 at *
    generalize btw (dstep (dstep (dstep (dstep (dstep (dstep (dstep (dstep w)))))))) x.ba.lo x.ba.hi = v4 at *
    generalize upto (dstep (dstep (dstep (dstep (dstep (dstep (dstep (dstep (dstep w))))))))) 4 = v5 at *
    generalize upto (dstep w) 3 = v6 at *
    generalize upto w (gas + 2) = v7 at *
    simp only [go_sem, demH, h2, hFl, List.length_map, Cg.v, Cg.cs, e1]
    refine dD hu1 ?_
    simp only [go_sem, Ct.v, Ct.cs]
    refine dD hu2 ?_
    simp only [go_sem, n1, n2, s1]
    refine dD r1 ?_
    simp only [go_sem]
    refine dD r2 ?_
    simp only [go_sem]
    refine dD r3 ?_
    simp only [go_sem]
    refine dD r4 ?_
    simp only [go_sem]
    refine ⟨by simp <;> omega, ?_⟩
    refine dD hu3 ?_
    simp only [go_sem, n3, n4, s2]
    refine ⟨by omega, by omega, kept_id rfl (by simp only [go_sem]) ?_⟩
    intro i z hz
    have hi3 := (List.getElem?_eq_some_iff.1 hz).1
    simp only [List.length_cons, List.length_nil] at hi3
    obtain rfl | rfl | rfl : i = 0 ∨ i = 1 ∨ i = 2 := by omega
    · simp at hz; subst hz; exact ⟨by simp only [go_sem], rfl⟩
    · simp at hz; subst hz; exact ⟨by simp only [go_sem], rfl⟩
    · simp at hz; subst hz; exact ⟨by rw [row_bel_cells]; simp only [go_sem], rfl⟩
end Go.Proofs
