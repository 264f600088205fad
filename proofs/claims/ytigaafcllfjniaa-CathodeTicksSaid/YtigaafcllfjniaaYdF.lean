/- Demands made of numbers: what DemandOf deals out. -/
import Derived.Test.YtigaafcllfjniaaYdE
import Derived.Test.YtigaafcllfjniaaYcP
namespace Go.Proofs
open Go Go.Sx
attribute [local irreducible] Run

def demV (w gas : Int) (c : Ct) (x : Cg) : Dm :=
  let w1 := dstep (dstep w)
  let w2 := dstep (dstep w1)
  let w3 := dstep (dstep w2)
  let w4 := dstep (dstep w3)
  ⟨sel3v (upto (dstep w) 3) gas (upto w (gas + 2)) c.amount, nearV w1 x.wear, nearV w2 x.lost, nearV w3 x.carb, sel4v (upto (dstep w4) 4) 0 x.ba.lo x.ba.hi (btw w4 x.ba.lo x.ba.hi)⟩
theorem demV_ok {w gas : Int} {c : Ct} {x : Cg} (hc : CtOK c) (hx : CgOK c x) (hg : 0 ≤ gas ∧ gas ≤ 1000000) : DmOK (demV w gas c x) ∧ (demV w gas c x).ba ≤ 1000000 := by
  have hm := hc.amount
  have u := upto_in (w := w) (n := gas + 2) (by omega)
  have hba := hx.ba.all
  have b := fun w => btw_in (w := w) hba.2.1
  refine ⟨⟨?_, nearV_in hx.wear (by decide), nearV_in hx.lost (by omega), nearV_in hx.carb (by omega), ?_⟩, ?_⟩
  · show 0 ≤ sel3v _ _ _ _ ∧ sel3v _ _ _ _ ≤ _
    unfold sel3v
    constructor <;> (repeat' split) <;> omega
  · show 0 ≤ sel4v _ _ _ _ _ ∧ sel4v _ _ _ _ _ ≤ _
    have b' := b (dstep (dstep (dstep (dstep (dstep (dstep (dstep (dstep w))))))))
    unfold sel4v
    constructor <;> (repeat' split) <;> omega
  · show sel4v _ _ _ _ _ ≤ _
    have b' := b (dstep (dstep (dstep (dstep (dstep (dstep (dstep (dstep w))))))))
    unfold sel4v
    (repeat' split) <;> omega

def demH (w : Int) (c : Ct) (l : List Ht) (g : Bool) (x : Cg) (X : Heap) : Heap := some (Dr w) :: some (BdR c.bands) :: some (.cells g 3 (l.map Ht.v)) :: some (.cells false 7 [c.v (.sl 1 0 c.bands.length)]) :: some (.cells false 5 [.agg [.int .i64 0, .int .i64 0, .int .i64 0, .int .i64 0, .int .i64 0]]) :: some (.cells false 13 [x.v]) :: X

set_option maxHeartbeats 4000000 in
set_option maxRecDepth 4000 in
theorem demandOf_run (w : Int) (c : Ct) (hc : CtOK c) (l : List Ht) (hl : LsOK l) (g : Bool) (h0 : l ≠ []) :
    AnsE Try.prog n_kit_DemandOf [.ptr 0 0 0 1, c.v (.sl 1 0 c.bands.length), .sl 2 0 l.length] [some (Dr w), some (BdR c.bands), some (.cells g 3 (l.map Ht.v))] (fun a : Dm × Int => DmOK a.1 ∧ a.1.ba ≤ 1000000) (fun a => a.1.v) (fun a => [some (Dr a.2), some (BdR c.bands), some (.cells g 3 (l.map Ht.v))]) := by
  have hlen := hl.len
  have hsum := hl.sum
  have hlp : 0 < l.length := List.length_pos_iff.2 h0
  have hF := rFollow_run c hc l hl h0
  have hFl : (follow c l).length = l.length := followX_len c _ _
  have hall : ∀ y ∈ flat l, HtOK y := fun y hy => hl.all y (flat_mem hy)
  have hfl := flat_len hl.all
  have hgood : ∀ i, i < l.length → ∃ y, (follow c l)[i]? = some y ∧ CgOK c y := fun i hi => ⟨_, follow_get hi, by
    have h1 := flat_len_le l (i + 1)
    exact (coatOf_good hc (fun y hy => hl.all y (List.mem_of_mem_take (flat_mem hy))) (by omega)).ok⟩
  obtain ⟨x, hx, hxo⟩ := hgood (l.length - 1) (by omega)
  generalize follow c l = F at *
  have g0 : (0 : Int) < l.length := by omega
  have g1 : IntKind.i64.wrap ((l.length : Int) - 1) = ((l.length - 1 : Nat) : Int) := by rw [w64 (by omega)]; omega
  have g2 : ¬ ((l.length - 1 : Nat) : Int) < 0 := by omega
  have g3 : ((l.length - 1 : Nat) : Int) < l.length := by omega
  refine AnsE.keep (run_fn e_kit_DemandOf fun G => ?_) (fun a ha => ⟨by simp, by simp only [go_sem], by simp only [go_sem], by simp only [go_sem], by rw [row_bel_cells]; simp only [go_sem], trivial⟩)
  simp only [go_sem, Ct.v, Ct.cs]
  refine cFN hF 6 ⟨.inl (ct_frz (H := _) rfl), .inl (sch_frz (H := _) rfl rfl), trivial⟩ ?_
  simp only [go_sem, ren, rens, CgR, List.length_map, hFl, g0, g1, g2, g3, hx, Cg.v, Cg.cs]
  refine loop_ind k_kit_DemandOf_r10.eq_1 (fun a : Nat × Int × Heap => a.1 ≤ l.length ∧ 0 ≤ a.2.1 ∧ a.2.1 ≤ 1000000) (fun a => l.length - a.1)
    (fun a => (tsets 81 [(0, .ptr 0 0 0 1), (4, .ptr 3 0 0 1), (6, .ptr 4 0 0 1), (7, .ptr 5 0 0 1), (8, .int .i64 a.2.1), (9, .sl 6 0 l.length), (11, .int .i64 a.1)], demH w c l g x (some (.cells true 13 (F.map Cg.v)) :: a.2.2)))
    (0, 0, []) ⟨Nat.zero_le _, by decide, by decide⟩ (by simp [go_sem]) rfl ?_
  rintro ⟨i, gas, X⟩ ⟨hi, hg0, hg1⟩ ih
  dsimp only at hi hg0 hg1 ih ⊢
  by_cases h1 : i < l.length
  · have h2 : (i : Int) < l.length := by omega
    have n0 : ¬ (i : Int) < 0 := by omega
    obtain ⟨y, hy, hyo⟩ := hgood i h1
    have h3 := idx_next h1 (by omega)
    have hyg := hyo.gas.all
    have hm := hc.amount
    simp only [go_sem, demH, h2, n0, hy, hFl, List.length_map, Cg.v, Cg.cs, h3]
    refine ih (i + 1, (if y.gas.hi > gas then y.gas.hi else gas), X) (by dsimp only; omega) ⟨h1, ?_⟩ _ (by simp [go_sem])
    dsimp only
    split <;> omega
  · have h2 : ¬ (i : Int) < l.length := by omega
    have hm := hc.amount
    have hu1 := upto_ok w (gas + 2) (by omega)
    have hu2 := upto_ok (dstep w) 3 (by decide)
    have q1 := upto_in (w := dstep w) (n := 3) (by decide)
    have s1 := sel3v_ok _ gas (upto w (gas + 2)) c.amount q1
    have e1 : IntKind.i64.wrap (gas + 2) = gas + 2 := w64 (by omega)
    have n1 : ¬ upto (dstep w) 3 < 0 := by omega
    have n2 : upto (dstep w) 3 < 3 := q1.2
    have r1 := near_run (dstep (dstep w)) x.wear hxo.wear (by decide)
    have r2 := near_run (dstep (dstep (dstep (dstep w)))) x.lost hxo.lost (by omega)
    have r3 := near_run (dstep (dstep (dstep (dstep (dstep (dstep w)))))) x.carb hxo.carb (by omega)
    have r4 := in_run (dstep (dstep (dstep (dstep (dstep (dstep (dstep (dstep w)))))))) x.ba hxo.ba (by omega)
    have hu3 := upto_ok (dstep (dstep (dstep (dstep (dstep (dstep (dstep (dstep (dstep w))))))))) 4 (by decide)
    have q2 := upto_in (w := dstep (dstep (dstep (dstep (dstep (dstep (dstep (dstep (dstep w))))))))) (n := 4) (by decide)
    have s2 := sel4v_ok _ 0 x.ba.lo x.ba.hi (btw (dstep (dstep (dstep (dstep (dstep (dstep (dstep (dstep w)))))))) x.ba.lo x.ba.hi) q2
    have n3 : ¬ upto (dstep (dstep (dstep (dstep (dstep (dstep (dstep (dstep (dstep w))))))))) 4 < 0 := by omega
    have n4 : upto (dstep (dstep (dstep (dstep (dstep (dstep (dstep (dstep (dstep w))))))))) 4 < 4 := q2.2
    have hok := demV_ok (w := w) hc hxo ⟨hg0, hg1⟩
    unfold demV at hok
    dsimp only at hok
    generalize nearV (dstep (dstep w)) x.wear = v1 at *
    generalize nearV (dstep (dstep (dstep (dstep w)))) x.lost = v2 at *
    generalize nearV (dstep (dstep (dstep (dstep (dstep (dstep w)))))) x.carb = v3 at *
    generalize btw (dstep (dstep (dstep (dstep (dstep (dstep (dstep (dstep w)))))))) x.ba.lo x.ba.hi = v4 at *
    generalize upto (dstep (dstep (dstep (dstep (dstep (dstep (dstep (dstep (dstep w))))))))) 4 = v5 at *
    generalize upto (dstep w) 3 = v6 at *
    generalize upto w (gas + 2) = v7 at *
    simp only [go_sem, demH, h2, hFl, List.length_map, Cg.v, Cg.cs, e1]
    refine dD hu1 ?_
    simp only [go_sem, Ct.v, Ct.cs]
    refine dD hu2 ?_
    simp only [go_sem, n1, n2, s1]
    refine dD r1 ?_
    simp only [go_sem]
    refine dD r2 ?_
    simp only [go_sem]
    refine dD r3 ?_
    simp only [go_sem]
    refine dD r4 ?_
    simp only [go_sem]
    refine ⟨by simp <;> omega, ?_⟩
    refine dD hu3 ?_
    simp only [go_sem, n3, n4, s2]
    refine ⟨by omega, by omega, (⟨sel3v v6 gas v7 c.amount, v1, v2, v3, sel4v v5 0 x.ba.lo x.ba.hi v4⟩, (dstep (dstep (dstep (dstep (dstep (dstep (dstep (dstep (dstep (dstep w))))))))))), hok, kept_id rfl (by simp only [go_sem]) ?_⟩
    intro i z hz
    have hi3 := (List.getElem?_eq_some_iff.1 hz).1
    simp only [List.length_cons, List.length_nil] at hi3
    obtain rfl | rfl | rfl : i = 0 ∨ i = 1 ∨ i = 2 := by omega
    · simp at hz; subst hz; exact ⟨by simp only [go_sem], rfl⟩
    · simp at hz; subst hz; exact ⟨by simp only [go_sem], rfl⟩
    · simp at hz; subst hz; exact ⟨by rw [row_bel_cells]; simp only [go_sem], rfl⟩

def zeroCg : Cg := ⟨⟨0, 0⟩, ⟨0, 0⟩, ⟨0, 0⟩, ⟨0, 0⟩, ⟨0, 0⟩, ⟨0, 0⟩, 0⟩
theorem zeroCg_ok {c : Ct} (hc : CtOK c) : CgOK c zeroCg := by
  have := hc.amount
  refine ⟨⟨?_, ?_, ?_⟩, ⟨?_, ?_, ?_⟩, ⟨?_, ?_, ?_⟩, ⟨?_, ?_, ?_⟩, ⟨?_, ?_, ?_⟩, ⟨?_, ?_, ?_⟩, ⟨?_, ?_⟩⟩ <;> simp only [zeroCg] <;> omega

set_option maxHeartbeats 4000000 in
set_option maxRecDepth 4000 in
theorem demandOf_nil (w : Int) (c : Ct) (hc : CtOK c) :
    AnsE Try.prog n_kit_DemandOf [.ptr 0 0 0 1, c.v (.sl 1 0 c.bands.length), .nilsl] [some (Dr w), some (BdR c.bands)] (fun a : Dm × Int => DmOK a.1 ∧ a.1.ba ≤ 1000000) (fun a => a.1.v) (fun a => [some (Dr a.2), some (BdR c.bands)]) := by
  have hxo := zeroCg_ok hc
  have hm := hc.amount
  have e1 : IntKind.i64.wrap 2 = 2 := rfl
  refine AnsE.keep (run_fn e_kit_DemandOf fun G => ?_) (fun a ha => ⟨by simp, by simp only [go_sem], by simp only [go_sem], by simp only [go_sem], trivial⟩)
  simp only [go_sem, Ct.v, Ct.cs]
  refine cF (rFollow_nil c hc) 6 ⟨.inl (ct_frz (H := _) rfl), .inr ⟨rfl, rfl⟩, trivial⟩ ?_
  simp only [go_sem]
  refine loop_body 200 k_kit_DemandOf_r10.eq_1 ?_
  simp only [go_sem, e1]
  have hu1 := upto_ok w 2 (by decide)
  have hu2 := upto_ok (dstep w) 3 (by decide)
  have q1 := upto_in (w := dstep w) (n := 3) (by decide)
  have s1 := sel3v_ok _ 0 (upto w 2) c.amount q1
  have e1 : IntKind.i64.wrap 2 = 2 := rfl
  have n1 : ¬ upto (dstep w) 3 < 0 := by omega
  have n2 : upto (dstep w) 3 < 3 := q1.2
  have r1 := near_run (dstep (dstep w)) ⟨0, 0⟩ hxo.wear (by decide)
  have r2 := near_run (dstep (dstep (dstep (dstep w)))) ⟨0, 0⟩ hxo.lost (by omega)
  have r3 := near_run (dstep (dstep (dstep (dstep (dstep (dstep w)))))) ⟨0, 0⟩ hxo.carb (by omega)
  have r4 := in_run (dstep (dstep (dstep (dstep (dstep (dstep (dstep (dstep w)))))))) ⟨0, 0⟩ hxo.ba (by omega)
  have hu3 := upto_ok (dstep (dstep (dstep (dstep (dstep (dstep (dstep (dstep (dstep w))))))))) 4 (by decide)
  have q2 := upto_in (w := dstep (dstep (dstep (dstep (dstep (dstep (dstep (dstep (dstep w))))))))) (n := 4) (by decide)
  have s2 := sel4v_ok _ 0 0 0 (btw (dstep (dstep (dstep (dstep (dstep (dstep (dstep (dstep w)))))))) 0 0) q2
  have n3 : ¬ upto (dstep (dstep (dstep (dstep (dstep (dstep (dstep (dstep (dstep w))))))))) 4 < 0 := by omega
  have n4 : upto (dstep (dstep (dstep (dstep (dstep (dstep (dstep (dstep (dstep w))))))))) 4 < 4 := q2.2
  have hok := demV_ok (w := w) hc hxo (gas := 0) ⟨by decide, by decide⟩
  unfold demV at hok
  dsimp only at hok
  rw [show (0 : Int) + 2 = 2 from rfl] at hok
  simp only [zeroCg] at hok hxo
  generalize nearV (dstep (dstep w)) ⟨0, 0⟩ = v1 at *
  generalize nearV (dstep (dstep (dstep (dstep w)))) ⟨0, 0⟩ = v2 at *
  generalize nearV (dstep (dstep (dstep (dstep (dstep (dstep w)))))) ⟨0, 0⟩ = v3 at *
  generalize btw (dstep (dstep (dstep (dstep (dstep (dstep (dstep (dstep w)))))))) 0 0 = v4 at *
  generalize upto (dstep (dstep (dstep (dstep (dstep (dstep (dstep (dstep (dstep w))))))))) 4 = v5 at *
  generalize upto (dstep w) 3 = v6 at *
  generalize upto w 2 = v7 at *
  refine dD hu1 ?_
  simp only [go_sem, Ct.v, Ct.cs]
  refine dD hu2 ?_
  simp only [go_sem, n1, n2, s1]
  refine dD r1 ?_
  simp only [go_sem]
  refine dD r2 ?_
  simp only [go_sem]
  refine dD r3 ?_
  simp only [go_sem]
  refine dD r4 ?_
  simp only [go_sem]
  refine dD hu3 ?_
  simp only [go_sem, n3, n4, s2]
  refine ⟨(⟨sel3v v6 0 v7 c.amount, v1, v2, v3, sel4v v5 0 0 0 v4⟩, (dstep (dstep (dstep (dstep (dstep (dstep (dstep (dstep (dstep (dstep w))))))))))), hok, kept_id rfl (by simp only [go_sem]) ?_⟩
  intro i z hz
  have hi3 := (List.getElem?_eq_some_iff.1 hz).1
  simp only [List.length_cons, List.length_nil] at hi3
  obtain rfl | rfl : i = 0 ∨ i = 1 := by omega
  · simp at hz; subst hz; exact ⟨by simp only [go_sem], rfl⟩
  · simp at hz; subst hz; exact ⟨by simp only [go_sem], rfl⟩
end Go.Proofs
