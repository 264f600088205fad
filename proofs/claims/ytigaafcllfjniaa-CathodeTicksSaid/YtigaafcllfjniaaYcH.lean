/- Coats: what follows. -/
import Derived.Test.YtigaafcllfjniaaYcG
namespace Go.Proofs
open Go Go.Sx

@[go_sem] theorem cg_bel (x : Cg) (S : Nat → Prop) : Bel S x.v = True := by unfold Cg.v Cg.cs; simp only [go_sem]
@[go_sem] theorem cg_nv (x : Cg) : NV x.v = True := by unfold Cg.v Cg.cs; simp only [go_sem]
def CgR (xs : List Cg) : Row := .cells true 13 (xs.map Cg.v)
@[go_sem] theorem cgs_bel (xs : List Cg) (S : Nat → Prop) : Bels S (xs.map Cg.v) = True := eq_true (bels_map _ _ fun b => by simp only [go_sem])
@[go_sem] theorem cgr_bel (xs : List Cg) (S : Nat → Prop) : (CgR xs).bel S = True := by unfold CgR; rw [row_bel_cells]; simp only [go_sem]
@[go_sem] theorem hts_bel (l : List Ht) (S : Nat → Prop) : Bels S (l.map Ht.v) = True := eq_true (bels_map _ _ fun b => by simp only [go_sem, Ht.v, Ht.cs])
theorem cg_snoc (xs : List Cg) (y : Cg) : List.map Cg.v xs ++ [.agg [.int .i64 y.carb.lo, .int .i64 y.carb.hi, .int .i64 y.ox.lo, .int .i64 y.ox.hi, .int .i64 y.ba.lo, .int .i64 y.ba.hi, .int .i64 y.lost.lo, .int .i64 y.lost.hi, .int .i64 y.gas.lo, .int .i64 y.gas.hi, .int .i64 y.wear.lo, .int .i64 y.wear.hi, .int .i64 y.heat]] = List.map Cg.v (xs ++ [y]) := by
  rw [List.map_append]; rfl
theorem cg_single (y : Cg) : [AVal.agg [.int .i64 y.carb.lo, .int .i64 y.carb.hi, .int .i64 y.ox.lo, .int .i64 y.ox.hi, .int .i64 y.ba.lo, .int .i64 y.ba.hi, .int .i64 y.lost.lo, .int .i64 y.lost.hi, .int .i64 y.gas.lo, .int .i64 y.gas.hi, .int .i64 y.wear.lo, .int .i64 y.wear.hi, .int .i64 y.heat]] = List.map Cg.v [y] := rfl

theorem tickN_ok {c : Ct} (hc : CtOK c) {x : Cg} {h : Ht} {n : Int} (hx : Good c x n) (hh : HtOK h) (hn : n + h.ticks ≤ 1000000) (t : Nat) (ht : t ≤ h.ticks.toNat) : CgB (tickN c h.heat h.cur t x) :=
  (tickN_good hc hx hh.heat hh.cur t (by have := hh.ticks; omega)).ok.b hc.amount.2

set_option maxHeartbeats 2000000 in
theorem Follow_run (c : Ct) (hc : CtOK c) (l : List Ht) (hl : LsOK l) (h0 : l ≠ []) : Ans Try.prog n_cathode_Follow [c.v (.view (c.bands.map Bd.v)), .view (l.map Ht.v)] [] (.tup [.sl 0 0 l.length, .int .i64 0]) [some (CgR (follow c l))] := by
  have hlen := hl.len
  have hsum := hl.sum
  have hlp : 0 < l.length := List.length_pos_iff.2 h0
  refine Ans.keep (run_fn e_cathode_Follow fun G => ?_) (Nat.zero_le _) (by simp [go_sem]) ⟨by simp only [go_sem], trivial⟩
  simp only [go_sem, Ct.v, Ct.cs]
  refine cP (Check_run c hc) ?_
  simp only [go_sem]
  refine cP (CheckSchedule_run l hl) ?_
  simp only [go_sem]
  refine cP (fresh_run c) ?_
  simp only [go_sem, Cg.v, Cg.cs]
  -- the first heating
  have hx : l[0]? = some l[0] := List.getElem?_eq_getElem hlp
  have hz := hl.all _ (List.getElem_mem hlp)
  have hs := lenOfL_succ hx
  have hr := lenOfL_take hl.all 1
  have he := endX_succ (c := c) hx (fresh c)
  have hf := followX_succ (c := c) hx (fresh c)
  generalize l[0] = z at *
  have hg := fresh_good hc
  have h2 : (0 : Int) < l.length := by omega
  have hzt := hz.ticks
  have p44 : 104 ≤ 2 ^ 44 := by decide
  have w1 : IntKind.i64.wrap 1 = 1 := rfl
  simp only [List.take_zero, endX, followX, lenOfL, Nat.zero_add, List.nil_append] at hs he hf
  refine loop_body 200 k_cathode_Follow_r19.eq_1 ?_
  simp only [go_sem, hx, h2, Ht.v, Ht.cs]
  refine loop_ind k_cathode_Follow_r16.eq_1 (fun a : Nat => a ≤ z.ticks.toNat) (fun a => z.ticks.toNat - a)
    (fun a => (tsets 48 [(2, .ptr 0 0 0 1), (5, .int .i64 0), (8, .ptr 1 0 0 1), (9, .nilsl), (11, .ptr 2 0 0 1), (24, .view (l.map Ht.v)), (25, .int .i64 l.length), (26, .int .i64 0), (31, .int .i64 z.ticks), (32, .int .i64 a)],
      [some (.cells false 7 [c.v (.view (c.bands.map Bd.v))]), some (.cells false 13 [(tickN c z.heat z.cur a (fresh c)).v]), some (.cells false 3 [z.v])])) 0 (Nat.zero_le _) (by simp [go_sem]) rfl ?_
  intro t ht ih
  dsimp only at ht ih ⊢
  by_cases h1 : t < z.ticks.toNat
  · have h3 : (t : Int) < z.ticks := by omega
    have hb := tickN_ok hc hg hz (by omega) t ht
    have h4 := idx_next h1 (by omega)
    have ha := after_run c hc _ hb z.heat z.cur hz.heat hz.cur
    simp only [go_sem, h3, Ct.v, Ct.cs, Cg.v, Cg.cs, Ht.v, Ht.cs]
    refine cP ha ?_
    simp only [go_sem, Cg.v, Cg.cs, h4]
    exact ih (t + 1) (by omega) h1 _ (by simp [go_sem])
  have h3 : ¬ (t : Int) < z.ticks := by omega
  have hte : t = z.ticks.toNat := by omega
  have hxx : tickN c z.heat z.cur t (fresh c) = heatN c z (fresh c) := by rw [hte]; rfl
  have hg1 := heatN_good hc hg hz (by omega)
  rw [hxx]
  clear ih hxx
  generalize heatN c z (fresh c) = y at *
  simp only [go_sem, Cg.v, Cg.cs, Ct.v, Ct.cs, Ht.v, Ht.cs, h3, p44, w1]
  simp only [cg_single]
  -- the others
  refine loop_ind k_cathode_Follow_r19.eq_1 (fun a : Nat × Cg × List Cg × Heap => 1 ≤ a.1 ∧ a.1 ≤ l.length ∧ a.2.1 = endX c (fresh c) (l.take a.1) ∧ a.2.2.1 = followX c (fresh c) (l.take a.1) ∧ Good c a.2.1 (lenOfL (l.take a.1))) (fun a => l.length - a.1)
    (fun a => (tsets 48 [(2, .ptr 0 0 0 1), (5, .int .i64 0), (8, .ptr 1 0 0 1), (9, .sl 4 0 a.1), (24, .view (l.map Ht.v)), (25, .int .i64 l.length), (26, .int .i64 a.1)],
      some (.cells false 7 [c.v (.view (c.bands.map Bd.v))]) :: some (.cells false 13 [a.2.1.v]) :: some (.cells false 3 [z.v]) :: some (.cells false 13 [y.v]) :: some (.cells true 13 (a.2.2.1.map Cg.v)) :: a.2.2.2))
    (1, y, [y], []) ⟨Nat.le_refl 1, hlp, he.symm, hf.symm, by rw [hs]; exact hg1⟩ (by simp [go_sem]) rfl ?_
  rintro ⟨i, x, xs, X⟩ ⟨hi1, hi, hxe, hxs, hgx⟩ ih
  dsimp only at hi1 hi hxe hxs hgx ih ⊢
  have hxl : xs.length = i := by rw [hxs, followX_len, List.length_take]; omega
  by_cases h1 : i < l.length
  · have h2' : (i : Int) < l.length := by omega
    have hx' : l[i]? = some l[i] := List.getElem?_eq_getElem h1
    have hz' := hl.all _ (List.getElem_mem h1)
    have hs' := lenOfL_succ hx'
    have hr' := lenOfL_take hl.all (i + 1)
    have he' := endX_succ (c := c) hx' (fresh c)
    have hf' := followX_succ (c := c) hx' (fresh c)
    generalize l[i] = z' at *
    have hzt' := hz'.ticks
    rw [← hxe] at he' hf'
    rw [← hxs] at hf'
    have h3 := idx_next h1 (by omega)
    simp only [go_sem, hx', h2', Ht.v, Ht.cs]
    refine loop_ind k_cathode_Follow_r16.eq_1 (fun a : Nat => a ≤ z'.ticks.toNat) (fun a => z'.ticks.toNat - a)
      (fun a => (tsets 48 [(2, .ptr 0 0 0 1), (5, .int .i64 0), (8, .ptr 1 0 0 1), (9, .sl 4 0 i), (11, .ptr (X.length + 1 + 1 + 1 + 1 + 1) 0 0 1), (24, .view (l.map Ht.v)), (25, .int .i64 l.length), (26, .int .i64 i), (31, .int .i64 z'.ticks), (32, .int .i64 a)],
        some (.cells false 7 [c.v (.view (c.bands.map Bd.v))]) :: some (.cells false 13 [(tickN c z'.heat z'.cur a x).v]) :: some (.cells false 3 [z.v]) :: some (.cells false 13 [y.v]) :: some (.cells true 13 (xs.map Cg.v)) :: (X ++ [some (.cells false 3 [z'.v])]))) 0 (Nat.zero_le _) (by simp [go_sem]) rfl ?_
    intro t ht ih2
    dsimp only at ht ih2 ⊢
    by_cases h4 : t < z'.ticks.toNat
    · have h5 : (t : Int) < z'.ticks := by omega
      have hb := tickN_ok hc hgx hz' (by omega) t ht
      have h6 := idx_next h4 (by omega)
      have ha := after_run c hc _ hb z'.heat z'.cur hz'.heat hz'.cur
      simp only [go_sem, h5, Ct.v, Ct.cs, Cg.v, Cg.cs, Ht.v, Ht.cs]
      refine cP ha ?_
      simp only [go_sem, Cg.v, Cg.cs, h6]
      exact ih2 (t + 1) (by omega) h4 _ (by simp [go_sem])
    have h5 : ¬ (t : Int) < z'.ticks := by omega
    have hte : t = z'.ticks.toNat := by omega
    have hxx : tickN c z'.heat z'.cur t x = heatN c z' x := by rw [hte]; rfl
    have hg2 := heatN_good hc hgx hz' (by omega)
    rw [hxx]
    clear ih2 hxx
    generalize heatN c z' x = y' at *
    have q1 : (xs.length + 1) * 104 ≤ 2 ^ 44 := by omega
    simp only [go_sem, Cg.v, Cg.cs, Ct.v, Ct.cs, Ht.v, Ht.cs, h5]
    refine ⟨⟨hxl.symm, by omega⟩, ?_⟩
    simp only [cg_snoc, h3]
    exact ih (i + 1, y', xs ++ [y'], _) (by dsimp only; omega) ⟨by dsimp only; omega, h1, he'.symm, hf'.symm, by dsimp only; rw [hs']; exact hg2⟩ _ (by simp [go_sem])
  · have h2' : ¬ (i : Int) < l.length := by omega
    have hil : i = l.length := by omega
    simp only [go_sem, h2']
    refine kept_one 4 (by rw [hil]; rfl) (by simp only [go_sem]) ?_
    rw [hil, List.take_length] at hxs
    rw [hxs]; rfl
end Go.Proofs
