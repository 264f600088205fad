/- CathodeFalls. -/
import Derived.Test.YtbjfjgiinjhikacYcK
namespace Go.Proofs
open Go Go.Sx

set_option maxRecDepth 20000 in
set_option maxHeartbeats 8000000 in
theorem falls_ok (xs : List Int) (hl : xs.length ≤ 9223372036854775807) : Ans Try.prog n_law03_CathodeFalls [.view (xs.map (.int .i64))] [] (.bool true) [] := by
  have hd := newdice_ok xs hl
  generalize seedW xs = w at *
  refine spec_run e_law03_CathodeFalls fun G => ?_
  simp only [go_sem]
  refine callN1 hd ⟨by rw [bel_view]; exact bels_map _ _ fun _ => .int _ _, trivial⟩ (dr_bel _ _) (by simp) (by simp) ?_
  simp only [go_sem]
  refine callDN (coatOf_run w) rfl trivial (dr_bel _ _) (fun a ha => ⟨by simp only [go_sem], by simp only [go_sem], by simp only [go_sem]⟩) (by simp) (by simp) ?_
  rintro ⟨c, w1⟩ hc
  dsimp only at hc
  simp only [go_sem, Ct.v, Ct.cs, ren, rens]
  refine callDS (scheduleOf_run w1 4 12 (by decide) (by decide)) rfl ⟨.int _ _, .int _ _, trivial⟩ (dr_bel _ _) (fun a ha => ⟨by simp only [go_sem], by simp only [go_sem]⟩) (by simp) (by simp) ?_
  rintro ⟨l, w2⟩ hl
  dsimp only at hl
  have hls := hl.ok (by decide) (by decide) (by decide)
  have hg0 := fresh_good hc
  have hfr := Fresh_run c hc
  simp only [go_sem]
  refine cF hfr 6 ⟨.inl (ct_frz (H := _) rfl), trivial⟩ ?_
  by_cases hnil : l = []
  · have e1 : slv 3 (List.map Ht.v l) = .nilsl := by rw [hnil]; rfl
    have e2 : slrG true 3 (List.map Ht.v l) = [] := by rw [hnil]; rfl
    simp only [go_sem, e1, e2, Cg.v, Cg.cs]
    refine loop_body 200 k_law03_CathodeFalls_r18.eq_1 ?_
    simp only [go_sem]
    refine cP awake_ok ?_
    simp only [go_sem]
  have hne : List.map Ht.v l ≠ [] := by simpa using hnil
  have e1 : slv 3 (List.map Ht.v l) = .sl 3 0 l.length := by unfold slv; rw [if_neg hne, List.length_map]
  have e2 : slrG true 3 (List.map Ht.v l) = [some (.cells true 3 (List.map Ht.v l))] := by unfold slrG; rw [if_neg hne]
  simp only [go_sem, e1, e2, Cg.v, Cg.cs]
  generalize fresh c = x0 at *
  have hlen := hls.len
  have hsum := hls.sum
  refine loop_ind k_law03_CathodeFalls_r18.eq_1 (fun a : Nat × Cg × Heap => a.1 ≤ l.length ∧ Good c a.2.1 (lenOfL (l.take a.1))) (fun a => l.length - a.1)
    (fun a => (tsets 175 [(2, .bool false), (4, .ptr 2 0 0 1), (5, .sl 3 0 l.length), (6, .ptr 4 0 0 1), (7, .int .i64 0), (8, .int .i64 a.1)],
      some (Dr w2) :: some (BdR c.bands) :: some (.cells false 7 [c.v (.sl 1 0 c.bands.length)]) :: some (.cells true 3 (l.map Ht.v)) :: some (.cells false 13 [a.2.1.v]) :: a.2.2))
    (0, x0, []) ⟨Nat.zero_le _, by simpa [lenOfL] using hg0⟩ (by simp [go_sem]) rfl ?_
  rintro ⟨i, x, X⟩ ⟨hi, hgx⟩ ih
  dsimp only at hi hgx ih ⊢
  by_cases h1 : i < l.length
  · have h2 : (i : Int) < l.length := by omega
    have hx : l[i]? = some l[i] := List.getElem?_eq_getElem h1
    have hz := hls.all _ (List.getElem_mem h1)
    have hs := lenOfL_succ hx
    have hr := lenOfL_take hls.all (i + 1)
    have hr0 := lenOfL_take hls.all i
    have h3 := idx_next h1 (by omega)
    generalize l[i] = z at *
    have hzt := hz.ticks
    simp only [go_sem, h2]
    refine loop_ind k_law03_CathodeFalls_r16.eq_1 (fun a : Nat × Cg × Heap => a.1 ≤ z.ticks.toNat ∧ Good c a.2.1 (lenOfL (l.take i) + a.1)) (fun a => z.ticks.toNat - a.1)
      (fun a => (tsets 175 [(2, .bool false), (4, .ptr 2 0 0 1), (5, .sl 3 0 l.length), (6, .ptr 4 0 0 1), (7, .int .i64 0), (8, .int .i64 i), (9, .int .i64 a.1)],
        some (Dr w2) :: some (BdR c.bands) :: some (.cells false 7 [c.v (.sl 1 0 c.bands.length)]) :: some (.cells true 3 (l.map Ht.v)) :: some (.cells false 13 [a.2.1.v]) :: a.2.2))
      (0, x, X) ⟨Nat.zero_le _, by simpa using hgx⟩ (by simp [go_sem]) rfl ?_
    rintro ⟨t, y, Y⟩ ⟨ht, hgy⟩ ih2
    dsimp only at ht hgy ih2 ⊢
    by_cases h4 : t < z.ticks.toNat
    · have h5 : (t : Int) < z.ticks := by omega
      have h6 := idx_next h4 (by omega)
      have hgn := after_good hc hgy (by omega) hz.heat hz.cur
      obtain ⟨f1, f2, f3, f4, f5, f6, f7⟩ := after_falls hc hgy.ok hz.heat hz.cur
      have hwn := hgn.wear
      have htick := Tick_run c hc y hgy.ok z.heat z.cur hz.heat hz.cur (by omega)
      have hst := moved_step (h := y.heat) (a := z.heat) hc.slew.1
      have hee : (after c y z.heat z.cur).heat = moved y.heat z.heat c.slew := rfl
      rw [← hee] at hst
      obtain ⟨st1, st2, st3⟩ := hst
      generalize after c y z.heat z.cur = n at *
      have hck := CheckCoating_run c hc n hgn.ok
      have hy0 := hgy.ok.heat
      have hn0 := hgn.ok.heat
      have w1 : IntKind.i64.wrap (n.heat - y.heat) = n.heat - y.heat := w64 (by omega)
      have w2' : IntKind.i64.wrap (y.heat - n.heat) = y.heat - n.heat := w64 (by omega)
      have k1 : ¬ y.carb.lo < n.carb.lo := by omega
      have k2 : ¬ y.carb.hi < n.carb.hi := by omega
      have k3 : ¬ n.lost.lo < y.lost.lo := by omega
      have k4 : ¬ n.lost.hi < y.lost.hi := by omega
      have k5 : ¬ n.wear.lo < y.wear.lo := by omega
      have k6 : ¬ n.wear.hi < y.wear.hi := by omega
      have k7 : ¬ c.slew < n.heat - y.heat := by omega
      have k8 : ¬ c.slew < y.heat - n.heat := by omega
      have n0 : ¬ (i : Int) < 0 := by omega
      simp only [go_sem, hx, h2, n0, h5, Ht.v, Ht.cs, Cg.v, Cg.cs, Ct.v, Ct.cs]
      refine dF htick 6 [1] ⟨.inl (ct_frz (H := _) (onlyR_row rfl (by simp))), .inl rfl, .inl rfl, .inl rfl, trivial⟩ ?_ (by simp only [go_sem, Cg.v, Cg.cs]) (by simp only [go_sem, Cg.v, Cg.cs])
      simp only [go_sem, Cg.v, Cg.cs, k1, k2, k3, k4, k5, k6]
      refine ⟨by simp <;> omega, ?_⟩
      refine cF hck 6 ⟨.inl (ct_frz (H := _) rfl), .inl rfl, trivial⟩ ?_
      by_cases hA : n.heat = z.heat
      · have bA : (n.heat != z.heat) = false := by simp [hA]
        simp only [go_sem, w1, w2', k7, k8, hx, h2, n0, Ht.v, Ht.cs, bA]
        simp only [go_sem, Cg.v, Cg.cs, h6]
        exact ih2 (t + 1, n, _) (by dsimp only; omega) ⟨h4, by dsimp only; rw [show lenOfL (l.take i) + ((t + 1 : Nat) : Int) = lenOfL (l.take i) + (t : Int) + 1 by omega]; exact hgn⟩ _ (by simp [go_sem])
      · have bA : (n.heat != z.heat) = true := by simp [hA]
        by_cases hB : n.heat - y.heat = c.slew
        · have bB : (n.heat - y.heat != c.slew) = false := by simp [hB]
          simp only [go_sem, w1, w2', k7, k8, hx, h2, n0, Ht.v, Ht.cs, bA, bB]
          simp only [go_sem, Cg.v, Cg.cs, h6]
          exact ih2 (t + 1, n, _) (by dsimp only; omega) ⟨h4, by dsimp only; rw [show lenOfL (l.take i) + ((t + 1 : Nat) : Int) = lenOfL (l.take i) + (t : Int) + 1 by omega]; exact hgn⟩ _ (by simp [go_sem])
        · have bB : (n.heat - y.heat != c.slew) = true := by simp [hB]
          have bC : (y.heat - n.heat != c.slew) = false := by simp; omega
          simp only [go_sem, w1, w2', k7, k8, hx, h2, n0, Ht.v, Ht.cs, bA, bB, bC]
          simp only [go_sem, Cg.v, Cg.cs, h6]
          exact ih2 (t + 1, n, _) (by dsimp only; omega) ⟨h4, by dsimp only; rw [show lenOfL (l.take i) + ((t + 1 : Nat) : Int) = lenOfL (l.take i) + (t : Int) + 1 by omega]; exact hgn⟩ _ (by simp [go_sem])
    · have h5 : ¬ (t : Int) < z.ticks := by omega
      have hte : lenOfL (l.take i) + (t : Int) = lenOfL (l.take (i + 1)) := by omega
      rw [hte] at hgy
      have n0 : ¬ (i : Int) < 0 := by omega
      simp only [go_sem, hx, h2, n0, h5, Ht.v, Ht.cs, h3]
      exact ih (i + 1, y, Y) (by dsimp only; omega) ⟨h1, hgy⟩ _ (by simp [go_sem])
  · have h2 : ¬ (i : Int) < l.length := by omega
    simp only [go_sem, h2]
    refine cP awake_ok ?_
    simp only [go_sem]
end Go.Proofs
