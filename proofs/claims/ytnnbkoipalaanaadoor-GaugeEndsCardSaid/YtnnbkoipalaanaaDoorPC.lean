/- A part of the proof. -/
import Derived.Test.YtnnbkoipalaanaaDoorPB
import Derived.ProofKit
import Derived.LaidMore
set_option linter.unusedSimpArgs false
set_option linter.unusedVariables false
namespace Go.Proofs
open Go Go.Sx Go.Gauge
attribute [local irreducible] Run

theorem sel3i (i a b c : Int) (hi : 0 ≤ i ∧ i < 3) : ∃ v, (v = a ∨ v = b ∨ v = c) ∧ [AVal.int .i64 a, .int .i64 b, .int .i64 c][i.toNat]? = some (.int .i64 v) := by
  obtain rfl | rfl | rfl : i = 0 ∨ i = 1 ∨ i = 2 := by omega
  · exact ⟨a, .inl rfl, rfl⟩
  · exact ⟨b, .inr (.inl rfl), rfl⟩
  · exact ⟨c, .inr (.inr rfl), rfl⟩
structure BkOK (bs : List Mt) : Prop where
  all : ∀ x ∈ bs, MtOK x ∧ x.step ≤ 1000
  cmp : ∀ (i : Nat) (x : Mt), bs[i]? = some x → -1 ≤ x.cmp ∧ x.cmp < i
theorem BkOK.vb {bs : List Mt} (h : BkOK bs) (hl : bs.length ≤ 12) : VB bs := VB.made hl (fun x hx => (h.all x hx).1) h.cmp
theorem BkOK.snoc {bs : List Mt} (h : BkOK bs) {y : Mt} (hy : MtOK y ∧ y.step ≤ 1000) (hc : -1 ≤ y.cmp ∧ y.cmp < bs.length) : BkOK (bs ++ [y]) := by
  refine ⟨fun x hx => ?_, fun i x hx => ?_⟩
  · rcases List.mem_append.1 hx with h1 | h1
    · exact h.all x h1
    · simp at h1; subst h1; exact hy
  · by_cases hi : i < bs.length
    · rw [List.getElem?_append_left hi] at hx; exact h.cmp i x hx
    · rw [List.getElem?_append_right (by omega)] at hx
      have : i - bs.length = 0 := by have := (List.getElem?_eq_some_iff.1 hx).1; simp at this; omega
      rw [this] at hx
      simp at hx; subst hx
      exact ⟨hc.1, by omega⟩

set_option maxHeartbeats 8000000 in
set_option maxRecDepth 10000 in
theorem bench_loop {G : Ctx} {N : Nat} (hN : N ≤ 12) {R : AVal → Heap → Prop}
    (hR : ∀ (bs : List Mt) (w' : Int) (q : Nat) (X : Heap), BkOK bs → 1 ≤ bs.length → bs.length ≤ N → X[q]? = some (some (.cells true 7 (bs.map Mv))) → R (.sl (q + 1) 0 bs.length) (some (Dr w') :: X))
    {bs : List Mt} {w i : Int} {q : Nat} {X : Heap} (hz : BkOK bs) (hl : 1 ≤ bs.length ∧ (bs.length : Int) + i ≤ N) (hi : 0 ≤ i) (hX : X[q]? = some (some (.cells true 7 (bs.map Mv)))) :
    Sx.Loop Tryd.prog G 1 none k_kit_BenchOf_r8 [.blk 0, .seq (.seq (.reg k_kit_BenchOf_r9 false) .ret)]
      ⟨tsets 70 [(0, .ptr 0 0 0 1), (5, .sl (q + 1) 0 bs.length), (6, .int .i64 i)], some (Dr w) :: X, []⟩ (RetPost [.tmp 4] R) := by
  refine loop_ind k_kit_BenchOf_r8.eq_1 (fun a : List Mt × Int × Int × Heap => BkOK a.1 ∧ (1 ≤ a.1.length ∧ (a.1.length : Int) + a.2.2.1 ≤ N) ∧ 0 ≤ a.2.2.1 ∧ a.2.2.2[q]? = some (some (.cells true 7 (a.1.map Mv)))) (fun a => a.2.2.1.toNat)
    (fun a => (tsets 70 [(0, .ptr 0 0 0 1), (5, .sl (q + 1) 0 a.1.length), (6, .int .i64 a.2.2.1)], some (Dr a.2.1) :: a.2.2.2))
    (bs, w, i, X) ⟨hz, hl, hi, hX⟩ (by simp [go_sem]) rfl ?_
  clear hz hl hi hX
  clear bs w i X
  rintro ⟨bs, w, i, X⟩ ⟨hz, hl, hi, hX⟩ ih
  dsimp only at hz hl hi hX ih ⊢
  by_cases c1 : 0 < i
  · have hlt : q < X.length := (List.getElem?_eq_some_iff.1 hX).1
    have cX := fun Y => cells_more (cells_at hX) Y
    have pX := fun Y x => put_more (H := X) hlt Y x
    have hq : (bs.length + 1) * 56 ≤ 2 ^ 44 := by omega
    obtain ⟨g, hg, sg⟩ := sel3i (upto (dstep (dstep w)) 3) 1000000 (btw w 900000 1100000) (btw (dstep w) 500000 2000000) (upto_in (by decide))
    have b0 := btw_in (w := w) (lo := 900000) (hi := 1100000) (by decide)
    have b1 := btw_in (w := (dstep w)) (lo := 500000) (hi := 2000000) (by decide)
    have hg' : 500000 ≤ g ∧ g ≤ 2000000 := by omega
    obtain ⟨x, hx, sx⟩ := sel3i (upto (dstep (dstep (dstep (dstep (dstep w))))) 3) 0 (upto (dstep (dstep (dstep w))) 20000) (upto (dstep (dstep (dstep (dstep w)))) 300000) (upto_in (by decide))
    have b3 := upto_in (w := (dstep (dstep (dstep w)))) (n := 20000) (by decide)
    have b4 := upto_in (w := (dstep (dstep (dstep (dstep w))))) (n := 300000) (by decide)
    have hx' : 0 ≤ x ∧ x ≤ 300000 := by omega
    obtain ⟨f, hf, sf⟩ := sel3i (upto (dstep (dstep (dstep (dstep (dstep (dstep w)))))) 3) 0 9 1000 (upto_in (by decide))
    have hf' : 0 ≤ f ∧ f ≤ 1000 := by omega
    have b7 := rngR_in (w := (dstep (dstep (dstep (dstep (dstep (dstep (dstep w)))))))) (lo := -f) (hi := 9) (by omega)
    have b9 := btw_in (w := (dstep (dstep (dstep (dstep (dstep (dstep (dstep (dstep (dstep w)))))))))) (lo := 1) (hi := 12) (by decide)
    have b10 := btw_in (w := (dstep (dstep (dstep (dstep (dstep (dstep (dstep (dstep (dstep (dstep w))))))))))) (lo := 1) (hi := 1000) (by decide)
    obtain ⟨s, hs, ss⟩ := sel3i (upto (dstep (dstep (dstep (dstep (dstep (dstep (dstep (dstep (dstep (dstep (dstep w))))))))))) 3) 1 (btw (dstep (dstep (dstep (dstep (dstep (dstep (dstep (dstep (dstep w))))))))) 1 12) (btw (dstep (dstep (dstep (dstep (dstep (dstep (dstep (dstep (dstep (dstep w)))))))))) 1 1000) (upto_in (by decide))
    have hs' : 1 ≤ s ∧ s ≤ 1000 := by omega
    have b13 := upto_in (w := (dstep (dstep (dstep (dstep (dstep (dstep (dstep (dstep (dstep (dstep (dstep (dstep (dstep w)))))))))))))) (n := 1000) (by decide)
    have b12 := btw_in (w := (dstep (dstep (dstep (dstep (dstep (dstep (dstep (dstep (dstep (dstep (dstep (dstep w))))))))))))) (lo := -1) (hi := (bs.length : Int) - 1) (by omega)
    have z2 := (upto_in (w := (dstep (dstep w))) (n := 3) (by decide))
    have z5 := (upto_in (w := (dstep (dstep (dstep (dstep (dstep w)))))) (n := 3) (by decide))
    have z6 := (upto_in (w := (dstep (dstep (dstep (dstep (dstep (dstep w))))))) (n := 3) (by decide))
    have z11 := (upto_in (w := (dstep (dstep (dstep (dstep (dstep (dstep (dstep (dstep (dstep (dstep (dstep w)))))))))))) (n := 3) (by decide))
    have n2 : ¬ upto (dstep (dstep w)) 3 < 0 := by omega
    have n5 : ¬ upto (dstep (dstep (dstep (dstep (dstep w))))) 3 < 0 := by omega
    have n6 : ¬ upto (dstep (dstep (dstep (dstep (dstep (dstep w)))))) 3 < 0 := by omega
    have n11 : ¬ upto (dstep (dstep (dstep (dstep (dstep (dstep (dstep (dstep (dstep (dstep (dstep w))))))))))) 3 < 0 := by omega
    have w1 : IntKind.i64.wrap (g + x) = g + x := w64 (by omega)
    have w2 : IntKind.i64.wrap (0 - f) = -f := by rw [w64 (by omega)]; omega
    have w3 : IntKind.i64.wrap ((bs.length : Int) - 1) = (bs.length : Int) - 1 := w64 (by omega)
    have w4 : IntKind.i64.wrap (1000 + upto (dstep (dstep (dstep (dstep (dstep (dstep (dstep (dstep (dstep (dstep (dstep (dstep (dstep w))))))))))))) 1000) = 1000 + upto (dstep (dstep (dstep (dstep (dstep (dstep (dstep (dstep (dstep (dstep (dstep (dstep (dstep w))))))))))))) 1000 := w64 (by omega)
    have w5 : IntKind.i64.wrap (i - 1) = i - 1 := w64 (by omega)
    obtain ⟨gh, hgh⟩ : ∃ gh, (if g + x < 2000000 then g + x else 2000000) = gh := ⟨_, rfl⟩
    have hgh' : g ≤ gh ∧ gh ≤ 2000000 := by rw [← hgh]; split <;> omega
    have rr := range_run (dstep (dstep (dstep (dstep (dstep (dstep (dstep w))))))) (-f) 9 (by omega) (by omega) (by omega)
    obtain ⟨rg, hrg⟩ : ∃ rg, rngR (dstep (dstep (dstep (dstep (dstep (dstep (dstep w))))))) (-f) 9 = rg := ⟨_, rfl⟩
    rw [hrg] at b7 rr
    simp only [Rg.v] at rr
    obtain ⟨c, hc⟩ : ∃ c, btw (dstep (dstep (dstep (dstep (dstep (dstep (dstep (dstep (dstep (dstep (dstep (dstep w)))))))))))) (-1) ((bs.length : Int) - 1) = c := ⟨_, rfl⟩
    obtain ⟨d, hd⟩ : ∃ d, upto (dstep (dstep (dstep (dstep (dstep (dstep (dstep (dstep (dstep (dstep (dstep (dstep (dstep w))))))))))))) 1000 = d := ⟨_, rfl⟩
    rw [hc] at b12
    rw [hd] at b13 w4
    have hy : MtOK ⟨g, gh, rg.lo, rg.hi, s, c, 1000 + d⟩ ∧ (⟨g, gh, rg.lo, rg.hi, s, c, 1000 + d⟩ : Mt).step ≤ 1000 := ⟨⟨by dsimp only; omega, by dsimp only; omega, by dsimp only; omega, by dsimp only; omega⟩, by dsimp only; omega⟩
    simp only [go_sem, c1]
    refine cD (between_ok _ 900000 1100000 (by decide) (by decide) (by decide)) ?_
    simp only [go_sem]
    refine cD (between_ok _ 500000 2000000 (by decide) (by decide) (by decide)) ?_
    simp only [go_sem]
    refine cD (upto_ok _ 3 (by decide)) ?_
    simp only [go_sem, n2, sg]
    refine ⟨z2.2, ?_⟩
    refine dD (upto_ok _ 20000 (by decide)) ?_
    simp only [go_sem]
    refine dD (upto_ok _ 300000 (by decide)) ?_
    simp only [go_sem]
    refine dD (upto_ok _ 3 (by decide)) ?_
    simp only [go_sem, n5, sx, w1, hgh]
    refine ⟨z5.2, by simp <;> omega, ?_⟩
    refine dD (upto_ok _ 3 (by decide)) ?_
    simp only [go_sem, n6, sf, w2]
    refine ⟨z6.2, ?_⟩
    refine ⟨by omega, by omega, ?_⟩
    refine dD rr ?_
    simp only [go_sem]
    refine dD (between_ok _ 1 12 (by decide) (by decide) (by decide)) ?_
    simp only [go_sem]
    refine dD (between_ok _ 1 1000 (by decide) (by decide) (by decide)) ?_
    simp only [go_sem]
    refine ⟨by simp <;> omega, ?_⟩
    refine dD (upto_ok _ 3 (by decide)) ?_
    simp only [go_sem, n11, ss, w3, cX, List.length_map]
    refine ⟨z11.2, by omega, by omega, by simp <;> omega, ?_⟩
    refine dD (between_ok _ (-1) ((bs.length : Int) - 1) (by omega) (by omega) (by omega)) ?_
    simp only [go_sem]
    refine dD (upto_ok _ 1000 (by decide)) ?_
    simp only [go_sem, hc, hd, w4, w5, cX, pX, hq, List.length_map]
    refine ⟨by simp <;> omega, ?_⟩
    have ez : bs.map Mv ++ [AVal.agg [.int .i64 g, .int .i64 gh, .int .i64 rg.lo, .int .i64 rg.hi, .int .i64 s, .int .i64 c, .int .i64 (1000 + d)]] = (bs ++ [Mt.mk g gh rg.lo rg.hi s c (1000 + d)]).map Mv := by rw [List.map_append]; rfl
    have el : bs.length + 1 = (bs ++ [Mt.mk g gh rg.lo rg.hi s c (1000 + d)]).length := by simp
    rw [ez, el]
    refine ih (bs ++ [Mt.mk g gh rg.lo rg.hi s c (1000 + d)], _, i - 1, _) (by dsimp only; omega) ⟨hz.snoc hy ⟨b12.1, by dsimp only; omega⟩, by dsimp only; rw [← el]; omega, by dsimp only; omega, ?_⟩ _ (by simp [go_sem])
    dsimp only
    rw [List.getElem?_append_left (by rw [List.length_set]; exact hlt)]
    exact List.getElem?_set_self hlt
  · simp only [go_sem, c1]
    exact hR bs w q X hz hl.1 (by omega) hX

set_option maxHeartbeats 8000000 in
set_option maxRecDepth 10000 in
theorem benchOf_run (w0 : Int) {N : Nat} (hN : 1 ≤ N ∧ N ≤ 12) : AnsE Tryd.prog n_kit_BenchOf [.ptr 0 0 0 1, .int .i64 N] [some (Dr w0)] (fun a : List Mt × Int => BkOK a.1 ∧ 1 ≤ a.1.length ∧ a.1.length ≤ N) (fun a => .sl 1 0 a.1.length) (fun a => [some (Dr a.2), some (.cells true 7 (a.1.map Mv))]) := by
  refine AnsE.keep (run_fn e_kit_BenchOf fun G => ?_) (fun a ha => ⟨by simp, by simp [go_sem], by simp only [go_sem], by rw [row_bel_cells]; simp only [go_sem], trivial⟩)
  have hR : ∀ (bs : List Mt) (w' : Int) (q : Nat) (X : Heap), BkOK bs → 1 ≤ bs.length → bs.length ≤ N → X[q]? = some (some (.cells true 7 (bs.map Mv))) →
      ∃ a : List Mt × Int, (BkOK a.1 ∧ 1 ≤ a.1.length ∧ a.1.length ≤ N) ∧ ∃ σ, Kept [some (Dr w0)] [some (Dr a.2), some (Row.cells true 7 (List.map Mv a.1))] (AVal.sl 1 0 a.1.length) (.sl (q + 1) 0 bs.length) (some (Dr w') :: X) σ := by
    intro bs w' q X hz h1 h2 hX
    refine ⟨(bs, w'), ⟨hz, h1, h2⟩, kept_two (q + 1) (by omega) (by simp [ren]) (by simp only [go_sem]) (by rw [row_bel_cells]; simp only [go_sem]) rfl ?_⟩
    simpa using hX
  have h56 : 56 ≤ 2 ^ 44 := by decide
  have bi := btw_in (w := w0) (lo := 1) (hi := N) (by omega)
  simp only [go_sem]
  refine cD (between_ok _ 1 N (by decide) (by omega) (by omega)) ?_
  simp only [go_sem]
  obtain ⟨i, hi⟩ : ∃ i, btw w0 1 N = i := ⟨_, rfl⟩
  obtain ⟨w, hw⟩ : ∃ w, dstep w0 = w := ⟨_, rfl⟩
  rw [hi] at bi ⊢
  rw [hw]
  have c1 : 0 < i := by omega
  have hz : BkOK [] := ⟨fun x hx => by simp at hx, fun i x hx => by simp at hx⟩
  refine loop_body 400 k_kit_BenchOf_r8.eq_1 ?_
  obtain ⟨g, hg, sg⟩ := sel3i (upto (dstep (dstep w)) 3) 1000000 (btw w 900000 1100000) (btw (dstep w) 500000 2000000) (upto_in (by decide))
  have b0 := btw_in (w := w) (lo := 900000) (hi := 1100000) (by decide)
  have b1 := btw_in (w := (dstep w)) (lo := 500000) (hi := 2000000) (by decide)
  have hg' : 500000 ≤ g ∧ g ≤ 2000000 := by omega
  obtain ⟨x, hx, sx⟩ := sel3i (upto (dstep (dstep (dstep (dstep (dstep w))))) 3) 0 (upto (dstep (dstep (dstep w))) 20000) (upto (dstep (dstep (dstep (dstep w)))) 300000) (upto_in (by decide))
  have b3 := upto_in (w := (dstep (dstep (dstep w)))) (n := 20000) (by decide)
  have b4 := upto_in (w := (dstep (dstep (dstep (dstep w))))) (n := 300000) (by decide)
  have hx' : 0 ≤ x ∧ x ≤ 300000 := by omega
  obtain ⟨f, hf, sf⟩ := sel3i (upto (dstep (dstep (dstep (dstep (dstep (dstep w)))))) 3) 0 9 1000 (upto_in (by decide))
  have hf' : 0 ≤ f ∧ f ≤ 1000 := by omega
  have b7 := rngR_in (w := (dstep (dstep (dstep (dstep (dstep (dstep (dstep w)))))))) (lo := -f) (hi := 9) (by omega)
  have b9 := btw_in (w := (dstep (dstep (dstep (dstep (dstep (dstep (dstep (dstep (dstep w)))))))))) (lo := 1) (hi := 12) (by decide)
  have b10 := btw_in (w := (dstep (dstep (dstep (dstep (dstep (dstep (dstep (dstep (dstep (dstep w))))))))))) (lo := 1) (hi := 1000) (by decide)
  obtain ⟨s, hs, ss⟩ := sel3i (upto (dstep (dstep (dstep (dstep (dstep (dstep (dstep (dstep (dstep (dstep (dstep w))))))))))) 3) 1 (btw (dstep (dstep (dstep (dstep (dstep (dstep (dstep (dstep (dstep w))))))))) 1 12) (btw (dstep (dstep (dstep (dstep (dstep (dstep (dstep (dstep (dstep (dstep w)))))))))) 1 1000) (upto_in (by decide))
  have hs' : 1 ≤ s ∧ s ≤ 1000 := by omega
  have b13 := upto_in (w := (dstep (dstep (dstep (dstep (dstep (dstep (dstep (dstep (dstep (dstep (dstep (dstep (dstep w)))))))))))))) (n := 1000) (by decide)
  have b12 := btw_in (w := (dstep (dstep (dstep (dstep (dstep (dstep (dstep (dstep (dstep (dstep (dstep (dstep w))))))))))))) (lo := -1) (hi := -1) (by omega)
  have z2 := (upto_in (w := (dstep (dstep w))) (n := 3) (by decide))
  have z5 := (upto_in (w := (dstep (dstep (dstep (dstep (dstep w)))))) (n := 3) (by decide))
  have z6 := (upto_in (w := (dstep (dstep (dstep (dstep (dstep (dstep w))))))) (n := 3) (by decide))
  have z11 := (upto_in (w := (dstep (dstep (dstep (dstep (dstep (dstep (dstep (dstep (dstep (dstep (dstep w)))))))))))) (n := 3) (by decide))
  have n2 : ¬ upto (dstep (dstep w)) 3 < 0 := by omega
  have n5 : ¬ upto (dstep (dstep (dstep (dstep (dstep w))))) 3 < 0 := by omega
  have n6 : ¬ upto (dstep (dstep (dstep (dstep (dstep (dstep w)))))) 3 < 0 := by omega
  have n11 : ¬ upto (dstep (dstep (dstep (dstep (dstep (dstep (dstep (dstep (dstep (dstep (dstep w))))))))))) 3 < 0 := by omega
  have w1 : IntKind.i64.wrap (g + x) = g + x := w64 (by omega)
  have w2 : IntKind.i64.wrap (0 - f) = -f := by rw [w64 (by omega)]; omega
  have w3 : IntKind.i64.wrap (-1) = -1 := w64 (by omega)
  have w4 : IntKind.i64.wrap (1000 + upto (dstep (dstep (dstep (dstep (dstep (dstep (dstep (dstep (dstep (dstep (dstep (dstep (dstep w))))))))))))) 1000) = 1000 + upto (dstep (dstep (dstep (dstep (dstep (dstep (dstep (dstep (dstep (dstep (dstep (dstep (dstep w))))))))))))) 1000 := w64 (by omega)
  have w5 : IntKind.i64.wrap (i - 1) = i - 1 := w64 (by omega)
  obtain ⟨gh, hgh⟩ : ∃ gh, (if g + x < 2000000 then g + x else 2000000) = gh := ⟨_, rfl⟩
  have hgh' : g ≤ gh ∧ gh ≤ 2000000 := by rw [← hgh]; split <;> omega
  have rr := range_run (dstep (dstep (dstep (dstep (dstep (dstep (dstep w))))))) (-f) 9 (by omega) (by omega) (by omega)
  obtain ⟨rg, hrg⟩ : ∃ rg, rngR (dstep (dstep (dstep (dstep (dstep (dstep (dstep w))))))) (-f) 9 = rg := ⟨_, rfl⟩
  rw [hrg] at b7 rr
  simp only [Rg.v] at rr
  obtain ⟨c, hc⟩ : ∃ c, btw (dstep (dstep (dstep (dstep (dstep (dstep (dstep (dstep (dstep (dstep (dstep (dstep w)))))))))))) (-1) (-1) = c := ⟨_, rfl⟩
  obtain ⟨d, hd⟩ : ∃ d, upto (dstep (dstep (dstep (dstep (dstep (dstep (dstep (dstep (dstep (dstep (dstep (dstep (dstep w))))))))))))) 1000 = d := ⟨_, rfl⟩
  rw [hc] at b12
  rw [hd] at b13 w4
  have hy : MtOK ⟨g, gh, rg.lo, rg.hi, s, c, 1000 + d⟩ ∧ (⟨g, gh, rg.lo, rg.hi, s, c, 1000 + d⟩ : Mt).step ≤ 1000 := ⟨⟨by dsimp only; omega, by dsimp only; omega, by dsimp only; omega, by dsimp only; omega⟩, by dsimp only; omega⟩
  simp only [go_sem, c1]
  refine cD (between_ok _ 900000 1100000 (by decide) (by decide) (by decide)) ?_
  simp only [go_sem]
  refine cD (between_ok _ 500000 2000000 (by decide) (by decide) (by decide)) ?_
  simp only [go_sem]
  refine cD (upto_ok _ 3 (by decide)) ?_
  simp only [go_sem, n2, sg]
  refine ⟨z2.2, ?_⟩
  refine dD (upto_ok _ 20000 (by decide)) ?_
  simp only [go_sem]
  refine dD (upto_ok _ 300000 (by decide)) ?_
  simp only [go_sem]
  refine dD (upto_ok _ 3 (by decide)) ?_
  simp only [go_sem, n5, sx, w1, hgh]
  refine ⟨z5.2, ?_⟩
  refine dD (upto_ok _ 3 (by decide)) ?_
  simp only [go_sem, n6, sf, w2]
  refine ⟨z6.2, ?_⟩

  refine dD rr ?_
  simp only [go_sem]
  refine dD (between_ok _ 1 12 (by decide) (by decide) (by decide)) ?_
  simp only [go_sem]
  refine dD (between_ok _ 1 1000 (by decide) (by decide) (by decide)) ?_
  simp only [go_sem]

  refine dD (upto_ok _ 3 (by decide)) ?_
  simp only [go_sem, n11, ss, w3, List.length_map]
  refine ⟨z11.2, ?_⟩
  refine dD (between_ok _ (-1) (-1) (by omega) (by omega) (by omega)) ?_
  simp only [go_sem]
  refine dD (upto_ok _ 1000 (by decide)) ?_
  simp only [go_sem, hc, hd, w4, w5, h56, List.length_map]
  have hz1 : BkOK [Mt.mk g gh rg.lo rg.hi s c (1000 + d)] := hz.snoc hy ⟨b12.1, by show c < 0; omega⟩
  refine loop_wk ?_ (bench_loop hN.2 hR (q := 6) (bs := [Mt.mk g gh rg.lo rg.hi s c (1000 + d)]) (i := i - 1) hz1 ⟨by simp, by simp; omega⟩ (by omega) rfl)
  simp [go_sem]
end Go.Proofs

namespace Go.Proofs
open Go Go.Sx Go.Gauge
attribute [local irreducible] Run

theorem beyond_run (n a b : Int) : Ans Tryd.prog n_ref07_beyond [.int .i64 n, .int .i64 a, .int .i64 b] [] (.bool (!decide (a ≤ n ∧ n ≤ b))) [] := by
  refine spec_run e_ref07_beyond fun G => ?_
  by_cases h1 : n < a
  · have h2 : ¬ (a ≤ n ∧ n ≤ b) := by omega
    simp only [go_sem, h1, decide_eq_false h2]
  · by_cases h2 : b < n
    · have h3 : ¬ (a ≤ n ∧ n ≤ b) := by omega
      simp only [go_sem, h1, h2, decide_eq_false h3]
    · have h3 : (a ≤ n ∧ n ≤ b) := by omega
      simp only [go_sem, h1, h2, decide_eq_true h3]
theorem rcheckRange_yes {a b c d : Int} (h : c ≤ a ∧ a ≤ b ∧ b ≤ d) : Ans Tryd.prog n_ref07_checkRange [r2 a b, .int .i64 c, .int .i64 d] [] (.int .i64 0) [] := by
  have k1 := beyond_run a c d
  have k2 := beyond_run b c d
  rw [decide_eq_true (by omega)] at k1 k2
  have c1 : ¬ b < a := by omega
  refine spec_run e_ref07_checkRange fun G => ?_
  simp only [go_sem, r2]
  refine cP k1 ?_
  simp only [go_sem]
  refine cP k2 ?_
  simp only [go_sem, c1]
theorem rcheckMaking_yes {m : Mt} (h : MtOK m) : Ans Tryd.prog n_ref07_checkMaking [Mv m] [] (.int .i64 0) [] := by
  have k1 := rcheckRange_yes (a := m.glo) (b := m.ghi) (c := 500000) (d := 2000000) (by have := h.g; omega)
  have k2 := rcheckRange_yes (a := m.olo) (b := m.ohi) (c := -1000000) (d := 1000000) (by have := h.o; omega)
  simp only [r2] at k1 k2
  refine spec_run e_ref07_checkMaking fun G => ?_
  simp only [go_sem, Mv, Mc]
  refine cP k1 ?_
  simp only [go_sem]
  refine cP k2 ?_
  simp only [go_sem]

set_option maxHeartbeats 4000000 in
set_option maxRecDepth 10000 in
theorem rchain_run {bs : List Mt} (h : VB bs) {m0 : Int} (h0 : 0 ≤ m0) (h1 : m0 < bs.length) :
    Ans Tryd.prog n_ref07_chain [.view (bs.map Mv), .int .i64 m0] [] (.tup [.sl 0 0 (ch bs m0).length, .bool true]) [some (.cells true 1 ((ch bs m0).map (.int .i64)))] := by
  have hlen := h.len
  have hc0 := ch_len h (show -1 ≤ m0 by omega) h1
  have hst0 := ch_step h h0 h1
  have hx0 := mt_get h0 h1
  have hcm0 := h.cmp _ (mt_mem h0 h1)
  have n0 : ¬ m0 < 0 := by omega
  have l0 : (0 : Int) ≤ bs.length := by omega
  obtain ⟨T, hT⟩ : ∃ T, ch bs m0 = T := ⟨_, rfl⟩
  rw [hT] at hc0 hst0 ⊢
  refine Ans.keep (run_fn e_ref07_chain fun G => ?_) (by simp) (by simp [go_sem]) ⟨by rw [row_bel_cells]; simp only [go_sem], trivial⟩
  simp only [go_sem]
  refine loop_body 400 k_ref07_chain_r5.eq_1 ?_
  simp only [go_sem, h0, l0, n0, hx0, h1, Mv, Mc]
  refine ⟨by decide, ?_⟩
  refine loop_ind k_ref07_chain_r5.eq_1 (fun a : Int × List Int × Heap => -1 ≤ a.1 ∧ a.1 < bs.length ∧ 1 ≤ a.2.1.length ∧ a.2.1 ++ ch bs a.1 = T) (fun a => T.length - a.2.1.length)
    (fun a => (tsets 28 [(0, .view (bs.map Mv)), (1, .int .i64 a.1), (6, .sl 1 0 a.2.1.length)], some (.cells false 1 [.int .i64 m0]) :: some (.cells true 1 (a.2.1.map (.int .i64))) :: a.2.2)) ((mt bs m0).cmp, [m0], []) ⟨hcm0.1, hcm0.2, by simp, hst0.symm⟩ (by simp [go_sem]) rfl ?_
  rintro ⟨m, l, X⟩ ⟨g1, g2, g3, g4⟩ ih
  dsimp only at g1 g2 g3 g4 ih ⊢
  have hTl : l.length + (ch bs m).length = T.length := by rw [← g4]; simp
  by_cases c1 : m = -1
  · have c2 : ¬ (0 : Int) ≤ m := by omega
    have c3 : m < 0 := by omega
    rw [c1, ch_end, List.append_nil] at g4
    subst g4
    simp only [go_sem, c2, c3]
    refine kept_one 1 (by simp [ren, rens]) (by rw [row_bel_cells]; simp only [go_sem]) rfl
  · have c2 : (0 : Int) ≤ m := by omega
    have c3 : (l.length : Int) ≤ bs.length := by omega
    have n1 : ¬ m < 0 := by omega
    have hst := ch_step h c2 g2
    have hx := mt_get c2 g2
    have hcm := h.cmp _ (mt_mem c2 g2)
    have hq : (l.length + 1) * 8 ≤ 2 ^ 44 := by omega
    have ez : l.map (AVal.int .i64) ++ [.int .i64 m] = (l ++ [m]).map (.int .i64) := by simp
    have el : l.length + 1 = (l ++ [m]).length := by simp
    have hl2 : (ch bs m).length = (ch bs (mt bs m).cmp).length + 1 := by rw [hst]; rfl
    simp only [go_sem, c2, c3, n1, hx, g2, hq, Mv, Mc, List.length_map]
    rw [ez, el]
    exact ih ((mt bs m).cmp, l ++ [m], _) (by simp; omega) ⟨hcm.1, hcm.2, by simp, by rw [← g4, hst]; simp⟩ _ (by simp [go_sem])

set_option maxHeartbeats 4000000 in
set_option maxRecDepth 10000 in
theorem rCheck_yes {bs : List Mt} (h : VB bs) : Ans Tryd.prog n_ref07_Check [.view (bs.map Mv)] [] (.int .i64 0) [] := by
  have hlen := h.len
  have c0 : ¬ (12 : Int) < bs.length := by omega
  refine spec_run e_ref07_Check fun G => ?_
  simp only [go_sem, c0, List.length_map]
  refine loop_ind k_ref07_Check_r12.eq_1 (fun a : Nat × Heap => a.1 ≤ bs.length) (fun a => bs.length - a.1)
    (fun a => (tsets 57 [(0, .view (bs.map Mv)), (3, .int .i64 a.1)], a.2)) (0, []) (Nat.zero_le _) (by simp [go_sem]) rfl ?_
  rintro ⟨i, H⟩ hi ih
  dsimp only at hi ih ⊢
  by_cases c1 : i < bs.length
  · have c2 : (i : Int) < bs.length := by omega
    have n0 : ¬ (i : Int) < 0 := by omega
    have w1 : IntKind.i64.wrap ((i : Int) + 1) = ((i + 1 : Nat) : Int) := by rw [w64 (by omega)]; rfl
    have w2 : IntKind.i64.wrap ((bs.length : Int) - 1) = (bs.length : Int) - 1 := w64 (by omega)
    obtain ⟨z, hz⟩ : ∃ z, bs[i]? = some z := ⟨_, List.getElem?_eq_getElem c1⟩
    have hm := List.mem_of_getElem? hz
    have hs := (h.all z hm).s
    have hd := (h.all z hm).d
    have hc := h.cmp z hm
    have k := rcheckMaking_yes (h.all z hm)
    have k1 := beyond_run z.step 1 1000000
    have k2 := beyond_run z.due 0 1000000000
    have k3 := beyond_run z.cmp (-1) ((bs.length : Int) - 1)
    rw [decide_eq_true (by omega)] at k1 k2 k3
    simp only [Mv, Mc] at k
    simp only [go_sem, c2, n0, hz, Mv, Mc, cells_end, get_end, put_at_end, List.length_map]
    refine cP k ?_
    simp only [go_sem, cells_end, get_end]
    refine cP k1 ?_
    simp only [go_sem, cells_end, get_end]
    refine cP k2 ?_
    simp only [go_sem, cells_end, get_end, w2, List.length_map]
    refine cP k3 ?_
    simp only [go_sem, w1]
    exact ih (i + 1, _) (by dsimp only; omega) c1 _ (by simp [go_sem])
  · have c2 : ¬ (i : Int) < bs.length := by omega
    simp only [go_sem, c2, List.length_map]
    refine loop_ind k_ref07_Check_r19.eq_1 (fun a : Nat × Heap => a.1 ≤ bs.length) (fun a => bs.length - a.1)
      (fun a => (tsets 57 [(0, .view (bs.map Mv)), (6, .int .i64 a.1)], a.2)) (0, H) (Nat.zero_le _) (by simp [go_sem]) rfl ?_
    clear ih
    rintro ⟨i, H⟩ hi ih
    dsimp only at hi ih ⊢
    by_cases c1 : i < bs.length
    · have c2 : (i : Int) < bs.length := by omega
      have w1 : IntKind.i64.wrap ((i : Int) + 1) = ((i + 1 : Nat) : Int) := by rw [w64 (by omega)]; rfl
      have k := rchain_run h (m0 := i) (by omega) c2
      simp only [go_sem, c2, List.length_map]
      refine cN1 k ?_
      simp only [go_sem, ren, rens, w1]
      exact ih (i + 1, _) (by dsimp only; omega) c1 _ (by simp [go_sem])
    · have c2 : ¬ (i : Int) < bs.length := by omega
      simp only [go_sem, c2, List.length_map]
theorem rChain_run {bs : List Mt} (h : VB bs) {m0 : Int} (h0 : 0 ≤ m0) (h1 : m0 < bs.length) :
    Ans Tryd.prog n_ref07_Chain [.view (bs.map Mv), .int .i64 m0] [] (.sl 0 0 (ch bs m0).length) [some (.cells true 1 ((ch bs m0).map (.int .i64)))] := by
  have hlen := h.len
  have w2 : IntKind.i64.wrap ((bs.length : Int) - 1) = (bs.length : Int) - 1 := w64 (by omega)
  have k1 := beyond_run m0 0 ((bs.length : Int) - 1)
  rw [decide_eq_true (by omega)] at k1
  refine spec_run e_ref07_Chain fun G => ?_
  simp only [go_sem]
  refine cP (rCheck_yes h) ?_
  simp only [go_sem, w2, List.length_map]
  refine cP k1 ?_
  simp only [go_sem]
  refine cN1 (rchain_run h h0 h1) ?_
  simp only [go_sem, ren, rens]
  exact ⟨_, rfl⟩
end Go.Proofs

namespace Go.Proofs
open Go Go.Sx Go.Gauge
attribute [local irreducible] Run

def sel3 (t a b c : Int) : Int := if t = 0 then a else if t = 1 then b else c
theorem sel3_get (t a b c : Int) (ht : 0 ≤ t ∧ t < 3) : [AVal.int .i64 a, .int .i64 b, .int .i64 c][t.toNat]? = some (.int .i64 (sel3 t a b c)) := by
  obtain rfl | rfl | rfl : t = 0 ∨ t = 1 ∨ t = 2 := by omega
  · rfl
  · rfl
  · rfl
def shw (bs : List Mt) (t : Int) : List Int → Int → Int → Int × Int
  | [], x, w => (x, w)
  | m :: ms, x, w => (sel3 t (mkLo (mt bs m) (shw bs t ms x w).1) (mkHi (mt bs m) (shw bs t ms x w).1) (btw (shw bs t ms x w).2 (mkLo (mt bs m) (shw bs t ms x w).1) (mkHi (mt bs m) (shw bs t ms x w).1)), dstep (shw bs t ms x w).2)
theorem shw_rd {bs : List Mt} {t : Int} : ∀ {l : List Int} {x w : Int}, (∀ m ∈ l, MtOK (mt bs m)) → Rd bs l x (shw bs t l x w).1
  | [], _, _, _ => rfl
  | m :: ms, x, w, h => by
    have hm := h m List.mem_cons_self
    have hle := mk_le hm (shw bs t ms x w).1
    have hb := btw_in (w := (shw bs t ms x w).2) hle
    refine ⟨(shw bs t ms x w).1, shw_rd fun k hk => h k (List.mem_cons_of_mem _ hk), ?_⟩
    simp only [shw, sel3]
    split
    · omega
    · split <;> omega
def shN (m : Mt) (v w : Int) : Int × Int :=
  if m.step < 2 * (v - v / m.step * m.step) then (v / m.step * m.step + m.step, w)
  else if 2 * (v - v / m.step * m.step) = m.step then (if upto w 2 = 0 then v / m.step * m.step + m.step else v / m.step * m.step, dstep w) else (v / m.step * m.step, w)
def showR (bs : List Mt) (m x w : Int) : Int × Int := shN (mt bs m) (shw bs (upto w 3) (ch bs m) x (dstep w)).1 (shw bs (upto w 3) (ch bs m) x (dstep w)).2
theorem low_in {v s : Int} (h : 1 ≤ s) : v - s < v / s * s ∧ v / s * s ≤ v := by
  have e := Int.emod_add_mul_ediv v s
  have h1 := Int.emod_nonneg v (show s ≠ 0 by omega)
  have h2 := Int.emod_lt_of_pos v (show 0 < s by omega)
  have e2 : s * (v / s) = v / s * s := Int.mul_comm _ _
  omega
theorem shN_near (m : Mt) (v w : Int) (h : 1 ≤ m.step) : 2 * ((shN m v w).1 - v) ≤ m.step ∧ 2 * (v - (shN m v w).1) ≤ m.step := by
  have h1 := low_in (v := v) h
  unfold shN
  split
  · dsimp only; omega
  · split
    · dsimp only; split <;> omega
    · dsimp only; omega
theorem shN_mul (m : Mt) (v w : Int) : (shN m v w).1 % m.step = 0 := by
  have h1 : v / m.step * m.step % m.step = 0 := Int.mul_emod_left _ _
  have h2 : (v / m.step * m.step + m.step) % m.step = 0 := by rw [Int.add_emod_right]; exact h1
  unfold shN
  split
  · exact h2
  · split
    · dsimp only
      split
      · exact h2
      · exact h1
    · exact h1

theorem mv_frz (ms : List Mt) (d : Nat) (H : Heap) : (ms.map Mv).map (frz (d + 2) H) = ms.map Mv := by rw [List.map_map]; rfl
theorem bs_frz {bs : List Mt} {H : Heap} {j n : Nat} {g : Bool} (h : H[j]? = some (some (.cells g 7 (bs.map Mv)))) (hn : n = bs.length) : frz 6 H (.sl j 0 n) = .view (bs.map Mv) := by
  rw [frz_sl (d := 5) h (by simpa using hn), mv_frz]

set_option maxHeartbeats 8000000 in
set_option maxRecDepth 10000 in
theorem Showing_run {bs : List Mt} (h : VB bs) {m x : Int} (h0 : 0 ≤ m) (h1 : m < bs.length) (hx : -1000000000 ≤ x ∧ x ≤ 1000000000) (w : Int) (g : Bool) :
    Ans Tryd.prog n_kit_Showing [.ptr 0 0 0 1, .sl 1 0 bs.length, .int .i64 m, .int .i64 x] [some (Dr w), some (.cells g 7 (bs.map Mv))] (.int .i64 (showR bs m x w).1) [some (Dr (showR bs m x w).2), some (.cells g 7 (bs.map Mv))] := by
  have hlen := h.len
  have hcl := ch_len h (show -1 ≤ m by omega) h1
  have hmem := ch_mem h _ m rfl (by omega) h1
  have hall : ∀ k ∈ ch bs m, MtOK (mt bs k) := fun k hk => h.all _ (mt_mem (hmem k hk).1 (hmem k hk).2)
  have ht := upto_in (w := w) (n := 3) (by decide)
  have hxm := mt_get h0 h1
  have hsm := (h.all _ (mt_mem h0 h1)).s
  have nm0 : ¬ m < 0 := by omega
  have gl : g = false ∨ True := .inr trivial
  unfold showR
  obtain ⟨t, htt⟩ : ∃ t, upto w 3 = t := ⟨_, rfl⟩
  obtain ⟨w0, hw0⟩ : ∃ w0, dstep w = w0 := ⟨_, rfl⟩
  obtain ⟨l, hl⟩ : ∃ l, ch bs m = l := ⟨_, rfl⟩
  have kc := rChain_run h h0 h1
  rw [hl] at hcl hmem hall kc
  rw [htt] at ht
  rw [htt, hw0, hl]
  have w1 : IntKind.i64.wrap ((l.length : Int) - 1) = (l.length : Int) - 1 := w64 (by omega)
  refine spec_run e_kit_Showing fun G => ?_
  simp only [go_sem]
  refine cFN kc 6 ⟨.inl (bs_frz (g := g) rfl rfl), .inl rfl, trivial⟩ ?_ (hx := by rw [row_bel_cells]; simp only [go_sem]) (hxn := row_nv_cells _ _ (nvs_ints _ _ ▸ trivial))
  simp only [go_sem, ren, rens]
  refine cD (upto_ok w 3 (by decide)) ?_
  simp only [go_sem, htt, hw0, w1]
  refine loop_ind k_kit_Showing_r8.eq_1 (fun a : Nat × Heap => a.1 ≤ l.length) (fun a => a.1)
    (fun a => (tsets 78 [(0, .ptr 0 0 0 1), (1, .sl 1 0 bs.length), (2, .int .i64 m), (3, .int .i64 (shw bs t (l.drop a.1) x w0).1), (9, .sl 2 0 l.length), (10, .int .i64 t), (11, .int .i64 ((a.1 : Int) - 1))],
      some (Dr (shw bs t (l.drop a.1) x w0).2) :: some (.cells g 7 (bs.map Mv)) :: some (.cells true 1 (l.map (.int .i64))) :: a.2)) (l.length, []) (Nat.le_refl _) (by simp [go_sem, shw]) (by simp [shw]) ?_
  rintro ⟨k, X⟩ hk ih
  dsimp only at hk ih ⊢
  have hrd : Rd bs (l.drop k) x (shw bs t (l.drop k) x w0).1 := shw_rd fun j hj => hall j (List.mem_of_mem_drop hj)
  have hbd := hrd.bd (fun j hj => hall j (List.mem_of_mem_drop hj)) hx
  have hb2 := bnd_rch (n := (l.drop k).length) (by rw [List.length_drop]; omega)
  rcases k with _ | k
  · have c1 : ¬ (0 : Int) ≤ ((0 : Nat) : Int) - 1 := by omega
    rw [List.drop_zero] at *
    obtain ⟨v, hv⟩ : ∃ v, (shw bs t l x w0).1 = v := ⟨_, rfl⟩
    obtain ⟨w2, hw2⟩ : ∃ w2, (shw bs t l x w0).2 = w2 := ⟨_, rfl⟩
    rw [hv] at hbd ⊢
    rw [hw2]
    have lo := low_in (v := v) hsm.1
    obtain ⟨q, hq⟩ : ∃ q, v / (mt bs m).step = q := ⟨_, rfl⟩
    have kd := refDown_run v (mt bs m).step (by omega) (by omega)
    have e1 : shN (mt bs m) v w2 = if (mt bs m).step < 2 * (v - q * (mt bs m).step) then (q * (mt bs m).step + (mt bs m).step, w2)
      else if 2 * (v - q * (mt bs m).step) = (mt bs m).step then (if upto w2 2 = 0 then q * (mt bs m).step + (mt bs m).step else q * (mt bs m).step, dstep w2) else (q * (mt bs m).step, w2) := by rw [← hq]; rfl
    rw [e1]
    rw [hq] at lo kd
    have u1 : IntKind.i64.wrap (q * (mt bs m).step) = q * (mt bs m).step := w64 (by omega)
    have u2 : IntKind.i64.wrap (v - q * (mt bs m).step) = v - q * (mt bs m).step := w64 (by omega)
    have u3 : IntKind.i64.wrap (2 * (v - q * (mt bs m).step)) = 2 * (v - q * (mt bs m).step) := w64 (by omega)
    have u4 : IntKind.i64.wrap (q * (mt bs m).step + (mt bs m).step) = q * (mt bs m).step + (mt bs m).step := w64 (by omega)
    obtain ⟨p, hp⟩ : ∃ p, q * (mt bs m).step = p := ⟨_, rfl⟩
    rw [hp] at lo u1 u2 u3 u4 ⊢
    simp only [go_sem, c1, nm0, hxm, h1, Mv, Mc, List.length_map]
    refine cP kd ?_
    by_cases d1 : (mt bs m).step < 2 * (v - p)
    · simp only [go_sem, hp, u1, u2, u3, d1, u4]
      exact ⟨_, rfl⟩
    · by_cases d2 : 2 * (v - p) = (mt bs m).step
      · have d3 : (2 * (v - p) == (mt bs m).step) = true := beq_iff_eq.2 d2
        simp only [go_sem, hp, u1, u2, u3, d1, d3]
        refine cD (one_ok _ 2 (by decide)) ?_
        by_cases d4 : upto w2 2 = 0
        · have d5 : (upto w2 2 == 0) = true := by rw [d4]; rfl
          simp only [go_sem, d4, d5, u4, if_pos d2]
          exact ⟨_, rfl⟩
        · have d5 : (upto w2 2 == 0) = false := beq_eq_false_iff_ne.2 d4
          simp only [go_sem, d4, d5, if_pos d2]
          exact ⟨_, rfl⟩
      · have d3 : (2 * (v - p) == (mt bs m).step) = false := beq_eq_false_iff_ne.2 d2
        simp only [go_sem, hp, u1, u2, u3, d1, d3, if_neg d2]
        exact ⟨_, rfl⟩
  · have hk' : k < l.length := by omega
    have ei : ((k + 1 : Nat) : Int) - 1 = k := by omega
    have c1 : (0 : Int) ≤ (k : Int) := by omega
    have nk : ¬ (k : Int) < 0 := by omega
    obtain ⟨mk, hmk⟩ : ∃ mk, l[k]? = some mk := ⟨_, List.getElem?_eq_getElem hk'⟩
    have hml := List.mem_of_getElem? hmk
    obtain ⟨m1, m2⟩ := hmem mk hml
    have nmk : ¬ mk < 0 := by omega
    have hxk := mt_get m1 m2
    have hdr : l.drop k = mk :: l.drop (k + 1) := by
      rw [List.drop_eq_getElem_cons hk']
      have := List.getElem?_eq_getElem hk'
      rw [hmk] at this; cases this; rfl
    have ihk := ih (k, X)
    rw [ei]
    have hsh : shw bs t (l.drop k) x w0 = (sel3 t (mkLo (mt bs mk) (shw bs t (l.drop (k + 1)) x w0).1) (mkHi (mt bs mk) (shw bs t (l.drop (k + 1)) x w0).1) (btw (shw bs t (l.drop (k + 1)) x w0).2 (mkLo (mt bs mk) (shw bs t (l.drop (k + 1)) x w0).1) (mkHi (mt bs mk) (shw bs t (l.drop (k + 1)) x w0).1)), dstep (shw bs t (l.drop (k + 1)) x w0).2) := by
      rw [hdr]; rfl
    have ihk := fun X' => ih (k, X') (by dsimp only; omega) (by dsimp only; omega)
    dsimp only at ihk
    rw [hsh] at ihk
    clear ih hsh
    obtain ⟨u, hu⟩ : ∃ u, (shw bs t (l.drop (k + 1)) x w0).1 = u := ⟨_, rfl⟩
    obtain ⟨wu, hwu⟩ : ∃ wu, (shw bs t (l.drop (k + 1)) x w0).2 = wu := ⟨_, rfl⟩
    rw [hu] at hbd ihk ⊢
    rw [hwu] at ihk ⊢
    have km := Made_run (hall mk hml) (x := u) (by simp only [rch]; omega)
    have hb3 := mk_bd (hall mk hml) hbd
    have hb4 := mk_le (hall mk hml) u
    obtain ⟨lo, hlo⟩ : ∃ lo, mkLo (mt bs mk) u = lo := ⟨_, rfl⟩
    obtain ⟨hi, hhi⟩ : ∃ hi, mkHi (mt bs mk) u = hi := ⟨_, rfl⟩
    rw [hlo, hhi] at km hb3 hb4 ihk
    have ki := in_run wu lo hi (by omega) hb4 (by omega)
    simp only [Mv, Mc, r2] at km ki
    have w5 : IntKind.i64.wrap ((k : Int) - 1) = (k : Int) - 1 := w64 (by omega)
    have s3 := sel3_get t lo hi (btw wu lo hi) ht
    have nt : ¬ t < 0 := by omega
    simp only [go_sem, c1, nk, hmk, nmk, hxk, m2, Mv, Mc, List.length_map]
    refine ⟨by omega, ?_⟩
    refine cP km ?_
    simp only [go_sem, cells_end, get_end, put_at_end]
    refine dD ki ?_
    simp only [go_sem, nt, s3, w5, cells_end, get_end]
    exact ⟨ht.2, ihk _ _ (by simp [go_sem])⟩
end Go.Proofs

namespace Go.Proofs
open Go Go.Sx
def pchk : Option (AVal × Heap) → Bool
  | some (.tup [.agg [.int .i64 3, .int .i64 0], .int .i64 0], _) => true
  | _ => false
theorem pchk_eq {o : Option (AVal × Heap)} (h : pchk o = true) : ∃ H', o = some (.tup [.agg [.int .i64 3, .int .i64 0], .int .i64 0], H') := by
  unfold pchk at h
  split at h
  · exact ⟨_, rfl⟩
  · cases h
theorem plan_ex : pchk (exFn tab 3000 40 n_gauge_Plan [.int .i64 10, .int .i64 0, .int .i64 5, .int .i64 10, .int .i64 10] []) = true := by kernel_rfl
theorem plan_run : Ans Tryd.prog n_gauge_Plan [.int .i64 10, .int .i64 0, .int .i64 5, .int .i64 10, .int .i64 10] [] (.tup [.agg [.int .i64 3, .int .i64 0], .int .i64 0]) [] := by
  obtain ⟨H', h1⟩ := pchk_eq plan_ex
  exact (spec_ex mixed tab_ok h1).mono fun v H'' hv => ⟨hv.1, H'', rfl⟩
end Go.Proofs

namespace Go.Proofs
open Go Go.Sx
def kchk : Option (AVal × Heap) → Bool
  | some (.tup [.agg [.int .i64 5000, .int .i64 1000000], .int .i64 0], _) => true
  | _ => false
theorem kchk_eq {o : Option (AVal × Heap)} (h : kchk o = true) : ∃ H', o = some (.tup [.agg [.int .i64 5000, .int .i64 1000000], .int .i64 0], H') := by
  unfold kchk at h
  split at h
  · exact ⟨_, rfl⟩
  · cases h
theorem keeps_ex : kchk (exFn tab 3000 40 n_gauge_Keeps [.agg [.int .i64 10, .int .i64 20], .agg [.int .i64 0, .int .i64 1], .agg [.int .i64 0, .int .i64 25]] []) = true := by kernel_rfl
theorem keeps_run : Ans Tryd.prog n_gauge_Keeps [.agg [.int .i64 10, .int .i64 20], .agg [.int .i64 0, .int .i64 1], .agg [.int .i64 0, .int .i64 25]] [] (.tup [.agg [.int .i64 5000, .int .i64 1000000], .int .i64 0]) [] := by
  obtain ⟨H', h1⟩ := kchk_eq keeps_ex
  exact (spec_ex mixed tab_ok h1).mono fun v H'' hv => ⟨hv.1, H'', rfl⟩
end Go.Proofs

namespace Go.Proofs
open Go Go.Sx Go.Gauge
attribute [local irreducible] Run

def vrd (a b c d : Int) : Int := if b < a ∨ d < c then 0 else if c ≤ a ∧ b ≤ d then 1 else if min b d < max a c then 2 else 3
theorem Verdict_run (a b c d : Int) : Ans Tryd.prog n_gauge_Verdict [r2 a b, r2 c d] [] (.int .i64 (vrd a b c d)) [] := by
  have k1 := isEmpty_run a b
  have k2 := isEmpty_run c d
  have k3 := common_run a b c d
  have k4 := isEmpty_run (max a c) (min b d)
  simp only [r2] at k1 k2 k3 k4
  refine spec_run e_gauge_Verdict fun G => ?_
  simp only [go_sem, r2]
  refine cP k1 ?_
  by_cases c1 : b < a
  · have e : vrd a b c d = 0 := if_pos (.inl c1)
    simp only [go_sem, c1, e]
  · simp only [go_sem, c1]
    refine cP k2 ?_
    by_cases c2 : d < c
    · have e : vrd a b c d = 0 := if_pos (.inr c2)
      simp only [go_sem, c2, e]
    · have e1 : vrd a b c d = if c ≤ a ∧ b ≤ d then 1 else if min b d < max a c then 2 else 3 := if_neg (by omega)
      rw [e1]
      have fin : ¬ (c ≤ a ∧ b ≤ d) → ∀ P : Prop, (min b d < max a c → P) → (¬ min b d < max a c → P) → P := fun _ P h1 h2 => by
        by_cases h : min b d < max a c
        · exact h1 h
        · exact h2 h
      by_cases c3 : c ≤ a
      · by_cases c4 : b ≤ d
        · simp only [go_sem, c2, c3, c4]
        · by_cases c5 : min b d < max a c
          · simp only [go_sem, c2, c3, c4]
            refine cP k3 ?_
            simp only [go_sem]
            refine cP k4 ?_
            simp only [go_sem, c5]
          · simp only [go_sem, c2, c3, c4]
            refine cP k3 ?_
            simp only [go_sem]
            refine cP k4 ?_
            simp only [go_sem, c5]
      · by_cases c5 : min b d < max a c
        · simp only [go_sem, c2, c3]
          refine cP k3 ?_
          simp only [go_sem]
          refine cP k4 ?_
          simp only [go_sem, c5]
        · simp only [go_sem, c2, c3]
          refine cP k3 ?_
          simp only [go_sem]
          refine cP k4 ?_
          simp only [go_sem, c5]
theorem span_run (a b : Int) : Ans Tryd.prog n_law07_span [.int .i64 a, .int .i64 b] [] (.agg [.int .i64 a, .int .i64 b]) [] := by
  refine spec_run e_law07_span fun G => ?_
  simp only [go_sem]

def exB : List Mt := [⟨1000000, 1000000, 0, 0, 10, -1, 100⟩, ⟨990000, 1010000, -5, 5, 1, 0, 50⟩]
theorem exB_ok : VB exB := by
  refine VB.made (by decide) (fun x hx => ?_) fun i x hx => ?_
  · simp only [exB, List.mem_cons, List.not_mem_nil, or_false] at hx
    rcases hx with rfl | rfl
    · exact ⟨by decide, by decide, by decide, by decide⟩
    · exact ⟨by decide, by decide, by decide, by decide⟩
  · match i, hx with
    | 0, hx => simp [exB] at hx; subst hx; decide
    | 1, hx => simp [exB] at hx; subst hx; decide
    | i + 2, hx => simp [exB] at hx
theorem lf_val {m : Mt} (h : MtOK m) {y L : Int} (hL : -rch < L ∧ L ≤ rch) (h1 : y ≤ mkHi m L) (h2 : mkHi m (L - 1) < y) : lf m y = L := by
  have a1 := (lf_iff h (y := y) (x := L) (by omega) hL.2).1 h1
  have a2 : ¬ lf m y ≤ L - 1 := fun e => by
    have := (lf_iff h (y := y) (x := L - 1) (by omega) (by omega)).2 e
    omega
  omega
theorem mf_val {m : Mt} (h : MtOK m) {y L : Int} (hL : -rch ≤ L ∧ L < rch) (h1 : mkLo m L ≤ y) (h2 : y < mkLo m (L + 1)) : mf m y = L := by
  have a1 := (mf_iff h (y := y) (x := L) hL.1 (by omega)).1 h1
  have a2 : ¬ L + 1 ≤ mf m y := fun e => by
    have := (mf_iff h (y := y) (x := L + 1) (by omega) (by omega)).2 e
    omega
  omega
theorem exB_true : tru exB 1 1000 = some (985, 1016) := by
  have h1 : MtOK (mt exB 1) := exB_ok.all _ (mt_mem (by decide) (by decide))
  have h0 : MtOK (mt exB 0) := exB_ok.all _ (mt_mem (by decide) (by decide))
  have hc : ch exB 1 = [1, 0] := by decide
  have hs : (mt exB 1).step = 1 := rfl
  unfold tru
  rw [hc, hs]
  have e1 : lf (mt exB 1) 1000 = 985 := lf_val h1 (by decide) (by decide) (by decide)
  have e2 : mf (mt exB 1) 1000 = 1016 := mf_val h1 (by decide) (by decide) (by decide)
  have e3 : lf (mt exB 0) 985 = 985 := lf_val h0 (by decide) (by decide) (by decide)
  have e4 : mf (mt exB 0) 1016 = 1016 := mf_val h0 (by decide) (by decide) (by decide)
  have w1 : (1000 : Int) - 1 / 2 = 1000 := by decide
  have w2 : (1000 : Int) + 1 / 2 = 1000 := by decide
  rw [w1, w2]
  simp only [tfr, e1, e2, e3, e4]
  decide
theorem bench_ex : Ans Tryd.prog n_law07_bench [] [] (.sl 0 0 2) [some (.cells false 7 (exB.map Mv))] := by
  refine spec_run e_law07_bench fun G => ?_
  simp only [go_sem]
  refine cP (span_run 1000000 1000000) ?_
  simp only [go_sem]
  refine cP (span_run 990000 1010000) ?_
  simp only [go_sem]
  refine cP (span_run (-5) 5) ?_
  simp only [go_sem]
  exact ⟨_, rfl⟩

theorem zs_frz (H : Heap) (h : H[4]? = some (some (.cells false 7 (List.replicate 13 (.agg [.int .i64 0, .int .i64 0, .int .i64 0, .int .i64 0, .int .i64 0, .int .i64 0, .int .i64 0]))))) :
    frz 6 H (.sl 4 0 13) = .view (List.replicate 13 (.agg [.int .i64 0, .int .i64 0, .int .i64 0, .int .i64 0, .int .i64 0, .int .i64 0, .int .i64 0])) := by
  rw [frz_sl (d := 5) h (by simp), List.map_replicate]; rfl

set_option maxHeartbeats 4000000 in
set_option maxRecDepth 10000 in
theorem awake_ok : Ans Tryd.prog n_law07_awake [] [] (.bool true) [] := by
  have kt := True_run exB_ok (m0 := 1) (n := 1000) (by decide) (by decide) (by decide) (by decide)
  rw [exB_true] at kt
  simp only [truV] at kt
  have kv := Verdict_run 95 105 106 200
  simp only [r2] at kv
  have ev : vrd 95 105 106 200 = 2 := by decide
  rw [ev] at kv
  refine spec_run e_law07_awake fun G => ?_
  simp only [go_sem]
  refine cN1 bench_ex ?_
  simp only [go_sem, ren, rens]
  refine cF kt 6 ⟨.inl (bs_frz (g := false) rfl rfl), .inl rfl, .inl rfl, trivial⟩ ?_
  simp only [go_sem]
  refine cP plan_run ?_
  simp only [go_sem]
  refine cP (span_run 10 20) ?_
  simp only [go_sem]
  refine cP (span_run 0 1) ?_
  simp only [go_sem]
  refine cP (span_run 0 25) ?_
  simp only [go_sem]
  refine cP keeps_run ?_
  simp only [go_sem]
  refine dP (span_run 985 1016) ?_
  simp only [go_sem]
  refine dP (span_run 5000 1000000) ?_
  simp only [go_sem]
  refine cP (span_run 95 105) ?_
  simp only [go_sem]
  refine cP (span_run 106 200) ?_
  simp only [go_sem]
  refine cP kv ?_
  simp only [go_sem]
  refine ⟨by decide, ?_⟩
  refine cF (Check_full (es := List.replicate 13 (.agg [.int .i64 0, .int .i64 0, .int .i64 0, .int .i64 0, .int .i64 0, .int .i64 0, .int .i64 0])) (by simp) (by simp only [go_sem])) 6 ⟨.inl (zs_frz _ rfl), trivial⟩ ?_
  simp only [go_sem]
end Go.Proofs

namespace Go.Proofs
open Go Go.Sx Go.Gauge
attribute [local irreducible] Run

theorem mod_in (a b : Int) (hb : 1 ≤ b) : 0 ≤ a % b ∧ a % b < b := ⟨Int.emod_nonneg _ (by omega), Int.emod_lt_of_pos _ (by omega)⟩
theorem bk_bel (bs : List Mt) (g : Bool) (S : Nat → Prop) : (Row.cells g 7 (bs.map Mv)).bel S := by rw [row_bel_cells]; simp only [go_sem]
theorem showR_ok {bs : List Mt} (h : VB bs) {m x w : Int} (h0 : 0 ≤ m) (h1 : m < bs.length) (hx : -1000000000 ≤ x ∧ x ≤ 1000000000) :
    (showR bs m x w).1 % (mt bs m).step = 0 ∧ ∃ a b, tru bs m (showR bs m x w).1 = some (a, b) ∧ a ≤ x ∧ x ≤ b := by
  have hs := (h.all _ (mt_mem h0 h1)).s
  refine ⟨shN_mul _ _ _, ?_⟩
  have hm := ch_mem h _ m rfl (by omega) h1
  exact tru_has h h0 h1 hx (shw_rd (t := upto w 3) (w := dstep w) fun k hk => h.all _ (mt_mem (hm k hk).1 (hm k hk).2)) (shN_near _ _ _ hs.1)

end Go.Proofs

namespace Go.Proofs
open Go Go.Sx Go.Gauge
attribute [local irreducible] Run

section
variable {P : Program} {g : FuncId} {args largs : List AVal} {H : Heap} {R : Runner} {l : List AOper} {fs : List Sx.Frame} {ρ : List AVal} {ms : List Nat} {Q : Sx.Goal} {ao : AOper} {lo hi : Nat} {tr : List (List Nat × List Nat)} {ss : List (List AOper)}
theorem DCall.less {v : AVal} {j0 j1 : Nat} {x' x1 : Row} {qs : List Nat} (h : DCall P g args H ⟨v, [(j0, x'), (j1, x1)], qs⟩) (h1 : H[j1]? = some (some x1)) (hlt : j0 < H.length) (hne : j0 ≠ j1) : DCall P g args H ⟨v, [(j0, x')], qs⟩ :=
  ⟨h.1, fun G K μ cargs w hsub hfs hl hv hH => by
    have k1 := hsub j1 x1 h1
    have hltK : j1 < K.length := (List.getElem?_eq_some_iff.1 k1).1
    have e : K.puts [(j0, x'), (j1, x1)] = K.puts [(j0, x')] := by
      simp only [Heap.puts]
      refine put_same ?_
      unfold Heap.put
      split
      · rw [List.getElem?_set_ne hne]; exact k1
      · rw [List.getElem?_append_left hltK]; exact k1
    have := h.2 G K μ cargs w hsub hfs hl hv hH
    simp only at this ⊢
    rw [e] at this
    exact this⟩
theorem dR2 {x0 x1 x' : Row} {r : AVal} {j0 j1 : Nat} (h : Ans P g largs [some x0, some x1] r [some x', some x1]) (hargs : args = largs.map (ren (nth [j0, j1]))) (hb : Bels (· < 2) largs)
    (h0 : H[j0]? = some (some x0)) (h1 : H[j1]? = some (some x1)) (hx0 : x0.bel (fun _ => False)) (hx1 : x1.bel (fun _ => False)) (hn : [j0, j1].Nodup)
    (hr : Bel (fun _ => False) r) (hx' : x'.bel (fun _ => False)) (hms : ∀ q ∈ ms, q ≠ j0) (hd : dynOK ao.free [j0, j1] [j0] tr lo = true)
    (hK : R (.grp lo l (tr ++ [([j0, j1], [j0])]) hi ss) fs ⟨setD ρ ao.dst r, H.set j0 (some x'), ms⟩ Q) : DCallR P R g args ao lo l tr hi ss fs ρ H ms Q := by
  have hlt0 := (List.getElem?_eq_some_iff.1 h0).1
  have n1 : j0 ≠ j1 := by simpa using hn
  have e : outΔ (outσ [j0, j1] H.length) 0 [some x', some x1] = [(j0, x'), (j1, x1)] := by
    simp only [outΔ, Row.ren_same hx', Row.ren_same hx1]
    rfl
  have h2 := h.dcall (H := H) (args := args) [j0, j1] hn ⟨by rw [Row.ren_same hx0]; exact h0, by rw [Row.ren_same hx1]; exact h1, trivial⟩ hargs hb ⟨bel_mono_row hx0 fun _ h => h.elim, bel_mono_row hx1 fun _ h => h.elim, trivial⟩
    (by simp) (hr.mono fun q hq => hq.elim) ⟨bel_mono_row hx' fun _ h => h.elim, bel_mono_row hx1 fun _ h => h.elim, trivial⟩ (by
      have := (List.getElem?_eq_some_iff.1 h1).1
      simp; omega)
  have e4 : newNames H.length ([some x', some x1].length - [j0, j1].length) = [] := rfl
  rw [e, e4, ren_same hr] at h2
  have h3 := DCall.less h2 ((onlyR_get _ _ _ _).2 ⟨by simp, h1⟩) ?_ n1
  · refine dcallR (deps := [j0, j1]) h3 ⟨fun q hq => ?_, fun q hq => ?_, hd, ?_⟩
    · simpa [Oc.rows] using hms q hq
    · simp at hq
    · simp only [Heap.puts, put_lt hlt0]
      exact hK
  · have := (List.getElem?_eq_some_iff.1 ((onlyR_get H [j0, j1] j0 x0).2 ⟨by simp, h0⟩)).1
    exact this
end
end Go.Proofs

namespace Go.Proofs
open Go Go.Sx

def k_law07_GaugeEnds_r0 : List AOper := [
  ⟨(some (6)), .move (.const (.bool false)), none, []⟩]
def k_law07_GaugeEnds_r1 : List AOper := [
  ⟨(some (14)), .move (.tmp 0), none, []⟩, 
  ⟨(some (15)), .call (.const (.fn (.func 16) [] [])) [.tmp 14], none, []⟩, 
  ⟨(some (7)), .move (.tmp 15), none, []⟩]
def k_law07_GaugeEnds_r2 : List AOper := [
  ⟨(some (16)), .move (.tmp 7), none, []⟩, 
  ⟨(some (17)), .call (.const (.fn (.func 17) [] [])) [.tmp 16, .const (.int .i64 2)], none, []⟩, 
  ⟨(some (8)), .move (.tmp 17), none, []⟩]
def k_law07_GaugeEnds_r3 : List AOper := [
  ⟨(some (18)), .move (.tmp 7), none, []⟩, 
  ⟨(some (19)), .move (.tmp 8), none, []⟩, 
  ⟨(some (20)), .len false (.tmp 19), none, []⟩, 
  ⟨(some (21)), .call (.const (.fn (.func 19) [] [])) [.tmp 18, .tmp 20], none, []⟩, 
  ⟨(some (9)), .move (.tmp 21), none, []⟩]
def k_law07_GaugeEnds_r4 : List AOper := [
  ⟨(some (22)), .move (.tmp 7), none, []⟩, 
  ⟨(some (23)), .move (.tmp 8), none, [0]⟩, 
  ⟨(some (24)), .move (.tmp 9), none, [0, 1]⟩, 
  ⟨(some (25)), .move (.tmp 1), none, [0, 1, 2]⟩, 
  ⟨(some (26)), .call (.const (.fn (.func 22) [] [])) [.tmp 25, .const (.int .i64 200001)], none, [0, 1, 2]⟩, 
  ⟨(some (27)), .bin .plain .sub (.tmp 26) (.const (.int .i64 100000)), none, [0, 1, 2]⟩, 
  ⟨(some (28)), .call (.const (.fn (.func 31) [] [])) [.tmp 22, .tmp 23, .tmp 24, .tmp 27], none, []⟩, 
  ⟨(some (29)), .move (.tmp 8), none, [0, 1, 2, 3, 4, 5, 6]⟩, 
  ⟨(some (30)), .move (.tmp 9), none, [0, 1, 2, 3, 4, 5, 6, 7]⟩, 
  ⟨(some (31)), .indexAddr 7 (.tmp 29) (.tmp 30), none, [0, 1, 2, 3, 4, 5, 6]⟩, 
  ⟨(some (32)), .fieldAddr 4 (.tmp 31), none, [0, 1, 2, 3, 4, 5, 6]⟩, 
  ⟨(some (33)), .load none (.tmp 32), none, [0, 1, 2, 3, 4, 5, 6]⟩, 
  ⟨(some (34)), .move (.tmp 7), none, [0, 1, 2, 3, 4, 5, 6, 7, 8, 9, 10, 11]⟩, 
  ⟨(some (35)), .call (.const (.fn (.func 20) [] [])) [.tmp 34, .const (.int .i64 (-2)), .const (.int .i64 2)], none, [7, 8, 9, 10, 11]⟩, 
  ⟨(some (36)), .bin .plain .mul (.tmp 33) (.tmp 35), none, []⟩, 
  ⟨(some (37)), .bin .plain .add (.tmp 28) (.tmp 36), none, []⟩, 
  ⟨(some (10)), .move (.tmp 37), none, []⟩]
def k_law07_GaugeEnds_r4s : List (List AOper) := [
  [
  ⟨(some (22)), .move (.tmp 7), none, []⟩, 
  ⟨(some (23)), .move (.tmp 8), none, [0]⟩, 
  ⟨(some (24)), .move (.tmp 9), none, [0, 1]⟩, 
  ⟨(some (25)), .move (.tmp 1), none, [0, 1, 2]⟩, 
  ⟨(some (26)), .call (.const (.fn (.func 22) [] [])) [.tmp 25, .const (.int .i64 200001)], none, [0, 1, 2]⟩, 
  ⟨(some (27)), .bin .plain .sub (.tmp 26) (.const (.int .i64 100000)), none, [0, 1, 2]⟩, 
  ⟨(some (28)), .call (.const (.fn (.func 31) [] [])) [.tmp 22, .tmp 23, .tmp 24, .tmp 27], none, []⟩, 
  ⟨(some (29)), .move (.tmp 8), none, [0, 1, 2, 3, 4, 5, 6]⟩, 
  ⟨(some (30)), .move (.tmp 9), none, [0, 1, 2, 3, 4, 5, 6, 7]⟩, 
  ⟨(some (31)), .indexAddr 7 (.tmp 29) (.tmp 30), none, [0, 1, 2, 3, 4, 5, 6]⟩, 
  ⟨(some (32)), .fieldAddr 4 (.tmp 31), none, [0, 1, 2, 3, 4, 5, 6]⟩, 
  ⟨(some (33)), .load none (.tmp 32), none, [0, 1, 2, 3, 4, 5, 6]⟩, 
  ⟨(some (34)), .move (.tmp 7), none, [0, 1, 2, 3, 4, 5, 6, 7, 8, 9, 10, 11]⟩, 
  ⟨(some (35)), .call (.const (.fn (.func 20) [] [])) [.tmp 34, .const (.int .i64 (-2)), .const (.int .i64 2)], none, [7, 8, 9, 10, 11]⟩], 
  [
  ⟨(some (36)), .bin .plain .mul (.tmp 33) (.tmp 35), none, []⟩], 
  [
  ⟨(some (37)), .bin .plain .add (.tmp 28) (.tmp 36), none, []⟩], 
  [
  ⟨(some (10)), .move (.tmp 37), none, []⟩]]
theorem k_law07_GaugeEnds_r4_sg : segs k_law07_GaugeEnds_r4 = k_law07_GaugeEnds_r4s := by kernel_rfl
theorem k_law07_GaugeEnds_r4_st : statOK k_law07_GaugeEnds_r4 = true := by kernel_rfl
def k_law07_GaugeEnds_r5 : List AOper := [
  ⟨(some (39)), .move (.tmp 8), none, []⟩, 
  ⟨(some (40)), .move (.tmp 9), none, []⟩, 
  ⟨(some (41)), .move (.tmp 10), none, []⟩, 
  ⟨(some (42)), .call (.const (.fn (.func 32) [] [])) [.tmp 39, .tmp 40, .tmp 41], none, []⟩, 
  ⟨(some (38)), .move (.tmp 42), none, []⟩, 
  ⟨(some (43)), .extract (.tmp 38) 0, none, []⟩, 
  ⟨(some (44)), .extract (.tmp 38) 1, none, []⟩, 
  ⟨(some (11)), .box (.const (.agg [.int .i64 0, .int .i64 0])), none, []⟩, 
  ⟨none, .store 2 (.tmp 11) (.tmp 43), none, []⟩, 
  ⟨(some (12)), .move (.tmp 44), none, []⟩]
def k_law07_GaugeEnds_r6 : List AOper := [
  ⟨(some (45)), .move (.tmp 12), none, []⟩, 
  ⟨(some (46)), .bin .plain .neq (.tmp 45) (.const (.int .i64 0)), none, []⟩]
def k_law07_GaugeEnds_r7 : List AOper := [
  ⟨(some (47)), .move (.tmp 12), none, []⟩, 
  ⟨(some (48)), .bin .plain .eql (.tmp 47) (.const (.int .i64 12)), none, []⟩, 
  ⟨(some (49)), .move (.tmp 48), none, []⟩, 
  ⟨(some (50)), .call (.const (.fn (.func 15) [] [])) [], (some (49, true)), []⟩, 
  ⟨(some (51)), .pick (.tmp 49) (.tmp 50) (.const (.bool false)), none, []⟩, 
  ⟨(some (6)), .move (.tmp 51), none, []⟩]
def k_law07_GaugeEnds_r8 : List AOper := [
  ⟨(some (52)), .fieldAddr 0 (.tmp 11), none, []⟩, 
  ⟨(some (53)), .load none (.tmp 52), none, []⟩, 
  ⟨(some (54)), .fieldAddr 1 (.tmp 11), none, []⟩, 
  ⟨(some (55)), .load none (.tmp 54), none, []⟩, 
  ⟨(some (56)), .bin .plain .gtr (.tmp 53) (.tmp 55), none, []⟩, 
  ⟨(some (57)), .move (.tmp 56), none, []⟩, 
  ⟨(some (58)), .fieldAddr 0 (.tmp 11), (some (57, false)), []⟩, 
  ⟨(some (59)), .load none (.tmp 58), (some (57, false)), []⟩, 
  ⟨(some (60)), .bin .plain .lss (.tmp 59) (.const (.int .i64 (-500000000))), (some (57, false)), []⟩, 
  ⟨(some (61)), .pick (.tmp 57) (.const (.bool true)) (.tmp 60), none, []⟩, 
  ⟨(some (62)), .move (.tmp 61), none, []⟩, 
  ⟨(some (63)), .fieldAddr 1 (.tmp 11), (some (62, false)), []⟩, 
  ⟨(some (64)), .load none (.tmp 63), (some (62, false)), []⟩, 
  ⟨(some (65)), .bin .plain .gtr (.tmp 64) (.const (.int .i64 500000000)), (some (62, false)), []⟩, 
  ⟨(some (66)), .pick (.tmp 62) (.const (.bool true)) (.tmp 65), none, []⟩]
def k_law07_GaugeEnds_r9 : List AOper := [
  ⟨(some (6)), .move (.const (.bool false)), none, []⟩]
def k_law07_GaugeEnds_r10 : List AOper := [
  ⟨(some (67)), .fieldAddr 0 (.tmp 11), none, []⟩, 
  ⟨(some (68)), .load none (.tmp 67), none, []⟩, 
  ⟨(some (69)), .move (.tmp 2), none, [0, 1]⟩, 
  ⟨(some (70)), .fieldAddr 1 (.tmp 11), none, [0, 1, 2]⟩, 
  ⟨(some (71)), .load none (.tmp 70), none, [0, 1, 2]⟩, 
  ⟨(some (72)), .fieldAddr 0 (.tmp 11), none, [0, 1, 2, 3, 4]⟩, 
  ⟨(some (73)), .load none (.tmp 72), none, [0, 1, 2, 3, 4]⟩, 
  ⟨(some (74)), .bin .plain .sub (.tmp 71) (.tmp 73), none, [0, 1, 2]⟩, 
  ⟨(some (75)), .bin .plain .add (.tmp 74) (.const (.int .i64 1)), none, [0, 1, 2]⟩, 
  ⟨(some (76)), .call (.const (.fn (.func 22) [] [])) [.tmp 69, .tmp 75], none, [0, 1]⟩, 
  ⟨(some (77)), .bin .plain .add (.tmp 68) (.tmp 76), none, []⟩, 
  ⟨(some (13)), .move (.tmp 77), none, []⟩]
def k_law07_GaugeEnds_r10s : List (List AOper) := [
  [
  ⟨(some (67)), .fieldAddr 0 (.tmp 11), none, []⟩, 
  ⟨(some (68)), .load none (.tmp 67), none, []⟩, 
  ⟨(some (69)), .move (.tmp 2), none, [0, 1]⟩, 
  ⟨(some (70)), .fieldAddr 1 (.tmp 11), none, [0, 1, 2]⟩, 
  ⟨(some (71)), .load none (.tmp 70), none, [0, 1, 2]⟩, 
  ⟨(some (72)), .fieldAddr 0 (.tmp 11), none, [0, 1, 2, 3, 4]⟩, 
  ⟨(some (73)), .load none (.tmp 72), none, [0, 1, 2, 3, 4]⟩, 
  ⟨(some (74)), .bin .plain .sub (.tmp 71) (.tmp 73), none, [0, 1, 2]⟩, 
  ⟨(some (75)), .bin .plain .add (.tmp 74) (.const (.int .i64 1)), none, [0, 1, 2]⟩, 
  ⟨(some (76)), .call (.const (.fn (.func 22) [] [])) [.tmp 69, .tmp 75], none, [0, 1]⟩], 
  [
  ⟨(some (77)), .bin .plain .add (.tmp 68) (.tmp 76), none, []⟩], 
  [
  ⟨(some (13)), .move (.tmp 77), none, []⟩]]
theorem k_law07_GaugeEnds_r10_sg : segs k_law07_GaugeEnds_r10 = k_law07_GaugeEnds_r10s := by kernel_rfl
theorem k_law07_GaugeEnds_r10_st : statOK k_law07_GaugeEnds_r10 = true := by kernel_rfl
def k_law07_GaugeEnds_r11 : List AOper := [
  ⟨(some (78)), .move (.tmp 8), none, []⟩, 
  ⟨(some (79)), .move (.tmp 9), none, []⟩, 
  ⟨(some (80)), .fieldAddr 0 (.tmp 11), none, []⟩, 
  ⟨(some (81)), .load none (.tmp 80), none, []⟩, 
  ⟨(some (82)), .move (.tmp 10), none, []⟩, 
  ⟨(some (83)), .call (.const (.fn (.func 48) [] [])) [.tmp 78, .tmp 79, .tmp 81, .tmp 82], none, []⟩, 
  ⟨(some (84)), .move (.tmp 83), none, []⟩, 
  ⟨(some (85)), .move (.tmp 8), (some (84, true)), []⟩, 
  ⟨(some (86)), .move (.tmp 9), (some (84, true)), []⟩, 
  ⟨(some (87)), .fieldAddr 1 (.tmp 11), (some (84, true)), []⟩, 
  ⟨(some (88)), .load none (.tmp 87), (some (84, true)), []⟩, 
  ⟨(some (89)), .move (.tmp 10), (some (84, true)), []⟩, 
  ⟨(some (90)), .call (.const (.fn (.func 48) [] [])) [.tmp 85, .tmp 86, .tmp 88, .tmp 89], (some (84, true)), []⟩, 
  ⟨(some (91)), .pick (.tmp 84) (.tmp 90) (.const (.bool false)), none, []⟩, 
  ⟨(some (92)), .move (.tmp 91), none, []⟩, 
  ⟨(some (93)), .move (.tmp 8), (some (92, true)), []⟩, 
  ⟨(some (94)), .move (.tmp 9), (some (92, true)), []⟩, 
  ⟨(some (95)), .move (.tmp 13), (some (92, true)), []⟩, 
  ⟨(some (96)), .move (.tmp 10), (some (92, true)), []⟩, 
  ⟨(some (97)), .call (.const (.fn (.func 48) [] [])) [.tmp 93, .tmp 94, .tmp 95, .tmp 96], (some (92, true)), []⟩, 
  ⟨(some (98)), .pick (.tmp 92) (.tmp 97) (.const (.bool false)), none, []⟩, 
  ⟨(some (99)), .move (.tmp 98), none, []⟩, 
  ⟨(some (100)), .move (.tmp 8), (some (99, true)), []⟩, 
  ⟨(some (101)), .move (.tmp 9), (some (99, true)), []⟩, 
  ⟨(some (102)), .fieldAddr 0 (.tmp 11), (some (99, true)), []⟩, 
  ⟨(some (103)), .load none (.tmp 102), (some (99, true)), []⟩, 
  ⟨(some (104)), .bin .plain .sub (.tmp 103) (.const (.int .i64 1)), (some (99, true)), []⟩, 
  ⟨(some (105)), .move (.tmp 10), (some (99, true)), []⟩, 
  ⟨(some (106)), .call (.const (.fn (.func 48) [] [])) [.tmp 100, .tmp 101, .tmp 104, .tmp 105], (some (99, true)), []⟩, 
  ⟨(some (107)), .not (.tmp 106), (some (99, true)), []⟩, 
  ⟨(some (108)), .pick (.tmp 99) (.tmp 107) (.const (.bool false)), none, []⟩, 
  ⟨(some (109)), .move (.tmp 108), none, []⟩, 
  ⟨(some (110)), .move (.tmp 8), (some (109, true)), []⟩, 
  ⟨(some (111)), .move (.tmp 9), (some (109, true)), []⟩, 
  ⟨(some (112)), .fieldAddr 1 (.tmp 11), (some (109, true)), []⟩, 
  ⟨(some (113)), .load none (.tmp 112), (some (109, true)), []⟩, 
  ⟨(some (114)), .bin .plain .add (.tmp 113) (.const (.int .i64 1)), (some (109, true)), []⟩, 
  ⟨(some (115)), .move (.tmp 10), (some (109, true)), []⟩, 
  ⟨(some (116)), .call (.const (.fn (.func 48) [] [])) [.tmp 110, .tmp 111, .tmp 114, .tmp 115], (some (109, true)), []⟩, 
  ⟨(some (117)), .not (.tmp 116), (some (109, true)), []⟩, 
  ⟨(some (118)), .pick (.tmp 109) (.tmp 117) (.const (.bool false)), none, []⟩, 
  ⟨(some (119)), .move (.tmp 118), none, []⟩, 
  ⟨(some (120)), .call (.const (.fn (.func 15) [] [])) [], (some (119, true)), []⟩, 
  ⟨(some (121)), .pick (.tmp 119) (.tmp 120) (.const (.bool false)), none, []⟩, 
  ⟨(some (6)), .move (.tmp 121), none, []⟩]
def k_law07_GaugeEnds : AFun := { params := 3, ntmps := 122, body := (.seq (.reg k_law07_GaugeEnds_r0 false) (.seq (.reg k_law07_GaugeEnds_r1 false) (.seq (.reg k_law07_GaugeEnds_r2 false) (.seq (.reg k_law07_GaugeEnds_r3 false) (.seq (.reg k_law07_GaugeEnds_r4 true) (.seq (.reg k_law07_GaugeEnds_r5 false) (.seq (.seq (.reg k_law07_GaugeEnds_r6 false) (.cond (.tmp 46) (.seq (.reg k_law07_GaugeEnds_r7 false) .ret) .skip)) (.seq (.seq (.reg k_law07_GaugeEnds_r8 false) (.cond (.tmp 66) (.seq (.reg k_law07_GaugeEnds_r9 false) .ret) .skip)) (.seq (.reg k_law07_GaugeEnds_r10 true) (.seq (.reg k_law07_GaugeEnds_r11 false) .ret)))))))))), res := [.tmp 6] }
theorem k_law07_GaugeEnds_ok : cfun Tryd.prog Tryd.f10 = k_law07_GaugeEnds := by kernel_rfl

def k_law07_shows_r0 : List AOper := [
  ⟨(some (8)), .move (.const (.bool false)), none, []⟩]
def k_law07_shows_r1 : List AOper := [
  ⟨(some (11)), .move (.tmp 0), none, []⟩, 
  ⟨(some (12)), .move (.tmp 1), none, []⟩, 
  ⟨(some (13)), .move (.tmp 2), none, []⟩, 
  ⟨(some (14)), .call (.const (.fn (.func 93) [] [])) [.tmp 11, .tmp 12, .tmp 13], none, []⟩, 
  ⟨(some (9)), .box (.const (.agg [.int .i64 0, .int .i64 0])), none, []⟩, 
  ⟨none, .store 2 (.tmp 9) (.tmp 14), none, []⟩]
def k_law07_shows_r2 : List AOper := [
  ⟨(some (15)), .move (.tmp 3), none, []⟩, 
  ⟨(some (16)), .fieldAddr 0 (.tmp 9), none, []⟩, 
  ⟨(some (17)), .load none (.tmp 16), none, []⟩, 
  ⟨(some (18)), .minmax true [.tmp 15, .tmp 17], none, []⟩, 
  ⟨(some (19)), .fieldAddr 1 (.tmp 9), none, []⟩, 
  ⟨(some (20)), .load none (.tmp 19), none, []⟩, 
  ⟨(some (21)), .minmax false [.tmp 18, .tmp 20], none, []⟩, 
  ⟨(some (10)), .move (.tmp 21), none, []⟩]
def k_law07_shows_r3 : List AOper := [
  ⟨(some (22)), .move (.tmp 3), none, []⟩, 
  ⟨(some (23)), .move (.tmp 10), none, []⟩, 
  ⟨(some (24)), .bin .plain .sub (.tmp 22) (.tmp 23), none, []⟩, 
  ⟨(some (25)), .move (.tmp 10), none, []⟩, 
  ⟨(some (26)), .move (.tmp 3), none, []⟩, 
  ⟨(some (27)), .bin .plain .sub (.tmp 25) (.tmp 26), none, []⟩, 
  ⟨(some (28)), .minmax true [.tmp 24, .tmp 27], none, []⟩, 
  ⟨(some (29)), .bin .plain .mul (.const (.int .i64 2)) (.tmp 28), none, []⟩, 
  ⟨(some (30)), .move (.tmp 0), none, []⟩, 
  ⟨(some (31)), .move (.tmp 1), none, []⟩, 
  ⟨(some (32)), .indexAddr 7 (.tmp 30) (.tmp 31), none, []⟩, 
  ⟨(some (33)), .fieldAddr 4 (.tmp 32), none, []⟩, 
  ⟨(some (34)), .load none (.tmp 33), none, []⟩, 
  ⟨(some (35)), .bin .plain .leq (.tmp 29) (.tmp 34), none, []⟩, 
  ⟨(some (8)), .move (.tmp 35), none, []⟩]
def k_law07_shows : AFun := { params := 4, ntmps := 36, body := (.seq (.reg k_law07_shows_r0 false) (.seq (.reg k_law07_shows_r1 false) (.seq (.reg k_law07_shows_r2 false) (.seq (.reg k_law07_shows_r3 false) .ret)))), res := [.tmp 8] }
theorem k_law07_shows_ok : cfun Tryd.prog Tryd.f48 = k_law07_shows := by kernel_rfl

def k_law07_seen_r0 : List AOper := [
  ⟨(some (6)), .box (.const (.agg [.int .i64 0, .int .i64 0])), none, []⟩]
def k_law07_seen_r1 : List AOper := [
  ⟨(some (10)), .move (.tmp 0), none, []⟩, 
  ⟨(some (11)), .move (.tmp 1), none, []⟩, 
  ⟨(some (12)), .call (.const (.fn (.func 27) [] [])) [.tmp 10, .tmp 11], none, []⟩, 
  ⟨(some (7)), .move (.tmp 12), none, []⟩]
def k_law07_seen_r2 : List AOper := [
  ⟨(some (13)), .move (.tmp 2), none, []⟩, 
  ⟨(some (14)), .move (.tmp 2), none, []⟩, 
  ⟨(some (15)), .call (.const (.fn (.func 50) [] [])) [.tmp 13, .tmp 14], none, []⟩, 
  ⟨(some (8)), .box (.const (.agg [.int .i64 0, .int .i64 0])), none, []⟩, 
  ⟨none, .store 2 (.tmp 8) (.tmp 15), none, []⟩]
def k_law07_seen_r3 : List AOper := [
  ⟨(some (16)), .move (.tmp 7), none, []⟩, 
  ⟨(some (17)), .len false (.tmp 16), none, []⟩, 
  ⟨(some (18)), .bin .plain .sub (.tmp 17) (.const (.int .i64 1)), none, []⟩, 
  ⟨(some (9)), .move (.tmp 18), none, []⟩]
def k_law07_seen_r4 : List AOper := [
  ⟨(some (19)), .move (.tmp 9), none, []⟩, 
  ⟨(some (20)), .bin .plain .geq (.tmp 19) (.const (.int .i64 0)), none, []⟩]
def k_law07_seen_r5 : List AOper := [
  ⟨(some (23)), .move (.tmp 0), none, []⟩, 
  ⟨(some (24)), .move (.tmp 7), none, [0]⟩, 
  ⟨(some (25)), .move (.tmp 9), none, [0, 1]⟩, 
  ⟨(some (26)), .indexAddr 1 (.tmp 24) (.tmp 25), none, [0]⟩, 
  ⟨(some (27)), .load none (.tmp 26), none, [0]⟩, 
  ⟨(some (28)), .indexAddr 7 (.tmp 23) (.tmp 27), none, []⟩, 
  ⟨(some (29)), .load (some (7)) (.tmp 28), none, []⟩, 
  ⟨(some (30)), .fieldAddr 0 (.tmp 8), none, [0, 1, 2, 3, 4, 5, 6]⟩, 
  ⟨(some (31)), .load none (.tmp 30), none, [0, 1, 2, 3, 4, 5, 6]⟩, 
  ⟨(some (32)), .call (.const (.fn (.func 65) [] [])) [.tmp 29, .tmp 31], none, []⟩, 
  ⟨(some (33)), .field none 0 (.tmp 32), none, []⟩, 
  ⟨(some (34)), .move (.tmp 0), none, [0, 1, 2, 3, 4, 5, 6, 7, 8, 9, 10]⟩, 
  ⟨(some (35)), .move (.tmp 7), none, [0, 1, 2, 3, 4, 5, 6, 7, 8, 9, 10, 11]⟩, 
  ⟨(some (36)), .move (.tmp 9), none, [0, 1, 2, 3, 4, 5, 6, 7, 8, 9, 10, 11, 12]⟩, 
  ⟨(some (37)), .indexAddr 1 (.tmp 35) (.tmp 36), none, [0, 1, 2, 3, 4, 5, 6, 7, 8, 9, 10, 11]⟩, 
  ⟨(some (38)), .load none (.tmp 37), none, [0, 1, 2, 3, 4, 5, 6, 7, 8, 9, 10, 11]⟩, 
  ⟨(some (39)), .indexAddr 7 (.tmp 34) (.tmp 38), none, [0, 1, 2, 3, 4, 5, 6, 7, 8, 9, 10]⟩, 
  ⟨(some (40)), .load (some (7)) (.tmp 39), none, [0, 1, 2, 3, 4, 5, 6, 7, 8, 9, 10]⟩, 
  ⟨(some (41)), .fieldAddr 1 (.tmp 8), none, [0, 1, 2, 3, 4, 5, 6, 7, 8, 9, 10, 11, 12, 13, 14, 15, 16, 17]⟩, 
  ⟨(some (42)), .load none (.tmp 41), none, [0, 1, 2, 3, 4, 5, 6, 7, 8, 9, 10, 11, 12, 13, 14, 15, 16, 17]⟩, 
  ⟨(some (43)), .call (.const (.fn (.func 65) [] [])) [.tmp 40, .tmp 42], none, [10]⟩, 
  ⟨(some (44)), .field none 1 (.tmp 43), none, [10]⟩, 
  ⟨(some (45)), .call (.const (.fn (.func 50) [] [])) [.tmp 33, .tmp 44], none, []⟩, 
  ⟨none, .store 2 (.tmp 8) (.tmp 45), none, []⟩]
def k_law07_seen_r5s : List (List AOper) := [
  [
  ⟨(some (23)), .move (.tmp 0), none, []⟩, 
  ⟨(some (24)), .move (.tmp 7), none, [0]⟩, 
  ⟨(some (25)), .move (.tmp 9), none, [0, 1]⟩, 
  ⟨(some (26)), .indexAddr 1 (.tmp 24) (.tmp 25), none, [0]⟩, 
  ⟨(some (27)), .load none (.tmp 26), none, [0]⟩, 
  ⟨(some (28)), .indexAddr 7 (.tmp 23) (.tmp 27), none, []⟩, 
  ⟨(some (29)), .load (some (7)) (.tmp 28), none, []⟩, 
  ⟨(some (30)), .fieldAddr 0 (.tmp 8), none, [0, 1, 2, 3, 4, 5, 6]⟩, 
  ⟨(some (31)), .load none (.tmp 30), none, [0, 1, 2, 3, 4, 5, 6]⟩, 
  ⟨(some (32)), .call (.const (.fn (.func 65) [] [])) [.tmp 29, .tmp 31], none, []⟩, 
  ⟨(some (33)), .field none 0 (.tmp 32), none, []⟩, 
  ⟨(some (34)), .move (.tmp 0), none, [0, 1, 2, 3, 4, 5, 6, 7, 8, 9, 10]⟩, 
  ⟨(some (35)), .move (.tmp 7), none, [0, 1, 2, 3, 4, 5, 6, 7, 8, 9, 10, 11]⟩, 
  ⟨(some (36)), .move (.tmp 9), none, [0, 1, 2, 3, 4, 5, 6, 7, 8, 9, 10, 11, 12]⟩, 
  ⟨(some (37)), .indexAddr 1 (.tmp 35) (.tmp 36), none, [0, 1, 2, 3, 4, 5, 6, 7, 8, 9, 10, 11]⟩, 
  ⟨(some (38)), .load none (.tmp 37), none, [0, 1, 2, 3, 4, 5, 6, 7, 8, 9, 10, 11]⟩, 
  ⟨(some (39)), .indexAddr 7 (.tmp 34) (.tmp 38), none, [0, 1, 2, 3, 4, 5, 6, 7, 8, 9, 10]⟩, 
  ⟨(some (40)), .load (some (7)) (.tmp 39), none, [0, 1, 2, 3, 4, 5, 6, 7, 8, 9, 10]⟩, 
  ⟨(some (41)), .fieldAddr 1 (.tmp 8), none, [0, 1, 2, 3, 4, 5, 6, 7, 8, 9, 10, 11, 12, 13, 14, 15, 16, 17]⟩, 
  ⟨(some (42)), .load none (.tmp 41), none, [0, 1, 2, 3, 4, 5, 6, 7, 8, 9, 10, 11, 12, 13, 14, 15, 16, 17]⟩, 
  ⟨(some (43)), .call (.const (.fn (.func 65) [] [])) [.tmp 40, .tmp 42], none, [10]⟩, 
  ⟨(some (44)), .field none 1 (.tmp 43), none, [10]⟩], 
  [
  ⟨(some (45)), .call (.const (.fn (.func 50) [] [])) [.tmp 33, .tmp 44], none, []⟩], 
  [
  ⟨none, .store 2 (.tmp 8) (.tmp 45), none, []⟩]]
theorem k_law07_seen_r5_sg : segs k_law07_seen_r5 = k_law07_seen_r5s := by kernel_rfl
theorem k_law07_seen_r5_st : statOK k_law07_seen_r5 = true := by kernel_rfl
def k_law07_seen_r6 : List AOper := [
  ⟨(some (21)), .move (.tmp 9), none, []⟩, 
  ⟨(some (22)), .bin .plain .sub (.tmp 21) (.const (.int .i64 1)), none, []⟩, 
  ⟨(some (9)), .move (.tmp 22), none, []⟩]
def k_law07_seen_r7 : ACode := (.seq (.seq (.reg k_law07_seen_r4 false) (.cond (.tmp 20) .skip (.exit 0))) (.seq (.block 1 (.reg k_law07_seen_r5 true)) (.reg k_law07_seen_r6 false)))
def k_law07_seen_r8 : List AOper := [
  ⟨(some (46)), .load (some (2)) (.tmp 8), none, []⟩, 
  ⟨none, .store 2 (.tmp 6) (.tmp 46), none, []⟩]
def k_law07_seen : AFun := { params := 3, ntmps := 47, body := (.seq (.reg k_law07_seen_r0 false) (.seq (.reg k_law07_seen_r1 false) (.seq (.reg k_law07_seen_r2 false) (.seq (.seq (.reg k_law07_seen_r3 false) (.block 0 (.loop k_law07_seen_r7))) (.seq (.reg k_law07_seen_r8 false) .ret))))), res := [.cell 6 (some ((some (2))))] }
theorem k_law07_seen_ok : cfun Tryd.prog Tryd.f93 = k_law07_seen := by kernel_rfl


abbrev n_law07_GaugeEnds : Nat := 10
theorem e_law07_GaugeEnds : EntryOK Tryd.prog n_law07_GaugeEnds k_law07_GaugeEnds := ⟨Tryd.f10, Tryd.func10, k_law07_GaugeEnds_ok, by kernel_rfl⟩
abbrev n_law07_shows : Nat := 48
theorem e_law07_shows : EntryOK Tryd.prog n_law07_shows k_law07_shows := ⟨Tryd.f48, Tryd.func48, k_law07_shows_ok, by kernel_rfl⟩
abbrev n_law07_seen : Nat := 93
theorem e_law07_seen : EntryOK Tryd.prog n_law07_seen k_law07_seen := ⟨Tryd.f93, Tryd.func93, k_law07_seen_ok, by kernel_rfl⟩

attribute [go_sem] k_law07_GaugeEnds_r0 k_law07_GaugeEnds_r1 k_law07_GaugeEnds_r2 k_law07_GaugeEnds_r3 k_law07_GaugeEnds_r4s k_law07_GaugeEnds_r5 k_law07_GaugeEnds_r6 k_law07_GaugeEnds_r7 k_law07_GaugeEnds_r8 k_law07_GaugeEnds_r9 k_law07_GaugeEnds_r10s k_law07_GaugeEnds_r11
attribute [go_sem] k_law07_shows_r0 k_law07_shows_r1 k_law07_shows_r2 k_law07_shows_r3 k_law07_seen_r0 k_law07_seen_r1 k_law07_seen_r2 k_law07_seen_r3 k_law07_seen_r4 k_law07_seen_r5s k_law07_seen_r6 k_law07_seen_r8
attribute [go_sem] k_law07_GaugeEnds_r4_sg k_law07_GaugeEnds_r10_sg k_law07_seen_r5_sg k_law07_GaugeEnds_r4_st k_law07_GaugeEnds_r10_st k_law07_seen_r5_st k_law07_GaugeEnds k_law07_shows k_law07_seen
end Go.Proofs

namespace Go.Gauge

def bdB (B : Int) : Nat → Int
  | 0 => B
  | n + 1 => 2 * bdB B n + 1000000
theorem Rd.bdB {bs : List Mt} {B : Int} : ∀ {l : List Int} {x v : Int}, (∀ m ∈ l, MtOK (mt bs m)) → -B ≤ x ∧ x ≤ B → Rd bs l x v → -bdB B l.length ≤ v ∧ v ≤ bdB B l.length
  | [], x, v, _, hx, h => by cases h; exact hx
  | m :: ms, x, v, hm, hx, ⟨u, h1, h2, h3⟩ => by
    have := Rd.bdB (fun k hk => hm k (List.mem_cons_of_mem _ hk)) hx h1
    have h4 := mk_bd (hm m List.mem_cons_self) this
    simp only [List.length_cons, Gauge.bdB]; omega
theorem bdB_mono {B : Int} (hB : 0 ≤ B) {a b : Nat} (h : a ≤ b) : Gauge.bdB B a ≤ Gauge.bdB B b := by
  have h1 : ∀ n, 0 ≤ Gauge.bdB B n := fun n => by induction n with | zero => exact hB | succ n ih => unfold Gauge.bdB; omega
  induction h with
  | refl => exact Int.le_refl _
  | step _ ih =>
    rename_i m _
    have := h1 m
    have e : Gauge.bdB B m.succ = 2 * Gauge.bdB B m + 1000000 := rfl
    omega

theorem mkHi_low {m : Mt} (h : MtOK m) {x : Int} (hx : x < 0) : mkHi m x ≤ -(-(x * 500000) / 1000000) + 1000000 := by
  have e : pl m.glo m.ghi x = x * m.glo := by unfold pl; rw [if_pos hx]
  have h1 : x * m.glo ≤ x * 500000 := Int.mul_le_mul_of_nonpos_left (by omega) h.g.1
  have h2 := h.o
  unfold mkHi
  rw [e]
  omega
theorem mkLo_high {m : Mt} (h : MtOK m) {x : Int} (hx : 0 ≤ x) : x * 500000 / 1000000 - 1000000 ≤ mkLo m x := by
  have e : pl m.ghi m.glo x = x * m.glo := by unfold pl; rw [if_neg (by omega)]
  have h1 : x * 500000 ≤ x * m.glo := Int.mul_le_mul_of_nonneg_left h.g.1 hx
  have h2 := h.o
  unfold mkLo
  rw [e]
  omega
theorem sHi_mono {bs : List Mt} : ∀ {l : List Int} {x y : Int}, (∀ m ∈ l, MtOK (mt bs m)) → x ≤ y → sHi bs l x ≤ sHi bs l y
  | [], x, y, _, h => h
  | m :: ms, x, y, hm, h => mkHi_mono (hm m List.mem_cons_self) (sHi_mono (fun k hk => hm k (List.mem_cons_of_mem _ hk)) h)
theorem sLo_mono {bs : List Mt} : ∀ {l : List Int} {x y : Int}, (∀ m ∈ l, MtOK (mt bs m)) → x ≤ y → sLo bs l x ≤ sLo bs l y
  | [], x, y, _, h => h
  | m :: ms, x, y, hm, h => mkLo_mono (hm m List.mem_cons_self) (sLo_mono (fun k hk => hm k (List.mem_cons_of_mem _ hk)) h)
theorem sHi_far {bs : List Mt} {l : List Int} (hm : ∀ m ∈ l, MtOK (mt bs m)) (hl : l.length ≤ 2) {x : Int} (hx : x ≤ -500000000) : sHi bs l x ≤ -100000000 := by
  refine Int.le_trans (sHi_mono hm hx) ?_
  match l, hl, hm with
  | [], _, _ => exact (by decide : (-500000000 : Int) ≤ -100000000)
  | [a], _, hm =>
    have h1 := mkHi_low (hm a (by simp)) (x := -500000000) (by decide)
    simp only [sHi]; omega
  | [a, b], _, hm =>
    have h1 := mkHi_low (hm b (by simp)) (x := -500000000) (by decide)
    have h2 := mkHi_mono (hm a (by simp)) (show mkHi (mt bs b) (-500000000) ≤ -249000000 by omega)
    have h3 := mkHi_low (hm a (by simp)) (x := -249000000) (by decide)
    simp only [sHi]; omega
  | _ :: _ :: _ :: _, h, _ => simp at h
theorem sLo_far {bs : List Mt} {l : List Int} (hm : ∀ m ∈ l, MtOK (mt bs m)) (hl : l.length ≤ 2) {x : Int} (hx : 500000000 ≤ x) : 100000000 ≤ sLo bs l x := by
  refine Int.le_trans ?_ (sLo_mono hm hx)
  match l, hl, hm with
  | [], _, _ => exact (by decide : (100000000 : Int) ≤ 500000000)
  | [a], _, hm =>
    have h1 := mkLo_high (hm a (by simp)) (x := 500000000) (by decide)
    simp only [sLo]; omega
  | [a, b], _, hm =>
    have h1 := mkLo_high (hm b (by simp)) (x := 500000000) (by decide)
    have h2 := mkLo_mono (hm a (by simp)) (show 249000000 ≤ mkLo (mt bs b) 500000000 by omega)
    have h3 := mkLo_high (hm a (by simp)) (x := 249000000) (by decide)
    simp only [sLo]; omega
  | _ :: _ :: _ :: _, h, _ => simp at h

theorem tru_ends {bs : List Mt} (h : VB bs) (h2 : bs.length ≤ 2) {m n a b : Int} (h0 : 0 ≤ m) (h1 : m < bs.length) (hn : -50000000 ≤ n ∧ n ≤ 50000000) (e : tru bs m n = some (a, b)) :
    a ≤ b ∧ -500000000 ≤ a ∧ b ≤ 500000000 ∧ ∀ x, -1000000000 ≤ x ∧ x ≤ 1000000000 → ((a ≤ x ∧ x ≤ b) ↔ (n - (mt bs m).step / 2 ≤ sHi bs (ch bs m) x ∧ sLo bs (ch bs m) x ≤ n + (mt bs m).step / 2)) := by
  have hs := (h.all _ (mt_mem h0 h1)).s
  have hl := ch_len h (show -1 ≤ m by omega) h1
  have hm : ∀ k ∈ ch bs m, MtOK (mt bs k) := fun k hk => h.all _ (by have := ch_mem h _ m rfl (by omega) h1 k hk; exact mt_mem this.1 this.2)
  unfold tru at e
  split at e
  · cases e
  · rename_i c d hc
    split at e
    · cases e
    · rename_i hne
      cases e
      have key := fun x hx => tfr_seen (x := x) hm (by omega) hx hc
      have ha := (key (max c (-1000000000)) (by omega)).1 (by omega)
      have hb := (key (min d 1000000000) (by omega)).1 (by omega)
      have a1 : -500000000 ≤ max c (-1000000000) := by
        rcases Int.lt_or_le (max c (-1000000000)) (-500000000) with g | g
        · have := sHi_far hm (by omega) (Int.le_of_lt g)
          omega
        · exact g
      have b1 : min d 1000000000 ≤ 500000000 := by
        rcases Int.lt_or_le 500000000 (min d 1000000000) with g | g
        · have := sLo_far hm (by omega) (Int.le_of_lt g)
          omega
        · exact g
      refine ⟨by omega, a1, b1, fun x hx => ?_⟩
      rw [← key x hx]
      omega
end Go.Gauge

namespace Go.Proofs
open Go Go.Sx Go.Gauge
attribute [local irreducible] Run

set_option maxHeartbeats 8000000 in
set_option maxRecDepth 10000 in
theorem seen_run {bs : List Mt} (h : VB bs) {m x : Int} (h0 : 0 ≤ m) (h1 : m < bs.length) (hx : -1000000000 ≤ x ∧ x ≤ 1000000000) :
    Ans Tryd.prog n_law07_seen [.view (bs.map Mv), .int .i64 m, .int .i64 x] [] (r2 (sLo bs (ch bs m) x) (sHi bs (ch bs m) x)) [] := by
  have hlen := h.len
  have hcl := ch_len h (show -1 ≤ m by omega) h1
  have hmem := ch_mem h _ m rfl (by omega) h1
  have hall : ∀ k ∈ ch bs m, MtOK (mt bs k) := fun k hk => h.all _ (mt_mem (hmem k hk).1 (hmem k hk).2)
  have kc := rChain_run h h0 h1
  obtain ⟨l, hl⟩ : ∃ l, ch bs m = l := ⟨_, rfl⟩
  rw [hl] at hcl hmem hall kc ⊢
  have w1 : IntKind.i64.wrap ((l.length : Int) - 1) = (l.length : Int) - 1 := w64 (by omega)
  refine spec_run e_law07_seen fun G => ?_
  simp only [go_sem]
  refine cN1 kc ?_
  simp only [go_sem, ren, rens]
  refine cP (span_run x x) ?_
  simp only [go_sem, w1]
  refine loop_ind k_law07_seen_r7.eq_1 (fun k : Nat => k ≤ l.length) (fun k => k)
    (fun k => (tsets 47 [(0, .view (bs.map Mv)), (6, .ptr 0 0 0 1), (7, .sl 1 0 l.length), (8, .ptr 2 0 0 1), (9, .int .i64 ((k : Int) - 1))],
      [some (.cells false 2 [.agg [.int .i64 0, .int .i64 0]]), some (.cells true 1 (l.map (.int .i64))), some (.cells false 2 [.agg [.int .i64 (sLo bs (l.drop k) x), .int .i64 (sHi bs (l.drop k) x)]])])) l.length (Nat.le_refl _) (by simp [go_sem]) (by simp [sLo, sHi]) ?_
  intro k hk ih
  dsimp only at hk ih ⊢
  have hbd := s_bd (l := l.drop k) (x := x) (fun j hj => hall j (List.mem_of_mem_drop hj)) hx
  have hb2 := bnd_rch (n := (l.drop k).length) (by rw [List.length_drop]; omega)
  rcases k with _ | k
  · have c1 : ¬ (0 : Int) ≤ ((0 : Nat) : Int) - 1 := by omega
    rw [List.drop_zero] at *
    simp only [go_sem, c1, r2]
  · have hk' : k < l.length := by omega
    have ei : ((k + 1 : Nat) : Int) - 1 = k := by omega
    have c1 : (0 : Int) ≤ (k : Int) := by omega
    have nk : ¬ (k : Int) < 0 := by omega
    obtain ⟨mk, hmk⟩ : ∃ mk, l[k]? = some mk := ⟨_, List.getElem?_eq_getElem hk'⟩
    have hml := List.mem_of_getElem? hmk
    obtain ⟨m1, m2⟩ := hmem mk hml
    have nmk : ¬ mk < 0 := by omega
    have hxk := mt_get m1 m2
    have hdr : l.drop k = mk :: l.drop (k + 1) := by
      rw [List.drop_eq_getElem_cons hk']
      have := List.getElem?_eq_getElem hk'
      rw [hmk] at this; cases this; rfl
    rw [ei]
    have ihk := ih k (by omega) (by omega)
    rw [hdr] at ihk
    simp only [sLo, sHi] at ihk
    clear ih
    obtain ⟨u, hu⟩ : ∃ u, sLo bs (l.drop (k + 1)) x = u := ⟨_, rfl⟩
    obtain ⟨v, hv⟩ : ∃ v, sHi bs (l.drop (k + 1)) x = v := ⟨_, rfl⟩
    rw [hu, hv] at hbd ihk ⊢
    have km := Made_run (hall mk hml) (x := u) (by simp only [rch]; omega)
    have kn := Made_run (hall mk hml) (x := v) (by simp only [rch]; omega)
    have w5 : IntKind.i64.wrap ((k : Int) - 1) = (k : Int) - 1 := w64 (by omega)
    simp only [Mv, Mc, r2] at km kn
    have hkl : (k : Int) < l.length := by omega
    simp only [go_sem, c1, nk, hmk, nmk, hxk, m2, hkl, Mv, Mc, List.length_map]
    refine dP km ?_
    simp only [go_sem, c1, nk, hmk, nmk, hxk, m2, hkl, Mv, Mc, List.length_map]
    refine dP kn ?_
    simp only [go_sem]
    refine cP (span_run (mkLo (mt bs mk) u) (mkHi (mt bs mk) v)) ?_
    simp only [go_sem, w5]
    exact ihk _ (by simp [go_sem])

theorem shows_run {bs : List Mt} (h : VB bs) {m x n : Int} (h0 : 0 ≤ m) (h1 : m < bs.length) (hx : -1000000000 ≤ x ∧ x ≤ 1000000000) (hn : -1000000000 ≤ n ∧ n ≤ 1000000000) :
    Ans Tryd.prog n_law07_shows [.view (bs.map Mv), .int .i64 m, .int .i64 x, .int .i64 n] [] (.bool (decide (n - (mt bs m).step / 2 ≤ sHi bs (ch bs m) x ∧ sLo bs (ch bs m) x ≤ n + (mt bs m).step / 2))) [] := by
  have hlen := h.len
  have hcl := ch_len h (show -1 ≤ m by omega) h1
  have hmem := ch_mem h _ m rfl (by omega) h1
  have hall : ∀ k ∈ ch bs m, MtOK (mt bs k) := fun k hk => h.all _ (mt_mem (hmem k hk).1 (hmem k hk).2)
  have hbd := s_bd hall hx
  have hb2 := bnd_rch (n := (ch bs m).length) (by omega)
  have hs := (h.all _ (mt_mem h0 h1)).s
  have hxm := mt_get h0 h1
  have n0 : ¬ m < 0 := by omega
  have ks := seen_run h h0 h1 hx
  obtain ⟨u, hu⟩ : ∃ u, sLo bs (ch bs m) x = u := ⟨_, rfl⟩
  obtain ⟨v, hv⟩ : ∃ v, sHi bs (ch bs m) x = v := ⟨_, rfl⟩
  rw [hu, hv] at hbd ks ⊢
  obtain ⟨s, hs'⟩ : ∃ s, (mt bs m).step = s := ⟨_, rfl⟩
  rw [hs'] at hs ⊢
  simp only [r2] at ks
  obtain ⟨p, hp⟩ : ∃ p, (if n < u then u else n) = p := ⟨_, rfl⟩
  obtain ⟨q, hq⟩ : ∃ q, (if v < p then v else p) = q := ⟨_, rfl⟩
  have hp' : p = max n u := by rw [← hp]; split <;> omega
  have hq' : q = min p v := by rw [← hq]; split <;> omega
  have w1 : IntKind.i64.wrap (n - q) = n - q := w64 (by omega)
  have w2 : IntKind.i64.wrap (q - n) = q - n := w64 (by omega)
  obtain ⟨d, hd⟩ : ∃ d, (if n - q < q - n then q - n else n - q) = d := ⟨_, rfl⟩
  have hd' : d = max (n - q) (q - n) := by rw [← hd]; split <;> omega
  have w3 : IntKind.i64.wrap (2 * d) = 2 * d := w64 (by omega)
  have e : decide (n - s / 2 ≤ v ∧ u ≤ n + s / 2) = decide (2 * d ≤ s) := decide_eq_decide.2 (by omega)
  rw [e]
  refine spec_run e_law07_shows fun G => ?_
  simp only [go_sem]
  refine cP ks ?_
  simp only [go_sem, hp, hq, w1, w2, hd, w3, n0, hxm, h1, Mv, Mc, List.length_map, hs']
end Go.Proofs

namespace Go.Proofs
open Go Go.Sx Go.Gauge
attribute [local irreducible] Run

theorem showR_bd {bs : List Mt} (h : VB bs) {m x w B : Int} (h0 : 0 ≤ m) (h1 : m < bs.length) (hx : -B ≤ x ∧ x ≤ B) :
    -(bdB B bs.length + (mt bs m).step) ≤ (showR bs m x w).1 ∧ (showR bs m x w).1 ≤ bdB B bs.length + (mt bs m).step := by
  have hs := (h.all _ (mt_mem h0 h1)).s
  have hm := ch_mem h _ m rfl (by omega) h1
  have hl := ch_len h (show -1 ≤ m by omega) h1
  have hr : Rd bs (ch bs m) x (shw bs (upto w 3) (ch bs m) x (dstep w)).1 := shw_rd fun k hk => h.all _ (mt_mem (hm k hk).1 (hm k hk).2)
  have hb := hr.bdB (fun k hk => h.all _ (mt_mem (hm k hk).1 (hm k hk).2)) hx
  have hmo := bdB_mono (B := B) (by omega) hl
  have hn := shN_near (mt bs m) (shw bs (upto w 3) (ch bs m) x (dstep w)).1 (shw bs (upto w 3) (ch bs m) x (dstep w)).2 hs.1
  unfold showR
  omega
theorem bk2 (w : Int) : AnsE Tryd.prog n_kit_BenchOf [.ptr 0 0 0 1, .int .i64 2] [some (Dr w)] (fun a : List Mt × Int => BkOK a.1 ∧ 1 ≤ a.1.length ∧ a.1.length ≤ 2) (fun a => .sl 1 0 a.1.length) (fun a => [some (Dr a.2), some (.cells true 7 (a.1.map Mv))]) := benchOf_run w (N := 2) (by decide)

set_option maxHeartbeats 8000000 in
set_option maxRecDepth 10000 in
theorem ends_law (zs : List Int) (hl : zs.length ≤ 9223372036854775807) (a1 a2 : Int) : Ans Tryd.prog n_law07_GaugeEnds [.view (zs.map (.int .i64)), .int .i64 a1, .int .i64 a2] [] (.bool true) [] := by
  have m1 := mod_in a1 200001 (by omega)
  have e1 := mod_pos a1 200001 (by omega)
  obtain ⟨s, hs⟩ : ∃ s, a1 % 200001 = s := ⟨_, rfl⟩
  rw [hs] at m1 e1
  refine spec_run e_law07_GaugeEnds fun G => ?_
  simp only [go_sem]
  refine callN1 (newdice_ok zs hl) (by simp only [go_sem]) (dr_bel _ _) (by simp) (by simp) ?_
  generalize seedW zs = w
  simp only [go_sem]
  refine callDN (bk2 w) rfl (by simp only [go_sem]) (dr_bel _ _) (fun a ha => ⟨by simp [go_sem], dr_bel _ _, bk_bel _ _ _⟩) (by simp) (by simp) ?_
  rintro ⟨bs, w2⟩ ⟨hb, hb1, hb2⟩
  dsimp only at hb hb1 hb2 ⊢
  have hv := hb.vb (by omega)
  have u1 := upto_in (w := w2) (n := bs.length) (by omega)
  simp only [go_sem, ren, rens]
  refine cD (upto_ok w2 bs.length (by omega)) ?_
  obtain ⟨m, hm⟩ : ∃ m, upto w2 bs.length = m := ⟨_, rfl⟩
  rw [hm] at u1 ⊢
  have hxm := mt_get u1.1 u1.2
  have hst := (hb.all _ (mt_mem u1.1 u1.2)).2
  have hst1 := (hb.all _ (mt_mem u1.1 u1.2)).1.s
  have n0 : ¬ m < 0 := by omega
  obtain ⟨x, hx⟩ : ∃ x, s - 100000 = x := ⟨_, rfl⟩
  have hxb : -100000 ≤ x ∧ x ≤ 100000 := by omega
  have w2' : IntKind.i64.wrap x = x := w64 (by omega)
  simp only [go_sem]
  refine dP e1 ?_
  simp only [go_sem, hx, w2']
  have sh := Showing_run hv u1.1 u1.2 (x := x) (by omega) (dstep w2) true
  have sb := showR_bd hv u1.1 u1.2 (x := x) (w := dstep w2) (B := 100000) hxb
  have smul := (showR_ok hv u1.1 u1.2 (x := x) (w := dstep w2) (by omega)).1
  obtain ⟨p, hp⟩ : ∃ p, showR bs m x (dstep w2) = p := ⟨_, rfl⟩
  rw [hp] at sh sb smul
  have sb2 : bdB 100000 bs.length ≤ 3400000 := Int.le_trans (bdB_mono (by decide) hb2) (by decide)
  refine dR2 sh (j0 := 0) (j1 := 1) rfl (by simp [go_sem]) rfl rfl (dr_bel _ _) (bk_bel _ _ _) (by decide) (.int _ _) (dr_bel _ _) (by simp) (by simp [go_sem]) ?_
  simp only [go_sem, n0, hxm, u1.2, Mv, Mc, List.length_map]
  have b2 := btw_in (w := p.2) (lo := -2) (hi := 2) (by decide)
  refine dD (between_ok _ (-2) 2 (by decide) (by decide) (by decide)) ?_
  obtain ⟨b, hb'⟩ : ∃ b, btw p.2 (-2) 2 = b := ⟨_, rfl⟩
  rw [hb'] at b2 ⊢
  have pb : -2000 ≤ (mt bs m).step * b ∧ (mt bs m).step * b ≤ 2000 := by
    have g1 := Int.mul_le_mul_of_nonneg_left b2.1 (show 0 ≤ (mt bs m).step by omega)
    have g2 := Int.mul_le_mul_of_nonneg_left b2.2 (show 0 ≤ (mt bs m).step by omega)
    omega
  have w3 : IntKind.i64.wrap ((mt bs m).step * b) = (mt bs m).step * b := w64 (by omega)
  have w4 : IntKind.i64.wrap (p.1 + (mt bs m).step * b) = p.1 + (mt bs m).step * b := w64 (by omega)
  have nmul : (p.1 + (mt bs m).step * b) % (mt bs m).step = 0 := by rw [Int.add_mul_emod_self_left]; exact smul
  simp only [go_sem, w3]
  simp only [w4]
  obtain ⟨n, hn⟩ : ∃ n, p.1 + (mt bs m).step * b = n := ⟨_, rfl⟩
  have nb : -50000000 ≤ n ∧ n ≤ 50000000 := by omega
  rw [hn] at nmul ⊢
  clear w3 w4 hn pb
  have kt := True_run hv u1.1 u1.2 (n := n) (by omega) nmul
  rcases htr : tru bs m n with _ | ⟨a, b⟩
  · rw [htr] at kt
    simp only [truV] at kt
    refine cF kt 6 ⟨.inl (bs_frz (g := true) rfl rfl), .inl rfl, .inl rfl, trivial⟩ ?_
    simp only [go_sem]
    refine cP awake_ok ?_
    simp only [go_sem]
  · rw [htr] at kt
    simp only [truV] at kt
    obtain ⟨f1, f2, f3, f4⟩ := tru_ends hv hb2 u1.1 u1.2 nb htr
    refine cF kt 6 ⟨.inl (bs_frz (g := true) rfl rfl), .inl rfl, .inl rfl, trivial⟩ ?_
    have c1 : ¬ b < a := by omega
    have c2 : ¬ a < -500000000 := by omega
    have c3 : ¬ 500000000 < b := by omega
    have e3 := mod_pos a2 (b - a + 1) (by omega)
    have m3 := mod_in a2 (b - a + 1) (by omega)
    obtain ⟨t, ht⟩ : ∃ t, a2 % (b - a + 1) = t := ⟨_, rfl⟩
    rw [ht] at e3 m3
    have w5 : IntKind.i64.wrap (b - a) = b - a := w64 (by omega)
    have w6 : IntKind.i64.wrap (b - a + 1) = b - a + 1 := w64 (by omega)
    have w7 : IntKind.i64.wrap (a + t) = a + t := w64 (by omega)
    have w8 : IntKind.i64.wrap (a - 1) = a - 1 := w64 (by omega)
    have w9 : IntKind.i64.wrap (b + 1) = b + 1 := w64 (by omega)
    have s1 := shows_run hv u1.1 u1.2 (x := a) (n := n) (by omega) (by omega)
    have s2 := shows_run hv u1.1 u1.2 (x := b) (n := n) (by omega) (by omega)
    have s3 := shows_run hv u1.1 u1.2 (x := a + t) (n := n) (by omega) (by omega)
    have s4 := shows_run hv u1.1 u1.2 (x := a - 1) (n := n) (by omega) (by omega)
    have s5 := shows_run hv u1.1 u1.2 (x := b + 1) (n := n) (by omega) (by omega)
    rw [decide_eq_true ((f4 a (by omega)).1 (by omega))] at s1
    rw [decide_eq_true ((f4 b (by omega)).1 (by omega))] at s2
    rw [decide_eq_true ((f4 (a + t) (by omega)).1 (by omega))] at s3
    rw [decide_eq_false fun h => by have := (f4 (a - 1) (by omega)).2 h; omega] at s4
    rw [decide_eq_false fun h => by have := (f4 (b + 1) (by omega)).2 h; omega] at s5
    simp only [go_sem, c1, c2, c3, w5, w6]
    refine dP e3 ?_
    simp only [go_sem, w7]
    refine cF s1 6 ⟨.inl (bs_frz (g := true) rfl rfl), .inl rfl, .inl rfl, .inl rfl, trivial⟩ ?_
    simp only [go_sem]
    refine cF s2 6 ⟨.inl (bs_frz (g := true) rfl rfl), .inl rfl, .inl rfl, .inl rfl, trivial⟩ ?_
    simp only [go_sem]
    refine cF s3 6 ⟨.inl (bs_frz (g := true) rfl rfl), .inl rfl, .inl rfl, .inl rfl, trivial⟩ ?_
    simp only [go_sem, w8]
    refine cF s4 6 ⟨.inl (bs_frz (g := true) rfl rfl), .inl rfl, .inl rfl, .inl rfl, trivial⟩ ?_
    simp only [go_sem, w9]
    refine cF s5 6 ⟨.inl (bs_frz (g := true) rfl rfl), .inl rfl, .inl rfl, .inl rfl, trivial⟩ ?_
    simp only [go_sem]
    refine cP awake_ok ?_
    simp only [go_sem]
end Go.Proofs

namespace Go.Proofs
open Go Go.ChangeShapes Go.WideShapes Go.ChangeAt Go.RowKit

def laid1 : List (String × DataW Unit) := [("thermion/gauge.values", .agg [.lit (.int .i64 (-1000000000)), .lit (.int .i64 1000000000)])]
theorem gVal : Tryd.prog.globalNamed "thermion/gauge.values" = some 0 := by kernel_rfl
theorem tVal : (Tryd.prog.globals[0]?).map (·.type) = some 24 := by kernel_rfl
theorem nVal : Tryd.prog.globals.size = 1 := by kernel_rfl
theorem eVal : Go.Sx.gvOf Tryd.prog 0 = some (.agg [.int .i64 (-1000000000), .int .i64 1000000000]) := by kernel_rfl

set_option maxRecDepth 100000 in
theorem values_met {W : World} (h : laidMetH Tryd.prog laid1 W) : W.cell? ⟨0, 0, none⟩ = some (.int .i64 (-1000000000)) ∧ W.cell? ⟨0, 1, none⟩ = some (.int .i64 1000000000) := by
  rw [MakeChecks.laidMetH_plain _ _ _ (by kernel_rfl)] at h
  obtain ⟨ps, ⟨g0, t0, cs0, f0, p0, q0, hg0, ht0, hv0, hd0, _⟩, _, _⟩ := h
  obtain rfl := Option.some.inj (gVal.symm.trans hg0)
  obtain rfl := Option.some.inj (tVal.symm.trans ht0)
  obtain ⟨y0, y1, n, hx, hl, hy0, hy1⟩ := trod_struct2 Tryd.underlying24 hd0
  simp only [Prod.mk.injEq, DataW.agg.injEq, List.cons.injEq, and_true] at hx
  obtain ⟨⟨e0, e1⟩, _⟩ := hx
  have c24 : Tryd.prog.cellsOf 24 = 2 := by kernel_rfl
  have c3 : Tryd.prog.cellsOf 3 = 1 := by kernel_rfl
  rw [c24] at hl
  obtain ⟨l⟩ := cs0
  match l, hl with
  | [u, v], _ =>
    obtain ⟨k0, z0, z1, _⟩ := DataW.trod_int Tryd.underlying3 hy0
    obtain ⟨k1, z2, z3, _⟩ := DataW.trod_int Tryd.underlying3 hy1
    rw [z1] at e0
    rw [z3] at e1
    simp only [DataW.lit.injEq, Lit.int.injEq, true_and] at e0 e1
    simp [c3] at z0 z2
    subst z0 z2 e0 e1
    exact ⟨World.var?_cell hg0 hv0 0, World.var?_cell hg0 hv0 1⟩

theorem values_glob {W : World} (h : laidMetH Tryd.prog laid1 W) : Go.Sx.GlobOK Tryd.prog (Go.Sx.topG W) := by
  obtain ⟨h0, h1⟩ := values_met h
  have hb : 0 < W.heap.size := by
    simp only [World.cell?] at h0
    split at h0
    · rename_i c _ _ hh
      exact (Array.getElem?_eq_some_iff.1 hh).1
    · cases h0
  intro g e he
  match g, he with
  | 0, he =>
    rw [eVal] at he
    cases he
    refine ⟨hb, fun j hj => ?_⟩
    match j, hj with
    | 0, _ => exact ⟨_, h0, fun μ => .int _ _⟩
    | 1, _ => exact ⟨_, h1, fun μ => .int _ _⟩
    | j + 2, hj => simp [Go.Sx.acells] at hj; omega
  | g + 1, he =>
    have hg : Tryd.prog.globals[g + 1]? = none := Array.getElem?_eq_none (by rw [nVal]; omega)
    unfold Go.Sx.gvOf at he
    rw [hg] at he; cases he
end Go.Proofs

