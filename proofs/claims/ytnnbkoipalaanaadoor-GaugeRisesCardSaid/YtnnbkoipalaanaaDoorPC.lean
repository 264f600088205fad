/- A part of the proof. -/
import Derived.Test.YtnnbkoipalaanaaDoorPB
import Derived.ProofKit
import Derived.LaidMore
set_option linter.unusedSimpArgs false
set_option linter.unusedVariables false
namespace Go.Proofs
open Go Go.Sx Go.Gauge
attribute [local irreducible] Run

theorem sel3i (i a b c : Int) (hi : 0 ≤ i ∧ i < 3) : ∃ v, (v = a ∨ v = b ∨ v = c) ∧ [AVal.int .i64 a, .int .i64 b, .int .i64 c][i.toNat]? = some (.int .i64 v) := by
  obtain rfl | rfl | rfl : i = 0 ∨ i = 1 ∨ i = 2 := by omega
  · exact ⟨a, .inl rfl, rfl⟩
  · exact ⟨b, .inr (.inl rfl), rfl⟩
  · exact ⟨c, .inr (.inr rfl), rfl⟩
structure BkOK (bs : List Mt) : Prop where
  all : ∀ x ∈ bs, MtOK x ∧ x.step ≤ 1000
  cmp : ∀ (i : Nat) (x : Mt), bs[i]? = some x → -1 ≤ x.cmp ∧ x.cmp < i
theorem BkOK.vb {bs : List Mt} (h : BkOK bs) (hl : bs.length ≤ 12) : VB bs := VB.made hl (fun x hx => (h.all x hx).1) h.cmp
theorem BkOK.snoc {bs : List Mt} (h : BkOK bs) {y : Mt} (hy : MtOK y ∧ y.step ≤ 1000) (hc : -1 ≤ y.cmp ∧ y.cmp < bs.length) : BkOK (bs ++ [y]) := by
  refine ⟨fun x hx => ?_, fun i x hx => ?_⟩
  · rcases List.mem_append.1 hx with h1 | h1
    · exact h.all x h1
    · simp at h1; subst h1; exact hy
  · by_cases hi : i < bs.length
    · rw [List.getElem?_append_left hi] at hx; exact h.cmp i x hx
    · rw [List.getElem?_append_right (by omega)] at hx
      have : i - bs.length = 0 := by have := (List.getElem?_eq_some_iff.1 hx).1; simp at this; omega
      rw [this] at hx
      simp at hx; subst hx
      exact ⟨hc.1, by omega⟩

set_option maxHeartbeats 8000000 in
set_option maxRecDepth 10000 in
theorem bench_loop {G : Ctx} {N : Nat} (hN : N ≤ 12) {R : AVal → Heap → Prop}
    (hR : ∀ (bs : List Mt) (w' : Int) (q : Nat) (X : Heap), BkOK bs → 1 ≤ bs.length → bs.length ≤ N → X[q]? = some (some (.cells true 7 (bs.map Mv))) → R (.sl (q + 1) 0 bs.length) (some (Dr w') :: X))
    {bs : List Mt} {w i : Int} {q : Nat} {X : Heap} (hz : BkOK bs) (hl : 1 ≤ bs.length ∧ (bs.length : Int) + i ≤ N) (hi : 0 ≤ i) (hX : X[q]? = some (some (.cells true 7 (bs.map Mv)))) :
    Sx.Loop Tryd.prog G 1 none k_kit_BenchOf_r8 [.blk 0, .seq (.seq (.reg k_kit_BenchOf_r9 false) .ret)]
      ⟨tsets 70 [(0, .ptr 0 0 0 1), (5, .sl (q + 1) 0 bs.length), (6, .int .i64 i)], some (Dr w) :: X, []⟩ (RetPost [.tmp 4] R) := by
  refine loop_ind k_kit_BenchOf_r8.eq_1 (fun a : List Mt × Int × Int × Heap => BkOK a.1 ∧ (1 ≤ a.1.length ∧ (a.1.length : Int) + a.2.2.1 ≤ N) ∧ 0 ≤ a.2.2.1 ∧ a.2.2.2[q]? = some (some (.cells true 7 (a.1.map Mv)))) (fun a => a.2.2.1.toNat)
    (fun a => (tsets 70 [(0, .ptr 0 0 0 1), (5, .sl (q + 1) 0 a.1.length), (6, .int .i64 a.2.2.1)], some (Dr a.2.1) :: a.2.2.2))
    (bs, w, i, X) ⟨hz, hl, hi, hX⟩ (by simp [go_sem]) rfl ?_
  clear hz hl hi hX
  clear bs w i X
  rintro ⟨bs, w, i, X⟩ ⟨hz, hl, hi, hX⟩ ih
  dsimp only at hz hl hi hX ih ⊢
  by_cases c1 : 0 < i
  · have hlt : q < X.length := (List.getElem?_eq_some_iff.1 hX).1
    have cX := fun Y => cells_more (cells_at hX) Y
    have pX := fun Y x => put_more (H := X) hlt Y x
    have hq : (bs.length + 1) * 56 ≤ 2 ^ 44 := by omega
    obtain ⟨g, hg, sg⟩ := sel3i (upto (dstep (dstep w)) 3) 1000000 (btw w 900000 1100000) (btw (dstep w) 500000 2000000) (upto_in (by decide))
    have b0 := btw_in (w := w) (lo := 900000) (hi := 1100000) (by decide)
    have b1 := btw_in (w := (dstep w)) (lo := 500000) (hi := 2000000) (by decide)
    have hg' : 500000 ≤ g ∧ g ≤ 2000000 := by omega
    obtain ⟨x, hx, sx⟩ := sel3i (upto (dstep (dstep (dstep (dstep (dstep w))))) 3) 0 (upto (dstep (dstep (dstep w))) 20000) (upto (dstep (dstep (dstep (dstep w)))) 300000) (upto_in (by decide))
    have b3 := upto_in (w := (dstep (dstep (dstep w)))) (n := 20000) (by decide)
    have b4 := upto_in (w := (dstep (dstep (dstep (dstep w))))) (n := 300000) (by decide)
    have hx' : 0 ≤ x ∧ x ≤ 300000 := by omega
    obtain ⟨f, hf, sf⟩ := sel3i (upto (dstep (dstep (dstep (dstep (dstep (dstep w)))))) 3) 0 9 1000 (upto_in (by decide))
    have hf' : 0 ≤ f ∧ f ≤ 1000 := by omega
    have b7 := rngR_in (w := (dstep (dstep (dstep (dstep (dstep (dstep (dstep w)))))))) (lo := -f) (hi := 9) (by omega)
    have b9 := btw_in (w := (dstep (dstep (dstep (dstep (dstep (dstep (dstep (dstep (dstep w)))))))))) (lo := 1) (hi := 12) (by decide)
    have b10 := btw_in (w := (dstep (dstep (dstep (dstep (dstep (dstep (dstep (dstep (dstep (dstep w))))))))))) (lo := 1) (hi := 1000) (by decide)
    obtain ⟨s, hs, ss⟩ := sel3i (upto (dstep (dstep (dstep (dstep (dstep (dstep (dstep (dstep (dstep (dstep (dstep w))))))))))) 3) 1 (btw (dstep (dstep (dstep (dstep (dstep (dstep (dstep (dstep (dstep w))))))))) 1 12) (btw (dstep (dstep (dstep (dstep (dstep (dstep (dstep (dstep (dstep (dstep w)))))))))) 1 1000) (upto_in (by decide))
    have hs' : 1 ≤ s ∧ s ≤ 1000 := by omega
    have b13 := upto_in (w := (dstep (dstep (dstep (dstep (dstep (dstep (dstep (dstep (dstep (dstep (dstep (dstep (dstep w)))))))))))))) (n := 1000) (by decide)
    have b12 := btw_in (w := (dstep (dstep (dstep (dstep (dstep (dstep (dstep (dstep (dstep (dstep (dstep (dstep w))))))))))))) (lo := -1) (hi := (bs.length : Int) - 1) (by omega)
    have z2 := (upto_in (w := (dstep (dstep w))) (n := 3) (by decide))
    have z5 := (upto_in (w := (dstep (dstep (dstep (dstep (dstep w)))))) (n := 3) (by decide))
    have z6 := (upto_in (w := (dstep (dstep (dstep (dstep (dstep (dstep w))))))) (n := 3) (by decide))
    have z11 := (upto_in (w := (dstep (dstep (dstep (dstep (dstep (dstep (dstep (dstep (dstep (dstep (dstep w)))))))))))) (n := 3) (by decide))
    have n2 : ¬ upto (dstep (dstep w)) 3 < 0 := by omega
    have n5 : ¬ upto (dstep (dstep (dstep (dstep (dstep w))))) 3 < 0 := by omega
    have n6 : ¬ upto (dstep (dstep (dstep (dstep (dstep (dstep w)))))) 3 < 0 := by omega
    have n11 : ¬ upto (dstep (dstep (dstep (dstep (dstep (dstep (dstep (dstep (dstep (dstep (dstep w))))))))))) 3 < 0 := by omega
    have w1 : IntKind.i64.wrap (g + x) = g + x := w64 (by omega)
    have w2 : IntKind.i64.wrap (0 - f) = -f := by rw [w64 (by omega)]; omega
    have w3 : IntKind.i64.wrap ((bs.length : Int) - 1) = (bs.length : Int) - 1 := w64 (by omega)
    have w4 : IntKind.i64.wrap (1000 + upto (dstep (dstep (dstep (dstep (dstep (dstep (dstep (dstep (dstep (dstep (dstep (dstep (dstep w))))))))))))) 1000) = 1000 + upto (dstep (dstep (dstep (dstep (dstep (dstep (dstep (dstep (dstep (dstep (dstep (dstep (dstep w))))))))))))) 1000 := w64 (by omega)
    have w5 : IntKind.i64.wrap (i - 1) = i - 1 := w64 (by omega)
    obtain ⟨gh, hgh⟩ : ∃ gh, (if g + x < 2000000 then g + x else 2000000) = gh := ⟨_, rfl⟩
    have hgh' : g ≤ gh ∧ gh ≤ 2000000 := by rw [← hgh]; split <;> omega
    have rr := range_run (dstep (dstep (dstep (dstep (dstep (dstep (dstep w))))))) (-f) 9 (by omega) (by omega) (by omega)
    obtain ⟨rg, hrg⟩ : ∃ rg, rngR (dstep (dstep (dstep (dstep (dstep (dstep (dstep w))))))) (-f) 9 = rg := ⟨_, rfl⟩
    rw [hrg] at b7 rr
    simp only [Rg.v] at rr
    obtain ⟨c, hc⟩ : ∃ c, btw (dstep (dstep (dstep (dstep (dstep (dstep (dstep (dstep (dstep (dstep (dstep (dstep w)))))))))))) (-1) ((bs.length : Int) - 1) = c := ⟨_, rfl⟩
    obtain ⟨d, hd⟩ : ∃ d, upto (dstep (dstep (dstep (dstep (dstep (dstep (dstep (dstep (dstep (dstep (dstep (dstep (dstep w))))))))))))) 1000 = d := ⟨_, rfl⟩
    rw [hc] at b12
    rw [hd] at b13 w4
    have hy : MtOK ⟨g, gh, rg.lo, rg.hi, s, c, 1000 + d⟩ ∧ (⟨g, gh, rg.lo, rg.hi, s, c, 1000 + d⟩ : Mt).step ≤ 1000 := ⟨⟨by dsimp only; omega, by dsimp only; omega, by dsimp only; omega, by dsimp only; omega⟩, by dsimp only; omega⟩
    simp only [go_sem, c1]
    refine cD (between_ok _ 900000 1100000 (by decide) (by decide) (by decide)) ?_
    simp only [go_sem]
    refine cD (between_ok _ 500000 2000000 (by decide) (by decide) (by decide)) ?_
    simp only [go_sem]
    refine cD (upto_ok _ 3 (by decide)) ?_
    simp only [go_sem, n2, sg]
    refine ⟨z2.2, ?_⟩
    refine dD (upto_ok _ 20000 (by decide)) ?_
    simp only [go_sem]
    refine dD (upto_ok _ 300000 (by decide)) ?_
    simp only [go_sem]
    refine dD (upto_ok _ 3 (by decide)) ?_
    simp only [go_sem, n5, sx, w1, hgh]
    refine ⟨z5.2, by simp <;> omega, ?_⟩
    refine dD (upto_ok _ 3 (by decide)) ?_
    simp only [go_sem, n6, sf, w2]
    refine ⟨z6.2, ?_⟩
    refine ⟨by omega, by omega, ?_⟩
    refine dD rr ?_
    simp only [go_sem]
    refine dD (between_ok _ 1 12 (by decide) (by decide) (by decide)) ?_
    simp only [go_sem]
    refine dD (between_ok _ 1 1000 (by decide) (by decide) (by decide)) ?_
    simp only [go_sem]
    refine ⟨by simp <;> omega, ?_⟩
    refine dD (upto_ok _ 3 (by decide)) ?_
    simp only [go_sem, n11, ss, w3, cX, List.length_map]
    refine ⟨z11.2, by omega, by omega, by simp <;> omega, ?_⟩
    refine dD (between_ok _ (-1) ((bs.length : Int) - 1) (by omega) (by omega) (by omega)) ?_
    simp only [go_sem]
    refine dD (upto_ok _ 1000 (by decide)) ?_
    simp only [go_sem, hc, hd, w4, w5, cX, pX, hq, List.length_map]
    refine ⟨by simp <;> omega, ?_⟩
    have ez : bs.map Mv ++ [AVal.agg [.int .i64 g, .int .i64 gh, .int .i64 rg.lo, .int .i64 rg.hi, .int .i64 s, .int .i64 c, .int .i64 (1000 + d)]] = (bs ++ [Mt.mk g gh rg.lo rg.hi s c (1000 + d)]).map Mv := by rw [List.map_append]; rfl
    have el : bs.length + 1 = (bs ++ [Mt.mk g gh rg.lo rg.hi s c (1000 + d)]).length := by simp
    rw [ez, el]
    refine ih (bs ++ [Mt.mk g gh rg.lo rg.hi s c (1000 + d)], _, i - 1, _) (by dsimp only; omega) ⟨hz.snoc hy ⟨b12.1, by dsimp only; omega⟩, by dsimp only; rw [← el]; omega, by dsimp only; omega, ?_⟩ _ (by simp [go_sem])
    dsimp only
    rw [List.getElem?_append_left (by rw [List.length_set]; exact hlt)]
    exact List.getElem?_set_self hlt
  · simp only [go_sem, c1]
    exact hR bs w q X hz hl.1 (by omega) hX

set_option maxHeartbeats 8000000 in
set_option maxRecDepth 10000 in
theorem benchOf_run (w0 : Int) {N : Nat} (hN : 1 ≤ N ∧ N ≤ 12) : AnsE Tryd.prog n_kit_BenchOf [.ptr 0 0 0 1, .int .i64 N] [some (Dr w0)] (fun a : List Mt × Int => BkOK a.1 ∧ 1 ≤ a.1.length ∧ a.1.length ≤ N) (fun a => .sl 1 0 a.1.length) (fun a => [some (Dr a.2), some (.cells true 7 (a.1.map Mv))]) := by
  refine AnsE.keep (run_fn e_kit_BenchOf fun G => ?_) (fun a ha => ⟨by simp, by simp [go_sem], by simp only [go_sem], by rw [row_bel_cells]; simp only [go_sem], trivial⟩)
  have hR : ∀ (bs : List Mt) (w' : Int) (q : Nat) (X : Heap), BkOK bs → 1 ≤ bs.length → bs.length ≤ N → X[q]? = some (some (.cells true 7 (bs.map Mv))) →
      ∃ a : List Mt × Int, (BkOK a.1 ∧ 1 ≤ a.1.length ∧ a.1.length ≤ N) ∧ ∃ σ, Kept [some (Dr w0)] [some (Dr a.2), some (Row.cells true 7 (List.map Mv a.1))] (AVal.sl 1 0 a.1.length) (.sl (q + 1) 0 bs.length) (some (Dr w') :: X) σ := by
    intro bs w' q X hz h1 h2 hX
    refine ⟨(bs, w'), ⟨hz, h1, h2⟩, kept_two (q + 1) (by omega) (by simp [ren]) (by simp only [go_sem]) (by rw [row_bel_cells]; simp only [go_sem]) rfl ?_⟩
    simpa using hX
  have h56 : 56 ≤ 2 ^ 44 := by decide
  have bi := btw_in (w := w0) (lo := 1) (hi := N) (by omega)
  simp only [go_sem]
  refine cD (between_ok _ 1 N (by decide) (by omega) (by omega)) ?_
  simp only [go_sem]
  obtain ⟨i, hi⟩ : ∃ i, btw w0 1 N = i := ⟨_, rfl⟩
  obtain ⟨w, hw⟩ : ∃ w, dstep w0 = w := ⟨_, rfl⟩
  rw [hi] at bi ⊢
  rw [hw]
  have c1 : 0 < i := by omega
  have hz : BkOK [] := ⟨fun x hx => by simp at hx, fun i x hx => by simp at hx⟩
  refine loop_body 400 k_kit_BenchOf_r8.eq_1 ?_
  obtain ⟨g, hg, sg⟩ := sel3i (upto (dstep (dstep w)) 3) 1000000 (btw w 900000 1100000) (btw (dstep w) 500000 2000000) (upto_in (by decide))
  have b0 := btw_in (w := w) (lo := 900000) (hi := 1100000) (by decide)
  have b1 := btw_in (w := (dstep w)) (lo := 500000) (hi := 2000000) (by decide)
  have hg' : 500000 ≤ g ∧ g ≤ 2000000 := by omega
  obtain ⟨x, hx, sx⟩ := sel3i (upto (dstep (dstep (dstep (dstep (dstep w))))) 3) 0 (upto (dstep (dstep (dstep w))) 20000) (upto (dstep (dstep (dstep (dstep w)))) 300000) (upto_in (by decide))
  have b3 := upto_in (w := (dstep (dstep (dstep w)))) (n := 20000) (by decide)
  have b4 := upto_in (w := (dstep (dstep (dstep (dstep w))))) (n := 300000) (by decide)
  have hx' : 0 ≤ x ∧ x ≤ 300000 := by omega
  obtain ⟨f, hf, sf⟩ := sel3i (upto (dstep (dstep (dstep (dstep (dstep (dstep w)))))) 3) 0 9 1000 (upto_in (by decide))
  have hf' : 0 ≤ f ∧ f ≤ 1000 := by omega
  have b7 := rngR_in (w := (dstep (dstep (dstep (dstep (dstep (dstep (dstep w)))))))) (lo := -f) (hi := 9) (by omega)
  have b9 := btw_in (w := (dstep (dstep (dstep (dstep (dstep (dstep (dstep (dstep (dstep w)))))))))) (lo := 1) (hi := 12) (by decide)
  have b10 := btw_in (w := (dstep (dstep (dstep (dstep (dstep (dstep (dstep (dstep (dstep (dstep w))))))))))) (lo := 1) (hi := 1000) (by decide)
  obtain ⟨s, hs, ss⟩ := sel3i (upto (dstep (dstep (dstep (dstep (dstep (dstep (dstep (dstep (dstep (dstep (dstep w))))))))))) 3) 1 (btw (dstep (dstep (dstep (dstep (dstep (dstep (dstep (dstep (dstep w))))))))) 1 12) (btw (dstep (dstep (dstep (dstep (dstep (dstep (dstep (dstep (dstep (dstep w)))))))))) 1 1000) (upto_in (by decide))
  have hs' : 1 ≤ s ∧ s ≤ 1000 := by omega
  have b13 := upto_in (w := (dstep (dstep (dstep (dstep (dstep (dstep (dstep (dstep (dstep (dstep (dstep (dstep (dstep w)))))))))))))) (n := 1000) (by decide)
  have b12 := btw_in (w := (dstep (dstep (dstep (dstep (dstep (dstep (dstep (dstep (dstep (dstep (dstep (dstep w))))))))))))) (lo := -1) (hi := -1) (by omega)
  have z2 := (upto_in (w := (dstep (dstep w))) (n := 3) (by decide))
  have z5 := (upto_in (w := (dstep (dstep (dstep (dstep (dstep w)))))) (n := 3) (by decide))
  have z6 := (upto_in (w := (dstep (dstep (dstep (dstep (dstep (dstep w))))))) (n := 3) (by decide))
  have z11 := (upto_in (w := (dstep (dstep (dstep (dstep (dstep (dstep (dstep (dstep (dstep (dstep (dstep w)))))))))))) (n := 3) (by decide))
  have n2 : ¬ upto (dstep (dstep w)) 3 < 0 := by omega
  have n5 : ¬ upto (dstep (dstep (dstep (dstep (dstep w))))) 3 < 0 := by omega
  have n6 : ¬ upto (dstep (dstep (dstep (dstep (dstep (dstep w)))))) 3 < 0 := by omega
  have n11 : ¬ upto (dstep (dstep (dstep (dstep (dstep (dstep (dstep (dstep (dstep (dstep (dstep w))))))))))) 3 < 0 := by omega
  have w1 : IntKind.i64.wrap (g + x) = g + x := w64 (by omega)
  have w2 : IntKind.i64.wrap (0 - f) = -f := by rw [w64 (by omega)]; omega
  have w3 : IntKind.i64.wrap (-1) = -1 := w64 (by omega)
  have w4 : IntKind.i64.wrap (1000 + upto (dstep (dstep (dstep (dstep (dstep (dstep (dstep (dstep (dstep (dstep (dstep (dstep (dstep w))))))))))))) 1000) = 1000 + upto (dstep (dstep (dstep (dstep (dstep (dstep (dstep (dstep (dstep (dstep (dstep (dstep (dstep w))))))))))))) 1000 := w64 (by omega)
  have w5 : IntKind.i64.wrap (i - 1) = i - 1 := w64 (by omega)
  obtain ⟨gh, hgh⟩ : ∃ gh, (if g + x < 2000000 then g + x else 2000000) = gh := ⟨_, rfl⟩
  have hgh' : g ≤ gh ∧ gh ≤ 2000000 := by rw [← hgh]; split <;> omega
  have rr := range_run (dstep (dstep (dstep (dstep (dstep (dstep (dstep w))))))) (-f) 9 (by omega) (by omega) (by omega)
  obtain ⟨rg, hrg⟩ : ∃ rg, rngR (dstep (dstep (dstep (dstep (dstep (dstep (dstep w))))))) (-f) 9 = rg := ⟨_, rfl⟩
  rw [hrg] at b7 rr
  simp only [Rg.v] at rr
  obtain ⟨c, hc⟩ : ∃ c, btw (dstep (dstep (dstep (dstep (dstep (dstep (dstep (dstep (dstep (dstep (dstep (dstep w)))))))))))) (-1) (-1) = c := ⟨_, rfl⟩
  obtain ⟨d, hd⟩ : ∃ d, upto (dstep (dstep (dstep (dstep (dstep (dstep (dstep (dstep (dstep (dstep (dstep (dstep (dstep w))))))))))))) 1000 = d := ⟨_, rfl⟩
  rw [hc] at b12
  rw [hd] at b13 w4
  have hy : MtOK ⟨g, gh, rg.lo, rg.hi, s, c, 1000 + d⟩ ∧ (⟨g, gh, rg.lo, rg.hi, s, c, 1000 + d⟩ : Mt).step ≤ 1000 := ⟨⟨by dsimp only; omega, by dsimp only; omega, by dsimp only; omega, by dsimp only; omega⟩, by dsimp only; omega⟩
  simp only [go_sem, c1]
  refine cD (between_ok _ 900000 1100000 (by decide) (by decide) (by decide)) ?_
  simp only [go_sem]
  refine cD (between_ok _ 500000 2000000 (by decide) (by decide) (by decide)) ?_
  simp only [go_sem]
  refine cD (upto_ok _ 3 (by decide)) ?_
  simp only [go_sem, n2, sg]
  refine ⟨z2.2, ?_⟩
  refine dD (upto_ok _ 20000 (by decide)) ?_
  simp only [go_sem]
  refine dD (upto_ok _ 300000 (by decide)) ?_
  simp only [go_sem]
  refine dD (upto_ok _ 3 (by decide)) ?_
  simp only [go_sem, n5, sx, w1, hgh]
  refine ⟨z5.2, ?_⟩
  refine dD (upto_ok _ 3 (by decide)) ?_
  simp only [go_sem, n6, sf, w2]
  refine ⟨z6.2, ?_⟩

  refine dD rr ?_
  simp only [go_sem]
  refine dD (between_ok _ 1 12 (by decide) (by decide) (by decide)) ?_
  simp only [go_sem]
  refine dD (between_ok _ 1 1000 (by decide) (by decide) (by decide)) ?_
  simp only [go_sem]

  refine dD (upto_ok _ 3 (by decide)) ?_
  simp only [go_sem, n11, ss, w3, List.length_map]
  refine ⟨z11.2, ?_⟩
  refine dD (between_ok _ (-1) (-1) (by omega) (by omega) (by omega)) ?_
  simp only [go_sem]
  refine dD (upto_ok _ 1000 (by decide)) ?_
  simp only [go_sem, hc, hd, w4, w5, h56, List.length_map]
  have hz1 : BkOK [Mt.mk g gh rg.lo rg.hi s c (1000 + d)] := hz.snoc hy ⟨b12.1, by show c < 0; omega⟩
  refine loop_wk ?_ (bench_loop hN.2 hR (q := 6) (bs := [Mt.mk g gh rg.lo rg.hi s c (1000 + d)]) (i := i - 1) hz1 ⟨by simp, by simp; omega⟩ (by omega) rfl)
  simp [go_sem]
end Go.Proofs

namespace Go.Proofs
open Go Go.Sx Go.Gauge
attribute [local irreducible] Run

theorem beyond_run (n a b : Int) : Ans Tryd.prog n_ref07_beyond [.int .i64 n, .int .i64 a, .int .i64 b] [] (.bool (!decide (a ≤ n ∧ n ≤ b))) [] := by
  refine spec_run e_ref07_beyond fun G => ?_
  by_cases h1 : n < a
  · have h2 : ¬ (a ≤ n ∧ n ≤ b) := by omega
    simp only [go_sem, h1, decide_eq_false h2]
  · by_cases h2 : b < n
    · have h3 : ¬ (a ≤ n ∧ n ≤ b) := by omega
      simp only [go_sem, h1, h2, decide_eq_false h3]
    · have h3 : (a ≤ n ∧ n ≤ b) := by omega
      simp only [go_sem, h1, h2, decide_eq_true h3]
theorem rcheckRange_yes {a b c d : Int} (h : c ≤ a ∧ a ≤ b ∧ b ≤ d) : Ans Tryd.prog n_ref07_checkRange [r2 a b, .int .i64 c, .int .i64 d] [] (.int .i64 0) [] := by
  have k1 := beyond_run a c d
  have k2 := beyond_run b c d
  rw [decide_eq_true (by omega)] at k1 k2
  have c1 : ¬ b < a := by omega
  refine spec_run e_ref07_checkRange fun G => ?_
  simp only [go_sem, r2]
  refine cP k1 ?_
  simp only [go_sem]
  refine cP k2 ?_
  simp only [go_sem, c1]
theorem rcheckMaking_yes {m : Mt} (h : MtOK m) : Ans Tryd.prog n_ref07_checkMaking [Mv m] [] (.int .i64 0) [] := by
  have k1 := rcheckRange_yes (a := m.glo) (b := m.ghi) (c := 500000) (d := 2000000) (by have := h.g; omega)
  have k2 := rcheckRange_yes (a := m.olo) (b := m.ohi) (c := -1000000) (d := 1000000) (by have := h.o; omega)
  simp only [r2] at k1 k2
  refine spec_run e_ref07_checkMaking fun G => ?_
  simp only [go_sem, Mv, Mc]
  refine cP k1 ?_
  simp only [go_sem]
  refine cP k2 ?_
  simp only [go_sem]

set_option maxHeartbeats 4000000 in
set_option maxRecDepth 10000 in
theorem rchain_run {bs : List Mt} (h : VB bs) {m0 : Int} (h0 : 0 ≤ m0) (h1 : m0 < bs.length) :
    Ans Tryd.prog n_ref07_chain [.view (bs.map Mv), .int .i64 m0] [] (.tup [.sl 0 0 (ch bs m0).length, .bool true]) [some (.cells true 1 ((ch bs m0).map (.int .i64)))] := by
  have hlen := h.len
  have hc0 := ch_len h (show -1 ≤ m0 by omega) h1
  have hst0 := ch_step h h0 h1
  have hx0 := mt_get h0 h1
  have hcm0 := h.cmp _ (mt_mem h0 h1)
  have n0 : ¬ m0 < 0 := by omega
  have l0 : (0 : Int) ≤ bs.length := by omega
  obtain ⟨T, hT⟩ : ∃ T, ch bs m0 = T := ⟨_, rfl⟩
  rw [hT] at hc0 hst0 ⊢
  refine Ans.keep (run_fn e_ref07_chain fun G => ?_) (by simp) (by simp [go_sem]) ⟨by rw [row_bel_cells]; simp only [go_sem], trivial⟩
  simp only [go_sem]
  refine loop_body 400 k_ref07_chain_r5.eq_1 ?_
  simp only [go_sem, h0, l0, n0, hx0, h1, Mv, Mc]
  refine ⟨by decide, ?_⟩
  refine loop_ind k_ref07_chain_r5.eq_1 (fun a : Int × List Int × Heap => -1 ≤ a.1 ∧ a.1 < bs.length ∧ 1 ≤ a.2.1.length ∧ a.2.1 ++ ch bs a.1 = T) (fun a => T.length - a.2.1.length)
    (fun a => (tsets 28 [(0, .view (bs.map Mv)), (1, .int .i64 a.1), (6, .sl 1 0 a.2.1.length)], some (.cells false 1 [.int .i64 m0]) :: some (.cells true 1 (a.2.1.map (.int .i64))) :: a.2.2)) ((mt bs m0).cmp, [m0], []) ⟨hcm0.1, hcm0.2, by simp, hst0.symm⟩ (by simp [go_sem]) rfl ?_
  rintro ⟨m, l, X⟩ ⟨g1, g2, g3, g4⟩ ih
  dsimp only at g1 g2 g3 g4 ih ⊢
  have hTl : l.length + (ch bs m).length = T.length := by rw [← g4]; simp
  by_cases c1 : m = -1
  · have c2 : ¬ (0 : Int) ≤ m := by omega
    have c3 : m < 0 := by omega
    rw [c1, ch_end, List.append_nil] at g4
    subst g4
    simp only [go_sem, c2, c3]
    refine kept_one 1 (by simp [ren, rens]) (by rw [row_bel_cells]; simp only [go_sem]) rfl
  · have c2 : (0 : Int) ≤ m := by omega
    have c3 : (l.length : Int) ≤ bs.length := by omega
    have n1 : ¬ m < 0 := by omega
    have hst := ch_step h c2 g2
    have hx := mt_get c2 g2
    have hcm := h.cmp _ (mt_mem c2 g2)
    have hq : (l.length + 1) * 8 ≤ 2 ^ 44 := by omega
    have ez : l.map (AVal.int .i64) ++ [.int .i64 m] = (l ++ [m]).map (.int .i64) := by simp
    have el : l.length + 1 = (l ++ [m]).length := by simp
    have hl2 : (ch bs m).length = (ch bs (mt bs m).cmp).length + 1 := by rw [hst]; rfl
    simp only [go_sem, c2, c3, n1, hx, g2, hq, Mv, Mc, List.length_map]
    rw [ez, el]
    exact ih ((mt bs m).cmp, l ++ [m], _) (by simp; omega) ⟨hcm.1, hcm.2, by simp, by rw [← g4, hst]; simp⟩ _ (by simp [go_sem])

set_option maxHeartbeats 4000000 in
set_option maxRecDepth 10000 in
theorem rCheck_yes {bs : List Mt} (h : VB bs) : Ans Tryd.prog n_ref07_Check [.view (bs.map Mv)] [] (.int .i64 0) [] := by
  have hlen := h.len
  have c0 : ¬ (12 : Int) < bs.length := by omega
  refine spec_run e_ref07_Check fun G => ?_
  simp only [go_sem, c0, List.length_map]
  refine loop_ind k_ref07_Check_r12.eq_1 (fun a : Nat × Heap => a.1 ≤ bs.length) (fun a => bs.length - a.1)
    (fun a => (tsets 57 [(0, .view (bs.map Mv)), (3, .int .i64 a.1)], a.2)) (0, []) (Nat.zero_le _) (by simp [go_sem]) rfl ?_
  rintro ⟨i, H⟩ hi ih
  dsimp only at hi ih ⊢
  by_cases c1 : i < bs.length
  · have c2 : (i : Int) < bs.length := by omega
    have n0 : ¬ (i : Int) < 0 := by omega
    have w1 : IntKind.i64.wrap ((i : Int) + 1) = ((i + 1 : Nat) : Int) := by rw [w64 (by omega)]; rfl
    have w2 : IntKind.i64.wrap ((bs.length : Int) - 1) = (bs.length : Int) - 1 := w64 (by omega)
    obtain ⟨z, hz⟩ : ∃ z, bs[i]? = some z := ⟨_, List.getElem?_eq_getElem c1⟩
    have hm := List.mem_of_getElem? hz
    have hs := (h.all z hm).s
    have hd := (h.all z hm).d
    have hc := h.cmp z hm
    have k := rcheckMaking_yes (h.all z hm)
    have k1 := beyond_run z.step 1 1000000
    have k2 := beyond_run z.due 0 1000000000
    have k3 := beyond_run z.cmp (-1) ((bs.length : Int) - 1)
    rw [decide_eq_true (by omega)] at k1 k2 k3
    simp only [Mv, Mc] at k
    simp only [go_sem, c2, n0, hz, Mv, Mc, cells_end, get_end, put_at_end, List.length_map]
    refine cP k ?_
    simp only [go_sem, cells_end, get_end]
    refine cP k1 ?_
    simp only [go_sem, cells_end, get_end]
    refine cP k2 ?_
    simp only [go_sem, cells_end, get_end, w2, List.length_map]
    refine cP k3 ?_
    simp only [go_sem, w1]
    exact ih (i + 1, _) (by dsimp only; omega) c1 _ (by simp [go_sem])
  · have c2 : ¬ (i : Int) < bs.length := by omega
    simp only [go_sem, c2, List.length_map]
    refine loop_ind k_ref07_Check_r19.eq_1 (fun a : Nat × Heap => a.1 ≤ bs.length) (fun a => bs.length - a.1)
      (fun a => (tsets 57 [(0, .view (bs.map Mv)), (6, .int .i64 a.1)], a.2)) (0, H) (Nat.zero_le _) (by simp [go_sem]) rfl ?_
    clear ih
    rintro ⟨i, H⟩ hi ih
    dsimp only at hi ih ⊢
    by_cases c1 : i < bs.length
    · have c2 : (i : Int) < bs.length := by omega
      have w1 : IntKind.i64.wrap ((i : Int) + 1) = ((i + 1 : Nat) : Int) := by rw [w64 (by omega)]; rfl
      have k := rchain_run h (m0 := i) (by omega) c2
      simp only [go_sem, c2, List.length_map]
      refine cN1 k ?_
      simp only [go_sem, ren, rens, w1]
      exact ih (i + 1, _) (by dsimp only; omega) c1 _ (by simp [go_sem])
    · have c2 : ¬ (i : Int) < bs.length := by omega
      simp only [go_sem, c2, List.length_map]
theorem rChain_run {bs : List Mt} (h : VB bs) {m0 : Int} (h0 : 0 ≤ m0) (h1 : m0 < bs.length) :
    Ans Tryd.prog n_ref07_Chain [.view (bs.map Mv), .int .i64 m0] [] (.sl 0 0 (ch bs m0).length) [some (.cells true 1 ((ch bs m0).map (.int .i64)))] := by
  have hlen := h.len
  have w2 : IntKind.i64.wrap ((bs.length : Int) - 1) = (bs.length : Int) - 1 := w64 (by omega)
  have k1 := beyond_run m0 0 ((bs.length : Int) - 1)
  rw [decide_eq_true (by omega)] at k1
  refine spec_run e_ref07_Chain fun G => ?_
  simp only [go_sem]
  refine cP (rCheck_yes h) ?_
  simp only [go_sem, w2, List.length_map]
  refine cP k1 ?_
  simp only [go_sem]
  refine cN1 (rchain_run h h0 h1) ?_
  simp only [go_sem, ren, rens]
  exact ⟨_, rfl⟩
end Go.Proofs

namespace Go.Proofs
open Go Go.Sx Go.Gauge
attribute [local irreducible] Run

def sel3 (t a b c : Int) : Int := if t = 0 then a else if t = 1 then b else c
theorem sel3_get (t a b c : Int) (ht : 0 ≤ t ∧ t < 3) : [AVal.int .i64 a, .int .i64 b, .int .i64 c][t.toNat]? = some (.int .i64 (sel3 t a b c)) := by
  obtain rfl | rfl | rfl : t = 0 ∨ t = 1 ∨ t = 2 := by omega
  · rfl
  · rfl
  · rfl
def shw (bs : List Mt) (t : Int) : List Int → Int → Int → Int × Int
  | [], x, w => (x, w)
  | m :: ms, x, w => (sel3 t (mkLo (mt bs m) (shw bs t ms x w).1) (mkHi (mt bs m) (shw bs t ms x w).1) (btw (shw bs t ms x w).2 (mkLo (mt bs m) (shw bs t ms x w).1) (mkHi (mt bs m) (shw bs t ms x w).1)), dstep (shw bs t ms x w).2)
theorem shw_rd {bs : List Mt} {t : Int} : ∀ {l : List Int} {x w : Int}, (∀ m ∈ l, MtOK (mt bs m)) → Rd bs l x (shw bs t l x w).1
  | [], _, _, _ => rfl
  | m :: ms, x, w, h => by
    have hm := h m List.mem_cons_self
    have hle := mk_le hm (shw bs t ms x w).1
    have hb := btw_in (w := (shw bs t ms x w).2) hle
    refine ⟨(shw bs t ms x w).1, shw_rd fun k hk => h k (List.mem_cons_of_mem _ hk), ?_⟩
    simp only [shw, sel3]
    split
    · omega
    · split <;> omega
def shN (m : Mt) (v w : Int) : Int × Int :=
  if m.step < 2 * (v - v / m.step * m.step) then (v / m.step * m.step + m.step, w)
  else if 2 * (v - v / m.step * m.step) = m.step then (if upto w 2 = 0 then v / m.step * m.step + m.step else v / m.step * m.step, dstep w) else (v / m.step * m.step, w)
def showR (bs : List Mt) (m x w : Int) : Int × Int := shN (mt bs m) (shw bs (upto w 3) (ch bs m) x (dstep w)).1 (shw bs (upto w 3) (ch bs m) x (dstep w)).2
theorem low_in {v s : Int} (h : 1 ≤ s) : v - s < v / s * s ∧ v / s * s ≤ v := by
  have e := Int.emod_add_mul_ediv v s
  have h1 := Int.emod_nonneg v (show s ≠ 0 by omega)
  have h2 := Int.emod_lt_of_pos v (show 0 < s by omega)
  have e2 : s * (v / s) = v / s * s := Int.mul_comm _ _
  omega
theorem shN_near (m : Mt) (v w : Int) (h : 1 ≤ m.step) : 2 * ((shN m v w).1 - v) ≤ m.step ∧ 2 * (v - (shN m v w).1) ≤ m.step := by
  have h1 := low_in (v := v) h
  unfold shN
  split
  · dsimp only; omega
  · split
    · dsimp only; split <;> omega
    · dsimp only; omega
theorem shN_mul (m : Mt) (v w : Int) : (shN m v w).1 % m.step = 0 := by
  have h1 : v / m.step * m.step % m.step = 0 := Int.mul_emod_left _ _
  have h2 : (v / m.step * m.step + m.step) % m.step = 0 := by rw [Int.add_emod_right]; exact h1
  unfold shN
  split
  · exact h2
  · split
    · dsimp only
      split
      · exact h2
      · exact h1
    · exact h1

theorem mv_frz (ms : List Mt) (d : Nat) (H : Heap) : (ms.map Mv).map (frz (d + 2) H) = ms.map Mv := by rw [List.map_map]; rfl
theorem bs_frz {bs : List Mt} {H : Heap} {j n : Nat} {g : Bool} (h : H[j]? = some (some (.cells g 7 (bs.map Mv)))) (hn : n = bs.length) : frz 6 H (.sl j 0 n) = .view (bs.map Mv) := by
  rw [frz_sl (d := 5) h (by simpa using hn), mv_frz]

set_option maxHeartbeats 8000000 in
set_option maxRecDepth 10000 in
theorem Showing_run {bs : List Mt} (h : VB bs) {m x : Int} (h0 : 0 ≤ m) (h1 : m < bs.length) (hx : -1000000000 ≤ x ∧ x ≤ 1000000000) (w : Int) (g : Bool) :
    Ans Tryd.prog n_kit_Showing [.ptr 0 0 0 1, .sl 1 0 bs.length, .int .i64 m, .int .i64 x] [some (Dr w), some (.cells g 7 (bs.map Mv))] (.int .i64 (showR bs m x w).1) [some (Dr (showR bs m x w).2), some (.cells g 7 (bs.map Mv))] := by
  have hlen := h.len
  have hcl := ch_len h (show -1 ≤ m by omega) h1
  have hmem := ch_mem h _ m rfl (by omega) h1
  have hall : ∀ k ∈ ch bs m, MtOK (mt bs k) := fun k hk => h.all _ (mt_mem (hmem k hk).1 (hmem k hk).2)
  have ht := upto_in (w := w) (n := 3) (by decide)
  have hxm := mt_get h0 h1
  have hsm := (h.all _ (mt_mem h0 h1)).s
  have nm0 : ¬ m < 0 := by omega
  have gl : g = false ∨ True := .inr trivial
  unfold showR
  obtain ⟨t, htt⟩ : ∃ t, upto w 3 = t := ⟨_, rfl⟩
  obtain ⟨w0, hw0⟩ : ∃ w0, dstep w = w0 := ⟨_, rfl⟩
  obtain ⟨l, hl⟩ : ∃ l, ch bs m = l := ⟨_, rfl⟩
  have kc := rChain_run h h0 h1
  rw [hl] at hcl hmem hall kc
  rw [htt] at ht
  rw [htt, hw0, hl]
  have w1 : IntKind.i64.wrap ((l.length : Int) - 1) = (l.length : Int) - 1 := w64 (by omega)
  refine spec_run e_kit_Showing fun G => ?_
  simp only [go_sem]
  refine cFN kc 6 ⟨.inl (bs_frz (g := g) rfl rfl), .inl rfl, trivial⟩ ?_ (hx := by rw [row_bel_cells]; simp only [go_sem]) (hxn := row_nv_cells _ _ (nvs_ints _ _ ▸ trivial))
  simp only [go_sem, ren, rens]
  refine cD (upto_ok w 3 (by decide)) ?_
  simp only [go_sem, htt, hw0, w1]
  refine loop_ind k_kit_Showing_r8.eq_1 (fun a : Nat × Heap => a.1 ≤ l.length) (fun a => a.1)
    (fun a => (tsets 78 [(0, .ptr 0 0 0 1), (1, .sl 1 0 bs.length), (2, .int .i64 m), (3, .int .i64 (shw bs t (l.drop a.1) x w0).1), (9, .sl 2 0 l.length), (10, .int .i64 t), (11, .int .i64 ((a.1 : Int) - 1))],
      some (Dr (shw bs t (l.drop a.1) x w0).2) :: some (.cells g 7 (bs.map Mv)) :: some (.cells true 1 (l.map (.int .i64))) :: a.2)) (l.length, []) (Nat.le_refl _) (by simp [go_sem, shw]) (by simp [shw]) ?_
  rintro ⟨k, X⟩ hk ih
  dsimp only at hk ih ⊢
  have hrd : Rd bs (l.drop k) x (shw bs t (l.drop k) x w0).1 := shw_rd fun j hj => hall j (List.mem_of_mem_drop hj)
  have hbd := hrd.bd (fun j hj => hall j (List.mem_of_mem_drop hj)) hx
  have hb2 := bnd_rch (n := (l.drop k).length) (by rw [List.length_drop]; omega)
  rcases k with _ | k
  · have c1 : ¬ (0 : Int) ≤ ((0 : Nat) : Int) - 1 := by omega
    rw [List.drop_zero] at *
    obtain ⟨v, hv⟩ : ∃ v, (shw bs t l x w0).1 = v := ⟨_, rfl⟩
    obtain ⟨w2, hw2⟩ : ∃ w2, (shw bs t l x w0).2 = w2 := ⟨_, rfl⟩
    rw [hv] at hbd ⊢
    rw [hw2]
    have lo := low_in (v := v) hsm.1
    obtain ⟨q, hq⟩ : ∃ q, v / (mt bs m).step = q := ⟨_, rfl⟩
    have kd := refDown_run v (mt bs m).step (by omega) (by omega)
    have e1 : shN (mt bs m) v w2 = if (mt bs m).step < 2 * (v - q * (mt bs m).step) then (q * (mt bs m).step + (mt bs m).step, w2)
      else if 2 * (v - q * (mt bs m).step) = (mt bs m).step then (if upto w2 2 = 0 then q * (mt bs m).step + (mt bs m).step else q * (mt bs m).step, dstep w2) else (q * (mt bs m).step, w2) := by rw [← hq]; rfl
    rw [e1]
    rw [hq] at lo kd
    have u1 : IntKind.i64.wrap (q * (mt bs m).step) = q * (mt bs m).step := w64 (by omega)
    have u2 : IntKind.i64.wrap (v - q * (mt bs m).step) = v - q * (mt bs m).step := w64 (by omega)
    have u3 : IntKind.i64.wrap (2 * (v - q * (mt bs m).step)) = 2 * (v - q * (mt bs m).step) := w64 (by omega)
    have u4 : IntKind.i64.wrap (q * (mt bs m).step + (mt bs m).step) = q * (mt bs m).step + (mt bs m).step := w64 (by omega)
    obtain ⟨p, hp⟩ : ∃ p, q * (mt bs m).step = p := ⟨_, rfl⟩
    rw [hp] at lo u1 u2 u3 u4 ⊢
    simp only [go_sem, c1, nm0, hxm, h1, Mv, Mc, List.length_map]
    refine cP kd ?_
    by_cases d1 : (mt bs m).step < 2 * (v - p)
    · simp only [go_sem, hp, u1, u2, u3, d1, u4]
      exact ⟨_, rfl⟩
    · by_cases d2 : 2 * (v - p) = (mt bs m).step
      · have d3 : (2 * (v - p) == (mt bs m).step) = true := beq_iff_eq.2 d2
        simp only [go_sem, hp, u1, u2, u3, d1, d3]
        refine cD (one_ok _ 2 (by decide)) ?_
        by_cases d4 : upto w2 2 = 0
        · have d5 : (upto w2 2 == 0) = true := by rw [d4]; rfl
          simp only [go_sem, d4, d5, u4, if_pos d2]
          exact ⟨_, rfl⟩
        · have d5 : (upto w2 2 == 0) = false := beq_eq_false_iff_ne.2 d4
          simp only [go_sem, d4, d5, if_pos d2]
          exact ⟨_, rfl⟩
      · have d3 : (2 * (v - p) == (mt bs m).step) = false := beq_eq_false_iff_ne.2 d2
        simp only [go_sem, hp, u1, u2, u3, d1, d3, if_neg d2]
        exact ⟨_, rfl⟩
  · have hk' : k < l.length := by omega
    have ei : ((k + 1 : Nat) : Int) - 1 = k := by omega
    have c1 : (0 : Int) ≤ (k : Int) := by omega
    have nk : ¬ (k : Int) < 0 := by omega
    obtain ⟨mk, hmk⟩ : ∃ mk, l[k]? = some mk := ⟨_, List.getElem?_eq_getElem hk'⟩
    have hml := List.mem_of_getElem? hmk
    obtain ⟨m1, m2⟩ := hmem mk hml
    have nmk : ¬ mk < 0 := by omega
    have hxk := mt_get m1 m2
    have hdr : l.drop k = mk :: l.drop (k + 1) := by
      rw [List.drop_eq_getElem_cons hk']
      have := List.getElem?_eq_getElem hk'
      rw [hmk] at this; cases this; rfl
    have ihk := ih (k, X)
    rw [ei]
    have hsh : shw bs t (l.drop k) x w0 = (sel3 t (mkLo (mt bs mk) (shw bs t (l.drop (k + 1)) x w0).1) (mkHi (mt bs mk) (shw bs t (l.drop (k + 1)) x w0).1) (btw (shw bs t (l.drop (k + 1)) x w0).2 (mkLo (mt bs mk) (shw bs t (l.drop (k + 1)) x w0).1) (mkHi (mt bs mk) (shw bs t (l.drop (k + 1)) x w0).1)), dstep (shw bs t (l.drop (k + 1)) x w0).2) := by
      rw [hdr]; rfl
    have ihk := fun X' => ih (k, X') (by dsimp only; omega) (by dsimp only; omega)
    dsimp only at ihk
    rw [hsh] at ihk
    clear ih hsh
    obtain ⟨u, hu⟩ : ∃ u, (shw bs t (l.drop (k + 1)) x w0).1 = u := ⟨_, rfl⟩
    obtain ⟨wu, hwu⟩ : ∃ wu, (shw bs t (l.drop (k + 1)) x w0).2 = wu := ⟨_, rfl⟩
    rw [hu] at hbd ihk ⊢
    rw [hwu] at ihk ⊢
    have km := Made_run (hall mk hml) (x := u) (by simp only [rch]; omega)
    have hb3 := mk_bd (hall mk hml) hbd
    have hb4 := mk_le (hall mk hml) u
    obtain ⟨lo, hlo⟩ : ∃ lo, mkLo (mt bs mk) u = lo := ⟨_, rfl⟩
    obtain ⟨hi, hhi⟩ : ∃ hi, mkHi (mt bs mk) u = hi := ⟨_, rfl⟩
    rw [hlo, hhi] at km hb3 hb4 ihk
    have ki := in_run wu lo hi (by omega) hb4 (by omega)
    simp only [Mv, Mc, r2] at km ki
    have w5 : IntKind.i64.wrap ((k : Int) - 1) = (k : Int) - 1 := w64 (by omega)
    have s3 := sel3_get t lo hi (btw wu lo hi) ht
    have nt : ¬ t < 0 := by omega
    simp only [go_sem, c1, nk, hmk, nmk, hxk, m2, Mv, Mc, List.length_map]
    refine ⟨by omega, ?_⟩
    refine cP km ?_
    simp only [go_sem, cells_end, get_end, put_at_end]
    refine dD ki ?_
    simp only [go_sem, nt, s3, w5, cells_end, get_end]
    exact ⟨ht.2, ihk _ _ (by simp [go_sem])⟩
end Go.Proofs

namespace Go.Proofs
open Go Go.Sx
def pchk : Option (AVal × Heap) → Bool
  | some (.tup [.agg [.int .i64 3, .int .i64 0], .int .i64 0], _) => true
  | _ => false
theorem pchk_eq {o : Option (AVal × Heap)} (h : pchk o = true) : ∃ H', o = some (.tup [.agg [.int .i64 3, .int .i64 0], .int .i64 0], H') := by
  unfold pchk at h
  split at h
  · exact ⟨_, rfl⟩
  · cases h
theorem plan_ex : pchk (exFn tab 3000 40 n_gauge_Plan [.int .i64 10, .int .i64 0, .int .i64 5, .int .i64 10, .int .i64 10] []) = true := by kernel_rfl
theorem plan_run : Ans Tryd.prog n_gauge_Plan [.int .i64 10, .int .i64 0, .int .i64 5, .int .i64 10, .int .i64 10] [] (.tup [.agg [.int .i64 3, .int .i64 0], .int .i64 0]) [] := by
  obtain ⟨H', h1⟩ := pchk_eq plan_ex
  exact (spec_ex mixed tab_ok h1).mono fun v H'' hv => ⟨hv.1, H'', rfl⟩
end Go.Proofs

namespace Go.Proofs
open Go Go.Sx
def kchk : Option (AVal × Heap) → Bool
  | some (.tup [.agg [.int .i64 5000, .int .i64 1000000], .int .i64 0], _) => true
  | _ => false
theorem kchk_eq {o : Option (AVal × Heap)} (h : kchk o = true) : ∃ H', o = some (.tup [.agg [.int .i64 5000, .int .i64 1000000], .int .i64 0], H') := by
  unfold kchk at h
  split at h
  · exact ⟨_, rfl⟩
  · cases h
theorem keeps_ex : kchk (exFn tab 3000 40 n_gauge_Keeps [.agg [.int .i64 10, .int .i64 20], .agg [.int .i64 0, .int .i64 1], .agg [.int .i64 0, .int .i64 25]] []) = true := by kernel_rfl
theorem keeps_run : Ans Tryd.prog n_gauge_Keeps [.agg [.int .i64 10, .int .i64 20], .agg [.int .i64 0, .int .i64 1], .agg [.int .i64 0, .int .i64 25]] [] (.tup [.agg [.int .i64 5000, .int .i64 1000000], .int .i64 0]) [] := by
  obtain ⟨H', h1⟩ := kchk_eq keeps_ex
  exact (spec_ex mixed tab_ok h1).mono fun v H'' hv => ⟨hv.1, H'', rfl⟩
end Go.Proofs

namespace Go.Proofs
open Go Go.Sx Go.Gauge
attribute [local irreducible] Run

def vrd (a b c d : Int) : Int := if b < a ∨ d < c then 0 else if c ≤ a ∧ b ≤ d then 1 else if min b d < max a c then 2 else 3
theorem Verdict_run (a b c d : Int) : Ans Tryd.prog n_gauge_Verdict [r2 a b, r2 c d] [] (.int .i64 (vrd a b c d)) [] := by
  have k1 := isEmpty_run a b
  have k2 := isEmpty_run c d
  have k3 := common_run a b c d
  have k4 := isEmpty_run (max a c) (min b d)
  simp only [r2] at k1 k2 k3 k4
  refine spec_run e_gauge_Verdict fun G => ?_
  simp only [go_sem, r2]
  refine cP k1 ?_
  by_cases c1 : b < a
  · have e : vrd a b c d = 0 := if_pos (.inl c1)
    simp only [go_sem, c1, e]
  · simp only [go_sem, c1]
    refine cP k2 ?_
    by_cases c2 : d < c
    · have e : vrd a b c d = 0 := if_pos (.inr c2)
      simp only [go_sem, c2, e]
    · have e1 : vrd a b c d = if c ≤ a ∧ b ≤ d then 1 else if min b d < max a c then 2 else 3 := if_neg (by omega)
      rw [e1]
      have fin : ¬ (c ≤ a ∧ b ≤ d) → ∀ P : Prop, (min b d < max a c → P) → (¬ min b d < max a c → P) → P := fun _ P h1 h2 => by
        by_cases h : min b d < max a c
        · exact h1 h
        · exact h2 h
      by_cases c3 : c ≤ a
      · by_cases c4 : b ≤ d
        · simp only [go_sem, c2, c3, c4]
        · by_cases c5 : min b d < max a c
          · simp only [go_sem, c2, c3, c4]
            refine cP k3 ?_
            simp only [go_sem]
            refine cP k4 ?_
            simp only [go_sem, c5]
          · simp only [go_sem, c2, c3, c4]
            refine cP k3 ?_
            simp only [go_sem]
            refine cP k4 ?_
            simp only [go_sem, c5]
      · by_cases c5 : min b d < max a c
        · simp only [go_sem, c2, c3]
          refine cP k3 ?_
          simp only [go_sem]
          refine cP k4 ?_
          simp only [go_sem, c5]
        · simp only [go_sem, c2, c3]
          refine cP k3 ?_
          simp only [go_sem]
          refine cP k4 ?_
          simp only [go_sem, c5]
theorem span_run (a b : Int) : Ans Tryd.prog n_law07_span [.int .i64 a, .int .i64 b] [] (.agg [.int .i64 a, .int .i64 b]) [] := by
  refine spec_run e_law07_span fun G => ?_
  simp only [go_sem]

def exB : List Mt := [⟨1000000, 1000000, 0, 0, 10, -1, 100⟩, ⟨990000, 1010000, -5, 5, 1, 0, 50⟩]
theorem exB_ok : VB exB := by
  refine VB.made (by decide) (fun x hx => ?_) fun i x hx => ?_
  · simp only [exB, List.mem_cons, List.not_mem_nil, or_false] at hx
    rcases hx with rfl | rfl
    · exact ⟨by decide, by decide, by decide, by decide⟩
    · exact ⟨by decide, by decide, by decide, by decide⟩
  · match i, hx with
    | 0, hx => simp [exB] at hx; subst hx; decide
    | 1, hx => simp [exB] at hx; subst hx; decide
    | i + 2, hx => simp [exB] at hx
theorem lf_val {m : Mt} (h : MtOK m) {y L : Int} (hL : -rch < L ∧ L ≤ rch) (h1 : y ≤ mkHi m L) (h2 : mkHi m (L - 1) < y) : lf m y = L := by
  have a1 := (lf_iff h (y := y) (x := L) (by omega) hL.2).1 h1
  have a2 : ¬ lf m y ≤ L - 1 := fun e => by
    have := (lf_iff h (y := y) (x := L - 1) (by omega) (by omega)).2 e
    omega
  omega
theorem mf_val {m : Mt} (h : MtOK m) {y L : Int} (hL : -rch ≤ L ∧ L < rch) (h1 : mkLo m L ≤ y) (h2 : y < mkLo m (L + 1)) : mf m y = L := by
  have a1 := (mf_iff h (y := y) (x := L) hL.1 (by omega)).1 h1
  have a2 : ¬ L + 1 ≤ mf m y := fun e => by
    have := (mf_iff h (y := y) (x := L + 1) (by omega) (by omega)).2 e
    omega
  omega
theorem exB_true : tru exB 1 1000 = some (985, 1016) := by
  have h1 : MtOK (mt exB 1) := exB_ok.all _ (mt_mem (by decide) (by decide))
  have h0 : MtOK (mt exB 0) := exB_ok.all _ (mt_mem (by decide) (by decide))
  have hc : ch exB 1 = [1, 0] := by decide
  have hs : (mt exB 1).step = 1 := rfl
  unfold tru
  rw [hc, hs]
  have e1 : lf (mt exB 1) 1000 = 985 := lf_val h1 (by decide) (by decide) (by decide)
  have e2 : mf (mt exB 1) 1000 = 1016 := mf_val h1 (by decide) (by decide) (by decide)
  have e3 : lf (mt exB 0) 985 = 985 := lf_val h0 (by decide) (by decide) (by decide)
  have e4 : mf (mt exB 0) 1016 = 1016 := mf_val h0 (by decide) (by decide) (by decide)
  have w1 : (1000 : Int) - 1 / 2 = 1000 := by decide
  have w2 : (1000 : Int) + 1 / 2 = 1000 := by decide
  rw [w1, w2]
  simp only [tfr, e1, e2, e3, e4]
  decide
theorem bench_ex : Ans Tryd.prog n_law07_bench [] [] (.sl 0 0 2) [some (.cells false 7 (exB.map Mv))] := by
  refine spec_run e_law07_bench fun G => ?_
  simp only [go_sem]
  refine cP (span_run 1000000 1000000) ?_
  simp only [go_sem]
  refine cP (span_run 990000 1010000) ?_
  simp only [go_sem]
  refine cP (span_run (-5) 5) ?_
  simp only [go_sem]
  exact ⟨_, rfl⟩

theorem zs_frz (H : Heap) (h : H[4]? = some (some (.cells false 7 (List.replicate 13 (.agg [.int .i64 0, .int .i64 0, .int .i64 0, .int .i64 0, .int .i64 0, .int .i64 0, .int .i64 0]))))) :
    frz 6 H (.sl 4 0 13) = .view (List.replicate 13 (.agg [.int .i64 0, .int .i64 0, .int .i64 0, .int .i64 0, .int .i64 0, .int .i64 0, .int .i64 0])) := by
  rw [frz_sl (d := 5) h (by simp), List.map_replicate]; rfl

set_option maxHeartbeats 4000000 in
set_option maxRecDepth 10000 in
theorem awake_ok : Ans Tryd.prog n_law07_awake [] [] (.bool true) [] := by
  have kt := True_run exB_ok (m0 := 1) (n := 1000) (by decide) (by decide) (by decide) (by decide)
  rw [exB_true] at kt
  simp only [truV] at kt
  have kv := Verdict_run 95 105 106 200
  simp only [r2] at kv
  have ev : vrd 95 105 106 200 = 2 := by decide
  rw [ev] at kv
  refine spec_run e_law07_awake fun G => ?_
  simp only [go_sem]
  refine cN1 bench_ex ?_
  simp only [go_sem, ren, rens]
  refine cF kt 6 ⟨.inl (bs_frz (g := false) rfl rfl), .inl rfl, .inl rfl, trivial⟩ ?_
  simp only [go_sem]
  refine cP plan_run ?_
  simp only [go_sem]
  refine cP (span_run 10 20) ?_
  simp only [go_sem]
  refine cP (span_run 0 1) ?_
  simp only [go_sem]
  refine cP (span_run 0 25) ?_
  simp only [go_sem]
  refine cP keeps_run ?_
  simp only [go_sem]
  refine dP (span_run 985 1016) ?_
  simp only [go_sem]
  refine dP (span_run 5000 1000000) ?_
  simp only [go_sem]
  refine cP (span_run 95 105) ?_
  simp only [go_sem]
  refine cP (span_run 106 200) ?_
  simp only [go_sem]
  refine cP kv ?_
  simp only [go_sem]
  refine ⟨by decide, ?_⟩
  refine cF (Check_full (es := List.replicate 13 (.agg [.int .i64 0, .int .i64 0, .int .i64 0, .int .i64 0, .int .i64 0, .int .i64 0, .int .i64 0])) (by simp) (by simp only [go_sem])) 6 ⟨.inl (zs_frz _ rfl), trivial⟩ ?_
  simp only [go_sem]
end Go.Proofs

namespace Go.Proofs
open Go Go.Sx Go.Gauge
attribute [local irreducible] Run

theorem mod_in (a b : Int) (hb : 1 ≤ b) : 0 ≤ a % b ∧ a % b < b := ⟨Int.emod_nonneg _ (by omega), Int.emod_lt_of_pos _ (by omega)⟩
theorem bk_bel (bs : List Mt) (g : Bool) (S : Nat → Prop) : (Row.cells g 7 (bs.map Mv)).bel S := by rw [row_bel_cells]; simp only [go_sem]
theorem showR_ok {bs : List Mt} (h : VB bs) {m x w : Int} (h0 : 0 ≤ m) (h1 : m < bs.length) (hx : -1000000000 ≤ x ∧ x ≤ 1000000000) :
    (showR bs m x w).1 % (mt bs m).step = 0 ∧ ∃ a b, tru bs m (showR bs m x w).1 = some (a, b) ∧ a ≤ x ∧ x ≤ b := by
  have hs := (h.all _ (mt_mem h0 h1)).s
  refine ⟨shN_mul _ _ _, ?_⟩
  have hm := ch_mem h _ m rfl (by omega) h1
  exact tru_has h h0 h1 hx (shw_rd (t := upto w 3) (w := dstep w) fun k hk => h.all _ (mt_mem (hm k hk).1 (hm k hk).2)) (shN_near _ _ _ hs.1)

end Go.Proofs

namespace Go.Proofs
open Go Go.Sx Go.Gauge
attribute [local irreducible] Run

section
variable {P : Program} {g : FuncId} {args largs : List AVal} {H : Heap} {R : Runner} {l : List AOper} {fs : List Sx.Frame} {ρ : List AVal} {ms : List Nat} {Q : Sx.Goal} {ao : AOper} {lo hi : Nat} {tr : List (List Nat × List Nat)} {ss : List (List AOper)}
theorem DCall.less {v : AVal} {j0 j1 : Nat} {x' x1 : Row} {qs : List Nat} (h : DCall P g args H ⟨v, [(j0, x'), (j1, x1)], qs⟩) (h1 : H[j1]? = some (some x1)) (hlt : j0 < H.length) (hne : j0 ≠ j1) : DCall P g args H ⟨v, [(j0, x')], qs⟩ :=
  ⟨h.1, fun G K μ cargs w hsub hfs hl hv hH => by
    have k1 := hsub j1 x1 h1
    have hltK : j1 < K.length := (List.getElem?_eq_some_iff.1 k1).1
    have e : K.puts [(j0, x'), (j1, x1)] = K.puts [(j0, x')] := by
      simp only [Heap.puts]
      refine put_same ?_
      unfold Heap.put
      split
      · rw [List.getElem?_set_ne hne]; exact k1
      · rw [List.getElem?_append_left hltK]; exact k1
    have := h.2 G K μ cargs w hsub hfs hl hv hH
    simp only at this ⊢
    rw [e] at this
    exact this⟩
end
end Go.Proofs

namespace Go.Proofs
open Go Go.Sx

def k_law07_GaugeRises_r0 : List AOper := [
  ⟨(some (6)), .move (.const (.bool false)), none, []⟩]
def k_law07_GaugeRises_r1 : List AOper := [
  ⟨(some (19)), .move (.tmp 0), none, []⟩, 
  ⟨(some (20)), .call (.const (.fn (.func 16) [] [])) [.tmp 19], none, []⟩, 
  ⟨(some (7)), .move (.tmp 20), none, []⟩]
def k_law07_GaugeRises_r2 : List AOper := [
  ⟨(some (21)), .move (.tmp 7), none, []⟩, 
  ⟨(some (22)), .call (.const (.fn (.func 17) [] [])) [.tmp 21, .const (.int .i64 4)], none, []⟩, 
  ⟨(some (8)), .move (.tmp 22), none, []⟩]
def k_law07_GaugeRises_r3 : List AOper := [
  ⟨(some (23)), .move (.tmp 7), none, []⟩, 
  ⟨(some (24)), .move (.tmp 8), none, []⟩, 
  ⟨(some (25)), .len false (.tmp 24), none, []⟩, 
  ⟨(some (26)), .call (.const (.fn (.func 19) [] [])) [.tmp 23, .tmp 25], none, []⟩, 
  ⟨(some (9)), .move (.tmp 26), none, []⟩]
def k_law07_GaugeRises_r4 : List AOper := [
  ⟨(some (27)), .move (.tmp 7), none, []⟩, 
  ⟨(some (28)), .move (.tmp 8), none, []⟩, 
  ⟨(some (29)), .move (.tmp 9), none, []⟩, 
  ⟨(some (30)), .move (.tmp 1), none, []⟩, 
  ⟨(some (31)), .call (.const (.fn (.func 22) [] [])) [.tmp 30, .const (.int .i64 200001)], none, []⟩, 
  ⟨(some (32)), .bin .plain .sub (.tmp 31) (.const (.int .i64 100000)), none, []⟩, 
  ⟨(some (33)), .call (.const (.fn (.func 31) [] [])) [.tmp 27, .tmp 28, .tmp 29, .tmp 32], none, []⟩, 
  ⟨(some (10)), .move (.tmp 33), none, []⟩]
def k_law07_GaugeRises_r5 : List AOper := [
  ⟨(some (35)), .move (.tmp 8), none, []⟩, 
  ⟨(some (36)), .move (.tmp 9), none, []⟩, 
  ⟨(some (37)), .move (.tmp 10), none, []⟩, 
  ⟨(some (38)), .call (.const (.fn (.func 32) [] [])) [.tmp 35, .tmp 36, .tmp 37], none, []⟩, 
  ⟨(some (34)), .move (.tmp 38), none, []⟩, 
  ⟨(some (39)), .extract (.tmp 34) 0, none, []⟩, 
  ⟨(some (40)), .extract (.tmp 34) 1, none, []⟩, 
  ⟨(some (11)), .box (.const (.agg [.int .i64 0, .int .i64 0])), none, []⟩, 
  ⟨none, .store 2 (.tmp 11) (.tmp 39), none, []⟩, 
  ⟨(some (12)), .move (.tmp 40), none, []⟩]
def k_law07_GaugeRises_r6 : List AOper := [
  ⟨(some (42)), .move (.tmp 8), none, []⟩, 
  ⟨(some (43)), .move (.tmp 9), none, [0]⟩, 
  ⟨(some (44)), .move (.tmp 10), none, [0, 1]⟩, 
  ⟨(some (45)), .move (.tmp 8), none, [0, 1, 2]⟩, 
  ⟨(some (46)), .move (.tmp 9), none, [0, 1, 2, 3]⟩, 
  ⟨(some (47)), .indexAddr 7 (.tmp 45) (.tmp 46), none, [0, 1, 2]⟩, 
  ⟨(some (48)), .fieldAddr 4 (.tmp 47), none, [0, 1, 2]⟩, 
  ⟨(some (49)), .load none (.tmp 48), none, [0, 1, 2]⟩, 
  ⟨(some (50)), .move (.tmp 2), none, [0, 1, 2, 3, 4, 5, 6, 7]⟩, 
  ⟨(some (51)), .call (.const (.fn (.func 22) [] [])) [.tmp 50, .const (.int .i64 50)], none, [0, 1, 2, 3, 4, 5, 6, 7]⟩, 
  ⟨(some (52)), .bin .plain .mul (.tmp 49) (.tmp 51), none, [0, 1, 2]⟩, 
  ⟨(some (53)), .bin .plain .add (.tmp 44) (.tmp 52), none, [0, 1]⟩, 
  ⟨(some (54)), .call (.const (.fn (.func 32) [] [])) [.tmp 42, .tmp 43, .tmp 53], none, []⟩, 
  ⟨(some (41)), .move (.tmp 54), none, []⟩, 
  ⟨(some (55)), .extract (.tmp 41) 0, none, []⟩, 
  ⟨(some (56)), .extract (.tmp 41) 1, none, [14]⟩, 
  ⟨(some (13)), .box (.const (.agg [.int .i64 0, .int .i64 0])), none, [0, 1, 2, 3, 4, 5, 6, 7, 8, 9, 10, 11, 12, 13, 14, 15]⟩, 
  ⟨none, .store 2 (.tmp 13) (.tmp 55), none, [15]⟩, 
  ⟨(some (14)), .move (.tmp 56), none, []⟩]
def k_law07_GaugeRises_r6s : List (List AOper) := [
  [
  ⟨(some (42)), .move (.tmp 8), none, []⟩, 
  ⟨(some (43)), .move (.tmp 9), none, [0]⟩, 
  ⟨(some (44)), .move (.tmp 10), none, [0, 1]⟩, 
  ⟨(some (45)), .move (.tmp 8), none, [0, 1, 2]⟩, 
  ⟨(some (46)), .move (.tmp 9), none, [0, 1, 2, 3]⟩, 
  ⟨(some (47)), .indexAddr 7 (.tmp 45) (.tmp 46), none, [0, 1, 2]⟩, 
  ⟨(some (48)), .fieldAddr 4 (.tmp 47), none, [0, 1, 2]⟩, 
  ⟨(some (49)), .load none (.tmp 48), none, [0, 1, 2]⟩, 
  ⟨(some (50)), .move (.tmp 2), none, [0, 1, 2, 3, 4, 5, 6, 7]⟩, 
  ⟨(some (51)), .call (.const (.fn (.func 22) [] [])) [.tmp 50, .const (.int .i64 50)], none, [0, 1, 2, 3, 4, 5, 6, 7]⟩, 
  ⟨(some (52)), .bin .plain .mul (.tmp 49) (.tmp 51), none, [0, 1, 2]⟩, 
  ⟨(some (53)), .bin .plain .add (.tmp 44) (.tmp 52), none, [0, 1]⟩, 
  ⟨(some (54)), .call (.const (.fn (.func 32) [] [])) [.tmp 42, .tmp 43, .tmp 53], none, []⟩, 
  ⟨(some (41)), .move (.tmp 54), none, []⟩, 
  ⟨(some (55)), .extract (.tmp 41) 0, none, []⟩, 
  ⟨(some (56)), .extract (.tmp 41) 1, none, [14]⟩, 
  ⟨(some (13)), .box (.const (.agg [.int .i64 0, .int .i64 0])), none, [0, 1, 2, 3, 4, 5, 6, 7, 8, 9, 10, 11, 12, 13, 14, 15]⟩, 
  ⟨none, .store 2 (.tmp 13) (.tmp 55), none, [15]⟩], 
  [
  ⟨(some (14)), .move (.tmp 56), none, []⟩]]
theorem k_law07_GaugeRises_r6_sg : segs k_law07_GaugeRises_r6 = k_law07_GaugeRises_r6s := by kernel_rfl
theorem k_law07_GaugeRises_r6_st : statOK k_law07_GaugeRises_r6 = true := by kernel_rfl
def k_law07_GaugeRises_r7 : List AOper := [
  ⟨(some (57)), .move (.tmp 12), none, []⟩, 
  ⟨(some (58)), .bin .plain .neq (.tmp 57) (.const (.int .i64 0)), none, []⟩, 
  ⟨(some (59)), .move (.tmp 58), none, []⟩, 
  ⟨(some (60)), .move (.tmp 14), (some (59, false)), []⟩, 
  ⟨(some (61)), .bin .plain .eql (.tmp 60) (.const (.int .i64 0)), (some (59, false)), []⟩, 
  ⟨(some (62)), .move (.tmp 61), (some (59, false)), []⟩, 
  ⟨(some (63)), .fieldAddr 0 (.tmp 13), (some (62, true)), []⟩, 
  ⟨(some (64)), .load none (.tmp 63), (some (62, true)), []⟩, 
  ⟨(some (65)), .fieldAddr 0 (.tmp 11), (some (62, true)), []⟩, 
  ⟨(some (66)), .load none (.tmp 65), (some (62, true)), []⟩, 
  ⟨(some (67)), .bin .plain .lss (.tmp 64) (.tmp 66), (some (62, true)), []⟩, 
  ⟨(some (68)), .move (.tmp 67), (some (62, true)), []⟩, 
  ⟨(some (69)), .fieldAddr 1 (.tmp 13), (some (68, false)), []⟩, 
  ⟨(some (70)), .load none (.tmp 69), (some (68, false)), []⟩, 
  ⟨(some (71)), .fieldAddr 1 (.tmp 11), (some (68, false)), []⟩, 
  ⟨(some (72)), .load none (.tmp 71), (some (68, false)), []⟩, 
  ⟨(some (73)), .bin .plain .lss (.tmp 70) (.tmp 72), (some (68, false)), []⟩, 
  ⟨(some (74)), .pick (.tmp 68) (.const (.bool true)) (.tmp 73), (some (62, true)), []⟩, 
  ⟨(some (75)), .pick (.tmp 62) (.tmp 74) (.const (.bool false)), (some (59, false)), []⟩, 
  ⟨(some (76)), .pick (.tmp 59) (.const (.bool true)) (.tmp 75), none, []⟩, 
  ⟨(some (77)), .move (.tmp 76), none, []⟩, 
  ⟨(some (78)), .move (.tmp 14), (some (77, false)), []⟩, 
  ⟨(some (79)), .bin .plain .neq (.tmp 78) (.const (.int .i64 0)), (some (77, false)), []⟩, 
  ⟨(some (80)), .move (.tmp 79), (some (77, false)), []⟩, 
  ⟨(some (81)), .move (.tmp 14), (some (80, true)), []⟩, 
  ⟨(some (82)), .bin .plain .neq (.tmp 81) (.const (.int .i64 12)), (some (80, true)), []⟩, 
  ⟨(some (83)), .pick (.tmp 80) (.tmp 82) (.const (.bool false)), (some (77, false)), []⟩, 
  ⟨(some (84)), .pick (.tmp 77) (.const (.bool true)) (.tmp 83), none, []⟩]
def k_law07_GaugeRises_r8 : List AOper := [
  ⟨(some (6)), .move (.const (.bool false)), none, []⟩]
def k_law07_GaugeRises_r9 : List AOper := [
  ⟨(some (85)), .move (.tmp 8), none, []⟩, 
  ⟨(some (86)), .call (.const (.fn (.func 21) [] [])) [.tmp 85], none, []⟩, 
  ⟨(some (15)), .move (.tmp 86), none, []⟩]
def k_law07_GaugeRises_r10 : List AOper := [
  ⟨(some (16)), .move (.const (.int .i64 0)), none, []⟩]
def k_law07_GaugeRises_r11 : List AOper := [
  ⟨(some (87)), .move (.tmp 16), none, []⟩, 
  ⟨(some (88)), .move (.tmp 15), none, []⟩, 
  ⟨(some (89)), .len false (.tmp 88), none, []⟩, 
  ⟨(some (90)), .bin .plain .lss (.tmp 87) (.tmp 89), none, []⟩]
def k_law07_GaugeRises_r12 : List AOper := [
  ⟨(some (93)), .move (.tmp 15), none, []⟩, 
  ⟨(some (94)), .move (.tmp 16), none, [0]⟩, 
  ⟨(some (95)), .move (.tmp 15), none, [0, 1]⟩, 
  ⟨(some (96)), .move (.tmp 16), none, [0, 1, 2]⟩, 
  ⟨(some (97)), .move (.tmp 7), none, [0, 1, 2, 3]⟩, 
  ⟨(some (98)), .move (.tmp 8), none, [0, 1, 2, 3, 4]⟩, 
  ⟨(some (99)), .move (.tmp 16), none, [0, 1, 2, 3, 4, 5]⟩, 
  ⟨(some (100)), .indexAddr 7 (.tmp 98) (.tmp 99), none, [0, 1, 2, 3, 4]⟩, 
  ⟨(some (101)), .fieldAddr 0 (.tmp 100), none, [0, 1, 2, 3, 4]⟩, 
  ⟨(some (102)), .fieldAddr 0 (.tmp 101), none, [0, 1, 2, 3, 4]⟩, 
  ⟨(some (103)), .load none (.tmp 102), none, [0, 1, 2, 3, 4]⟩, 
  ⟨(some (104)), .move (.tmp 8), none, [0, 1, 2, 3, 4, 5, 6, 7, 8, 9, 10]⟩, 
  ⟨(some (105)), .move (.tmp 16), none, [0, 1, 2, 3, 4, 5, 6, 7, 8, 9, 10, 11]⟩, 
  ⟨(some (106)), .indexAddr 7 (.tmp 104) (.tmp 105), none, [0, 1, 2, 3, 4, 5, 6, 7, 8, 9, 10]⟩, 
  ⟨(some (107)), .fieldAddr 0 (.tmp 106), none, [0, 1, 2, 3, 4, 5, 6, 7, 8, 9, 10]⟩, 
  ⟨(some (108)), .fieldAddr 1 (.tmp 107), none, [0, 1, 2, 3, 4, 5, 6, 7, 8, 9, 10]⟩, 
  ⟨(some (109)), .load none (.tmp 108), none, [0, 1, 2, 3, 4, 5, 6, 7, 8, 9, 10]⟩, 
  ⟨(some (110)), .call (.const (.fn (.func 41) [] [])) [.tmp 97, .tmp 103, .tmp 109], none, [0, 1, 2, 3]⟩, 
  ⟨(some (111)), .move (.tmp 7), none, [0, 1, 2, 3, 4, 5, 6, 7, 8, 9, 10, 11, 12, 13, 14, 15, 16, 17]⟩, 
  ⟨(some (112)), .move (.tmp 8), none, [0, 1, 2, 3, 4, 5, 6, 7, 8, 9, 10, 11, 12, 13, 14, 15, 16, 17, 18]⟩, 
  ⟨(some (113)), .move (.tmp 16), none, [0, 1, 2, 3, 4, 5, 6, 7, 8, 9, 10, 11, 12, 13, 14, 15, 16, 17, 18, 19]⟩, 
  ⟨(some (114)), .indexAddr 7 (.tmp 112) (.tmp 113), none, [0, 1, 2, 3, 4, 5, 6, 7, 8, 9, 10, 11, 12, 13, 14, 15, 16, 17, 18]⟩, 
  ⟨(some (115)), .fieldAddr 2 (.tmp 114), none, [0, 1, 2, 3, 4, 5, 6, 7, 8, 9, 10, 11, 12, 13, 14, 15, 16, 17, 18]⟩, 
  ⟨(some (116)), .fieldAddr 0 (.tmp 115), none, [0, 1, 2, 3, 4, 5, 6, 7, 8, 9, 10, 11, 12, 13, 14, 15, 16, 17, 18]⟩, 
  ⟨(some (117)), .load none (.tmp 116), none, [0, 1, 2, 3, 4, 5, 6, 7, 8, 9, 10, 11, 12, 13, 14, 15, 16, 17, 18]⟩, 
  ⟨(some (118)), .move (.tmp 8), none, [0, 1, 2, 3, 4, 5, 6, 7, 8, 9, 10, 11, 12, 13, 14, 15, 16, 17, 18, 19, 20, 21, 22, 23, 24]⟩, 
  ⟨(some (119)), .move (.tmp 16), none, [0, 1, 2, 3, 4, 5, 6, 7, 8, 9, 10, 11, 12, 13, 14, 15, 16, 17, 18, 19, 20, 21, 22, 23, 24, 25]⟩, 
  ⟨(some (120)), .indexAddr 7 (.tmp 118) (.tmp 119), none, [0, 1, 2, 3, 4, 5, 6, 7, 8, 9, 10, 11, 12, 13, 14, 15, 16, 17, 18, 19, 20, 21, 22, 23, 24]⟩, 
  ⟨(some (121)), .fieldAddr 2 (.tmp 120), none, [0, 1, 2, 3, 4, 5, 6, 7, 8, 9, 10, 11, 12, 13, 14, 15, 16, 17, 18, 19, 20, 21, 22, 23, 24]⟩, 
  ⟨(some (122)), .fieldAddr 1 (.tmp 121), none, [0, 1, 2, 3, 4, 5, 6, 7, 8, 9, 10, 11, 12, 13, 14, 15, 16, 17, 18, 19, 20, 21, 22, 23, 24]⟩, 
  ⟨(some (123)), .load none (.tmp 122), none, [0, 1, 2, 3, 4, 5, 6, 7, 8, 9, 10, 11, 12, 13, 14, 15, 16, 17, 18, 19, 20, 21, 22, 23, 24]⟩, 
  ⟨(some (124)), .call (.const (.fn (.func 41) [] [])) [.tmp 111, .tmp 117, .tmp 123], none, [0, 1, 2, 3]⟩, 
  ⟨(some (125)), .indexAddr 7 (.tmp 93) (.tmp 94), none, [2, 3]⟩, 
  ⟨(some (126)), .fieldAddr 0 (.tmp 125), none, [2, 3]⟩, 
  ⟨none, .store 2 (.tmp 126) (.tmp 110), none, [2, 3]⟩, 
  ⟨(some (127)), .indexAddr 7 (.tmp 95) (.tmp 96), none, []⟩, 
  ⟨(some (128)), .fieldAddr 2 (.tmp 127), none, []⟩, 
  ⟨none, .store 2 (.tmp 128) (.tmp 124), none, []⟩]
def k_law07_GaugeRises_r12s : List (List AOper) := [
  [
  ⟨(some (93)), .move (.tmp 15), none, []⟩, 
  ⟨(some (94)), .move (.tmp 16), none, [0]⟩, 
  ⟨(some (95)), .move (.tmp 15), none, [0, 1]⟩, 
  ⟨(some (96)), .move (.tmp 16), none, [0, 1, 2]⟩, 
  ⟨(some (97)), .move (.tmp 7), none, [0, 1, 2, 3]⟩, 
  ⟨(some (98)), .move (.tmp 8), none, [0, 1, 2, 3, 4]⟩, 
  ⟨(some (99)), .move (.tmp 16), none, [0, 1, 2, 3, 4, 5]⟩, 
  ⟨(some (100)), .indexAddr 7 (.tmp 98) (.tmp 99), none, [0, 1, 2, 3, 4]⟩, 
  ⟨(some (101)), .fieldAddr 0 (.tmp 100), none, [0, 1, 2, 3, 4]⟩, 
  ⟨(some (102)), .fieldAddr 0 (.tmp 101), none, [0, 1, 2, 3, 4]⟩, 
  ⟨(some (103)), .load none (.tmp 102), none, [0, 1, 2, 3, 4]⟩, 
  ⟨(some (104)), .move (.tmp 8), none, [0, 1, 2, 3, 4, 5, 6, 7, 8, 9, 10]⟩, 
  ⟨(some (105)), .move (.tmp 16), none, [0, 1, 2, 3, 4, 5, 6, 7, 8, 9, 10, 11]⟩, 
  ⟨(some (106)), .indexAddr 7 (.tmp 104) (.tmp 105), none, [0, 1, 2, 3, 4, 5, 6, 7, 8, 9, 10]⟩, 
  ⟨(some (107)), .fieldAddr 0 (.tmp 106), none, [0, 1, 2, 3, 4, 5, 6, 7, 8, 9, 10]⟩, 
  ⟨(some (108)), .fieldAddr 1 (.tmp 107), none, [0, 1, 2, 3, 4, 5, 6, 7, 8, 9, 10]⟩, 
  ⟨(some (109)), .load none (.tmp 108), none, [0, 1, 2, 3, 4, 5, 6, 7, 8, 9, 10]⟩, 
  ⟨(some (110)), .call (.const (.fn (.func 41) [] [])) [.tmp 97, .tmp 103, .tmp 109], none, [0, 1, 2, 3]⟩, 
  ⟨(some (111)), .move (.tmp 7), none, [0, 1, 2, 3, 4, 5, 6, 7, 8, 9, 10, 11, 12, 13, 14, 15, 16, 17]⟩, 
  ⟨(some (112)), .move (.tmp 8), none, [0, 1, 2, 3, 4, 5, 6, 7, 8, 9, 10, 11, 12, 13, 14, 15, 16, 17, 18]⟩, 
  ⟨(some (113)), .move (.tmp 16), none, [0, 1, 2, 3, 4, 5, 6, 7, 8, 9, 10, 11, 12, 13, 14, 15, 16, 17, 18, 19]⟩, 
  ⟨(some (114)), .indexAddr 7 (.tmp 112) (.tmp 113), none, [0, 1, 2, 3, 4, 5, 6, 7, 8, 9, 10, 11, 12, 13, 14, 15, 16, 17, 18]⟩, 
  ⟨(some (115)), .fieldAddr 2 (.tmp 114), none, [0, 1, 2, 3, 4, 5, 6, 7, 8, 9, 10, 11, 12, 13, 14, 15, 16, 17, 18]⟩, 
  ⟨(some (116)), .fieldAddr 0 (.tmp 115), none, [0, 1, 2, 3, 4, 5, 6, 7, 8, 9, 10, 11, 12, 13, 14, 15, 16, 17, 18]⟩, 
  ⟨(some (117)), .load none (.tmp 116), none, [0, 1, 2, 3, 4, 5, 6, 7, 8, 9, 10, 11, 12, 13, 14, 15, 16, 17, 18]⟩, 
  ⟨(some (118)), .move (.tmp 8), none, [0, 1, 2, 3, 4, 5, 6, 7, 8, 9, 10, 11, 12, 13, 14, 15, 16, 17, 18, 19, 20, 21, 22, 23, 24]⟩, 
  ⟨(some (119)), .move (.tmp 16), none, [0, 1, 2, 3, 4, 5, 6, 7, 8, 9, 10, 11, 12, 13, 14, 15, 16, 17, 18, 19, 20, 21, 22, 23, 24, 25]⟩, 
  ⟨(some (120)), .indexAddr 7 (.tmp 118) (.tmp 119), none, [0, 1, 2, 3, 4, 5, 6, 7, 8, 9, 10, 11, 12, 13, 14, 15, 16, 17, 18, 19, 20, 21, 22, 23, 24]⟩, 
  ⟨(some (121)), .fieldAddr 2 (.tmp 120), none, [0, 1, 2, 3, 4, 5, 6, 7, 8, 9, 10, 11, 12, 13, 14, 15, 16, 17, 18, 19, 20, 21, 22, 23, 24]⟩, 
  ⟨(some (122)), .fieldAddr 1 (.tmp 121), none, [0, 1, 2, 3, 4, 5, 6, 7, 8, 9, 10, 11, 12, 13, 14, 15, 16, 17, 18, 19, 20, 21, 22, 23, 24]⟩, 
  ⟨(some (123)), .load none (.tmp 122), none, [0, 1, 2, 3, 4, 5, 6, 7, 8, 9, 10, 11, 12, 13, 14, 15, 16, 17, 18, 19, 20, 21, 22, 23, 24]⟩, 
  ⟨(some (124)), .call (.const (.fn (.func 41) [] [])) [.tmp 111, .tmp 117, .tmp 123], none, [0, 1, 2, 3]⟩, 
  ⟨(some (125)), .indexAddr 7 (.tmp 93) (.tmp 94), none, [2, 3]⟩, 
  ⟨(some (126)), .fieldAddr 0 (.tmp 125), none, [2, 3]⟩, 
  ⟨none, .store 2 (.tmp 126) (.tmp 110), none, [2, 3]⟩], 
  [
  ⟨(some (127)), .indexAddr 7 (.tmp 95) (.tmp 96), none, []⟩], 
  [
  ⟨(some (128)), .fieldAddr 2 (.tmp 127), none, []⟩], 
  [
  ⟨none, .store 2 (.tmp 128) (.tmp 124), none, []⟩]]
theorem k_law07_GaugeRises_r12_sg : segs k_law07_GaugeRises_r12 = k_law07_GaugeRises_r12s := by kernel_rfl
theorem k_law07_GaugeRises_r12_st : statOK k_law07_GaugeRises_r12 = true := by kernel_rfl
def k_law07_GaugeRises_r13 : List AOper := [
  ⟨(some (91)), .move (.tmp 16), none, []⟩, 
  ⟨(some (92)), .bin .plain .add (.tmp 91) (.const (.int .i64 1)), none, []⟩, 
  ⟨(some (16)), .move (.tmp 92), none, []⟩]
def k_law07_GaugeRises_r14 : ACode := (.seq (.seq (.reg k_law07_GaugeRises_r11 false) (.cond (.tmp 90) .skip (.exit 0))) (.seq (.block 1 (.reg k_law07_GaugeRises_r12 true)) (.reg k_law07_GaugeRises_r13 false)))
def k_law07_GaugeRises_r15 : List AOper := [
  ⟨(some (130)), .move (.tmp 15), none, []⟩, 
  ⟨(some (131)), .move (.tmp 9), none, []⟩, 
  ⟨(some (132)), .move (.tmp 10), none, []⟩, 
  ⟨(some (133)), .call (.const (.fn (.func 32) [] [])) [.tmp 130, .tmp 131, .tmp 132], none, []⟩, 
  ⟨(some (129)), .move (.tmp 133), none, []⟩, 
  ⟨(some (134)), .extract (.tmp 129) 0, none, []⟩, 
  ⟨(some (135)), .extract (.tmp 129) 1, none, []⟩, 
  ⟨(some (17)), .box (.const (.agg [.int .i64 0, .int .i64 0])), none, []⟩, 
  ⟨none, .store 2 (.tmp 17) (.tmp 134), none, []⟩, 
  ⟨(some (18)), .move (.tmp 135), none, []⟩]
def k_law07_GaugeRises_r16 : List AOper := [
  ⟨(some (136)), .move (.tmp 18), none, []⟩, 
  ⟨(some (137)), .bin .plain .eql (.tmp 136) (.const (.int .i64 12)), none, []⟩, 
  ⟨(some (138)), .move (.tmp 137), none, []⟩, 
  ⟨(some (139)), .move (.tmp 18), (some (138, false)), []⟩, 
  ⟨(some (140)), .bin .plain .eql (.tmp 139) (.const (.int .i64 0)), (some (138, false)), []⟩, 
  ⟨(some (141)), .move (.tmp 140), (some (138, false)), []⟩, 
  ⟨(some (142)), .load (some (2)) (.tmp 17), (some (141, true)), []⟩, 
  ⟨(some (143)), .load (some (2)) (.tmp 11), (some (141, true)), []⟩, 
  ⟨(some (144)), .call (.const (.fn (.func 49) [] [])) [.tmp 142, .tmp 143], (some (141, true)), []⟩, 
  ⟨(some (145)), .pick (.tmp 141) (.tmp 144) (.const (.bool false)), (some (138, false)), []⟩, 
  ⟨(some (146)), .pick (.tmp 138) (.const (.bool true)) (.tmp 145), none, []⟩, 
  ⟨(some (147)), .move (.tmp 146), none, []⟩, 
  ⟨(some (148)), .call (.const (.fn (.func 15) [] [])) [], (some (147, true)), []⟩, 
  ⟨(some (149)), .pick (.tmp 147) (.tmp 148) (.const (.bool false)), none, []⟩, 
  ⟨(some (6)), .move (.tmp 149), none, []⟩]
def k_law07_GaugeRises : AFun := { params := 3, ntmps := 150, body := (.seq (.reg k_law07_GaugeRises_r0 false) (.seq (.reg k_law07_GaugeRises_r1 false) (.seq (.reg k_law07_GaugeRises_r2 false) (.seq (.reg k_law07_GaugeRises_r3 false) (.seq (.reg k_law07_GaugeRises_r4 false) (.seq (.reg k_law07_GaugeRises_r5 false) (.seq (.reg k_law07_GaugeRises_r6 true) (.seq (.seq (.reg k_law07_GaugeRises_r7 false) (.cond (.tmp 84) (.seq (.reg k_law07_GaugeRises_r8 false) .ret) .skip)) (.seq (.reg k_law07_GaugeRises_r9 false) (.seq (.seq (.reg k_law07_GaugeRises_r10 false) (.block 0 (.loop k_law07_GaugeRises_r14))) (.seq (.reg k_law07_GaugeRises_r15 false) (.seq (.reg k_law07_GaugeRises_r16 false) .ret)))))))))))), res := [.tmp 6] }
theorem k_law07_GaugeRises_ok : cfun Tryd.prog Tryd.f11 = k_law07_GaugeRises := by kernel_rfl

def k_kit_OwnBench_r0 : List AOper := [
  ⟨(some (2)), .move (.const (.nilsl)), none, []⟩]
def k_kit_OwnBench_r1 : List AOper := [
  ⟨(some (3)), .buildSlice 7 [], none, []⟩, 
  ⟨(some (4)), .move (.tmp 0), none, []⟩, 
  ⟨(some (5)), .append 7 56 true (.tmp 3) (.tmp 4), none, []⟩, 
  ⟨(some (2)), .move (.tmp 5), none, []⟩]
def k_kit_OwnBench : AFun := { params := 1, ntmps := 6, body := (.seq (.reg k_kit_OwnBench_r0 false) (.seq (.reg k_kit_OwnBench_r1 false) .ret)), res := [.tmp 2] }
theorem k_kit_OwnBench_ok : cfun Tryd.prog Tryd.f21 = k_kit_OwnBench := by kernel_rfl

def k_kit_Within_r0 : List AOper := [
  ⟨(some (2)), .box (.tmp 0), none, []⟩, 
  ⟨(some (3)), .box (.tmp 1), none, []⟩, 
  ⟨(some (4)), .move (.const (.bool false)), none, []⟩]
def k_kit_Within_r1 : List AOper := [
  ⟨(some (5)), .fieldAddr 0 (.tmp 2), none, []⟩, 
  ⟨(some (6)), .load none (.tmp 5), none, []⟩, 
  ⟨(some (7)), .fieldAddr 0 (.tmp 3), none, []⟩, 
  ⟨(some (8)), .load none (.tmp 7), none, []⟩, 
  ⟨(some (9)), .bin .plain .geq (.tmp 6) (.tmp 8), none, []⟩, 
  ⟨(some (10)), .move (.tmp 9), none, []⟩, 
  ⟨(some (11)), .fieldAddr 1 (.tmp 2), (some (10, true)), []⟩, 
  ⟨(some (12)), .load none (.tmp 11), (some (10, true)), []⟩, 
  ⟨(some (13)), .fieldAddr 1 (.tmp 3), (some (10, true)), []⟩, 
  ⟨(some (14)), .load none (.tmp 13), (some (10, true)), []⟩, 
  ⟨(some (15)), .bin .plain .leq (.tmp 12) (.tmp 14), (some (10, true)), []⟩, 
  ⟨(some (16)), .pick (.tmp 10) (.tmp 15) (.const (.bool false)), none, []⟩, 
  ⟨(some (4)), .move (.tmp 16), none, []⟩]
def k_kit_Within : AFun := { params := 2, ntmps := 17, body := (.seq (.reg k_kit_Within_r0 false) (.seq (.reg k_kit_Within_r1 false) .ret)), res := [.tmp 4] }
theorem k_kit_Within_ok : cfun Tryd.prog Tryd.f49 = k_kit_Within := by kernel_rfl


abbrev n_law07_GaugeRises : Nat := 11
theorem e_law07_GaugeRises : EntryOK Tryd.prog n_law07_GaugeRises k_law07_GaugeRises := ⟨Tryd.f11, Tryd.func11, k_law07_GaugeRises_ok, by kernel_rfl⟩
abbrev n_kit_OwnBench : Nat := 21
theorem e_kit_OwnBench : EntryOK Tryd.prog n_kit_OwnBench k_kit_OwnBench := ⟨Tryd.f21, Tryd.func21, k_kit_OwnBench_ok, by kernel_rfl⟩
abbrev n_kit_Within : Nat := 49
theorem e_kit_Within : EntryOK Tryd.prog n_kit_Within k_kit_Within := ⟨Tryd.f49, Tryd.func49, k_kit_Within_ok, by kernel_rfl⟩

attribute [go_sem] k_law07_GaugeRises_r0 k_law07_GaugeRises_r1 k_law07_GaugeRises_r2 k_law07_GaugeRises_r3 k_law07_GaugeRises_r4 k_law07_GaugeRises_r5 k_law07_GaugeRises_r6s k_law07_GaugeRises_r7 k_law07_GaugeRises_r8 k_law07_GaugeRises_r9 k_law07_GaugeRises_r10 k_law07_GaugeRises_r11
attribute [go_sem] k_law07_GaugeRises_r12s k_law07_GaugeRises_r13 k_law07_GaugeRises_r15 k_law07_GaugeRises_r16 k_kit_OwnBench_r0 k_kit_OwnBench_r1 k_kit_Within_r0 k_kit_Within_r1 k_law07_GaugeRises_r6_sg k_law07_GaugeRises_r12_sg k_law07_GaugeRises_r6_st k_law07_GaugeRises_r12_st
attribute [go_sem] k_law07_GaugeRises k_kit_OwnBench k_kit_Within
end Go.Proofs

namespace Go.Gauge

def bdB (B : Int) : Nat → Int
  | 0 => B
  | n + 1 => 2 * bdB B n + 1000000
theorem Rd.bdB {bs : List Mt} {B : Int} : ∀ {l : List Int} {x v : Int}, (∀ m ∈ l, MtOK (mt bs m)) → -B ≤ x ∧ x ≤ B → Rd bs l x v → -bdB B l.length ≤ v ∧ v ≤ bdB B l.length
  | [], x, v, _, hx, h => by cases h; exact hx
  | m :: ms, x, v, hm, hx, ⟨u, h1, h2, h3⟩ => by
    have := Rd.bdB (fun k hk => hm k (List.mem_cons_of_mem _ hk)) hx h1
    have h4 := mk_bd (hm m List.mem_cons_self) this
    simp only [List.length_cons, Gauge.bdB]; omega
theorem bdB_mono {B : Int} (hB : 0 ≤ B) {a b : Nat} (h : a ≤ b) : Gauge.bdB B a ≤ Gauge.bdB B b := by
  have h1 : ∀ n, 0 ≤ Gauge.bdB B n := fun n => by induction n with | zero => exact hB | succ n ih => unfold Gauge.bdB; omega
  induction h with
  | refl => exact Int.le_refl _
  | step _ ih =>
    rename_i m _
    have := h1 m
    have e : Gauge.bdB B m.succ = 2 * Gauge.bdB B m + 1000000 := rfl
    omega

end Go.Gauge

namespace Go.Gauge

structure NarB (bs nb : List Mt) : Prop where
  len : nb.length = bs.length
  at_ : ∀ (i : Nat) (x y : Mt), bs[i]? = some x → nb[i]? = some y → MtOK y ∧ Nar x y ∧ y.step = x.step ∧ y.cmp = x.cmp
theorem NarB.refl {bs : List Mt} (h : ∀ x ∈ bs, MtOK x) : NarB bs bs := ⟨rfl, fun i x y hx hy => by
  rw [hx] at hy; cases hy
  exact ⟨h x (List.mem_of_getElem? hx), ⟨⟨Int.le_refl _, Int.le_refl _⟩, ⟨Int.le_refl _, Int.le_refl _⟩⟩, rfl, rfl⟩⟩
theorem NarB.set {bs nb : List Mt} (h : NarB bs nb) {i : Nat} {x z : Mt} (hx : bs[i]? = some x) (hz : MtOK z ∧ Nar x z ∧ z.step = x.step ∧ z.cmp = x.cmp) : NarB bs (nb.set i z) := by
  refine ⟨by rw [List.length_set]; exact h.len, fun j u v hu hv => ?_⟩
  by_cases e : i = j
  · subst e
    have hl := (List.getElem?_eq_some_iff.1 hx).1
    rw [List.getElem?_set_self (by rw [h.len]; exact hl)] at hv
    rw [hx] at hu
    cases hu; cases hv; exact hz
  · rw [List.getElem?_set_ne e] at hv
    exact h.at_ j u v hu hv
theorem NarB.cmp {bs nb : List Mt} (h : NarB bs nb) (m : Int) : (mt bs m).cmp = (mt nb m).cmp := by
  unfold mt
  simp only [List.getD_eq_getElem?_getD]
  by_cases hl : m.toNat < bs.length
  · have h1 := List.getElem?_eq_getElem hl
    have h2 := List.getElem?_eq_getElem (l := nb) (i := m.toNat) (by rw [h.len]; exact hl)
    have := (h.at_ _ _ _ h1 h2).2.2.2
    rw [h1, h2]; exact this.symm
  · rw [List.getElem?_eq_none (by omega), List.getElem?_eq_none (by rw [h.len]; omega)]
theorem NarB.mt {bs nb : List Mt} (h : NarB bs nb) {m : Int} (h0 : 0 ≤ m) (h1 : m < bs.length) : MtOK (mt nb m) ∧ Nar (mt bs m) (mt nb m) ∧ (mt nb m).step = (mt bs m).step :=
  have := h.at_ _ _ _ (mt_get h0 h1) (mt_get h0 (by rw [h.len]; exact h1))
  ⟨this.1, this.2.1, this.2.2.1⟩
theorem NarB.vb {bs nb : List Mt} (h : NarB bs nb) (hb : VB bs) : VB nb := by
  have key : ∀ y ∈ nb, MtOK y ∧ -1 ≤ y.cmp ∧ y.cmp < bs.length := fun y hy => by
    obtain ⟨i, hi, rfl⟩ := List.mem_iff_getElem.1 hy
    have hib : i < bs.length := by rw [← h.len]; exact hi
    have h2 := h.at_ i _ _ (List.getElem?_eq_getElem hib) (List.getElem?_eq_getElem hi)
    have h3 := hb.cmp _ (List.getElem_mem hib)
    rw [h2.2.2.2]
    exact ⟨h2.1, h3⟩
  refine ⟨by rw [h.len]; exact hb.len, fun y hy => (key y hy).1, fun y hy => by rw [h.len]; exact (key y hy).2, fun m h0 h1 => ?_⟩
  rw [h.len] at h1 ⊢
  rw [← chL_cmp h.cmp]
  exact hb.ends m h0 h1
theorem NarB.ch {bs nb : List Mt} (h : NarB bs nb) (m : Int) : ch nb m = ch bs m := by
  unfold Gauge.ch
  rw [h.len, chL_cmp h.cmp]
theorem tru_nar {bs nb : List Mt} (hb : VB bs) (h : NarB bs nb) {m n a b c d : Int} (h0 : 0 ≤ m) (h1 : m < bs.length) (e : tru bs m n = some (a, b)) (e' : tru nb m n = some (c, d)) : a ≤ c ∧ d ≤ b := by
  have hst := (h.mt h0 h1).2.2
  have hm := ch_mem hb _ m rfl (by omega) h1
  unfold tru at e e'
  rw [h.ch, hst] at e'
  split at e'
  · cases e'
  · rename_i c' d' hc'
    obtain ⟨c2, d2, h3, h4, h5⟩ := tfr_nar (bs := bs) (bs' := nb) (fun k hk => ⟨hb.all _ (mt_mem (hm k hk).1 (hm k hk).2), (h.mt (hm k hk).1 (hm k hk).2).1, (h.mt (hm k hk).1 (hm k hk).2).2.1⟩) (Int.le_refl _) (Int.le_refl _) hc'
    rw [h3] at e
    dsimp only at e
    split at e
    · cases e
    · split at e'
      · cases e'
      · cases e; cases e'; omega
end Go.Gauge

namespace Go.Proofs
open Go Go.Sx Go.Gauge
attribute [local irreducible] Run

theorem showR_bd {bs : List Mt} (h : VB bs) {m x w B : Int} (h0 : 0 ≤ m) (h1 : m < bs.length) (hx : -B ≤ x ∧ x ≤ B) :
    -(bdB B bs.length + (mt bs m).step) ≤ (showR bs m x w).1 ∧ (showR bs m x w).1 ≤ bdB B bs.length + (mt bs m).step := by
  have hs := (h.all _ (mt_mem h0 h1)).s
  have hm := ch_mem h _ m rfl (by omega) h1
  have hl := ch_len h (show -1 ≤ m by omega) h1
  have hr : Rd bs (ch bs m) x (shw bs (upto w 3) (ch bs m) x (dstep w)).1 := shw_rd fun k hk => h.all _ (mt_mem (hm k hk).1 (hm k hk).2)
  have hb := hr.bdB (fun k hk => h.all _ (mt_mem (hm k hk).1 (hm k hk).2)) hx
  have hmo := bdB_mono (B := B) (by omega) hl
  have hn := shN_near (mt bs m) (shw bs (upto w 3) (ch bs m) x (dstep w)).1 (shw bs (upto w 3) (ch bs m) x (dstep w)).2 hs.1
  unfold showR
  omega
theorem bk4 (w : Int) : AnsE Tryd.prog n_kit_BenchOf [.ptr 0 0 0 1, .int .i64 4] [some (Dr w)] (fun a : List Mt × Int => BkOK a.1 ∧ 1 ≤ a.1.length ∧ a.1.length ≤ 4) (fun a => .sl 1 0 a.1.length) (fun a => [some (Dr a.2), some (.cells true 7 (a.1.map Mv))]) := benchOf_run w (N := 4) (by decide)
theorem Within_run (a b c d : Int) : Ans Tryd.prog n_kit_Within [r2 a b, r2 c d] [] (.bool (decide (c ≤ a ∧ b ≤ d))) [] := by
  refine spec_run e_kit_Within fun G => ?_
  by_cases h1 : c ≤ a
  · by_cases h2 : b ≤ d <;> simp only [go_sem, r2, h1, h2]
  · simp only [go_sem, r2, h1]
theorem ownBench_run {bs : List Mt} (hl : bs.length ≤ 12) : Ans Tryd.prog n_kit_OwnBench [.view (bs.map Mv)] [] (.sl 0 0 bs.length) [some (.cells true 7 (bs.map Mv))] := by
  refine Ans.keep (run_fn e_kit_OwnBench fun G => ?_) (by simp) (by simp [go_sem]) ⟨by rw [row_bel_cells]; simp only [go_sem], trivial⟩
  have hq : bs.length * 56 ≤ 2 ^ 44 := by omega
  simp only [go_sem, List.length_map, hq]
  have hsz : sizedAll 7 (bs.map Mv) = true := by
    unfold sizedAll
    rw [List.all_eq_true]
    intro v hv
    obtain ⟨z, _, rfl⟩ := List.mem_map.1 hv
    rfl
  refine ⟨by rw [hsz]; decide, kept_one 0 ?_ ?_ rfl⟩
  · simp [ren]
  · rw [row_bel_cells]; simp only [go_sem]

set_option maxHeartbeats 8000000 in
set_option maxRecDepth 10000 in
theorem rises_law (zs : List Int) (hl : zs.length ≤ 9223372036854775807) (a1 a2 : Int) : Ans Tryd.prog n_law07_GaugeRises [.view (zs.map (.int .i64)), .int .i64 a1, .int .i64 a2] [] (.bool true) [] := by
  have m1 := mod_in a1 200001 (by omega)
  have e1 := mod_pos a1 200001 (by omega)
  have m2 := mod_in a2 50 (by omega)
  have e2 := mod_pos a2 50 (by omega)
  obtain ⟨s, hs⟩ : ∃ s, a1 % 200001 = s := ⟨_, rfl⟩
  obtain ⟨t, ht⟩ : ∃ t, a2 % 50 = t := ⟨_, rfl⟩
  rw [hs] at m1 e1
  rw [ht] at m2 e2
  refine spec_run e_law07_GaugeRises fun G => ?_
  simp only [go_sem]
  refine callN1 (newdice_ok zs hl) (by simp only [go_sem]) (dr_bel _ _) (by simp) (by simp) ?_
  generalize seedW zs = w
  simp only [go_sem]
  refine callDN (bk4 w) rfl (by simp only [go_sem]) (dr_bel _ _) (fun a ha => ⟨by simp [go_sem], dr_bel _ _, bk_bel _ _ _⟩) (by simp) (by simp) ?_
  rintro ⟨bs, w2⟩ ⟨hb, hb1, hb2⟩
  dsimp only at hb hb1 hb2 ⊢
  have hv := hb.vb (by omega)
  have u1 := upto_in (w := w2) (n := bs.length) (by omega)
  simp only [go_sem, ren, rens]
  refine cD (upto_ok w2 bs.length (by omega)) ?_
  obtain ⟨m, hm⟩ : ∃ m, upto w2 bs.length = m := ⟨_, rfl⟩
  rw [hm] at u1 ⊢
  have hxm := mt_get u1.1 u1.2
  have hst := (hb.all _ (mt_mem u1.1 u1.2)).2
  have hst1 := (hb.all _ (mt_mem u1.1 u1.2)).1.s
  have n0 : ¬ m < 0 := by omega
  obtain ⟨x, hx⟩ : ∃ x, s - 100000 = x := ⟨_, rfl⟩
  have hxb : -100000 ≤ x ∧ x ≤ 100000 := by omega
  have w2' : IntKind.i64.wrap x = x := w64 (by omega)
  simp only [go_sem]
  refine cP e1 ?_
  simp only [go_sem, hx, w2']
  have sh := Showing_run hv u1.1 u1.2 (x := x) (by omega) (dstep w2) true
  have sb := showR_bd hv u1.1 u1.2 (x := x) (w := dstep w2) (B := 100000) hxb
  obtain ⟨smul, a, b, htr, hax, hxb2⟩ := showR_ok hv u1.1 u1.2 (x := x) (w := dstep w2) (by omega)
  obtain ⟨p, hp⟩ : ∃ p, showR bs m x (dstep w2) = p := ⟨_, rfl⟩
  rw [hp] at sh sb smul htr
  have sb2 : bdB 100000 bs.length ≤ 16600000 := Int.le_trans (bdB_mono (by decide) hb2) (by decide)
  refine cS2 sh (j0 := 0) (j1 := 1) rfl (by simp [go_sem]) rfl rfl (dr_bel _ _) (bk_bel _ _ _) (dr_bel _ _) (bk_bel _ _ _) (by decide) (.int _ _) (by simp) (by simp) ?_
  have kt := True_run hv u1.1 u1.2 (n := p.1) (by omega) smul
  rw [htr] at kt
  simp only [truV] at kt
  simp only [go_sem]
  refine cF kt 6 ⟨.inl (bs_frz (g := true) rfl rfl), .inl rfl, .inl rfl, trivial⟩ ?_
  have pb : 0 ≤ (mt bs m).step * t ∧ (mt bs m).step * t ≤ 50000 := by
    have g1 := Int.mul_nonneg (show 0 ≤ (mt bs m).step by omega) m2.1
    have g2 := Int.mul_le_mul_of_nonneg_left (show t ≤ 49 by omega) (show 0 ≤ (mt bs m).step by omega)
    omega
  have w3 : IntKind.i64.wrap ((mt bs m).step * t) = (mt bs m).step * t := w64 (by omega)
  have w4 : IntKind.i64.wrap (p.1 + (mt bs m).step * t) = p.1 + (mt bs m).step * t := w64 (by omega)
  have nmul : (p.1 + (mt bs m).step * t) % (mt bs m).step = 0 := by rw [Int.add_mul_emod_self_left]; exact smul
  simp only [go_sem, n0, hxm, u1.2, Mv, Mc, List.length_map]
  refine dP e2 ?_
  simp only [go_sem, w3, w4]
  have kt2 := True_run hv u1.1 u1.2 (n := p.1 + (mt bs m).step * t) (by omega) nmul
  have hmono := fun c d e => tru_mono hv u1.1 u1.2 (n := p.1) (n' := p.1 + (mt bs m).step * t) (by omega) htr (a' := c) (b' := d) e
  obtain ⟨n2, hn2⟩ : ∃ n2, p.1 + (mt bs m).step * t = n2 := ⟨_, rfl⟩
  rw [hn2] at kt2 hmono ⊢
  rcases htr2 : tru bs m n2 with _ | ⟨c, d⟩
  · rw [htr2] at kt2
    simp only [truV] at kt2
    refine dF kt2 6 [1] ⟨.inl (bs_frz (g := true) (onlyR_row rfl (by simp)) rfl), .inl rfl, .inl rfl, trivial⟩ ?_
    simp only [go_sem]
    refine cFN (ownBench_run (bs := bs) (by omega)) 6 ⟨.inl (bs_frz (g := true) rfl rfl), trivial⟩ ?_ (hx := bk_bel _ _ _) (hxn := row_nv_cells _ _ (by simp only [go_sem]))
    simp only [go_sem, ren, rens]
    refine loop_ind k_law07_GaugeRises_r14.eq_1 (fun q : Nat × Int × List Mt => q.1 ≤ bs.length ∧ NarB bs q.2.2) (fun q => bs.length - q.1)
      (fun q => (tsets 150 [(7, .ptr 0 0 0 1), (8, .sl 1 0 bs.length), (9, .int .i64 m), (10, .int .i64 p.1), (11, .ptr 2 0 0 1), (15, .sl 4 0 bs.length), (16, .int .i64 q.1)],
        [some (Dr q.2.1), some (.cells true 7 (bs.map Mv)), some (.cells false 2 [.agg [.int .i64 a, .int .i64 b]]), some (.cells false 2 [.agg [.int .i64 0, .int .i64 0]]), some (.cells true 7 (q.2.2.map Mv))])) (0, p.2, bs) ⟨Nat.zero_le _, NarB.refl hv.all⟩ (by simp [go_sem]) rfl ?_
    rintro ⟨i, wi, nb⟩ ⟨hi, hnb⟩ ih
    dsimp only at hi hnb ih ⊢
    have hnl := hnb.len
    by_cases c1 : i < bs.length
    · have c2 : (i : Int) < bs.length := by omega
      have ni : ¬ (i : Int) < 0 := by omega
      have wi1 : IntKind.i64.wrap ((i : Int) + 1) = ((i + 1 : Nat) : Int) := by rw [w64 (by omega)]; rfl
      obtain ⟨z, hz⟩ : ∃ z, bs[i]? = some z := ⟨_, List.getElem?_eq_getElem c1⟩
      obtain ⟨y, hy⟩ : ∃ y, nb[i]? = some y := ⟨_, List.getElem?_eq_getElem (by omega)⟩
      have hzo := hv.all z (List.mem_of_getElem? hz)
      have hyo := hnb.at_ i z y hz hy
      have zg := hzo.g
      have zo := hzo.o
      have r1 := range_run wi z.glo z.ghi (by omega) (by omega) (by omega)
      have r1b := rngR_in (w := wi) (lo := z.glo) (hi := z.ghi) (by omega)
      have r3 := range_run (dstep (dstep wi)) z.olo z.ohi (by omega) (by omega) (by omega)
      have r3b := rngR_in (w := dstep (dstep wi)) (lo := z.olo) (hi := z.ohi) (by omega)
      obtain ⟨g1, hg1⟩ : ∃ g1, rngR wi z.glo z.ghi = g1 := ⟨_, rfl⟩
      obtain ⟨g2, hg2⟩ : ∃ g2, rngR (dstep (dstep wi)) z.olo z.ohi = g2 := ⟨_, rfl⟩
      rw [hg1] at r1 r1b
      rw [hg2] at r3 r3b
      simp only [Rg.v] at r1 r3
      have hset : ∀ v, ((nb.map Mv).set i v)[i]? = some v := fun v => List.getElem?_set_self (by simp; omega)
      have hsz : (nb.map Mv).set i (.agg [.int .i64 g1.lo, .int .i64 g1.hi, .int .i64 g2.lo, .int .i64 g2.hi, .int .i64 y.step, .int .i64 y.cmp, .int .i64 y.due]) = (nb.set i ⟨g1.lo, g1.hi, g2.lo, g2.hi, y.step, y.cmp, y.due⟩).map Mv := by
        rw [List.map_set]; rfl
      have hn' : NarB bs (nb.set i ⟨g1.lo, g1.hi, g2.lo, g2.hi, y.step, y.cmp, y.due⟩) := by
        refine hnb.set hz ⟨⟨?_, ?_, hyo.1.s, hyo.1.d⟩, ⟨?_, ?_⟩, hyo.2.2.1, hyo.2.2.2⟩ <;> dsimp only <;> omega
      simp only [go_sem, c2, ni, hz, Mv, Mc, List.length_map, hnl]
      refine dD r1 ?_
      simp only [go_sem, c2, ni, hz, Mv, Mc, List.length_map, hnl]
      refine dD r3 ?_
      simp only [go_sem, c2, ni, hy, Mv, Mc, List.length_map, List.length_set, List.set_set, hnl, hset, wi1]
      rw [hsz]
      exact ih (i + 1, _, _) (by dsimp only; omega) ⟨c1, hn'⟩ _ (by simp [go_sem])
    · have c2 : ¬ (i : Int) < bs.length := by omega
      clear ih
      have hmt := hnb.mt u1.1 u1.2
      have kt3 := True_run (hnb.vb hv) u1.1 (by rw [hnl]; exact u1.2) (n := p.1) (by omega) (by rw [hmt.2.2]; exact smul)
      rcases htr3 : tru nb m p.1 with _ | ⟨c', d'⟩
      · rw [htr3] at kt3
        simp only [truV] at kt3
        simp only [go_sem, c2, List.length_map, hnl]
        refine cF kt3 6 ⟨.inl (bs_frz (g := true) rfl hnl.symm), .inl rfl, .inl rfl, trivial⟩ ?_
        simp only [go_sem]
        refine cP awake_ok ?_
        simp only [go_sem]
      · rw [htr3] at kt3
        simp only [truV] at kt3
        have kw := Within_run c' d' a b
        rw [decide_eq_true (tru_nar hv hnb u1.1 u1.2 htr htr3)] at kw
        simp only [r2] at kw
        simp only [go_sem, c2, List.length_map, hnl]
        refine cF kt3 6 ⟨.inl (bs_frz (g := true) rfl hnl.symm), .inl rfl, .inl rfl, trivial⟩ ?_
        simp only [go_sem]
        refine cP kw ?_
        simp only [go_sem]
        refine cP awake_ok ?_
        simp only [go_sem]
  · rw [htr2] at kt2
    simp only [truV] at kt2
    have k1 := hmono _ _ htr2
    have k2 : ¬ c < a := by omega
    have k3 : ¬ d < b := by omega
    refine dF kt2 6 [1] ⟨.inl (bs_frz (g := true) (onlyR_row rfl (by simp)) rfl), .inl rfl, .inl rfl, trivial⟩ ?_
    simp only [go_sem, k2, k3]
    refine cFN (ownBench_run (bs := bs) (by omega)) 6 ⟨.inl (bs_frz (g := true) rfl rfl), trivial⟩ ?_ (hx := bk_bel _ _ _) (hxn := row_nv_cells _ _ (by simp only [go_sem]))
    simp only [go_sem, ren, rens]
    refine loop_ind k_law07_GaugeRises_r14.eq_1 (fun q : Nat × Int × List Mt => q.1 ≤ bs.length ∧ NarB bs q.2.2) (fun q => bs.length - q.1)
      (fun q => (tsets 150 [(7, .ptr 0 0 0 1), (8, .sl 1 0 bs.length), (9, .int .i64 m), (10, .int .i64 p.1), (11, .ptr 2 0 0 1), (15, .sl 4 0 bs.length), (16, .int .i64 q.1)],
        [some (Dr q.2.1), some (.cells true 7 (bs.map Mv)), some (.cells false 2 [.agg [.int .i64 a, .int .i64 b]]), some (.cells false 2 [.agg [.int .i64 c, .int .i64 d]]), some (.cells true 7 (q.2.2.map Mv))])) (0, p.2, bs) ⟨Nat.zero_le _, NarB.refl hv.all⟩ (by simp [go_sem]) rfl ?_
    rintro ⟨i, wi, nb⟩ ⟨hi, hnb⟩ ih
    dsimp only at hi hnb ih ⊢
    have hnl := hnb.len
    by_cases c1 : i < bs.length
    · have c2 : (i : Int) < bs.length := by omega
      have ni : ¬ (i : Int) < 0 := by omega
      have wi1 : IntKind.i64.wrap ((i : Int) + 1) = ((i + 1 : Nat) : Int) := by rw [w64 (by omega)]; rfl
      obtain ⟨z, hz⟩ : ∃ z, bs[i]? = some z := ⟨_, List.getElem?_eq_getElem c1⟩
      obtain ⟨y, hy⟩ : ∃ y, nb[i]? = some y := ⟨_, List.getElem?_eq_getElem (by omega)⟩
      have hzo := hv.all z (List.mem_of_getElem? hz)
      have hyo := hnb.at_ i z y hz hy
      have zg := hzo.g
      have zo := hzo.o
      have r1 := range_run wi z.glo z.ghi (by omega) (by omega) (by omega)
      have r1b := rngR_in (w := wi) (lo := z.glo) (hi := z.ghi) (by omega)
      have r3 := range_run (dstep (dstep wi)) z.olo z.ohi (by omega) (by omega) (by omega)
      have r3b := rngR_in (w := dstep (dstep wi)) (lo := z.olo) (hi := z.ohi) (by omega)
      obtain ⟨g1, hg1⟩ : ∃ g1, rngR wi z.glo z.ghi = g1 := ⟨_, rfl⟩
      obtain ⟨g2, hg2⟩ : ∃ g2, rngR (dstep (dstep wi)) z.olo z.ohi = g2 := ⟨_, rfl⟩
      rw [hg1] at r1 r1b
      rw [hg2] at r3 r3b
      simp only [Rg.v] at r1 r3
      have hset : ∀ v, ((nb.map Mv).set i v)[i]? = some v := fun v => List.getElem?_set_self (by simp; omega)
      have hsz : (nb.map Mv).set i (.agg [.int .i64 g1.lo, .int .i64 g1.hi, .int .i64 g2.lo, .int .i64 g2.hi, .int .i64 y.step, .int .i64 y.cmp, .int .i64 y.due]) = (nb.set i ⟨g1.lo, g1.hi, g2.lo, g2.hi, y.step, y.cmp, y.due⟩).map Mv := by
        rw [List.map_set]; rfl
      have hn' : NarB bs (nb.set i ⟨g1.lo, g1.hi, g2.lo, g2.hi, y.step, y.cmp, y.due⟩) := by
        refine hnb.set hz ⟨⟨?_, ?_, hyo.1.s, hyo.1.d⟩, ⟨?_, ?_⟩, hyo.2.2.1, hyo.2.2.2⟩ <;> dsimp only <;> omega
      simp only [go_sem, c2, ni, hz, Mv, Mc, List.length_map, hnl]
      refine dD r1 ?_
      simp only [go_sem, c2, ni, hz, Mv, Mc, List.length_map, hnl]
      refine dD r3 ?_
      simp only [go_sem, c2, ni, hy, Mv, Mc, List.length_map, List.length_set, List.set_set, hnl, hset, wi1]
      rw [hsz]
      exact ih (i + 1, _, _) (by dsimp only; omega) ⟨c1, hn'⟩ _ (by simp [go_sem])
    · have c2 : ¬ (i : Int) < bs.length := by omega
      clear ih
      have hmt := hnb.mt u1.1 u1.2
      have kt3 := True_run (hnb.vb hv) u1.1 (by rw [hnl]; exact u1.2) (n := p.1) (by omega) (by rw [hmt.2.2]; exact smul)
      rcases htr3 : tru nb m p.1 with _ | ⟨c', d'⟩
      · rw [htr3] at kt3
        simp only [truV] at kt3
        simp only [go_sem, c2, List.length_map, hnl]
        refine cF kt3 6 ⟨.inl (bs_frz (g := true) rfl hnl.symm), .inl rfl, .inl rfl, trivial⟩ ?_
        simp only [go_sem]
        refine cP awake_ok ?_
        simp only [go_sem]
      · rw [htr3] at kt3
        simp only [truV] at kt3
        have kw := Within_run c' d' a b
        rw [decide_eq_true (tru_nar hv hnb u1.1 u1.2 htr htr3)] at kw
        simp only [r2] at kw
        simp only [go_sem, c2, List.length_map, hnl]
        refine cF kt3 6 ⟨.inl (bs_frz (g := true) rfl hnl.symm), .inl rfl, .inl rfl, trivial⟩ ?_
        simp only [go_sem]
        refine cP kw ?_
        simp only [go_sem]
        refine cP awake_ok ?_
        simp only [go_sem]
end Go.Proofs

namespace Go.Proofs
open Go Go.ChangeShapes Go.WideShapes Go.ChangeAt Go.RowKit

def laid1 : List (String × DataW Unit) := [("thermion/gauge.values", .agg [.lit (.int .i64 (-1000000000)), .lit (.int .i64 1000000000)])]
theorem gVal : Tryd.prog.globalNamed "thermion/gauge.values" = some 0 := by kernel_rfl
theorem tVal : (Tryd.prog.globals[0]?).map (·.type) = some 24 := by kernel_rfl
theorem nVal : Tryd.prog.globals.size = 1 := by kernel_rfl
theorem eVal : Go.Sx.gvOf Tryd.prog 0 = some (.agg [.int .i64 (-1000000000), .int .i64 1000000000]) := by kernel_rfl

set_option maxRecDepth 100000 in
theorem values_met {W : World} (h : laidMetH Tryd.prog laid1 W) : W.cell? ⟨0, 0, none⟩ = some (.int .i64 (-1000000000)) ∧ W.cell? ⟨0, 1, none⟩ = some (.int .i64 1000000000) := by
  rw [MakeChecks.laidMetH_plain _ _ _ (by kernel_rfl)] at h
  obtain ⟨ps, ⟨g0, t0, cs0, f0, p0, q0, hg0, ht0, hv0, hd0, _⟩, _, _⟩ := h
  obtain rfl := Option.some.inj (gVal.symm.trans hg0)
  obtain rfl := Option.some.inj (tVal.symm.trans ht0)
  obtain ⟨y0, y1, n, hx, hl, hy0, hy1⟩ := trod_struct2 Tryd.underlying24 hd0
  simp only [Prod.mk.injEq, DataW.agg.injEq, List.cons.injEq, and_true] at hx
  obtain ⟨⟨e0, e1⟩, _⟩ := hx
  have c24 : Tryd.prog.cellsOf 24 = 2 := by kernel_rfl
  have c3 : Tryd.prog.cellsOf 3 = 1 := by kernel_rfl
  rw [c24] at hl
  obtain ⟨l⟩ := cs0
  match l, hl with
  | [u, v], _ =>
    obtain ⟨k0, z0, z1, _⟩ := DataW.trod_int Tryd.underlying3 hy0
    obtain ⟨k1, z2, z3, _⟩ := DataW.trod_int Tryd.underlying3 hy1
    rw [z1] at e0
    rw [z3] at e1
    simp only [DataW.lit.injEq, Lit.int.injEq, true_and] at e0 e1
    simp [c3] at z0 z2
    subst z0 z2 e0 e1
    exact ⟨World.var?_cell hg0 hv0 0, World.var?_cell hg0 hv0 1⟩

theorem values_glob {W : World} (h : laidMetH Tryd.prog laid1 W) : Go.Sx.GlobOK Tryd.prog (Go.Sx.topG W) := by
  obtain ⟨h0, h1⟩ := values_met h
  have hb : 0 < W.heap.size := by
    simp only [World.cell?] at h0
    split at h0
    · rename_i c _ _ hh
      exact (Array.getElem?_eq_some_iff.1 hh).1
    · cases h0
  intro g e he
  match g, he with
  | 0, he =>
    rw [eVal] at he
    cases he
    refine ⟨hb, fun j hj => ?_⟩
    match j, hj with
    | 0, _ => exact ⟨_, h0, fun μ => .int _ _⟩
    | 1, _ => exact ⟨_, h1, fun μ => .int _ _⟩
    | j + 2, hj => simp [Go.Sx.acells] at hj; omega
  | g + 1, he =>
    have hg : Tryd.prog.globals[g + 1]? = none := Array.getElem?_eq_none (by rw [nVal]; omega)
    unfold Go.Sx.gvOf at he
    rw [hg] at he; cases he
end Go.Proofs

