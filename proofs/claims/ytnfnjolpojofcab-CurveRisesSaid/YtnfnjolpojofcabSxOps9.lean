/- 'aev' is sound: append. -/
import Derived.Test.YtnfnjolpojofcabSxOps8
import Derived.Laws.Append
namespace Go.Sx
open Go

variable {P : Program} {G : Ctx} {μ : Mu} {H : Heap} {n : Nat} {w : World} {ρ : List AVal} {a : Act} {v : AVal} {Δ : List (Nat × Row)}

theorem run_firstCells_f (w : World) (size m : Nat) (ad : Addr) (l c : Nat) (f : Nat → Value) (h : ∀ k, k < m * size → w.cell? (ad.add k) = some (f k)) :
    (Builtin.firstCells size m (.slice (some ad) l c)).run P w = .ok ((List.range (m * size)).map f).toArray w := by
  simp only [Builtin.firstCells]
  exact run_loadCells w ad (m * size) f h

theorem CR.of_fun {cs : List AVal} {m : Nat} {f : Nat → Value} (h : cs.length = m) (hv : ∀ k, k < m → VR G μ (cs.getD k .any) (f k)) : CR G μ cs ((List.range m).map f).toArray := by
  refine ⟨by simp [h], fun i hi => ?_⟩
  have hi' : i < m := by omega
  rw [Array.getD_eq_getD_getElem?]
  simpa [hi'] using hv i hi'

theorem flat_get' (sz : Nat) (vs : List AVal) (k : Nat) (h : ∀ x ∈ vs, (acells x).length = sz) (hk : k < vs.length * sz) :
    (vs.flatMap acells).getD k .any = (acells (vs.getD (k / sz) .any)).getD (k % sz) .any ∧ k / sz < vs.length ∧ k % sz < sz ∧ k / sz * sz + k % sz = k := by
  have hs : 0 < sz := by
    rcases Nat.eq_zero_or_pos sz with h0 | h0
    · rw [h0] at hk; omega
    · exact h0
  have h1 : k / sz < vs.length := Nat.div_lt_of_lt_mul (by rw [Nat.mul_comm]; exact hk)
  have h2 := Nat.mod_lt k hs
  have h3 : k / sz * sz + k % sz = k := by rw [Nat.mul_comm]; exact Nat.div_add_mod k sz
  refine ⟨?_, h1, h2, h3⟩
  have := flat_get sz vs (k / sz) (k % sz) h h1 h2
  rw [h3] at this
  exact this

/-- The cells of a slice's elements, wherever it lies. -/
theorem elems_run (hH : HR P G μ H w) {x : AVal} {c : Value} {ys : List AVal} {sz : Nat} (h : elemsOf H x = some ys) (hs : ∀ y ∈ ys, (acells y).length = sz) (hx : VR G μ x c) :
    (∃ ad k, c = .slice ad ys.length k) ∧ ∃ ws, CR G μ (ys.flatMap acells) ws ∧ ∀ w' : World, w'.heap = w.heap → (Builtin.firstCells sz ys.length c).run P w' = .ok ws w' := by
  have hcw : ∀ (w' : World) (ad : Addr), w'.heap = w.heap → w'.cell? ad = w.cell? ad := fun w' ad hw => by simp only [World.cell?, hw]
  have hlen := flat_len sz ys hs
  unfold elemsOf at h
  split at h
  · rename_i r off len
    split at h
    · rename_i g sz' es hc
      split at h
      · rename_i hg
        obtain ⟨hg, hle⟩ := hg
        obtain ⟨p, C, ty, h1, h2, h3, h4, h5, h6, h7, h8, h9⟩ := hH.own hc
        obtain ⟨p', h1', hvec, hL, hcv⟩ := hx.inv_sl
        rw [h1] at h1'; cases h1'
        obtain ⟨cap, hcs, hcap, hroom⟩ := hcv (live_of h6 h5 hg)
        cases h
        have hyl : ((es.drop off).take len).length = len := by simp; omega
        have hgd : ∀ i, i < len → ((es.drop off).take len).getD i .any = es.getD (off + i) .any := fun i hi => by
          rw [List.getD_eq_getElem?_getD, List.getElem?_take_of_lt hi, List.getElem?_drop, List.getD_eq_getElem?_getD]
        refine ⟨⟨_, cap, by rw [hcs, hyl]⟩, ?_⟩
        by_cases h0 : len = 0
        · subst h0
          refine ⟨#[], ?_, fun w' hw => ?_⟩
          · simp; exact ⟨rfl, fun i hi => by simp at hi⟩
          · rw [hcs]; simp [Builtin.firstCells, loadCells, loadCellsFrom]
        · have hsz : sz' = sz := by
            have k1 := (h9 off (by omega)).1
            have k2 := hs (es.getD off .any) (by
              have := hgd 0 (by omega)
              simp only [Nat.add_zero] at this
              rw [← this, List.getD_eq_getElem?_getD, List.getElem?_eq_getElem (by omega)]
              exact List.getElem_mem _)
            omega
          subst hsz
          have hcell : ∀ k, k < len * sz' → ∃ cc, w.cell? ((⟨p.blk, p.off + off * p.sz, none⟩ : Addr).add k) = some cc ∧ VR G μ ((((es.drop off).take len).flatMap acells).getD k .any) cc := by
            intro k hk
            obtain ⟨e1, e2, e3, e4⟩ := flat_get' sz' ((es.drop off).take len) k hs (by rw [hyl]; exact hk)
            rw [hyl] at e2
            obtain ⟨cc, hc1, hc2⟩ := (h9 (off + k / sz') (by omega)).2 (k % sz') e3
            refine ⟨cc, ?_, ?_⟩
            · rw [add_at, cell_at h7, ← hc1]
              congr 1
              rw [h4, Nat.add_mul]; omega
            · rw [e1, hgd _ e2]; exact hc2
          refine ⟨((List.range (len * sz')).map fun k => (w.cell? ((⟨p.blk, p.off + off * p.sz, none⟩ : Addr).add k)).getD undef).toArray, CR.of_fun (by rw [hlen, hyl]) (fun k hk => ?_), fun w' hw => ?_⟩
          · obtain ⟨cc, k1, k2⟩ := hcell k hk
            rw [k1]; exact k2
          · rw [hcs, hyl]
            refine run_firstCells_f w' _ _ _ _ _ _ fun k hk => ?_
            obtain ⟨cc, k1, _⟩ := hcell k hk
            rw [hcw _ _ hw, k1]; rfl
      · cases h
    · cases h
  · cases h
    generalize hes : AVal.view ys = xv at hx
    cases hx <;> cases hes
    · rename_i b o sz' cap f hb hcap hs' hf hv
      refine ⟨⟨_, cap, rfl⟩, ?_⟩
      by_cases h0 : ys.length = 0
      · have : ys = [] := List.eq_nil_of_length_eq_zero h0
        subst this
        refine ⟨#[], ⟨rfl, fun i hi => by simp at hi⟩, fun w' hw => ?_⟩
        simp [Builtin.firstCells, loadCells, loadCellsFrom]
      · have hsz : sz' = sz := by
          have k1 := hs' 0 (by omega)
          have k2 := hs (ys.getD 0 .any) (by rw [List.getD_eq_getElem?_getD, List.getElem?_eq_getElem (by omega)]; exact List.getElem_mem _)
          omega
        subst hsz
        have hcell : ∀ k, k < ys.length * sz' → w.cell? ((⟨b, o, none⟩ : Addr).add k) = some (f (k / sz') (k % sz')) := by
          intro k hk
          obtain ⟨e1, e2, e3, e4⟩ := flat_get' sz' ys k hs hk
          have := hf (k / sz') (k % sz') e2 e3
          rw [add_at, hH.ro_cell hb, ← this]
          congr 2; omega
        refine ⟨_, CR.of_fun (f := fun k => f (k / sz') (k % sz')) hlen (fun k hk => ?_), fun w' hw => run_firstCells_f w' _ _ _ _ _ _ fun k hk => by rw [hcw _ _ hw]; exact hcell k hk⟩
        obtain ⟨e1, e2, e3, e4⟩ := flat_get' sz' ys k hs hk
        rw [e1]; exact hv _ _ e2 e3
    · rename_i ad cap
      refine ⟨⟨_, _, rfl⟩, #[], ⟨rfl, fun i hi => by simp at hi⟩, fun w' hw => ?_⟩
      cases ad <;> simp [Builtin.firstCells, loadCells, loadCellsFrom]
  · cases h
    cases hx
    refine ⟨⟨_, _, rfl⟩, #[], ⟨rfl, fun i hi => by simp at hi⟩, fun w' hw => ?_⟩
    simp [Builtin.firstCells]
  · cases h
end Go.Sx
