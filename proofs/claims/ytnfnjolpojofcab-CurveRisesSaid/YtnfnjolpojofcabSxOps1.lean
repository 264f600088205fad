/- 'aev' is sound: operations that touch no memory, and those that make rows. -/
import Derived.Test.YtnfnjolpojofcabSxSound
import Derived.Laws.Tables
import Derived.Laws.Entries
namespace Go.Sx
open Go

variable {P : Program} {G : Ctx} {μ : Mu} {H : Heap} {n : Nat} {w : World} {ρ : List AVal} {a : Act} {v : AVal} {Δ : List (Nat × Row)}

theorem some_nil {x : AVal} (h : (some (x, ([] : List (Nat × Row)))) = some (v, Δ)) : x = v ∧ Δ = [] := by cases h; exact ⟨rfl, rfl⟩

theorem map_nil {x : Option AVal} (h : (x.map fun v => (v, ([] : List (Nat × Row)))) = some (v, Δ)) : x = some v ∧ Δ = [] := by
  cases x with
  | none => simp at h
  | some y => simp at h; exact ⟨by rw [h.1], h.2⟩

theorem aev_pick (hT : TR G μ ρ a.tmps) (hH : HR P G μ H w) (c x y : Operand) (h : aev (.pick (copd c) (copd x) (copd y)) ρ H n = some (v, Δ)) :
    Step P G μ H n (do pure (.value (if ← asBool (a.eval c) then a.eval x else a.eval y))) w v Δ := by
  simp only [aev] at h
  split at h
  · rename_i t ht
    obtain ⟨rfl, rfl⟩ := some_nil h
    have hc := (ht ▸ opd_sound hT c).inv_bool
    refine Step.pure (cv := if t then a.eval x else a.eval y) hH (by simp [hc, asBool]) ?_
    cases t
    · exact opd_sound hT y
    · exact opd_sound hT x
  · cases h

/-- A new row. -/
theorem Step.fresh {C : Array Value} {ty : TypeId} {g : Bool} {sz : Nat} {es : List AVal} {vec gr : Bool} {s : Sem Next} {w' : World} {cv : Value} (hH : HR P G μ H w) (hn : μ n = none)
    (hs : s.run P w = .ok (.value cv) w') (hw : w'.heap = w.heap.push (.cells C ty (0, 0))) (hcm : Calm w w') (hg : g = false → gr = false)
    (hC : ∀ i, i < es.length → (acells (es.getD i .any)).length = sz ∧ ∀ j, j < sz → ∃ c, C[i * sz + j]? = some c ∧ VR G μ ((acells (es.getD i .any)).getD j .any) c)
    (hv : ∀ μ' : Mu, μ' n = some ⟨w.heap.size, 0, sz, es.length, C.size, gr, vec⟩ → VR G μ' v cv) :
    Step P G μ H n s w v [(n, .cells g sz es)] := by
  obtain ⟨h1, h2, h3, h4⟩ := HR.fresh (w := w) (w' := w') (off := 0) (vec := vec) hH hn hw hcm hg (by simpa using hC)
  exact ⟨_, cv, w', _, hs, .inl rfl, hv _ h2, h1, h3, fun r hr => (h4 r hr).imp id fun h => ⟨h, by simp only [Heap.puts, Heap.len_put]; omega⟩⟩

theorem one_elem {x : AVal} {c : Value} (hx : VR G μ x c) (ha : x.isAny = false) (i : Nat) (hi : i < [x].length) :
    (acells ([x].getD i .any)).length = (acells x).length ∧ ∀ j, j < (acells x).length → ∃ c', c.cells[i * (acells x).length + j]? = some c' ∧ VR G μ ((acells ([x].getD i .any)).getD j .any) c' := by
  obtain rfl : i = 0 := by simp at hi; omega
  refine ⟨rfl, fun j hj => ?_⟩
  have h := CR.of_VR hx ha
  have hj' : j < c.cells.size := by rw [← h.1]; exact hj
  have := h.2 j hj
  rw [Array.getD_eq_getD_getElem?] at this
  simp [hj'] at this ⊢
  simpa using this

theorem aev_box (hH : HR P G μ H w) (hn : μ n = none) (ty : TypeId) (x : AOpd) (cv : Value) (hx : VR G μ (opd ρ x) cv) (s : Sem Next)
    (hs : s.run P w = .ok (.value (.pointer (some ⟨w.heap.size, 0, none⟩))) { w with heap := w.heap.push (.cells cv.cells ty (0, 0)) })
    (h : aev (.box x) ρ H n = some (v, Δ)) : Step P G μ H n s w v Δ := by
  simp only [aev] at h
  have key : (opd ρ x).isAny = false ∧ v = .ptr n 0 0 1 ∧ Δ = [(n, .cells false (acells (opd ρ x)).length [opd ρ x])] := by
    split at h
    · cases h
    · rename_i hne
      cases h
      refine ⟨?_, rfl, rfl⟩
      cases he : opd ρ x <;> simp_all [AVal.isAny]
  obtain ⟨ha, rfl, rfl⟩ := key
  refine Step.fresh (vec := false) (gr := false) (ty := ty) (C := cv.cells) hH hn hs rfl ⟨rfl, rfl, rfl⟩ (fun _ => rfl) (fun i hi => one_elem hx ha i hi) fun μ' hμ' => ?_
  exact .ptr _ _ _ _ _ _ hμ' (by simp) rfl fun _ => by simp

theorem run_sizeT {t : TypeId} {m : Nat} (h : sizeT P t = some m) : (sizeOf t).run P w = .ok m w := by
  simp only [sizeT, Option.map_eq_some_iff] at h
  obtain ⟨i, hi, rfl⟩ := h
  simp [sizeOf, typeInfo, hi]

theorem run_zeroT {t : TypeId} {z : AVal} (h : zeroT P t = some z) : ∃ c, (zeroValue t).run P w = .ok c w ∧ z = cval 3 c := by
  simp only [zeroT, Option.map_eq_some_iff, Option.bind_eq_some_iff] at h
  obtain ⟨c, ⟨i, hi, hz⟩, rfl⟩ := h
  exact ⟨c, by simp [zeroValue, typeInfo, hi, hz], rfl⟩

theorem isAgg_any {z : AVal} (h : z.isAgg = true) : z.isAny = false := by cases z <;> simp_all [AVal.isAgg, AVal.isAny]

theorem aev_build (hT : TR G μ ρ a.tmps) (hH : HR P G μ H w) (t : TypeId) (parts : Array (Nat × Operand)) (o : Oper) (ho : o.op = .build t parts)
    (h : aev (cop P o) ρ H n = some (v, Δ)) : Step P G μ H n (execOp a.eval o) w v Δ := by
  have hex : execOp a.eval o = (do pure (.value (← Instr.build t (parts.map fun (i, x) => (i, a.eval x))))) := by simp only [execOp, ho]
  rw [hex]
  generalize hpv : (parts.map fun (i, x) => (i, a.eval x)) = pv
  have hparts : pv.toList = (parts.toList.map fun p => (p.1, opd ρ (copd p.2), a.eval p.2)).map fun p => (p.1, p.2.2) := by subst hpv; simp
  have hvr : ∀ p ∈ (parts.toList.map fun p => (p.1, opd ρ (copd p.2), a.eval p.2)), VR G μ p.2.1 p.2.2 := by
    intro p hp
    obtain ⟨q, _, rfl⟩ := List.mem_map.1 hp
    exact opd_sound hT q.2
  simp only [cop, ho] at h
  split at h
  · rename_i fs z hu hz
    split at h
    · rename_i places hpl
      split at h
      · rename_i hc
        simp only [Bool.and_eq_true, List.all_eq_true] at hc
        obtain ⟨hc1, hc2⟩ := hc
        simp only [aev] at h
        split at h
        · rename_i cs hcs
          obtain ⟨rfl, rfl⟩ := some_nil h
          simp only [zeroT, Option.map_eq_some_iff, Option.bind_eq_some_iff] at hz
          obtain ⟨c, ⟨i, hi, hzc⟩, rfl⟩ := hz
          have hcz := CR.of_VR (cval_sound G μ 3 c) (isAgg_any hc1)
          obtain ⟨ws, hw, hcw⟩ := fill_sound (places.toArray[·]?) _ cs _ _ hcz hvr
            (fun p hp => by obtain ⟨q, hq, rfl⟩ := List.mem_map.1 hp; exact hc2 q hq) (by simpa [List.map_map, Function.comp_def] using hcs)
          rw [← hparts] at hw
          have hb : P.built t pv.toList = some ws := by simp only [Program.built, hi, hu, hzc, hpl]; exact hw
          have := run_build w t pv ws hb
          exact Step.pure (cv := .agg ws) hH (by simp [this]) (.agg _ _ hcw.1 hcw.2)
        · cases h
      · simp [aev] at h
    · simp [aev] at h
  · rename_i m e z hu hz
    split at h
    · rename_i sz hsz
      split at h
      · rename_i hc
        simp only [aev] at h
        split at h
        · rename_i cs hcs
          obtain ⟨rfl, rfl⟩ := some_nil h
          simp only [zeroT, Option.map_eq_some_iff, Option.bind_eq_some_iff] at hz
          obtain ⟨c, ⟨i, hi, hzc⟩, rfl⟩ := hz
          simp only [sizeT, Option.map_eq_some_iff] at hsz
          obtain ⟨ie, hie, rfl⟩ := hsz
          have hcz := CR.of_VR (cval_sound G μ 3 c) (isAgg_any hc)
          obtain ⟨ws, hw, hcw⟩ := fill_sound (fun i => some (i * ie.size, ie.size)) _ cs _ _ hcz hvr
            (fun p hp => rfl) (by simpa [List.map_map, Function.comp_def] using hcs)
          rw [← hparts] at hw
          have hb : P.built t pv.toList = some ws := by simp only [Program.built, hi, hu, hzc, hie]; exact hw
          have := run_build w t pv ws hb
          exact Step.pure (cv := .agg ws) hH (by simp [this]) (.agg _ _ hcw.1 hcw.2)
        · cases h
      · simp [aev] at h
    · simp [aev] at h
  · simp [aev] at h
end Go.Sx
