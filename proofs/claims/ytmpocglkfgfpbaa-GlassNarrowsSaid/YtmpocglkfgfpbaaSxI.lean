/- A part of the proof: the abstract semantics. -/
import Derived.Test.YtmpocglkfgfpbaaSxH
set_option linter.unusedSimpArgs false
set_option linter.unusedVariables false
/- Calls that are handed a row which they change, and rows that they only read. -/
namespace Go.Sx
open Go

theorem put_same {H : Heap} {j : Nat} {x : Row} (h : H[j]? = some (some x)) : H.put j x = H := by
  obtain ⟨h1, h2⟩ := List.getElem?_eq_some_iff.1 h
  rw [put_lt h1]
  rw [← h2, List.set_getElem_self]

section
variable {P : Program} {G : Ctx} {g : FuncId} {args largs : List AVal} {H : Heap} {α : Type} {Φ : α → Prop} {r : α → AVal} {k : Nat} {rd : Option Nat} {R : Runner} {l : List AOper} {fs : List Frame} {ρ : List AVal} {ms : List Nat} {Q : Goal} {dst : Option Nat}

theorem cN1E {x : α → Row} (h : AnsE P g args [] Φ r fun a => [some (x a)]) (hwf : ∀ a, Φ a → Bel (· = 0) (r a) ∧ (x a).bel (fun _ => False)) (hK : ∀ a, Φ a → R (.ops l) fs ⟨setD ρ dst (ren (fun _ => H.length) (r a)), H ++ [some (x a)], ms⟩ Q)
    (hb : Bels (fun _ => False) args := by simp only [go_sem]) (hk : k ≤ H.length := by simp) (hms : ∀ q ∈ ms, H[q]? = some (some .dfr) := by simp) : CallR P G k R g args dst l fs ρ H ms Q := by
  have e : ∀ a, Φ a → outΔ (outσ [] H.length) 0 [some (x a)] = [(H.length, x a)] := fun a ha => by
    simp only [outΔ, Row.ren_same (hwf a ha).2]
    rfl
  refine callE h [] (by simp) trivial (by
    conv => lhs; rw [← List.map_id args]
    exact List.map_congr_left fun v hv => (ren_same (bels_mem hb v hv)).symm) (bels_of fun v hv => (bels_mem hb v hv).mono fun _ h => h.elim) trivial
    (fun a ha => ⟨by simp, (hwf a ha).1.mono fun q hq => by subst hq; simp, bel_mono_row (hwf a ha).2 fun _ h => h.elim, trivial⟩) (fun q hq => by simp at hq) hk (fun a ha q hq => ?_) fun a ha => ?_
  · rw [e a ha]
    have := (List.getElem?_eq_some_iff.1 (hms q hq)).1
    refine ⟨?_, hms q hq⟩
    simp; omega
  · rw [e a ha]
    have e2 : ren (outσ [] H.length) (r a) = ren (fun _ => H.length) (r a) := ren_agree (fun q hq => by subst hq; simp [outσ]) (hwf a ha).1
    rw [e2]
    simp only [Heap.puts, Heap.put_end]
    exact hK a ha

theorem callR2 {x0 x1 x2 : Row} {x' y : α → Row} {j0 j1 j2 : Nat} (h : AnsE P g largs [some x0, some x1, some x2] Φ r fun a => [some (x' a), some x1, some x2, some (y a)]) (hargs : args = largs.map (ren (nth [j0, j1, j2]))) (hb : Bels (· < 3) largs)
    (h0 : H[j0]? = some (some x0)) (h1 : H[j1]? = some (some x1)) (h2 : H[j2]? = some (some x2)) (hx0 : x0.bel (fun _ => False)) (hx1 : x1.bel (fun _ => False)) (hx2 : x2.bel (fun _ => False)) (hn : [j0, j1, j2].Nodup)
    (hwf : ∀ a, Φ a → Bel (· = 3) (r a) ∧ (x' a).bel (fun _ => False) ∧ (y a).bel (fun _ => False)) (hk : k ≤ H.length) (hms : ∀ q ∈ ms, q ∉ [j0, j1, j2] ∧ H[q]? = some (some .dfr))
    (hK : ∀ a, Φ a → R (.ops l) fs ⟨setD ρ dst (ren (fun _ => H.length) (r a)), H.set j0 (some (x' a)) ++ [some (y a)], ms⟩ Q) : CallR P G k R g args dst l fs ρ H ms Q := by
  have hlt0 := (List.getElem?_eq_some_iff.1 h0).1
  have hlt1 := (List.getElem?_eq_some_iff.1 h1).1
  have hlt2 := (List.getElem?_eq_some_iff.1 h2).1
  have n1 : j0 ≠ j1 ∧ j0 ≠ j2 ∧ j1 ≠ j2 := by simp at hn; omega
  have e : ∀ a, Φ a → outΔ (outσ [j0, j1, j2] H.length) 0 [some (x' a), some x1, some x2, some (y a)] = [(j0, x' a), (j1, x1), (j2, x2), (H.length, y a)] := fun a ha => by
    simp only [outΔ, Row.ren_same (hwf a ha).2.1, Row.ren_same (hwf a ha).2.2, Row.ren_same hx1, Row.ren_same hx2]
    rfl
  refine callE h [j0, j1, j2] hn ⟨by rw [Row.ren_same hx0]; exact h0, by rw [Row.ren_same hx1]; exact h1, by rw [Row.ren_same hx2]; exact h2, trivial⟩ hargs hb ⟨bel_mono_row hx0 fun _ h => h.elim, bel_mono_row hx1 fun _ h => h.elim, bel_mono_row hx2 fun _ h => h.elim, trivial⟩
    (fun a ha => ⟨by simp, (hwf a ha).1.mono fun q hq => by subst hq; simp, bel_mono_row (hwf a ha).2.1 fun _ h => h.elim, bel_mono_row hx1 fun _ h => h.elim, bel_mono_row hx2 fun _ h => h.elim, bel_mono_row (hwf a ha).2.2 fun _ h => h.elim, trivial⟩) (by simp; omega) hk (fun a ha q hq => ?_) fun a ha => ?_
  · rw [e a ha]
    have := (List.getElem?_eq_some_iff.1 (hms q hq).2).1
    have h3 := (hms q hq).1
    simp only [List.mem_cons, List.not_mem_nil, or_false, not_or] at h3
    refine ⟨?_, (hms q hq).2⟩
    simp only [List.map_cons, List.map_nil, List.mem_cons, List.not_mem_nil, or_false, not_or]
    exact ⟨h3.1, h3.2.1, h3.2.2, by omega⟩
  · rw [e a ha]
    have e2 : ren (outσ [j0, j1, j2] H.length) (r a) = ren (fun _ => H.length) (r a) := ren_agree (fun q hq => by subst hq; simp [outσ]) (hwf a ha).1
    rw [e2]
    simp only [Heap.puts, put_lt hlt0]
    have q1 : (H.set j0 (some (x' a)))[j1]? = some (some x1) := by rw [List.getElem?_set_ne n1.1]; exact h1
    have q2 : (H.set j0 (some (x' a)))[j2]? = some (some x2) := by rw [List.getElem?_set_ne n1.2.1]; exact h2
    rw [put_same q1, put_same q2]
    have e3 : Heap.put (H.set j0 (some (x' a))) H.length (y a) = H.set j0 (some (x' a)) ++ [some (y a)] := by
      have := Heap.put_end (H.set j0 (some (x' a))) (y a)
      rwa [List.length_set] at this
    rw [e3]
    exact hK a ha

theorem callR2n {x0 x1 x2 : Row} {x' : α → Row} {j0 j1 j2 : Nat} (h : AnsE P g largs [some x0, some x1, some x2] Φ r fun a => [some (x' a), some x1, some x2]) (hargs : args = largs.map (ren (nth [j0, j1, j2]))) (hb : Bels (· < 3) largs)
    (h0 : H[j0]? = some (some x0)) (h1 : H[j1]? = some (some x1)) (h2 : H[j2]? = some (some x2)) (hx0 : x0.bel (fun _ => False)) (hx1 : x1.bel (fun _ => False)) (hx2 : x2.bel (fun _ => False)) (hn : [j0, j1, j2].Nodup)
    (hwf : ∀ a, Φ a → Bel (fun _ => False) (r a) ∧ (x' a).bel (fun _ => False)) (hk : k ≤ H.length) (hms : ∀ q ∈ ms, q ∉ [j0, j1, j2] ∧ H[q]? = some (some .dfr))
    (hK : ∀ a, Φ a → R (.ops l) fs ⟨setD ρ dst (r a), H.set j0 (some (x' a)), ms⟩ Q) : CallR P G k R g args dst l fs ρ H ms Q := by
  have hlt0 := (List.getElem?_eq_some_iff.1 h0).1
  have hlt1 := (List.getElem?_eq_some_iff.1 h1).1
  have hlt2 := (List.getElem?_eq_some_iff.1 h2).1
  have n1 : j0 ≠ j1 ∧ j0 ≠ j2 ∧ j1 ≠ j2 := by simp at hn; omega
  have e : ∀ a, Φ a → outΔ (outσ [j0, j1, j2] H.length) 0 [some (x' a), some x1, some x2] = [(j0, x' a), (j1, x1), (j2, x2)] := fun a ha => by
    simp only [outΔ, Row.ren_same (hwf a ha).2, Row.ren_same hx1, Row.ren_same hx2]
    rfl
  refine callE h [j0, j1, j2] hn ⟨by rw [Row.ren_same hx0]; exact h0, by rw [Row.ren_same hx1]; exact h1, by rw [Row.ren_same hx2]; exact h2, trivial⟩ hargs hb ⟨bel_mono_row hx0 fun _ h => h.elim, bel_mono_row hx1 fun _ h => h.elim, bel_mono_row hx2 fun _ h => h.elim, trivial⟩
    (fun a ha => ⟨by simp, (hwf a ha).1.mono fun q hq => hq.elim, bel_mono_row (hwf a ha).2 fun _ h => h.elim, bel_mono_row hx1 fun _ h => h.elim, bel_mono_row hx2 fun _ h => h.elim, trivial⟩) (by simp; omega) hk (fun a ha q hq => ?_) fun a ha => ?_
  · rw [e a ha]
    exact ⟨(hms q hq).1, (hms q hq).2⟩
  · rw [e a ha, ren_same (hwf a ha).1]
    simp only [Heap.puts, put_lt hlt0]
    have q1 : (H.set j0 (some (x' a)))[j1]? = some (some x1) := by rw [List.getElem?_set_ne n1.1]; exact h1
    have q2 : (H.set j0 (some (x' a)))[j2]? = some (some x2) := by rw [List.getElem?_set_ne n1.2.1]; exact h2
    rw [put_same q1, put_same q2]
    exact hK a ha
theorem callR1n {x0 x1 : Row} {x' : α → Row} {j0 j1 : Nat} (h : AnsE P g largs [some x0, some x1] Φ r fun a => [some (x' a), some x1]) (hargs : args = largs.map (ren (nth [j0, j1]))) (hb : Bels (· < 2) largs)
    (h0 : H[j0]? = some (some x0)) (h1 : H[j1]? = some (some x1)) (hx0 : x0.bel (fun _ => False)) (hx1 : x1.bel (fun _ => False)) (hn : [j0, j1].Nodup)
    (hwf : ∀ a, Φ a → Bel (fun _ => False) (r a) ∧ (x' a).bel (fun _ => False)) (hk : k ≤ H.length) (hms : ∀ q ∈ ms, q ∉ [j0, j1] ∧ H[q]? = some (some .dfr))
    (hK : ∀ a, Φ a → R (.ops l) fs ⟨setD ρ dst (r a), H.set j0 (some (x' a)), ms⟩ Q) : CallR P G k R g args dst l fs ρ H ms Q := by
  have hlt0 := (List.getElem?_eq_some_iff.1 h0).1
  have hlt1 := (List.getElem?_eq_some_iff.1 h1).1
  have n1 : j0 ≠ j1 := by simpa using hn
  have e : ∀ a, Φ a → outΔ (outσ [j0, j1] H.length) 0 [some (x' a), some x1] = [(j0, x' a), (j1, x1)] := fun a ha => by
    simp only [outΔ, Row.ren_same (hwf a ha).2, Row.ren_same hx1]
    rfl
  refine callE h [j0, j1] hn ⟨by rw [Row.ren_same hx0]; exact h0, by rw [Row.ren_same hx1]; exact h1, trivial⟩ hargs hb ⟨bel_mono_row hx0 fun _ h => h.elim, bel_mono_row hx1 fun _ h => h.elim, trivial⟩
    (fun a ha => ⟨by simp, (hwf a ha).1.mono fun q hq => hq.elim, bel_mono_row (hwf a ha).2 fun _ h => h.elim, bel_mono_row hx1 fun _ h => h.elim, trivial⟩) (by simp; omega) hk (fun a ha q hq => ?_) fun a ha => ?_
  · rw [e a ha]
    exact ⟨(hms q hq).1, (hms q hq).2⟩
  · rw [e a ha, ren_same (hwf a ha).1]
    simp only [Heap.puts, put_lt hlt0]
    have q1 : (H.set j0 (some (x' a)))[j1]? = some (some x1) := by rw [List.getElem?_set_ne n1]; exact h1
    rw [put_same q1]
    exact hK a ha

theorem cS2 {x0 x1 y0 y1 : Row} {r : AVal} {j0 j1 : Nat} (h : Ans P g largs [some x0, some x1] r [some y0, some y1]) (hargs : args = largs.map (ren (nth [j0, j1]))) (hb : Bels (· < 2) largs)
    (h0 : H[j0]? = some (some x0)) (h1 : H[j1]? = some (some x1)) (hx0 : x0.bel (fun _ => False)) (hx1 : x1.bel (fun _ => False)) (hy0 : y0.bel (fun _ => False)) (hy1 : y1.bel (fun _ => False)) (hn : [j0, j1].Nodup) (hr : Bel (fun _ => False) r) (hk : k ≤ H.length) (hms : ∀ q ∈ ms, q ∉ [j0, j1] ∧ H[q]? = some (some .dfr))
    (hK : R (.ops l) fs ⟨setD ρ dst r, (H.set j0 (some y0)).set j1 (some y1), ms⟩ Q) : CallR P G k R g args dst l fs ρ H ms Q := by
  have hlt0 := (List.getElem?_eq_some_iff.1 h0).1
  have hlt1 := (List.getElem?_eq_some_iff.1 h1).1
  have e : outΔ (outσ [j0, j1] H.length) 0 [some y0, some y1] = [(j0, y0), (j1, y1)] := by
    simp only [outΔ, Row.ren_same hy0, Row.ren_same hy1]
    rfl
  refine callS h [j0, j1] hn ⟨by rw [Row.ren_same hx0]; exact h0, by rw [Row.ren_same hx1]; exact h1, trivial⟩ hargs hb ⟨bel_mono_row hx0 fun _ h => h.elim, bel_mono_row hx1 fun _ h => h.elim, trivial⟩
    (by simp) (hr.mono fun _ h => h.elim) ⟨bel_mono_row hy0 fun _ h => h.elim, bel_mono_row hy1 fun _ h => h.elim, trivial⟩ (by simp; omega) hk (fun q hq => ?_) ?_
  · rw [e]
    exact ⟨(hms q hq).1, (hms q hq).2⟩
  · rw [e, ren_same hr]
    have hlt1' : j1 < (H.set j0 (some y0)).length := by rw [List.length_set]; exact hlt1
    simp only [Heap.puts, put_lt hlt0, put_lt hlt1']
    exact hK

theorem kept_id {LH A : Heap} {r v : AVal} {H' : Heap} (hv : v = r) (hr : Bel (fun _ => False) r) (hA' : ∀ (i : Nat) (x : Row), A[i]? = some (some x) → x.bel (fun _ => False) ∧ H'[i]? = some (some x)) : ∃ σ, Kept LH A r v H' σ :=
  ⟨fun i => i, fun i hi => rfl, fun i k hi hk h => h, by rw [ren_same hr]; exact hv, fun i z hz => by
    obtain ⟨h2, h3⟩ := hA' i z hz
    rw [Row.ren_same h2]; exact h3⟩

theorem callR1 {x0 x1 : Row} {x' y : α → Row} {j0 j1 : Nat} (h : AnsE P g largs [some x0, some x1] Φ r fun a => [some (x' a), some x1, some (y a)]) (hargs : args = largs.map (ren (nth [j0, j1]))) (hb : Bels (· < 2) largs)
    (h0 : H[j0]? = some (some x0)) (h1 : H[j1]? = some (some x1)) (hx0 : x0.bel (fun _ => False)) (hx1 : x1.bel (fun _ => False)) (hn : [j0, j1].Nodup)
    (hwf : ∀ a, Φ a → Bel (· = 2) (r a) ∧ (x' a).bel (fun _ => False) ∧ (y a).bel (fun _ => False)) (hk : k ≤ H.length) (hms : ∀ q ∈ ms, q ∉ [j0, j1] ∧ H[q]? = some (some .dfr))
    (hK : ∀ a, Φ a → R (.ops l) fs ⟨setD ρ dst (ren (fun _ => H.length) (r a)), H.set j0 (some (x' a)) ++ [some (y a)], ms⟩ Q) : CallR P G k R g args dst l fs ρ H ms Q := by
  have hlt0 := (List.getElem?_eq_some_iff.1 h0).1
  have hlt1 := (List.getElem?_eq_some_iff.1 h1).1
  have n1 : j0 ≠ j1 := by simpa using hn
  have e : ∀ a, Φ a → outΔ (outσ [j0, j1] H.length) 0 [some (x' a), some x1, some (y a)] = [(j0, x' a), (j1, x1), (H.length, y a)] := fun a ha => by
    simp only [outΔ, Row.ren_same (hwf a ha).2.1, Row.ren_same (hwf a ha).2.2, Row.ren_same hx1]
    rfl
  refine callE h [j0, j1] hn ⟨by rw [Row.ren_same hx0]; exact h0, by rw [Row.ren_same hx1]; exact h1, trivial⟩ hargs hb ⟨bel_mono_row hx0 fun _ h => h.elim, bel_mono_row hx1 fun _ h => h.elim, trivial⟩
    (fun a ha => ⟨by simp, (hwf a ha).1.mono fun q hq => by subst hq; simp, bel_mono_row (hwf a ha).2.1 fun _ h => h.elim, bel_mono_row hx1 fun _ h => h.elim, bel_mono_row (hwf a ha).2.2 fun _ h => h.elim, trivial⟩) (by simp; omega) hk (fun a ha q hq => ?_) fun a ha => ?_
  · rw [e a ha]
    have := (List.getElem?_eq_some_iff.1 (hms q hq).2).1
    have h3 := (hms q hq).1
    simp only [List.mem_cons, List.not_mem_nil, or_false, not_or] at h3
    refine ⟨?_, (hms q hq).2⟩
    simp only [List.map_cons, List.map_nil, List.mem_cons, List.not_mem_nil, or_false, not_or]
    exact ⟨h3.1, h3.2, by omega⟩
  · rw [e a ha]
    have e2 : ren (outσ [j0, j1] H.length) (r a) = ren (fun _ => H.length) (r a) := ren_agree (fun q hq => by subst hq; simp [outσ]) (hwf a ha).1
    rw [e2]
    simp only [Heap.puts, put_lt hlt0]
    have q1 : (H.set j0 (some (x' a)))[j1]? = some (some x1) := by rw [List.getElem?_set_ne n1]; exact h1
    rw [put_same q1]
    have e3 : Heap.put (H.set j0 (some (x' a))) H.length (y a) = H.set j0 (some (x' a)) ++ [some (y a)] := by
      have := Heap.put_end (H.set j0 (some (x' a))) (y a)
      rwa [List.length_set] at this
    rw [e3]
    exact hK a ha
end
end Go.Sx
