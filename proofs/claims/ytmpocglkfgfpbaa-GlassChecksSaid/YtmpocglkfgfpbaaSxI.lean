/- A part of the proof: the abstract semantics. -/
import Derived.Test.YtmpocglkfgfpbaaSxH
set_option linter.unusedSimpArgs false
set_option linter.unusedVariables false
/- Calls that are handed a row which they change, and rows that they only read. -/
namespace Go.Sx
open Go

theorem put_same {H : Heap} {j : Nat} {x : Row} (h : H[j]? = some (some x)) : H.put j x = H := by
  obtain ⟨h1, h2⟩ := List.getElem?_eq_some_iff.1 h
  rw [put_lt h1]
  rw [← h2, List.set_getElem_self]

section
variable {P : Program} {G : Ctx} {g : FuncId} {args largs : List AVal} {H : Heap} {α : Type} {Φ : α → Prop} {r : α → AVal} {k : Nat} {rd : Option Nat} {R : Runner} {l : List AOper} {fs : List Frame} {ρ : List AVal} {ms : List Nat} {Q : Goal} {dst : Option Nat}

theorem cN1E {x : α → Row} (h : AnsE P g args [] Φ r fun a => [some (x a)]) (hwf : ∀ a, Φ a → Bel (· = 0) (r a) ∧ (x a).bel (fun _ => False)) (hK : ∀ a, Φ a → R (.ops l) fs ⟨setD ρ dst (ren (fun _ => H.length) (r a)), H ++ [some (x a)], ms⟩ Q)
    (hb : Bels (fun _ => False) args := by simp only [go_sem]) (hk : k ≤ H.length := by simp) (hms : ∀ q ∈ ms, H[q]? = some (some .dfr) := by simp) : CallR P G k R g args dst l fs ρ H ms Q := by
  have e : ∀ a, Φ a → outΔ (outσ [] H.length) 0 [some (x a)] = [(H.length, x a)] := fun a ha => by
    simp only [outΔ, Row.ren_same (hwf a ha).2]
    rfl
  refine callE h [] (by simp) trivial (by
    conv => lhs; rw [← List.map_id args]
    exact List.map_congr_left fun v hv => (ren_same (bels_mem hb v hv)).symm) (bels_of fun v hv => (bels_mem hb v hv).mono fun _ h => h.elim) trivial
    (fun a ha => ⟨by simp, (hwf a ha).1.mono fun q hq => by subst hq; simp, bel_mono_row (hwf a ha).2 fun _ h => h.elim, trivial⟩) (fun q hq => by simp at hq) hk (fun a ha q hq => ?_) fun a ha => ?_
  · rw [e a ha]
    have := (List.getElem?_eq_some_iff.1 (hms q hq)).1
    refine ⟨?_, hms q hq⟩
    simp; omega
  · rw [e a ha]
    have e2 : ren (outσ [] H.length) (r a) = ren (fun _ => H.length) (r a) := ren_agree (fun q hq => by subst hq; simp [outσ]) (hwf a ha).1
    rw [e2]
    simp only [Heap.puts, Heap.put_end]
    exact hK a ha

theorem callR2 {x0 x1 x2 : Row} {x' y : α → Row} {j0 j1 j2 : Nat} (h : AnsE P g largs [some x0, some x1, some x2] Φ r fun a => [some (x' a), some x1, some x2, some (y a)]) (hargs : args = largs.map (ren (nth [j0, j1, j2]))) (hb : Bels (· < 3) largs)
    (h0 : H[j0]? = some (some x0)) (h1 : H[j1]? = some (some x1)) (h2 : H[j2]? = some (some x2)) (hx0 : x0.bel (fun _ => False)) (hx1 : x1.bel (fun _ => False)) (hx2 : x2.bel (fun _ => False)) (hn : [j0, j1, j2].Nodup)
    (hwf : ∀ a, Φ a → Bel (· = 3) (r a) ∧ (x' a).bel (fun _ => False) ∧ (y a).bel (fun _ => False)) (hk : k ≤ H.length) (hms : ∀ q ∈ ms, q ∉ [j0, j1, j2] ∧ H[q]? = some (some .dfr))
    (hK : ∀ a, Φ a → R (.ops l) fs ⟨setD ρ dst (ren (fun _ => H.length) (r a)), H.set j0 (some (x' a)) ++ [some (y a)], ms⟩ Q) : CallR P G k R g args dst l fs ρ H ms Q := by
  have hlt0 := (List.getElem?_eq_some_iff.1 h0).1
  have hlt1 := (List.getElem?_eq_some_iff.1 h1).1
  have hlt2 := (List.getElem?_eq_some_iff.1 h2).1
  have n1 : j0 ≠ j1 ∧ j0 ≠ j2 ∧ j1 ≠ j2 := by simp at hn; omega
  have e : ∀ a, Φ a → outΔ (outσ [j0, j1, j2] H.length) 0 [some (x' a), some x1, some x2, some (y a)] = [(j0, x' a), (j1, x1), (j2, x2), (H.length, y a)] := fun a ha => by
    simp only [outΔ, Row.ren_same (hwf a ha).2.1, Row.ren_same (hwf a ha).2.2, Row.ren_same hx1, Row.ren_same hx2]
    rfl
  refine callE h [j0, j1, j2] hn ⟨by rw [Row.ren_same hx0]; exact h0, by rw [Row.ren_same hx1]; exact h1, by rw [Row.ren_same hx2]; exact h2, trivial⟩ hargs hb ⟨bel_mono_row hx0 fun _ h => h.elim, bel_mono_row hx1 fun _ h => h.elim, bel_mono_row hx2 fun _ h => h.elim, trivial⟩
    (fun a ha => ⟨by simp, (hwf a ha).1.mono fun q hq => by subst hq; simp, bel_mono_row (hwf a ha).2.1 fun _ h => h.elim, bel_mono_row hx1 fun _ h => h.elim, bel_mono_row hx2 fun _ h => h.elim, bel_mono_row (hwf a ha).2.2 fun _ h => h.elim, trivial⟩) (by simp; omega) hk (fun a ha q hq => ?_) fun a ha => ?_
  · rw [e a ha]
    have := (List.getElem?_eq_some_iff.1 (hms q hq).2).1
    have h3 := (hms q hq).1
    simp only [List.mem_cons, List.not_mem_nil, or_false, not_or] at h3
    refine ⟨?_, (hms q hq).2⟩
    simp only [List.map_cons, List.map_nil, List.mem_cons, List.not_mem_nil, or_false, not_or]
    exact ⟨h3.1, h3.2.1, h3.2.2, by omega⟩
  · rw [e a ha]
    have e2 : ren (outσ [j0, j1, j2] H.length) (r a) = ren (fun _ => H.length) (r a) := ren_agree (fun q hq => by subst hq; simp [outσ]) (hwf a ha).1
    rw [e2]
    simp only [Heap.puts, put_lt hlt0]
    have q1 : (H.set j0 (some (x' a)))[j1]? = some (some x1) := by rw [List.getElem?_set_ne n1.1]; exact h1
    have q2 : (H.set j0 (some (x' a)))[j2]? = some (some x2) := by rw [List.getElem?_set_ne n1.2.1]; exact h2
    rw [put_same q1, put_same q2]
    have e3 : Heap.put (H.set j0 (some (x' a))) H.length (y a) = H.set j0 (some (x' a)) ++ [some (y a)] := by
      have := Heap.put_end (H.set j0 (some (x' a))) (y a)
      rwa [List.length_set] at this
    rw [e3]
    exact hK a ha

theorem callR2n {x0 x1 x2 : Row} {x' : α → Row} {j0 j1 j2 : Nat} (h : AnsE P g largs [some x0, some x1, some x2] Φ r fun a => [some (x' a), some x1, some x2]) (hargs : args = largs.map (ren (nth [j0, j1, j2]))) (hb : Bels (· < 3) largs)
    (h0 : H[j0]? = some (some x0)) (h1 : H[j1]? = some (some x1)) (h2 : H[j2]? = some (some x2)) (hx0 : x0.bel (fun _ => False)) (hx1 : x1.bel (fun _ => False)) (hx2 : x2.bel (fun _ => False)) (hn : [j0, j1, j2].Nodup)
    (hwf : ∀ a, Φ a → Bel (fun _ => False) (r a) ∧ (x' a).bel (fun _ => False)) (hk : k ≤ H.length) (hms : ∀ q ∈ ms, q ∉ [j0, j1, j2] ∧ H[q]? = some (some .dfr))
    (hK : ∀ a, Φ a → R (.ops l) fs ⟨setD ρ dst (r a), H.set j0 (some (x' a)), ms⟩ Q) : CallR P G k R g args dst l fs ρ H ms Q := by
  have hlt0 := (List.getElem?_eq_some_iff.1 h0).1
  have hlt1 := (List.getElem?_eq_some_iff.1 h1).1
  have hlt2 := (List.getElem?_eq_some_iff.1 h2).1
  have n1 : j0 ≠ j1 ∧ j0 ≠ j2 ∧ j1 ≠ j2 := by simp at hn; omega
  have e : ∀ a, Φ a → outΔ (outσ [j0, j1, j2] H.length) 0 [some (x' a), some x1, some x2] = [(j0, x' a), (j1, x1), (j2, x2)] := fun a ha => by
    simp only [outΔ, Row.ren_same (hwf a ha).2, Row.ren_same hx1, Row.ren_same hx2]
    rfl
  refine callE h [j0, j1, j2] hn ⟨by rw [Row.ren_same hx0]; exact h0, by rw [Row.ren_same hx1]; exact h1, by rw [Row.ren_same hx2]; exact h2, trivial⟩ hargs hb ⟨bel_mono_row hx0 fun _ h => h.elim, bel_mono_row hx1 fun _ h => h.elim, bel_mono_row hx2 fun _ h => h.elim, trivial⟩
    (fun a ha => ⟨by simp, (hwf a ha).1.mono fun q hq => hq.elim, bel_mono_row (hwf a ha).2 fun _ h => h.elim, bel_mono_row hx1 fun _ h => h.elim, bel_mono_row hx2 fun _ h => h.elim, trivial⟩) (by simp; omega) hk (fun a ha q hq => ?_) fun a ha => ?_
  · rw [e a ha]
    exact ⟨(hms q hq).1, (hms q hq).2⟩
  · rw [e a ha, ren_same (hwf a ha).1]
    simp only [Heap.puts, put_lt hlt0]
    have q1 : (H.set j0 (some (x' a)))[j1]? = some (some x1) := by rw [List.getElem?_set_ne n1.1]; exact h1
    have q2 : (H.set j0 (some (x' a)))[j2]? = some (some x2) := by rw [List.getElem?_set_ne n1.2.1]; exact h2
    rw [put_same q1, put_same q2]
    exact hK a ha
theorem callR1n {x0 x1 : Row} {x' : α → Row} {j0 j1 : Nat} (h : AnsE P g largs [some x0, some x1] Φ r fun a => [some (x' a), some x1]) (hargs : args = largs.map (ren (nth [j0, j1]))) (hb : Bels (· < 2) largs)
    (h0 : H[j0]? = some (some x0)) (h1 : H[j1]? = some (some x1)) (hx0 : x0.bel (fun _ => False)) (hx1 : x1.bel (fun _ => False)) (hn : [j0, j1].Nodup)
    (hwf : ∀ a, Φ a → Bel (fun _ => False) (r a) ∧ (x' a).bel (fun _ => False)) (hk : k ≤ H.length) (hms : ∀ q ∈ ms, q ∉ [j0, j1] ∧ H[q]? = some (some .dfr))
    (hK : ∀ a, Φ a → R (.ops l) fs ⟨setD ρ dst (r a), H.set j0 (some (x' a)), ms⟩ Q) : CallR P G k R g args dst l fs ρ H ms Q := by
  have hlt0 := (List.getElem?_eq_some_iff.1 h0).1
  have hlt1 := (List.getElem?_eq_some_iff.1 h1).1
  have n1 : j0 ≠ j1 := by simpa using hn
  have e : ∀ a, Φ a → outΔ (outσ [j0, j1] H.length) 0 [some (x' a), some x1] = [(j0, x' a), (j1, x1)] := fun a ha => by
    simp only [outΔ, Row.ren_same (hwf a ha).2, Row.ren_same hx1]
    rfl
  refine callE h [j0, j1] hn ⟨by rw [Row.ren_same hx0]; exact h0, by rw [Row.ren_same hx1]; exact h1, trivial⟩ hargs hb ⟨bel_mono_row hx0 fun _ h => h.elim, bel_mono_row hx1 fun _ h => h.elim, trivial⟩
    (fun a ha => ⟨by simp, (hwf a ha).1.mono fun q hq => hq.elim, bel_mono_row (hwf a ha).2 fun _ h => h.elim, bel_mono_row hx1 fun _ h => h.elim, trivial⟩) (by simp; omega) hk (fun a ha q hq => ?_) fun a ha => ?_
  · rw [e a ha]
    exact ⟨(hms q hq).1, (hms q hq).2⟩
  · rw [e a ha, ren_same (hwf a ha).1]
    simp only [Heap.puts, put_lt hlt0]
    have q1 : (H.set j0 (some (x' a)))[j1]? = some (some x1) := by rw [List.getElem?_set_ne n1]; exact h1
    rw [put_same q1]
    exact hK a ha

theorem cS2 {x0 x1 y0 y1 : Row} {r : AVal} {j0 j1 : Nat} (h : Ans P g largs [some x0, some x1] r [some y0, some y1]) (hargs : args = largs.map (ren (nth [j0, j1]))) (hb : Bels (· < 2) largs)
    (h0 : H[j0]? = some (some x0)) (h1 : H[j1]? = some (some x1)) (hx0 : x0.bel (fun _ => False)) (hx1 : x1.bel (fun _ => False)) (hy0 : y0.bel (fun _ => False)) (hy1 : y1.bel (fun _ => False)) (hn : [j0, j1].Nodup) (hr : Bel (fun _ => False) r) (hk : k ≤ H.length) (hms : ∀ q ∈ ms, q ∉ [j0, j1] ∧ H[q]? = some (some .dfr))
    (hK : R (.ops l) fs ⟨setD ρ dst r, (H.set j0 (some y0)).set j1 (some y1), ms⟩ Q) : CallR P G k R g args dst l fs ρ H ms Q := by
  have hlt0 := (List.getElem?_eq_some_iff.1 h0).1
  have hlt1 := (List.getElem?_eq_some_iff.1 h1).1
  have e : outΔ (outσ [j0, j1] H.length) 0 [some y0, some y1] = [(j0, y0), (j1, y1)] := by
    simp only [outΔ, Row.ren_same hy0, Row.ren_same hy1]
    rfl
  refine callS h [j0, j1] hn ⟨by rw [Row.ren_same hx0]; exact h0, by rw [Row.ren_same hx1]; exact h1, trivial⟩ hargs hb ⟨bel_mono_row hx0 fun _ h => h.elim, bel_mono_row hx1 fun _ h => h.elim, trivial⟩
    (by simp) (hr.mono fun _ h => h.elim) ⟨bel_mono_row hy0 fun _ h => h.elim, bel_mono_row hy1 fun _ h => h.elim, trivial⟩ (by simp; omega) hk (fun q hq => ?_) ?_
  · rw [e]
    exact ⟨(hms q hq).1, (hms q hq).2⟩
  · rw [e, ren_same hr]
    have hlt1' : j1 < (H.set j0 (some y0)).length := by rw [List.length_set]; exact hlt1
    simp only [Heap.puts, put_lt hlt0, put_lt hlt1']
    exact hK

theorem kept_id {LH A : Heap} {r v : AVal} {H' : Heap} (hv : v = r) (hr : Bel (fun _ => False) r) (hA' : ∀ (i : Nat) (x : Row), A[i]? = some (some x) → x.bel (fun _ => False) ∧ H'[i]? = some (some x)) : ∃ σ, Kept LH A r v H' σ :=
  ⟨fun i => i, fun i hi => rfl, fun i k hi hk h => h, by rw [ren_same hr]; exact hv, fun i z hz => by
    obtain ⟨h2, h3⟩ := hA' i z hz
    rw [Row.ren_same h2]; exact h3⟩

theorem callR1 {x0 x1 : Row} {x' y : α → Row} {j0 j1 : Nat} (h : AnsE P g largs [some x0, some x1] Φ r fun a => [some (x' a), some x1, some (y a)]) (hargs : args = largs.map (ren (nth [j0, j1]))) (hb : Bels (· < 2) largs)
    (h0 : H[j0]? = some (some x0)) (h1 : H[j1]? = some (some x1)) (hx0 : x0.bel (fun _ => False)) (hx1 : x1.bel (fun _ => False)) (hn : [j0, j1].Nodup)
    (hwf : ∀ a, Φ a → Bel (· = 2) (r a) ∧ (x' a).bel (fun _ => False) ∧ (y a).bel (fun _ => False)) (hk : k ≤ H.length) (hms : ∀ q ∈ ms, q ∉ [j0, j1] ∧ H[q]? = some (some .dfr))
    (hK : ∀ a, Φ a → R (.ops l) fs ⟨setD ρ dst (ren (fun _ => H.length) (r a)), H.set j0 (some (x' a)) ++ [some (y a)], ms⟩ Q) : CallR P G k R g args dst l fs ρ H ms Q := by
  have hlt0 := (List.getElem?_eq_some_iff.1 h0).1
  have hlt1 := (List.getElem?_eq_some_iff.1 h1).1
  have n1 : j0 ≠ j1 := by simpa using hn
  have e : ∀ a, Φ a → outΔ (outσ [j0, j1] H.length) 0 [some (x' a), some x1, some (y a)] = [(j0, x' a), (j1, x1), (H.length, y a)] := fun a ha => by
    simp only [outΔ, Row.ren_same (hwf a ha).2.1, Row.ren_same (hwf a ha).2.2, Row.ren_same hx1]
    rfl
  refine callE h [j0, j1] hn ⟨by rw [Row.ren_same hx0]; exact h0, by rw [Row.ren_same hx1]; exact h1, trivial⟩ hargs hb ⟨bel_mono_row hx0 fun _ h => h.elim, bel_mono_row hx1 fun _ h => h.elim, trivial⟩
    (fun a ha => ⟨by simp, (hwf a ha).1.mono fun q hq => by subst hq; simp, bel_mono_row (hwf a ha).2.1 fun _ h => h.elim, bel_mono_row hx1 fun _ h => h.elim, bel_mono_row (hwf a ha).2.2 fun _ h => h.elim, trivial⟩) (by simp; omega) hk (fun a ha q hq => ?_) fun a ha => ?_
  · rw [e a ha]
    have := (List.getElem?_eq_some_iff.1 (hms q hq).2).1
    have h3 := (hms q hq).1
    simp only [List.mem_cons, List.not_mem_nil, or_false, not_or] at h3
    refine ⟨?_, (hms q hq).2⟩
    simp only [List.map_cons, List.map_nil, List.mem_cons, List.not_mem_nil, or_false, not_or]
    exact ⟨h3.1, h3.2, by omega⟩
  · rw [e a ha]
    have e2 : ren (outσ [j0, j1] H.length) (r a) = ren (fun _ => H.length) (r a) := ren_agree (fun q hq => by subst hq; simp [outσ]) (hwf a ha).1
    rw [e2]
    simp only [Heap.puts, put_lt hlt0]
    have q1 : (H.set j0 (some (x' a)))[j1]? = some (some x1) := by rw [List.getElem?_set_ne n1]; exact h1
    rw [put_same q1]
    have e3 : Heap.put (H.set j0 (some (x' a))) H.length (y a) = H.set j0 (some (x' a)) ++ [some (y a)] := by
      have := Heap.put_end (H.set j0 (some (x' a))) (y a)
      rwa [List.length_set] at this
    rw [e3]
    exact hK a ha
end
end Go.Sx
/- A call that is handed rows, and sees the caller's other rows as memory that is only read. -/
namespace Go.Sx
open Go

structure MixOK (ι : List Nat) (Fr : Heap → Nat → Prop) (H LH' H'' : Heap) (v : AVal) (σ : Nat → Nat) (S : Nat → Prop) : Prop where
  old : ∀ i, i < ι.length → S i ∧ σ i = nth ι i
  new : ∀ i, S i → i < ι.length ∨ Fr H'' (σ i)
  inj : ∀ i j, S i → S j → σ i = σ j → i = j
  val : Bel S v
  nv : NV v
  rows : ∀ r x, H''[r]? = some (some x) → (∃ i y, S i ∧ σ i = r ∧ LH'[i]? = some (some y) ∧ x = y.ren σ ∧ y.bel S ∧ y.nv) ∨ ((∀ i, S i → σ i ≠ r) ∧ H[r]? = some (some x))

def MixArg (ι : List Nat) (d : Nat) (Hf : Heap) (v u : AVal) : Prop := (v = ren (nth ι) u ∧ Bel (· < ι.length) u ∧ NV u) ∨ u = frz d Hf v

section
variable {P : Program} {G : Ctx}

theorem call_mix {f : FuncId} {largs args : List AVal} {LH H Hf : Heap} {R R' : AVal → Heap → Prop} {d : Nat} (hf : Fn P f largs LH R) {ι : List Nat} {Fr : Heap → Nat → Prop} (hn : ι.Nodup) (hlen : LH.length = ι.length) (hall : ∀ i, i < ι.length → ∃ x, LH[i]? = some (some x))
    (hoff : ∀ r x, Hf[r]? = some (some x) → H[r]? = some (some x) ∧ ∀ i, i < ι.length → nth ι i ≠ r) (hla : args.length = largs.length)
    (hargs : ∀ i, i < args.length → MixArg ι d Hf (args.getD i .any) (largs.getD i .any))
    (hrows : ∀ i x, LH[i]? = some (some x) → H[nth ι i]? = some (some (x.ren (nth ι))) ∧ x.bel (· < ι.length) ∧ x.nv)
    (hout : ∀ v LH', R v LH' → ∃ σ S H'', MixOK ι Fr H LH' H'' v σ S ∧ R' (ren σ v) H'')
    {μ : Mu} {cargs : Array Value} {w : World} (hl : args.length = cargs.size) (hv : ∀ i, i < args.length → VR G μ (args.getD i .any) (cargs.getD i undef)) (hH : HR P G μ H w) (hfree : ∀ H'' r, Fr H'' r → μ r = none) :
    CallsIn (Fw none) 0 P f cargs w fun e w' => ∃ v' cv μ'' H'', e = .returned cv ∧ R' v' H'' ∧ VR G μ'' v' cv ∧ HR P G μ'' H'' w' ∧ μ.le μ'' ∧ ∀ r, (μ'' r).isSome = true → (μ r).isSome = true ∨ Fr H'' r := by
  classical
  let G' : Ctx := { keep := fun b => G.keep b ∨ ∃ r x p, (∀ i, i < ι.length → nth ι i ≠ r) ∧ H[r]? = some (some x) ∧ x ≠ .dead ∧ μ r = some p ∧ p.blk = b, ro := fun b => G.ro b ∨ ∃ r x p, (∀ i, i < ι.length → nth ι i ≠ r) ∧ H[r]? = some (some x) ∧ x ≠ .dead ∧ μ r = some p ∧ p.blk = b, w0 := w }
  let μl : Mu := fun i => if i < ι.length then μ (nth ι i) else none
  have hμl : ∀ r, r < ι.length → μl r = μ (nth ι r) := fun r hr => by simp [μl, hr]
  have hlH : HR P G' μl LH w := by
    constructor
    · intro i x hx hnd
      have hi : i < ι.length := by rw [← hlen]; exact (List.getElem?_eq_some_iff.1 hx).1
      obtain ⟨h1, h2, h2n⟩ := hrows i x hx
      have hnd' : x.ren (nth ι) ≠ .dead := fun e => hnd (ren_dead e)
      obtain ⟨p, k1, k2, k3, k4⟩ := hH.row _ _ h1 hnd'
      refine ⟨p, by rw [hμl i hi]; exact k1, ?_, k3, (k4.pull h2 hμl).nv h2n⟩
      rintro (hk | ⟨r, y, q, q1, q2, q2', q3, q4⟩)
      · exact k2 hk
      · exact hH.apart _ _ _ _ _ _ h1 q2 k1 q3 (q1 i hi) hnd' q2' q4.symm
    · intro i j x y p q hx hy hp hq hne n1 n2
      have hi : i < ι.length := by rw [← hlen]; exact (List.getElem?_eq_some_iff.1 hx).1
      have hj : j < ι.length := by rw [← hlen]; exact (List.getElem?_eq_some_iff.1 hy).1
      rw [hμl i hi] at hp
      rw [hμl j hj] at hq
      exact hH.apart _ _ _ _ _ _ (hrows i x hx).1 (hrows j y hy).1 hp hq (fun h => hne (nth_inj hn hi hj h)) (fun e => n1 (ren_dead e)) fun e => n2 (ren_dead e)
    · rintro b (hk | ⟨r, y, q, q1, q2, q2', q3, rfl⟩)
      · exact ⟨(hH.kept b hk).1, rfl⟩
      · obtain ⟨p, k1, k2, k3, k4⟩ := hH.row _ _ q2 q2'
        rw [k1] at q3; cases q3
        exact ⟨k3, rfl⟩
    · rintro b (hb | hb)
      · exact .inl (hH.ro b hb)
      · exact .inr hb
    · exact Calm.refl w
    · intro i hx
      have hi : i < ι.length := by rw [← hlen]; exact (List.getElem?_eq_some_iff.1 hx).1
      rw [hμl i hi]; exact hH.nm (hrows i _ hx).1
    · exact hH.glob.ctx fun b hb => ⟨.inl hb, (hH.kept b (hH.ro b hb)).2⟩
  refine ((hf G').2 μl cargs w (by omega) (fun i hi => ?_) hlH (fun r hr => ?_)).mono ?_
  · have hi' : i < args.length := by omega
    rcases hargs i hi' with ⟨h1, h2, h3⟩ | h1
    · have := hv i hi'
      rw [h1] at this
      exact (this.pull h2 hμl).nv h3
    · rw [h1]
      exact (frz_vr (G' := G') (hH.sub fun r x hx => (hoff r x hx).1) rfl (fun b hb => Or.inl hb) (fun r x p k1 k1' k2 => Or.inr ⟨r, x, p, (hoff r x k1).2, (hoff r x k1).1, k1', k2, rfl⟩) d _ _ (hv i hi')).mono (fun r p hr => by cases hr)
  · simp only [μl] at hr
    split at hr
    · rename_i h; rw [hlen]; exact h
    · cases hr
  · rintro e w' ⟨v, cv, μ', LH', rfl, hR, hvv, hH', hdom, hle⟩
    obtain ⟨σ, S, H'', ho, hR'⟩ := hout v LH' hR
    let μ'' : Mu := fun r => if h : ∃ i, S i ∧ σ i = r then μ' h.choose else μ r
    have hσ : ∀ i, S i → μ'' (σ i) = μ' i := by
      intro i hi
      have h : ∃ j, S j ∧ σ j = σ i := ⟨i, hi, rfl⟩
      have hc := h.choose_spec
      have : h.choose = i := ho.inj _ _ hc.1 hi hc.2
      simp only [μ'', dif_pos h, this]
    have hoff' : ∀ r, (∀ i, S i → σ i ≠ r) → μ'' r = μ r := by
      intro r h
      have : ¬ ∃ i, S i ∧ σ i = r := fun ⟨i, h1, h2⟩ => h i h1 h2
      simp only [μ'', dif_neg this]
    have hμle : μ.le μ'' := by
      intro r p hp
      by_cases h : ∃ i, S i ∧ σ i = r
      · obtain ⟨i, hi, rfl⟩ := h
        rw [hσ i hi]
        rcases ho.new i hi with h1 | h1
        · refine hle i p (by rw [hlen]; exact h1) ?_
          rw [hμl i h1, ← (ho.old i h1).2]; exact hp
        · rw [hfree _ _ h1] at hp; cases hp
      · rw [hoff' r fun i h1 h2 => h ⟨i, h1, h2⟩]; exact ⟨p, hp, .inl rfl⟩
    refine ⟨ren σ v, cv, μ'', H'', rfl, hR', ?_, ?_, hμle, ?_⟩
    · exact (hvv.nv (G' := G) ho.nv).push ho.val fun r p hr hp => by rw [hσ r hr]; exact hp
    · have src : ∀ r x, H''[r]? = some (some x) → x ≠ .dead → ∃ p, μ'' r = some p ∧ ¬ G.keep p.blk ∧ p.blk < w'.heap.size ∧ RowIs P G μ'' p w'.heap x ∧
          ((∃ i y, S i ∧ σ i = r ∧ LH'[i]? = some (some y) ∧ μ' i = some p ∧ ¬ G'.keep p.blk ∧ y ≠ .dead) ∨ ((∀ i, S i → σ i ≠ r) ∧ H[r]? = some (some x) ∧ μ r = some p ∧ G'.keep p.blk)) := by
        intro r x hx hnd
        rcases ho.rows r x hx with ⟨i, y, h1, rfl, h3, rfl, h5, h6⟩ | ⟨h1, h2⟩
        · obtain ⟨p, k1, k2, k3, k4⟩ := hH'.row i y h3 (fun e => hnd (by rw [e]; rfl))
          refine ⟨p, by rw [hσ i h1]; exact k1, fun h => k2 (.inl h), k3, (k4.nv (G' := G) h6).push h5 fun r p hr hp => by rw [hσ r hr]; exact hp, .inl ⟨i, y, h1, rfl, h3, k1, k2, fun e => hnd (by rw [e]; rfl)⟩⟩
        · obtain ⟨p, k1, k2, k3, k4⟩ := hH.row r x h2 hnd
          have hkeep : G'.keep p.blk := .inr ⟨r, x, p, fun i hi e => h1 i (ho.old i hi).1 ((ho.old i hi).2.trans e), h2, hnd, k1, rfl⟩
          obtain ⟨m1, m2⟩ := hH'.kept p.blk hkeep
          exact ⟨p, by rw [hoff' r h1]; exact k1, k2, m1, k4.mono hμle m2, .inr ⟨h1, h2, k1, hkeep⟩⟩
      constructor
      · intro r x hx hnd
        obtain ⟨p, k1, k2, k3, k4, _⟩ := src r x hx hnd
        exact ⟨p, k1, k2, k3, k4⟩
      · intro r r' x x' p p' hx hx' hp hp' hne n1 n2
        obtain ⟨q, k1, _, _, _, k5⟩ := src r x hx n1
        obtain ⟨q', k1', _, _, _, k5'⟩ := src r' x' hx' n2
        rw [k1] at hp; cases hp
        rw [k1'] at hp'; cases hp'
        rcases k5 with ⟨i, y, a1, a2, a3, a4, a5, a6⟩ | ⟨a1, a2, a3, a4⟩ <;> rcases k5' with ⟨j, z, b1, b2, b3, b4, b5, b6⟩ | ⟨b1, b2, b3, b4⟩
        · exact hH'.apart i j y z _ _ a3 b3 a4 b4 (fun e => hne (by rw [← a2, ← b2, e])) a6 b6
        · exact fun e => a5 (by rw [e]; exact b4)
        · exact fun e => b5 (by rw [← e]; exact a4)
        · exact hH.apart r r' x x' _ _ a2 b2 a3 b3 hne n1 n2
      · intro b hb
        have : G'.keep b := .inl hb
        obtain ⟨m1, m2⟩ := hH'.kept b this
        exact ⟨m1, m2.trans (hH.kept b hb).2⟩
      · exact hH.ro
      · exact hH.calm.trans hH'.calm
      · intro r hr
        rcases ho.rows r _ hr with ⟨i, y, h1, rfl, h3, h4, h5, h6⟩ | ⟨h1, h2⟩
        · have := ren_dead h4.symm; subst this
          rw [hσ i h1]; exact hH'.named i h3
        · rw [hoff' r h1]; exact hH.named r h2
      · exact hH.glob
    · intro r hr
      by_cases h : ∃ i, S i ∧ σ i = r
      · obtain ⟨i, hi, rfl⟩ := h
        rcases ho.new i hi with h1 | h1
        · rw [hσ i hi] at hr
          left
          rw [(ho.old i h1).2, ← hμl i h1]
          obtain ⟨x, hx⟩ := hall i h1
          exact hlH.nm hx
        · exact .inr h1
      · rw [hoff' r fun i h1 h2 => h ⟨i, h1, h2⟩] at hr; exact .inl hr

variable {g : FuncId} {largs args : List AVal} {LH H : Heap} {α : Type} {Φ : α → Prop} {r : α → AVal} {L' : α → Heap}

theorem mix_out {H LH' X : Heap} {v : AVal} {ι : List Nat} (Fr : Heap → Nat → Prop) (hn : ι.Nodup) (hlt : ∀ q ∈ ι, q < H.length) (hlen : ι.length ≤ LH'.length) (hr : Bel (· < LH'.length) v) (hnv : NV v) (hf' : Full (· < LH'.length) LH') (hn' : FullNV LH')
    (hFr : ∀ i, ¬ i < ι.length → i < LH'.length → Fr (H.puts (outΔ (outσ ι H.length) 0 LH')) (H.length + (i - ι.length))) :
    MixOK ι Fr H (LH' ++ X) (H.puts (outΔ (outσ ι H.length) 0 LH')) v (outσ ι H.length) (· < LH'.length) := by
  have hσ0 : ∀ i, i < ι.length → outσ ι H.length i = nth ι i := fun i hi => by simp [outσ, hi]
  have hσ1 : ∀ i, ¬ i < ι.length → outσ ι H.length i = H.length + (i - ι.length) := fun i hi => by simp [outσ, hi]
  have hmem : ∀ i, i < ι.length → nth ι i ∈ ι := fun i hi => by
    have : nth ι i = ι[i] := by simp [nth, hi]
    rw [this]; exact List.getElem_mem hi
  refine ⟨fun i hi => ⟨by omega, hσ0 i hi⟩, fun i hi => ?_, fun i j hi hj hij => ?_, hr, hnv, fun q x hq => ?_⟩
  · by_cases hlt : i < ι.length
    · exact .inl hlt
    · right
      rw [hσ1 i hlt]; exact hFr i hlt hi
  · by_cases h1 : i < ι.length <;> by_cases h2 : j < ι.length
    · rw [hσ0 i h1, hσ0 j h2] at hij; exact nth_inj hn h1 h2 hij
    · rw [hσ0 i h1, hσ1 j h2] at hij
      have := hlt _ (hmem i h1); omega
    · rw [hσ1 i h1, hσ0 j h2] at hij
      have := hlt _ (hmem j h2); omega
    · rw [hσ1 i h1, hσ1 j h2] at hij; omega
  · rcases puts_get _ H q x hq with h1 | ⟨h1, h2⟩
    · obtain ⟨j, y, e1, e2, e3⟩ := outΔ_mem h1
      have hj := (List.getElem?_eq_some_iff.1 e1).1
      obtain ⟨y', hy', hb'⟩ := hf'.get j hj
      rw [e1] at hy'; cases hy'
      refine .inl ⟨j, y, hj, by rw [e2]; congr 1; omega, ?_, e3, hb', hn'.get j y e1⟩
      rw [List.getElem?_append_left hj]; exact e1
    · refine .inr ⟨fun i hi hiq => h1 ?_, h2⟩
      obtain ⟨y, hy, _⟩ := hf'.get i hi
      rw [List.mem_map]
      exact ⟨(q, y.ren (outσ ι H.length)), by have := outΔ_in (σ := outσ ι H.length) (i := 0) hy; rw [Nat.zero_add, hiq] at this; exact this, rfl⟩

theorem callM {k : Nat} {R : Runner} {l : List AOper} {fs : List Frame} {ρ : List AVal} {ms : List Nat} {Q : Goal} {dst : Option Nat} (h : AnsE P g largs LH Φ r L') (d : Nat) (ι : List Nat) (hn : ι.Nodup) (hrows : rowsOK H (nth ι) ι LH) (hla : args.length = largs.length)
    (hargs : ∀ i, i < args.length → MixArg ι d (H.mask ι) (args.getD i .any) (largs.getD i .any)) (hf : Full (· < ι.length) LH) (hfn : FullNV LH)
    (hwf : ∀ a, Φ a → ι.length ≤ (L' a).length ∧ Bel (· < (L' a).length) (r a) ∧ NV (r a) ∧ Full (· < (L' a).length) (L' a) ∧ FullNV (L' a)) (hlt : ∀ q ∈ ι, q < H.length) (hk : k ≤ H.length)
    (hms : ∀ a, Φ a → ∀ q ∈ ms, q ∉ (outΔ (outσ ι H.length) 0 (L' a)).map (·.1) ∧ H[q]? = some (some .dfr))
    (hK : ∀ a, Φ a → R (.ops l) fs ⟨setD ρ dst (ren (outσ ι H.length) (r a)), H.puts (outΔ (outσ ι H.length) 0 (L' a)), ms⟩ Q) : CallR P G k R g args dst l fs ρ H ms Q := by
  obtain ⟨hl, hget⟩ := hrows.get
  refine callR (T := fun v H' => ∃ a, Φ a ∧ v = ren (outσ ι H.length) (r a) ∧ H' = H.puts (outΔ (outσ ι H.length) 0 (L' a))) ⟨(h G).1, fun μ cargs w hlc hv hH hdom => ?_⟩ hk ?_
  · have hfree : ∀ (H'' : Heap) q, (H.length ≤ q ∧ q < H''.length) → μ q = none := fun _ q hq => by
      cases hm : μ q with
      | none => rfl
      | some p => have := hdom q (by rw [hm]; rfl); omega
    refine (call_mix (R' := fun v H'' => ∃ a, Φ a ∧ v = ren (outσ ι H.length) (r a) ∧ H'' = H.puts (outΔ (outσ ι H.length) 0 (L' a))) (Fr := fun H'' q => H.length ≤ q ∧ q < H''.length) h hn hl (fun i hi => by
      obtain ⟨x, hx, _⟩ := hf.get i (by omega); exact ⟨x, hx⟩) (Hf := H.mask ι) (fun q x hq => by
        obtain ⟨h1, h2⟩ := (mask_get H ι q x).1 hq
        refine ⟨h2, fun i hi e => h1 ?_⟩
        have : nth ι i = ι[i] := by simp [nth, hi]
        rw [← e, this]; exact List.getElem_mem hi) hla hargs (fun i x hx => ⟨hget i x hx, by
        obtain ⟨y, hy, hb⟩ := hf.get i (List.getElem?_eq_some_iff.1 hx).1
        rw [hx] at hy; cases hy; exact hb, hfn.get i x hx⟩) ?_ hlc hv hH hfree).mono ?_
    · rintro v _ ⟨a, ha, rfl, X, rfl⟩
      obtain ⟨hlen, hr, hnv, hf', hn'⟩ := hwf a ha
      refine ⟨outσ ι H.length, (· < (L' a).length), _, mix_out _ hn hlt hlen hr hnv hf' hn' (fun i h1 h2 => ?_), a, ha, rfl, rfl⟩
      obtain ⟨y, hy, _⟩ := hf'.get i h2
      refine ⟨by omega, Heap.puts_lt ?_⟩
      rw [List.mem_map]
      exact ⟨(outσ ι H.length i, y.ren (outσ ι H.length)), by have := outΔ_in (σ := outσ ι H.length) (i := 0) hy; rwa [Nat.zero_add] at this, by simp [outσ, h1]⟩
    · rintro e w' ⟨v', cv, μ', H'', rfl, h1, h2, h3, h4, h5⟩
      refine ⟨v', cv, μ', H'', rfl, h1, h2, h3, fun q hq => ?_, Mu.leB_of h4, fun q hq hn => ?_⟩
      · rcases h5 q hq with h | h
        · have := hdom q h
          obtain ⟨a, ha, _, rfl⟩ := h1
          exact Nat.lt_of_lt_of_le this (Heap.le_puts _ H)
        · exact h.2
      · cases hm : μ' q with
        | none => rfl
        | some p =>
          rcases h5 q (by rw [hm]; rfl) with h | h
          · rw [hn] at h; cases h
          · omega
  · rintro v H' ⟨a, ha, rfl, rfl⟩
    exact ⟨marks_kept (hms a ha), hK a ha⟩

theorem Ans.dmix {v : AVal} {LH' : Heap} (h : Ans P g largs LH v LH') (d : Nat) (ι deps : List Nat) (hn : ι.Nodup) (hdj : ∀ q ∈ deps, q ∉ ι) (hrows : rowsOK H (nth ι) ι LH) (hla : args.length = largs.length)
    (hargs : ∀ i, i < args.length → MixArg ι d (H.onlyR deps) (args.getD i .any) (largs.getD i .any)) (hf : Full (· < ι.length) LH) (hfn : FullNV LH)
    (hlen : ι.length ≤ LH'.length) (hr : Bel (· < LH'.length) v) (hnv : NV v) (hf' : Full (· < LH'.length) LH') (hn' : FullNV LH') (hlt : ∀ q ∈ ι, q < H.length) :
    DCall P g args (H.onlyR (ι ++ deps)) ⟨ren (outσ ι H.length) v, outΔ (outσ ι H.length) 0 LH', newNames H.length (LH'.length - ι.length)⟩ := by
  obtain ⟨hl, hget⟩ := hrows.get
  have hmem : ∀ i, i < ι.length → nth ι i ∈ ι := fun i hi => by
    have : nth ι i = ι[i] := by simp [nth, hi]
    rw [this]; exact List.getElem_mem hi
  refine ⟨(h ⟨fun _ => False, fun _ => False, default⟩).1, fun G H' μ cargs w hsub hfree hlc hv hH => ?_⟩
  refine (call_mix (H := H') (Hf := H.onlyR deps) (R' := fun u H'' => u = ren (outσ ι H.length) v ∧ H'' = H'.puts (outΔ (outσ ι H.length) 0 LH')) (Fr := fun _ q => q ∈ newNames H.length (LH'.length - ι.length)) h hn hl (fun i hi => by
    obtain ⟨x, hx, _⟩ := hf.get i (by omega); exact ⟨x, hx⟩) (fun q x hq => by
      obtain ⟨h1, h2⟩ := (onlyR_get _ _ _ _).1 hq
      exact ⟨hsub _ _ ((onlyR_get _ _ _ _).2 ⟨List.mem_append_right _ h1, h2⟩), fun i hi e => hdj q h1 (by rw [← e]; exact hmem i hi)⟩) hla hargs
      (fun i x hx => ⟨hsub _ _ ((onlyR_get _ _ _ _).2 ⟨List.mem_append_left _ (hmem i (by rw [← hl]; exact (List.getElem?_eq_some_iff.1 hx).1)), hget i x hx⟩), by
        obtain ⟨y, hy, hb⟩ := hf.get i (List.getElem?_eq_some_iff.1 hx).1
        rw [hx] at hy; cases hy; exact hb, hfn.get i x hx⟩) ?_ hlc hv hH (fun _ q hq => hfree q hq)).mono ?_
  · rintro u _ ⟨rfl, X, rfl⟩
    have hσ1 : ∀ i, ¬ i < ι.length → outσ ι H.length i = H.length + (i - ι.length) := fun i hi => by simp [outσ, hi]
    have hσ0 : ∀ i, i < ι.length → outσ ι H.length i = nth ι i := fun i hi => by simp [outσ, hi]
    refine ⟨outσ ι H.length, (· < LH'.length), _, ⟨fun i hi => ⟨by omega, hσ0 i hi⟩, fun i hi => ?_, fun i j hi hj hij => ?_, hr, hnv, fun q x hq => ?_⟩, rfl, rfl⟩
    · by_cases hlt : i < ι.length
      · exact .inl hlt
      · right; rw [hσ1 i hlt, mem_newNames]; omega
    · by_cases h1 : i < ι.length <;> by_cases h2 : j < ι.length
      · rw [hσ0 i h1, hσ0 j h2] at hij; exact nth_inj hn h1 h2 hij
      · rw [hσ0 i h1, hσ1 j h2] at hij
        have := hlt _ (hmem i h1); omega
      · rw [hσ1 i h1, hσ0 j h2] at hij
        have := hlt _ (hmem j h2); omega
      · rw [hσ1 i h1, hσ1 j h2] at hij; omega
    · rcases puts_get _ H' q x hq with h1 | ⟨h1, h2⟩
      · obtain ⟨j, y, e1, e2, e3⟩ := outΔ_mem h1
        have hj := (List.getElem?_eq_some_iff.1 e1).1
        obtain ⟨y', hy', hb'⟩ := hf'.get j hj
        rw [e1] at hy'; cases hy'
        refine .inl ⟨j, y, hj, by rw [e2]; congr 1; omega, ?_, e3, hb', hn'.get j y e1⟩
        rw [List.getElem?_append_left hj]; exact e1
      · refine .inr ⟨fun i hi hiq => h1 ?_, h2⟩
        obtain ⟨y, hy, _⟩ := hf'.get i hi
        rw [List.mem_map]
        exact ⟨(q, y.ren (outσ ι H.length)), by have := outΔ_in (σ := outσ ι H.length) (i := 0) hy; rw [Nat.zero_add, hiq] at this; exact this, rfl⟩
  · rintro e w' ⟨v', cv, μ', H'', rfl, ⟨rfl, rfl⟩, h1, h2, h3, h4⟩
    refine ⟨cv, μ', rfl, h1, h2, h3, fun q hq => (h4 q hq).imp id fun hq => ⟨hq, Heap.puts_lt ?_⟩⟩
    rw [mem_newNames] at hq
    have hj : ι.length + (q - H.length) < LH'.length := by omega
    obtain ⟨y, hy, _⟩ := hf'.get _ hj
    rw [List.mem_map]
    refine ⟨(q, y.ren (outσ ι H.length)), ?_, rfl⟩
    have := outΔ_in (σ := outσ ι H.length) (i := 0) hy
    rw [Nat.zero_add, show outσ ι H.length (ι.length + (q - H.length)) = H.length + (ι.length + (q - H.length) - ι.length) by unfold outσ; rw [if_neg (by omega)], show H.length + (ι.length + (q - H.length) - ι.length) = q by omega] at this
    exact this
end
end Go.Sx
/- Data in rows: values that lead to lists, of numbers, of lists, of structs, and what they hold. -/
namespace Go.Sx
open Go

def AVal.leaf : AVal → Bool
  | .int _ _ | .bool _ | .str _ | .nilsl => true
  | _ => false

def All3 (R : List Nat → AVal → AVal → Prop) : List Nat → List AVal → List AVal → Prop
  | ι, [], [] => ι = []
  | ι, v :: vs, e :: es => ∃ κ κ', ι = κ ++ κ' ∧ R κ v e ∧ All3 R κ' vs es
  | _, _, _ => False

theorem All3.len {R : List Nat → AVal → AVal → Prop} : ∀ {ι : List Nat} {vs es : List AVal}, All3 R ι vs es → vs.length = es.length
  | _, [], [], _ => rfl
  | _, v :: vs, e :: es, ⟨_, _, _, _, h⟩ => by simp [h.len]
  | _, [], _ :: _, h => h.elim
  | _, _ :: _, [], h => h.elim
theorem All3.snoc {R : List Nat → AVal → AVal → Prop} {κ : List Nat} {v e : AVal} (hv : R κ v e) : ∀ {ι : List Nat} {vs es : List AVal}, All3 R ι vs es → All3 R (ι ++ κ) (vs ++ [v]) (es ++ [e])
  | _, [], [], h => by subst h; exact ⟨κ, [], by simp, hv, rfl⟩
  | _, u :: vs, e' :: es, ⟨κ1, κ2, h1, h2, h3⟩ => ⟨κ1, κ2 ++ κ, by rw [h1, List.append_assoc], h2, h3.snoc hv⟩
  | _, [], _ :: _, h => h.elim
  | _, _ :: _, [], h => h.elim
theorem All3.mono {R R' : List Nat → AVal → AVal → Prop} : ∀ {ι : List Nat} {vs es : List AVal}, (∀ κ v e, (∀ r ∈ κ, r ∈ ι) → e ∈ es → R κ v e → R' κ v e) → All3 R ι vs es → All3 R' ι vs es
  | _, [], [], _, h => h
  | _, u :: vs, e' :: es, hR, ⟨κ1, κ2, h1, h2, h3⟩ => ⟨κ1, κ2, h1, hR _ _ _ (fun r hr => by rw [h1]; exact List.mem_append_left _ hr) (by simp) h2, h3.mono fun κ v e hs he => hR κ v e (fun r hr => by rw [h1]; exact List.mem_append_right _ (hs r hr)) (by simp [he])⟩
  | _, [], _ :: _, _, h => h.elim
  | _, _ :: _, [], _, h => h.elim
theorem All3.get {R : List Nat → AVal → AVal → Prop} : ∀ {ι : List Nat} {vs es : List AVal}, All3 R ι vs es → ∀ (i : Nat) (e : AVal), es[i]? = some e → ∃ κ v, vs[i]? = some v ∧ (∀ r ∈ κ, r ∈ ι) ∧ R κ v e
  | _, v :: vs, e' :: es, ⟨κ1, κ2, h1, h2, h3⟩, 0, e, he => by
    simp at he; subst he
    exact ⟨κ1, v, rfl, fun r hr => by rw [h1]; exact List.mem_append_left _ hr, h2⟩
  | _, v :: vs, e' :: es, ⟨κ1, κ2, h1, h2, h3⟩, i + 1, e, he => by
    obtain ⟨κ, u, k1, k2, k3⟩ := h3.get i e (by simpa using he)
    exact ⟨κ, u, by simpa using k1, fun r hr => by rw [h1]; exact List.mem_append_right _ (k2 r hr), k3⟩
  | _, [], [], _, i, e, he => by simp at he
  | _, [], _ :: _, h, _, _, _ => h.elim
  | _, _ :: _, [], h, _, _, _ => h.elim

def Dat : Nat → Heap → List Nat → AVal → AVal → Prop
  | 0, _, _, _, _ => False
  | d + 1, H, ι, v, .view es => es ≠ [] ∧ ∃ r vs κ, v = .sl r 0 es.length ∧ ι = κ ++ [r] ∧ H[r]? = some (some (.cells true (acells (es.headD .any)).length vs)) ∧ All3 (Dat d H) κ vs es
  | d + 1, H, ι, v, .agg cs => ∃ vs, v = .agg vs ∧ All3 (Dat d H) ι vs cs
  | d + 1, H, ι, v, .tup cs => ∃ vs, v = .tup vs ∧ All3 (Dat d H) ι vs cs
  | _ + 1, _, ι, v, c => v = c ∧ ι = [] ∧ c.leaf = true

theorem Dat.leaf {d : Nat} {H : Heap} {c : AVal} (h : c.leaf = true) : Dat (d + 1) H [] c c := by
  cases c <;> first | exact ⟨rfl, rfl, h⟩ | cases h
theorem Dat.int (d : Nat) (H : Heap) (k : IntKind) (n : Int) : Dat (d + 1) H [] (.int k n) (.int k n) := .leaf rfl
theorem Dat.ints {d : Nat} {H : Heap} (k : IntKind) : ∀ l : List Int, All3 (Dat (d + 1) H) [] (l.map (.int k)) (l.map (.int k))
  | [] => rfl
  | n :: l => ⟨[], [], rfl, .int _ _ _ _, Dat.ints k l⟩
theorem Dat.list {d : Nat} {H : Heap} {r : Nat} {κ : List Nat} {vs es : List AVal} {sz n : Nat} (h0 : es ≠ []) (hn : n = es.length) (hsz : sz = (acells (es.headD .any)).length) (hr : H[r]? = some (some (.cells true sz vs))) (h : All3 (Dat d H) κ vs es) : Dat (d + 1) H (κ ++ [r]) (.sl r 0 n) (.view es) := by
  subst hn; subst hsz
  exact ⟨h0, r, vs, κ, rfl, rfl, hr, h⟩
theorem Dat.congr {H H' : Heap} : ∀ {d : Nat} {ι : List Nat} {v c : AVal}, (∀ r ∈ ι, H'[r]? = H[r]?) → Dat d H ι v c → Dat d H' ι v c := by
  intro d
  induction d with
  | zero => intro ι v c _ h; exact h
  | succ d ih =>
    intro ι v c hr h
    cases c with
    | view es =>
      obtain ⟨h0, r, vs, κ, h1, rfl, h2, h3⟩ := h
      exact ⟨h0, r, vs, κ, h1, rfl, by rw [hr r (by simp)]; exact h2, h3.mono fun κ' v e hs _ he => ih (fun q hq => hr q (List.mem_append_left _ (hs q hq))) he⟩
    | agg cs =>
      obtain ⟨vs, h1, h2⟩ := h
      exact ⟨vs, h1, h2.mono fun κ' v e hs _ he => ih (fun q hq => hr q (hs q hq)) he⟩
    | tup cs =>
      obtain ⟨vs, h1, h2⟩ := h
      exact ⟨vs, h1, h2.mono fun κ' v e hs _ he => ih (fun q hq => hr q (hs q hq)) he⟩
    | _ => exact h
theorem Dat.app {H : Heap} (Y : Heap) {d : Nat} {ι : List Nat} {v c : AVal} (h : Dat d H ι v c) (hlt : ∀ r ∈ ι, r < H.length) : Dat d (H ++ Y) ι v c := h.congr fun r hr => by rw [List.getElem?_append_left (hlt r hr)]
theorem Dat.set {H : Heap} {d : Nat} {ι : List Nat} {v c : AVal} {j : Nat} (x : Option Row) (h : Dat d H ι v c) (hj : j ∉ ι) : Dat d (H.set j x) ι v c := h.congr fun r hr => by rw [List.getElem?_set_ne (by rintro rfl; exact hj hr)]
theorem Dat.mask {H : Heap} {d : Nat} {ι κ : List Nat} {v c : AVal} (h : Dat d H ι v c) (hj : ∀ r ∈ ι, r ∉ κ) : Dat d (H.mask κ) ι v c := h.congr fun r hr => by
  unfold Heap.mask
  rw [List.getElem?_map, List.getElem?_zipIdx]
  cases H[r]? with
  | none => rfl
  | some x => simp [hj r hr]
theorem Dat.onlyR {H : Heap} {d : Nat} {ι κ : List Nat} {v c : AVal} (h : Dat d H ι v c) (hj : ∀ r ∈ ι, r ∈ κ) : Dat d (H.onlyR κ) ι v c := h.congr fun r hr => by
  unfold Heap.onlyR
  rw [List.getElem?_map, List.getElem?_zipIdx]
  cases H[r]? with
  | none => rfl
  | some x => simp [hj r hr]
theorem Dat.lt {H : Heap} : ∀ {d : Nat} {ι : List Nat} {v c : AVal}, Dat d H ι v c → ∀ r ∈ ι, r < H.length := by
  intro d
  induction d with
  | zero => intro ι v c h; exact h.elim
  | succ d ih =>
    have all : ∀ {ι vs es}, All3 (Dat d H) ι vs es → ∀ r ∈ ι, r < H.length := by
      intro ι vs es h
      induction es generalizing ι vs with
      | nil => cases vs with
        | nil => subst h; simp
        | cons => exact h.elim
      | cons e es ihs => cases vs with
        | nil => exact h.elim
        | cons v vs =>
          obtain ⟨κ, κ', rfl, h1, h2⟩ := h
          intro r hr
          rcases List.mem_append.1 hr with hr | hr
          · exact ih h1 r hr
          · exact ihs h2 r hr
    intro ι v c h
    cases c with
    | view es =>
      obtain ⟨_, r, vs, κ, _, rfl, h2, h3⟩ := h
      intro q hq
      rcases List.mem_append.1 hq with hq | hq
      · exact all h3 q hq
      · obtain rfl : q = r := by simpa using hq
        exact (List.getElem?_eq_some_iff.1 h2).1
    | agg cs => obtain ⟨vs, _, h2⟩ := h; exact all h2
    | tup cs => obtain ⟨vs, _, h2⟩ := h; exact all h2
    | _ => intro r hr; rw [h.2.1] at hr; simp at hr

theorem Dat.cells {H : Heap} {d : Nat} {ι : List Nat} {v c : AVal} (h : Dat d H ι v c) : (acells v).length = (acells c).length := by
  cases d with
  | zero => exact h.elim
  | succ d =>
    cases c with
    | view es => obtain ⟨_, r, vs, κ, rfl, _⟩ := h; rfl
    | agg cs => obtain ⟨vs, rfl, h2⟩ := h; exact h2.len
    | tup cs => obtain ⟨vs, rfl, h2⟩ := h; rfl
    | _ => rw [h.1]

theorem Dat.frz {H : Heap} : ∀ {d : Nat} {ι : List Nat} {v c : AVal}, Dat d H ι v c → frz d H v = c := by
  intro d
  induction d with
  | zero => intro ι v c h; exact h.elim
  | succ d ih =>
    have all : ∀ {ι vs es}, All3 (Dat d H) ι vs es → vs.map (Sx.frz d H) = es := by
      intro ι vs es h
      induction es generalizing ι vs with
      | nil => cases vs with
        | nil => rfl
        | cons => exact h.elim
      | cons e es ihs => cases vs with
        | nil => exact h.elim
        | cons v vs =>
          obtain ⟨κ, κ', rfl, h1, h2⟩ := h
          rw [List.map_cons, ih h1, ihs h2]
    intro ι v c h
    cases c with
    | view es =>
      obtain ⟨_, r, vs, κ, rfl, rfl, h2, h3⟩ := h
      have hl := h3.len
      simp only [Sx.frz, cellsAt_get (x := (true, (acells (es.headD .any)).length, vs)).2 h2, Nat.zero_add, List.drop_zero]
      rw [if_pos ⟨.inr hl.symm, by omega⟩, ← hl, List.take_length, all h3]
    | agg cs =>
      obtain ⟨vs, rfl, h2⟩ := h
      simp only [Sx.frz, all h2]
    | tup cs =>
      obtain ⟨vs, rfl, h2⟩ := h
      simp only [Sx.frz, all h2]
    | _ =>
      obtain ⟨rfl, _, h3⟩ := h
      first | rfl | cases h3

def mapk (f : Nat → AVal → AVal × Heap) : Nat → List AVal → List AVal × Heap
  | _, [] => ([], [])
  | k, e :: es => ((f k e).1 :: (mapk f (k + (f k e).2.length) es).1, (f k e).2 ++ (mapk f (k + (f k e).2.length) es).2)

def thaw : Nat → Nat → AVal → AVal × Heap
  | 0, _, c => (c, [])
  | d + 1, k, .view es => (.sl (k + (mapk (thaw d) k es).2.length) 0 es.length, (mapk (thaw d) k es).2 ++ [some (.cells true (acells (es.headD .any)).length (mapk (thaw d) k es).1)])
  | d + 1, k, .agg cs => (.agg (mapk (thaw d) k cs).1, (mapk (thaw d) k cs).2)
  | d + 1, k, .tup cs => (.tup (mapk (thaw d) k cs).1, (mapk (thaw d) k cs).2)
  | _ + 1, _, c => (c, [])

structure Stands (H : Heap) (ι : List Nat) (σ : Nat → Nat) (k : Nat) (L : Heap) : Prop where
  len : L.length = ι.length
  get : ∀ i x, L[i]? = some (some x) → H[nth ι i]? = some (some (x.ren σ))

theorem nth_app_left {ι κ : List Nat} {i : Nat} (h : i < ι.length) : nth (ι ++ κ) i = nth ι i := by
  unfold nth; rw [List.getD_eq_getElem?_getD, List.getD_eq_getElem?_getD, List.getElem?_append_left h]
theorem nth_app_right {ι κ : List Nat} {i : Nat} (h : ι.length ≤ i) : nth (ι ++ κ) i = nth κ (i - ι.length) := by
  unfold nth; rw [List.getD_eq_getElem?_getD, List.getD_eq_getElem?_getD, List.getElem?_append_right h]

theorem Stands.app {H : Heap} {ι κ : List Nat} {σ : Nat → Nat} {k : Nat} {L M : Heap} (h1 : Stands H ι σ k L) (h2 : Stands H κ σ (k + L.length) M) : Stands H (ι ++ κ) σ k (L ++ M) := by
  refine ⟨by simp [h1.len, h2.len], fun i x hx => ?_⟩
  by_cases hi : i < L.length
  · rw [List.getElem?_append_left hi] at hx
    rw [nth_app_left (by rw [← h1.len]; exact hi)]
    exact h1.get i x hx
  · rw [List.getElem?_append_right (by omega)] at hx
    rw [nth_app_right (by rw [← h1.len]; omega), ← h1.len]
    exact h2.get _ x hx

theorem Dat.thaw {H : Heap} {σ : Nat → Nat} : ∀ {d : Nat} {ι : List Nat} {v c : AVal} (k : Nat), Dat d H ι v c → (∀ i, i < ι.length → σ (k + i) = nth ι i) → v = ren σ (thaw d k c).1 ∧ Stands H ι σ k (thaw d k c).2 := by
  intro d
  induction d with
  | zero => intro ι v c k h; exact h.elim
  | succ d ih =>
    have all : ∀ {ι vs es} (k : Nat), All3 (Dat d H) ι vs es → (∀ i, i < ι.length → σ (k + i) = nth ι i) → vs = (mapk (Sx.thaw d) k es).1.map (ren σ) ∧ Stands H ι σ k (mapk (Sx.thaw d) k es).2 := by
      intro ι vs es
      induction es generalizing ι vs with
      | nil => intro k h _; cases vs with
        | nil => subst h; exact ⟨rfl, rfl, fun i x hx => by simp [mapk] at hx⟩
        | cons => exact h.elim
      | cons e es ihs => intro k h hσ; cases vs with
        | nil => exact h.elim
        | cons v vs =>
          obtain ⟨κ, κ', rfl, h1, h2⟩ := h
          obtain ⟨e1, s1⟩ := ih k h1 fun i hi => by rw [hσ i (by simp; omega), nth_app_left hi]
          obtain ⟨e2, s2⟩ := ihs (k + (Sx.thaw d k e).2.length) h2 fun i hi => by rw [Nat.add_assoc, hσ _ (by rw [s1.len, List.length_append]; omega), nth_app_right (by rw [s1.len]; omega)]; congr 1; rw [s1.len]; omega
          exact ⟨by simp only [mapk, List.map_cons]; rw [← e1, ← e2], s1.app s2⟩
    intro ι v c k h hσ
    cases c with
    | view es =>
      obtain ⟨_, r, vs, κ, rfl, rfl, h2, h3⟩ := h
      obtain ⟨e1, s1⟩ := all k h3 fun i hi => by rw [hσ i (by simp; omega), nth_app_left hi]
      have hr : σ (k + (mapk (Sx.thaw d) k es).2.length) = r := by rw [hσ _ (by simp [s1.len]), nth_app_right (by rw [s1.len]; omega), s1.len, Nat.sub_self]; rfl
      refine ⟨by simp only [Sx.thaw, ren, hr], s1.app ⟨rfl, fun i x hx => ?_⟩⟩
      cases i with
      | zero =>
        simp only [List.getElem?_cons_zero, Option.some.injEq] at hx
        subst hx
        show H[nth [r] 0]? = _
        simp only [Row.ren, rens_eq, ← e1]
        exact h2
      | succ i => simp at hx
    | agg cs =>
      obtain ⟨vs, rfl, h2⟩ := h
      obtain ⟨e1, s1⟩ := all k h2 hσ
      exact ⟨by simp only [Sx.thaw, ren, rens_eq, ← e1], s1⟩
    | tup cs =>
      obtain ⟨vs, rfl, h2⟩ := h
      obtain ⟨e1, s1⟩ := all k h2 hσ
      exact ⟨by simp only [Sx.thaw, ren, rens_eq, ← e1], s1⟩
    | _ =>
      obtain ⟨rfl, rfl, h3⟩ := h
      refine ⟨?_, rfl, fun i x hx => by simp [Sx.thaw] at hx⟩
      first | rfl | cases h3

def Pure : Nat → AVal → Prop
  | 0, _ => False
  | d + 1, .view es => es ≠ [] ∧ ∀ e ∈ es, Pure d e
  | d + 1, .agg cs => ∀ e ∈ cs, Pure d e
  | d + 1, .tup cs => ∀ e ∈ cs, Pure d e
  | _ + 1, c => c.leaf = true

theorem mapk_len {f : Nat → AVal → AVal × Heap} : ∀ (k : Nat) (es : List AVal), (mapk f k es).1.length = es.length
  | _, [] => rfl
  | k, e :: es => by simp [mapk, mapk_len]

def WFk (k n : Nat) (L : Heap) : Prop := ∀ i, i < L.length → ∃ x, L[i]? = some (some x) ∧ x.bel (fun r => k ≤ r ∧ r < n) ∧ x.nv
theorem WFk.app {k n : Nat} {L M : Heap} (h1 : WFk k n L) (h2 : WFk k n M) : WFk k n (L ++ M) := fun i hi => by
  by_cases h : i < L.length
  · obtain ⟨x, k1, k2⟩ := h1 i h
    exact ⟨x, by rw [List.getElem?_append_left h]; exact k1, k2⟩
  · obtain ⟨x, k1, k2⟩ := h2 (i - L.length) (by simp at hi; omega)
    exact ⟨x, by rw [List.getElem?_append_right (by omega)]; exact k1, k2⟩
theorem WFk.mono {k n k' n' : Nat} {L : Heap} (h : WFk k n L) (h1 : k' ≤ k) (h2 : n ≤ n') : WFk k' n' L := fun i hi => by
  obtain ⟨x, k1, k2, k3⟩ := h i hi
  exact ⟨x, k1, bel_mono_row k2 fun r hr => ⟨by omega, by omega⟩, k3⟩

theorem thaw_wf : ∀ {d : Nat} {c : AVal} (k : Nat), Pure d c → WFk k (k + (thaw d k c).2.length) (thaw d k c).2 ∧ Bel (fun r => k ≤ r ∧ r < k + (thaw d k c).2.length) (thaw d k c).1 ∧ NV (thaw d k c).1 := by
  intro d
  induction d with
  | zero => intro c k h; exact h.elim
  | succ d ih =>
    have all : ∀ {es : List AVal} (k : Nat), (∀ e ∈ es, Pure d e) → WFk k (k + (mapk (thaw d) k es).2.length) (mapk (thaw d) k es).2 ∧ Bels (fun r => k ≤ r ∧ r < k + (mapk (thaw d) k es).2.length) (mapk (thaw d) k es).1 ∧ NVs (mapk (thaw d) k es).1 := by
      intro es
      induction es with
      | nil => intro k _; exact ⟨fun i hi => by simp [mapk] at hi, trivial, trivial⟩
      | cons e es ihs =>
        intro k h
        obtain ⟨a1, a2, a3⟩ := ih k (h e (by simp))
        obtain ⟨b1, b2, b3⟩ := ihs (k + (thaw d k e).2.length) fun x hx => h x (by simp [hx])
        simp only [mapk, List.length_append]
        exact ⟨(a1.mono (Nat.le_refl _) (by omega)).app (b1.mono (by omega) (by omega)), ⟨a2.mono fun r hr => ⟨by omega, by omega⟩, bels_of fun v hv => (bels_mem b2 v hv).mono fun r hr => ⟨by omega, by omega⟩⟩, a3, b3⟩
    intro c k h
    cases c with
    | view es =>
      obtain ⟨b1, b2, b3⟩ := all k h.2
      simp only [thaw, List.length_append, List.length_singleton]
      refine ⟨(b1.mono (Nat.le_refl _) (by omega)).app fun i hi => ?_, ?_, .sl _ _ _⟩
      · obtain rfl : i = 0 := by simpa using hi
        exact ⟨_, rfl, by rw [row_bel_cells]; exact bels_of fun v hv => (bels_mem b2 v hv).mono fun r hr => ⟨by omega, by omega⟩, row_nv_cells _ _ b3⟩
      · rw [bel_sl]; omega
    | agg cs =>
      obtain ⟨b1, b2, b3⟩ := all k h
      simp only [thaw]
      exact ⟨b1, by rw [bel_agg]; exact b2, by rw [nv_agg]; exact b3⟩
    | tup cs =>
      obtain ⟨b1, b2, b3⟩ := all k h
      simp only [thaw]
      exact ⟨b1, by rw [bel_tup]; exact b2, by rw [nv_tup]; exact b3⟩
    | _ =>
      simp only [thaw]
      refine ⟨fun i hi => by simp at hi, ?_, ?_⟩
      all_goals first | (cases h; done) | exact .int _ _ | exact .bool _ | exact .str _ | exact .nilsl

theorem thaw_ren {σ : Nat → Nat} {k' : Nat} : ∀ {d : Nat} {c : AVal} (k j : Nat), Pure d c → (∀ i, i < (thaw d k c).2.length → σ (k + i) = k' + (j + i)) → ren σ (thaw d k c).1 = (thaw d (k' + j) c).1 ∧ (thaw d k c).2.map (Option.map (Row.ren σ)) = (thaw d (k' + j) c).2 := by
  intro d
  induction d with
  | zero => intro c k j h; exact h.elim
  | succ d ih =>
    have all : ∀ {es : List AVal} (k j : Nat), (∀ e ∈ es, Pure d e) → (∀ i, i < (mapk (thaw d) k es).2.length → σ (k + i) = k' + (j + i)) → (mapk (thaw d) k es).1.map (ren σ) = (mapk (thaw d) (k' + j) es).1 ∧ (mapk (thaw d) k es).2.map (Option.map (Row.ren σ)) = (mapk (thaw d) (k' + j) es).2 := by
      intro es
      induction es with
      | nil => intro k j _ _; exact ⟨rfl, rfl⟩
      | cons e es ihs =>
        intro k j h hσ
        simp only [mapk, List.length_append] at hσ
        obtain ⟨a1, a2⟩ := ih k j (h e (by simp)) fun i hi => hσ i (by omega)
        have hl : (thaw d (k' + j) e).2.length = (thaw d k e).2.length := by rw [← a2, List.length_map]
        obtain ⟨b1, b2⟩ := ihs (k + (thaw d k e).2.length) (j + (thaw d k e).2.length) (fun x hx => h x (by simp [hx])) fun i hi => by
          have := hσ ((thaw d k e).2.length + i) (by omega)
          rw [Nat.add_assoc, this]; omega
        simp only [mapk, List.map_cons, List.map_append, a1, a2, b1, b2, hl, Nat.add_assoc, and_self]
    intro c k j h hσ
    cases c with
    | view es =>
      simp only [thaw, List.length_append, List.length_singleton] at hσ
      obtain ⟨b1, b2⟩ := all k j h.2 fun i hi => hσ i (by omega)
      have hl : (mapk (thaw d) (k' + j) es).2.length = (mapk (thaw d) k es).2.length := by rw [← b2, List.length_map]
      simp only [thaw, ren, List.map_append, List.map_cons, List.map_nil, Option.map_some, Row.ren, rens_eq, b1, b2, hl, hσ _ (Nat.lt_succ_self _), Nat.add_assoc, and_self]
    | agg cs =>
      obtain ⟨b1, b2⟩ := all k j h hσ
      simp only [thaw, ren, rens_eq, b1, b2, and_self]
    | tup cs =>
      obtain ⟨b1, b2⟩ := all k j h hσ
      simp only [thaw, ren, rens_eq, b1, b2, and_self]
    | _ =>
      simp only [thaw, List.map_nil, and_true]
      first | (cases h; done) | rfl

def upFrom (k : Nat) : Nat → List Nat
  | 0 => []
  | n + 1 => k :: upFrom (k + 1) n
theorem upFrom_len : ∀ k n, (upFrom k n).length = n
  | _, 0 => rfl
  | k, n + 1 => by simp [upFrom, upFrom_len]
theorem upFrom_app : ∀ k m n, upFrom k (m + n) = upFrom k m ++ upFrom (k + m) n
  | k, 0, n => by simp [upFrom]
  | k, m + 1, n => by rw [Nat.succ_add, upFrom, upFrom_app, upFrom, List.cons_append]; congr 3; omega
theorem upFrom_mem : ∀ {k n r}, r ∈ upFrom k n ↔ k ≤ r ∧ r < k + n
  | k, 0, r => by simp [upFrom]
  | k, n + 1, r => by rw [upFrom, List.mem_cons, upFrom_mem]; omega
theorem upFrom_nodup : ∀ k n, (upFrom k n).Nodup
  | _, 0 => by simp [upFrom]
  | k, n + 1 => by
    rw [upFrom, List.nodup_cons]
    exact ⟨fun h => by have := upFrom_mem.1 h; omega, upFrom_nodup _ _⟩
theorem nth_upFrom {k n i : Nat} (h : i < n) : nth (upFrom k n) i = k + i := by
  induction n generalizing k i with
  | zero => omega
  | succ n ih =>
    cases i with
    | zero => rfl
    | succ i =>
      have := ih (k := k + 1) (i := i) (by omega)
      simp only [nth, upFrom, List.getD_cons_succ] at this ⊢
      rw [this]; omega

theorem thaw_dat {H : Heap} : ∀ {d : Nat} {c : AVal} (k : Nat), Pure d c → (∀ i, i < (thaw d k c).2.length → H[k + i]? = (thaw d k c).2[i]?) → Dat d H (upFrom k (thaw d k c).2.length) (thaw d k c).1 c := by
  intro d
  induction d with
  | zero => intro c k h; exact h.elim
  | succ d ih =>
    have all : ∀ {es : List AVal} (k : Nat), (∀ e ∈ es, Pure d e) → (∀ i, i < (mapk (thaw d) k es).2.length → H[k + i]? = (mapk (thaw d) k es).2[i]?) → All3 (Dat d H) (upFrom k (mapk (thaw d) k es).2.length) (mapk (thaw d) k es).1 es := by
      intro es
      induction es with
      | nil => intro k _ _; rfl
      | cons e es ihs =>
        intro k h hH
        simp only [mapk, List.length_append] at hH ⊢
        refine ⟨_, _, upFrom_app _ _ _, ih k (h e (by simp)) fun i hi => ?_, ihs _ (fun x hx => h x (by simp [hx])) fun i hi => ?_⟩
        · rw [hH i (by omega), List.getElem?_append_left hi]
        · rw [Nat.add_assoc, hH _ (by omega), List.getElem?_append_right (by omega)]; congr 1; omega
    intro c k h hH
    cases c with
    | view es =>
      simp only [thaw, List.length_append, List.length_singleton] at hH ⊢
      rw [upFrom_app]
      refine Dat.list h.1 rfl rfl ?_ (all k h.2 fun i hi => ?_)
      · have := hH (mapk (thaw d) k es).2.length (by omega)
        rw [this, List.getElem?_append_right (Nat.le_refl _), Nat.sub_self]; rfl
      · rw [hH i (by omega), List.getElem?_append_left hi]
    | agg cs => exact ⟨_, rfl, all k h hH⟩
    | tup cs => exact ⟨_, rfl, all k h hH⟩
    | _ =>
      first | (cases h; done) | exact ⟨rfl, rfl, h⟩
end Go.Sx
/- Functions that make data in rows, and calls of them. -/
namespace Go.Sx
open Go

theorem thaw_len {d : Nat} {c : AVal} (hp : Pure d c) (k k' : Nat) : (thaw d k c).2.length = (thaw d k' c).2.length := by
  have := (thaw_ren (σ := fun i => k' + (i - k)) (k' := k') k 0 hp fun i hi => by omega).2
  rw [Nat.add_zero] at this
  rw [← this, List.length_map]

section
variable {P : Program} {g : FuncId} {args largs : List AVal} {LH : Heap} {d : Nat} {c : AVal}

theorem kept_dat {LH A H' : Heap} {ι : List Nat} {v : AVal} (n : Nat) (hn : LH.length = n) (hA : A.length = n) (hA' : ∀ (i : Nat) (x : Row), A[i]? = some (some x) → x.bel (fun _ => False) ∧ H'[i]? = some (some x))
    (h : Dat d H' ι v c) (hnd : ι.Nodup) (hge : ∀ r ∈ ι, n ≤ r) : ∃ σ, Kept LH (A ++ (thaw d n c).2) (thaw d n c).1 v H' σ := by
  let σ : Nat → Nat := fun i => if i < n then i else nth ι (i - n)
  have hσ : ∀ i, i < ι.length → σ (n + i) = nth ι i := fun i hi => by simp [σ, show ¬ n + i < n by omega]
  obtain ⟨h1, h2⟩ := h.thaw n hσ
  have hmem : ∀ i, i < ι.length → nth ι i ∈ ι := fun i hi => by
    have : nth ι i = ι[i] := by simp [nth, hi]
    rw [this]; exact List.getElem_mem hi
  refine ⟨σ, fun i hi => by simp [σ, show i < n by omega], fun i j hi hj hij => ?_, h1, fun i x hx => ?_⟩
  · simp only [List.length_append, hA, h2.len] at hi hj
    by_cases a : i < n <;> by_cases b : j < n
    · simpa [σ, a, b] using hij
    · have := hge _ (hmem (j - n) (by omega))
      simp only [σ, a, b, if_true, if_false] at hij; omega
    · have := hge _ (hmem (i - n) (by omega))
      simp only [σ, a, b, if_true, if_false] at hij; omega
    · simp only [σ, a, b, if_false] at hij
      have := nth_inj hnd (by omega) (by omega) hij; omega
  · by_cases a : i < n
    · rw [List.getElem?_append_left (by omega)] at hx
      obtain ⟨k1, k2⟩ := hA' i x hx
      rw [Row.ren_same k1]; simp only [σ, a, if_true]; exact k2
    · rw [List.getElem?_append_right (by omega), hA] at hx
      simp only [σ, a, if_false]
      exact h2.get _ x hx

theorem full_thaw (hp : Pure d c) (n : Nat) {A : Heap} (hA : A.length = n) (hA' : ∀ (i : Nat), i < n → ∃ x, A[i]? = some (some x) ∧ x.bel (fun _ => False)) :
    Full (· < (A ++ (thaw d n c).2).length) (A ++ (thaw d n c).2) := by
  have full : ∀ {S : Nat → Prop} (H : Heap), (∀ i, i < H.length → ∃ x, H[i]? = some (some x) ∧ x.bel S) → Full S H := by
    intro S H
    induction H with
    | nil => intro _; trivial
    | cons y H ih =>
      intro h
      obtain ⟨x, hx, hb⟩ := h 0 (by simp)
      simp only [List.getElem?_cons_zero, Option.some.injEq] at hx
      subst hx
      exact ⟨hb, ih fun i hi => by
        obtain ⟨z, h1, h2⟩ := h (i + 1) (by simpa using hi)
        exact ⟨z, by simpa using h1, h2⟩⟩
  refine full _ fun i hi => ?_
  by_cases a : i < n
  · obtain ⟨x, h1, h2⟩ := hA' i a
    exact ⟨x, by rw [List.getElem?_append_left (by omega)]; exact h1, bel_mono_row h2 fun _ h => h.elim⟩
  · rw [List.length_append] at hi
    obtain ⟨x, h1, h2, _⟩ := (thaw_wf n hp).1 (i - n) (by omega)
    exact ⟨x, by rw [List.getElem?_append_right (by omega), hA]; exact h1, bel_mono_row h2 fun r hr => by rw [List.length_append, hA]; exact hr.2⟩
theorem fullnv_thaw (hp : Pure d c) (n : Nat) : ∀ {A : Heap}, FullNV A → FullNV (A ++ (thaw d n c).2)
  | some x :: A, h => ⟨h.1, fullnv_thaw hp n h.2⟩
  | none :: A, h => h.elim
  | [], _ => by
    have full : ∀ (H : Heap), (∀ i, i < H.length → ∃ x, H[i]? = some (some x) ∧ x.nv) → FullNV H := by
      intro H
      induction H with
      | nil => intro _; trivial
      | cons y H ih =>
        intro h
        obtain ⟨x, hx, hb⟩ := h 0 (by simp)
        simp only [List.getElem?_cons_zero, Option.some.injEq] at hx
        subst hx
        exact ⟨hb, ih fun i hi => by
          obtain ⟨z, h1, h2⟩ := h (i + 1) (by simpa using hi)
          exact ⟨z, by simpa using h1, h2⟩⟩
    rw [List.nil_append]
    refine full _ fun i hi => ?_
    obtain ⟨x, h1, _, h2⟩ := (thaw_wf n hp).1 i hi
    exact ⟨x, h1, h2⟩

theorem ans_dat {x x' : Row} (hp : Pure d c) (hb : x'.bel (fun _ => False)) (h : Fn P g args [some x] fun v H' => ∃ ι, Dat d H' ι v c ∧ ι.Nodup ∧ 0 ∉ ι ∧ H'[0]? = some (some x')) : Ans P g args [some x] (thaw d 1 c).1 (some x' :: (thaw d 1 c).2) := by
  have hw := thaw_wf 1 hp
  refine Ans.keep (h.mono ?_) (by simp) (hw.2.1.mono fun r hr => by simp only [List.length_cons]; omega) ?_
  · rintro v H' ⟨ι, h1, h2, h3, h4⟩
    exact kept_dat (A := [some x']) 1 rfl rfl (fun i y hy => by
      cases i with
      | zero => simp only [List.getElem?_cons_zero, Option.some.injEq] at hy; subst hy; exact ⟨hb, h4⟩
      | succ i => simp at hy) h1 h2 fun r hr => by
        by_cases h0 : r = 0
        · subst h0; exact absurd hr h3
        · omega
  · exact full_thaw (A := [some x']) hp 1 rfl fun i hi => ⟨x', by rw [show i = 0 by omega]; rfl, hb⟩
theorem ans_dat0 (hp : Pure d c) (h : Fn P g args [] fun v H' => ∃ ι, Dat d H' ι v c ∧ ι.Nodup) : Ans P g args [] (thaw d 0 c).1 (thaw d 0 c).2 := by
  have hw := thaw_wf 0 hp
  refine Ans.keep (h.mono ?_) (by simp) (hw.2.1.mono fun r hr => by omega) ?_
  · rintro v H' ⟨ι, h1, h2⟩
    exact kept_dat (A := []) 0 rfl rfl (fun i y hy => by simp at hy) h1 h2 fun r hr => Nat.zero_le _
  · exact full_thaw (A := []) hp 0 rfl fun i hi => by omega

theorem puts_from {σ : Nat → Nat} : ∀ {L H : Heap} {i : Nat}, (∀ j, j < L.length → ∃ x, L[j]? = some (some x)) → (∀ j, j < L.length → σ (i + j) = H.length + j) → H.puts (outΔ σ i L) = H ++ L.map (Option.map (Row.ren σ))
  | [], H, i, _, _ => by simp [outΔ, Heap.puts]
  | none :: L, H, i, h, _ => by
    obtain ⟨x, hx⟩ := h 0 (by simp)
    simp at hx
  | some x :: L, H, i, h, hl => by
    have hs : σ i = H.length := by simpa using hl 0 (by simp)
    simp only [outΔ, Heap.puts]
    rw [hs, Heap.put_end, puts_from (i := i + 1) (fun j hj => by
      obtain ⟨y, hy⟩ := h (j + 1) (by simpa using hj)
      exact ⟨y, by simpa using hy⟩) (fun j hj => by have := hl (j + 1) (by simpa using hj); rw [List.length_append]; simp only [List.length_singleton]; rw [show i + 1 + j = i + (j + 1) by omega, this]; omega)]
    simp
theorem outΔ_names {σ : Nat → Nat} : ∀ {L : Heap} {i N : Nat}, (∀ j, j < L.length → ∃ x, L[j]? = some (some x)) → (∀ j, j < L.length → σ (i + j) = N + j) → (outΔ σ i L).map (·.1) = upFrom N L.length
  | [], i, N, _, _ => rfl
  | none :: L, i, N, h, _ => by
    obtain ⟨x, hx⟩ := h 0 (by simp)
    simp at hx
  | some x :: L, i, N, h, hl => by
    simp only [outΔ, List.map_cons, List.length_cons, upFrom]
    rw [outΔ_names (i := i + 1) (N := N + 1) (fun j hj => by
      obtain ⟨y, hy⟩ := h (j + 1) (by simpa using hj)
      exact ⟨y, by simpa using hy⟩) fun j hj => by have := hl (j + 1) (by simpa using hj); rw [show i + 1 + j = i + (j + 1) by omega, this]; omega]
    congr 1
    simpa using hl 0 (by simp)

theorem thaw_rows (hp : Pure d c) (k : Nat) : ∀ j, j < (thaw d k c).2.length → ∃ x, (thaw d k c).2[j]? = some (some x) := fun j hj => by
  obtain ⟨x, h, _⟩ := (thaw_wf k hp).1 j hj; exact ⟨x, h⟩

theorem mixs {j e : Nat} {Hf : Heap} : ∀ {xs : List AVal} (i : Nat), i < (AVal.ptr j 0 0 1 :: xs).length → MixArg [j] e Hf ((AVal.ptr j 0 0 1 :: xs).getD i .any) ((AVal.ptr 0 0 0 1 :: xs.map (frz e Hf)).getD i .any)
  | xs, 0, _ => .inl ⟨rfl, by rw [List.getD_cons_zero, bel_ptr]; simp, .ptr _ _ _ _⟩
  | xs, i + 1, hi => .inr (by
    rw [List.getD_cons_succ, List.getD_cons_succ, map_getD _ _ _ (by simpa using hi)])

variable {G : Ctx} {H : Heap} {k : Nat} {rd : Option Nat} {R : Runner} {l : List AOper} {fs : List Frame} {ρ : List AVal} {ms : List Nat} {Q : Goal} {dst : Option Nat} {x x' : Row} {j : Nat}
  {ao : AOper} {lo hi : Nat} {tr : List (List Nat × List Nat)} {ss : List (List AOper)} {xs ys : List AVal}

theorem mix_heap (hp : Pure d c) (hj : j < H.length) (hx' : x'.bel (fun _ => False)) : H.puts (outΔ (outσ [j] H.length) 0 (some x' :: (thaw d 1 c).2)) = H.set j (some x') ++ (thaw d H.length c).2 ∧ ren (outσ [j] H.length) (thaw d 1 c).1 = (thaw d H.length c).1 ∧
    (outΔ (outσ [j] H.length) 0 (some x' :: (thaw d 1 c).2)).map (·.1) = j :: upFrom H.length (thaw d H.length c).2.length := by
  have hσ : ∀ i, outσ [j] H.length (1 + i) = H.length + (0 + i) := fun i => by simp [outσ]
  obtain ⟨e1, e2⟩ := thaw_ren (σ := outσ [j] H.length) (k' := H.length) 1 0 hp fun i _ => hσ i
  rw [Nat.add_zero] at e1 e2
  have e0 : outσ [j] H.length 0 = j := by simp [outσ, nth]
  refine ⟨?_, e1, ?_⟩
  · simp only [outΔ, Heap.puts, e0, put_lt hj, Row.ren_same hx']
    rw [Nat.zero_add, puts_from (H := H.set j (some x')) (thaw_rows hp 1) fun i _ => by rw [hσ, List.length_set, Nat.zero_add], e2]
  · simp only [outΔ, List.map_cons, e0]
    rw [Nat.zero_add, outΔ_names (N := H.length) (thaw_rows hp 1) fun i _ => by rw [hσ, Nat.zero_add], thaw_len hp 1 H.length]

theorem cMD (h : Ans P g (.ptr 0 0 0 1 :: ys) [some x] (thaw d 1 c).1 (some x' :: (thaw d 1 c).2)) (hp : Pure d c) (e : Nat) (hys : Sx.lss (xs.map (frz e (H.mask [j]))) ys)
    (hK : R (.ops l) fs ⟨setD ρ dst (thaw d H.length c).1, H.set j (some x') ++ (thaw d H.length c).2, ms⟩ Q) (hj : H[j]? = some (some x) := by first | rfl | simp only [go_sem])
    (hx : x.bel (fun _ => False) := by simp only [go_sem]) (hx' : x'.bel (fun _ => False) := by simp only [go_sem]) (hxn : x.nv := by simp only [go_sem]) (hxn' : x'.nv := by simp only [go_sem])
    (hk : k ≤ H.length := by simp) (hms : ∀ q ∈ ms, q ≠ j ∧ H[q]? = some (some .dfr) := by simp) : CallR P G k R g (.ptr j 0 0 1 :: xs) dst l fs ρ H ms Q := by
  have hlt : j < H.length := (List.getElem?_eq_some_iff.1 hj).1
  have hw := thaw_wf 1 hp
  obtain ⟨e1, e2, e3⟩ := mix_heap (c := c) hp hlt hx'
  have h' : AnsE P g (.ptr 0 0 0 1 :: xs.map (frz e (H.mask [j]))) [some x] (fun _ : Unit => True) (fun _ => (thaw d 1 c).1) (fun _ => some x' :: (thaw d 1 c).2) :=
    Ans.toE (r := fun _ : Unit => (thaw d 1 c).1) (L' := fun _ => some x' :: (thaw d 1 c).2) (a := ()) (h.lss ⟨.inl rfl, hys⟩) trivial
  refine callM h' e [j] (by simp) ⟨by rw [Row.ren_same hx]; exact hj, trivial⟩ (by simp) mixs ⟨bel_mono_row hx fun _ h => h.elim, trivial⟩ ⟨hxn, trivial⟩
    (fun _ _ => ⟨by simp, hw.2.1.mono fun r hr => by simp only [List.length_cons]; omega, hw.2.2, full_thaw (A := [some x']) hp 1 rfl fun i hi => ⟨x', by rw [show i = 0 by omega]; rfl, hx'⟩, fullnv_thaw (A := [some x']) hp 1 ⟨hxn', trivial⟩⟩)
    (by simpa using hlt) hk (fun _ _ q hq => ⟨?_, (hms q hq).2⟩) fun _ _ => ?_
  · rw [e3]
    have := (List.getElem?_eq_some_iff.1 (hms q hq).2).1
    simp only [List.mem_cons, upFrom_mem, not_or]
    exact ⟨(hms q hq).1, by omega⟩
  · rw [e1, e2]; exact hK

theorem dMD (h : Ans P g (.ptr 0 0 0 1 :: ys) [some x] (thaw d 1 c).1 (some x' :: (thaw d 1 c).2)) (hp : Pure d c) (e : Nat) (deps : List Nat) (hdj : j ∉ deps) (hys : Sx.lss (xs.map (frz e (H.onlyR deps))) ys)
    (hK : R (.grp lo l (tr ++ [(j :: deps, j :: upFrom H.length (thaw d H.length c).2.length)]) hi ss) fs ⟨setD ρ ao.dst (thaw d H.length c).1, H.set j (some x') ++ (thaw d H.length c).2, ms⟩ Q) (hj : H[j]? = some (some x) := by first | rfl | simp only [go_sem])
    (hx : x.bel (fun _ => False) := by simp only [go_sem]) (hx' : x'.bel (fun _ => False) := by simp only [go_sem]) (hxn : x.nv := by simp only [go_sem]) (hxn' : x'.nv := by simp only [go_sem])
    (hms : ∀ q ∈ ms, q ≠ j ∧ q < H.length := by simp) (hd : dynOK ao.free (j :: deps) (j :: upFrom H.length (thaw d H.length c).2.length) tr lo = true := by first | (simp only [go_sem]; done) | (simp [go_sem]; done) | (simp [go_sem]; omega)) : DCallR P R g (.ptr j 0 0 1 :: xs) ao lo l tr hi ss fs ρ H ms Q := by
  have hlt : j < H.length := (List.getElem?_eq_some_iff.1 hj).1
  have hw := thaw_wf 1 hp
  obtain ⟨e1, e2, e3⟩ := mix_heap (c := c) hp hlt hx'
  have h' : Ans P g (.ptr 0 0 0 1 :: xs.map (frz e (H.onlyR deps))) [some x] (thaw d 1 c).1 (some x' :: (thaw d 1 c).2) := h.lss ⟨.inl rfl, hys⟩
  have h2 := h'.dmix (H := H) (args := .ptr j 0 0 1 :: xs) e [j] deps (by simp) (fun q hq => by simp only [List.mem_singleton]; rintro rfl; exact hdj hq) ⟨by rw [Row.ren_same hx]; exact hj, trivial⟩ (by simp) mixs ⟨bel_mono_row hx fun _ h => h.elim, trivial⟩ ⟨hxn, trivial⟩
    (by simp) (hw.2.1.mono fun r hr => by simp only [List.length_cons]; omega) hw.2.2 (full_thaw (A := [some x']) hp 1 rfl fun i hi => ⟨x', by rw [show i = 0 by omega]; rfl, hx'⟩) (fullnv_thaw (A := [some x']) hp 1 ⟨hxn', trivial⟩) (by simpa using hlt)
  rw [e2] at h2
  refine dcallR h2 ⟨fun q hq => ?_, fun q hq => ?_, ?_, ?_⟩
  · have := hms q hq
    show q ∉ (outΔ _ _ _).map (·.1)
    rw [e3]
    simp only [List.mem_cons, upFrom_mem, not_or]
    exact ⟨this.1, by omega⟩
  · rw [mem_newNames] at hq
    refine ⟨hq.1, ?_⟩
    show q < (H.puts (outΔ _ _ _)).length
    rw [e1, List.length_append, List.length_set, ← thaw_len hp 1 H.length]
    simp only [List.length_cons, List.length_nil] at hq
    omega
  · show dynOK _ _ ((outΔ _ _ _).map (·.1)) _ _ = true
    rw [e3]; exact hd
  · show R (.grp lo l (tr ++ [([j] ++ deps, (outΔ _ _ _).map (·.1))]) hi ss) fs ⟨_, H.puts (outΔ _ _ _), ms⟩ Q
    rw [e3, e1]; exact hK

theorem cFD (h : Ans P g ys [] (thaw d 0 c).1 (thaw d 0 c).2) (hp : Pure d c) (e : Nat) (hys : Sx.lss (args.map (frz e H)) ys) (hK : R (.ops l) fs ⟨setD ρ dst (thaw d H.length c).1, H ++ (thaw d H.length c).2, ms⟩ Q)
    (hk : k ≤ H.length := by simp) (hms : ∀ q ∈ ms, H[q]? = some (some .dfr) := by simp) : CallR P G k R g args dst l fs ρ H ms Q := by
  have hw := thaw_wf 0 hp
  have hσ : ∀ i, outσ [] H.length (0 + i) = H.length + (0 + i) := fun i => by simp [outσ]
  obtain ⟨e1, e2⟩ := thaw_ren (σ := outσ [] H.length) (k' := H.length) 0 0 hp fun i _ => hσ i
  rw [Nat.add_zero] at e1 e2
  have e3 : H.puts (outΔ (outσ [] H.length) 0 (thaw d 0 c).2) = H ++ (thaw d H.length c).2 := by
    rw [puts_from (thaw_rows hp 0) fun i _ => by rw [hσ, Nat.zero_add], e2]
  refine callF (h.lss hys) e rfl (hw.2.1.mono fun r hr => by omega) hw.2.2 (by simpa using full_thaw (A := []) hp 0 rfl fun i hi => by omega) (by simpa using fullnv_thaw (A := []) hp 0 trivial) hk (fun q hq => ⟨?_, hms q hq⟩) ?_
  · rw [outΔ_names (N := H.length) (thaw_rows hp 0) fun i _ => by rw [hσ, Nat.zero_add]]
    have := (List.getElem?_eq_some_iff.1 (hms q hq)).1
    simp only [upFrom_mem]; omega
  · rw [e3, e1]; exact hK
end
end Go.Sx
/- Rows that a call laid and that have grown: behind the call they stand still. -/
namespace Go.Sx
open Go

inductive Ful (len : Nat → Nat) : AVal → Prop where
  | any : Ful len .any
  | bool (b : Bool) : Ful len (.bool b)
  | int (q : IntKind) (n : Int) : Ful len (.int q n)
  | str (l : List UInt8) : Ful len (.str l)
  | nilptr : Ful len .nilptr
  | nilsl : Ful len .nilsl
  | nilfn : Ful len .nilfn
  | niliface : Ful len .niliface
  | nilmap : Ful len .nilmap
  | sl (r off n : Nat) (h : off + n = len r) : Ful len (.sl r off n)
  | ptr (r i off L : Nat) (h : L = len r) : Ful len (.ptr r i off L)
  | agg (cs : List AVal) (h : ∀ i, i < cs.length → Ful len (cs.getD i .any)) : Ful len (.agg cs)
  | tup (cs : List AVal) (h : ∀ i, i < cs.length → Ful len (cs.getD i .any)) : Ful len (.tup cs)

def Fuls (len : Nat → Nat) : List AVal → Prop
  | [] => True
  | v :: vs => Ful len v ∧ Fuls len vs
theorem fuls_iff {len : Nat → Nat} : ∀ l : List AVal, Fuls len l ↔ ∀ i, i < l.length → Ful len (l.getD i .any)
  | [] => by simp [Fuls]
  | v :: vs => by
    simp only [Fuls, fuls_iff vs]
    constructor
    · rintro ⟨h1, h2⟩ i hi
      cases i with
      | zero => exact h1
      | succ i => simpa using h2 i (by simpa using hi)
    · intro h
      exact ⟨by simpa using h 0 (by simp), fun i hi => by simpa using h (i + 1) (by simpa using hi)⟩
theorem Ful.cells {len : Nat → Nat} {v : AVal} (h : Ful len v) : ∀ j, j < (acells v).length → Ful len ((acells v).getD j .any) := by
  intro j hj
  by_cases hv : ∃ cs, v = .agg cs
  · obtain ⟨cs, rfl⟩ := hv
    cases h with | agg _ hv => exact hv j hj
  · rw [acells_one hv] at hj ⊢
    simp only [List.length_singleton] at hj
    obtain rfl : j = 0 := by omega
    exact h
theorem ful_agg {len : Nat → Nat} (cs : List AVal) : Ful len (.agg cs) = Fuls len cs := propext ⟨fun h => by cases h with | agg _ hv => exact (fuls_iff cs).2 hv, fun h => .agg cs ((fuls_iff cs).1 h)⟩
theorem ful_tup {len : Nat → Nat} (cs : List AVal) : Ful len (.tup cs) = Fuls len cs := propext ⟨fun h => by cases h with | tup _ hv => exact (fuls_iff cs).2 hv, fun h => .tup cs ((fuls_iff cs).1 h)⟩
theorem fuls_of {len : Nat → Nat} {l : List AVal} (h : ∀ v ∈ l, Ful len v) : Fuls len l := by
  rw [fuls_iff]
  intro i hi
  rw [List.getD_eq_getElem?_getD, List.getElem?_eq_getElem hi]
  exact h _ (List.getElem_mem hi)
theorem fuls_map {α : Type} {len : Nat → Nat} (f : α → AVal) (l : List α) (h : ∀ a, Ful len (f a)) : Fuls len (l.map f) := fuls_of fun v hv => by
  obtain ⟨a, _, rfl⟩ := List.mem_map.1 hv; exact h a

def Row.ful (len : Nat → Nat) : Row → Prop
  | .cells _ _ es => Fuls len es
  | _ => False
def Row.settled : Row → Row
  | .cells _ sz es => .cells false sz es
  | x => x
def rowLen : Row → Nat
  | .cells _ _ es => es.length
  | _ => 0
def lenIn (L : Heap) (i : Nat) : Nat := match L[i]? with | some (some x) => rowLen x | _ => 0

def Place.settled (p : Place) : Place := { p with grown := false }

section
variable {P : Program} {G : Ctx} {μ μ' : Mu} {len : Nat → Nat}
theorem VR.settle {v : AVal} {c : Value} (hf : Ful len v) {S : Nat → Prop} (hb : Bel S v) (hu : ∀ r p, S r → μ r = some p → μ' r = some p ∨ (p.len = len r ∧ μ' r = some p.settled)) (h : VR G μ v c) : VR G μ' v c := by
  induction hf generalizing c with
  | any => exact .any c
  | bool b => cases h; exact .bool b
  | int q n => cases h; exact .int q n
  | str l => cases h with | str _ s h => exact .str l s h
  | nilptr => cases h; exact .nilptr
  | nilsl => cases h; exact .nilsl
  | nilfn => cases h; exact .nilfn
  | niliface => cases h; exact .niliface
  | nilmap => cases h; exact .nilmap
  | sl r off n hr =>
    cases h with
    | sl _ _ _ p c hp hvec hL ho hc =>
      cases hb with
      | sl _ _ _ hS =>
        rcases hu r p hS hp with hp' | ⟨h1, hp'⟩
        · exact .sl r off n p c hp' hvec hL ho hc
        · exact .sl r off n p.settled c hp' hvec hL ho fun _ => hc (.inr (by rw [hr, h1]))
  | ptr r i off L hr =>
    cases h with
    | ptr _ _ _ _ p c hp hL ho hc =>
      cases hb with
      | ptr _ _ _ _ hS =>
        rcases hu r p hS hp with hp' | ⟨h1, hp'⟩
        · exact .ptr r i off L p c hp' hL ho hc
        · exact .ptr r i off L p.settled c hp' hL ho fun _ => hc (.inr (by rw [hr, h1]))
  | agg cs hcs ih =>
    cases h with
    | agg _ vs hl hv => cases hb with | agg _ hB => exact .agg cs vs hl fun i hi => ih i hi (hB i hi) (hv i hi)
  | tup cs hcs ih =>
    cases h with
    | tup _ vs hl hv => cases hb with | tup _ hB => exact .tup cs vs hl fun i hi => ih i hi (hB i hi) (hv i hi)

def settleFrom (n : Nat) (L : Heap) : Heap := L.zipIdx.map fun p => if p.2 < n then p.1 else p.1.map Row.settled
theorem settleFrom_get (n : Nat) (L : Heap) (i : Nat) : (settleFrom n L)[i]? = (L[i]?).map fun x => if i < n then x else x.map Row.settled := by
  unfold settleFrom
  rw [List.getElem?_map, List.getElem?_zipIdx]
  cases L[i]? <;> simp
theorem settleFrom_len (n : Nat) (L : Heap) : (settleFrom n L).length = L.length := by simp [settleFrom]

variable {g : FuncId} {args : List AVal} {LH : Heap} {α : Type} {Φ : α → Prop} {r : α → AVal} {L' : α → Heap}
theorem AnsE.settleX (h : AnsE P g args LH Φ r L') (hwf : ∀ a, Φ a → LH.length ≤ (L' a).length ∧ Bel (· < (L' a).length) (r a) ∧ Full (· < (L' a).length) (L' a))
    (hful : ∀ a, Φ a → Ful (lenIn (L' a)) (r a) ∧ ∀ (i : Nat) (x : Row), (L' a)[i]? = some (some x) → x.ful (lenIn (L' a))) : Fn P g args LH fun v H' => ∃ a, Φ a ∧ v = r a ∧ H' = settleFrom LH.length (L' a) := fun G => by
  refine ⟨(h G).1, fun μ cargs w h1 h2 h3 h4 => ((h G).2 μ cargs w h1 h2 h3 h4).mono ?_⟩
  rintro e w' ⟨v, cv, μ', H', rfl, ⟨a, ha, rfl, X, rfl⟩, hv, hH, hdom, hle⟩
  obtain ⟨hlen, hr, hf⟩ := hwf a ha
  obtain ⟨hfr, hfl⟩ := hful a ha
  have hget : ∀ i x, (L' a)[i]? = some (some x) → (L' a ++ X)[i]? = some (some x) := fun i x hx => by
    rw [List.getElem?_append_left (List.getElem?_eq_some_iff.1 hx).1]; exact hx
  let μ'' : Mu := fun i => if i < LH.length then μ' i else if i < (L' a).length then (μ' i).map Place.settled else none
  have hu : ∀ q p, q < (L' a).length → μ' q = some p → μ'' q = some p ∨ (p.len = lenIn (L' a) q ∧ μ'' q = some p.settled) := by
    intro q p hq hp
    by_cases hl : q < LH.length
    · left; simp [μ'', hl, hp]
    · right
      obtain ⟨x, hx, hb⟩ := hf.get q hq
      obtain ⟨p', q1, q2, q3, q4⟩ := hH.row _ _ (hget q x hx) (fun e => by have := hfl q x hx; rw [e] at this; exact this)
      rw [hp] at q1; cases q1
      refine ⟨?_, by simp [μ'', hl, hq, hp]⟩
      have hx2 := hfl q x hx
      cases x with
      | cells g sz es => simp only [lenIn, hx, rowLen]; exact q4.2.1
      | loop _ _ _ _ _ _ _ => exact hx2.elim
      | dfr => exact hx2.elim
      | siter _ _ => exact hx2.elim
      | mapr _ _ _ => exact hx2.elim
      | dead => exact hx2.elim
  refine ⟨r a, cv, μ'', settleFrom LH.length (L' a), rfl, ⟨a, ha, rfl, rfl⟩, hv.settle hfr hr hu, ?_, ?_, ?_⟩
  · have src : ∀ i x', (settleFrom LH.length (L' a))[i]? = some (some x') → ∃ x p, (L' a)[i]? = some (some x) ∧ μ' i = some p ∧ ¬ G.keep p.blk ∧ p.blk < w'.heap.size ∧ ∃ p', μ'' i = some p' ∧ p'.blk = p.blk ∧ RowIs P G μ'' p' w'.heap x' := by
      intro i x' hx'
      rw [settleFrom_get] at hx'
      obtain ⟨o, ho, hx'⟩ := Option.map_eq_some_iff.1 hx'
      have hi := (List.getElem?_eq_some_iff.1 ho).1
      obtain ⟨x, hx, hb⟩ := hf.get i hi
      rw [ho] at hx; cases hx
      obtain ⟨p, q1, q2, q3, q4⟩ := hH.row _ _ (hget i x ho) (fun e => by have := hfl i x ho; rw [e] at this; exact this)
      have hx2 := hfl i x ho
      cases x with
      | cells g sz es =>
        obtain ⟨m1, m2, m3, C, ty, m4, m5, m6⟩ := q4
        have hcell : ∀ k, k < es.length → (acells (es.getD k .any)).length = sz ∧ ∀ j, j < sz → ∃ c, C[p.off + k * sz + j]? = some c ∧ VR G μ'' ((acells (es.getD k .any)).getD j .any) c := by
          intro k hk
          refine ⟨(m6 k hk).1, fun j hj => ?_⟩
          obtain ⟨c, n1, n2⟩ := (m6 k hk).2 j hj
          have hj' : j < (acells (es.getD k .any)).length := by rw [(m6 k hk).1]; exact hj
          exact ⟨c, n1, n2.settle (Ful.cells ((fuls_iff es).1 hx2 k hk) j hj') (hb k j hk hj') hu⟩
        by_cases hl : i < LH.length
        · simp only [hl, if_true, Option.some.injEq] at hx'
          subst hx'
          exact ⟨_, p, ho, q1, q2, q3, p, by simp [μ'', hl, q1], rfl, m1, m2, m3, C, ty, m4, m5, hcell⟩
        · simp only [hl, if_false, Option.map_some, Option.some.injEq, Row.settled] at hx'
          subst hx'
          exact ⟨_, p, ho, q1, q2, q3, p.settled, by simp [μ'', hl, hi, q1], rfl, m1, m2, fun _ => rfl, C, ty, m4, m5, hcell⟩
      | loop _ _ _ _ _ _ _ => exact hx2.elim
      | dfr => exact hx2.elim
      | siter _ _ => exact hx2.elim
      | mapr _ _ _ => exact hx2.elim
      | dead => exact hx2.elim
    constructor
    · intro i x' hx' _
      obtain ⟨x, p, _, _, q2, q3, p', e1, e2, e3⟩ := src i x' hx'
      exact ⟨p', e1, by rw [e2]; exact q2, by rw [e2]; exact q3, e3⟩
    · intro i j x' y' p q hx' hy' hp hq hne _ _
      obtain ⟨x, p0, hx, hp0, _, _, p', e1, e2, _⟩ := src i x' hx'
      obtain ⟨y, q0, hy, hq0, _, _, q', f1, f2, _⟩ := src j y' hy'
      rw [e1] at hp; cases hp
      rw [f1] at hq; cases hq
      rw [e2, f2]
      exact hH.apart _ _ _ _ _ _ (hget i x hx) (hget j y hy) hp0 hq0 hne (fun e => by have := hfl i x hx; rw [e] at this; exact this) (fun e => by have := hfl j y hy; rw [e] at this; exact this)
    · exact hH.kept
    · exact hH.ro
    · exact hH.calm
    · intro i hx'
      obtain ⟨x, p, _, _, _, _, p', e1, _⟩ := src i _ hx'
      rw [e1]; rfl
    · exact hH.glob
  · intro q hq
    rw [settleFrom_len]
    by_cases h1 : q < LH.length
    · omega
    · by_cases hl : q < (L' a).length
      · exact hl
      · simp [μ'', h1, hl] at hq
  · intro q p hq hp
    obtain ⟨p', e1, e2⟩ := hle q p hq hp
    exact ⟨p', by simp [μ'', hq, e1], e2⟩

theorem AnsE.settle (h : AnsE P g args LH Φ r L') (hwf : ∀ a, Φ a → LH.length ≤ (L' a).length ∧ Bel (· < (L' a).length) (r a) ∧ Full (· < (L' a).length) (L' a))
    (hful : ∀ a, Φ a → Ful (lenIn (L' a)) (r a) ∧ ∀ (i : Nat) (x : Row), (L' a)[i]? = some (some x) → x.ful (lenIn (L' a))) : AnsE P g args LH Φ r fun a => settleFrom LH.length (L' a) :=
  (h.settleX hwf hful).mono fun _ _ ⟨a, h1, h2, h3⟩ => ⟨a, h1, h2, [], by rw [h3, List.append_nil]⟩
end
end Go.Sx
/- At the head of a loop: rows under other names, what is no longer needed let go, rows that have grown at rest. -/
namespace Go.Sx
open Go

def WkR (σ : Nat → Nat) : List AVal → List AVal → Prop
  | [], [] => True
  | v :: ρ, u :: ρ' => (u = .any ∨ v = ren σ u) ∧ WkR σ ρ ρ'
  | _, _ => False
theorem WkR.get {σ : Nat → Nat} : ∀ {ρ ρ' : List AVal}, WkR σ ρ ρ' → ρ'.length = ρ.length ∧ ∀ t, ρ'.getD t .any = .any ∨ ρ.getD t .any = ren σ (ρ'.getD t .any)
  | [], [], _ => ⟨rfl, fun t => .inl (by simp)⟩
  | v :: ρ, u :: ρ', h => by
    obtain ⟨h1, h2⟩ := WkR.get h.2
    refine ⟨by simp [h1], fun t => ?_⟩
    cases t with
    | zero => exact h.1
    | succ t => simpa using h2 t
  | [], _ :: _, h => h.elim
  | _ :: _, [], h => h.elim
@[go_sem] theorem wkr_nil (σ : Nat → Nat) : WkR σ [] [] = True := (rfl)
@[go_sem] theorem wkr_cons (σ : Nat → Nat) (v u : AVal) (ρ ρ' : List AVal) : WkR σ (v :: ρ) (u :: ρ') = ((u = .any ∨ v = ren σ u) ∧ WkR σ ρ ρ') := (rfl)
theorem bels_getD {S : Nat → Prop} {l : List AVal} (h : Bels S l) (t : Nat) : Bel S (l.getD t .any) := by
  by_cases ht : t < l.length
  · exact (bels_iff l).1 h t ht
  · rw [List.getD_eq_getElem?_getD, List.getElem?_eq_none (by omega)]; exact .any

section
variable {P : Program} {G : Ctx} {k : Nat} {rd : Option Nat} {ρ ρ' : List AVal} {H H' : Heap}

theorem Less.gc (σ : Nat → Nat) (hk : ∀ i, i < k → σ i = i) (hkl : k ≤ H'.length) (hinj : ∀ i j, i < H'.length → j < H'.length → σ i = σ j → i = j) (hρ : WkR σ ρ ρ') (hb : Bels (· < H'.length) ρ')
    (hrow : ∀ i x, H'[i]? = some (some x) → H[σ i]? = some (some (x.ren σ)) ∧ x.bel (· < H'.length)) : Less P G k ⟨ρ, H, []⟩ ⟨ρ', H', []⟩ := fun μ a w h => by
  obtain ⟨hl, hget⟩ := hρ.get
  let μ'' : Mu := fun i => if i < H'.length then μ (σ i) else none
  have hu : ∀ q, q < H'.length → μ'' q = μ (σ q) := fun q hq => by simp [μ'', hq]
  refine ⟨μ'', ⟨⟨by have := h.tr.1; simp only at this ⊢; omega, fun t => ?_⟩, ?_, fun r hr => ?_, ?_, fun r hr => ?_⟩, fun r p hr hp => ⟨p, ?_, .inl rfl⟩⟩
  · rcases hget t with e | e
    · simp only; rw [e]; exact .any _
    · have := h.tr.2 t
      simp only at this ⊢
      rw [e] at this
      exact this.pull (bels_getD hb t) hu
  · have hH := h.hr
    constructor
    · intro i x hx hnd
      have hi := (List.getElem?_eq_some_iff.1 hx).1
      obtain ⟨h1, h2⟩ := hrow i x hx
      obtain ⟨p, q1, q2, q3, q4⟩ := hH.row _ _ h1 (fun e => hnd (ren_dead e))
      exact ⟨p, by rw [hu i hi]; exact q1, q2, q3, q4.pull h2 hu⟩
    · intro i j x y p q hx hy hp hq hne n1 n2
      have hi := (List.getElem?_eq_some_iff.1 hx).1
      have hj := (List.getElem?_eq_some_iff.1 hy).1
      rw [hu i hi] at hp
      rw [hu j hj] at hq
      exact hH.apart _ _ _ _ _ _ (hrow i x hx).1 (hrow j y hy).1 hp hq (fun e => hne (hinj i j hi hj e)) (fun e => n1 (ren_dead e)) fun e => n2 (ren_dead e)
    · exact hH.kept
    · exact hH.ro
    · exact hH.calm
    · intro i hx
      have hi := (List.getElem?_eq_some_iff.1 hx).1
      rw [hu i hi]; exact hH.nm (hrow i _ hx).1
    · exact hH.glob
  · by_cases hi : r < H'.length
    · exact hi
    · simp [μ'', hi] at hr
  · have := h.mk'; simpa using this
  · simp at hr
  · rw [hu r (by omega), hk r hr]; exact hp

inductive FulF (n : Nat) (H : Heap) : AVal → Prop where
  | free (v : AVal) (h : Bel (· < n) v) : FulF n H v
  | sl (r off m : Nat) (g : Bool) (sz : Nat) (es : List AVal) (h : H[r]? = some (some (.cells g sz es))) (hl : off + m = es.length) : FulF n H (.sl r off m)
  | agg (cs : List AVal) (h : ∀ i, i < cs.length → FulF n H (cs.getD i .any)) : FulF n H (.agg cs)

theorem VR.free {μ μ' : Mu} {S : Nat → Prop} {v : AVal} {c : Value} (h : VR G μ v c) (hb : Bel S v) (hu : ∀ r p, S r → μ r = some p → μ' r = some p) : VR G μ' v c := by
  have h1 := (h.push (f := fun r => r) hb hu).push (f := fun r => r) (μ' := μ') (hb.push (S' := S) fun _ h => h) fun r p _ hp => hp
  rwa [ren_back (fun _ _ => rfl) hb] at h1
theorem FulF.cells {n : Nat} {v : AVal} (h : FulF n H v) : ∀ j, j < (acells v).length → FulF n H ((acells v).getD j .any) := by
  intro j hj
  by_cases hv : ∃ cs, v = .agg cs
  · obtain ⟨cs, rfl⟩ := hv
    cases h with
    | agg _ hv => exact hv j hj
    | free _ hb => cases hb with | agg _ hv => exact .free _ (hv j hj)
  · rw [acells_one hv] at hj ⊢
    simp only [List.length_singleton] at hj
    obtain rfl : j = 0 := by omega
    exact h

theorem Less.settle (n : Nat) (hkn : k ≤ n) (hρ : ∀ v ∈ ρ, FulF n H v) (hrow : ∀ (i : Nat) (x : Row), H[i]? = some (some x) → ∃ g sz es, x = Row.cells g sz es ∧ ∀ e ∈ es, FulF n H e) : Less P G k ⟨ρ, H, []⟩ ⟨ρ, settleFrom n H, []⟩ := fun μ a w h => by
  have hH : HR P G μ H w := h.hr
  have hdom : Dom μ H := h.dom
  let μ'' : Mu := fun i => if i < n then μ i else (μ i).map Place.settled
  have u0 : ∀ r p, r < n → μ r = some p → μ'' r = some p := fun r p hr hp => by simp [μ'', hr, hp]
  have u1 : ∀ r p, ¬ r < n → μ r = some p → μ'' r = some p.settled := fun r p hr hp => by simp [μ'', hr, hp]
  have vr : ∀ v c, FulF n H v → VR G μ v c → VR G μ'' v c := by
    intro v c hf hv
    induction hf generalizing c with
    | free v hb => exact hv.free hb fun r p hr hp => u0 r p hr hp
    | sl r off m g sz es hr hl =>
      cases hv with
      | sl _ _ _ p c hp hvec hL ho hc =>
        by_cases hn : r < n
        · exact .sl r off m p c (u0 r p hn hp) hvec hL ho hc
        · obtain ⟨p', q1, _, _, q4⟩ := hH.row r _ hr nofun
          rw [hp] at q1; cases q1
          exact .sl r off m p.settled c (u1 r p hn hp) hvec hL ho fun _ => hc (.inr (by rw [hl, q4.2.1]))
    | agg cs hcs ih =>
      cases hv with
      | agg _ vs hl hv => exact .agg cs vs hl fun i hi => ih i hi _ (hv i hi)
  have src : ∀ i x', (settleFrom n H)[i]? = some (some x') → ∃ x p, H[i]? = some (some x) ∧ x ≠ .dead ∧ μ i = some p ∧ ¬ G.keep p.blk ∧ p.blk < w.heap.size ∧ ∃ p', μ'' i = some p' ∧ p'.blk = p.blk ∧ RowIs P G μ'' p' w.heap x' := by
    intro i x' hx'
    rw [settleFrom_get] at hx'
    obtain ⟨o, ho, hx'⟩ := Option.map_eq_some_iff.1 hx'
    cases o with
    | none => split at hx' <;> simp at hx'
    | some x =>
      obtain ⟨g, sz, es, rfl, hes⟩ := hrow i x ho
      obtain ⟨p, q1, q2, q3, q4⟩ := hH.row _ _ ho nofun
      obtain ⟨m1, m2, m3, C, ty, m4, m5, m6⟩ := q4
      have hcell : ∀ q, q < es.length → (acells (es.getD q .any)).length = sz ∧ ∀ j, j < sz → ∃ c, C[p.off + q * sz + j]? = some c ∧ VR G μ'' ((acells (es.getD q .any)).getD j .any) c := by
        intro q hq
        refine ⟨(m6 q hq).1, fun j hj => ?_⟩
        obtain ⟨c, n1, n2⟩ := (m6 q hq).2 j hj
        refine ⟨c, n1, vr _ _ (FulF.cells (hes _ ?_) j (by rw [(m6 q hq).1]; exact hj)) n2⟩
        rw [List.getD_eq_getElem?_getD, List.getElem?_eq_getElem hq]; exact List.getElem_mem hq
      by_cases hl : i < n
      · simp only [hl, if_true, Option.some.injEq] at hx'
        subst hx'
        exact ⟨_, p, ho, nofun, q1, q2, q3, p, u0 i p hl q1, rfl, m1, m2, m3, C, ty, m4, m5, hcell⟩
      · simp only [hl, if_false, Option.map_some, Option.some.injEq, Row.settled] at hx'
        subst hx'
        exact ⟨_, p, ho, nofun, q1, q2, q3, p.settled, u1 i p hl q1, rfl, m1, m2, fun _ => rfl, C, ty, m4, m5, hcell⟩
  refine ⟨μ'', ⟨⟨h.tr.1, fun t => ?_⟩, ?_, fun r hr => ?_, ?_, fun r hr => ?_⟩, fun r p hr hp => ⟨p, u0 r p (by omega) hp, .inl rfl⟩⟩
  · have ht := h.tr.2 t
    simp only at ht ⊢
    by_cases hl : t < ρ.length
    · refine vr _ _ (hρ _ ?_) ht
      rw [List.getD_eq_getElem?_getD, List.getElem?_eq_getElem hl]; exact List.getElem_mem hl
    · have e : ρ.getD t .any = .any := by rw [List.getD_eq_getElem?_getD, List.getElem?_eq_none (by omega)]; rfl
      rw [e]; exact .any _
  · constructor
    · intro i x' hx' _
      obtain ⟨x, p, _, _, _, q2, q3, p', e1, e2, e3⟩ := src i x' hx'
      exact ⟨p', e1, by rw [e2]; exact q2, by rw [e2]; exact q3, e3⟩
    · intro i j x' y' p q hx' hy' hp hq hne _ _
      obtain ⟨x, p0, hx, dx, hp0, _, _, p', e1, e2, _⟩ := src i x' hx'
      obtain ⟨y, q0, hy, dy, hq0, _, _, q', f1, f2, _⟩ := src j y' hy'
      rw [e1] at hp; cases hp
      rw [f1] at hq; cases hq
      rw [e2, f2]
      exact hH.apart _ _ _ _ _ _ hx hy hp0 hq0 hne dx dy
    · exact hH.kept
    · exact hH.ro
    · exact hH.calm
    · intro i hx'
      obtain ⟨x, p, _, _, _, _, _, p', e1, _⟩ := src i _ hx'
      rw [e1]; rfl
    · exact hH.glob
  · show r < (settleFrom n H).length
    rw [settleFrom_len]
    by_cases hn : r < n
    · exact hdom r (by simpa [μ'', hn] using hr)
    · exact hdom r (by simpa [μ'', hn] using hr)
  · have := h.mk'; simpa using this
  · simp at hr

theorem loop_gc {rd : Option Nat} {c : ACode} {fs : List Frame} {Q : Goal} (σ : Nat → Nat) (hk : ∀ i, i < k → σ i = i) (hkl : k ≤ H'.length) (hinj : ∀ i j, i < H'.length → j < H'.length → σ i = σ j → i = j) (hρ : WkR σ ρ ρ') (hb : Bels (· < H'.length) ρ')
    (hrow : ∀ i x, H'[i]? = some (some x) → H[σ i]? = some (some (x.ren σ)) ∧ x.bel (· < H'.length)) (h : Loop P G k rd c fs ⟨ρ', H', []⟩ Q) : Loop P G k rd c fs ⟨ρ, H, []⟩ Q := loop_less (Less.gc σ hk hkl hinj hρ hb hrow) h
theorem loop_settle {rd : Option Nat} {c : ACode} {fs : List Frame} {Q : Goal} (n : Nat) (hkn : k ≤ n) (hρ : ∀ v ∈ ρ, FulF n H v) (hrow : ∀ (i : Nat) (x : Row), H[i]? = some (some x) → ∃ g sz es, x = Row.cells g sz es ∧ ∀ e ∈ es, FulF n H e) (h : Loop P G k rd c fs ⟨ρ, settleFrom n H, []⟩ Q) :
    Loop P G k rd c fs ⟨ρ, H, []⟩ Q := loop_less (Less.settle n hkn hρ hrow) h

def FulFs (n : Nat) (H : Heap) : List AVal → Prop
  | [] => True
  | v :: vs => FulF n H v ∧ FulFs n H vs
theorem fulfs_mem {n : Nat} : ∀ {l : List AVal}, FulFs n H l → ∀ v ∈ l, FulF n H v
  | v :: vs, h, u, hu => by
    rcases List.mem_cons.1 hu with rfl | hu
    · exact h.1
    · exact fulfs_mem h.2 u hu
  | [], _, u, hu => by simp at hu
@[go_sem] theorem fulfs_nil (n : Nat) : FulFs n H [] = True := (rfl)
@[go_sem] theorem fulfs_cons (n : Nat) (v : AVal) (vs : List AVal) : FulFs n H (v :: vs) = (FulF n H v ∧ FulFs n H vs) := (rfl)
@[go_sem] theorem fulf_any (n : Nat) : FulF n H .any = True := eq_true (.free _ .any)
@[go_sem] theorem fulf_int (n : Nat) (q : IntKind) (x : Int) : FulF n H (.int q x) = True := eq_true (.free _ (.int _ _))
@[go_sem] theorem fulf_bool (n : Nat) (b : Bool) : FulF n H (.bool b) = True := eq_true (.free _ (.bool _))
@[go_sem] theorem fulf_nilsl (n : Nat) : FulF n H .nilsl = True := eq_true (.free _ .nilsl)
@[go_sem] theorem fulf_nilptr (n : Nat) : FulF n H .nilptr = True := eq_true (.free _ .nilptr)
@[go_sem] theorem fulf_ptr (n r i o l : Nat) : FulF n H (.ptr r i o l) = (r < n) := propext ⟨fun h => by cases h with | free _ h => rwa [bel_ptr] at h, fun h => .free _ (by rw [bel_ptr]; exact h)⟩
theorem fulf_free {n : Nat} {v : AVal} (h : Bel (fun _ => False) v) : FulF n H v := .free _ (h.mono fun _ h => h.elim)
theorem fulf_sl {n r o m : Nat} {g : Bool} {sz : Nat} {es : List AVal} (h : H[r]? = some (some (.cells g sz es))) (hl : o + m = es.length) : FulF n H (.sl r o m) := .sl r o m g sz es h hl
theorem fulfs_ints (n : Nat) (l : List Int) : ∀ e ∈ l.map (.int .i64), FulF n H e := fun e he => by
  obtain ⟨x, _, rfl⟩ := List.mem_map.1 he
  exact .free _ (.int _ _)

def Loose (H H' : Heap) : Prop := ∀ i : Nat, H'[i]? = H[i]? ∨ ∃ g sz es, H[i]? = some (some (Row.cells g sz es)) ∧ H'[i]? = some (some (Row.cells true sz es))
theorem HR.loosen {μ : Mu} {w : World} (h : HR P G μ H w) (hl : Loose H H') : HR P G μ H' w := by
  have src : ∀ (i : Nat) (x' : Row), H'[i]? = some (some x') → ∃ x : Row, H[i]? = some (some x) ∧ (x' ≠ .dead → x ≠ .dead) ∧ (x = .dead → x' = .dead) ∧ ∀ p, RowIs P G μ p w.heap x → RowIs P G μ p w.heap x' := by
    intro i x' hx'
    rcases hl i with e | ⟨g, sz, es, e1, e2⟩
    · exact ⟨x', by rw [← e]; exact hx', id, id, fun _ h => h⟩
    · rw [e2] at hx'
      simp only [Option.some.injEq] at hx'
      subst hx'
      refine ⟨_, e1, fun _ => nofun, nofun, fun p hp => ?_⟩
      obtain ⟨m1, m2, m3, m4⟩ := hp
      exact ⟨m1, m2, nofun, m4⟩
  constructor
  · intro i x' hx' hnd
    obtain ⟨x, h1, h2, _, h3⟩ := src i x' hx'
    obtain ⟨p, q1, q2, q3, q4⟩ := h.row i x h1 (h2 hnd)
    exact ⟨p, q1, q2, q3, h3 p q4⟩
  · intro i j x' y' p q hx' hy' hp hq hne n1 n2
    obtain ⟨x, a1, a2, _, _⟩ := src i x' hx'
    obtain ⟨y, b1, b2, _, _⟩ := src j y' hy'
    exact h.apart i j x y p q a1 b1 hp hq hne (a2 n1) (b2 n2)
  · exact h.kept
  · exact h.ro
  · exact h.calm
  · intro i hx'
    obtain ⟨x, h1, _, _, _⟩ := src i _ hx'
    exact h.nm h1
  · exact h.glob
theorem Ans.loosen {g : FuncId} {args : List AVal} {LH LH' LH'' : Heap} {r : AVal} (h : Ans P g args LH r LH') (hlen : LH''.length = LH'.length) (hl : Loose LH' LH'') : Ans P g args LH r LH'' := fun G => by
  refine ⟨(h G).1, fun μ cargs w h1 h2 h3 h4 => ((h G).2 μ cargs w h1 h2 h3 h4).mono ?_⟩
  rintro e w' ⟨v, cv, μ', H', rfl, ⟨rfl, X, rfl⟩, hv, hH, hdom, hle⟩
  refine ⟨v, cv, μ', LH'' ++ X, rfl, ⟨rfl, X, rfl⟩, hv, hH.loosen fun i => ?_, fun q hq => ?_, hle⟩
  · by_cases hi : i < LH'.length
    · rw [List.getElem?_append_left hi, List.getElem?_append_left (by omega)]; exact hl i
    · rw [List.getElem?_append_right (by omega), List.getElem?_append_right (by omega), hlen]; exact .inl rfl
  · have := hdom q hq
    simp only [List.length_append] at this ⊢
    omega
end
end Go.Sx
/- Raw data that came in, as abstract values. -/
namespace Go.Sx
open Go Go.RowKit

def tiles (P : Program) : List Field → Nat → Nat → Bool
  | [], o, m => o == m
  | f :: fs, o, m => f.offset == o && tiles P fs (o + P.cellsOf f.type) m

def dataB (P : Program) : Nat → TypeId → Bool
  | 0, _ => false
  | n + 1, t => match P.underlying t with
    | some .bool => true
    | some (.int _) => true
    | some .string => true
    | some (.slice e) => decide (0 < P.cellsOf e) && dataB P n e
    | some (.struct fs) => tiles P fs.toList 0 (P.cellsOf t) && fs.toList.all fun f => dataB P n f.type
    | _ => false

def aggT (P : Program) (t : TypeId) : Bool := match P.underlying t with | some (.struct _) => true | _ => false

def ATs (rel : TypeId → List AVal → Prop) : List Field → List AVal → Prop
  | [], vs => vs = []
  | f :: fs, vs => ∃ a b, vs = a ++ b ∧ rel f.type a ∧ ATs rel fs b

def AT (P : Program) : Nat → TypeId → List AVal → Prop
  | 0, _, _ => False
  | n + 1, t, vs => match P.underlying t with
    | some .bool => ∃ b, vs = [.bool b]
    | some (.int k) => ∃ m, vs = [.int k m] ∧ (Lit.int k m).wf = true
    | some .string => ∃ s, vs = [.str s]
    | some (.slice e) => ∃ es, vs = [.view es] ∧ es.length ≤ maxLen ∧ ∀ x ∈ es, if aggT P e = true then ∃ ws, x = .agg ws ∧ AT P n e ws else AT P n e [x]
    | some (.struct fs) => ATs (AT P n) fs.toList vs
    | _ => False

theorem mapM_get {α β : Type} {f : α → Option β} : ∀ {l : List α} {r : List β}, l.mapM f = some r → r.length = l.length ∧ ∀ (i : Nat) (x : α), l[i]? = some x → ∃ y, f x = some y ∧ r[i]? = some y
  | [], r, h => by
    simp at h
    subst h
    simp
  | a :: l, r, h => by
    rw [List.mapM_cons] at h
    rcases ha : f a with _ | y
    · rw [ha] at h; simp at h
    rw [ha] at h
    rcases hl : l.mapM f with _ | ys
    · rw [hl] at h; simp at h
    rw [hl] at h
    simp at h
    subst h
    obtain ⟨h1, h2⟩ := mapM_get hl
    refine ⟨by simp [h1], fun i x hx => ?_⟩
    cases i with
    | zero =>
      simp only [List.getElem?_cons_zero, Option.some.injEq] at hx
      subst hx
      exact ⟨y, ha, rfl⟩
    | succ i => exact h2 i x hx
theorem add_add (a : Addr) (x y : Nat) : (a.add x).add y = a.add (x + y) := by
  unfold Addr.add
  by_cases h1 : x = 0 <;> by_cases h2 : y = 0 <;> simp [h1, h2, Nat.add_assoc]
theorem add_none (b o n : Nat) : (⟨b, o, none⟩ : Addr).add n = ⟨b, o + n, none⟩ := by
  unfold Addr.add
  by_cases h1 : n = 0 <;> simp [h1]
theorem cell_in {w : World} {a : Addr} {c : Value} (h : w.cell? a = some c) : a.spot = none ∧ a.block < w.heap.size := by
  obtain ⟨b, o, sp⟩ := a
  simp only [World.cell?] at h
  split at h
  · rename_i c _ _ hh
    have := (Array.getElem?_eq_some_iff.1 hh).1
    cases sp <;> simp_all
  · cases h
theorem list_of {α : Type} {dflt : α} {Q : Nat → α → Prop} : ∀ n : Nat, (∀ i, i < n → ∃ x, Q i x) → ∃ l : List α, l.length = n ∧ ∀ i, i < n → Q i (l.getD i dflt)
  | 0, _ => ⟨[], rfl, fun i hi => by omega⟩
  | n + 1, h => by
    obtain ⟨l, h1, h2⟩ := list_of n fun i hi => h i (by omega)
    obtain ⟨x, hx⟩ := h n (by omega)
    refine ⟨l ++ [x], by simp [h1], fun i hi => ?_⟩
    by_cases hn : i < n
    · have := h2 i hn
      rw [List.getD_eq_getElem?_getD, List.getElem?_append_left (by omega), ← List.getD_eq_getElem?_getD]
      exact this
    · have hin : i = n := by omega
      subst hin
      rw [List.getD_eq_getElem?_getD, List.getElem?_append_right (by omega), h1]
      simpa using hx
theorem AT_one {P : Program} {m : Nat} {e : TypeId} {vs : List AVal} (ha : aggT P e = false) (h : AT P m e vs) : ∃ v, vs = [v] ∧ acells v = [v] := by
  cases m with
  | zero => exact h.elim
  | succ m =>
    unfold AT at h
    unfold aggT at ha
    rcases hu : P.underlying e with _ | u
    · rw [hu] at h; exact h.elim
    rw [hu] at h ha
    cases u with
    | bool => obtain ⟨b, rfl⟩ := h; exact ⟨_, rfl, rfl⟩
    | int k => obtain ⟨b, rfl, _⟩ := h; exact ⟨_, rfl, rfl⟩
    | string => obtain ⟨b, rfl⟩ := h; exact ⟨_, rfl, rfl⟩
    | slice e => obtain ⟨b, rfl, _⟩ := h; exact ⟨_, rfl, rfl⟩
    | struct fs => simp at ha
    | _ => exact h.elim
theorem tiles_le {P : Program} : ∀ {fs : List Field} {o m : Nat}, tiles P fs o m = true → o ≤ m
  | [], o, m, h => by simp [tiles] at h; omega
  | f :: fs, o, m, h => by
    simp only [tiles, Bool.and_eq_true] at h
    have := tiles_le h.2
    omega

theorem fields_top {P : Program} {w : World} {μ : Mu} {cs : List Value} {rel : TypeId → List AVal → Prop} : ∀ {fs : List Field} {o : Nat}, tiles P fs o cs.length = true →
    (∀ f ∈ fs, ∃ vs : List AVal, vs.length = ((cs.drop f.offset).take (P.cellsOf f.type)).length ∧ (∀ i, i < ((cs.drop f.offset).take (P.cellsOf f.type)).length → VR (topG w) μ (vs.getD i .any) (((cs.drop f.offset).take (P.cellsOf f.type)).getD i undef)) ∧ rel f.type vs) →
    ∃ vs : List AVal, vs.length = cs.length - o ∧ (∀ i, i < cs.length - o → VR (topG w) μ (vs.getD i .any) (cs.getD (o + i) undef)) ∧ ATs rel fs vs
  | [], o, ht, _ => by
    simp [tiles] at ht
    exact ⟨[], by simp; omega, fun i hi => by omega, rfl⟩
  | f :: fs, o, ht, hf => by
    simp only [tiles, Bool.and_eq_true, beq_iff_eq] at ht
    have hle := tiles_le ht.2
    obtain ⟨a, a1, a2, a3⟩ := hf f (by simp)
    obtain ⟨b, b1, b2, b3⟩ := fields_top ht.2 fun g hg => hf g (by simp [hg])
    rw [ht.1] at a1 a2
    have hl : ((cs.drop o).take (P.cellsOf f.type)).length = P.cellsOf f.type := by simp; omega
    rw [hl] at a1 a2
    refine ⟨a ++ b, by simp; omega, fun i hi => ?_, a, b, rfl, a3, b3⟩
    by_cases h1 : i < P.cellsOf f.type
    · have h2 := a2 i h1
      rw [List.getD_eq_getElem?_getD, List.getElem?_append_left (by omega), ← List.getD_eq_getElem?_getD]
      rw [List.getD_eq_getElem?_getD (l := List.take _ _), List.getElem?_take_of_lt h1, List.getElem?_drop, ← List.getD_eq_getElem?_getD] at h2
      exact h2
    · have h2 := b2 (i - P.cellsOf f.type) (by omega)
      rw [List.getD_eq_getElem?_getD, List.getElem?_append_right (by omega), ← List.getD_eq_getElem?_getD, a1]
      rw [show o + P.cellsOf f.type + (i - P.cellsOf f.type) = o + i by omega] at h2
      exact h2

theorem trod_top {H : Type} {enc : TypeId × Value → H} {P : Program} {w : World} {μ : Mu} {spare : Nat → Bool} {held : Bool} : ∀ (m : Nat) (t : TypeId) (n : Nat) (cs : List Value) (d : DataW H) (ps : List MemPlace), dataB P m t = true →
    DataW.trod enc P w 0 spare held n t cs = some (d, ps) → ∃ vs : List AVal, vs.length = cs.length ∧ (∀ i, i < cs.length → VR (topG w) μ (vs.getD i .any) (cs.getD i undef)) ∧ AT P m t vs := by
  intro m
  induction m with
  | zero => intro t n cs d ps hd; simp [dataB] at hd
  | succ m ih =>
    intro t n cs d ps hd h
    cases n with
    | zero => simp [DataW.trod] at h
    | succ n =>
      unfold DataW.trod at h
      unfold dataB at hd
      unfold AT
      rcases hu : P.underlying t with _ | u
      · rw [hu] at hd; simp at hd
      rw [hu] at hd h
      cases u with
      | bool =>
        split at h <;> simp_all
        rename_i b
        exact ⟨[.bool b], rfl, .bool b, by cases b <;> simp⟩
      | int k =>
        split at h <;> simp_all
        exact ⟨[.int _ _], rfl, .int _ _, _, rfl, by first | exact h.2 | exact h.1.2 | exact h.2.1 | simp_all⟩
      | string =>
        split at h <;> simp_all
        exact ⟨[.str _], rfl, .str _ _ rfl, _, rfl⟩
      | slice e =>
        simp only [Bool.and_eq_true, decide_eq_true_eq] at hd
        split at h <;> first | (exfalso; simp_all; done) | skip
        · refine ⟨[.view []], rfl, fun i hi => ?_, [], rfl, Nat.zero_le _, fun x hx => by simp at hx⟩
          obtain rfl : i = 0 := by simpa using hi
          exact .viewnil none 0
        · rename_i e' a len cap heq
          cases heq
          dsimp only at h
          split at h
          · rename_i hc
            obtain ⟨-, hc1, hc2⟩ := hc
            rw [Option.bind_eq_some_iff] at h
            obtain ⟨elems, h1, -⟩ := h
            obtain ⟨hl, hget⟩ := mapM_get h1
            have hx : ∀ i, i < len → ∃ x : AVal, (acells x).length = P.cellsOf e ∧ (∀ j, j < P.cellsOf e → ∃ c, w.cell? (a.add (i * P.cellsOf e + j)) = some c ∧ VR (topG w) μ ((acells x).getD j .any) c) ∧ (if aggT P e = true then ∃ ws, x = .agg ws ∧ AT P m e ws else AT P m e [x]) := by
              intro i hi
              obtain ⟨y, hy, -⟩ := hget i i (by simp [hi])
              rw [Option.bind_eq_some_iff] at hy
              obtain ⟨ci, hc, ht⟩ := hy
              obtain ⟨d', ps'⟩ := y
              obtain ⟨vs, v1, v2, v3⟩ := ih e n ci d' ps' hd.2 ht
              unfold World.cells? at hc
              rw [if_pos (Nat.zero_le _)] at hc
              obtain ⟨q1, q2⟩ := mapM_get hc
              rw [List.length_range] at q1
              rw [q1] at v1 v2
              have hcell : ∀ j, j < P.cellsOf e → ∃ c, w.cell? (a.add (i * P.cellsOf e + j)) = some c ∧ VR (topG w) μ (vs.getD j .any) c := fun j hj => by
                obtain ⟨c, z1, z2⟩ := q2 j j (by simp [hj])
                have hv := v2 j hj
                rw [show ci.getD j undef = c by rw [List.getD_eq_getElem?_getD, z2]; rfl] at hv
                refine ⟨c, ?_, hv⟩
                rw [← add_add]; exact z1
              by_cases hag : aggT P e = true
              · exact ⟨.agg vs, v1, hcell, by rw [if_pos hag]; exact ⟨vs, rfl, v3⟩⟩
              · obtain ⟨v, rfl, hv⟩ := AT_one (by simpa using hag) v3
                exact ⟨v, by rw [hv]; exact v1, by rw [hv]; exact hcell, by rw [if_neg hag]; exact v3⟩
            obtain ⟨es, e1, e2⟩ := list_of (dflt := AVal.any) len hx
            refine ⟨[.view es], rfl, fun i hi => ?_, es, rfl, by omega, fun x hx => ?_⟩
            · obtain rfl : i = 0 := by simpa using hi
              show VR _ _ (.view es) (.slice (some a) len cap)
              by_cases h0 : len = 0
              · subst h0
                obtain rfl : es = [] := List.eq_nil_of_length_eq_zero e1
                exact .viewnil _ _
              · obtain ⟨-, hcl, -⟩ := e2 0 (by omega)
                obtain ⟨c, hc0, -⟩ := hcl 0 hd.1
                obtain ⟨hsp, hb⟩ := cell_in hc0
                obtain ⟨b, o, sp⟩ := a
                rw [show 0 * P.cellsOf e + 0 = 0 by simp] at hsp hb
                simp only [Addr.add, if_true] at hsp hb
                subst hsp
                have hV := VR.view (G := topG w) (μ := μ) es b o (P.cellsOf e) cap (fun i j => (w.cell? ⟨b, o + i * P.cellsOf e + j, none⟩).getD undef) hb (by omega) (fun i hi => (e2 i (by omega)).1) (fun i j hi hj => ?_) (fun i j hi hj => ?_)
                · rw [e1] at hV; exact hV
                · obtain ⟨c, z1, -⟩ := (e2 i (by omega)).2.1 j hj
                  rw [add_none, ← Nat.add_assoc] at z1
                  show w.cell? _ = some ((w.cell? _).getD undef)
                  rw [z1]; rfl
                · obtain ⟨c, z1, z2⟩ := (e2 i (by omega)).2.1 j hj
                  rw [add_none, ← Nat.add_assoc] at z1
                  rw [z1]; exact z2
            · obtain ⟨i, hi, rfl⟩ := List.mem_iff_getElem.1 hx
              have := (e2 i (by omega)).2.2
              rwa [List.getD_eq_getElem?_getD, List.getElem?_eq_getElem hi] at this
          · cases h
      | struct fs =>
        simp only [Bool.and_eq_true, List.all_eq_true] at hd
        split at h <;> first | (exfalso; simp_all; done) | skip
        · rename_i fs' heq
          cases heq
          split at h
          · rename_i hlen
            rw [Option.map_eq_some_iff] at h
            obtain ⟨xs, h1, -⟩ := h
            obtain ⟨-, hget⟩ := mapM_get h1
            rw [← hlen] at hd
            obtain ⟨vs, v1, v2, v3⟩ := fields_top (μ := μ) (w := w) (rel := AT P m) hd.1 fun f hf => by
              obtain ⟨i, hi, rfl⟩ := List.mem_iff_getElem.1 hf
              obtain ⟨⟨d', ps'⟩, hy, -⟩ := hget i _ (List.getElem?_eq_getElem hi)
              exact ih _ n _ d' ps' (hd.2 _ hf) hy
            simp only [Nat.sub_zero, Nat.zero_add] at v1 v2
            exact ⟨vs, v1, v2, v3⟩
          · cases h
      | _ => simp at hd

theorem top_agg {H : Type} {enc : TypeId × Value → H} {P : Program} {w : World} {μ : Mu} {spare : Nat → Bool} {held : Bool} {m : Nat} {t : TypeId} {cs : Array Value} {d : DataW H} {ps : List MemPlace} (hd : dataB P m t = true) (ha : aggT P t = true)
    (h : DataW.Trod enc P w 0 spare held t (.agg cs) d ps) : ∃ ws, VR (topG w) μ (.agg ws) (.agg cs) ∧ AT P m t ws := by
  obtain ⟨n, h⟩ := h
  obtain ⟨vs, v1, v2, v3⟩ := trod_top (μ := μ) m t n _ d ps hd h
  refine ⟨vs, .agg vs cs ?_ fun i hi => ?_, v3⟩
  · rw [v1]; simp [Value.cells]
  · have := v2 i (by omega)
    simpa [Value.cells, Array.getD_eq_getD_getElem?] using this
theorem top_one {H : Type} {enc : TypeId × Value → H} {P : Program} {w : World} {μ : Mu} {spare : Nat → Bool} {held : Bool} {m : Nat} {t : TypeId} {v : Value} {d : DataW H} {ps : List MemPlace} (hd : dataB P m t = true) (ha : aggT P t = false) (hv : v.cells = #[v])
    (h : DataW.Trod enc P w 0 spare held t v d ps) : ∃ x, VR (topG w) μ x v ∧ AT P m t [x] := by
  obtain ⟨n, h⟩ := h
  obtain ⟨vs, v1, v2, v3⟩ := trod_top (μ := μ) m t n _ d ps hd h
  obtain ⟨x, rfl, -⟩ := AT_one ha v3
  rw [hv] at v2
  exact ⟨x, v2 0 (by simp), v3⟩
end Go.Sx
