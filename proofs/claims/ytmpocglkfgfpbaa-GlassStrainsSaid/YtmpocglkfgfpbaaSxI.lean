/- A part of the proof: the abstract semantics. -/
import Derived.Test.YtmpocglkfgfpbaaSxH
set_option linter.unusedSimpArgs false
set_option linter.unusedVariables false
/- Calls that are handed a row which they change, and rows that they only read. -/
namespace Go.Sx
open Go

theorem put_same {H : Heap} {j : Nat} {x : Row} (h : H[j]? = some (some x)) : H.put j x = H := by
  obtain ⟨h1, h2⟩ := List.getElem?_eq_some_iff.1 h
  rw [put_lt h1]
  rw [← h2, List.set_getElem_self]

section
variable {P : Program} {G : Ctx} {g : FuncId} {args largs : List AVal} {H : Heap} {α : Type} {Φ : α → Prop} {r : α → AVal} {k : Nat} {rd : Option Nat} {R : Runner} {l : List AOper} {fs : List Frame} {ρ : List AVal} {ms : List Nat} {Q : Goal} {dst : Option Nat}

theorem cN1E {x : α → Row} (h : AnsE P g args [] Φ r fun a => [some (x a)]) (hwf : ∀ a, Φ a → Bel (· = 0) (r a) ∧ (x a).bel (fun _ => False)) (hK : ∀ a, Φ a → R (.ops l) fs ⟨setD ρ dst (ren (fun _ => H.length) (r a)), H ++ [some (x a)], ms⟩ Q)
    (hb : Bels (fun _ => False) args := by simp only [go_sem]) (hk : k ≤ H.length := by simp) (hms : ∀ q ∈ ms, H[q]? = some (some .dfr) := by simp) : CallR P G k R g args dst l fs ρ H ms Q := by
  have e : ∀ a, Φ a → outΔ (outσ [] H.length) 0 [some (x a)] = [(H.length, x a)] := fun a ha => by
    simp only [outΔ, Row.ren_same (hwf a ha).2]
    rfl
  refine callE h [] (by simp) trivial (by
    conv => lhs; rw [← List.map_id args]
    exact List.map_congr_left fun v hv => (ren_same (bels_mem hb v hv)).symm) (bels_of fun v hv => (bels_mem hb v hv).mono fun _ h => h.elim) trivial
    (fun a ha => ⟨by simp, (hwf a ha).1.mono fun q hq => by subst hq; simp, bel_mono_row (hwf a ha).2 fun _ h => h.elim, trivial⟩) (fun q hq => by simp at hq) hk (fun a ha q hq => ?_) fun a ha => ?_
  · rw [e a ha]
    have := (List.getElem?_eq_some_iff.1 (hms q hq)).1
    refine ⟨?_, hms q hq⟩
    simp; omega
  · rw [e a ha]
    have e2 : ren (outσ [] H.length) (r a) = ren (fun _ => H.length) (r a) := ren_agree (fun q hq => by subst hq; simp [outσ]) (hwf a ha).1
    rw [e2]
    simp only [Heap.puts, Heap.put_end]
    exact hK a ha

theorem callR2 {x0 x1 x2 : Row} {x' y : α → Row} {j0 j1 j2 : Nat} (h : AnsE P g largs [some x0, some x1, some x2] Φ r fun a => [some (x' a), some x1, some x2, some (y a)]) (hargs : args = largs.map (ren (nth [j0, j1, j2]))) (hb : Bels (· < 3) largs)
    (h0 : H[j0]? = some (some x0)) (h1 : H[j1]? = some (some x1)) (h2 : H[j2]? = some (some x2)) (hx0 : x0.bel (fun _ => False)) (hx1 : x1.bel (fun _ => False)) (hx2 : x2.bel (fun _ => False)) (hn : [j0, j1, j2].Nodup)
    (hwf : ∀ a, Φ a → Bel (· = 3) (r a) ∧ (x' a).bel (fun _ => False) ∧ (y a).bel (fun _ => False)) (hk : k ≤ H.length) (hms : ∀ q ∈ ms, q ∉ [j0, j1, j2] ∧ H[q]? = some (some .dfr))
    (hK : ∀ a, Φ a → R (.ops l) fs ⟨setD ρ dst (ren (fun _ => H.length) (r a)), H.set j0 (some (x' a)) ++ [some (y a)], ms⟩ Q) : CallR P G k R g args dst l fs ρ H ms Q := by
  have hlt0 := (List.getElem?_eq_some_iff.1 h0).1
  have hlt1 := (List.getElem?_eq_some_iff.1 h1).1
  have hlt2 := (List.getElem?_eq_some_iff.1 h2).1
  have n1 : j0 ≠ j1 ∧ j0 ≠ j2 ∧ j1 ≠ j2 := by simp at hn; omega
  have e : ∀ a, Φ a → outΔ (outσ [j0, j1, j2] H.length) 0 [some (x' a), some x1, some x2, some (y a)] = [(j0, x' a), (j1, x1), (j2, x2), (H.length, y a)] := fun a ha => by
    simp only [outΔ, Row.ren_same (hwf a ha).2.1, Row.ren_same (hwf a ha).2.2, Row.ren_same hx1, Row.ren_same hx2]
    rfl
  refine callE h [j0, j1, j2] hn ⟨by rw [Row.ren_same hx0]; exact h0, by rw [Row.ren_same hx1]; exact h1, by rw [Row.ren_same hx2]; exact h2, trivial⟩ hargs hb ⟨bel_mono_row hx0 fun _ h => h.elim, bel_mono_row hx1 fun _ h => h.elim, bel_mono_row hx2 fun _ h => h.elim, trivial⟩
    (fun a ha => ⟨by simp, (hwf a ha).1.mono fun q hq => by subst hq; simp, bel_mono_row (hwf a ha).2.1 fun _ h => h.elim, bel_mono_row hx1 fun _ h => h.elim, bel_mono_row hx2 fun _ h => h.elim, bel_mono_row (hwf a ha).2.2 fun _ h => h.elim, trivial⟩) (by simp; omega) hk (fun a ha q hq => ?_) fun a ha => ?_
  · rw [e a ha]
    have := (List.getElem?_eq_some_iff.1 (hms q hq).2).1
    have h3 := (hms q hq).1
    simp only [List.mem_cons, List.not_mem_nil, or_false, not_or] at h3
    refine ⟨?_, (hms q hq).2⟩
    simp only [List.map_cons, List.map_nil, List.mem_cons, List.not_mem_nil, or_false, not_or]
    exact ⟨h3.1, h3.2.1, h3.2.2, by omega⟩
  · rw [e a ha]
    have e2 : ren (outσ [j0, j1, j2] H.length) (r a) = ren (fun _ => H.length) (r a) := ren_agree (fun q hq => by subst hq; simp [outσ]) (hwf a ha).1
    rw [e2]
    simp only [Heap.puts, put_lt hlt0]
    have q1 : (H.set j0 (some (x' a)))[j1]? = some (some x1) := by rw [List.getElem?_set_ne n1.1]; exact h1
    have q2 : (H.set j0 (some (x' a)))[j2]? = some (some x2) := by rw [List.getElem?_set_ne n1.2.1]; exact h2
    rw [put_same q1, put_same q2]
    have e3 : Heap.put (H.set j0 (some (x' a))) H.length (y a) = H.set j0 (some (x' a)) ++ [some (y a)] := by
      have := Heap.put_end (H.set j0 (some (x' a))) (y a)
      rwa [List.length_set] at this
    rw [e3]
    exact hK a ha

theorem callR2n {x0 x1 x2 : Row} {x' : α → Row} {j0 j1 j2 : Nat} (h : AnsE P g largs [some x0, some x1, some x2] Φ r fun a => [some (x' a), some x1, some x2]) (hargs : args = largs.map (ren (nth [j0, j1, j2]))) (hb : Bels (· < 3) largs)
    (h0 : H[j0]? = some (some x0)) (h1 : H[j1]? = some (some x1)) (h2 : H[j2]? = some (some x2)) (hx0 : x0.bel (fun _ => False)) (hx1 : x1.bel (fun _ => False)) (hx2 : x2.bel (fun _ => False)) (hn : [j0, j1, j2].Nodup)
    (hwf : ∀ a, Φ a → Bel (fun _ => False) (r a) ∧ (x' a).bel (fun _ => False)) (hk : k ≤ H.length) (hms : ∀ q ∈ ms, q ∉ [j0, j1, j2] ∧ H[q]? = some (some .dfr))
    (hK : ∀ a, Φ a → R (.ops l) fs ⟨setD ρ dst (r a), H.set j0 (some (x' a)), ms⟩ Q) : CallR P G k R g args dst l fs ρ H ms Q := by
  have hlt0 := (List.getElem?_eq_some_iff.1 h0).1
  have hlt1 := (List.getElem?_eq_some_iff.1 h1).1
  have hlt2 := (List.getElem?_eq_some_iff.1 h2).1
  have n1 : j0 ≠ j1 ∧ j0 ≠ j2 ∧ j1 ≠ j2 := by simp at hn; omega
  have e : ∀ a, Φ a → outΔ (outσ [j0, j1, j2] H.length) 0 [some (x' a), some x1, some x2] = [(j0, x' a), (j1, x1), (j2, x2)] := fun a ha => by
    simp only [outΔ, Row.ren_same (hwf a ha).2, Row.ren_same hx1, Row.ren_same hx2]
    rfl
  refine callE h [j0, j1, j2] hn ⟨by rw [Row.ren_same hx0]; exact h0, by rw [Row.ren_same hx1]; exact h1, by rw [Row.ren_same hx2]; exact h2, trivial⟩ hargs hb ⟨bel_mono_row hx0 fun _ h => h.elim, bel_mono_row hx1 fun _ h => h.elim, bel_mono_row hx2 fun _ h => h.elim, trivial⟩
    (fun a ha => ⟨by simp, (hwf a ha).1.mono fun q hq => hq.elim, bel_mono_row (hwf a ha).2 fun _ h => h.elim, bel_mono_row hx1 fun _ h => h.elim, bel_mono_row hx2 fun _ h => h.elim, trivial⟩) (by simp; omega) hk (fun a ha q hq => ?_) fun a ha => ?_
  · rw [e a ha]
    exact ⟨(hms q hq).1, (hms q hq).2⟩
  · rw [e a ha, ren_same (hwf a ha).1]
    simp only [Heap.puts, put_lt hlt0]
    have q1 : (H.set j0 (some (x' a)))[j1]? = some (some x1) := by rw [List.getElem?_set_ne n1.1]; exact h1
    have q2 : (H.set j0 (some (x' a)))[j2]? = some (some x2) := by rw [List.getElem?_set_ne n1.2.1]; exact h2
    rw [put_same q1, put_same q2]
    exact hK a ha
theorem callR1n {x0 x1 : Row} {x' : α → Row} {j0 j1 : Nat} (h : AnsE P g largs [some x0, some x1] Φ r fun a => [some (x' a), some x1]) (hargs : args = largs.map (ren (nth [j0, j1]))) (hb : Bels (· < 2) largs)
    (h0 : H[j0]? = some (some x0)) (h1 : H[j1]? = some (some x1)) (hx0 : x0.bel (fun _ => False)) (hx1 : x1.bel (fun _ => False)) (hn : [j0, j1].Nodup)
    (hwf : ∀ a, Φ a → Bel (fun _ => False) (r a) ∧ (x' a).bel (fun _ => False)) (hk : k ≤ H.length) (hms : ∀ q ∈ ms, q ∉ [j0, j1] ∧ H[q]? = some (some .dfr))
    (hK : ∀ a, Φ a → R (.ops l) fs ⟨setD ρ dst (r a), H.set j0 (some (x' a)), ms⟩ Q) : CallR P G k R g args dst l fs ρ H ms Q := by
  have hlt0 := (List.getElem?_eq_some_iff.1 h0).1
  have hlt1 := (List.getElem?_eq_some_iff.1 h1).1
  have n1 : j0 ≠ j1 := by simpa using hn
  have e : ∀ a, Φ a → outΔ (outσ [j0, j1] H.length) 0 [some (x' a), some x1] = [(j0, x' a), (j1, x1)] := fun a ha => by
    simp only [outΔ, Row.ren_same (hwf a ha).2, Row.ren_same hx1]
    rfl
  refine callE h [j0, j1] hn ⟨by rw [Row.ren_same hx0]; exact h0, by rw [Row.ren_same hx1]; exact h1, trivial⟩ hargs hb ⟨bel_mono_row hx0 fun _ h => h.elim, bel_mono_row hx1 fun _ h => h.elim, trivial⟩
    (fun a ha => ⟨by simp, (hwf a ha).1.mono fun q hq => hq.elim, bel_mono_row (hwf a ha).2 fun _ h => h.elim, bel_mono_row hx1 fun _ h => h.elim, trivial⟩) (by simp; omega) hk (fun a ha q hq => ?_) fun a ha => ?_
  · rw [e a ha]
    exact ⟨(hms q hq).1, (hms q hq).2⟩
  · rw [e a ha, ren_same (hwf a ha).1]
    simp only [Heap.puts, put_lt hlt0]
    have q1 : (H.set j0 (some (x' a)))[j1]? = some (some x1) := by rw [List.getElem?_set_ne n1]; exact h1
    rw [put_same q1]
    exact hK a ha

theorem cS2 {x0 x1 y0 y1 : Row} {r : AVal} {j0 j1 : Nat} (h : Ans P g largs [some x0, some x1] r [some y0, some y1]) (hargs : args = largs.map (ren (nth [j0, j1]))) (hb : Bels (· < 2) largs)
    (h0 : H[j0]? = some (some x0)) (h1 : H[j1]? = some (some x1)) (hx0 : x0.bel (fun _ => False)) (hx1 : x1.bel (fun _ => False)) (hy0 : y0.bel (fun _ => False)) (hy1 : y1.bel (fun _ => False)) (hn : [j0, j1].Nodup) (hr : Bel (fun _ => False) r) (hk : k ≤ H.length) (hms : ∀ q ∈ ms, q ∉ [j0, j1] ∧ H[q]? = some (some .dfr))
    (hK : R (.ops l) fs ⟨setD ρ dst r, (H.set j0 (some y0)).set j1 (some y1), ms⟩ Q) : CallR P G k R g args dst l fs ρ H ms Q := by
  have hlt0 := (List.getElem?_eq_some_iff.1 h0).1
  have hlt1 := (List.getElem?_eq_some_iff.1 h1).1
  have e : outΔ (outσ [j0, j1] H.length) 0 [some y0, some y1] = [(j0, y0), (j1, y1)] := by
    simp only [outΔ, Row.ren_same hy0, Row.ren_same hy1]
    rfl
  refine callS h [j0, j1] hn ⟨by rw [Row.ren_same hx0]; exact h0, by rw [Row.ren_same hx1]; exact h1, trivial⟩ hargs hb ⟨bel_mono_row hx0 fun _ h => h.elim, bel_mono_row hx1 fun _ h => h.elim, trivial⟩
    (by simp) (hr.mono fun _ h => h.elim) ⟨bel_mono_row hy0 fun _ h => h.elim, bel_mono_row hy1 fun _ h => h.elim, trivial⟩ (by simp; omega) hk (fun q hq => ?_) ?_
  · rw [e]
    exact ⟨(hms q hq).1, (hms q hq).2⟩
  · rw [e, ren_same hr]
    have hlt1' : j1 < (H.set j0 (some y0)).length := by rw [List.length_set]; exact hlt1
    simp only [Heap.puts, put_lt hlt0, put_lt hlt1']
    exact hK

theorem kept_id {LH A : Heap} {r v : AVal} {H' : Heap} (hv : v = r) (hr : Bel (fun _ => False) r) (hA' : ∀ (i : Nat) (x : Row), A[i]? = some (some x) → x.bel (fun _ => False) ∧ H'[i]? = some (some x)) : ∃ σ, Kept LH A r v H' σ :=
  ⟨fun i => i, fun i hi => rfl, fun i k hi hk h => h, by rw [ren_same hr]; exact hv, fun i z hz => by
    obtain ⟨h2, h3⟩ := hA' i z hz
    rw [Row.ren_same h2]; exact h3⟩

theorem callR1 {x0 x1 : Row} {x' y : α → Row} {j0 j1 : Nat} (h : AnsE P g largs [some x0, some x1] Φ r fun a => [some (x' a), some x1, some (y a)]) (hargs : args = largs.map (ren (nth [j0, j1]))) (hb : Bels (· < 2) largs)
    (h0 : H[j0]? = some (some x0)) (h1 : H[j1]? = some (some x1)) (hx0 : x0.bel (fun _ => False)) (hx1 : x1.bel (fun _ => False)) (hn : [j0, j1].Nodup)
    (hwf : ∀ a, Φ a → Bel (· = 2) (r a) ∧ (x' a).bel (fun _ => False) ∧ (y a).bel (fun _ => False)) (hk : k ≤ H.length) (hms : ∀ q ∈ ms, q ∉ [j0, j1] ∧ H[q]? = some (some .dfr))
    (hK : ∀ a, Φ a → R (.ops l) fs ⟨setD ρ dst (ren (fun _ => H.length) (r a)), H.set j0 (some (x' a)) ++ [some (y a)], ms⟩ Q) : CallR P G k R g args dst l fs ρ H ms Q := by
  have hlt0 := (List.getElem?_eq_some_iff.1 h0).1
  have hlt1 := (List.getElem?_eq_some_iff.1 h1).1
  have n1 : j0 ≠ j1 := by simpa using hn
  have e : ∀ a, Φ a → outΔ (outσ [j0, j1] H.length) 0 [some (x' a), some x1, some (y a)] = [(j0, x' a), (j1, x1), (H.length, y a)] := fun a ha => by
    simp only [outΔ, Row.ren_same (hwf a ha).2.1, Row.ren_same (hwf a ha).2.2, Row.ren_same hx1]
    rfl
  refine callE h [j0, j1] hn ⟨by rw [Row.ren_same hx0]; exact h0, by rw [Row.ren_same hx1]; exact h1, trivial⟩ hargs hb ⟨bel_mono_row hx0 fun _ h => h.elim, bel_mono_row hx1 fun _ h => h.elim, trivial⟩
    (fun a ha => ⟨by simp, (hwf a ha).1.mono fun q hq => by subst hq; simp, bel_mono_row (hwf a ha).2.1 fun _ h => h.elim, bel_mono_row hx1 fun _ h => h.elim, bel_mono_row (hwf a ha).2.2 fun _ h => h.elim, trivial⟩) (by simp; omega) hk (fun a ha q hq => ?_) fun a ha => ?_
  · rw [e a ha]
    have := (List.getElem?_eq_some_iff.1 (hms q hq).2).1
    have h3 := (hms q hq).1
    simp only [List.mem_cons, List.not_mem_nil, or_false, not_or] at h3
    refine ⟨?_, (hms q hq).2⟩
    simp only [List.map_cons, List.map_nil, List.mem_cons, List.not_mem_nil, or_false, not_or]
    exact ⟨h3.1, h3.2, by omega⟩
  · rw [e a ha]
    have e2 : ren (outσ [j0, j1] H.length) (r a) = ren (fun _ => H.length) (r a) := ren_agree (fun q hq => by subst hq; simp [outσ]) (hwf a ha).1
    rw [e2]
    simp only [Heap.puts, put_lt hlt0]
    have q1 : (H.set j0 (some (x' a)))[j1]? = some (some x1) := by rw [List.getElem?_set_ne n1]; exact h1
    rw [put_same q1]
    have e3 : Heap.put (H.set j0 (some (x' a))) H.length (y a) = H.set j0 (some (x' a)) ++ [some (y a)] := by
      have := Heap.put_end (H.set j0 (some (x' a))) (y a)
      rwa [List.length_set] at this
    rw [e3]
    exact hK a ha
end
end Go.Sx
/- Raw data that came in, as abstract values. -/
namespace Go.Sx
open Go Go.RowKit

def tiles (P : Program) : List Field → Nat → Nat → Bool
  | [], o, m => o == m
  | f :: fs, o, m => f.offset == o && tiles P fs (o + P.cellsOf f.type) m

def dataB (P : Program) : Nat → TypeId → Bool
  | 0, _ => false
  | n + 1, t => match P.underlying t with
    | some .bool => true
    | some (.int _) => true
    | some .string => true
    | some (.slice e) => decide (0 < P.cellsOf e) && dataB P n e
    | some (.struct fs) => tiles P fs.toList 0 (P.cellsOf t) && fs.toList.all fun f => dataB P n f.type
    | _ => false

def aggT (P : Program) (t : TypeId) : Bool := match P.underlying t with | some (.struct _) => true | _ => false

def ATs (rel : TypeId → List AVal → Prop) : List Field → List AVal → Prop
  | [], vs => vs = []
  | f :: fs, vs => ∃ a b, vs = a ++ b ∧ rel f.type a ∧ ATs rel fs b

def AT (P : Program) : Nat → TypeId → List AVal → Prop
  | 0, _, _ => False
  | n + 1, t, vs => match P.underlying t with
    | some .bool => ∃ b, vs = [.bool b]
    | some (.int k) => ∃ m, vs = [.int k m] ∧ (Lit.int k m).wf = true
    | some .string => ∃ s, vs = [.str s]
    | some (.slice e) => ∃ es, vs = [.view es] ∧ es.length ≤ maxLen ∧ ∀ x ∈ es, if aggT P e = true then ∃ ws, x = .agg ws ∧ AT P n e ws else AT P n e [x]
    | some (.struct fs) => ATs (AT P n) fs.toList vs
    | _ => False

theorem mapM_get {α β : Type} {f : α → Option β} : ∀ {l : List α} {r : List β}, l.mapM f = some r → r.length = l.length ∧ ∀ (i : Nat) (x : α), l[i]? = some x → ∃ y, f x = some y ∧ r[i]? = some y
  | [], r, h => by
    simp at h
    subst h
    simp
  | a :: l, r, h => by
    rw [List.mapM_cons] at h
    rcases ha : f a with _ | y
    · rw [ha] at h; simp at h
    rw [ha] at h
    rcases hl : l.mapM f with _ | ys
    · rw [hl] at h; simp at h
    rw [hl] at h
    simp at h
    subst h
    obtain ⟨h1, h2⟩ := mapM_get hl
    refine ⟨by simp [h1], fun i x hx => ?_⟩
    cases i with
    | zero =>
      simp only [List.getElem?_cons_zero, Option.some.injEq] at hx
      subst hx
      exact ⟨y, ha, rfl⟩
    | succ i => exact h2 i x hx
theorem add_add (a : Addr) (x y : Nat) : (a.add x).add y = a.add (x + y) := by
  unfold Addr.add
  by_cases h1 : x = 0 <;> by_cases h2 : y = 0 <;> simp [h1, h2, Nat.add_assoc]
theorem add_none (b o n : Nat) : (⟨b, o, none⟩ : Addr).add n = ⟨b, o + n, none⟩ := by
  unfold Addr.add
  by_cases h1 : n = 0 <;> simp [h1]
theorem cell_in {w : World} {a : Addr} {c : Value} (h : w.cell? a = some c) : a.spot = none ∧ a.block < w.heap.size := by
  obtain ⟨b, o, sp⟩ := a
  simp only [World.cell?] at h
  split at h
  · rename_i c _ _ hh
    have := (Array.getElem?_eq_some_iff.1 hh).1
    cases sp <;> simp_all
  · cases h
theorem list_of {α : Type} {dflt : α} {Q : Nat → α → Prop} : ∀ n : Nat, (∀ i, i < n → ∃ x, Q i x) → ∃ l : List α, l.length = n ∧ ∀ i, i < n → Q i (l.getD i dflt)
  | 0, _ => ⟨[], rfl, fun i hi => by omega⟩
  | n + 1, h => by
    obtain ⟨l, h1, h2⟩ := list_of n fun i hi => h i (by omega)
    obtain ⟨x, hx⟩ := h n (by omega)
    refine ⟨l ++ [x], by simp [h1], fun i hi => ?_⟩
    by_cases hn : i < n
    · have := h2 i hn
      rw [List.getD_eq_getElem?_getD, List.getElem?_append_left (by omega), ← List.getD_eq_getElem?_getD]
      exact this
    · have hin : i = n := by omega
      subst hin
      rw [List.getD_eq_getElem?_getD, List.getElem?_append_right (by omega), h1]
      simpa using hx
theorem AT_one {P : Program} {m : Nat} {e : TypeId} {vs : List AVal} (ha : aggT P e = false) (h : AT P m e vs) : ∃ v, vs = [v] ∧ acells v = [v] := by
  cases m with
  | zero => exact h.elim
  | succ m =>
    unfold AT at h
    unfold aggT at ha
    rcases hu : P.underlying e with _ | u
    · rw [hu] at h; exact h.elim
    rw [hu] at h ha
    cases u with
    | bool => obtain ⟨b, rfl⟩ := h; exact ⟨_, rfl, rfl⟩
    | int k => obtain ⟨b, rfl, _⟩ := h; exact ⟨_, rfl, rfl⟩
    | string => obtain ⟨b, rfl⟩ := h; exact ⟨_, rfl, rfl⟩
    | slice e => obtain ⟨b, rfl, _⟩ := h; exact ⟨_, rfl, rfl⟩
    | struct fs => simp at ha
    | _ => exact h.elim
theorem tiles_le {P : Program} : ∀ {fs : List Field} {o m : Nat}, tiles P fs o m = true → o ≤ m
  | [], o, m, h => by simp [tiles] at h; omega
  | f :: fs, o, m, h => by
    simp only [tiles, Bool.and_eq_true] at h
    have := tiles_le h.2
    omega

theorem fields_top {P : Program} {w : World} {μ : Mu} {cs : List Value} {rel : TypeId → List AVal → Prop} : ∀ {fs : List Field} {o : Nat}, tiles P fs o cs.length = true →
    (∀ f ∈ fs, ∃ vs : List AVal, vs.length = ((cs.drop f.offset).take (P.cellsOf f.type)).length ∧ (∀ i, i < ((cs.drop f.offset).take (P.cellsOf f.type)).length → VR (topG w) μ (vs.getD i .any) (((cs.drop f.offset).take (P.cellsOf f.type)).getD i undef)) ∧ rel f.type vs) →
    ∃ vs : List AVal, vs.length = cs.length - o ∧ (∀ i, i < cs.length - o → VR (topG w) μ (vs.getD i .any) (cs.getD (o + i) undef)) ∧ ATs rel fs vs
  | [], o, ht, _ => by
    simp [tiles] at ht
    exact ⟨[], by simp; omega, fun i hi => by omega, rfl⟩
  | f :: fs, o, ht, hf => by
    simp only [tiles, Bool.and_eq_true, beq_iff_eq] at ht
    have hle := tiles_le ht.2
    obtain ⟨a, a1, a2, a3⟩ := hf f (by simp)
    obtain ⟨b, b1, b2, b3⟩ := fields_top ht.2 fun g hg => hf g (by simp [hg])
    rw [ht.1] at a1 a2
    have hl : ((cs.drop o).take (P.cellsOf f.type)).length = P.cellsOf f.type := by simp; omega
    rw [hl] at a1 a2
    refine ⟨a ++ b, by simp; omega, fun i hi => ?_, a, b, rfl, a3, b3⟩
    by_cases h1 : i < P.cellsOf f.type
    · have h2 := a2 i h1
      rw [List.getD_eq_getElem?_getD, List.getElem?_append_left (by omega), ← List.getD_eq_getElem?_getD]
      rw [List.getD_eq_getElem?_getD (l := List.take _ _), List.getElem?_take_of_lt h1, List.getElem?_drop, ← List.getD_eq_getElem?_getD] at h2
      exact h2
    · have h2 := b2 (i - P.cellsOf f.type) (by omega)
      rw [List.getD_eq_getElem?_getD, List.getElem?_append_right (by omega), ← List.getD_eq_getElem?_getD, a1]
      rw [show o + P.cellsOf f.type + (i - P.cellsOf f.type) = o + i by omega] at h2
      exact h2

theorem trod_top {H : Type} {enc : TypeId × Value → H} {P : Program} {w : World} {μ : Mu} {spare : Nat → Bool} {held : Bool} : ∀ (m : Nat) (t : TypeId) (n : Nat) (cs : List Value) (d : DataW H) (ps : List MemPlace), dataB P m t = true →
    DataW.trod enc P w 0 spare held n t cs = some (d, ps) → ∃ vs : List AVal, vs.length = cs.length ∧ (∀ i, i < cs.length → VR (topG w) μ (vs.getD i .any) (cs.getD i undef)) ∧ AT P m t vs := by
  intro m
  induction m with
  | zero => intro t n cs d ps hd; simp [dataB] at hd
  | succ m ih =>
    intro t n cs d ps hd h
    cases n with
    | zero => simp [DataW.trod] at h
    | succ n =>
      unfold DataW.trod at h
      unfold dataB at hd
      unfold AT
      rcases hu : P.underlying t with _ | u
      · rw [hu] at hd; simp at hd
      rw [hu] at hd h
      cases u with
      | bool =>
        split at h <;> simp_all
        rename_i b
        exact ⟨[.bool b], rfl, .bool b, by cases b <;> simp⟩
      | int k =>
        split at h <;> simp_all
        exact ⟨[.int _ _], rfl, .int _ _, _, rfl, by first | exact h.2 | exact h.1.2 | exact h.2.1 | simp_all⟩
      | string =>
        split at h <;> simp_all
        exact ⟨[.str _], rfl, .str _ _ rfl, _, rfl⟩
      | slice e =>
        simp only [Bool.and_eq_true, decide_eq_true_eq] at hd
        split at h <;> first | (exfalso; simp_all; done) | skip
        · refine ⟨[.view []], rfl, fun i hi => ?_, [], rfl, Nat.zero_le _, fun x hx => by simp at hx⟩
          obtain rfl : i = 0 := by simpa using hi
          exact .viewnil none 0
        · rename_i e' a len cap heq
          cases heq
          dsimp only at h
          split at h
          · rename_i hc
            obtain ⟨-, hc1, hc2⟩ := hc
            rw [Option.bind_eq_some_iff] at h
            obtain ⟨elems, h1, -⟩ := h
            obtain ⟨hl, hget⟩ := mapM_get h1
            have hx : ∀ i, i < len → ∃ x : AVal, (acells x).length = P.cellsOf e ∧ (∀ j, j < P.cellsOf e → ∃ c, w.cell? (a.add (i * P.cellsOf e + j)) = some c ∧ VR (topG w) μ ((acells x).getD j .any) c) ∧ (if aggT P e = true then ∃ ws, x = .agg ws ∧ AT P m e ws else AT P m e [x]) := by
              intro i hi
              obtain ⟨y, hy, -⟩ := hget i i (by simp [hi])
              rw [Option.bind_eq_some_iff] at hy
              obtain ⟨ci, hc, ht⟩ := hy
              obtain ⟨d', ps'⟩ := y
              obtain ⟨vs, v1, v2, v3⟩ := ih e n ci d' ps' hd.2 ht
              unfold World.cells? at hc
              rw [if_pos (Nat.zero_le _)] at hc
              obtain ⟨q1, q2⟩ := mapM_get hc
              rw [List.length_range] at q1
              rw [q1] at v1 v2
              have hcell : ∀ j, j < P.cellsOf e → ∃ c, w.cell? (a.add (i * P.cellsOf e + j)) = some c ∧ VR (topG w) μ (vs.getD j .any) c := fun j hj => by
                obtain ⟨c, z1, z2⟩ := q2 j j (by simp [hj])
                have hv := v2 j hj
                rw [show ci.getD j undef = c by rw [List.getD_eq_getElem?_getD, z2]; rfl] at hv
                refine ⟨c, ?_, hv⟩
                rw [← add_add]; exact z1
              by_cases hag : aggT P e = true
              · exact ⟨.agg vs, v1, hcell, by rw [if_pos hag]; exact ⟨vs, rfl, v3⟩⟩
              · obtain ⟨v, rfl, hv⟩ := AT_one (by simpa using hag) v3
                exact ⟨v, by rw [hv]; exact v1, by rw [hv]; exact hcell, by rw [if_neg hag]; exact v3⟩
            obtain ⟨es, e1, e2⟩ := list_of (dflt := AVal.any) len hx
            refine ⟨[.view es], rfl, fun i hi => ?_, es, rfl, by omega, fun x hx => ?_⟩
            · obtain rfl : i = 0 := by simpa using hi
              show VR _ _ (.view es) (.slice (some a) len cap)
              by_cases h0 : len = 0
              · subst h0
                obtain rfl : es = [] := List.eq_nil_of_length_eq_zero e1
                exact .viewnil _ _
              · obtain ⟨-, hcl, -⟩ := e2 0 (by omega)
                obtain ⟨c, hc0, -⟩ := hcl 0 hd.1
                obtain ⟨hsp, hb⟩ := cell_in hc0
                obtain ⟨b, o, sp⟩ := a
                rw [show 0 * P.cellsOf e + 0 = 0 by simp] at hsp hb
                simp only [Addr.add, if_true] at hsp hb
                subst hsp
                have hV := VR.view (G := topG w) (μ := μ) es b o (P.cellsOf e) cap (fun i j => (w.cell? ⟨b, o + i * P.cellsOf e + j, none⟩).getD undef) hb (by omega) (fun i hi => (e2 i (by omega)).1) (fun i j hi hj => ?_) (fun i j hi hj => ?_)
                · rw [e1] at hV; exact hV
                · obtain ⟨c, z1, -⟩ := (e2 i (by omega)).2.1 j hj
                  rw [add_none, ← Nat.add_assoc] at z1
                  show w.cell? _ = some ((w.cell? _).getD undef)
                  rw [z1]; rfl
                · obtain ⟨c, z1, z2⟩ := (e2 i (by omega)).2.1 j hj
                  rw [add_none, ← Nat.add_assoc] at z1
                  rw [z1]; exact z2
            · obtain ⟨i, hi, rfl⟩ := List.mem_iff_getElem.1 hx
              have := (e2 i (by omega)).2.2
              rwa [List.getD_eq_getElem?_getD, List.getElem?_eq_getElem hi] at this
          · cases h
      | struct fs =>
        simp only [Bool.and_eq_true, List.all_eq_true] at hd
        split at h <;> first | (exfalso; simp_all; done) | skip
        · rename_i fs' heq
          cases heq
          split at h
          · rename_i hlen
            rw [Option.map_eq_some_iff] at h
            obtain ⟨xs, h1, -⟩ := h
            obtain ⟨-, hget⟩ := mapM_get h1
            rw [← hlen] at hd
            obtain ⟨vs, v1, v2, v3⟩ := fields_top (μ := μ) (w := w) (rel := AT P m) hd.1 fun f hf => by
              obtain ⟨i, hi, rfl⟩ := List.mem_iff_getElem.1 hf
              obtain ⟨⟨d', ps'⟩, hy, -⟩ := hget i _ (List.getElem?_eq_getElem hi)
              exact ih _ n _ d' ps' (hd.2 _ hf) hy
            simp only [Nat.sub_zero, Nat.zero_add] at v1 v2
            exact ⟨vs, v1, v2, v3⟩
          · cases h
      | _ => simp at hd

theorem top_agg {H : Type} {enc : TypeId × Value → H} {P : Program} {w : World} {μ : Mu} {spare : Nat → Bool} {held : Bool} {m : Nat} {t : TypeId} {cs : Array Value} {d : DataW H} {ps : List MemPlace} (hd : dataB P m t = true) (ha : aggT P t = true)
    (h : DataW.Trod enc P w 0 spare held t (.agg cs) d ps) : ∃ ws, VR (topG w) μ (.agg ws) (.agg cs) ∧ AT P m t ws := by
  obtain ⟨n, h⟩ := h
  obtain ⟨vs, v1, v2, v3⟩ := trod_top (μ := μ) m t n _ d ps hd h
  refine ⟨vs, .agg vs cs ?_ fun i hi => ?_, v3⟩
  · rw [v1]; simp [Value.cells]
  · have := v2 i (by omega)
    simpa [Value.cells, Array.getD_eq_getD_getElem?] using this
theorem top_one {H : Type} {enc : TypeId × Value → H} {P : Program} {w : World} {μ : Mu} {spare : Nat → Bool} {held : Bool} {m : Nat} {t : TypeId} {v : Value} {d : DataW H} {ps : List MemPlace} (hd : dataB P m t = true) (ha : aggT P t = false) (hv : v.cells = #[v])
    (h : DataW.Trod enc P w 0 spare held t v d ps) : ∃ x, VR (topG w) μ x v ∧ AT P m t [x] := by
  obtain ⟨n, h⟩ := h
  obtain ⟨vs, v1, v2, v3⟩ := trod_top (μ := μ) m t n _ d ps hd h
  obtain ⟨x, rfl, -⟩ := AT_one ha v3
  rw [hv] at v2
  exact ⟨x, v2 0 (by simp), v3⟩
end Go.Sx
