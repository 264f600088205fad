/- Calls that hand over one row. -/
import Derived.Test.YtnfnjolpojofcabSxSimp
namespace Go.Sx
open Go

theorem Row.ren_same {f : Nat → Nat} {x : Row} (h : x.bel (fun _ => False)) : x.ren f = x := by
  cases x with
  | cells g sz es =>
    simp only [Row.ren]
    congr 1
    rw [row_bel_cells] at h
    exact list_ext_getD (by simp [rens_len]) fun i hi => by rw [rens_getD]; exact Sx.ren_same ((bels_iff es).1 h i (by simpa [rens_len] using hi))
  | loop ρ ps asg body d st pend => exact h.1.elim
  | dfr => rfl
  | siter s pos => rfl

section
variable {P : Program} {G : Ctx} {g : FuncId} {args : List AVal} {H : Heap} {r : AVal} {k : Nat} {rd : Option Nat} {R : Runner} {l : List AOper} {fs : List Frame} {ρ : List AVal} {ms : List Nat} {Q : Goal} {dst : Option Nat} {x x' : Row} {j : Nat}

theorem put_lt {H : Heap} {j : Nat} {x : Row} (h : j < H.length) : H.put j x = H.set j (some x) := by simp [Heap.put, h]

/-- The first argument leads to a row of the caller's. -/
theorem callD (h : Ans P g (.ptr 0 0 0 1 :: args) [some x] r [some x']) (hj : H[j]? = some (some x)) (hb : Bels (fun _ => False) args) (hr : Bel (fun _ => False) r) (hx : x.bel (fun _ => False)) (hx' : x'.bel (fun _ => False))
    (hk : k ≤ H.length) (hms : ∀ q ∈ ms, q ≠ j ∧ H[q]? = some (some .dfr)) (hK : R (.ops l) fs ⟨setD ρ dst r, H.set j (some x'), ms⟩ Q) : CallR P G k R g (.ptr j 0 0 1 :: args) dst l fs ρ H ms Q := by
  have hlt : j < H.length := (List.getElem?_eq_some_iff.1 hj).1
  have hargs : args.map (ren (nth [j])) = args := by
    conv => rhs; rw [← List.map_id args]
    exact List.map_congr_left fun v hv => ren_same (bels_mem hb v hv)
  have hb1 : ∀ {n : Nat}, Bels (· < n) args := bels_of fun v hv => (bels_mem hb v hv).mono fun _ h => h.elim
  have e : outΔ (outσ [j] H.length) 0 [some x'] = [(j, x')] := by
    simp only [outΔ, Row.ren_same hx']
    rfl
  refine callS h [j] (by simp) ⟨by rw [Row.ren_same hx]; exact hj, trivial⟩ (by simp only [List.map_cons, hargs]; rfl) ⟨by rw [bel_ptr]; simp, hb1⟩ ⟨bel_mono_row hx fun _ h => h.elim, trivial⟩ (Nat.le_refl _) (hr.mono fun _ h => h.elim)
    ⟨bel_mono_row hx' fun _ h => h.elim, trivial⟩ (by simpa using hlt) hk (fun q hq => ?_) ?_
  · rw [e]; simpa using hms q hq
  · rw [e, ren_same hr]
    simp only [Heap.puts, put_lt hlt]
    exact hK
end

/-- Of some temporaries nothing is said any more. -/
def Wk : List AVal → List AVal → Prop
  | [], [] => True
  | v :: ρ, u :: ρ' => (u = .any ∨ u = v) ∧ Wk ρ ρ'
  | _, _ => False

theorem Wk.get : ∀ {ρ ρ' : List AVal}, Wk ρ ρ' → ρ'.length = ρ.length ∧ ∀ t, ρ'.getD t .any = .any ∨ ρ'.getD t .any = ρ.getD t .any
  | [], [], _ => ⟨rfl, fun t => .inl (by simp)⟩
  | v :: ρ, u :: ρ', h => by
    obtain ⟨h1, h2⟩ := Wk.get h.2
    refine ⟨by simp [h1], fun t => ?_⟩
    cases t with
    | zero => simpa using h.1
    | succ t => simpa using h2 t
  | [], _ :: _, h => h.elim
  | _ :: _, [], h => h.elim

theorem less_wk {P : Program} {G : Ctx} {k : Nat} {ρ ρ' : List AVal} {H : Heap} {ms : List Nat} (h : Wk ρ ρ') : Less P G k ⟨ρ, H, ms⟩ ⟨ρ', H, ms⟩ := fun μ a w hR => by
  obtain ⟨h1, h2⟩ := h.get
  refine ⟨μ, ⟨⟨by rw [h1]; exact hR.tr.1, fun t => ?_⟩, hR.hr, hR.dom, hR.mk', hR.mkr⟩, Mu.leB_refl _ _⟩
  rcases h2 t with h | h
  · simp only [h]; exact .any _
  · simp only [h]; exact hR.tr.2 t

/-- A loop at its head, its dead temporaries forgotten. -/
theorem loop_wk {P : Program} {G : Ctx} {k : Nat} {rd : Option Nat} {c : ACode} {fs : List Frame} {ρ ρ' : List AVal} {H : Heap} {ms : List Nat} {Q : Goal} (h : Wk ρ ρ') (hl : Loop P G k rd c fs ⟨ρ', H, ms⟩ Q) : Loop P G k rd c fs ⟨ρ, H, ms⟩ Q := loop_less (less_wk h) hl
@[go_sem] theorem wk_nil : Wk [] [] = True := (rfl)
@[go_sem] theorem wk_cons (v u : AVal) (ρ ρ' : List AVal) : Wk (v :: ρ) (u :: ρ') = ((u = .any ∨ u = v) ∧ Wk ρ ρ') := (rfl)

theorem loop_body {P : Program} {G : Ctx} {k : Nat} {rd : Option Nat} (n : Nat) {c c' : ACode} (hc : c = c') {fs : List Frame} {s : St} {Q : Goal} (h : Run P G k rd n (.code c') (.rnd c :: fs) s Q) : Loop P G k rd c fs s Q := by
  subst hc; exact loop_round n h
attribute [go_sem] Int.cast_ofNat_Int
@[go_sem] theorem disj_cons (a : Nat) (l b : List Nat) : disj (a :: l) b = (!b.contains a && disj l b) := by simp [disj]
end Go.Sx
