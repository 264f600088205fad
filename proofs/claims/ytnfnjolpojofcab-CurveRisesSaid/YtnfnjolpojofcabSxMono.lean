/- What an operation makes of a heap it makes of every heap that says more. -/
import Derived.Test.YtnfnjolpojofcabSxEval
namespace Go.Sx

/-- All that the one says of cells the other says. -/
def Heap.le (H H' : Heap) : Prop := ∀ r x, H.cellsAt r = some x → H'.cellsAt r = some x

/-- The rows into which a value leads straight. -/
def vrows : AVal → List Nat
  | .ptr r _ _ _ => [r]
  | .sl r _ _ => [r]
  | _ => []

/-- The rows that an operation looks at. -/
def adeps (op : AOp) (ρ : List AVal) : List Nat :=
  match op with
  | .load _ x | .nilCheck x | .bin _ _ x _ | .store _ x _ | .slice _ _ x _ _ | .fieldAddr _ x | .indexAddr _ x _ | .indexArr _ _ x _ | .len _ x => vrows (opd ρ x)
  | .append _ _ _ s x => vrows (opd ρ s) ++ vrows (opd ρ x)
  | _ => []

/-- All that the one says of cells of these rows the other says. -/
def Heap.leOn (H : Heap) (l : List Nat) (H' : Heap) : Prop := ∀ r ∈ l, ∀ x, H.cellsAt r = some x → H'.cellsAt r = some x

variable {H H' : Heap}

theorem ldv_mono {k : Option Nat} {a v : AVal} (hl : H.leOn (vrows a) H') (h : ldv H k a = some v) : ldv H' k a = some v := by
  unfold ldv at h ⊢
  cases a <;> try exact h
  rename_i r i off L
  dsimp only at h ⊢
  cases hc : H.cellsAt r with
  | none => rw [hc] at h; cases h
  | some x => rw [hc] at h; rw [hl _ (by simp [vrows]) _ hc]; exact h

theorem lenOfIn_mono {a : AVal} {v : Nat} (hl : H.leOn (vrows a) H') (h : lenOfIn H a = some v) : lenOfIn H' a = some v := by
  unfold lenOfIn at h ⊢
  cases a <;> try exact h
  rename_i r off L
  dsimp only at h ⊢
  cases hc : H.cellsAt r with
  | none => rw [hc] at h; cases h
  | some x => rw [hc] at h; rw [hl _ (by simp [vrows]) _ hc]; exact h

theorem isNilIn_mono {a : AVal} {v : Bool} (hl : H.leOn (vrows a) H') (h : isNilIn H a = some v) : isNilIn H' a = some v := by
  unfold isNilIn at h ⊢
  cases a <;> try exact h
  all_goals
    rename_i r _ _
    dsimp only at h ⊢
    generalize hr : Heap.cellsAt H _ = o at h
    cases o with
    | none => cases h
    | some x => rw [hl _ (by simp [vrows]) _ hr]; exact h

theorem elemsOf_mono {a : AVal} {v : List AVal} (hl : H.leOn (vrows a) H') (h : elemsOf H a = some v) : elemsOf H' a = some v := by
  unfold elemsOf at h ⊢
  cases a <;> try exact h
  rename_i r off L
  dsimp only at h ⊢
  cases hc : H.cellsAt r with
  | none => rw [hc] at h; cases h
  | some x => rw [hc] at h; rw [hl _ (by simp [vrows]) _ hc]; exact h

theorem isNilK_mono {tk : TK} {a : AVal} {v : Bool} (hl : H.leOn (vrows a) H') (h : isNilK H tk a = some v) : isNilK H' tk a = some v := by
  unfold isNilK at h ⊢
  split at h
  · rename_i ht; rw [if_pos ht]; exact isNilIn_mono hl h
  · cases h

theorem abin_mono {tk : TK} {op : BinOp} {x y v : AVal} (hl : H.leOn (vrows x) H') (h : abin H tk op x y = some v) : abin H' tk op x y = some v := by
  have dflt : ∀ x y : AVal, H.leOn (vrows x) H' → (match nilTk y with
      | some t => if tk = t then (match (generalizing := false) op with
        | .eql => (isNilK H t x).map AVal.bool
        | .neq => (isNilK H t x).map fun b => AVal.bool (!b)
        | _ => none) else none
      | none => none) = some v → (match nilTk y with
      | some t => if tk = t then (match (generalizing := false) op with
        | .eql => (isNilK H' t x).map AVal.bool
        | .neq => (isNilK H' t x).map fun b => AVal.bool (!b)
        | _ => none) else none
      | none => none) = some v := by
    intro x y hl h
    cases hn : nilTk y with
    | none => rw [hn] at h; cases h
    | some t =>
      rw [hn] at h
      dsimp only at h ⊢
      split at h
      · rename_i htk
        rw [if_pos htk]
        cases hk : isNilK H t x with
        | none => rw [hk] at h; cases op <;> cases h
        | some b => rw [isNilK_mono hl hk]; rw [hk] at h; exact h
      · cases h
  cases x <;> first | exact dflt _ _ hl h | (cases y <;> first | exact h | exact dflt _ _ hl h)

theorem aev_dep {op : AOp} {ρ : List AVal} {n : Nat} {r : AVal × List (Nat × Row)} (hl : H.leOn (adeps op ρ) H') (h : aev op ρ H n = some r) : aev op ρ H' n = some r := by
  cases op <;> try exact h
  case load k a =>
    simp only [aev] at h ⊢
    cases hv : ldv H k (opd ρ a) with
    | none => rw [hv] at h; cases h
    | some v => rw [ldv_mono hl hv, ← hv]; exact h
  case bin tk op x y =>
    simp only [aev] at h ⊢
    cases hv : abin H tk op (opd ρ x) (opd ρ y) with
    | none => rw [hv] at h; cases h
    | some v => rw [abin_mono hl hv, ← hv]; exact h
  case nilCheck x =>
    simp only [aev] at h ⊢
    cases hv : isNilIn H (opd ρ x) with
    | none => rw [hv] at h; cases h
    | some v => rw [isNilIn_mono hl hv, ← hv]; exact h
  case len str x =>
    simp only [aev] at h ⊢
    cases hv : lenOfIn H (opd ρ x) with
    | none => rw [hv] at h; cases h
    | some v => rw [lenOfIn_mono hl hv]; rw [hv] at h; exact h
  case append sz bytes b s x =>
    simp only [aev] at h ⊢
    cases hv : elemsOf H (opd ρ x) with
    | none => rw [hv] at h; cases h
    | some v =>
      rw [elemsOf_mono (fun r hr => hl r (by simp [adeps, hr])) hv]; rw [hv] at h
      simp only [] at h ⊢
      split at h
      · cases h
      · rename_i hs
        rw [if_neg hs]
        cases ho : opd ρ s <;> rw [ho] at h <;> try exact h
        rename_i r off len
        cases off with
        | succ m => exact h
        | zero =>
          change (match H.cellsAt r with
              | some (_, sz', es) => if sz = sz' ∧ len = es.length ∧ (len + v.length) * bytes ≤ 2 ^ 44 then
                  some (AVal.sl r 0 (len + v.length), [(r, Row.cells true sz (es ++ v))]) else none
              | none => none) = some _ at h
          change (match H'.cellsAt r with
              | some (_, sz', es) => if sz = sz' ∧ len = es.length ∧ (len + v.length) * bytes ≤ 2 ^ 44 then
                  some (AVal.sl r 0 (len + v.length), [(r, Row.cells true sz (es ++ v))]) else none
              | none => none) = some _
          cases hc : H.cellsAt r with
          | none => rw [hc] at h; cases h
          | some x => rw [hc] at h; rw [hl _ (by simp [adeps, vrows, ho]) _ hc]; exact h
  case store m a x =>
    simp only [aev] at h ⊢
    cases ho : opd ρ a <;> rw [ho] at h <;> try exact h
    rename_i r i off L
    dsimp only at h ⊢
    cases hc : H.cellsAt r with
    | none => rw [hc] at h; cases h
    | some x => rw [hc] at h; rw [hl _ (by simp [adeps, vrows, ho]) _ hc]; exact h
  case fieldAddr o x =>
    simp only [aev] at h ⊢
    cases ho : opd ρ x <;> rw [ho] at h <;> try exact h
    rename_i r i off L
    dsimp only at h ⊢
    cases hc : H.cellsAt r with
    | none => rw [hc] at h; cases h
    | some x => rw [hc] at h; rw [hl _ (by simp [adeps, vrows, ho]) _ hc]; exact h
  case indexAddr sz x i =>
    simp only [aev] at h ⊢
    cases hi : opd ρ i <;> rw [hi] at h <;> try exact h
    rename_i kk ii
    dsimp only at h ⊢
    split at h
    · cases h
    · rename_i hn
      rw [if_neg hn]
      cases ho : opd ρ x <;> rw [ho] at h <;> try exact h
      rename_i r off L
      dsimp only at h ⊢
      cases hc : H.cellsAt r with
      | none => rw [hc] at h; cases h
      | some x => rw [hc] at h; rw [hl _ (by simp [adeps, vrows, ho]) _ hc]; exact h
  case indexArr m sz x i =>
    simp only [aev] at h ⊢
    cases hi : opd ρ i <;> rw [hi] at h <;> try exact h
    rename_i kk ii
    dsimp only at h ⊢
    split at h
    · rename_i hn
      rw [if_pos hn]
      cases ho : opd ρ x <;> rw [ho] at h <;> try exact h
      rename_i r k off L
      dsimp only at h ⊢
      cases hc : H.cellsAt r with
      | none => rw [hc] at h; cases h
      | some x => rw [hc] at h; rw [hl _ (by simp [adeps, vrows, ho]) _ hc]; exact h
    · cases h
  case slice str sz x lo hi =>
    simp only [aev] at h ⊢
    cases hv : lenOfIn H (opd ρ x) with
    | none => rw [hv] at h; cases h
    | some v =>
      rw [lenOfIn_mono hl hv]; rw [hv] at h
      try dsimp only at h
      try dsimp only
      split at h
      · split at h
        · rename_i hn
          rw [if_pos hn]
          cases ho : opd ρ x <;> rw [ho] at h <;> try exact h
          rename_i r off L
          try dsimp only at h
          try dsimp only
          cases hc : H.cellsAt r with
          | none => rw [hc] at h; cases h
          | some x => rw [hc] at h; rw [hl _ (by simp [adeps, vrows, ho]) _ hc]; exact h
        · cases h
      · cases h

theorem aev_mono (hl : H.le H') {op : AOp} {ρ : List AVal} {n : Nat} {r : AVal × List (Nat × Row)} (h : aev op ρ H n = some r) : aev op ρ H' n = some r := aev_dep (fun r _ x hx => hl r x hx) h
end Go.Sx
