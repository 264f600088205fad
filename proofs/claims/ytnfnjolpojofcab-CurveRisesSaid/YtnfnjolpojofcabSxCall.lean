/- Calls, reckoned: over the rows that they reach, by names of their own. -/
import Derived.Test.YtnfnjolpojofcabSxVal
namespace Go.Sx
open Go

theorem puts_get : ∀ (Δ : List (Nat × Row)) (H : Heap) (r : Nat) (x : Row), (H.puts Δ)[r]? = some (some x) → (r, x) ∈ Δ ∨ (r ∉ Δ.map (·.1) ∧ H[r]? = some (some x))
  | [], H, r, x, h => .inr ⟨by simp, h⟩
  | (q, y) :: Δ, H, r, x, h => by
    simp only [Heap.puts] at h
    rcases puts_get Δ _ r x h with h1 | ⟨h1, h2⟩
    · exact .inl (List.mem_cons_of_mem _ h1)
    · by_cases hq : r = q
      · subst hq
        rw [Heap.put_same] at h2
        cases h2
        exact .inl (by simp)
      · rw [Heap.put_other H y hq] at h2
        refine .inr ⟨?_, h2⟩
        simp only [List.map_cons, List.mem_cons, not_or]
        exact ⟨hq, h1⟩

theorem dcall_of_fn {P : Program} {g : FuncId} {largs args : List AVal} {LH LH' Hm : Heap} {lv : AVal} (hf : Fn P g largs LH fun v H' => v = lv ∧ H' = LH') (ι : List Nat) (hn : ι.Nodup) (hlen : LH.length = ι.length) (hall : ∀ i, i < ι.length → ∃ x, LH[i]? = some (some x))
    (hargs : args = largs.map (ren (nth ι))) (hbel : ∀ v ∈ largs, Bel (· < ι.length) v)
    (hrows : ∀ (i : Nat) x, LH[i]? = some (some x) → Hm[nth ι i]? = some (some (x.ren (nth ι))) ∧ x.bel (· < ι.length))
    (σ : Nat → Nat) (S : Nat → Prop) (Δ : List (Nat × Row)) (fs : List Nat) (hold : ∀ i, i < ι.length → S i ∧ σ i = nth ι i) (hnew : ∀ i, S i → i < ι.length ∨ σ i ∈ fs) (hinj : ∀ i j, S i → S j → σ i = σ j → i = j) (hval : Bel S lv)
    (hΔ : ∀ r x, (r, x) ∈ Δ → ∃ i y, S i ∧ σ i = r ∧ LH'[i]? = some (some y) ∧ x = y.ren σ ∧ y.bel S)
    (hun : ∀ i, S i → σ i ∉ Δ.map (·.1) → ∃ y, LH'[i]? = some (some y) ∧ y.bel S ∧ Hm[σ i]? = some (some (y.ren σ))) (hfs : ∀ r ∈ fs, r ∈ Δ.map (·.1)) : DCall P g args Hm ⟨ren σ lv, Δ, fs⟩ := by
  refine ⟨(hf ⟨fun _ => False, fun _ => False, default⟩).1, fun G H μ cargs w hsub hfree hl hv hH => ?_⟩
  refine (call_local (R' := fun v H'' => v = ren σ lv ∧ H'' = H.puts Δ) (Fr := fun _ r => r ∈ fs) hf hn hlen hall hargs hbel (fun i x hx => ⟨hsub _ _ (hrows i x hx).1, (hrows i x hx).2⟩) ?_ hl hv hH (fun _ r hr => hfree r hr)).mono ?_
  · rintro v LH'' ⟨rfl, rfl⟩
    refine ⟨σ, S, H.puts Δ, ⟨hold, hnew, hinj, hval, fun r x hx => ?_⟩, rfl, rfl⟩
    rcases puts_get Δ H r x hx with h1 | ⟨h1, h2⟩
    · exact .inl (hΔ r x h1)
    · by_cases h : ∃ i, S i ∧ σ i = r
      · obtain ⟨i, hi, rfl⟩ := h
        obtain ⟨y, k1, k2, k3⟩ := hun i hi h1
        have := hsub _ _ k3
        rw [h2] at this; cases this
        exact .inl ⟨i, y, hi, rfl, k1, rfl, k2⟩
      · exact .inr ⟨fun i h1 h2 => h ⟨i, h1, h2⟩, h2⟩
  · rintro e w' ⟨v', cv, μ', H'', rfl, ⟨rfl, rfl⟩, h1, h2, h3, h4⟩
    exact ⟨cv, μ', rfl, h1, h2, h3, fun r hr => (h4 r hr).imp id fun h => ⟨h, Heap.puts_lt (hfs r h)⟩⟩

/-! ### The reckoning -/

def rowAt (H : Heap) (r : Nat) : List Nat :=
  match H[r]? with
  | some (some x) => x.rows
  | _ => []

/-- The rows that are reached. -/
def reach (H : Heap) : Nat → List Nat → List Nat → List Nat
  | 0, _, seen => seen
  | _ + 1, [], seen => seen
  | n + 1, r :: todo, seen => if seen.contains r = true then reach H n todo seen else reach H n (rowAt H r ++ todo) (seen ++ [r])

def nodupB : List Nat → Bool
  | [] => true
  | r :: rs => !rs.contains r && nodupB rs

theorem nodupB_spec : ∀ {l : List Nat}, nodupB l = true → l.Nodup
  | [], _ => List.nodup_nil
  | r :: rs, h => by
    simp only [nodupB, Bool.and_eq_true, Bool.not_eq_true', List.contains_eq_mem, decide_eq_false_iff_not] at h
    exact List.nodup_cons.2 ⟨h.1, nodupB_spec h.2⟩

def posN (ι : List Nat) (r : Nat) : Nat := ι.idxOf r

theorem nth_pos {ι : List Nat} {r : Nat} (h : r ∈ ι) : posN ι r < ι.length ∧ nth ι (posN ι r) = r := by
  have h1 : ι.idxOf r < ι.length := List.idxOf_lt_length_of_mem h
  refine ⟨h1, ?_⟩
  unfold nth posN
  rw [List.getD_eq_getElem?_getD, List.getElem?_eq_getElem h1]
  simp

theorem pos_nth {ι : List Nat} (hn : ι.Nodup) {i : Nat} (hi : i < ι.length) : posN ι (nth ι i) = i := by
  have h1 : nth ι i ∈ ι := by
    have : nth ι i = ι[i] := by simp [nth, hi]
    rw [this]; exact List.getElem_mem hi
  obtain ⟨h2, h3⟩ := nth_pos h1
  exact nth_inj hn h2 hi h3

/-- A row of a heap all of whose rows are known. -/
def okRow (H : Heap) (p : Nat → Bool) (r : Nat) : Bool :=
  match H[r]? with
  | some (some x) => x.allR p
  | _ => false

def locRow (H : Heap) (f : Nat → Nat) (r : Nat) : Option Row :=
  match H[r]? with
  | some (some x) => some (x.ren f)
  | _ => none

def outName (ι κ : List Nat) (N : Nat) (i : Nat) : Nat := if i < ι.length then nth ι i else N + posN κ i
def outKeep (k : Nat) (κ : List Nat) (i : Nat) : Bool := decide (i < k) || κ.contains i

def newRow (LH' : Heap) (σ : Nat → Nat) (i : Nat) : Option (Nat × Row) :=
  match LH'[i]? with
  | some (some y) => some (σ i, y.ren σ)
  | _ => none

def oldRow (LH LH' : Heap) (σ : Nat → Nat) (i : Nat) : Option (Nat × Row) :=
  match LH'[i]?, LH[i]? with
  | some (some y), some (some x) => if x.same y = true then none else some (σ i, y.ren σ)
  | _, _ => none

/-- What a call hands back, by the caller's names. -/
def backOc (ι : List Nat) (N : Nat) (LH : Heap) (lv : AVal) (LH' : Heap) (κ : List Nat) : Option Oc :=
  if ((nodupB κ && (κ.all fun i => decide (ι.length ≤ i))) && (allR (outKeep ι.length κ) lv && ((List.range ι.length).all (okRow LH' (outKeep ι.length κ)) && κ.all (okRow LH' (outKeep ι.length κ))))) = true then
    some ⟨ren (outName ι κ N) lv, (List.range ι.length).filterMap (oldRow LH LH' (outName ι κ N)) ++ κ.filterMap (newRow LH' (outName ι κ N)), κ.map (outName ι κ N)⟩
  else none

def rowsOpt : Option Row → List Nat
  | some x => x.rows
  | none => []

def callLoc (call : FuncId → List AVal → Heap → Option (AVal × Heap)) (g : FuncId) (args : List AVal) (H : Heap) (ι : List Nat) : Option Oc :=
  if (nodupB ι && (allRs ι.contains args && ι.all (okRow H ι.contains))) = true then
    match call g (rens (posN ι) args) (ι.map (locRow H (posN ι))) with
    | none => none
    | some r => backOc ι H.length (ι.map (locRow H (posN ι))) r.1 r.2 ((reach r.2 10000 (rowsV r.1 ++ (r.2.take ι.length).flatMap rowsOpt) []).filter fun i => decide (ι.length ≤ i))
  else none

section
variable {P : Program} {call : FuncId → List AVal → Heap → Option (AVal × Heap)}

theorem okRow_spec {H : Heap} {p : Nat → Bool} {r : Nat} (h : okRow H p r = true) : ∃ x, H[r]? = some (some x) ∧ x.allR p = true := by
  unfold okRow at h
  split at h
  · rename_i x hx; exact ⟨x, hx, h⟩
  · cases h

theorem bel_mono_row {x : Row} {S S' : Nat → Prop} (h : x.bel S) (hs : ∀ r, S r → S' r) : x.bel S' := by
  cases x with
  | cells g sz es => exact fun i j hi hj => (h i j hi hj).mono hs
  | loop ρ ps asg body d st pend => exact ⟨hs _ h.1, fun t ht => (h.2 t ht).mono hs⟩
  | dfr => trivial
  | siter s pos => trivial

theorem Bel.push {S S' : Nat → Prop} {f : Nat → Nat} {v : AVal} (h : Bel S v) (hs : ∀ r, S r → S' (f r)) : Bel S' (ren f v) := by
  induction h with
  | any => exact .any
  | bool b => exact .bool b
  | int q n => exact .int q n
  | str l => exact .str l
  | ptr r i off L h => exact .ptr _ i off L (hs r h)
  | rptr e off _ ih => exact .rptr _ off fun j hj => by rw [acells_ren, rens_len] at hj; rw [acells_ren, rens_getD]; exact ih j hj
  | nilptr => exact .nilptr
  | sl r off len h => exact .sl _ off len (hs r h)
  | view es _ ih => exact .view _ fun i j hi hj => by rw [rens_len] at hi; rw [rens_getD, acells_ren, rens_len] at hj; rw [rens_getD, acells_ren, rens_getD]; exact ih i j hi hj
  | nilsl => exact .nilsl
  | fn f' a b _ _ iha ihb => exact .fn f' _ _ (fun i hi => by rw [rens_len] at hi; rw [rens_getD]; exact iha i hi) fun i hi => by rw [rens_len] at hi; rw [rens_getD]; exact ihb i hi
  | yfn r h => exact .yfn _ (hs r h)
  | nilfn => exact .nilfn
  | iface t v _ ih => exact .iface t _ ih
  | niliface => exact .niliface
  | agg cs _ ih => exact .agg _ fun i hi => by rw [rens_len] at hi; rw [rens_getD]; exact ih i hi
  | tup cs _ ih => exact .tup _ fun i hi => by rw [rens_len] at hi; rw [rens_getD]; exact ih i hi
  | mp r h => exact .mp _ (hs r h)
  | nilmap => exact .nilmap

theorem Row.bel_push {x : Row} {S S' : Nat → Prop} {f : Nat → Nat} (h : x.bel S) (hs : ∀ r, S r → S' (f r)) : (x.ren f).bel S' := by
  cases x with
  | cells g sz es => exact fun i j hi hj => by rw [rens_len] at hi; rw [rens_getD, acells_ren, rens_len] at hj; rw [rens_getD, acells_ren, rens_getD]; exact (h i j hi hj).push hs
  | loop ρ ps asg body d st pend => exact ⟨hs _ h.1, fun t ht => by rw [rens_len] at ht; rw [rens_getD]; exact (h.2 t ht).push hs⟩
  | dfr => trivial
  | siter s pos => trivial

theorem callLoc_sound (hcall : ∀ g args H v H', call g args H = some (v, H') → Fn P g args H fun v' H'' => v' = v ∧ H'' = H') {g : FuncId} {args : List AVal} {H : Heap} {ι : List Nat} {c : Oc} (h : callLoc call g args H ι = some c) :
    DCall P g args (H.onlyR ι) c ∧ ∀ r ∈ c.fs, H.length ≤ r ∧ r < (H.puts c.Δ).length := by
  unfold callLoc at h
  by_cases hchk : (nodupB ι && (allRs ι.contains args && ι.all (okRow H ι.contains))) = true
  case neg => rw [if_neg hchk] at h; cases h
  rw [if_pos hchk] at h
  simp only [Bool.and_eq_true] at hchk
  obtain ⟨hnd, hall, hrow⟩ := hchk
  have hn := nodupB_spec hnd
  cases hc : call g (rens (posN ι) args) (ι.map (locRow H (posN ι))) with
  | none => rw [hc] at h; cases h
  | some r =>
    rw [hc] at h
    obtain ⟨lv, LH'⟩ := r
    simp only at h
    generalize hκ : ((reach LH' 10000 (rowsV lv ++ (LH'.take ι.length).flatMap rowsOpt) []).filter fun i => decide (ι.length ≤ i)) = κ at h
    unfold backOc at h
    by_cases hchk2 : ((nodupB κ && (κ.all fun i => decide (ι.length ≤ i))) && (allR (outKeep ι.length κ) lv && ((List.range ι.length).all (okRow LH' (outKeep ι.length κ)) && κ.all (okRow LH' (outKeep ι.length κ))))) = true
    case neg => rw [if_neg hchk2] at h; cases h
    rw [if_pos hchk2] at h
    simp only [Bool.and_eq_true] at hchk2
    obtain ⟨⟨hκn, hκk⟩, hval, hro, hrn⟩ := hchk2
    have hκk' : ∀ i ∈ κ, ι.length ≤ i := fun i hi => by simpa using List.all_eq_true.1 hκk i hi
    simp only [Option.some.injEq] at h
    subst h
    have hmem : ∀ r, ι.contains r = true → r ∈ ι := fun r hr => by simpa using hr
    have hLHget : ∀ i, i < ι.length → ∃ x, H[nth ι i]? = some (some x) ∧ x.allR ι.contains = true ∧ (ι.map (locRow H (posN ι)))[i]? = some (some (x.ren (posN ι))) := by
      intro i hi
      have hm : nth ι i ∈ ι := by
        have : nth ι i = ι[i] := by simp [nth, hi]
        rw [this]; exact List.getElem_mem hi
      obtain ⟨x, hx, hx2⟩ := okRow_spec (List.all_eq_true.1 hrow _ hm)
      refine ⟨x, hx, hx2, ?_⟩
      have e : nth ι i = ι[i] := by simp [nth, hi]
      rw [List.getElem?_map, List.getElem?_eq_getElem hi, Option.map_some, ← e]
      simp only [locRow, hx]
    have hinp : ∀ r, ι.contains r = true → nth ι (posN ι r) = r := fun r hr => (nth_pos (hmem r hr)).2
    have hbelp : ∀ r, ι.contains r = true → posN ι r < ι.length := fun r hr => (nth_pos (hmem r hr)).1
    have hS1 : ∀ i, outKeep ι.length κ i = true → i < ι.length ∨ i ∈ κ := fun i hi => by simpa [outKeep] using hi
    have hσ0 : ∀ i, i < ι.length → outName ι κ H.length i = nth ι i := fun i hi => by simp [outName, hi]
    have hσ1 : ∀ i, i ∈ κ → outName ι κ H.length i = H.length + posN κ i := fun i hi => by simp [outName, Nat.not_lt.2 (hκk' i hi)]
    have hιH : ∀ i, i < ι.length → nth ι i < H.length := fun i hi => by
      obtain ⟨x, hx, _⟩ := hLHget i hi
      exact (List.getElem?_eq_some_iff.1 hx).1
    have hnewrow : ∀ i ∈ κ, ∃ y, LH'[i]? = some (some y) ∧ y.allR (outKeep ι.length κ) = true := fun i hi => okRow_spec (List.all_eq_true.1 hrn i hi)
    have holdrow : ∀ i, i < ι.length → ∃ y, LH'[i]? = some (some y) ∧ y.allR (outKeep ι.length κ) = true := fun i hi => okRow_spec (List.all_eq_true.1 hro i (List.mem_range.2 hi))
    have hfs : ∀ r ∈ κ.map (outName ι κ H.length), r ∈ ((List.range ι.length).filterMap (oldRow (ι.map (locRow H (posN ι))) LH' (outName ι κ H.length)) ++ κ.filterMap (newRow LH' (outName ι κ H.length))).map (·.1) := by
      intro r hr
      rw [List.mem_map] at hr
      obtain ⟨i, hi, rfl⟩ := hr
      obtain ⟨y, hy, _⟩ := hnewrow i hi
      rw [List.map_append, List.mem_append]
      right
      rw [List.mem_map]
      exact ⟨(outName ι κ H.length i, y.ren (outName ι κ H.length)), List.mem_filterMap.2 ⟨i, hi, by simp only [newRow, hy]⟩, rfl⟩
    refine ⟨dcall_of_fn (hcall g _ _ _ _ hc) ι hn (by simp) (fun i hi => ?_) ?_ (fun v hv => ?_) (fun i x hx => ?_) (outName ι κ H.length) (fun i => outKeep ι.length κ i = true) _ _
      (fun i hi => ⟨by simp [outKeep, hi], hσ0 i hi⟩) (fun i hi => ?_) (fun i j hi hj hij => ?_) (allR_bel lv hval) (fun r x hx => ?_) (fun i hi hni => ?_) hfs, fun r hr => ⟨?_, Heap.puts_lt (hfs r hr)⟩⟩
    · obtain ⟨x, _, _, hx⟩ := hLHget i hi; exact ⟨_, hx⟩
    · refine list_ext_getD (by simp [rens_len]) fun i hi => ?_
      rw [map_getD _ _ _ (by rw [rens_len]; exact hi), rens_getD]
      exact (ren_back hinp (allRs_bel args hall i hi)).symm
    · rw [List.mem_iff_getElem] at hv
      obtain ⟨i, hi, rfl⟩ := hv
      have hi' : i < args.length := by rwa [rens_len] at hi
      have := (allRs_bel args hall i hi').push (S' := (· < ι.length)) (f := posN ι) hbelp
      rw [← rens_getD, List.getD_eq_getElem?_getD, List.getElem?_eq_getElem hi] at this
      exact this
    · have hi : i < ι.length := by have := (List.getElem?_eq_some_iff.1 hx).1; simpa using this
      obtain ⟨y, h1, h2, h3⟩ := hLHget i hi
      rw [h3] at hx; cases hx
      have hm : nth ι i ∈ ι := by
        have : nth ι i = ι[i] := by simp [nth, hi]
        rw [this]; exact List.getElem_mem hi
      refine ⟨?_, ?_⟩
      · rw [onlyR_get, Row.ren_back hinp h2]; exact ⟨hm, h1⟩
      · exact Row.bel_push (Row.allR_bel h2) hbelp
    · rcases hS1 i hi with h1 | h1
      · exact .inl h1
      · exact .inr (List.mem_map.2 ⟨i, h1, rfl⟩)
    · rcases hS1 i hi with h1 | h1 <;> rcases hS1 j hj with h2 | h2
      · rw [hσ0 i h1, hσ0 j h2] at hij; exact nth_inj hn h1 h2 hij
      · rw [hσ0 i h1, hσ1 j h2] at hij; have := hιH i h1; omega
      · rw [hσ1 i h1, hσ0 j h2] at hij; have := hιH j h2; omega
      · rw [hσ1 i h1, hσ1 j h2] at hij
        have : posN κ i = posN κ j := by omega
        rw [← (nth_pos h1).2, ← (nth_pos h2).2, this]
    · rw [List.mem_append] at hx
      rcases hx with hx | hx
      · obtain ⟨i, hi, hx⟩ := List.mem_filterMap.1 hx
        have hi := List.mem_range.1 hi
        obtain ⟨y, hy, hy2⟩ := holdrow i hi
        unfold oldRow at hx
        rw [hy] at hx
        split at hx
        · rename_i y' x' e1 e2
          cases e1
          split at hx
          · cases hx
          · cases hx
            exact ⟨i, y, by simp [outKeep, hi], rfl, hy, rfl, Row.allR_bel hy2⟩
        · cases hx
      · obtain ⟨i, hi, hx⟩ := List.mem_filterMap.1 hx
        obtain ⟨y, hy, hy2⟩ := hnewrow i hi
        simp only [newRow, hy, Option.some.injEq, Prod.mk.injEq] at hx
        obtain ⟨rfl, rfl⟩ := hx
        exact ⟨i, y, by simp [outKeep, hi], rfl, hy, rfl, Row.allR_bel hy2⟩
    · rcases hS1 i hi with h1 | h1
      · obtain ⟨y, hy, hy2⟩ := holdrow i h1
        obtain ⟨x, hx, hx2, hx3⟩ := hLHget i h1
        refine ⟨y, hy, Row.allR_bel hy2, ?_⟩
        have hsame : (x.ren (posN ι)).same y = true := by
          cases hs : (x.ren (posN ι)).same y with
          | true => rfl
          | false =>
            exfalso
            refine hni ?_
            rw [List.map_append, List.mem_append]
            left
            rw [List.mem_map]
            refine ⟨(outName ι κ H.length i, y.ren (outName ι κ H.length)), List.mem_filterMap.2 ⟨i, List.mem_range.2 h1, ?_⟩, rfl⟩
            unfold oldRow
            rw [hy, hx3]
            simp only [hs, Bool.false_eq_true, if_false]
        have hxy := Row.same_eq hsame
        subst hxy
        rw [hσ0 i h1, onlyR_get]
        refine ⟨?_, ?_⟩
        · have : nth ι i = ι[i] := by simp [nth, h1]
          rw [this]; exact List.getElem_mem h1
        · rw [hx, Row.ren_back (fun r hr => ?_) hx2]
          rw [hσ0 _ (hbelp r hr)]; exact hinp r hr
      · exact absurd (hfs _ (List.mem_map.2 ⟨i, h1, rfl⟩)) hni
    · rw [List.mem_map] at hr
      obtain ⟨i, hi, rfl⟩ := hr
      rw [hσ1 i hi]; omega
end
end Go.Sx
