/- A part of the proof: the abstract semantics. -/
import Derived.Test.YtfkphdalofcfpaaDoorSxE
import Derived.Scope
set_option linter.unusedSimpArgs false
set_option linter.unusedVariables false
/- Calls, reckoned: over the rows that they reach, by names of their own. -/
namespace Go.Sx
open Go

theorem puts_get : ∀ (Δ : List (Nat × Row)) (H : Heap) (r : Nat) (x : Row), (H.puts Δ)[r]? = some (some x) → (r, x) ∈ Δ ∨ (r ∉ Δ.map (·.1) ∧ H[r]? = some (some x))
  | [], H, r, x, h => .inr ⟨by simp, h⟩
  | (q, y) :: Δ, H, r, x, h => by
    simp only [Heap.puts] at h
    rcases puts_get Δ _ r x h with h1 | ⟨h1, h2⟩
    · exact .inl (List.mem_cons_of_mem _ h1)
    · by_cases hq : r = q
      · subst hq
        rw [Heap.put_same] at h2
        cases h2
        exact .inl (by simp)
      · rw [Heap.put_other H y hq] at h2
        refine .inr ⟨?_, h2⟩
        simp only [List.map_cons, List.mem_cons, not_or]
        exact ⟨hq, h1⟩

theorem dcall_of_fn {P : Program} {g : FuncId} {largs args : List AVal} {LH LH' Hm : Heap} {lv : AVal} (hf : Fn P g largs LH fun v H' => v = lv ∧ H' = LH') (ι : List Nat) (hn : ι.Nodup) (hlen : LH.length = ι.length) (hall : ∀ i, i < ι.length → ∃ x, LH[i]? = some (some x))
    (hargs : args = largs.map (ren (nth ι))) (hbel : ∀ v ∈ largs, Bel (· < ι.length) v)
    (hrows : ∀ (i : Nat) x, LH[i]? = some (some x) → Hm[nth ι i]? = some (some (x.ren (nth ι))) ∧ x.bel (· < ι.length))
    (σ : Nat → Nat) (S : Nat → Prop) (Δ : List (Nat × Row)) (fs : List Nat) (hold : ∀ i, i < ι.length → S i ∧ σ i = nth ι i) (hnew : ∀ i, S i → i < ι.length ∨ σ i ∈ fs) (hinj : ∀ i j, S i → S j → σ i = σ j → i = j) (hval : Bel S lv)
    (hΔ : ∀ r x, (r, x) ∈ Δ → ∃ i y, S i ∧ σ i = r ∧ LH'[i]? = some (some y) ∧ x = y.ren σ ∧ y.bel S)
    (hun : ∀ i, S i → σ i ∉ Δ.map (·.1) → ∃ y, LH'[i]? = some (some y) ∧ y.bel S ∧ Hm[σ i]? = some (some (y.ren σ))) (hfs : ∀ r ∈ fs, r ∈ Δ.map (·.1)) : DCall P g args Hm ⟨ren σ lv, Δ, fs⟩ := by
  refine ⟨(hf ⟨fun _ => False, fun _ => False, default⟩).1, fun G H μ cargs w hsub hfree hl hv hH => ?_⟩
  refine (call_local (R' := fun v H'' => v = ren σ lv ∧ H'' = H.puts Δ) (Fr := fun _ r => r ∈ fs) hf hn hlen hall hargs hbel (fun i x hx => ⟨hsub _ _ (hrows i x hx).1, (hrows i x hx).2⟩) ?_ hl hv hH (fun _ r hr => hfree r hr)).mono ?_
  · rintro v LH'' ⟨rfl, rfl⟩
    refine ⟨σ, S, H.puts Δ, ⟨hold, hnew, hinj, hval, fun r x hx => ?_⟩, rfl, rfl⟩
    rcases puts_get Δ H r x hx with h1 | ⟨h1, h2⟩
    · exact .inl (hΔ r x h1)
    · by_cases h : ∃ i, S i ∧ σ i = r
      · obtain ⟨i, hi, rfl⟩ := h
        obtain ⟨y, k1, k2, k3⟩ := hun i hi h1
        have := hsub _ _ k3
        rw [h2] at this; cases this
        exact .inl ⟨i, y, hi, rfl, k1, rfl, k2⟩
      · exact .inr ⟨fun i h1 h2 => h ⟨i, h1, h2⟩, h2⟩
  · rintro e w' ⟨v', cv, μ', H'', rfl, ⟨rfl, rfl⟩, h1, h2, h3, h4⟩
    exact ⟨cv, μ', rfl, h1, h2, h3, fun r hr => (h4 r hr).imp id fun h => ⟨h, Heap.puts_lt (hfs r h)⟩⟩


def rowAt (H : Heap) (r : Nat) : List Nat :=
  match H[r]? with
  | some (some x) => x.rows
  | _ => []

def reach (H : Heap) : Nat → List Nat → List Nat → List Nat
  | 0, _, seen => seen
  | _ + 1, [], seen => seen
  | n + 1, r :: todo, seen => if seen.contains r = true then reach H n todo seen else reach H n (rowAt H r ++ todo) (seen ++ [r])

def nodupB : List Nat → Bool
  | [] => true
  | r :: rs => !rs.contains r && nodupB rs

theorem nodupB_spec : ∀ {l : List Nat}, nodupB l = true → l.Nodup
  | [], _ => List.nodup_nil
  | r :: rs, h => by
    simp only [nodupB, Bool.and_eq_true, Bool.not_eq_true', List.contains_eq_mem, decide_eq_false_iff_not] at h
    exact List.nodup_cons.2 ⟨h.1, nodupB_spec h.2⟩

def posN (ι : List Nat) (r : Nat) : Nat := ι.idxOf r

theorem nth_pos {ι : List Nat} {r : Nat} (h : r ∈ ι) : posN ι r < ι.length ∧ nth ι (posN ι r) = r := by
  have h1 : ι.idxOf r < ι.length := List.idxOf_lt_length_of_mem h
  refine ⟨h1, ?_⟩
  unfold nth posN
  rw [List.getD_eq_getElem?_getD, List.getElem?_eq_getElem h1]
  simp

theorem pos_nth {ι : List Nat} (hn : ι.Nodup) {i : Nat} (hi : i < ι.length) : posN ι (nth ι i) = i := by
  have h1 : nth ι i ∈ ι := by
    have : nth ι i = ι[i] := by simp [nth, hi]
    rw [this]; exact List.getElem_mem hi
  obtain ⟨h2, h3⟩ := nth_pos h1
  exact nth_inj hn h2 hi h3

def okRow (H : Heap) (p : Nat → Bool) (r : Nat) : Bool :=
  match H[r]? with
  | some (some x) => x.allR p
  | _ => false

def locRow (H : Heap) (f : Nat → Nat) (r : Nat) : Option Row :=
  match H[r]? with
  | some (some x) => some (x.ren f)
  | _ => none

def outName (ι κ : List Nat) (N : Nat) (i : Nat) : Nat := if i < ι.length then nth ι i else N + posN κ i
def outKeep (k : Nat) (κ : List Nat) (i : Nat) : Bool := decide (i < k) || κ.contains i

def newRow (LH' : Heap) (σ : Nat → Nat) (i : Nat) : Option (Nat × Row) :=
  match LH'[i]? with
  | some (some y) => some (σ i, y.ren σ)
  | _ => none

def oldRow (LH LH' : Heap) (σ : Nat → Nat) (i : Nat) : Option (Nat × Row) :=
  match LH'[i]?, LH[i]? with
  | some (some y), some (some x) => if x.same y = true then none else some (σ i, y.ren σ)
  | _, _ => none

def backOc (ι : List Nat) (N : Nat) (LH : Heap) (lv : AVal) (LH' : Heap) (κ : List Nat) : Option Oc :=
  if ((nodupB κ && (κ.all fun i => decide (ι.length ≤ i))) && (allR (outKeep ι.length κ) lv && ((List.range ι.length).all (okRow LH' (outKeep ι.length κ)) && κ.all (okRow LH' (outKeep ι.length κ))))) = true then
    some ⟨ren (outName ι κ N) lv, (List.range ι.length).filterMap (oldRow LH LH' (outName ι κ N)) ++ κ.filterMap (newRow LH' (outName ι κ N)), κ.map (outName ι κ N)⟩
  else none

def rowsOpt : Option Row → List Nat
  | some x => x.rows
  | none => []

def callLoc (call : FuncId → List AVal → Heap → Option (AVal × Heap)) (g : FuncId) (args : List AVal) (H : Heap) (ι : List Nat) : Option Oc :=
  if (nodupB ι && (allRs ι.contains args && ι.all (okRow H ι.contains))) = true then
    match call g (rens (posN ι) args) (ι.map (locRow H (posN ι))) with
    | none => none
    | some r => backOc ι H.length (ι.map (locRow H (posN ι))) r.1 r.2 ((reach r.2 10000 (rowsV r.1 ++ (r.2.take ι.length).flatMap rowsOpt) []).filter fun i => decide (ι.length ≤ i))
  else none

section
variable {P : Program} {call : FuncId → List AVal → Heap → Option (AVal × Heap)}

theorem okRow_spec {H : Heap} {p : Nat → Bool} {r : Nat} (h : okRow H p r = true) : ∃ x, H[r]? = some (some x) ∧ x.allR p = true := by
  unfold okRow at h
  split at h
  · rename_i x hx; exact ⟨x, hx, h⟩
  · cases h

theorem bel_mono_row {x : Row} {S S' : Nat → Prop} (h : x.bel S) (hs : ∀ r, S r → S' r) : x.bel S' := by
  cases x with
  | cells g sz es => exact fun i j hi hj => (h i j hi hj).mono hs
  | loop ρ ps asg body d st pend => exact ⟨hs _ h.1, fun t ht => (h.2 t ht).mono hs⟩
  | dfr => trivial
  | siter s pos => trivial
  | mapr kk ks vs => exact fun i hi => (h i hi).mono hs
  | dead => trivial

theorem Bel.push {S S' : Nat → Prop} {f : Nat → Nat} {v : AVal} (h : Bel S v) (hs : ∀ r, S r → S' (f r)) : Bel S' (ren f v) := by
  induction h with
  | any => exact .any
  | bool b => exact .bool b
  | int q n => exact .int q n
  | str l => exact .str l
  | ptr r i off L h => exact .ptr _ i off L (hs r h)
  | rptr e off _ ih => exact .rptr _ off fun j hj => by rw [acells_ren, rens_len] at hj; rw [acells_ren, rens_getD]; exact ih j hj
  | nilptr => exact .nilptr
  | sl r off len h => exact .sl _ off len (hs r h)
  | view es _ ih => exact .view _ fun i j hi hj => by rw [rens_len] at hi; rw [rens_getD, acells_ren, rens_len] at hj; rw [rens_getD, acells_ren, rens_getD]; exact ih i j hi hj
  | nilsl => exact .nilsl
  | fn f' a b _ _ iha ihb => exact .fn f' _ _ (fun i hi => by rw [rens_len] at hi; rw [rens_getD]; exact iha i hi) fun i hi => by rw [rens_len] at hi; rw [rens_getD]; exact ihb i hi
  | yfn r h => exact .yfn _ (hs r h)
  | nilfn => exact .nilfn
  | iface t v _ ih => exact .iface t _ ih
  | niliface => exact .niliface
  | agg cs _ ih => exact .agg _ fun i hi => by rw [rens_len] at hi; rw [rens_getD]; exact ih i hi
  | tup cs _ ih => exact .tup _ fun i hi => by rw [rens_len] at hi; rw [rens_getD]; exact ih i hi
  | mp r h => exact .mp _ (hs r h)
  | nilmap => exact .nilmap

theorem Row.bel_push {x : Row} {S S' : Nat → Prop} {f : Nat → Nat} (h : x.bel S) (hs : ∀ r, S r → S' (f r)) : (x.ren f).bel S' := by
  cases x with
  | cells g sz es => exact fun i j hi hj => by rw [rens_len] at hi; rw [rens_getD, acells_ren, rens_len] at hj; rw [rens_getD, acells_ren, rens_getD]; exact (h i j hi hj).push hs
  | loop ρ ps asg body d st pend => exact ⟨hs _ h.1, fun t ht => by rw [rens_len] at ht; rw [rens_getD]; exact (h.2 t ht).push hs⟩
  | dfr => trivial
  | siter s pos => trivial
  | mapr kk ks vs => exact fun i hi => by rw [rens_len] at hi; rw [rens_getD]; exact (h i hi).push hs
  | dead => trivial

theorem callLoc_sound (hcall : ∀ g args H v H', call g args H = some (v, H') → Fn P g args H fun v' H'' => v' = v ∧ H'' = H') {g : FuncId} {args : List AVal} {H : Heap} {ι : List Nat} {c : Oc} (h : callLoc call g args H ι = some c) :
    DCall P g args (H.onlyR ι) c ∧ ∀ r ∈ c.fs, H.length ≤ r ∧ r < (H.puts c.Δ).length := by
  unfold callLoc at h
  by_cases hchk : (nodupB ι && (allRs ι.contains args && ι.all (okRow H ι.contains))) = true
  case neg => rw [if_neg hchk] at h; cases h
  rw [if_pos hchk] at h
  simp only [Bool.and_eq_true] at hchk
  obtain ⟨hnd, hall, hrow⟩ := hchk
  have hn := nodupB_spec hnd
  cases hc : call g (rens (posN ι) args) (ι.map (locRow H (posN ι))) with
  | none => rw [hc] at h; cases h
  | some r =>
    rw [hc] at h
    obtain ⟨lv, LH'⟩ := r
    simp only at h
    generalize hκ : ((reach LH' 10000 (rowsV lv ++ (LH'.take ι.length).flatMap rowsOpt) []).filter fun i => decide (ι.length ≤ i)) = κ at h
    unfold backOc at h
    by_cases hchk2 : ((nodupB κ && (κ.all fun i => decide (ι.length ≤ i))) && (allR (outKeep ι.length κ) lv && ((List.range ι.length).all (okRow LH' (outKeep ι.length κ)) && κ.all (okRow LH' (outKeep ι.length κ))))) = true
    case neg => rw [if_neg hchk2] at h; cases h
    rw [if_pos hchk2] at h
    simp only [Bool.and_eq_true] at hchk2
    obtain ⟨⟨hκn, hκk⟩, hval, hro, hrn⟩ := hchk2
    have hκk' : ∀ i ∈ κ, ι.length ≤ i := fun i hi => by simpa using List.all_eq_true.1 hκk i hi
    simp only [Option.some.injEq] at h
    subst h
    have hmem : ∀ r, ι.contains r = true → r ∈ ι := fun r hr => by simpa using hr
    have hLHget : ∀ i, i < ι.length → ∃ x, H[nth ι i]? = some (some x) ∧ x.allR ι.contains = true ∧ (ι.map (locRow H (posN ι)))[i]? = some (some (x.ren (posN ι))) := by
      intro i hi
      have hm : nth ι i ∈ ι := by
        have : nth ι i = ι[i] := by simp [nth, hi]
        rw [this]; exact List.getElem_mem hi
      obtain ⟨x, hx, hx2⟩ := okRow_spec (List.all_eq_true.1 hrow _ hm)
      refine ⟨x, hx, hx2, ?_⟩
      have e : nth ι i = ι[i] := by simp [nth, hi]
      rw [List.getElem?_map, List.getElem?_eq_getElem hi, Option.map_some, ← e]
      simp only [locRow, hx]
    have hinp : ∀ r, ι.contains r = true → nth ι (posN ι r) = r := fun r hr => (nth_pos (hmem r hr)).2
    have hbelp : ∀ r, ι.contains r = true → posN ι r < ι.length := fun r hr => (nth_pos (hmem r hr)).1
    have hS1 : ∀ i, outKeep ι.length κ i = true → i < ι.length ∨ i ∈ κ := fun i hi => by simpa [outKeep] using hi
    have hσ0 : ∀ i, i < ι.length → outName ι κ H.length i = nth ι i := fun i hi => by simp [outName, hi]
    have hσ1 : ∀ i, i ∈ κ → outName ι κ H.length i = H.length + posN κ i := fun i hi => by simp [outName, Nat.not_lt.2 (hκk' i hi)]
    have hιH : ∀ i, i < ι.length → nth ι i < H.length := fun i hi => by
      obtain ⟨x, hx, _⟩ := hLHget i hi
      exact (List.getElem?_eq_some_iff.1 hx).1
    have hnewrow : ∀ i ∈ κ, ∃ y, LH'[i]? = some (some y) ∧ y.allR (outKeep ι.length κ) = true := fun i hi => okRow_spec (List.all_eq_true.1 hrn i hi)
    have holdrow : ∀ i, i < ι.length → ∃ y, LH'[i]? = some (some y) ∧ y.allR (outKeep ι.length κ) = true := fun i hi => okRow_spec (List.all_eq_true.1 hro i (List.mem_range.2 hi))
    have hfs : ∀ r ∈ κ.map (outName ι κ H.length), r ∈ ((List.range ι.length).filterMap (oldRow (ι.map (locRow H (posN ι))) LH' (outName ι κ H.length)) ++ κ.filterMap (newRow LH' (outName ι κ H.length))).map (·.1) := by
      intro r hr
      rw [List.mem_map] at hr
      obtain ⟨i, hi, rfl⟩ := hr
      obtain ⟨y, hy, _⟩ := hnewrow i hi
      rw [List.map_append, List.mem_append]
      right
      rw [List.mem_map]
      exact ⟨(outName ι κ H.length i, y.ren (outName ι κ H.length)), List.mem_filterMap.2 ⟨i, hi, by simp only [newRow, hy]⟩, rfl⟩
    refine ⟨dcall_of_fn (hcall g _ _ _ _ hc) ι hn (by simp) (fun i hi => ?_) ?_ (fun v hv => ?_) (fun i x hx => ?_) (outName ι κ H.length) (fun i => outKeep ι.length κ i = true) _ _
      (fun i hi => ⟨by simp [outKeep, hi], hσ0 i hi⟩) (fun i hi => ?_) (fun i j hi hj hij => ?_) (allR_bel lv hval) (fun r x hx => ?_) (fun i hi hni => ?_) hfs, fun r hr => ⟨?_, Heap.puts_lt (hfs r hr)⟩⟩
    · obtain ⟨x, _, _, hx⟩ := hLHget i hi; exact ⟨_, hx⟩
    · refine list_ext_getD (by simp [rens_len]) fun i hi => ?_
      rw [map_getD _ _ _ (by rw [rens_len]; exact hi), rens_getD]
      exact (ren_back hinp (allRs_bel args hall i hi)).symm
    · rw [List.mem_iff_getElem] at hv
      obtain ⟨i, hi, rfl⟩ := hv
      have hi' : i < args.length := by rwa [rens_len] at hi
      have := (allRs_bel args hall i hi').push (S' := (· < ι.length)) (f := posN ι) hbelp
      rw [← rens_getD, List.getD_eq_getElem?_getD, List.getElem?_eq_getElem hi] at this
      exact this
    · have hi : i < ι.length := by have := (List.getElem?_eq_some_iff.1 hx).1; simpa using this
      obtain ⟨y, h1, h2, h3⟩ := hLHget i hi
      rw [h3] at hx; cases hx
      have hm : nth ι i ∈ ι := by
        have : nth ι i = ι[i] := by simp [nth, hi]
        rw [this]; exact List.getElem_mem hi
      refine ⟨?_, ?_⟩
      · rw [onlyR_get, Row.ren_back hinp h2]; exact ⟨hm, h1⟩
      · exact Row.bel_push (Row.allR_bel h2) hbelp
    · rcases hS1 i hi with h1 | h1
      · exact .inl h1
      · exact .inr (List.mem_map.2 ⟨i, h1, rfl⟩)
    · rcases hS1 i hi with h1 | h1 <;> rcases hS1 j hj with h2 | h2
      · rw [hσ0 i h1, hσ0 j h2] at hij; exact nth_inj hn h1 h2 hij
      · rw [hσ0 i h1, hσ1 j h2] at hij; have := hιH i h1; omega
      · rw [hσ1 i h1, hσ0 j h2] at hij; have := hιH j h2; omega
      · rw [hσ1 i h1, hσ1 j h2] at hij
        have : posN κ i = posN κ j := by omega
        rw [← (nth_pos h1).2, ← (nth_pos h2).2, this]
    · rw [List.mem_append] at hx
      rcases hx with hx | hx
      · obtain ⟨i, hi, hx⟩ := List.mem_filterMap.1 hx
        have hi := List.mem_range.1 hi
        obtain ⟨y, hy, hy2⟩ := holdrow i hi
        unfold oldRow at hx
        rw [hy] at hx
        split at hx
        · rename_i y' x' e1 e2
          cases e1
          split at hx
          · cases hx
          · cases hx
            exact ⟨i, y, by simp [outKeep, hi], rfl, hy, rfl, Row.allR_bel hy2⟩
        · cases hx
      · obtain ⟨i, hi, hx⟩ := List.mem_filterMap.1 hx
        obtain ⟨y, hy, hy2⟩ := hnewrow i hi
        simp only [newRow, hy, Option.some.injEq, Prod.mk.injEq] at hx
        obtain ⟨rfl, rfl⟩ := hx
        exact ⟨i, y, by simp [outKeep, hi], rfl, hy, rfl, Row.allR_bel hy2⟩
    · rcases hS1 i hi with h1 | h1
      · obtain ⟨y, hy, hy2⟩ := holdrow i h1
        obtain ⟨x, hx, hx2, hx3⟩ := hLHget i h1
        refine ⟨y, hy, Row.allR_bel hy2, ?_⟩
        have hsame : (x.ren (posN ι)).same y = true := by
          cases hs : (x.ren (posN ι)).same y with
          | true => rfl
          | false =>
            exfalso
            refine hni ?_
            rw [List.map_append, List.mem_append]
            left
            rw [List.mem_map]
            refine ⟨(outName ι κ H.length i, y.ren (outName ι κ H.length)), List.mem_filterMap.2 ⟨i, List.mem_range.2 h1, ?_⟩, rfl⟩
            unfold oldRow
            rw [hy, hx3]
            simp only [hs, Bool.false_eq_true, if_false]
        have hxy := Row.same_eq hsame
        subst hxy
        rw [hσ0 i h1, onlyR_get]
        refine ⟨?_, ?_⟩
        · have : nth ι i = ι[i] := by simp [nth, h1]
          rw [this]; exact List.getElem_mem h1
        · rw [hx, Row.ren_back (fun r hr => ?_) hx2]
          rw [hσ0 _ (hbelp r hr)]; exact hinp r hr
      · exact absurd (hfs _ (List.mem_map.2 ⟨i, h1, rfl⟩)) hni
    · rw [List.mem_map] at hr
      obtain ⟨i, hi, rfl⟩ := hr
      rw [hσ1 i hi]; omega
end
end Go.Sx
/- Scopes of labels to which nothing jumps. -/
namespace Go.Sx
open Go
section
variable {P : Program} {F : Fence} {Q : Go.Exit → Act → World → Prop} {a : Act} {w : World}
theorem wpIn_scope {c : Code} (h : c.wpIn F 0 P (Exit.noGoto Q) a w) : (Code.scope c).wpIn F 0 P Q a w := by
  intro b k cs hro hb hr
  have s1 : step P (lone (b.atR a (.code (.scope c) :: k)) cs w) = .next (lone (b.atR a (.code c :: .inScope c :: k)) cs w) := step_lone_go (by simp [stepG, stepG.exec, Frame.atR])
  have h0 : (lone (b.atR a (.code (.scope c) :: k)) cs w).fenced P F := fenced_calm hb hr rfl
  obtain ⟨e, a₁, w₁, hq, harr⟩ := h b (.inScope c :: k) cs hro hb hr
  have s2 : step P (lone (b.atR a₁ (.inScope c :: k)) cs w₁) = .next (lone (b.atR a₁ k) cs w₁) := step_lone_go (by simp [stepG, stepG.exec, Frame.atR])
  cases e with
  | normal => exact ⟨.normal, a₁, w₁, hq, .head h0 s1 (StepsIn.trans harr (.one (fenced_calm hb hr rfl) s2))⟩
  | exit id' =>
    have hx : exitTo id' (.inScope c :: k) = exitTo id' k := by simp [exitTo]
    exact ⟨.exit id', a₁, w₁, hq, fun k' hk => .head h0 s1 (harr.1 k' (by rw [hx]; exact hk)),
      fun hr' hk => let ⟨k₁, h1, h2⟩ := harr.2 hr' (by rw [hx]; exact hk); ⟨k₁, h1, .head h0 s1 h2⟩⟩
  | goto l => exact hq.elim
  | ret => exact ⟨_, a₁, w₁, hq, .of_steps (.one h0 s1) harr⟩
  | panic ch => exact ⟨_, a₁, w₁, hq, .of_steps (.one h0 s1) harr⟩
  | outgrown => exact ⟨_, a₁, w₁, hq, .of_steps (.one h0 s1) harr⟩
end

def noGoto (Q : Exit → St → Prop) : Exit → St → Prop
  | .goto _, _ => False
  | e, s => Q e s

section
variable {P : Program} {G : Ctx} {k : Nat} {rd : Option Nat} {Q : Exit → St → Prop} {s : St}
theorem awp_scope {c : Code} (h : Awp P G k rd c (noGoto Q) s) : Awp P G k rd (.scope c) Q s :=
  fun μ ro a w h1 h2 => wpIn_scope (wpIn_mono (h μ ro a w h1 h2) fun e a w hp => by
    obtain ⟨μ', s', h3, h4, h5⟩ := hp
    cases e with
    | goto l => exact h3.elim
    | _ => exact ⟨μ', s', h3, h4, h5⟩)
theorem aw_scope {c : ACode} (h : AW P G k rd c (noGoto Q) s) : AW P G k rd (.scope c) Q s := fun code hc => by
  cases code <;> simp only [ccode] at hc <;> cases hc
  exact awp_scope (h _ rfl)
end
end Go.Sx
/- A slice of a row that has grown, shorter than the row: the row is let go, and what is left of it is a row of its own. -/
namespace Go.Sx
open Go

section
variable {P : Program} {G : Ctx} {k : Nat} {rd : Option Nat} {s : St} {ao : AOper} {K : St → Prop}

def cutB (ρ : List AVal) (d : Int) : Option AOpd → Option Int
  | none => some d
  | some l => intOf (opd ρ l)

def cutG (op : AOp) (ρ : List AVal) (H : Heap) (n : Nat) : Option (AVal × List (Nat × Row)) :=
  match op with
  | .slice false sz x lo hi =>
    match opd ρ x with
    | .sl r off len =>
      match H.cellsAt r with
      | some (true, sz', es) =>
        match cutB ρ 0 lo, cutB ρ len hi with
        | some l, some h => if 0 ≤ l ∧ l ≤ h ∧ h < len ∧ sz = sz' ∧ 0 < sz ∧ off + len = es.length then
            some (.sl n 0 (h.toNat - l.toNat), [(n, .cells true sz ((es.drop (off + l.toNat)).take (h.toNat - l.toNat))), (r, .dead)]) else none
        | _, _ => none
      | _ => none
    | _ => none
  | _ => none

theorem cop_slice {o : Oper} {sz : Nat} {x : AOpd} {lo hi : Option AOpd} (h2 : cop P o = .slice false sz x lo hi) : ∃ t e y l h, o.op = .slice t y l h none ∧ P.underlying t = some (.slice e) ∧ sizeT P e = some sz ∧ (copd P) y = x ∧ l.map (copd P) = lo ∧ h.map (copd P) = hi := by
  cases hop : o.op
  case slice t y l h mx =>
    simp only [cop, hop] at h2
    split at h2
    · simp at h2
    · rename_i e hu
      split at h2
      · rename_i n hn
        simp only [AOp.slice.injEq] at h2
        obtain ⟨_, rfl, h3, h4, h5⟩ := h2
        exact ⟨t, _, y, l, h, rfl, hu, hn, h3, h4, h5⟩
      · cases h2
    · split at h2 <;> cases h2
    · split at h2 <;> cases h2
    · cases h2
  case call c =>
    simp only [cop, hop] at h2
    split at h2
    · cases h2
    cases hcl : c.callee with
    | value x => simp only [hcl] at h2; split at h2 <;> cases h2
    | invoke x m => simp [hcl] at h2
    | builtin b =>
      simp only [hcl] at h2
      cases b <;> simp only [] at h2 <;> first
        | (cases h2; done)
        | (repeat' (first | (cases h2; done) | split at h2))
  case unOp op t x => cases op <;> simp [cop, hop] at h2
  case next x b => cases b <;> simp [cop, hop] at h2
  case binOp op t x y yt =>
    simp only [cop, hop, cbin] at h2
    repeat' (first | (cases h2; done) | split at h2)
  all_goals
    simp only [cop, hop] at h2
    repeat' (first | (cases h2; done) | split at h2)

theorem cut_sound {μ : Mu} {H : Heap} {n : Nat} {w : World} {ρ : List AVal} {a : Act} {v : AVal} {Δ : List (Nat × Row)} (hT : TR G μ ρ a.tmps) (hH : HR P G μ H w) (hn : μ n = none) (o : Oper) (h : cutG (cop P o) ρ H n = some (v, Δ)) : Step P G μ H n (execOp a.eval o) w v Δ := by
  unfold cutG at h
  split at h
  · rename_i sz x lo hi hcop
    obtain ⟨t, e, y, ly, hy, hop, hu, hsz, rfl, rfl, rfl⟩ := cop_slice hcop
    have hex : execOp a.eval o = (do pure (.value (← Instr.sliceAt t (a.eval y) (ly.map a.eval) (hy.map a.eval) none))) := by simp only [execOp, hop, Option.map_none]
    rw [hex]
    have hx := opd_sound hH.glob hT y
    split at h
    · rename_i r off len hr
      split at h
      · rename_i sz' es hc
        split at h
        · rename_i l hh hl hhi
          split at h
          · rename_i hcond
            obtain ⟨h0, h1, h2, rfl, hpos, hend⟩ := hcond
            simp only [Option.some.injEq, Prod.mk.injEq] at h
            obtain ⟨rfl, rfl⟩ := h
            have hlo' : BoundIs P ρ ly 0 l := by
              cases ly <;> simp [cutB, BoundIs] at hl ⊢
              · omega
              · exact hl
            have hhi' : BoundIs P ρ hy len hh := by
              cases hy <;> simp [cutB, BoundIs] at hhi ⊢
              · omega
              · exact hhi
            rw [hr] at hx
            obtain ⟨p, C, ty, h3, h4, h5, h6, h7, h8, h9, h10, h11⟩ := hH.own hc
            obtain ⟨p', h3', hvec, hL, hcv⟩ := hx.inv_sl
            rw [h3] at h3'; cases h3'
            obtain ⟨cap, hcs, hcap, hroom⟩ := hcv (live_of h8 h7 (.inr hend))
            have hbd := run_bounds (P := P) (w := w) hH.glob hT true len cap hlo' hhi' h0 h1 (by omega) hcap
            have hne : cap ≠ l.toNat := by omega
            have hrn : r ≠ n := fun e => by rw [e, hn] at h3; cases h3
            have hrl : r < H.length := (List.getElem?_eq_some_iff.1 (cellsAt_row hc)).1
            let q : Place := ⟨p.blk, p.off + (off + l.toNat) * sz, sz, hh.toNat - l.toNat, p.size, false, true⟩
            let μ' : Mu := fun i => if i = n then some q else μ i
            have hle : μ.le μ' := fun i p hi => ⟨p, by
              have : i ≠ n := fun e => by rw [e, hn] at hi; cases hi
              simp [μ', this, hi], .inl rfl⟩
            have hqn : μ' n = some q := by simp [μ']
            have hoth : ∀ i, i ≠ n → μ' i = μ i := fun i hi => by simp [μ', hi]
            have hlen : ((es.drop (off + l.toNat)).take (hh.toNat - l.toNat)).length = hh.toNat - l.toNat := by simp; omega
            have hget : ∀ i, i < hh.toNat - l.toNat → ((es.drop (off + l.toNat)).take (hh.toNat - l.toNat)).getD i .any = es.getD (off + l.toNat + i) .any := fun i hi => by
              simp only [List.getD_eq_getElem?_getD]
              rw [List.getElem?_take_of_lt hi, List.getElem?_drop]
            have hrow : RowIs P G μ' q w.heap (.cells true sz ((es.drop (off + l.toNat)).take (hh.toNat - l.toNat))) := by
              refine ⟨rfl, hlen.symm, fun _ => rfl, C, ty, h9, h10, fun i hi => ?_⟩
              rw [hlen] at hi
              rw [hget i hi]
              obtain ⟨k1, k2⟩ := h11 (off + l.toNat + i) (by omega)
              refine ⟨k1, fun j hj => ?_⟩
              obtain ⟨c, m1, m2⟩ := k2 j hj
              refine ⟨c, ?_, m2.mono hle⟩
              show C[p.off + (off + l.toNat) * sz + i * sz + j]? = some c
              rw [← m1]; congr 2; rw [Nat.add_mul (off + l.toNat) i]; omega
            -- the heap behind it
            have hgetD : ∀ i z, (H.puts [(n, Row.cells true sz ((es.drop (off + l.toNat)).take (hh.toNat - l.toNat))), (r, Row.dead)])[i]? = some (some z) → (i = r ∧ z = .dead) ∨ (i = n ∧ i ≠ r ∧ z = Row.cells true sz ((es.drop (off + l.toNat)).take (hh.toNat - l.toNat))) ∨ (i ≠ r ∧ i ≠ n ∧ H[i]? = some (some z)) := fun i z hz => by
              simp only [Heap.puts] at hz
              by_cases hir : i = r
              · subst hir
                rw [Heap.put_same] at hz; cases hz
                exact .inl ⟨rfl, rfl⟩
              · rw [Heap.put_other _ _ hir] at hz
                by_cases hin : i = n
                · subst hin
                  rw [Heap.put_same] at hz; cases hz
                  exact .inr (.inl ⟨rfl, hir, rfl⟩)
                · rw [Heap.put_other _ _ hin] at hz
                  exact .inr (.inr ⟨hir, hin, hz⟩)
            refine ⟨_, .slice (some ⟨p.blk, p.off + (off + l.toNat) * p.sz, none⟩) (hh.toNat - l.toNat) (cap - l.toNat), w, μ', ?_, .inl rfl, ?_, hle, ?_, fun i hi => ?_⟩
            · simp [Instr.sliceAt, Instr.slice, run_underlying hu, hcs, hbd, run_sizeT hsz, hne, add_at, h6, Nat.add_mul, Nat.add_assoc]
            · refine .sl _ _ _ q _ hqn rfl (by simp [q]) rfl fun _ => ⟨cap - l.toNat, by simp [q, h6], by omega, ?_⟩
              show p.off + (off + l.toNat) * sz + (0 + (cap - l.toNat)) * sz ≤ p.size
              have : (off + l.toNat) * sz + (0 + (cap - l.toNat)) * sz = (off + cap) * sz := by rw [← Nat.add_mul]; congr 1; omega
              rw [h6] at hroom; omega
            · constructor
              · intro i z hz hnd
                rcases hgetD i z hz with ⟨_, e⟩ | ⟨rfl, _, rfl⟩ | ⟨e1, e2, e3⟩
                · exact absurd e hnd
                · exact ⟨q, hqn, h4, h5, hrow⟩
                · obtain ⟨p2, k1, k2, k3, k4⟩ := hH.row i z e3 hnd
                  exact ⟨p2, by rw [hoth i e2]; exact k1, k2, k3, k4.mono hle rfl⟩
              · intro i j z z' p1 p2 hz hz' hp1 hp2 hij n1 n2
                rcases hgetD i z hz with ⟨_, e⟩ | ⟨rfl, _, _⟩ | ⟨e1, e2, e3⟩
                · exact absurd e n1
                · rcases hgetD j z' hz' with ⟨_, e⟩ | ⟨e, _, _⟩ | ⟨f1, f2, f3⟩
                  · exact absurd e n2
                  · exact absurd e.symm hij
                  · rw [hqn] at hp1; cases hp1
                    rw [hoth j f2] at hp2
                    exact hH.apart r j _ z' p p2 (cellsAt_row hc) f3 h3 hp2 (Ne.symm f1) nofun n2
                · rw [hoth i e2] at hp1
                  rcases hgetD j z' hz' with ⟨_, e⟩ | ⟨rfl, _, _⟩ | ⟨f1, f2, f3⟩
                  · exact absurd e n2
                  · rw [hqn] at hp2; cases hp2
                    exact hH.apart i r z _ p1 p e3 (cellsAt_row hc) hp1 h3 e1 n1 nofun
                  · rw [hoth j f2] at hp2
                    exact hH.apart i j z z' p1 p2 e3 f3 hp1 hp2 hij n1 n2
              · exact hH.kept
              · exact hH.ro
              · exact hH.calm
              · intro i hi
                rcases hgetD i _ hi with ⟨rfl, _⟩ | ⟨rfl, _, _⟩ | ⟨e1, e2, e3⟩
                · rw [hoth _ hrn, h3]; rfl
                · rw [hqn]; rfl
                · rw [hoth i e2]; exact hH.named i e3
              · exact hH.glob
            · by_cases e : i = n
              · right
                refine ⟨e, ?_⟩
                simp only [Heap.puts, Heap.len_put]; omega
              · left; rw [hoth i e] at hi; exact hi
          · cases h
        · cases h
      · cases h
    · cases h
  · cases h

theorem cut_dfr {op : AOp} {ρ : List AVal} {H : Heap} {n : Nat} {v : AVal} {Δ : List (Nat × Row)} (h : cutG op ρ H n = some (v, Δ)) (hn : H[n]? = none ∨ H[n]? = some none) {r : Nat} (hr : H[r]? = some (some .dfr)) : (H.puts Δ)[r]? = some (some .dfr) := by
  unfold cutG at h
  split at h
  · split at h
    · rename_i r' off len hr'
      split at h
      · rename_i sz' es hc
        split at h
        · split at h
          · simp only [Option.some.injEq, Prod.mk.injEq] at h
            obtain ⟨rfl, rfl⟩ := h
            have e1 : r ≠ r' := fun e => by rw [e, cellsAt_row hc] at hr; cases hr
            have e2 : r ≠ n := fun e => by rw [e] at hr; rcases hn with h | h <;> rw [h] at hr <;> cases hr
            simp only [Heap.puts]
            rw [Heap.put_other _ _ e1, Heap.put_other _ _ e2]; exact hr
          · cases h
        · cases h
      · cases h
    · cases h
  · cases h

theorem op_cut {v : AVal} {Δ : List (Nat × Row)} (hg : gval s.ρ ao.guard = some true) (he : cutG ao.op s.ρ s.H s.H.length = some (v, Δ)) (hK : K { s with ρ := setD s.ρ ao.dst v, H := s.H.puts Δ }) : OpA P G k rd ao s K := by
  intro ops draw i o Q hi hc μ ro a w hrd h
  have hnb : ao.op ≠ .bad := by rintro hb; rw [hb] at he; simp [cutG] at he
  obtain ⟨h1, h2, h3⟩ := coper_parts hc hnb
  have hw := wanted_of h.tr ops o h1 hg
  simp only [wpOpIn, hi, if_pos hw]
  rw [← h2] at he
  have hfresh : μ s.H.length = none := by
    cases hm : μ s.H.length with
    | none => rfl
    | some p => have := h.dom s.H.length (by rw [hm]; rfl); omega
  obtain ⟨x, cv, w', μ', hrun, hx, hv, hle, hH, hdom⟩ := cut_sound h.tr h.hr hfresh o he
  have hnd : ∀ c, o.op ≠ .defer c := by
    intro c hd
    simp [cop, hd, cutG] at he
  have hrow : ∀ r, s.H[r]? = some (some Row.dfr) → (s.H.puts Δ)[r]? = some (some Row.dfr) := fun r hr => cut_dfr he (.inl (by simp)) hr
  have hfin : NPost P G k μ K (a.put o.dst cv) w' := by
    refine ⟨μ', _, hK, Mu.leB_of hle, ?_⟩
    rw [← h3]
    refine ⟨(h.tr.mono hle).put hv _, hH, fun r hr => ?_, ?_, fun r hr => hrow r (h.mkr r hr)⟩
    · have hl := Heap.le_puts Δ s.H
      rcases hdom r hr with h5 | ⟨rfl, h5⟩
      · have := h.dom r h5; simp only; omega
      · exact h5
    · rw [put_defers, h.mk']; exact (h.same_marks hle).symm
  unfold Oper.wpIn
  refine ⟨fun _ _ => trivial, ?_⟩
  rw [Oper.semAt_eq _ _ _ hnd, hrun]
  rcases hx with rfl | ⟨rfl, rfl⟩
  · exact hfin
  · exact hfin
end
end Go.Sx
/- Code, reckoned by data alone. -/
namespace Go.Sx
open Go

inductive Tk where
  | code (c : ACode)
  | ops (l : List AOper)
  | segs (lo : Nat) (ss : List (List AOper))
  | grp (lo : Nat) (l : List AOper) (tr : List (List Nat × List Nat)) (hi : Nat) (ss : List (List AOper))

abbrev Caller := FuncId → List AVal → Heap → Option (AVal × Heap)
abbrev Walker := Option Nat → Tk → St → Option (Exit × St)

def isDfr (H : Heap) (q : Nat) : Bool :=
  match H[q]? with
  | some (some .dfr) => true
  | _ => false

def exEnd (r : Nat) (x : Exit × St) : Option (AVal × Heap) :=
  match x.2.H[r]? with
  | some (some (.loop ρ ps asg body d _ _)) =>
    match x.1 with
    | .normal => some (.bool true, x.2.H.put r (.loop ρ ps asg body d .ready none))
    | .ret => some (.bool false, x.2.H.put r (.loop ρ ps asg body d .done (some .ret)))
    | .exit id => some (.bool false, x.2.H.put r (.loop ρ ps asg body d .done (some (.exit id))))
    | .goto t => some (.bool false, x.2.H.put r (.loop ρ ps asg body d .done (some (.goto t))))
    | _ => none
  | _ => none

def exMid (w : Walker) (r : Nat) (body : ACode) (x : Exit × St) : Option (AVal × Heap) :=
  match x.1 with
  | .normal => match x.2.H[r]? with
    | some (some (.loop ρ ps asg body' d .ready pend)) => (w (some r) (.code body) ⟨x.2.ρ, x.2.H.put r (.loop ρ ps asg body' d .busy pend), x.2.ms⟩).bind (exEnd r)
    | _ => none
  | _ => none

def exRound (w : Walker) (r : Nat) (xs : List AVal) (H : Heap) : Option (AVal × Heap) :=
  match H[r]? with
  | some (some (.loop ρ ps asg body _ .ready _)) => if xs.length = ps.length then (w (some r) (.code asg) ⟨psets ρ ps xs, H, []⟩).bind (exMid w r body) else none
  | _ => none

def exLoc (call : Caller) (g : FuncId) (args : List AVal) (H : Heap) (ms : List Nat) : Option (List Nat × Oc) :=
  match callLoc call g args H (reach H 10000 (rowsVs args) []) with
  | some c => if (ms.all fun q => !c.rows.contains q) = true then some (reach H 10000 (rowsVs args) [], c) else none
  | none => none

def exCallOp (call : Caller) (w : Walker) (f : AVal) (xs : List AVal) (s : St) : Option (AVal × Heap) :=
  match f with
  | .fn (.func g) ys cs => (exLoc call g (ys ++ xs ++ cs) s.H s.ms).map fun p => (p.2.v, s.H.puts p.2.Δ)
  | .yfn r => (exRound w r xs s.H).bind fun p => if s.ms.all (isDfr p.2) = true then some p else none
  | _ => none

def exCallM (call : Caller) (tab : List (Nat × Nat)) (f : AVal) (xs : List AVal) (s : St) : Option (AVal × Heap) :=
  match f with
  | .iface t v => match tabAt tab t with
    | some g => (exLoc call g (v :: xs) s.H s.ms).map fun p => (p.2.v, s.H.puts p.2.Δ)
    | none => none
  | _ => none

def exOp (call : Caller) (w : Walker) (o : AOp) (s : St) : Option (AVal × Heap) :=
  match o with
  | .call f xs => exCallOp call w (opd s.ρ f) (xs.map (opd s.ρ)) s
  | .callM tab f xs => exCallM call tab (opd s.ρ f) (xs.map (opd s.ρ)) s
  | .slice b m x lo hi => match cutG (.slice b m x lo hi) s.ρ s.H s.H.length with
    | some r => some (r.1, s.H.puts r.2)
    | none => (aev (.slice b m x lo hi) s.ρ s.H s.H.length).map fun r => (r.1, s.H.puts r.2)
  | op => (aev op s.ρ s.H s.H.length).map fun r => (r.1, s.H.puts r.2)

def exOpG (call : Caller) (o : AOp) (s : St) : Option (List Nat × Oc) :=
  match o with
  | .call f xs => match opd s.ρ f with
    | .fn (.func g) ys cs => exLoc call g (ys ++ xs.map (opd s.ρ) ++ cs) s.H s.ms
    | _ => none
  | op => (aev op s.ρ s.H s.H.length).map fun r => (adeps op s.ρ, ⟨r.1, r.2, []⟩)

def exRngEnd (w : Walker) (rd : Option Nat) (l : Nat) (ρ : List AVal) (ms : List Nat) (H' : Heap) : Option (Exit × St) :=
  if ms.all (isDfr H') = true then
    match H'[l]? with
    | some (some (.loop _ _ _ _ _ st pend)) =>
      if st = .busy then none else
      match pend with
      | none => some (.normal, ⟨ρ, H'.set l none, ms⟩)
      | some c => w rd (.code c) ⟨ρ, H'.set l none, ms⟩
    | _ => none
  else none

def exRng (call : Caller) (w : Walker) (rd : Option Nat) (g : AVal) (ps : List Nat) (asg body : ACode) (s : St) : Option (Exit × St) :=
  match g with
  | .fn (.func f) fs cs =>
    match rd with
    | none => (exLoc call f (fs ++ [.yfn (s.H.length + 1)] ++ cs) (s.H ++ [some Row.dfr] ++ [some (Row.loop s.ρ ps asg body s.H.length .ready none)]) []).bind fun p =>
        exRngEnd w none (s.H.length + 1) s.ρ (s.H.length :: s.ms) ((s.H ++ [some Row.dfr] ++ [some (Row.loop s.ρ ps asg body s.H.length .ready none)]).puts p.2.Δ)
    | some r₀ => match s.H[r₀]? with
      | some (some (.loop _ _ _ _ d₀ _ _)) => (exLoc call f (fs ++ [.yfn s.H.length] ++ cs) (s.H ++ [some (Row.loop s.ρ ps asg body d₀ .ready none)]) []).bind fun p =>
          exRngEnd w (some r₀) s.H.length s.ρ s.ms ((s.H ++ [some (Row.loop s.ρ ps asg body d₀ .ready none)]).puts p.2.Δ)
      | _ => none
  | _ => none

def exSeq (w : Walker) (rd : Option Nat) (b : ACode) (x : Exit × St) : Option (Exit × St) :=
  match x.1 with
  | .normal => w rd (.code b) x.2
  | _ => some x

def exBlk (id : Nat) (x : Exit × St) : Exit × St :=
  match x.1 with
  | .exit j => if j = id then (.normal, x.2) else x
  | _ => x

def exCond (w : Walker) (rd : Option Nat) (v : AVal) (a b : ACode) (s : St) : Option (Exit × St) :=
  match v with
  | .bool true => w rd (.code a) s
  | .bool false => w rd (.code b) s
  | _ => none

def exScp (x : Exit × St) : Option (Exit × St) :=
  match x.1 with
  | .goto _ => none
  | _ => some x

def ex (call : Caller) : Nat → Walker
  | 0, _, _, _ => none
  | n + 1, rd, .code c, s =>
    match c with
    | .skip => some (.normal, s)
    | .reg l draw => if draw = true then (if statOK l = true then ex call n rd (.segs 0 (segs l)) s else none) else ex call n rd (.ops l) s
    | .seq a b => (ex call n rd (.code a) s).bind (exSeq (ex call n) rd b)
    | .cond c a b => exCond (ex call n) rd (opd s.ρ c) a b s
    | .block id c => (ex call n rd (.code c) s).map (exBlk id)
    | .loop c => (ex call n rd (.code c) s).bind (exSeq (ex call n) rd (.loop c))
    | .rng g ps asg body => exRng call (ex call n) rd (opd s.ρ g) ps asg body s
    | .exit id => some (.exit id, s)
    | .label _ => some (.normal, s)
    | .goto l => some (.goto l, s)
    | .ret => some (.ret, s)
    | .scope c => (ex call n rd (.code c) s).bind exScp
    | _ => none
  | n + 1, rd, .ops l, s =>
    match l with
    | [] => some (.normal, s)
    | ao :: l =>
      match gval s.ρ ao.guard with
      | none => none
      | some b => if b = true then (exOp call (ex call n) ao.op s).bind fun r => ex call n rd (.ops l) ⟨setD s.ρ ao.dst r.1, r.2, s.ms⟩
        else ex call n rd (.ops l) ⟨setD s.ρ ao.dst (.tup []), s.H, s.ms⟩
  | n + 1, rd, .segs lo ss, s =>
    match ss with
    | [] => some (.normal, s)
    | grp :: ss => match grp with
      | [ao] =>
        match gval s.ρ ao.guard with
        | none => none
        | some b => if b = true then (exOp call (ex call n) ao.op s).bind fun r => ex call n rd (.segs (lo + 1) ss) ⟨setD s.ρ ao.dst r.1, r.2, s.ms⟩
          else ex call n rd (.segs (lo + 1) ss) ⟨setD s.ρ ao.dst (.tup []), s.H, s.ms⟩
      | grp => ex call n rd (.grp lo grp [] (lo + grp.length) ss) s
  | n + 1, rd, .grp lo l tr hi ss, s =>
    match l with
    | [] => ex call n rd (.segs hi ss) s
    | ao :: l =>
      match gval s.ρ ao.guard with
      | none => none
      | some b => if b = true then (exOpG call ao.op s).bind fun p =>
            if dynOK ao.free p.1 (p.2.Δ.map (·.1)) tr lo = true then ex call n rd (.grp lo l (tr ++ [(p.1, p.2.Δ.map (·.1))]) hi ss) ⟨setD s.ρ ao.dst p.2.v, s.H.puts p.2.Δ, s.ms⟩ else none
        else ex call n rd (.grp lo l (tr ++ [([], [])]) hi ss) ⟨setD s.ρ ao.dst (.tup []), s.H, s.ms⟩

def retOf (res : List ARes) (x : Exit × St) : Option (AVal × Heap) :=
  if nodupB x.2.ms = true then
    match x.1 with
    | .normal | .ret => (resOf res { x.2 with H := freed x.2.H x.2.ms }).map fun v => (v, freed x.2.H x.2.ms)
    | _ => none
  else none

def exFn (tab : Nat → Option AFun) (m : Nat) : Nat → Caller
  | 0, _, _, _ => none
  | n + 1, g, args, H =>
    match tab g with
    | none => none
    | some af => (ex (exFn tab m n) m none (.code af.body) ⟨args ++ List.replicate (af.ntmps - args.length) .any, H, []⟩).bind (retOf af.res)


def CallerOK (P : Program) (call : Caller) : Prop := ∀ g args H v H', call g args H = some (v, H') → Fn P g args H fun v' H'' => v' = v ∧ H'' = H'

def Does (P : Program) (G : Ctx) (k : Nat) (rd : Option Nat) (s : St) (e : Exit) (s' : St) : Tk → Prop
  | .code c => AW P G k rd c (fun e1 s1 => e1 = e ∧ s1 = s') s ∧ ∀ c', c = .loop c' → AL P G k rd c' (fun e1 s1 => e1 = e ∧ s1 = s') s
  | .ops l => e = .normal ∧ Areg P G k rd l s (· = s')
  | .segs lo ss => e = .normal ∧ ASegs P G k rd lo ss s (· = s')
  | .grp lo l tr hi ss => e = .normal ∧ AGrp P lo l tr s fun s1 => ASegs P G k rd hi ss s1 (· = s')

def WalkerOK (P : Program) (w : Walker) : Prop := ∀ rd t s e s', w rd t s = some (e, s') → s.H.length ≤ s'.H.length ∧ ∀ G k, k ≤ s.H.length → Does P G k rd s e s' t

section
variable {P : Program} {call : Caller} {w : Walker}

theorem areg_mono {G : Ctx} {k : Nat} {rd : Option Nat} {K K' : St → Prop} (hK : ∀ s, K s → K' s) : ∀ (l : List AOper) (s : St), Areg P G k rd l s K → Areg P G k rd l s K'
  | [], s, h => hK s h
  | ao :: l, s, h => OpA.mono (fun s' hs' => areg_mono hK l s' hs') h

theorem asegs_mono {G : Ctx} {k : Nat} {rd : Option Nat} {K K' : St → Prop} (hK : ∀ s, K s → K' s) : ∀ (lo : Nat) (ss : List (List AOper)) (s : St), ASegs P G k rd lo ss s K → ASegs P G k rd lo ss s K'
  | lo, [], s, h => hK s h
  | lo, [] :: ss, s, h => asegs_mono hK lo ss s h
  | lo, [ao] :: ss, s, h => OpA.mono (fun s' hs' => asegs_mono hK (lo + 1) ss s' hs') h
  | lo, (a :: b :: grp) :: ss, s, h => AGrp.mono (fun s' hs' => asegs_mono hK _ ss s' hs') _ _ _ h

theorem isDfr_spec {H : Heap} {q : Nat} (h : isDfr H q = true) : H[q]? = some (some .dfr) := by
  unfold isDfr at h
  split at h
  · assumption
  · cases h

theorem DCall.callW {G : Ctx} {g : FuncId} {args : List AVal} {H : Heap} {c : Oc} (h : DCall P g args H c) (hfs : ∀ r ∈ c.fs, H.length ≤ r) : CallW P G g args H fun v H' => v = c.v ∧ H' = H.puts c.Δ := by
  refine ⟨h.1, fun μ cargs w h1 h2 h3 h4 => (h.2 G H μ cargs w (fun _ _ h => h) (fun r hr => ?_) h1 h2 h3).mono ?_⟩
  · cases hq : μ r with
    | none => rfl
    | some p => have := h4 r (by rw [hq]; rfl); have := hfs r hr; omega
  · rintro e w' ⟨cv, μ', rfl, k1, k2, k3, k4⟩
    refine ⟨c.v, cv, μ', _, rfl, ⟨rfl, rfl⟩, k1, k2, fun r hr => ?_, Mu.leB_of k3⟩
    rcases k4 r hr with h | h
    · have := h4 r h; have := Heap.le_puts c.Δ H; omega
    · exact h.2

theorem exLoc_sound (hcall : CallerOK P call) {g : FuncId} {args : List AVal} {H : Heap} {ms deps : List Nat} {c : Oc} (h : exLoc call g args H ms = some (deps, c)) :
    DCall P g args (H.onlyR deps) c ∧ (∀ r ∈ c.fs, H.length ≤ r ∧ r < (H.puts c.Δ).length) ∧ ∀ q ∈ ms, q ∉ c.rows := by
  unfold exLoc at h
  split at h
  · rename_i c' hc
    split at h
    · rename_i hm
      cases h
      obtain ⟨h1, h2⟩ := callLoc_sound hcall hc
      refine ⟨h1, h2, fun q hq => ?_⟩
      have := List.all_eq_true.1 hm q hq
      simpa using this
    · cases h
  · cases h

theorem onlyR_sub (H : Heap) (l : List Nat) : (H.onlyR l).sub H := fun r x h => ((onlyR_get H l r x).1 h).2

theorem exRound_sound (hw : WalkerOK P w) {G : Ctx} {k : Nat} {rd : Option Nat} {s : St} {ao : AOper} {f : AOpd} {xs : List AOpd} {r : Nat} {v : AVal} {H' : Heap} (hg : gval s.ρ ao.guard = some true) (ho : ao.op = .call f xs) (hf : opd s.ρ f = .yfn r)
    (h : exRound w r (xs.map (opd s.ρ)) s.H = some (v, H')) (hk : k ≤ s.H.length) (hms : s.ms.all (isDfr H') = true) : s.H.length ≤ H'.length ∧ ∀ K : St → Prop, K ⟨setD s.ρ ao.dst v, H', s.ms⟩ → OpA P G k rd ao s K := by
  unfold exRound at h
  split at h
  · rename_i ρr ps asg body d pend hr
    split at h
    · rename_i hn
      rw [Option.bind_eq_some_iff] at h
      obtain ⟨⟨e1, s1⟩, h1, h2⟩ := h
      obtain ⟨hl1, hd1⟩ := hw _ _ _ _ _ h1
      unfold exMid at h2
      simp only at h2
      split at h2
      · split at h2
        · rename_i ρ1 ps1 asg1 body1 d1 pend1 hr1
          rw [Option.bind_eq_some_iff] at h2
          obtain ⟨⟨e2, s2⟩, h3, h4⟩ := h2
          obtain ⟨hl2, hd2⟩ := hw _ _ _ _ _ h3
          have hlen : s.H.length ≤ (s1.H.put r (.loop ρ1 ps1 asg1 body1 d1 .busy pend1)).length := by rw [Heap.len_put]; simp only at hl1; omega
          have hend : RoundEnd r (fun v' H'' => v' = v ∧ H'' = H') e2 s2 ∧ s2.H.length ≤ H'.length := by
            unfold exEnd at h4
            simp only at h4
            split at h4
            · rename_i ρ2 ps2 asg2 body2 d2 st2 pend2 hr2
              have hput : ∀ x, s2.H.length ≤ (s2.H.put r x).length := fun x => by rw [Heap.len_put]; omega
              split at h4 <;> first
                | (cases h4; done)
                | (simp only [Option.some.injEq, Prod.mk.injEq] at h4
                   obtain ⟨rfl, rfl⟩ := h4
                   exact ⟨⟨ρ2, ps2, asg2, body2, d2, st2, pend2, hr2, rfl, rfl⟩, hput _⟩)
            · cases h4
          refine ⟨by simp only at hl1 hl2; omega, fun K hK => ?_⟩
          refine op_round hg ho hf hr (by simpa using hn) (R := fun v' H'' => v' = v ∧ H'' = H') ?_ hk ?_
          · refine (hd1 G s.H.length (by simp)).1.mono ?_
            rintro _ _ ⟨rfl, rfl⟩
            refine ⟨rfl, ρ1, ps1, asg1, body1, d1, pend1, hr1, ?_⟩
            refine (hd2 G s.H.length hlen).1.mono ?_
            rintro _ _ ⟨rfl, rfl⟩
            exact hend.1
          · rintro v' H'' ⟨rfl, rfl⟩
            exact ⟨fun q hq => isDfr_spec (List.all_eq_true.1 hms q hq), hK⟩
        · cases h2
      · cases h2
    · cases h
  · cases h

theorem exOp_sound (hcall : CallerOK P call) (hw : WalkerOK P w) {G : Ctx} {k : Nat} {rd : Option Nat} {s : St} {ao : AOper} {v : AVal} {H' : Heap} (hg : gval s.ρ ao.guard = some true) (h : exOp call w ao.op s = some (v, H')) (hk : k ≤ s.H.length) :
    s.H.length ≤ H'.length ∧ ∀ K : St → Prop, K ⟨setD s.ρ ao.dst v, H', s.ms⟩ → OpA P G k rd ao s K := by
  have simple : (aev ao.op s.ρ s.H s.H.length).map (fun r => (r.1, s.H.puts r.2)) = some (v, H') → s.H.length ≤ H'.length ∧ ∀ K : St → Prop, K ⟨setD s.ρ ao.dst v, H', s.ms⟩ → OpA P G k rd ao s K := by
    intro h
    rw [Option.map_eq_some_iff] at h
    obtain ⟨⟨v', Δ⟩, h1, h2⟩ := h
    simp only [Prod.mk.injEq] at h2
    obtain ⟨rfl, rfl⟩ := h2
    exact ⟨Heap.le_puts _ _, fun K hK => op_simple hg h1 hK⟩
  cases hop : ao.op
  case call f xs =>
    rw [hop] at h
    simp only [exOp, exCallOp] at h
    split at h
    · rename_i g ys cs hf
      rw [Option.map_eq_some_iff] at h
      obtain ⟨⟨deps, c⟩, h1, h2⟩ := h
      simp only [Prod.mk.injEq] at h2
      obtain ⟨rfl, rfl⟩ := h2
      obtain ⟨k1, k2, k3⟩ := exLoc_sound hcall h1
      exact ⟨Heap.le_puts _ _, fun K hK => op_dc hg k3 hop hf (k1.sub (onlyR_sub _ _)) (fun r hr => (k2 r hr).1) hK⟩
    · rename_i r hf
      rw [Option.bind_eq_some_iff] at h
      obtain ⟨⟨v', H''⟩, h1, h2⟩ := h
      split at h2
      · rename_i hm
        cases h2
        exact exRound_sound hw hg hop hf h1 hk hm
      · cases h2
    · cases h
  case callM tab f xs =>
    rw [hop] at h
    simp only [exOp, exCallM] at h
    split at h
    · rename_i t v hf
      split at h
      · rename_i g ht
        rw [Option.map_eq_some_iff] at h
        obtain ⟨⟨deps, c⟩, h1, h2⟩ := h
        simp only [Prod.mk.injEq] at h2
        obtain ⟨rfl, rfl⟩ := h2
        obtain ⟨k1, k2, k3⟩ := exLoc_sound hcall h1
        refine ⟨Heap.le_puts _ _, fun K hK => op_callM hg hop hf ht (DCall.callW (k1.sub (onlyR_sub _ _)) fun r hr => (k2 r hr).1) hk ?_⟩
        rintro hmk v H' ⟨rfl, rfl⟩
        exact ⟨fun r hr => (Same.off c.Δ (k3 r hr) _).2 (hmk r hr), hK⟩
      · cases h
    · cases h
  case slice b m x lo hi =>
    rw [hop] at h simple
    simp only [exOp] at h
    split at h
    · rename_i r hr
      cases h
      exact ⟨Heap.le_puts _ _, fun K hK => op_cut hg (by rw [hop]; exact hr) hK⟩
    · exact simple h
  all_goals (rw [hop] at h simple; exact simple h)

theorem ex_sound (hm : P.follows .mixedOrders = true) (hcall : CallerOK P call) : ∀ n, WalkerOK P (ex call n) := by
  intro n
  induction n with
  | zero => intro rd t s e s' h; simp [ex] at h
  | succ n ih =>
    intro rd t s e s' h
    cases t with
    | ops l =>
      simp only [ex] at h
      cases l with
      | nil => simp only [Option.some.injEq, Prod.mk.injEq] at h; obtain ⟨rfl, rfl⟩ := h; exact ⟨Nat.le_refl _, fun G k _ => ⟨rfl, rfl⟩⟩
      | cons ao l =>
        simp only at h
        cases hg : gval s.ρ ao.guard with
        | none => rw [hg] at h; cases h
        | some b =>
          rw [hg] at h
          cases b with
          | false =>
            simp only [Bool.false_eq_true, if_false] at h
            obtain ⟨h1, h2⟩ := ih _ _ _ _ _ h
            exact ⟨h1, fun G k hk => ⟨(h2 G k hk).1, op_skip hg (h2 G k hk).2⟩⟩
          | true =>
            simp only [if_true] at h
            rw [Option.bind_eq_some_iff] at h
            obtain ⟨⟨v, H'⟩, h1, h2⟩ := h
            obtain ⟨h3, h4⟩ := ih _ _ _ _ _ h2
            have hl := (exOp_sound (G := ⟨fun _ => False, fun _ => False, default⟩) (rd := rd) hcall ih hg h1 (Nat.le_refl _)).1
            simp only at h3
            refine ⟨by omega, fun G k hk => ?_⟩
            have h5 := h4 G k (by simp only; omega)
            exact ⟨h5.1, (exOp_sound hcall ih hg h1 hk).2 _ h5.2⟩
    | segs lo ss =>
      simp only [ex] at h
      cases ss with
      | nil => simp only [Option.some.injEq, Prod.mk.injEq] at h; obtain ⟨rfl, rfl⟩ := h; exact ⟨Nat.le_refl _, fun G k _ => ⟨rfl, rfl⟩⟩
      | cons grp ss =>
        simp only at h
        match grp, h with
        | [], h =>
          obtain ⟨h1, h2⟩ := ih _ _ _ _ _ h
          exact ⟨h1, fun G k hk => h2 G k hk⟩
        | [ao], h =>
          simp only at h
          cases hg : gval s.ρ ao.guard with
          | none => rw [hg] at h; cases h
          | some b =>
            rw [hg] at h
            cases b with
            | false =>
              simp only [Bool.false_eq_true, if_false] at h
              obtain ⟨h1, h2⟩ := ih _ _ _ _ _ h
              exact ⟨h1, fun G k hk => ⟨(h2 G k hk).1, op_skip hg (h2 G k hk).2⟩⟩
            | true =>
              simp only [if_true] at h
              rw [Option.bind_eq_some_iff] at h
              obtain ⟨⟨v, H'⟩, h1, h2⟩ := h
              obtain ⟨h3, h4⟩ := ih _ _ _ _ _ h2
              have hl := (exOp_sound (G := ⟨fun _ => False, fun _ => False, default⟩) (rd := rd) hcall ih hg h1 (Nat.le_refl _)).1
              simp only at h3
              refine ⟨by omega, fun G k hk => ?_⟩
              have h5 := h4 G k (by simp only; omega)
              exact ⟨h5.1, (exOp_sound hcall ih hg h1 hk).2 _ h5.2⟩
        | a :: b :: grp, h =>
          obtain ⟨h1, h2⟩ := ih _ _ _ _ _ h
          exact ⟨h1, fun G k hk => h2 G k hk⟩
    | grp lo l tr hi ss =>
      simp only [ex] at h
      cases l with
      | nil =>
        obtain ⟨h1, h2⟩ := ih _ _ _ _ _ h
        exact ⟨h1, fun G k hk => h2 G k hk⟩
      | cons ao l =>
        simp only at h
        cases hg : gval s.ρ ao.guard with
        | none => rw [hg] at h; cases h
        | some b =>
          rw [hg] at h
          cases b with
          | false =>
            simp only [Bool.false_eq_true, if_false] at h
            obtain ⟨h1, h2⟩ := ih _ _ _ _ _ h
            refine ⟨h1, fun G k hk => ⟨(h2 G k hk).1, ?_⟩⟩
            simp only [AGrp, hg]
            exact (h2 G k hk).2
          | true =>
            simp only [if_true] at h
            rw [Option.bind_eq_some_iff] at h
            obtain ⟨⟨deps, c⟩, h1, h2⟩ := h
            simp only at h2
            split at h2
            case isFalse => cases h2
            rename_i hdyn
            obtain ⟨h3, h4⟩ := ih _ _ _ _ _ h2
            have hle := Heap.le_puts c.Δ s.H
            simp only at h3
            refine ⟨by omega, fun G k hk => ?_⟩
            have h5 := h4 G k (by simp only; omega)
            refine ⟨h5.1, ?_⟩
            have hlast := h5.2
            have simple : (aev ao.op s.ρ s.H s.H.length).map (fun r => (adeps ao.op s.ρ, (⟨r.1, r.2, []⟩ : Oc))) = some (deps, c) → (match aev ao.op s.ρ s.H s.H.length with
                | none => False
                | some r => dynOK ao.free (adeps ao.op s.ρ) (r.2.map (·.1)) tr lo = true ∧ AGrp P lo l (tr ++ [(adeps ao.op s.ρ, r.2.map (·.1))]) { s with ρ := setD s.ρ ao.dst r.1, H := s.H.puts r.2 } fun s1 => ASegs P G k rd hi ss s1 (· = s')) := by
              intro h1
              rw [Option.map_eq_some_iff] at h1
              obtain ⟨⟨v', Δ⟩, q1, q2⟩ := h1
              simp only [Prod.mk.injEq] at q2
              obtain ⟨rfl, rfl⟩ := q2
              rw [q1]
              exact ⟨hdyn, hlast⟩
            simp only [AGrp, hg]
            cases hop : ao.op
            case call f xs =>
              rw [hop] at h1
              simp only [exOpG] at h1
              split at h1
              · rename_i g ys cs hf
                obtain ⟨k1, k2, k3⟩ := exLoc_sound hcall h1
                exact ⟨g, ys, cs, c, deps, k3, hf, k1, k2, hdyn, hlast⟩
              · cases h1
            case callM tab f xs =>
              rw [hop] at h1
              simp [exOpG, aev] at h1
            all_goals (rw [hop] at h1 simple; exact simple h1)
    | code c =>
      have noloop : ∀ {G : Ctx} {k : Nat}, (∀ c', c ≠ .loop c') → AW P G k rd c (fun e1 s1 => e1 = e ∧ s1 = s') s → Does P G k rd s e s' (.code c) := fun hn ha => ⟨ha, fun c' hc => absurd hc (hn c')⟩
      cases c with
      | skip => simp only [ex, Option.some.injEq, Prod.mk.injEq] at h; obtain ⟨rfl, rfl⟩ := h; exact ⟨Nat.le_refl _, fun G k _ => noloop (fun _ h => nomatch h) (aw_skip ⟨rfl, rfl⟩)⟩
      | exit id => simp only [ex, Option.some.injEq, Prod.mk.injEq] at h; obtain ⟨rfl, rfl⟩ := h; exact ⟨Nat.le_refl _, fun G k _ => noloop (fun _ h => nomatch h) (aw_exit ⟨rfl, rfl⟩)⟩
      | label l => simp only [ex, Option.some.injEq, Prod.mk.injEq] at h; obtain ⟨rfl, rfl⟩ := h; exact ⟨Nat.le_refl _, fun G k _ => noloop (fun _ h => nomatch h) (aw_label ⟨rfl, rfl⟩)⟩
      | goto l => simp only [ex, Option.some.injEq, Prod.mk.injEq] at h; obtain ⟨rfl, rfl⟩ := h; exact ⟨Nat.le_refl _, fun G k _ => noloop (fun _ h => nomatch h) (aw_goto ⟨rfl, rfl⟩)⟩
      | ret => simp only [ex, Option.some.injEq, Prod.mk.injEq] at h; obtain ⟨rfl, rfl⟩ := h; exact ⟨Nat.le_refl _, fun G k _ => noloop (fun _ h => nomatch h) (aw_ret ⟨rfl, rfl⟩)⟩
      | scope c =>
        simp only [ex] at h
        rw [Option.bind_eq_some_iff] at h
        obtain ⟨⟨e1, s1⟩, h1, h2⟩ := h
        obtain ⟨k1, k2⟩ := ih _ _ _ _ _ h1
        have hg : ∀ l, e1 ≠ .goto l := by rintro l rfl; simp [exScp] at h2
        have h3 : exScp (e1, s1) = some (e1, s1) := by cases e1 <;> first | rfl | exact absurd rfl (hg _)
        rw [h3] at h2; cases h2
        refine ⟨k1, fun G k hk => noloop (fun _ h => nomatch h) (aw_scope ((k2 G k hk).1.mono ?_))⟩
        rintro e₁ _ ⟨rfl, rfl⟩
        cases e₁ <;> first | exact absurd rfl (hg _) | exact ⟨rfl, rfl⟩
      | bad => simp [ex] at h
      | reg l draw =>
        simp only [ex] at h
        cases draw with
        | false =>
          simp only [Bool.false_eq_true, if_false] at h
          obtain ⟨h1, h2⟩ := ih _ _ _ _ _ h
          refine ⟨h1, fun G k hk => noloop (fun _ h => nomatch h) (aw_reg ?_)⟩
          obtain ⟨rfl, h3⟩ := h2 G k hk
          exact areg_mono (fun s1 hs1 => ⟨rfl, hs1⟩) _ _ h3
        | true =>
          simp only [if_true] at h
          split at h
          case isFalse => cases h
          rename_i hst
          obtain ⟨h1, h2⟩ := ih _ _ _ _ _ h
          refine ⟨h1, fun G k hk => noloop (fun _ h => nomatch h) (aw_reg_segs hm hst ?_)⟩
          obtain ⟨rfl, h3⟩ := h2 G k hk
          exact asegs_mono (fun s1 hs1 => ⟨rfl, hs1⟩) _ _ _ h3
      | seq a b =>
        simp only [ex] at h
        rw [Option.bind_eq_some_iff] at h
        obtain ⟨⟨e1, s1⟩, h1, h2⟩ := h
        obtain ⟨k1, k2⟩ := ih _ _ _ _ _ h1
        by_cases he : e1 = .normal
        · subst he
          simp only [exSeq] at h2
          obtain ⟨k3, k4⟩ := ih _ _ _ _ _ h2
          refine ⟨by omega, fun G k hk => noloop (fun _ h => nomatch h) (aw_seq ((k2 G k hk).1.mono ?_))⟩
          rintro _ _ ⟨rfl, rfl⟩
          exact (k4 G k (by omega)).1
        · have : exSeq (ex call n) rd b (e1, s1) = some (e1, s1) := by cases e1 <;> first | exact absurd rfl he | rfl
          rw [this] at h2; cases h2
          refine ⟨k1, fun G k hk => noloop (fun _ h => nomatch h) (aw_seq ((k2 G k hk).1.mono ?_))⟩
          rintro e₁ _ ⟨rfl, rfl⟩
          cases e₁ <;> first | exact absurd rfl he | exact ⟨rfl, rfl⟩
      | cond c a b =>
        simp only [ex, exCond] at h
        split at h
        · rename_i hc
          obtain ⟨k1, k2⟩ := ih _ _ _ _ _ h
          exact ⟨k1, fun G k hk => noloop (fun _ h => nomatch h) (aw_cond hc (fun _ => (k2 G k hk).1) fun h => nomatch h)⟩
        · rename_i hc
          obtain ⟨k1, k2⟩ := ih _ _ _ _ _ h
          exact ⟨k1, fun G k hk => noloop (fun _ h => nomatch h) (aw_cond hc (fun h => nomatch h) fun _ => (k2 G k hk).1)⟩
        · cases h
      | block id c =>
        simp only [ex] at h
        rw [Option.map_eq_some_iff] at h
        obtain ⟨⟨e1, s1⟩, h1, h2⟩ := h
        obtain ⟨k1, k2⟩ := ih _ _ _ _ _ h1
        have hs : s1 = s' := by
          have := congrArg Prod.snd h2
          unfold exBlk at this
          repeat' split at this
          all_goals exact this
        subst hs
        refine ⟨k1, fun G k hk => noloop (fun _ h => nomatch h) (aw_block ((k2 G k hk).1.mono ?_))⟩
        rintro e₁ _ ⟨rfl, rfl⟩
        have he := congrArg Prod.fst h2
        cases e₁ <;> simp only [exBlk] at he <;> first
          | exact ⟨he, rfl⟩
          | skip
        rename_i j
        show (if j = id then _ else _)
        split at he
        · rename_i hj; rw [if_pos hj]; exact ⟨he, rfl⟩
        · rename_i hj; rw [if_neg hj]; exact ⟨he, rfl⟩
      | loop c =>
        simp only [ex] at h
        rw [Option.bind_eq_some_iff] at h
        obtain ⟨⟨e1, s1⟩, h1, h2⟩ := h
        obtain ⟨k1, k2⟩ := ih _ _ _ _ _ h1
        by_cases he : e1 = .normal
        · subst he
          simp only [exSeq] at h2
          obtain ⟨k3, k4⟩ := ih _ _ _ _ _ h2
          have hal : ∀ G k, k ≤ s.H.length → AL P G k rd c (fun e1 s1 => e1 = e ∧ s1 = s') s := fun G k hk => al_round ((k2 G k hk).1.mono (by
            rintro _ _ ⟨rfl, rfl⟩
            exact (k4 G k (by omega)).2 c rfl))
          exact ⟨by omega, fun G k hk => ⟨aw_loop (hal G k hk), fun c' hc => by cases hc; exact hal G k hk⟩⟩
        · have : exSeq (ex call n) rd (.loop c) (e1, s1) = some (e1, s1) := by cases e1 <;> first | exact absurd rfl he | rfl
          rw [this] at h2; cases h2
          have hal : ∀ G k, k ≤ s.H.length → AL P G k rd c (fun e₁ s₁ => e₁ = e ∧ s₁ = s') s := fun G k hk => al_round ((k2 G k hk).1.mono (by
            rintro e₁ _ ⟨rfl, rfl⟩
            cases e₁ <;> first | exact absurd rfl he | exact ⟨rfl, rfl⟩))
          exact ⟨k1, fun G k hk => ⟨aw_loop (hal G k hk), fun c' hc => by cases hc; exact hal G k hk⟩⟩
      | rng g ps asg body =>
        simp only [ex, exRng] at h
        have fin : ∀ (rd : Option Nat) (l : Nat) (ms : List Nat) (H' : Heap), s.H.length ≤ H'.length → exRngEnd (ex call n) rd l s.ρ ms H' = some (e, s') →
            s.H.length ≤ s'.H.length ∧ ∀ G k, k ≤ s.H.length → RngEnd P G k rd l s.ρ ms (fun e1 s1 => e1 = e ∧ s1 = s') H' := by
          intro rd l ms H' hl h
          unfold exRngEnd at h
          split at h
          case isFalse => cases h
          rename_i hms
          split at h
          case h_2 => cases h
          rename_i ρ' ps' asg' body' d' st pend hrow
          split at h
          case isTrue => cases h
          rename_i hst
          cases pend with
          | none =>
            simp only [Option.some.injEq, Prod.mk.injEq] at h
            obtain ⟨rfl, rfl⟩ := h
            exact ⟨by simpa using hl, fun G k hk => ⟨fun q hq => isDfr_spec (List.all_eq_true.1 hms q hq), ρ', ps', asg', body', d', st, none, hrow, hst, rfl, rfl⟩⟩
          | some c =>
            simp only at h
            obtain ⟨k1, k2⟩ := ih _ _ _ _ _ h
            simp only [List.length_set] at k1
            exact ⟨by omega, fun G k hk => ⟨fun q hq => isDfr_spec (List.all_eq_true.1 hms q hq), ρ', ps', asg', body', d', st, some c, hrow, hst, (k2 G k (by simp only [List.length_set]; omega)).1⟩⟩
        split at h
        · rename_i f fs cs hf
          cases rd with
          | none =>
            simp only at h
            rw [Option.bind_eq_some_iff] at h
            obtain ⟨⟨deps, c⟩, h1, h2⟩ := h
            obtain ⟨k1, k2, _⟩ := exLoc_sound hcall h1
            have hle := Heap.le_puts c.Δ (s.H ++ [some .dfr] ++ [some (.loop s.ρ ps asg body s.H.length .ready none)])
            simp only [List.length_append, List.length_singleton] at hle
            obtain ⟨k3, k4⟩ := fin none _ _ _ (by simp only; omega) h2
            refine ⟨k3, fun G k hk => noloop (fun _ h => nomatch h) (aw_rng_outer hf ((k1.sub (onlyR_sub _ _)).callW fun r hr => (k2 r hr).1) hk ?_)⟩
            rintro v H' ⟨rfl, rfl⟩
            exact k4 G k hk
          | some r₀ =>
            simp only at h
            split at h
            · rename_i ρ₀ ps₀ asg₀ body₀ d₀ st₀ pend₀ h₀
              rw [Option.bind_eq_some_iff] at h
              obtain ⟨⟨deps, c⟩, h1, h2⟩ := h
              obtain ⟨k1, k2, _⟩ := exLoc_sound hcall h1
              have hle := Heap.le_puts c.Δ (s.H ++ [some (.loop s.ρ ps asg body d₀ .ready none)])
              simp only [List.length_append, List.length_singleton] at hle
              obtain ⟨k3, k4⟩ := fin (some r₀) _ _ _ (by simp only; omega) h2
              refine ⟨k3, fun G k hk => noloop (fun _ h => nomatch h) (aw_rng_inner h₀ hf ((k1.sub (onlyR_sub _ _)).callW fun r hr => (k2 r hr).1) hk ?_)⟩
              rintro v H' ⟨rfl, rfl⟩
              exact k4 G k hk
            · cases h
        · cases h

theorem exFn_sound (hm : P.follows .mixedOrders = true) {tab : Nat → Option AFun} {m : Nat} (hT : ∀ g af, tab g = some af → ∃ fn, P.funcs[g]? = some fn ∧ cfun P fn = af ∧ (fn.name != "runtime.NumGoroutine" && fn.body.isSome) = true) :
    ∀ n, CallerOK P (exFn tab m n) := by
  intro n
  induction n with
  | zero => intro g args H v H' h; simp [exFn] at h
  | succ n ih =>
    intro g args H v H' h G
    simp only [exFn] at h
    cases ht : tab g with
    | none => rw [ht] at h; cases h
    | some af =>
      rw [ht] at h
      simp only at h
      rw [Option.bind_eq_some_iff] at h
      obtain ⟨⟨e, s'⟩, h1, h2⟩ := h
      obtain ⟨fn, f1, f2, f3⟩ := hT g af ht
      refine call_of_afun f1 f2 f3 (((ex_sound hm ih m _ _ _ _ _ h1).2 G H.length (Nat.le_refl _)).1.mono ?_)
      rintro _ _ ⟨rfl, rfl⟩
      unfold retOf at h2
      split at h2
      case isFalse => cases h2
      rename_i hnd
      have hnd := nodupB_spec hnd
      simp only at h2
      split at h2
      case h_3 => cases h2
      all_goals
        rename_i he
        rw [Option.map_eq_some_iff] at h2
        obtain ⟨v', h3, h4⟩ := h2
        simp only [Prod.mk.injEq] at h4
        obtain ⟨rfl, rfl⟩ := h4
        exact ⟨by simp, hnd, v', h3, rfl, rfl⟩
end
end Go.Sx
/- Code, reckoned step by step; all that a step speaks of is data. -/
namespace Go.Sx
open Go

inductive Frame where
  | seq (c : ACode)
  | blk (id : Nat)
  | rnd (c : ACode)
  | sgs (lo : Nat) (ss : List (List AOper))
  | scp

inductive Cmd where
  | code (c : ACode)
  | ops (l : List AOper)
  | out (e : Exit)
  | segs (lo : Nat) (ss : List (List AOper))
  | grp (lo : Nat) (l : List AOper) (tr : List (List Nat × List Nat)) (hi : Nat) (ss : List (List AOper))

abbrev Goal := Exit → St → Prop
abbrev Runner := Cmd → List Frame → St → Goal → Prop

def known (ρ : List AVal) (b : Bool) : Option (Nat × Bool) → List AVal
  | none => ρ
  | some (t, want) => match tget ρ t with
    | .tup [] => ρ
    | _ => tset ρ t (.bool (if b = true then want else !want))

theorem known_eq {ρ : List AVal} {b : Bool} {g : Option (Nat × Bool)} (h : gval ρ g = some b) : known ρ b g = ρ := by
  cases g with
  | none => rfl
  | some p =>
    obtain ⟨t, want⟩ := p
    simp only [gval] at h
    unfold boolOf at h
    split at h
    · rename_i c hc
      cases h
      simp only [known, hc, tset_eq]
      rw [tget_eq] at hc
      have hlt : t < ρ.length := by
        rcases Nat.lt_or_ge t ρ.length with h | h
        · exact h
        · rw [List.getD_eq_getElem?_getD, List.getElem?_eq_none h] at hc; cases hc
      have e : (AVal.bool (if (c == want) = true then want else !want)) = ρ[t] := by
        rw [List.getD_eq_getElem?_getD, List.getElem?_eq_getElem hlt] at hc
        simp only [Option.getD_some] at hc
        rw [hc]; cases c <;> cases want <;> rfl
      rw [e, List.set_getElem_self]
    · rename_i hc
      simp only [known, hc]
    · cases h

section
variable (P : Program) (G : Ctx) (k : Nat) (rd : Option Nat)

def Fin : List Frame → Goal → Goal
  | [], Q => Q
  | .seq c :: fs, Q => andThen (AW P G k rd c (Fin fs Q)) (Fin fs Q)
  | .blk id :: fs, Q => inBlock id (Fin fs Q)
  | .rnd c :: fs, Q => andThen (AL P G k rd c (Fin fs Q)) (Fin fs Q)
  | .sgs lo ss :: fs, Q => andThen (fun s => ASegs P G k rd lo ss s (Fin fs Q .normal)) fun _ _ => False
  | .scp :: fs, Q => noGoto (Fin fs Q)

def Loop (c : ACode) (fs : List Frame) (s : St) (Q : Goal) : Prop := AL P G k rd c (Fin P G k rd fs Q) s

def Mean : Cmd → List Frame → St → Goal → Prop
  | .code c, fs, s, Q => AW P G k rd c (Fin P G k rd fs Q) s
  | .ops l, fs, s, Q => Areg P G k rd l s (Fin P G k rd fs Q .normal)
  | .out e, fs, s, Q => Fin P G k rd fs Q e s
  | .segs lo ss, fs, s, Q => ASegs P G k rd lo ss s (Fin P G k rd fs Q .normal)
  | .grp lo l tr hi ss, fs, s, Q => AGrp P lo l tr s fun s' => ASegs P G k rd hi ss s' (Fin P G k rd fs Q .normal)

def owe (R : Runner) (o : Option (AVal × List (Nat × Row))) (dst : Option Nat) (l : List AOper) (fs : List Frame) (ρ : List AVal) (H : Heap) (ms : List Nat) (Q : Goal) : Prop :=
  match o with
  | some r => R (.ops l) fs ⟨setD ρ dst r.1, H.puts r.2, ms⟩ Q
  | none => False

def CallR (R : Runner) (g : FuncId) (args : List AVal) (dst : Option Nat) (l : List AOper) (fs : List Frame) (ρ : List AVal) (H : Heap) (ms : List Nat) (Q : Goal) : Prop :=
  k ≤ H.length ∧ CallW P G g args H fun v H' => (∀ r ∈ ms, H'[r]? = some (some .dfr)) ∧ R (.ops l) fs ⟨setD ρ dst v, H', ms⟩ Q

def callee (R : Runner) (v : AVal) (o : AOper) (xs : List AVal) (l : List AOper) (fs : List Frame) (ρ : List AVal) (H : Heap) (ms : List Nat) (Q : Goal) : Prop :=
  match v with
  | .fn (.func g) ys cs => CallR P G k R g (ys ++ xs ++ cs) o.dst l fs ρ H ms Q
  | _ => Areg P G k rd (o :: l) ⟨ρ, H, ms⟩ (Fin P G k rd fs Q .normal)

def calleeM (R : Runner) (tab : List (Nat × Nat)) (v : AVal) (o : AOper) (xs : List AVal) (l : List AOper) (fs : List Frame) (ρ : List AVal) (H : Heap) (ms : List Nat) (Q : Goal) : Prop :=
  match v with
  | .iface t x => match tabAt tab t with
    | some g => CallR P G k R g (x :: xs) o.dst l fs ρ H ms Q
    | none => False
  | _ => False

def stepOp (R : Runner) (o : AOper) (op : AOp) (l : List AOper) (fs : List Frame) (ρ : List AVal) (H : Heap) (ms : List Nat) (Q : Goal) : Prop :=
  match op with
  | .call f xs => callee P G k rd R (opd ρ f) o (xs.map (opd ρ)) l fs ρ H ms Q
  | .callM tab f xs => calleeM P G k R tab (opd ρ f) o (xs.map (opd ρ)) l fs ρ H ms Q
  | op => owe R (aev op ρ H H.length) o.dst l fs ρ H ms Q

def gd (R : Runner) (b : Option Bool) (o : AOper) (l : List AOper) (fs : List Frame) (ρ : List AVal) (H : Heap) (ms : List Nat) (Q : Goal) : Prop :=
  match b with
  | some true => stepOp P G k rd R o o.op l fs (known ρ true o.guard) H ms Q
  | some false => R (.ops l) fs ⟨setD (known ρ false o.guard) o.dst (.tup []), H, ms⟩ Q
  | none => False

def oweG (R : Runner) (o : Option (AVal × List (Nat × Row))) (ao : AOper) (deps : List Nat) (lo : Nat) (l : List AOper) (tr : List (List Nat × List Nat)) (hi : Nat) (ss : List (List AOper)) (fs : List Frame) (ρ : List AVal) (H : Heap) (ms : List Nat) (Q : Goal) : Prop :=
  match o with
  | some r => dynOK ao.free deps (r.2.map (·.1)) tr lo = true ∧ R (.grp lo l (tr ++ [(deps, r.2.map (·.1))]) hi ss) fs ⟨setD ρ ao.dst r.1, H.puts r.2, ms⟩ Q
  | none => False

def DCallR (R : Runner) (g : FuncId) (args : List AVal) (ao : AOper) (lo : Nat) (l : List AOper) (tr : List (List Nat × List Nat)) (hi : Nat) (ss : List (List AOper)) (fs : List Frame) (ρ : List AVal) (H : Heap) (ms : List Nat) (Q : Goal) : Prop :=
  ∃ c deps, (∀ q ∈ ms, q ∉ c.rows) ∧ DCall P g args (H.onlyR deps) c ∧ (∀ r ∈ c.fs, H.length ≤ r ∧ r < (H.puts c.Δ).length) ∧ dynOK ao.free deps (c.Δ.map (·.1)) tr lo = true ∧
    R (.grp lo l (tr ++ [(deps, c.Δ.map (·.1))]) hi ss) fs ⟨setD ρ ao.dst c.v, H.puts c.Δ, ms⟩ Q

def calleeG (R : Runner) (v : AVal) (ao : AOper) (xs : List AVal) (lo : Nat) (l : List AOper) (tr : List (List Nat × List Nat)) (hi : Nat) (ss : List (List AOper)) (fs : List Frame) (ρ : List AVal) (H : Heap) (ms : List Nat) (Q : Goal) : Prop :=
  match v with
  | .fn (.func g) ys cs => DCallR P R g (ys ++ xs ++ cs) ao lo l tr hi ss fs ρ H ms Q
  | _ => False

def calleeGM (R : Runner) (tab : List (Nat × Nat)) (v : AVal) (ao : AOper) (xs : List AVal) (lo : Nat) (l : List AOper) (tr : List (List Nat × List Nat)) (hi : Nat) (ss : List (List AOper)) (fs : List Frame) (ρ : List AVal) (H : Heap) (ms : List Nat) (Q : Goal) : Prop :=
  match v with
  | .iface t x => match tabAt tab t with
    | some g => DCallR P R g (x :: xs) ao lo l tr hi ss fs ρ H ms Q
    | none => False
  | _ => False

def stepG (R : Runner) (ao : AOper) (op : AOp) (lo : Nat) (l : List AOper) (tr : List (List Nat × List Nat)) (hi : Nat) (ss : List (List AOper)) (fs : List Frame) (ρ : List AVal) (H : Heap) (ms : List Nat) (Q : Goal) : Prop :=
  match op with
  | .call f xs => calleeG P R (opd ρ f) ao (xs.map (opd ρ)) lo l tr hi ss fs ρ H ms Q
  | .callM tab f xs => calleeGM P R tab (opd ρ f) ao (xs.map (opd ρ)) lo l tr hi ss fs ρ H ms Q
  | op => oweG R (aev op ρ H H.length) ao (adeps op ρ) lo l tr hi ss fs ρ H ms Q

def gdG (R : Runner) (b : Option Bool) (ao : AOper) (lo : Nat) (l : List AOper) (tr : List (List Nat × List Nat)) (hi : Nat) (ss : List (List AOper)) (fs : List Frame) (ρ : List AVal) (H : Heap) (ms : List Nat) (Q : Goal) : Prop :=
  match b with
  | some true => stepG P R ao ao.op lo l tr hi ss fs (known ρ true ao.guard) H ms Q
  | some false => R (.grp lo l (tr ++ [([], [])]) hi ss) fs ⟨setD (known ρ false ao.guard) ao.dst (.tup []), H, ms⟩ Q
  | none => False

def outSgs (R : Runner) (e : Exit) (lo : Nat) (ss : List (List AOper)) (fs : List Frame) (s : St) (Q : Goal) : Prop :=
  match e with
  | .normal => R (.segs lo ss) fs s Q
  | _ => False

def outScp (R : Runner) (e : Exit) (fs : List Frame) (s : St) (Q : Goal) : Prop :=
  match e with
  | .goto _ => False
  | e => R (.out e) fs s Q

def br (R : Runner) (v : AVal) (x y : ACode) (fs : List Frame) (s : St) (Q : Goal) : Prop :=
  match v with
  | .bool true => R (.code x) fs s Q
  | .bool false => R (.code y) fs s Q
  | _ => False

def outSeq (R : Runner) (e : Exit) (c : ACode) (fs : List Frame) (s : St) (Q : Goal) : Prop :=
  match e with
  | .normal => R (.code c) fs s Q
  | e => R (.out e) fs s Q

def outBlk (R : Runner) (e : Exit) (id : Nat) (fs : List Frame) (s : St) (Q : Goal) : Prop :=
  match e with
  | .exit j => if j = id then R (.out .normal) fs s Q else R (.out (.exit j)) fs s Q
  | e => R (.out e) fs s Q

def outRnd (R : Runner) (e : Exit) (c : ACode) (fs : List Frame) (s : St) (Q : Goal) : Prop :=
  match e with
  | .normal => Loop P G k rd c fs s Q
  | e => R (.out e) fs s Q

def Run : Nat → Runner
  | 0, c, fs, s, Q => Mean P G k rd c fs s Q
  | n + 1, .ops [], fs, s, Q => Run n (.out .normal) fs s Q
  | n + 1, .ops (o :: l), fs, s, Q => gd P G k rd (Run n) (gval s.ρ o.guard) o l fs s.ρ s.H s.ms Q
  | n + 1, .code .skip, fs, s, Q => Run n (.out .normal) fs s Q
  | n + 1, .code (.reg l false), fs, s, Q => Run n (.ops l) fs s Q
  | n + 1, .code (.reg l true), fs, s, Q => P.follows .mixedOrders = true ∧ statOK l = true ∧ Run n (.segs 0 (segs l)) fs s Q
  | n + 1, .segs _ [], fs, s, Q => Run n (.out .normal) fs s Q
  | n + 1, .segs lo ([ao] :: ss), fs, s, Q => Run n (.ops [ao]) (.sgs (lo + 1) ss :: fs) s Q
  | n + 1, .segs lo (grp :: ss), fs, s, Q => Run n (.grp lo grp [] (lo + grp.length) ss) fs s Q
  | n + 1, .grp _ [] _ hi ss, fs, s, Q => Run n (.segs hi ss) fs s Q
  | n + 1, .grp lo (ao :: l) tr hi ss, fs, s, Q => gdG P (Run n) (gval s.ρ ao.guard) ao lo l tr hi ss fs s.ρ s.H s.ms Q
  | n + 1, .code (.seq a b), fs, s, Q => Run n (.code a) (.seq b :: fs) s Q
  | n + 1, .code (.cond c a b), fs, s, Q => br (Run n) (opd s.ρ c) a b fs s Q
  | n + 1, .code (.block id c), fs, s, Q => Run n (.code c) (.blk id :: fs) s Q
  | n + 1, .code (.exit id), fs, s, Q => Run n (.out (.exit id)) fs s Q
  | n + 1, .code (.label _), fs, s, Q => Run n (.out .normal) fs s Q
  | n + 1, .code (.goto l), fs, s, Q => Run n (.out (.goto l)) fs s Q
  | n + 1, .code .ret, fs, s, Q => Run n (.out .ret) fs s Q
  | n + 1, .code (.scope c), fs, s, Q => Run n (.code c) (.scp :: fs) s Q
  | _ + 1, .code (.loop c), fs, s, Q => Loop P G k rd c fs s Q
  | _ + 1, .code c, fs, s, Q => Mean P G k rd (.code c) fs s Q
  | _ + 1, .out e, [], s, Q => Q e s
  | n + 1, .out e, .seq c :: fs, s, Q => outSeq (Run n) e c fs s Q
  | n + 1, .out e, .blk id :: fs, s, Q => outBlk (Run n) e id fs s Q
  | n + 1, .out e, .rnd c :: fs, s, Q => outRnd P G k rd (Run n) e c fs s Q
  | n + 1, .out e, .sgs lo ss :: fs, s, Q => outSgs (Run n) e lo ss fs s Q
  | n + 1, .out e, .scp :: fs, s, Q => outScp (Run n) e fs s Q
end
section
variable {P : Program} {G : Ctx} {k : Nat} {rd : Option Nat}

theorem run_mean (n : Nat) : ∀ (c : Cmd) (fs : List Frame) (s : St) (Q : Goal), Run P G k rd n c fs s Q → Mean P G k rd c fs s Q := by
  induction n with
  | zero => intro c fs s Q h; simpa only [Run] using h
  | succ n ih =>
    intro c fs s Q h
    cases c with
    | ops l =>
      cases l with
      | nil => exact areg_nil (P := P) (G := G) (k := k) (rd := rd) (K := Fin P G k rd fs Q .normal) (ih (.out .normal) fs s Q (by simpa only [Run] using h))
      | cons ao l =>
        simp only [Run] at h
        cases hg : gval s.ρ ao.guard with
        | none => rw [hg] at h; exact h.elim
        | some b =>
          rw [hg] at h
          have hk := known_eq hg
          cases b with
          | false =>
            simp only [gd, hk] at h
            exact op_skip hg (ih _ _ _ _ h)
          | true =>
            simp only [gd, hk] at h
            have simple : owe (Run P G k rd n) (aev ao.op s.ρ s.H s.H.length) ao.dst l fs s.ρ s.H s.ms Q → Mean P G k rd (.ops (ao :: l)) fs s Q := by
              intro h
              cases he : aev ao.op s.ρ s.H s.H.length with
              | none => rw [he] at h; exact h.elim
              | some r => rw [he] at h; exact op_simple hg he (ih _ _ _ _ h)
            by_cases hcall : ∃ f xs, ao.op = .call f xs
            · obtain ⟨f, xs, ho⟩ := hcall
              rw [ho] at h
              simp only [stepOp, callee] at h
              split at h
              · rename_i g ys cs hf
                exact op_call hg ho hf h.2 h.1 fun v H' hR => ⟨hR.1, ih _ _ _ _ hR.2⟩
              · exact h
            · by_cases hcm : ∃ tab f xs, ao.op = .callM tab f xs
              · obtain ⟨tab, f, xs, ho⟩ := hcm
                rw [ho] at h
                simp only [stepOp, calleeM] at h
                split at h
                · rename_i t v hf
                  split at h
                  · rename_i g ht
                    exact op_callM hg ho hf ht h.2 h.1 fun _ v H' hR => ⟨hR.1, ih _ _ _ _ hR.2⟩
                  · exact h.elim
                · exact h.elim
              · refine simple ?_
                unfold stepOp at h
                split at h
                · rename_i f xs ho; exact absurd ⟨_, _, ho⟩ hcall
                · rename_i tab f xs ho; exact absurd ⟨_, _, _, ho⟩ hcm
                · exact h
    | out e =>
      cases fs with
      | nil => simpa only [Run, Mean, Fin] using h
      | cons f fs =>
        cases f with
        | seq c =>
          simp only [Run] at h
          cases e with
          | normal => exact ih (.code c) fs s Q h
          | exit j => exact ih (.out (.exit j)) fs s Q h
          | goto j => exact ih (.out (.goto j)) fs s Q h
          | ret => exact ih (.out .ret) fs s Q h
          | panic ch => exact ih (.out (.panic ch)) fs s Q h
          | outgrown => exact ih (.out .outgrown) fs s Q h
        | rnd c =>
          simp only [Run] at h
          cases e with
          | normal => exact h
          | exit j => exact ih (.out (.exit j)) fs s Q h
          | goto j => exact ih (.out (.goto j)) fs s Q h
          | ret => exact ih (.out .ret) fs s Q h
          | panic ch => exact ih (.out (.panic ch)) fs s Q h
          | outgrown => exact ih (.out .outgrown) fs s Q h
        | sgs lo ss =>
          simp only [Run, outSgs] at h
          cases e with
          | normal => exact ih (.segs lo ss) fs s Q h
          | _ => exact h.elim
        | scp =>
          simp only [Run] at h
          cases e with
          | normal => exact ih (.out .normal) fs s Q h
          | exit j => exact ih (.out (.exit j)) fs s Q h
          | goto j => exact h.elim
          | ret => exact ih (.out .ret) fs s Q h
          | panic ch => exact ih (.out (.panic ch)) fs s Q h
          | outgrown => exact ih (.out .outgrown) fs s Q h
        | blk id =>
          simp only [Run] at h
          cases e with
          | normal => exact ih (.out .normal) fs s Q h
          | exit j =>
            show (if j = id then _ else _)
            simp only [outBlk] at h
            split at h <;> rename_i hj
            · rw [if_pos hj]; exact ih (.out .normal) fs s Q h
            · rw [if_neg hj]; exact ih (.out (.exit j)) fs s Q h
          | goto j => exact ih (.out (.goto j)) fs s Q h
          | ret => exact ih (.out .ret) fs s Q h
          | panic ch => exact ih (.out (.panic ch)) fs s Q h
          | outgrown => exact ih (.out .outgrown) fs s Q h
    | segs lo ss =>
      match ss, h with
      | [], h => exact ih (.out .normal) fs s Q (by simpa only [Run] using h)
      | [ao] :: ss, h => exact ih (.ops [ao]) (.sgs (lo + 1) ss :: fs) s Q (by simpa only [Run] using h)
      | [] :: ss, h => exact ih (.grp lo [] [] (lo + ([] : List AOper).length) ss) fs s Q (by simpa only [Run] using h)
      | (a :: b :: grp) :: ss, h => exact ih (.grp lo (a :: b :: grp) [] (lo + (a :: b :: grp).length) ss) fs s Q (by simpa only [Run] using h)
    | grp lo l tr hi ss =>
      cases l with
      | nil => exact ih (.segs hi ss) fs s Q (by simpa only [Run] using h)
      | cons ao l =>
        simp only [Run] at h
        simp only [Mean, AGrp]
        cases hg : gval s.ρ ao.guard with
        | none => rw [hg] at h; exact h.elim
        | some b =>
          rw [hg] at h
          have hk := known_eq hg
          cases b with
          | false =>
            simp only [gdG, hk] at h
            exact ih _ _ _ _ h
          | true =>
            simp only [gdG, hk] at h
            have simple : oweG (Run P G k rd n) (aev ao.op s.ρ s.H s.H.length) ao (adeps ao.op s.ρ) lo l tr hi ss fs s.ρ s.H s.ms Q → (match aev ao.op s.ρ s.H s.H.length with
                | none => False
                | some r => dynOK ao.free (adeps ao.op s.ρ) (r.2.map (·.1)) tr lo = true ∧ AGrp P lo l (tr ++ [(adeps ao.op s.ρ, r.2.map (·.1))]) { s with ρ := setD s.ρ ao.dst r.1, H := s.H.puts r.2 } fun s' => ASegs P G k rd hi ss s' (Fin P G k rd fs Q .normal)) := by
              intro h
              cases he : aev ao.op s.ρ s.H s.H.length with
              | none => rw [he] at h; exact h.elim
              | some r => rw [he] at h; exact ⟨h.1, ih _ _ _ _ h.2⟩
            cases hop : ao.op
            case call f xs =>
              rw [hop] at h
              simp only [stepG, calleeG] at h
              split at h
              · rename_i g ys cs hf
                obtain ⟨c, deps, h1, h2, h3, h4, h5⟩ := h
                exact ⟨g, ys, cs, c, deps, h1, hf, h2, h3, h4, ih _ _ _ _ h5⟩
              · exact h.elim
            case callM tab f xs =>
              rw [hop] at h
              simp only [stepG, calleeGM] at h
              split at h
              · rename_i t v hf
                split at h
                · rename_i g ht
                  obtain ⟨c, deps, h1, h2, h3, h4, h5⟩ := h
                  exact ⟨t, v, g, c, deps, h1, hf, ht, h2, h3, h4, ih _ _ _ _ h5⟩
                · exact h.elim
              · exact h.elim
            all_goals (rw [hop] at h simple; exact simple h)
    | code c =>
      cases c with
      | skip => exact aw_skip (ih (.out .normal) fs s Q (by simpa only [Run] using h))
      | reg l draw =>
        cases draw with
        | false => exact aw_reg (ih (.ops l) fs s Q (by simpa only [Run] using h))
        | true =>
          simp only [Run] at h
          exact aw_reg_segs h.1 h.2.1 (ih (.segs 0 (segs l)) fs s Q h.2.2)
      | seq a b => exact aw_seq (ih (.code a) (.seq b :: fs) s Q (by simpa only [Run] using h))
      | cond c a b =>
        simp only [Run, br] at h
        split at h
        · rename_i ho; exact aw_cond ho (fun _ => ih (.code a) fs s Q h) (fun e => nomatch e)
        · rename_i ho; exact aw_cond ho (fun e => nomatch e) (fun _ => ih (.code b) fs s Q h)
        · exact h.elim
      | block id c => exact aw_block (ih (.code c) (.blk id :: fs) s Q (by simpa only [Run] using h))
      | exit id => exact aw_exit (ih (.out (.exit id)) fs s Q (by simpa only [Run] using h))
      | label l => exact aw_label (ih (.out .normal) fs s Q (by simpa only [Run] using h))
      | goto l => exact aw_goto (ih (.out (.goto l)) fs s Q (by simpa only [Run] using h))
      | loop c => exact aw_loop (by simpa only [Run, Loop] using h)
      | ret => exact aw_ret (ih (.out .ret) fs s Q (by simpa only [Run] using h))
      | scope c => exact aw_scope (ih (.code c) (.scp :: fs) s Q (by simpa only [Run] using h))
      | _ => simpa only [Run] using h

theorem loop_round (n : Nat) {c : ACode} {fs : List Frame} {s : St} {Q : Goal} (h : Run P G k rd n (.code c) (.rnd c :: fs) s Q) : Loop P G k rd c fs s Q := al_round (run_mean n _ _ _ _ h)
theorem loop_less {c : ACode} {fs : List Frame} {s s' : St} {Q : Goal} (hl : Less P G k s s') (h : Loop P G k rd c fs s' Q) : Loop P G k rd c fs s Q := al_less hl h

theorem run_aw (n : Nat) {c : ACode} {s : St} {Q : Goal} (h : Run P G k rd n (.code c) [] s Q) : AW P G k rd c Q s := run_mean n _ _ _ _ h

theorem callR {R : Runner} {g : FuncId} {args : List AVal} {dst : Option Nat} {l : List AOper} {fs : List Frame} {ρ : List AVal} {H : Heap} {ms : List Nat} {Q : Goal} {T : AVal → Heap → Prop} (h : CallOK P G g args H T)
    (hk : k ≤ H.length) (hK : ∀ v H', T v H' → (∀ r ∈ ms, H'[r]? = some (some .dfr)) ∧ R (.ops l) fs ⟨setD ρ dst v, H', ms⟩ Q) : CallR P G k R g args dst l fs ρ H ms Q :=
  ⟨hk, (h.mono hK).weak⟩

theorem dcallR {R : Runner} {g : FuncId} {args : List AVal} {ao : AOper} {lo : Nat} {l : List AOper} {tr : List (List Nat × List Nat)} {hi : Nat} {ss : List (List AOper)} {fs : List Frame} {ρ : List AVal} {H : Heap} {ms : List Nat} {Q : Goal} {c : Oc} {deps : List Nat}
    (h : DCall P g args (H.onlyR deps) c) (hK : (∀ q ∈ ms, q ∉ c.rows) ∧ (∀ r ∈ c.fs, H.length ≤ r ∧ r < (H.puts c.Δ).length) ∧ dynOK ao.free deps (c.Δ.map (·.1)) tr lo = true ∧
    R (.grp lo l (tr ++ [(deps, c.Δ.map (·.1))]) hi ss) fs ⟨setD ρ ao.dst c.v, H.puts c.Δ, ms⟩ Q) : DCallR P R g args ao lo l tr hi ss fs ρ H ms Q :=
  ⟨c, deps, hK.1, h, hK.2.1, hK.2.2.1, hK.2.2.2⟩

section
variable {R : Runner} {ao : AOper} {deps : List Nat} {lo hi : Nat} {l : List AOper} {tr : List (List Nat × List Nat)} {ss : List (List AOper)} {fs : List Frame} {ρ : List AVal} {H : Heap} {ms : List Nat} {Q : Goal}
theorem oweG_some (r : AVal × List (Nat × Row)) : oweG R (some r) ao deps lo l tr hi ss fs ρ H ms Q = (dynOK ao.free deps (r.2.map (·.1)) tr lo = true ∧ R (.grp lo l (tr ++ [(deps, r.2.map (·.1))]) hi ss) fs ⟨setD ρ ao.dst r.1, H.puts r.2, ms⟩ Q) := rfl
theorem oweG_none : oweG R none ao deps lo l tr hi ss fs ρ H ms Q = False := rfl
theorem oweG_if (c : Prop) [Decidable c] (o : Option (AVal × List (Nat × Row))) : oweG R (if c then o else none) ao deps lo l tr hi ss fs ρ H ms Q = (c ∧ oweG R o ao deps lo l tr hi ss fs ρ H ms Q) := by
  by_cases h : c <;> simp [h, oweG]
theorem oweG_if' (c : Prop) [Decidable c] (o : Option (AVal × List (Nat × Row))) : oweG R (if c then none else o) ao deps lo l tr hi ss fs ρ H ms Q = (¬ c ∧ oweG R o ao deps lo l tr hi ss fs ρ H ms Q) := by
  by_cases h : c <;> simp [h, oweG]
theorem oweG_ite (c : Prop) [Decidable c] (o o' : Option (AVal × List (Nat × Row))) : oweG R (if c then o else o') ao deps lo l tr hi ss fs ρ H ms Q = ((c → oweG R o ao deps lo l tr hi ss fs ρ H ms Q) ∧ (¬ c → oweG R o' ao deps lo l tr hi ss fs ρ H ms Q)) := by
  by_cases h : c <;> simp [h]
theorem gdG_true : gdG P R (some true) ao lo l tr hi ss fs ρ H ms Q = stepG P R ao ao.op lo l tr hi ss fs (known ρ true ao.guard) H ms Q := rfl
theorem gdG_false : gdG P R (some false) ao lo l tr hi ss fs ρ H ms Q = R (.grp lo l (tr ++ [([], [])]) hi ss) fs ⟨setD (known ρ false ao.guard) ao.dst (.tup []), H, ms⟩ Q := rfl
theorem gdG_some (b : Bool) : gdG P R (some b) ao lo l tr hi ss fs ρ H ms Q = ((b = true → gdG P R (some true) ao lo l tr hi ss fs ρ H ms Q) ∧ (b = false → gdG P R (some false) ao lo l tr hi ss fs ρ H ms Q)) := by cases b <;> simp
end
variable {R : Runner} {l : List AOper} {fs : List Frame} {ρ : List AVal} {H : Heap} {ms : List Nat} {Q : Goal} {dst : Option Nat}
theorem owe_some (r : AVal × List (Nat × Row)) : owe R (some r) dst l fs ρ H ms Q = R (.ops l) fs ⟨setD ρ dst r.1, H.puts r.2, ms⟩ Q := rfl
theorem owe_none : owe R none dst l fs ρ H ms Q = False := rfl
theorem owe_if (c : Prop) [Decidable c] (o : Option (AVal × List (Nat × Row))) : owe R (if c then o else none) dst l fs ρ H ms Q = (c ∧ owe R o dst l fs ρ H ms Q) := by
  by_cases h : c <;> simp [h, owe]
theorem owe_if' (c : Prop) [Decidable c] (o : Option (AVal × List (Nat × Row))) : owe R (if c then none else o) dst l fs ρ H ms Q = (¬ c ∧ owe R o dst l fs ρ H ms Q) := by
  by_cases h : c <;> simp [h, owe]
theorem owe_ite (c : Prop) [Decidable c] (o o' : Option (AVal × List (Nat × Row))) : owe R (if c then o else o') dst l fs ρ H ms Q = ((c → owe R o dst l fs ρ H ms Q) ∧ (¬ c → owe R o' dst l fs ρ H ms Q)) := by
  by_cases h : c <;> simp [h]
theorem gd_true (o : AOper) : gd P G k rd R (some true) o l fs ρ H ms Q = stepOp P G k rd R o o.op l fs (known ρ true o.guard) H ms Q := rfl
theorem gd_false (o : AOper) : gd P G k rd R (some false) o l fs ρ H ms Q = R (.ops l) fs ⟨setD (known ρ false o.guard) o.dst (.tup []), H, ms⟩ Q := rfl
theorem gd_some (b : Bool) (o : AOper) : gd P G k rd R (some b) o l fs ρ H ms Q = ((b = true → gd P G k rd R (some true) o l fs ρ H ms Q) ∧ (b = false → gd P G k rd R (some false) o l fs ρ H ms Q)) := by cases b <;> simp
theorem br_true (x y : ACode) (s : St) : br R (.bool true) x y fs s Q = R (.code x) fs s Q := rfl
theorem br_false (x y : ACode) (s : St) : br R (.bool false) x y fs s Q = R (.code y) fs s Q := rfl
theorem br_some (b : Bool) (x y : ACode) (s : St) : br R (.bool b) x y fs s Q = ((b = true → R (.code x) fs s Q) ∧ (b = false → R (.code y) fs s Q)) := by cases b <;> simp [br]
end

@[simp] theorem Heap.puts_nil (H : Heap) : H.puts [] = H := rfl
@[simp] theorem Heap.puts_cons (H : Heap) (r : Nat) (x : Row) (l : List (Nat × Row)) : H.puts ((r, x) :: l) = (H.put r x).puts l := rfl
@[simp] theorem Heap.put_end' (H : Heap) (x : Row) : Heap.put H (List.length H) x = H ++ [some x] := Heap.put_end H x
end Go.Sx
