/- Drawn regions, part by part. -/
import Derived.Test.YtnfnjolpojofcabSxIter
namespace Go.Sx
open Go

def disj (a b : List Nat) : Bool := a.all fun x => !b.contains x

/-- A heap's rows of which one speaks. -/
def Heap.onlyR (H : Heap) (l : List Nat) : Heap := H.zipIdx.map fun (x, i) => if i ∈ l then x else none

theorem onlyR_get (H : Heap) (l : List Nat) (r : Nat) (y : Row) : (H.onlyR l)[r]? = some (some y) ↔ r ∈ l ∧ H[r]? = some (some y) := by
  unfold Heap.onlyR
  rw [List.getElem?_map, List.getElem?_zipIdx]
  cases h : H[r]? with
  | none => simp
  | some x =>
    simp only [Option.map_some, Nat.zero_add, Option.some.injEq]
    by_cases hr : r ∈ l
    · simp [hr]
    · simp [hr]

theorem disj_spec {a b : List Nat} (h : disj a b = true) {r : Nat} (ha : r ∈ a) : r ∉ b := by
  unfold disj at h
  have := List.all_eq_true.1 h r ha
  simpa using this

/-- What can be seen of two operations by their text alone. -/
def pairStat (x y : AOper) : Bool :=
  (match x.dst with | some t => !y.op.tmps.contains t && (!(guardTmps y.guard).contains t && decide (y.dst ≠ some t)) | none => true) &&
  (match y.dst with | some t => !x.op.tmps.contains t && !(guardTmps x.guard).contains t | none => true)

def statOne (l : List AOper) (j : Nat) (y : AOper) : Bool := !y.free.contains j && y.free.all fun i => match l[i]? with | some x => pairStat x y | none => true

/-- Operations that may come in either order do not meet in temporaries. -/
def statOK (l : List AOper) : Bool := l.zipIdx.all fun (y, j) => statOne l j y

theorem statOK_spec {l : List AOper} (h : statOK l = true) {j : Nat} {y : AOper} (hy : l[j]? = some y) : j ∉ y.free ∧ ∀ i x, i ∈ y.free → l[i]? = some x → pairStat x y = true := by
  unfold statOK at h
  have := List.all_eq_true.1 h (y, j) (by rw [List.mem_iff_getElem?]; exact ⟨j, by rw [List.getElem?_zipIdx, hy]; simp⟩)
  simp only [statOne, Bool.and_eq_true, Bool.not_eq_true', List.contains_eq_mem, decide_eq_false_iff_not, List.all_eq_true] at this
  refine ⟨this.1, fun i x hi hx => ?_⟩
  have h2 := this.2 i hi
  rw [hx] at h2; exact h2

/-- The rows of two operations that may come in either order do not meet. -/
def dynOK (free deps rows : List Nat) : List (List Nat × List Nat) → Nat → Bool
  | [], _ => true
  | (d, w) :: tr, i => (!free.contains i || (disj w rows && (disj d rows && disj deps w))) && dynOK free deps rows tr (i + 1)

theorem dynOK_spec {free deps rows : List Nat} : ∀ {tr : List (List Nat × List Nat)} {i : Nat}, dynOK free deps rows tr i = true → ∀ k d w, tr[k]? = some (d, w) → i + k ∈ free → disj w rows = true ∧ disj d rows = true ∧ disj deps w = true
  | [], i, h, k, d, w, hk, _ => by simp at hk
  | (d', w') :: tr, i, h, k, d, w, hk, hm => by
    simp only [dynOK, Bool.and_eq_true, Bool.or_eq_true, Bool.not_eq_true', List.contains_eq_mem, decide_eq_false_iff_not] at h
    cases k with
    | zero =>
      simp only [List.getElem?_cons_zero, Option.some.injEq, Prod.mk.injEq] at hk
      obtain ⟨rfl, rfl⟩ := hk
      rcases h.1 with h1 | h1
      · exact absurd hm h1
      · exact ⟨h1.1, h1.2.1, h1.2.2⟩
    | succ k =>
      simp only [List.getElem?_cons_succ] at hk
      exact dynOK_spec h.2 k d w hk (by rwa [show i + 1 + k = i + (k + 1) by omega])

/-- The operations of one part, in the order of the text; 'tr': what those before looked at and wrote. -/
def AGrp (P : Program) (base : Nat) : List AOper → List (List Nat × List Nat) → St → (St → Prop) → Prop
  | [], _, s, K => K s
  | ao :: l, tr, s, K =>
    match gval s.ρ ao.guard with
    | none => False
    | some false => AGrp P base l (tr ++ [([], [])]) { s with ρ := setD s.ρ ao.dst (.tup []) } K
    | some true =>
      match ao.op with
      | .call f xs => ∃ g ys cs c deps, (∀ q ∈ s.ms, q ∉ c.rows) ∧ opd s.ρ f = .fn (.func g) ys cs ∧ DCall P g (ys ++ xs.map (opd s.ρ) ++ cs) (s.H.onlyR deps) c ∧ (∀ r ∈ c.fs, s.H.length ≤ r ∧ r < (s.H.puts c.Δ).length) ∧
          dynOK ao.free deps (c.Δ.map (·.1)) tr base = true ∧ AGrp P base l (tr ++ [(deps, c.Δ.map (·.1))]) { s with ρ := setD s.ρ ao.dst c.v, H := s.H.puts c.Δ } K
      | op =>
        match aev op s.ρ s.H s.H.length with
        | none => False
        | some r => dynOK ao.free (adeps op s.ρ) (r.2.map (·.1)) tr base = true ∧ AGrp P base l (tr ++ [(adeps op s.ρ, r.2.map (·.1))]) { s with ρ := setD s.ρ ao.dst r.1, H := s.H.puts r.2 } K

def stepρ (ρ : List AVal) (x : AOper × Oc) : List AVal := setD ρ x.1.dst x.2.v
def stepH (H : Heap) (x : AOper × Oc) : Heap := H.puts x.2.Δ

theorem rAfter_before (l : List (AOper × Oc)) : ∀ (i j : Nat) (ρ : List AVal), rAfter l i (before j) ρ = (l.take (j - i)).foldl stepρ ρ := by
  induction l with
  | nil => intros; simp [rAfter]
  | cons x l ih =>
    intro i j ρ
    simp only [rAfter]
    by_cases h : i < j
    · have e : before j i = true := by simp [before, h]
      rw [e, if_pos rfl, ih, show j - i = (j - (i + 1)) + 1 by omega, List.take_succ_cons, List.foldl_cons]; rfl
    · have e : before j i = false := by simp [before, h]
      rw [e, if_neg (by simp), ih, show j - i = 0 by omega, show j - (i + 1) = 0 by omega]; rfl
theorem hAfter_before (l : List (AOper × Oc)) : ∀ (i j : Nat) (H : Heap), hAfter l i (before j) H = (l.take (j - i)).foldl stepH H := by
  induction l with
  | nil => intros; simp [hAfter]
  | cons x l ih =>
    intro i j ρ
    simp only [hAfter]
    by_cases h : i < j
    · have e : before j i = true := by simp [before, h]
      rw [e, if_pos rfl, ih, show j - i = (j - (i + 1)) + 1 by omega, List.take_succ_cons, List.foldl_cons]; rfl
    · have e : before j i = false := by simp [before, h]
      rw [e, if_neg (by simp), ih, show j - i = 0 by omega, show j - (i + 1) = 0 by omega]; rfl
theorem rAfter_all (l : List (AOper × Oc)) : ∀ (i : Nat) (ρ : List AVal), rAfter l i (fun _ => true) ρ = l.foldl stepρ ρ := by
  induction l with
  | nil => intros; rfl
  | cons x l ih => intro i ρ; simp only [rAfter, if_true, ih, List.foldl_cons]; rfl
theorem hAfter_all (l : List (AOper × Oc)) : ∀ (i : Nat) (H : Heap), hAfter l i (fun _ => true) H = l.foldl stepH H := by
  induction l with
  | nil => intros; rfl
  | cons x l ih => intro i ρ; simp only [hAfter, if_true, ih, List.foldl_cons]; rfl
theorem gone_ρ (n : Nat) (ρ : List AVal) : (List.replicate n gone).foldl stepρ ρ = ρ := by
  induction n with
  | zero => rfl
  | succ n ih => rw [List.replicate_succ, List.foldl_cons]; exact ih
theorem gone_H (n : Nat) (H : Heap) : (List.replicate n gone).foldl stepH H = H := by
  induction n with
  | zero => rfl
  | succ n ih => rw [List.replicate_succ, List.foldl_cons]; exact ih

theorem foldH_len (l : List (AOper × Oc)) : ∀ H : Heap, H.length ≤ (l.foldl stepH H).length := by
  induction l with
  | nil => intro H; exact Nat.le_refl _
  | cons x l ih => intro H; exact Nat.le_trans (Heap.le_puts x.2.Δ H) (ih _)

theorem Heap.puts_lt {n : Nat} : ∀ {Δ : List (Nat × Row)} {H : Heap}, n ∈ Δ.map (·.1) → n < (H.puts Δ).length
  | [], _, h => by simp at h
  | (r, x) :: Δ, H, h => by
    simp only [Heap.puts]
    simp only [List.map_cons, List.mem_cons] at h
    rcases h with rfl | h
    · have := Heap.le_puts Δ (H.put n x)
      rw [Heap.len_put] at this
      omega
    · exact Heap.puts_lt h

/-- What is known of the operations of a part that have been gone through. -/
structure Inv (P : Program) (s : St) (lo : Nat) (done : List (AOper × Oc)) (tr : List (List Nat × List Nat)) : Prop where
  len : tr.length = done.length
  fresh : ∀ (k : Nat) x, done[k]? = some x → ∀ r ∈ x.2.fs, ((done.take k).foldl stepH s.H).length ≤ r ∧ r < ((done.take (k + 1)).foldl stepH s.H).length
  does : ∀ (k : Nat) x, done[k]? = some x →
    (gval ((done.take k).foldl stepρ s.ρ) x.1.guard = some false ∧ x.2.v = .tup [] ∧ x.2.Δ = [] ∧ tr[k]? = some ([], [])) ∨
    (gval ((done.take k).foldl stepρ s.ρ) x.1.guard = some true ∧ (∃ n, aev x.1.op ((done.take k).foldl stepρ s.ρ) ((done.take k).foldl stepH s.H) n = some (x.2.v, x.2.Δ) ∧ (n ∈ x.2.Δ.map (·.1) → n ∈ x.2.fs)) ∧
      tr[k]? = some (adeps x.1.op ((done.take k).foldl stepρ s.ρ), x.2.rows)) ∨
    (gval ((done.take k).foldl stepρ s.ρ) x.1.guard = some true ∧ (∀ q ∈ s.ms, q ∉ x.2.rows) ∧ ∃ f xs g ys cs deps, x.1.op = .call f xs ∧ opd ((done.take k).foldl stepρ s.ρ) f = .fn (.func g) ys cs ∧
      DCall P g (ys ++ xs.map (opd ((done.take k).foldl stepρ s.ρ)) ++ cs) (((done.take k).foldl stepH s.H).onlyR deps) x.2 ∧ tr[k]? = some (deps, x.2.rows))
  pairs : ∀ (i k : Nat) x d w d' w', i < k → done[k]? = some x → lo + i ∈ x.1.free → tr[i]? = some (d, w) → tr[k]? = some (d', w') → disj w w' = true ∧ disj d w' = true ∧ disj d' w = true

theorem Inv.snoc {P : Program} {s : St} {lo : Nat} {done : List (AOper × Oc)} {tr : List (List Nat × List Nat)} (h : Inv P s lo done tr) {x : AOper × Oc} {e : List Nat × List Nat}
    (hf : ∀ r ∈ x.2.fs, (done.foldl stepH s.H).length ≤ r ∧ r < ((done.foldl stepH s.H).puts x.2.Δ).length)
    (hd : (gval (done.foldl stepρ s.ρ) x.1.guard = some false ∧ x.2.v = .tup [] ∧ x.2.Δ = [] ∧ e = ([], [])) ∨
      (gval (done.foldl stepρ s.ρ) x.1.guard = some true ∧ (∃ n, aev x.1.op (done.foldl stepρ s.ρ) (done.foldl stepH s.H) n = some (x.2.v, x.2.Δ) ∧ (n ∈ x.2.Δ.map (·.1) → n ∈ x.2.fs)) ∧ e = (adeps x.1.op (done.foldl stepρ s.ρ), x.2.rows)) ∨
      (gval (done.foldl stepρ s.ρ) x.1.guard = some true ∧ (∀ q ∈ s.ms, q ∉ x.2.rows) ∧ ∃ f xs g ys cs deps, x.1.op = .call f xs ∧ opd (done.foldl stepρ s.ρ) f = .fn (.func g) ys cs ∧
        DCall P g (ys ++ xs.map (opd (done.foldl stepρ s.ρ)) ++ cs) ((done.foldl stepH s.H).onlyR deps) x.2 ∧ e = (deps, x.2.rows)))
    (hp : dynOK x.1.free e.1 e.2 tr lo = true) : Inv P s lo (done ++ [x]) (tr ++ [e]) := by
  have tk : ∀ k, k ≤ done.length → (done ++ [x]).take k = done.take k := fun k hk => List.take_append_of_le_length hk
  have tk1 : (done ++ [x]).take (done.length + 1) = done ++ [x] := List.take_of_length_le (by simp)
  have tk0 : (done ++ [x]).take done.length = done := by rw [tk _ (Nat.le_refl _)]; exact List.take_length
  have cs : ∀ (k : Nat) y, (done ++ [x])[k]? = some y → (k < done.length ∧ done[k]? = some y) ∨ (k = done.length ∧ y = x) := by
    intro k y hy
    by_cases hk : k < done.length
    · rw [List.getElem?_append_left hk] at hy; exact .inl ⟨hk, hy⟩
    · rw [List.getElem?_append_right (by omega)] at hy
      right
      by_cases h0 : k - done.length = 0
      · rw [h0] at hy; simp at hy; exact ⟨by omega, hy.symm⟩
      · rw [List.getElem?_eq_none (by simp; omega)] at hy; cases hy
  have trl : ∀ k, k < done.length → (tr ++ [e])[k]? = tr[k]? := fun k hk => List.getElem?_append_left (by rw [h.len]; exact hk)
  have tre : (tr ++ [e])[done.length]? = some e := by rw [List.getElem?_append_right (by rw [h.len]; exact Nat.le_refl _), h.len]; simp
  refine ⟨by simp [h.len], fun k y hy r hr => ?_, fun k y hy => ?_, fun i k y d w d' w' hik hy hm hi hk => ?_⟩
  · rcases cs k y hy with ⟨hk, hy⟩ | ⟨rfl, rfl⟩
    · rw [tk k (by omega), tk (k + 1) (by omega)]; exact h.fresh k y hy r hr
    · rw [tk0, tk1, List.foldl_append]; exact hf r hr
  · rcases cs k y hy with ⟨hk, hy⟩ | ⟨rfl, rfl⟩
    · rw [tk k (by omega), trl k hk]; exact h.does k y hy
    · rw [tk0, tre]
      rcases hd with ⟨h1, h2, h3, h4⟩ | ⟨h1, h2, h3⟩ | ⟨h1, h2, f, xs, g, ys, cs, deps, h3, h4, h5, h6⟩
      · exact .inl ⟨h1, h2, h3, by rw [h4]⟩
      · exact .inr (.inl ⟨h1, h2, by rw [h3]⟩)
      · exact .inr (.inr ⟨h1, h2, f, xs, g, ys, cs, deps, h3, h4, h5, by rw [h6]⟩)
  · rcases cs k y hy with ⟨hk', hy⟩ | ⟨rfl, rfl⟩
    · rw [trl k hk'] at hk
      rw [trl i (by omega)] at hi
      exact h.pairs i k y d w d' w' hik hy hm hi hk
    · rw [tre] at hk; cases hk
      rw [trl i hik] at hi
      have := dynOK_spec hp i d w hi hm
      exact this

theorem pairStat_fst {x y : AOper} (h : pairStat x y = true) {t : Nat} (ht : x.dst = some t) : t ∉ y.op.tmps ∧ t ∉ guardTmps y.guard ∧ y.dst ≠ some t := by
  unfold pairStat at h
  rw [ht] at h
  simp only [Bool.and_eq_true, Bool.not_eq_true', List.contains_eq_mem, decide_eq_false_iff_not, decide_eq_true_eq] at h
  exact ⟨h.1.1, h.1.2.1, h.1.2.2⟩
theorem pairStat_snd {x y : AOper} (h : pairStat x y = true) {t : Nat} (ht : y.dst = some t) : t ∉ x.op.tmps ∧ t ∉ guardTmps x.guard := by
  unfold pairStat at h
  rw [ht] at h
  simp only [Bool.and_eq_true, Bool.not_eq_true', List.contains_eq_mem, decide_eq_false_iff_not] at h
  exact h.2

section
variable {P : Program} {G : Ctx} {k : Nat} {rd : Option Nat} {s : St} {ops : Array Oper} {K : St → Prop}

theorem onlyR_mask {H : Heap} {deps rs : List Nat} (h : ∀ r ∈ deps, r ∉ rs) : (H.onlyR deps).sub (H.mask rs) := fun r x hx => by
  rw [onlyR_get] at hx
  rw [mask_get]
  exact ⟨h r hx.1, hx.2⟩

theorem DCall.sub {g : FuncId} {args : List AVal} {H H' : Heap} {c : Oc} (h : DCall P g args H c) (hs : H.sub H') : DCall P g args H' c :=
  ⟨h.1, fun G H'' μ cargs w h1 h2 h3 h4 h5 => h.2 G H'' μ cargs w (fun r x hx => h1 r x (hs r x hx)) h2 h3 h4 h5⟩

/-- All is known of a part. -/
theorem dr_inv (hu : Upward ops) {aops : List AOper} (haops : aops = ops.toList.zipIdx.map fun (o, i) => coper P ops true i o) (hst : statOK aops = true) {lo : Nat} {done : List (AOper × Oc)} {tr : List (List Nat × List Nat)} (hI : Inv P s lo done tr)
    (hdone : ∀ (i : Nat) x, done[i]? = some x → aops[lo + i]? = some x.1) (hlo : lo ≤ ops.size) (hlen : lo + done.length ≤ ops.size) (hcut : ∀ m y, lo + done.length ≤ m → aops[m]? = some y → ∀ q ∈ y.free, q < lo ∨ lo + done.length ≤ q)
    (h : DR P G k rd ops (lo + done.length) ⟨done.foldl stepρ s.ρ, done.foldl stepH s.H, s.ms⟩ K) : DR P G k rd ops lo s K := by
  have hasz : aops.length = ops.size := by rw [haops]; simp
  have haop : ∀ j y, aops[j]? = some y → ∃ o, ops[j]? = some o ∧ coper P ops true j o = y := by
    intro j y hy
    rw [haops, List.getElem?_map, List.getElem?_zipIdx] at hy
    cases ho : ops.toList[j]? with
    | none => rw [ho] at hy; simp at hy
    | some o =>
      rw [ho] at hy
      simp only [Option.map_some, Nat.zero_add, Option.some.injEq] at hy
      exact ⟨o, by simpa using ho, hy⟩
  have hL : (List.replicate lo gone ++ done).length = lo + done.length := by simp
  have hget : ∀ (j : Nat) x, (List.replicate lo gone ++ done)[j]? = some x → (j < lo ∧ x = gone) ∨ (lo ≤ j ∧ done[j - lo]? = some x) := by
    intro j x hx
    by_cases hj : j < lo
    · rw [List.getElem?_append_left (by simpa using hj), List.getElem?_replicate, if_pos hj] at hx
      cases hx; exact .inl ⟨hj, rfl⟩
    · rw [List.getElem?_append_right (by simpa using hj)] at hx
      exact .inr ⟨by omega, by simpa using hx⟩
  have hρ : ∀ j, lo ≤ j → rAfter (List.replicate lo gone ++ done) 0 (before j) s.ρ = (done.take (j - lo)).foldl stepρ s.ρ := fun j hj => by
    rw [rAfter_before, Nat.sub_zero, List.take_append, List.foldl_append, List.length_replicate, List.take_of_length_le (by simpa using hj), gone_ρ]
  have hH : ∀ j, lo ≤ j → hAfter (List.replicate lo gone ++ done) 0 (before j) s.H = (done.take (j - lo)).foldl stepH s.H := fun j hj => by
    rw [hAfter_before, Nat.sub_zero, List.take_append, List.foldl_append, List.length_replicate, List.take_of_length_le (by simpa using hj), gone_H]
  -- the fresh rows
  have hmono : ∀ a b, a ≤ b → ((done.take a).foldl stepH s.H).length ≤ ((done.take b).foldl stepH s.H).length := fun a b hab => by
    have : done.take b = done.take a ++ (done.drop a).take (b - a) := by
      rw [← List.take_append_drop a (done.take b), List.take_take, Nat.min_eq_left hab, List.drop_take]
    rw [this, List.foldl_append]
    exact foldH_len _ _
  refine dr_seg hu (l := List.replicate lo gone ++ done) (by rw [hL]; exact hlen) (by rw [hL]; omega) (fun j x hj hx => ?_) (fun j x hj hx => ?_) (fun j x hj hx => ?_) (fun m j hm hms hj hjl => ?_) ?_
  · rcases hget j x hx with ⟨h1, _⟩ | ⟨h1, h2⟩
    · omega
    · have := hdone _ _ h2
      rw [show lo + (j - lo) = j by omega] at this
      exact haop j _ this
  · rcases hget j x hx with ⟨_, h2⟩ | ⟨h1, _⟩
    · exact h2
    · omega
  · rcases hget j x hx with ⟨h1, _⟩ | ⟨_, h2⟩
    · omega
    have hao := hdone _ _ h2
    rw [show lo + (j - lo) = j by omega] at hao
    obtain ⟨hf1, hf2⟩ := statOK_spec hst hao
    have hjk : j - lo < done.length := (List.getElem?_eq_some_iff.1 h2).1
    obtain ⟨⟨d', w'⟩, htr⟩ : ∃ e, tr[j - lo]? = some e := ⟨_, List.getElem?_eq_getElem (by rw [hI.len]; exact hjk)⟩
    -- an unordered one
    have hun : ∀ m y, (List.replicate lo gone ++ done)[m]? = some y → unord x.1 j y.1 m → y = gone ∨ (lo ≤ m ∧ ∃ d w, tr[m - lo]? = some (d, w) ∧ w = y.2.rows ∧ disj w w' = true ∧ disj w' w = true ∧ disj d' w = true ∧
        (∀ t, y.1.dst = some t → t ∉ x.1.op.tmps ∧ t ∉ guardTmps x.1.guard ∧ x.1.dst ≠ some t)) := by
      intro m y hy hu
      rcases hget m y hy with ⟨_, rfl⟩ | ⟨hm, hy2⟩
      · exact .inl rfl
      · right
        have hmk : m - lo < done.length := (List.getElem?_eq_some_iff.1 hy2).1
        obtain ⟨⟨d, w⟩, htm⟩ : ∃ e, tr[m - lo]? = some e := ⟨_, List.getElem?_eq_getElem (by rw [hI.len]; exact hmk)⟩
        have hwy : w = y.2.rows := by
          rcases hI.does _ _ hy2 with ⟨_, _, h3, h4⟩ | ⟨_, _, h3⟩ | ⟨_, _, _, _, _, _, _, _, _, _, _, h3⟩
          · rw [htm] at h4; cases h4; simp [Oc.rows, h3]
          · rw [htm] at h3; cases h3; rfl
          · rw [htm] at h3; cases h3; rfl
        have haom := hdone _ _ hy2
        rw [show lo + (m - lo) = m by omega] at haom
        have dsym : ∀ a b : List Nat, disj a b = true → disj b a = true := fun a b hab => by
          unfold disj
          rw [List.all_eq_true]
          intro q hq
          simp only [Bool.not_eq_true', List.contains_eq_mem, decide_eq_false_iff_not]
          exact fun hqa => disj_spec hab hqa hq
        refine ⟨hm, d, w, htm, hwy, ?_⟩
        rcases hu with ⟨hlt, hmf⟩ | ⟨hlt, hjf⟩
        · have := hI.pairs (m - lo) (j - lo) x d w d' w' (by omega) h2 (by rw [show lo + (m - lo) = m by omega]; exact hmf) htm htr
          exact ⟨this.1, dsym _ _ this.1, this.2.2, fun t ht => pairStat_fst (hf2 m _ hmf haom) ht⟩
        · have := hI.pairs (j - lo) (m - lo) y d' w' d w (by omega) hy2 (by rw [show lo + (j - lo) = j by omega]; exact hjf) htr htm
          have hst2 := (statOK_spec hst haom).2 j _ hjf hao
          exact ⟨dsym _ _ this.1, this.1, this.2.1, fun t ht => ⟨(pairStat_snd hst2 ht).1, (pairStat_snd hst2 ht).2, fun hx => (pairStat_fst hst2 hx).2.2 ht⟩⟩
    have hw'x : w' = x.2.rows := by
      rcases hI.does _ _ h2 with ⟨_, _, h3, h4⟩ | ⟨_, _, h3⟩ | ⟨_, _, _, _, _, _, _, _, _, _, _, h3⟩
      · rw [htr] at h4; cases h4; simp [Oc.rows, h3]
      · rw [htr] at h3; cases h3; rfl
      · rw [htr] at h3; cases h3; rfl
    have hloose : ∀ r ∈ d', r ∉ loose (List.replicate lo gone ++ done) x.1 j := by
      intro r hr hl
      unfold loose at hl
      rw [List.mem_flatMap] at hl
      obtain ⟨⟨y, m⟩, hm, hr'⟩ := hl
      rw [List.mem_iff_getElem?] at hm
      obtain ⟨q, hq⟩ := hm
      rw [List.getElem?_zipIdx] at hq
      cases hy : (List.replicate lo gone ++ done)[q]? with
      | none => rw [hy] at hq; simp at hq
      | some y' =>
        rw [hy] at hq
        simp only [Option.map_some, Nat.zero_add, Option.some.injEq, Prod.mk.injEq] at hq
        obtain ⟨rfl, rfl⟩ := hq
        simp only at hr'
        split at hr'
        · rename_i hu
          rcases hun q y' hy hu with rfl | ⟨_, d, w, _, h4, _, _, h5, _⟩
          · simp [gone, Oc.rows] at hr'
          · rw [← h4] at hr'; exact disj_spec h5 hr hr'
        · simp at hr'
    have hfr := hI.fresh _ _ h2
    refine ⟨hf1, fun m y hy hu => ?_, fun r hr => ?_, fun m y hy hne r hr hry => ?_, ?_⟩
    · rcases hun m y hy hu with rfl | ⟨_, d, w, _, h4, h5, h6, _, h7⟩
      · exact ⟨fun t ht => by simp [gone] at ht, fun r _ => by simp [gone, Oc.rows]⟩
      · refine ⟨h7, fun r hr => ?_⟩
        rw [← hw'x] at hr
        rw [← h4]; exact disj_spec h6 hr
    · have := (hfr r hr).1
      have h3 := hmono 0 (j - lo) (by omega)
      simp only [List.take_zero, List.foldl_nil] at h3
      omega
    · rcases hget m y hy with ⟨_, rfl⟩ | ⟨hm, hy2⟩
      · simp [gone] at hry
      · have h3 := hfr r hr
        have h4 := hI.fresh _ _ hy2 r hry
        rcases Nat.lt_or_ge m j with hmj | hmj
        · have := hmono (m - lo + 1) (j - lo) (by omega); omega
        · have := hmono (j - lo + 1) (m - lo) (by omega); omega
    · rw [hρ j hj, hH j hj]
      rcases hI.does _ _ h2 with ⟨h3, h4, h5, _⟩ | ⟨h3, ⟨n, h4, h5⟩, h6⟩ | ⟨h3, h4, f, xs, g, ys, cs, deps, h5, h6, h7, h8⟩
      · exact .inl ⟨h3, h4, h5⟩
      · refine .inr (.inl ⟨h3, n, ?_, h5⟩)
        rw [htr] at h6; cases h6
        refine aev_dep (fun r hr y hy => ?_) h4
        rw [cellsAt_mask, if_neg (hloose r hr)]; exact hy
      · rw [htr] at h8; cases h8
        exact .inr (.inr ⟨h3, h4, f, xs, g, ys, cs, h5, h6, h7.sub (onlyR_mask hloose)⟩)
  · obtain ⟨y, hy⟩ : ∃ y, aops[m]? = some y := ⟨_, List.getElem?_eq_getElem (by omega)⟩
    rw [hL] at hm hjl
    have hq := hcut m y hm hy
    obtain ⟨o, ho, hco⟩ := haop m y hy
    have hmf := (statOK_spec hst hy).1
    rw [← hco] at hq hmf
    simp only [coper, if_true] at hq hmf
    split at hq
    · rename_i he
      refine Decidable.byContradiction fun hn => ?_
      have := hq j (List.mem_filter.2 ⟨List.mem_range.2 (by omega), by simpa using hn⟩)
      omega
    · rename_i he
      rw [if_neg he] at hmf
      simp at hmf
  · rw [hL, rAfter_all, hAfter_all, List.foldl_append, List.foldl_append, gone_ρ, gone_H]; exact h

theorem dr_grp (hu : Upward ops) {aops : List AOper} (haops : aops = ops.toList.zipIdx.map fun (o, i) => coper P ops true i o) (hst : statOK aops = true) {lo hi : Nat} (hhi : hi ≤ ops.size) (hcut : ∀ m y, hi ≤ m → aops[m]? = some y → ∀ q ∈ y.free, q < lo ∨ hi ≤ q) :
    ∀ (l : List AOper) (done : List (AOper × Oc)) (tr : List (List Nat × List Nat)) (s' : St), lo + done.length + l.length = hi → Inv P s lo done tr → (∀ (i : Nat) x, done[i]? = some x → aops[lo + i]? = some x.1) → (∀ (i : Nat) y, l[i]? = some y → aops[lo + done.length + i]? = some y) →
      s' = ⟨done.foldl stepρ s.ρ, done.foldl stepH s.H, s.ms⟩ → AGrp P lo l tr s' (fun s'' => DR P G k rd ops hi s'' K) → DR P G k rd ops lo s K
  | [], done, tr, s', hlen, hI, hd, _, hs', h => by
    subst hs'
    simp only [List.length_nil, Nat.add_zero] at hlen
    subst hlen
    exact dr_inv hu haops hst hI hd (by omega) hhi hcut h
  | ao :: l, done, tr, s', hlen, hI, hd, hl, hs', h => by
    subst hs'
    have next : ∀ (x : AOper × Oc) (e : List Nat × List Nat), x.1 = ao → Inv P s lo (done ++ [x]) (tr ++ [e]) → AGrp P lo l (tr ++ [e]) ⟨setD (done.foldl stepρ s.ρ) x.1.dst x.2.v, (done.foldl stepH s.H).puts x.2.Δ, s.ms⟩ (fun s'' => DR P G k rd ops hi s'' K) → DR P G k rd ops lo s K := by
      intro x e hx hI' hA
      refine dr_grp hu haops hst hhi hcut l (done ++ [x]) (tr ++ [e]) _ (by simp only [List.length_append, List.length_cons, List.length_nil] at hlen ⊢; omega) hI' (fun i y hy => ?_) (fun i y hy => ?_) (by rw [List.foldl_append, List.foldl_append]; rfl) hA
      · by_cases hi : i < done.length
        · rw [List.getElem?_append_left hi] at hy; exact hd i y hy
        · rw [List.getElem?_append_right (by omega)] at hy
          have h0 : i - done.length = 0 := by
            refine Decidable.byContradiction fun hc => ?_
            rw [List.getElem?_eq_none (by simp; omega)] at hy; cases hy
          rw [h0] at hy
          simp only [List.getElem?_cons_zero, Option.some.injEq] at hy
          subst hy
          have := hl 0 ao (by simp)
          rw [hx, show lo + i = lo + done.length + 0 by omega]; exact this
      · have := hl (i + 1) y (by simpa using hy)
        rw [List.length_append, List.length_singleton, show lo + (done.length + 1) + i = lo + done.length + (i + 1) by omega]; exact this
    simp only [AGrp] at h
    cases hg : gval (done.foldl stepρ s.ρ) ao.guard with
    | none => rw [hg] at h; exact h.elim
    | some b =>
      rw [hg] at h
      cases b with
      | false =>
        refine next (ao, ⟨.tup [], [], []⟩) ([], []) rfl (hI.snoc (fun r hr => by simp at hr) (.inl ⟨hg, rfl, rfl, rfl⟩) ?_) h
        have : ∀ (tr : List (List Nat × List Nat)) i, dynOK ao.free [] [] tr i = true := by
          intro tr
          induction tr with
          | nil => intro i; rfl
          | cons p tr ih =>
            intro i
            have e : ∀ l : List Nat, disj l [] = true := fun l => by simp [disj]
            simp only [dynOK, e, ih]
            simp [disj]
        exact this _ _
      | true =>
        have simple : (match aev ao.op (done.foldl stepρ s.ρ) (done.foldl stepH s.H) (done.foldl stepH s.H).length with
            | none => False
            | some r => dynOK ao.free (adeps ao.op (done.foldl stepρ s.ρ)) (r.2.map (·.1)) tr lo = true ∧ AGrp P lo l (tr ++ [(adeps ao.op (done.foldl stepρ s.ρ), r.2.map (·.1))]) ⟨setD (done.foldl stepρ s.ρ) ao.dst r.1, (done.foldl stepH s.H).puts r.2, s.ms⟩ (fun s'' => DR P G k rd ops hi s'' K)) → DR P G k rd ops lo s K := by
          intro h
          cases he : aev ao.op (done.foldl stepρ s.ρ) (done.foldl stepH s.H) (done.foldl stepH s.H).length with
          | none => rw [he] at h; exact h.elim
          | some r =>
            rw [he] at h
            obtain ⟨v, Δ⟩ := r
            obtain ⟨h1, h2⟩ := h
            refine next (ao, ⟨v, Δ, if (done.foldl stepH s.H).length ∈ Δ.map (·.1) then [(done.foldl stepH s.H).length] else []⟩) _ rfl (hI.snoc (fun r hr => ?_) (.inr (.inl ⟨hg, ⟨_, he, fun hn => by simp only [if_pos hn]; simp⟩, rfl⟩)) h1) h2
            simp only at hr
            split at hr
            · rename_i hn
              simp only [List.mem_singleton] at hr
              subst hr
              exact ⟨Nat.le_refl _, Heap.puts_lt hn⟩
            · simp at hr
        cases hop : ao.op
        case call f xs =>
          rw [hop] at h
          obtain ⟨g, ys, cs, c, deps, hms, h1, h2, h3, h4, h5⟩ := h
          exact next (ao, c) (deps, c.Δ.map (·.1)) rfl (hI.snoc h3 (.inr (.inr ⟨hg, hms, f, xs, g, ys, cs, deps, hop, h1, h2, rfl⟩)) h4) h5
        all_goals (rw [hop] at h; rw [hop] at simple; exact simple h)

/-- What stands behind the p-th operation comes behind all those before it. -/
def cutOK (lo p : Nat) (rest : List AOper) : Bool := (rest.drop p).all fun y => y.free.all fun q => decide (q < lo) || decide (lo + p ≤ q)

def cutFrom (lo : Nat) (rest : List AOper) : Nat → Nat → Nat
  | 0, _ => rest.length
  | n + 1, p => if cutOK lo p rest = true then p else cutFrom lo rest n (p + 1)

def segsOf : Nat → Nat → List AOper → List (List AOper)
  | 0, _, _ => []
  | _ + 1, _, [] => []
  | n + 1, lo, a :: rest => (a :: rest).take (cutFrom lo (a :: rest) (a :: rest).length 1) :: segsOf n (lo + cutFrom lo (a :: rest) (a :: rest).length 1) ((a :: rest).drop (cutFrom lo (a :: rest) (a :: rest).length 1))

/-- A drawn region's parts. -/
def segs (l : List AOper) : List (List AOper) := segsOf l.length 0 l

theorem cutFrom_spec {lo : Nat} {rest : List AOper} (hr : 0 < rest.length) : ∀ (n p : Nat), 1 ≤ p → 1 ≤ cutFrom lo rest n p ∧ ∀ m y, cutFrom lo rest n p ≤ m → rest[m]? = some y → ∀ q ∈ y.free, q < lo ∨ lo + cutFrom lo rest n p ≤ q
  | 0, p, _ => ⟨hr, fun m y hm hy => by simp only [cutFrom] at hm; rw [List.getElem?_eq_none hm] at hy; cases hy⟩
  | n + 1, p, hp => by
    simp only [cutFrom]
    split
    · rename_i hc
      refine ⟨hp, fun m y hm hy q hq => ?_⟩
      unfold cutOK at hc
      have h1 : (rest.drop p)[m - p]? = some y := by rw [List.getElem?_drop, show p + (m - p) = m by omega]; exact hy
      have := List.all_eq_true.1 (List.all_eq_true.1 hc y (List.mem_of_getElem? h1)) q hq
      simpa using this
    · exact cutFrom_spec hr n (p + 1) (by omega)

/-- A right way of parting a region. -/
def Valid (aops : List AOper) : Nat → List (List AOper) → Prop
  | lo, [] => aops.length ≤ lo
  | lo, grp :: ss => grp ≠ [] ∧ (∀ (i : Nat) y, grp[i]? = some y → aops[lo + i]? = some y) ∧ lo + grp.length ≤ aops.length ∧
      (∀ (m : Nat) y, lo + grp.length ≤ m → aops[m]? = some y → ∀ q ∈ y.free, q < lo ∨ lo + grp.length ≤ q) ∧ Valid aops (lo + grp.length) ss

theorem segs_valid (aops : List AOper) : ∀ (n lo : Nat), aops.length - lo ≤ n → Valid aops lo (segsOf n lo (aops.drop lo)) := by
  intro n
  induction n with
  | zero => intro lo h; simp only [segsOf, Valid]; omega
  | succ n ih =>
    intro lo h
    cases hd : aops.drop lo with
    | nil =>
      simp only [segsOf, Valid]
      have := congrArg List.length hd
      simp at this; omega
    | cons a rest =>
      have hlen : (a :: rest).length = aops.length - lo := by rw [← hd, List.length_drop]
      have hpos : 0 < aops.length - lo := by rw [← hlen]; simp
      obtain ⟨h1, h2⟩ := cutFrom_spec (lo := lo) (rest := a :: rest) (by simp) (a :: rest).length 1 (Nat.le_refl _)
      simp only [segsOf]
      generalize cutFrom lo (a :: rest) (a :: rest).length 1 = p at h1 h2 ⊢
      have hget : ∀ i, (a :: rest)[i]? = aops[lo + i]? := fun i => by rw [← hd, List.getElem?_drop]
      have hl2 : ((a :: rest).take p).length = min p (aops.length - lo) := by rw [List.length_take, hlen]
      have hcut : ∀ (m : Nat) y, lo + ((a :: rest).take p).length ≤ m → aops[m]? = some y → ∀ q ∈ y.free, q < lo ∨ lo + ((a :: rest).take p).length ≤ q := by
        intro m y hm hy q hq
        have hml : m < aops.length := (List.getElem?_eq_some_iff.1 hy).1
        rw [hl2] at hm ⊢
        have hm2 : p ≤ m - lo := by omega
        have := h2 (m - lo) y hm2 (by rw [hget, show lo + (m - lo) = m by omega]; exact hy) q hq
        omega
      refine ⟨?_, fun i y hy => ?_, by rw [hl2]; omega, hcut, ?_⟩
      · intro he
        have := congrArg List.length he
        rw [hl2] at this
        simp at this hlen
        omega
      · rw [List.getElem?_take] at hy
        split at hy
        · rw [← hget]; exact hy
        · cases hy
      · have e : (a :: rest).drop p = aops.drop (lo + p) := by rw [← hd, List.drop_drop]
        rw [e]
        rcases Nat.lt_or_ge (aops.length - lo) p with hp | hp
        · have e1 : aops.drop (lo + p) = [] := List.drop_eq_nil_of_le (by omega)
          rw [e1]
          have e2 : segsOf n (lo + p) [] = [] := by cases n <;> rfl
          rw [e2, hl2]
          simp only [Valid]; omega
        · rw [show lo + ((a :: rest).take p).length = lo + p by rw [hl2]; omega]
          exact ih (lo + p) (by omega)

/-- A drawn region, part by part. -/
def ASegs (P : Program) (G : Ctx) (k : Nat) (rd : Option Nat) : Nat → List (List AOper) → St → (St → Prop) → Prop
  | _, [], s, K => K s
  | lo, [ao] :: ss, s, K => OpA P G k rd ao s fun s' => ASegs P G k rd (lo + 1) ss s' K
  | lo, grp :: ss, s, K => AGrp P lo grp [] s fun s' => ASegs P G k rd (lo + grp.length) ss s' K

theorem AGrp.mono {base : Nat} {K' : St → Prop} (hK : ∀ s, K s → K' s) : ∀ (l : List AOper) (tr : List (List Nat × List Nat)) (s : St), AGrp P base l tr s K → AGrp P base l tr s K'
  | [], _, s, h => hK s h
  | ao :: l, tr, s, h => by
    simp only [AGrp] at h ⊢
    cases hg : gval s.ρ ao.guard with
    | none => rw [hg] at h; exact h.elim
    | some b =>
      rw [hg] at h
      cases b with
      | false => exact AGrp.mono hK l _ _ h
      | true =>
        have simple : ∀ o : Option (AVal × List (Nat × Row)), (match o with
            | none => False
            | some r => dynOK ao.free (adeps ao.op s.ρ) (r.2.map (·.1)) tr base = true ∧ AGrp P base l (tr ++ [(adeps ao.op s.ρ, r.2.map (·.1))]) { s with ρ := setD s.ρ ao.dst r.1, H := s.H.puts r.2 } K) → (match o with
            | none => False
            | some r => dynOK ao.free (adeps ao.op s.ρ) (r.2.map (·.1)) tr base = true ∧ AGrp P base l (tr ++ [(adeps ao.op s.ρ, r.2.map (·.1))]) { s with ρ := setD s.ρ ao.dst r.1, H := s.H.puts r.2 } K') := by
          intro o ho
          cases o with
          | none => exact ho
          | some r => exact ⟨ho.1, AGrp.mono hK l _ _ ho.2⟩
        cases hop : ao.op
        case call f xs =>
          rw [hop] at h
          obtain ⟨g, ys, cs, c, deps, hms, h1, h2, h3, h4, h5⟩ := h
          exact ⟨g, ys, cs, c, deps, hms, h1, h2, h3, h4, AGrp.mono hK l _ _ h5⟩
        all_goals (have simple' := simple (aev ao.op s.ρ s.H s.H.length); rw [hop] at h simple'; exact simple' h)

theorem OpA.mono {ao : AOper} {K' : St → Prop} (hK : ∀ s, K s → K' s) (h : OpA P G k rd ao s K) : OpA P G k rd ao s K' :=
  fun ops draw i o Q hi hc μ ro a w h1 h2 => wpOpIn_mono (fun _ _ ⟨μ', s', q1, q2⟩ => ⟨μ', s', hK _ q1, q2⟩) (h ops draw i o Q hi hc μ ro a w h1 h2)

theorem dr_segs (hu : Upward ops) {aops : List AOper} (haops : aops = ops.toList.zipIdx.map fun (o, i) => coper P ops true i o) (hst : statOK aops = true) :
    ∀ (ss : List (List AOper)) (lo : Nat) (s : St), Valid aops lo ss → ASegs P G k rd lo ss s K → DR P G k rd ops lo s K := by
  have hasz : aops.length = ops.size := by rw [haops]; simp
  intro ss
  induction ss with
  | nil => intro lo s hv h; exact dr_end (by simp only [Valid] at hv; omega) h
  | cons grp ss ih =>
    intro lo s hv h
    obtain ⟨h1, h2, h3, h4, h5⟩ := hv
    match grp, h with
    | [], _ => exact absurd rfl h1
    | [ao], h =>
      have hao := h2 0 ao (by simp)
      simp only [Nat.add_zero] at hao
      have hlo : lo < ops.size := by simp only [List.length_singleton] at h3; omega
      have ho : ops[lo]? = some ops[lo] := by simp [hlo]
      have hco : coper P ops true lo ops[lo] = ao := by
        rw [haops, List.getElem?_map, List.getElem?_zipIdx] at hao
        simpa [hlo] using hao
      refine dr_bar hu ho (fun m hm hms => ?_) ?_
      · obtain ⟨y, hy⟩ : ∃ y, aops[m]? = some y := ⟨_, List.getElem?_eq_getElem (by omega)⟩
        have hq := h4 m y (by simp only [List.length_singleton]; omega) hy
        have hmf := (statOK_spec hst hy).1
        rw [haops, List.getElem?_map, List.getElem?_zipIdx] at hy
        simp [hms] at hy
        rw [← hy] at hq hmf
        simp only [coper, if_true] at hq hmf
        split at hq
        · refine Decidable.byContradiction fun hn => ?_
          have := hq lo (List.mem_filter.2 ⟨List.mem_range.2 (by omega), by simpa using hn⟩)
          simp only [List.length_singleton] at this
          omega
        · rename_i he
          rw [if_neg he] at hmf
          simp at hmf
      · rw [hco]
        simp only [ASegs] at h
        exact h.mono fun s' hs' => ih (lo + 1) s' h5 hs'
    | a :: b :: grp, h =>
      simp only [ASegs] at h
      refine dr_grp hu haops hst (hi := lo + (a :: b :: grp).length) (by omega) h4 (a :: b :: grp) [] [] s (by simp) ⟨rfl, fun k x hx => by simp at hx, fun k x hx => by simp at hx, fun i k x d w d' w' _ hx => by simp at hx⟩ (fun i x hx => by simp at hx) (fun i y hy => by simpa using h2 i y hy) rfl ?_
      exact AGrp.mono (fun s' hs' => ih _ s' h5 hs') _ _ _ h

theorem aw_reg_segs {l : List AOper} {Q : Exit → St → Prop} (hm : P.follows .mixedOrders = true) (hst : statOK l = true) (h : ASegs P G k rd 0 (segs l) s (Q .normal)) : AW P G k rd (.reg l true) Q s := by
  refine aw_reg_dr hm fun ops haops => ?_
  have hu : Upward ops := by
    intro j o ho
    have hy : l[j]? = some (coper P ops true j o) := by
      rw [haops, List.getElem?_map, List.getElem?_zipIdx]
      have : ops.toList[j]? = some o := by simpa using ho
      rw [this]; simp
    have hmf := (statOK_spec hst hy).1
    simp only [coper, if_true] at hmf
    split at hmf
    · assumption
    · simp at hmf
  refine dr_segs hu haops hst (segs l) 0 s ?_ h
  have := segs_valid l l.length 0 (by omega)
  simpa [segs] using this
end
end Go.Sx
