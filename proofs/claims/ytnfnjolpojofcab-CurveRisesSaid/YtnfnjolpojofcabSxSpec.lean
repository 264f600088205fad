/- What is said of a function: its answer, and the rows that it leaves. -/
import Derived.Test.YtnfnjolpojofcabSxRun
namespace Go.Sx
open Go

/-- From these rows, the function hands back r and leaves LH'; whatever else it laid is let go. -/
def Ans (P : Program) (g : FuncId) (args : List AVal) (LH : Heap) (r : AVal) (LH' : Heap) : Prop := Fn P g args LH fun v H' => v = r ∧ ∃ X, H' = LH' ++ X

/-- All refer only to rows in S. -/
def Bels (S : Nat → Prop) : List AVal → Prop
  | [] => True
  | v :: vs => Bel S v ∧ Bels S vs

theorem bels_iff {S : Nat → Prop} : ∀ l : List AVal, Bels S l ↔ ∀ i, i < l.length → Bel S (l.getD i .any)
  | [] => by simp [Bels]
  | v :: vs => by
    simp only [Bels, bels_iff vs]
    constructor
    · rintro ⟨h1, h2⟩ i hi
      cases i with
      | zero => exact h1
      | succ i => simpa using h2 i (by simpa using hi)
    · intro h
      exact ⟨by simpa using h 0 (by simp), fun i hi => by simpa using h (i + 1) (by simpa using hi)⟩

theorem bels_mem {S : Nat → Prop} {l : List AVal} (h : Bels S l) : ∀ v ∈ l, Bel S v := by
  intro v hv
  rw [List.mem_iff_getElem] at hv
  obtain ⟨i, hi, rfl⟩ := hv
  have := (bels_iff l).1 h i hi
  rwa [List.getD_eq_getElem?_getD, List.getElem?_eq_getElem hi] at this

theorem bels_of {S : Nat → Prop} {l : List AVal} (h : ∀ v ∈ l, Bel S v) : Bels S l := by
  rw [bels_iff]
  intro i hi
  rw [List.getD_eq_getElem?_getD, List.getElem?_eq_getElem hi]
  exact h _ (List.getElem_mem hi)

theorem bel_of_cells {S : Nat → Prop} {v : AVal} (h : ∀ j, j < (acells v).length → Bel S ((acells v).getD j .any)) : Bel S v := by
  by_cases hv : ∃ cs, v = .agg cs
  · obtain ⟨cs, rfl⟩ := hv; exact .agg cs h
  · rw [acells_one hv] at h; simpa using h 0 (by simp)

theorem bel_agg {S : Nat → Prop} (cs : List AVal) : Bel S (.agg cs) = Bels S cs := propext ⟨fun h => by cases h with | agg _ hv => exact (bels_iff cs).2 hv, fun h => .agg cs ((bels_iff cs).1 h)⟩
theorem bel_tup {S : Nat → Prop} (cs : List AVal) : Bel S (.tup cs) = Bels S cs := propext ⟨fun h => by cases h with | tup _ hv => exact (bels_iff cs).2 hv, fun h => .tup cs ((bels_iff cs).1 h)⟩
theorem bel_view {S : Nat → Prop} (es : List AVal) : Bel S (.view es) = Bels S es := propext ⟨fun h => by
    cases h with | view _ hv => exact (bels_iff es).2 fun i hi => bel_of_cells fun j hj => hv i j hi hj,
  fun h => .view es fun i j hi hj => Bel.cells ((bels_iff es).1 h i hi) j hj⟩
theorem bel_rptr {S : Nat → Prop} (e : AVal) (o : Nat) : Bel S (.rptr e o) = Bel S e := propext ⟨fun h => by cases h with | rptr _ _ hv => exact bel_of_cells hv, fun h => .rptr e o (Bel.cells h)⟩
theorem bel_fn {S : Nat → Prop} (f : Go.Fn) (a b : List AVal) : Bel S (.fn f a b) = (Bels S a ∧ Bels S b) := propext ⟨fun h => by cases h with | fn _ _ _ va vb => exact ⟨(bels_iff a).2 va, (bels_iff b).2 vb⟩, fun h => .fn f a b ((bels_iff a).1 h.1) ((bels_iff b).1 h.2)⟩
theorem bel_iface {S : Nat → Prop} (t : TypeId) (v : AVal) : Bel S (.iface t v) = Bel S v := propext ⟨fun h => by cases h with | iface _ _ h => exact h, fun h => .iface t v h⟩
theorem bel_ptr {S : Nat → Prop} (r i o L : Nat) : Bel S (.ptr r i o L) = S r := propext ⟨fun h => by cases h with | ptr _ _ _ _ h => exact h, fun h => .ptr r i o L h⟩
theorem bel_sl {S : Nat → Prop} (r o l : Nat) : Bel S (.sl r o l) = S r := propext ⟨fun h => by cases h with | sl _ _ _ h => exact h, fun h => .sl r o l h⟩
theorem bel_yfn {S : Nat → Prop} (r : Nat) : Bel S (.yfn r) = S r := propext ⟨fun h => by cases h with | yfn _ h => exact h, fun h => .yfn r h⟩
theorem bels_map {α : Type} {S : Nat → Prop} (f : α → AVal) (l : List α) (h : ∀ a, Bel S (f a)) : Bels S (l.map f) := bels_of fun v hv => by
  obtain ⟨a, _, rfl⟩ := List.mem_map.1 hv; exact h a
theorem bels_ints {S : Nat → Prop} (k : IntKind) (l : List Int) : Bels S (l.map (.int k)) = True := eq_true (bels_map _ _ fun _ => .int _ _)
theorem bels_bools {S : Nat → Prop} (l : List Bool) : Bels S (l.map .bool) = True := eq_true (bels_map _ _ fun _ => .bool _)
theorem bels_app {S : Nat → Prop} (a b : List AVal) : Bels S (a ++ b) = (Bels S a ∧ Bels S b) := propext ⟨fun h => ⟨bels_of fun v hv => bels_mem h v (List.mem_append_left _ hv), bels_of fun v hv => bels_mem h v (List.mem_append_right _ hv)⟩,
  fun h => bels_of fun v hv => (List.mem_append.1 hv).elim (bels_mem h.1 v) (bels_mem h.2 v)⟩

/-- The rows of a heap refer only to rows in S, and none lacks. -/
def Full (S : Nat → Prop) : Heap → Prop
  | [] => True
  | some x :: H => x.bel S ∧ Full S H
  | none :: _ => False

theorem row_bel_cells {S : Nat → Prop} (g : Bool) (sz : Nat) (es : List AVal) : (Row.cells g sz es).bel S = Bels S es := propext ⟨fun h => (bels_iff es).2 fun i hi => bel_of_cells fun j hj => h i j hi hj, fun h i j hi hj => Bel.cells ((bels_iff es).1 h i hi) j hj⟩

theorem Full.get {S : Nat → Prop} : ∀ {H : Heap}, Full S H → ∀ i, i < H.length → ∃ x, H[i]? = some (some x) ∧ x.bel S
  | [], _, i, hi => by simp at hi
  | some x :: H, h, i, hi => by
    cases i with
    | zero => exact ⟨x, rfl, h.1⟩
    | succ i => simpa using Full.get h.2 i (by simpa using hi)
  | none :: H, h, i, hi => h.elim

/-- The caller's rows that are handed over. -/
def rowsOK (H : Heap) (f : Nat → Nat) : List Nat → Heap → Prop
  | [], [] => True
  | r :: ι, some x :: L => H[r]? = some (some (x.ren f)) ∧ rowsOK H f ι L
  | _, _ => False

theorem rowsOK.get {H : Heap} {f : Nat → Nat} : ∀ {ι : List Nat} {L : Heap}, rowsOK H f ι L → L.length = ι.length ∧ ∀ (i : Nat) x, L[i]? = some (some x) → H[nth ι i]? = some (some (x.ren f))
  | [], [], _ => ⟨rfl, fun i x hx => by simp at hx⟩
  | r :: ι, some x :: L, h => by
    obtain ⟨h1, h2⟩ := rowsOK.get h.2
    refine ⟨by simp [h1], fun i y hy => ?_⟩
    cases i with
    | zero => simp at hy; subst hy; exact h.1
    | succ i => simpa [nth] using h2 i y (by simpa using hy)
  | [], _ :: _, h => h.elim
  | _ :: _, [], h => h.elim
  | _ :: _, none :: _, h => h.elim

def outσ (ι : List Nat) (N : Nat) (i : Nat) : Nat := if i < ι.length then nth ι i else N + (i - ι.length)

/-- What a call writes and lays. -/
def outΔ (σ : Nat → Nat) : Nat → Heap → List (Nat × Row)
  | _, [] => []
  | i, some x :: L => (σ i, x.ren σ) :: outΔ σ (i + 1) L
  | i, none :: L => outΔ σ (i + 1) L

theorem outΔ_mem {σ : Nat → Nat} : ∀ {L : Heap} {i r : Nat} {x : Row}, (r, x) ∈ outΔ σ i L → ∃ j y, L[j]? = some (some y) ∧ r = σ (i + j) ∧ x = y.ren σ
  | [], _, _, _, h => by simp [outΔ] at h
  | some y :: L, i, r, x, h => by
    simp only [outΔ, List.mem_cons, Prod.mk.injEq] at h
    rcases h with ⟨rfl, rfl⟩ | h
    · exact ⟨0, y, rfl, rfl, rfl⟩
    · obtain ⟨j, z, h1, h2, h3⟩ := outΔ_mem h
      exact ⟨j + 1, z, by simpa using h1, by rw [h2]; congr 1; omega, h3⟩
  | none :: L, i, r, x, h => by
    obtain ⟨j, z, h1, h2, h3⟩ := outΔ_mem (L := L) h
    exact ⟨j + 1, z, by simpa using h1, by rw [h2]; congr 1; omega, h3⟩

theorem outΔ_in {σ : Nat → Nat} : ∀ {L : Heap} {i j : Nat} {y : Row}, L[j]? = some (some y) → (σ (i + j), y.ren σ) ∈ outΔ σ i L
  | [], _, j, _, h => by simp at h
  | some x :: L, i, j, y, h => by
    cases j with
    | zero => simp at h; subst h; simp [outΔ]
    | succ j =>
      have := outΔ_in (σ := σ) (L := L) (i := i + 1) (j := j) (by simpa using h)
      rw [show i + 1 + j = i + (j + 1) by omega] at this
      simp [outΔ, this]
  | none :: L, i, j, y, h => by
    cases j with
    | zero => simp at h
    | succ j =>
      have := outΔ_in (σ := σ) (L := L) (i := i + 1) (j := j) (by simpa using h)
      rw [show i + 1 + j = i + (j + 1) by omega] at this
      simpa [outΔ] using this

/-- The names of what is new. -/
def newNames (N : Nat) : Nat → List Nat
  | 0 => []
  | m + 1 => newNames N m ++ [N + m]

theorem mem_newNames {N : Nat} : ∀ {m r : Nat}, r ∈ newNames N m ↔ N ≤ r ∧ r < N + m
  | 0, r => by simp only [newNames, List.not_mem_nil, false_iff]; omega
  | m + 1, r => by
    rw [newNames, List.mem_append, mem_newNames, List.mem_singleton]; omega

/-- What has no rows stays as it is. -/
theorem ren_same {f : Nat → Nat} {v : AVal} (h : Bel (fun _ => False) v) : ren f v = v := by
  have cells : ∀ e : AVal, (∀ j, j < (acells e).length → ren f ((acells e).getD j .any) = (acells e).getD j .any) → ren f e = e := by
    intro e he
    by_cases hv : ∃ cs, e = .agg cs
    · obtain ⟨cs, rfl⟩ := hv
      simp only [ren, acells] at he ⊢
      congr 1
      refine list_ext_getD (by simp [rens_len]) fun i hi => ?_
      rw [rens_getD]
      exact he i (by simpa [rens_len] using hi)
    · rw [acells_one hv] at he
      simpa using he 0 (by simp)
  induction h with
  | any => rfl
  | bool b => rfl
  | int q n => rfl
  | str l => rfl
  | ptr r i off L hr => exact hr.elim
  | rptr e off _ ih => simp only [ren]; rw [cells e ih]
  | nilptr => rfl
  | sl r off len hr => exact hr.elim
  | view es _ ih =>
    simp only [ren]
    congr 1
    refine list_ext_getD (by simp [rens_len]) fun i hi => ?_
    rw [rens_getD]
    exact cells _ (ih i · (by simpa [rens_len] using hi))
  | nilsl => rfl
  | fn f' a b _ _ iha ihb =>
    simp only [ren]
    congr 1
    · exact list_ext_getD (by simp [rens_len]) fun i hi => by rw [rens_getD]; exact iha i (by simpa [rens_len] using hi)
    · exact list_ext_getD (by simp [rens_len]) fun i hi => by rw [rens_getD]; exact ihb i (by simpa [rens_len] using hi)
  | yfn r hr => exact hr.elim
  | nilfn => rfl
  | iface t v _ ih => simp only [ren, ih]
  | niliface => rfl
  | agg cs _ ih =>
    simp only [ren]
    congr 1
    exact list_ext_getD (by simp [rens_len]) fun i hi => by rw [rens_getD]; exact ih i (by simpa [rens_len] using hi)
  | tup cs _ ih =>
    simp only [ren]
    congr 1
    exact list_ext_getD (by simp [rens_len]) fun i hi => by rw [rens_getD]; exact ih i (by simpa [rens_len] using hi)
  | mp r hr => exact hr.elim
  | nilmap => rfl

section
variable {P : Program} {G : Ctx} {g : FuncId} {largs args : List AVal} {LH LH' H : Heap} {r : AVal}

/-- A call by what is said of it. -/
theorem Ans.dcall (h : Ans P g largs LH r LH') (ι : List Nat) (hn : ι.Nodup) (hrows : rowsOK H (nth ι) ι LH) (hargs : args = largs.map (ren (nth ι))) (hb : Bels (· < ι.length) largs) (hf : Full (· < ι.length) LH)
    (hlen : ι.length ≤ LH'.length) (hr : Bel (· < LH'.length) r) (hf' : Full (· < LH'.length) LH') (hlt : ∀ q ∈ ι, q < H.length) :
    DCall P g args (H.onlyR ι) ⟨ren (outσ ι H.length) r, outΔ (outσ ι H.length) 0 LH', newNames H.length (LH'.length - ι.length)⟩ := by
  obtain ⟨hl, hget⟩ := hrows.get
  have hσ0 : ∀ i, i < ι.length → outσ ι H.length i = nth ι i := fun i hi => by simp [outσ, hi]
  have hσ1 : ∀ i, ¬ i < ι.length → outσ ι H.length i = H.length + (i - ι.length) := fun i hi => by simp [outσ, hi]
  have hmem : ∀ i, i < ι.length → nth ι i ∈ ι := fun i hi => by
    have : nth ι i = ι[i] := by simp [nth, hi]
    rw [this]; exact List.getElem_mem hi
  refine ⟨(h ⟨fun _ => False, fun _ => False, default⟩).1, fun G H' μ cargs w hsub hfree hlc hv hH => ?_⟩
  refine (call_local (R' := fun v H'' => v = ren (outσ ι H.length) r ∧ H'' = H'.puts (outΔ (outσ ι H.length) 0 LH')) (Fr := fun _ q => q ∈ newNames H.length (LH'.length - ι.length)) h hn hl (fun i hi => by
    obtain ⟨x, hx, _⟩ := hf.get i (by omega); exact ⟨x, hx⟩) hargs (bels_mem hb) (fun i x hx => ⟨hsub _ _ ((onlyR_get _ _ _ _).2 ⟨hmem i (by rw [← hl]; exact (List.getElem?_eq_some_iff.1 hx).1), hget i x hx⟩), by
      obtain ⟨y, hy, hb⟩ := hf.get i (List.getElem?_eq_some_iff.1 hx).1
      rw [hx] at hy; cases hy; exact hb⟩) ?_ hlc hv hH (fun _ q hq => hfree q hq)).mono ?_
  · rintro v _ ⟨rfl, X, rfl⟩
    refine ⟨outσ ι H.length, (· < LH'.length), _, ⟨fun i hi => ⟨by omega, hσ0 i hi⟩, fun i hi => ?_, fun i j hi hj hij => ?_, hr, fun q x hq => ?_⟩, rfl, rfl⟩
    · by_cases hlt : i < ι.length
      · exact .inl hlt
      · right; rw [hσ1 i hlt, mem_newNames]; omega
    · by_cases h1 : i < ι.length <;> by_cases h2 : j < ι.length
      · rw [hσ0 i h1, hσ0 j h2] at hij; exact nth_inj hn h1 h2 hij
      · rw [hσ0 i h1, hσ1 j h2] at hij
        have := hlt _ (hmem i h1); omega
      · rw [hσ1 i h1, hσ0 j h2] at hij
        have := hlt _ (hmem j h2); omega
      · rw [hσ1 i h1, hσ1 j h2] at hij; omega
    · rcases puts_get _ H' q x hq with h1 | ⟨h1, h2⟩
      · obtain ⟨j, y, e1, e2, e3⟩ := outΔ_mem h1
        have hj := (List.getElem?_eq_some_iff.1 e1).1
        obtain ⟨y', hy', hb'⟩ := hf'.get j hj
        rw [e1] at hy'; cases hy'
        refine .inl ⟨j, y, hj, by rw [e2]; congr 1; omega, ?_, e3, hb'⟩
        rw [List.getElem?_append_left hj]; exact e1
      · refine .inr ⟨fun i hi hiq => h1 ?_, h2⟩
        obtain ⟨y, hy, _⟩ := hf'.get i hi
        rw [List.mem_map]
        exact ⟨(q, y.ren (outσ ι H.length)), by have := outΔ_in (σ := outσ ι H.length) (i := 0) hy; rw [Nat.zero_add, hiq] at this; exact this, rfl⟩
  · rintro e w' ⟨v', cv, μ', H'', rfl, ⟨rfl, rfl⟩, h1, h2, h3, h4⟩
    refine ⟨cv, μ', rfl, h1, h2, h3, fun q hq => (h4 q hq).imp id fun hq => ⟨hq, Heap.puts_lt ?_⟩⟩
    rw [mem_newNames] at hq
    have hj : ι.length + (q - H.length) < LH'.length := by omega
    obtain ⟨y, hy, _⟩ := hf'.get _ hj
    rw [List.mem_map]
    refine ⟨(q, y.ren (outσ ι H.length)), ?_, rfl⟩
    have := outΔ_in (σ := outσ ι H.length) (i := 0) hy
    rw [Nat.zero_add, hσ1 _ (by omega), show H.length + (ι.length + (q - H.length) - ι.length) = q by omega] at this
    exact this

theorem DCall.callOK {c : Oc} (h : DCall P g args H c) (hfs : ∀ r ∈ c.fs, H.length ≤ r) : CallOK P G g args H fun v H' => v = c.v ∧ H' = H.puts c.Δ := by
  refine ⟨h.1, fun μ cargs w h1 h2 h3 h4 => (h.2 G H μ cargs w (fun _ _ h => h) (fun r hr => ?_) h1 h2 h3).mono ?_⟩
  · cases hq : μ r with
    | none => rfl
    | some p => have := h4 r (by rw [hq]; rfl); have := hfs r hr; omega
  · rintro e w' ⟨cv, μ', rfl, k1, k2, k3, k4⟩
    refine ⟨c.v, cv, μ', _, rfl, ⟨rfl, rfl⟩, k1, k2, fun r hr => ?_, Mu.leB_of k3, fun r hr hn => ?_⟩
    · rcases k4 r hr with h | h
      · have := h4 r h; have := Heap.le_puts c.Δ H; omega
      · exact h.2
    · cases hq : μ' r with
      | none => rfl
      | some p =>
        rcases k4 r (by rw [hq]; rfl) with h | h
        · rw [hn] at h; cases h
        · have := hfs r h.1; omega

/-- No rows are handed over. -/
theorem Ans.dpure (h : Ans P g args [] r []) (hb : Bels (fun _ => False) args) (hr : Bel (fun _ => False) r) : DCall P g args [] ⟨r, [], []⟩ := by
  have e : ∀ v : AVal, Bel (fun _ => False) v → ∀ f, ren f v = v := fun v hv f => ren_same hv
  have := h.dcall (H := []) (args := args) [] List.nodup_nil trivial (by
    symm
    conv => rhs; rw [← List.map_id args]
    exact List.map_congr_left fun v hv => e v (bels_mem hb v hv) _) (by simpa using hb) trivial (Nat.le_refl _) (by simpa using hr) trivial (fun q hq => by simp at hq)
  have e0 : Heap.onlyR [] [] = [] := rfl
  rw [e0] at this
  simpa [outΔ, newNames, e r hr] using this

/-- No value looks into memory that is only read. -/
def NVs : List AVal → Prop
  | [] => True
  | v :: vs => NV v ∧ NVs vs

theorem nvs_iff : ∀ l : List AVal, NVs l ↔ ∀ i, i < l.length → NV (l.getD i .any)
  | [] => by simp [NVs]
  | v :: vs => by
    simp only [NVs, nvs_iff vs]
    constructor
    · rintro ⟨h1, h2⟩ i hi
      cases i with
      | zero => exact h1
      | succ i => simpa using h2 i (by simpa using hi)
    · intro h
      exact ⟨by simpa using h 0 (by simp), fun i hi => by simpa using h (i + 1) (by simpa using hi)⟩

theorem NV.cells {v : AVal} (h : NV v) : ∀ j, j < (acells v).length → NV ((acells v).getD j .any) := by
  intro j hj
  by_cases hv : ∃ cs, v = .agg cs
  · obtain ⟨cs, rfl⟩ := hv
    cases h with | agg _ hv => exact hv j hj
  · rw [acells_one hv] at hj ⊢
    simp only [List.length_singleton] at hj
    obtain rfl : j = 0 := by omega
    exact h

theorem nv_agg (cs : List AVal) : NV (.agg cs) = NVs cs := propext ⟨fun h => by cases h with | agg _ hv => exact (nvs_iff cs).2 hv, fun h => .agg cs ((nvs_iff cs).1 h)⟩
theorem nv_tup (cs : List AVal) : NV (.tup cs) = NVs cs := propext ⟨fun h => by cases h with | tup _ hv => exact (nvs_iff cs).2 hv, fun h => .tup cs ((nvs_iff cs).1 h)⟩
theorem nvs_of {l : List AVal} (h : ∀ v ∈ l, NV v) : NVs l := by
  rw [nvs_iff]
  intro i hi
  rw [List.getD_eq_getElem?_getD, List.getElem?_eq_getElem hi]
  exact h _ (List.getElem_mem hi)
theorem nvs_map {α : Type} (f : α → AVal) (l : List α) (h : ∀ a, NV (f a)) : NVs (l.map f) := nvs_of fun v hv => by
  obtain ⟨a, _, rfl⟩ := List.mem_map.1 hv; exact h a
theorem nvs_ints (k : IntKind) (l : List Int) : NVs (l.map (.int k)) = True := eq_true (nvs_map _ _ fun _ => .int _ _)
theorem row_nv_cells (g : Bool) (sz : Nat) {es : List AVal} (h : NVs es) : (Row.cells g sz es).nv := fun i _ hi hj => NV.cells ((nvs_iff es).1 h i hi) _ hj

def FullNV : Heap → Prop
  | [] => True
  | some x :: H => x.nv ∧ FullNV H
  | none :: _ => False

theorem FullNV.get : ∀ {H : Heap}, FullNV H → ∀ (i : Nat) x, H[i]? = some (some x) → x.nv
  | [], _, i, x, hi => by simp at hi
  | some y :: H, h, i, x, hx => by
    cases i with
    | zero => simp at hx; subst hx; exact h.1
    | succ i => exact FullNV.get h.2 i x (by simpa using hx)
  | none :: H, h, i, x, hi => h.elim

/-- A call that sees the caller's rows as memory that is only read. -/
theorem Ans.dfrz (h : Ans P g largs [] r LH') (d : Nat) (deps : List Nat) (hargs : args.map (frz d (H.onlyR deps)) = largs) (hr : Bel (· < LH'.length) r) (hnv : NV r) (hf' : Full (· < LH'.length) LH') (hn' : FullNV LH') :
    DCall P g args (H.onlyR deps) ⟨ren (outσ [] H.length) r, outΔ (outσ [] H.length) 0 LH', newNames H.length LH'.length⟩ := by
  subst hargs
  have hσ : ∀ i, outσ [] H.length i = H.length + i := fun i => by simp [outσ]
  refine ⟨(h ⟨fun _ => False, fun _ => False, default⟩).1, fun G H' μ cargs w hsub hfree hlc hv hH => ?_⟩
  refine (call_frz (R' := fun v H'' => v = ren (outσ [] H.length) r ∧ H'' = H'.puts (outΔ (outσ [] H.length) 0 LH')) (Fr := fun _ q => q ∈ newNames H.length LH'.length) hsub h ?_ hlc hv hH (fun _ q hq => hfree q hq)).mono ?_
  · rintro v _ ⟨rfl, X, rfl⟩
    refine ⟨outσ [] H.length, (· < LH'.length), _, ⟨fun i hi => ?_, fun i j hi hj hij => ?_, hr, hnv, fun q x hq => ?_⟩, rfl, rfl⟩
    · rw [hσ, mem_newNames]; omega
    · rw [hσ, hσ] at hij; omega
    · rcases puts_get _ H' q x hq with h1 | ⟨h1, h2⟩
      · obtain ⟨j, y, e1, e2, e3⟩ := outΔ_mem h1
        have hj := (List.getElem?_eq_some_iff.1 e1).1
        obtain ⟨y', hy', hb'⟩ := hf'.get j hj
        rw [e1] at hy'; cases hy'
        refine .inl ⟨j, y, hj, by rw [e2]; congr 1; omega, ?_, e3, hb', hn'.get j y e1⟩
        rw [List.getElem?_append_left hj]; exact e1
      · refine .inr ⟨fun i hi hiq => h1 ?_, h2⟩
        obtain ⟨y, hy, _⟩ := hf'.get i hi
        rw [List.mem_map]
        exact ⟨(q, y.ren (outσ [] H.length)), by have := outΔ_in (σ := outσ [] H.length) (i := 0) hy; rw [Nat.zero_add, hiq] at this; exact this, rfl⟩
  · rintro e w' ⟨v', cv, μ', H'', rfl, ⟨rfl, rfl⟩, h1, h2, h3, h4⟩
    refine ⟨cv, μ', rfl, h1, h2, h3, fun q hq => (h4 q hq).imp id fun hq => ⟨hq, Heap.puts_lt ?_⟩⟩
    rw [mem_newNames] at hq
    have hj : q - H.length < LH'.length := by omega
    obtain ⟨y, hy, _⟩ := hf'.get _ hj
    rw [List.mem_map]
    refine ⟨(q, y.ren (outσ [] H.length)), ?_, rfl⟩
    have := outΔ_in (σ := outσ [] H.length) (i := 0) hy
    rw [Nat.zero_add, hσ, show H.length + (q - H.length) = q by omega] at this
    exact this

/-! ### In code that is being reckoned -/
variable {k : Nat} {rd : Option Nat} {R : Runner} {l : List AOper} {fs : List Frame} {ρ : List AVal} {ms : List Nat} {Q : Goal} {dst : Option Nat} {ao : AOper} {lo hi : Nat} {tr : List (List Nat × List Nat)} {ss : List (List AOper)}

/-- No rows are handed over, none comes back. -/
theorem callP (h : Ans P g args [] r []) (hb : Bels (fun _ => False) args) (hr : Bel (fun _ => False) r) (hk : k ≤ H.length) (hms : ∀ q ∈ ms, H[q]? = some (some .dfr)) (hK : R (.ops l) fs ⟨setD ρ dst r, H, ms⟩ Q) : CallR P G k R g args dst l fs ρ H ms Q :=
  callR (((h.dpure hb hr).sub (H' := H) (fun q x hx => by simp at hx)).callOK (fun q hq => by simp at hq)) hk (by
    rintro v H' ⟨rfl, rfl⟩
    exact ⟨hms, hK⟩)

theorem dcallP (h : Ans P g args [] r []) (hb : Bels (fun _ => False) args) (hr : Bel (fun _ => False) r) (hd : dynOK ao.free [] [] tr lo = true) (hK : R (.grp lo l (tr ++ [([], [])]) hi ss) fs ⟨setD ρ ao.dst r, H, ms⟩ Q) : DCallR P R g args ao lo l tr hi ss fs ρ H ms Q :=
  dcallR (deps := []) ((h.dpure hb hr).sub (fun q x hx => by simp at hx)) ⟨fun q _ => by simp [Oc.rows], fun q hq => by simp at hq, hd, hK⟩

theorem marks_kept {Δ : List (Nat × Row)} (hms : ∀ q ∈ ms, q ∉ Δ.map (·.1) ∧ H[q]? = some (some .dfr)) : ∀ q ∈ ms, (H.puts Δ)[q]? = some (some .dfr) := fun q hq => (Same.off Δ (hms q hq).1 _).2 (hms q hq).2

/-- Rows are handed over. -/
theorem callS (h : Ans P g largs LH r LH') (ι : List Nat) (hn : ι.Nodup) (hrows : rowsOK H (nth ι) ι LH) (hargs : args = largs.map (ren (nth ι))) (hb : Bels (· < ι.length) largs) (hf : Full (· < ι.length) LH)
    (hlen : ι.length ≤ LH'.length) (hr : Bel (· < LH'.length) r) (hf' : Full (· < LH'.length) LH') (hlt : ∀ q ∈ ι, q < H.length) (hk : k ≤ H.length) (hms : ∀ q ∈ ms, q ∉ (outΔ (outσ ι H.length) 0 LH').map (·.1) ∧ H[q]? = some (some .dfr))
    (hK : R (.ops l) fs ⟨setD ρ dst (ren (outσ ι H.length) r), H.puts (outΔ (outσ ι H.length) 0 LH'), ms⟩ Q) : CallR P G k R g args dst l fs ρ H ms Q :=
  callR (((h.dcall ι hn hrows hargs hb hf hlen hr hf' hlt).sub (onlyR_sub _ _)).callOK (fun q hq => (mem_newNames.1 hq).1)) hk (by
    rintro v H' ⟨rfl, rfl⟩
    exact ⟨marks_kept hms, hK⟩)

/-- The caller's rows are only read. -/
theorem callF (h : Ans P g largs [] r LH') (d : Nat) (hargs : args.map (frz d H) = largs) (hr : Bel (· < LH'.length) r) (hnv : NV r) (hf' : Full (· < LH'.length) LH') (hn' : FullNV LH') (hk : k ≤ H.length)
    (hms : ∀ q ∈ ms, q ∉ (outΔ (outσ [] H.length) 0 LH').map (·.1) ∧ H[q]? = some (some .dfr)) (hK : R (.ops l) fs ⟨setD ρ dst (ren (outσ [] H.length) r), H.puts (outΔ (outσ [] H.length) 0 LH'), ms⟩ Q) : CallR P G k R g args dst l fs ρ H ms Q := by
  have e : H.onlyR (List.range H.length) = H := by
    apply List.ext_getElem?
    intro i
    unfold Heap.onlyR
    rw [List.getElem?_map, List.getElem?_zipIdx]
    cases hi : H[i]? with
    | none => rfl
    | some x => simp [(List.getElem?_eq_some_iff.1 hi).1]
  have hd := h.dfrz (H := H) (args := args) d (List.range H.length) (by rw [e]; exact hargs) hr hnv hf' hn'
  exact callR ((hd.sub (onlyR_sub _ _)).callOK (fun q hq => (mem_newNames.1 hq).1)) hk (by
    rintro v H' ⟨rfl, rfl⟩
    exact ⟨marks_kept hms, hK⟩)
end

/-- A function of the program, and its compiled code. -/
def EntryOK (P : Program) (f : Nat) (af : AFun) : Prop := ∃ fn, P.funcs[f]? = some fn ∧ cfun P fn = af ∧ (fn.name != "runtime.NumGoroutine" && fn.body.isSome) = true

theorem spec_run {P : Program} {f : Nat} {af : AFun} {args : List AVal} {H H' : Heap} {r : AVal} (e : EntryOK P f af)
    (h : ∀ G, Run P G H.length none 400 (.code af.body) [] ⟨args ++ List.replicate (af.ntmps - args.length) .any, H, []⟩ (RetPost af.res fun v H'' => v = r ∧ ∃ X, H'' = H' ++ X)) : Ans P f args H r H' := fun G => by
  obtain ⟨fn, h1, h2, h3⟩ := e
  exact call_of_afun h1 h2 h3 (run_aw 400 (h G))

theorem spec_ex {P : Program} (hm : P.follows .mixedOrders = true) {tab : Nat → Option AFun} (hT : ∀ g af, tab g = some af → EntryOK P g af) {m n g : Nat} {args : List AVal} {H H' : Heap} {r : AVal} (h : exFn tab m n g args H = some (r, H')) : Ans P g args H r H' :=
  (exFn_sound hm (fun g af h => by
    have h2 : EntryOK P g af := hT g af h
    obtain ⟨fn, h3, h4, h5⟩ := h2
    exact ⟨fn, h3, h4, h5⟩) n g args H r H' h).mono fun v H'' hv => ⟨hv.1, [], by rw [hv.2]; simp⟩
end Go.Sx
