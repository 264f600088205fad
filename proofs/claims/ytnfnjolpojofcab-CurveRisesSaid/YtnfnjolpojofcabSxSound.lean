/- What 'aev' says of an operation is what the program does. -/
import Derived.Test.YtnfnjolpojofcabSxEval
namespace Go.Sx
open Go

/-- The temporaries. -/
def TR (G : Ctx) (μ : Mu) (ρ : List AVal) (tmps : Array Value) : Prop := ρ.length = tmps.size ∧ ∀ t, VR G μ (ρ.getD t .any) (tmps.getD t undef)

theorem TR.mono {G : Ctx} {μ μ' : Mu} {ρ : List AVal} {tmps : Array Value} (h : TR G μ ρ tmps) (hμ : μ.le μ') : TR G μ' ρ tmps := ⟨h.1, fun t => (h.2 t).mono hμ⟩

theorem cval_func (G : Ctx) (μ : Mu) (d : Nat) (f : Fn) (a b : Array Value) : VR G μ (cval d (.func f a b)) (.func f a b) := by
  have : cval d (.func f a b) = match f with | .func g => if a.size = 0 ∧ b.size = 0 then .fn (.func g) [] [] else .any | _ => .any := by
    cases d <;> rfl
  rw [this]
  cases f <;> try exact .any _
  simp only
  split
  · rename_i h
    exact .fn _ _ _ _ _ h.1.symm h.2.symm (fun i hi => by simp at hi) (fun i hi => by simp at hi)
  · exact .any _

theorem cval_slice (G : Ctx) (μ : Mu) (d : Nat) (a : Option Addr) (n c : Nat) : VR G μ (cval d (.slice a n c)) (.slice a n c) := by
  cases a with
  | some a => cases d <;> exact .any _
  | none =>
    have : cval d (.slice none n c) = if n = 0 ∧ c = 0 then .nilsl else .any := by cases d <;> rfl
    rw [this]
    split
    · rename_i h
      obtain ⟨rfl, rfl⟩ := h
      exact .nilsl
    · exact .any _

theorem cval_sound (G : Ctx) (μ : Mu) : ∀ (d : Nat) (v : Value), VR G μ (cval d v) v := by
  intro d
  induction d with
  | zero =>
    intro v
    cases v with
    | func f a b => exact cval_func G μ _ f a b
    | slice a n c => exact cval_slice G μ _ a n c
    | pointer a => cases a <;> constructor
    | map a => cases a <;> constructor
    | string s => exact .str _ _ rfl
    | _ => constructor
  | succ d ih =>
    intro v
    cases v with
    | func f a b => exact cval_func G μ _ f a b
    | slice a n c => exact cval_slice G μ _ a n c
    | pointer a => cases a <;> constructor
    | map a => cases a <;> constructor
    | string s => exact .str _ _ rfl
    | agg cs =>
      refine .agg _ _ (by simp) fun i hi => ?_
      have hi' : i < cs.size := by simpa using hi
      simp only [List.getD_eq_getElem?_getD, List.getElem?_map]
      simp [hi', Array.getD, ih]
    | iface t v => exact .iface _ _ _ (ih _)
    | _ => constructor

theorem opd_sound {G : Ctx} {μ : Mu} {ρ : List AVal} {a : Act} (h : TR G μ ρ a.tmps) (x : Operand) : VR G μ (opd ρ (copd x)) (a.eval x) := by
  cases x with
  | tmp t => simp only [copd, opd, tget_eq]; exact h.2 t
  | const v => exact cval_sound G μ 3 v
  | global g => exact .any _
  | func f =>
    refine .fn _ _ _ _ _ rfl rfl ?_ ?_ <;> (intro i hi; simp at hi)

/-- What an operation does, where it comes to an end by itself. -/
def Step (P : Program) (G : Ctx) (μ : Mu) (H : Heap) (n : Nat) (s : Sem Next) (w : World) (v : AVal) (Δ : List (Nat × Row)) : Prop :=
  ∃ x cv w' μ', s.run P w = .ok x w' ∧ (x = .value cv ∨ x = .skip ∧ cv = undef) ∧ VR G μ' v cv ∧ μ.le μ' ∧ HR P G μ' (H.puts Δ) w' ∧
    ∀ r, (μ' r).isSome = true → (μ r).isSome = true ∨ r = n ∧ n < (H.puts Δ).length

theorem Step.pure {P : Program} {G : Ctx} {μ : Mu} {H : Heap} {n : Nat} {s : Sem Next} {w : World} {v : AVal} {cv : Value} (hH : HR P G μ H w)
    (h : s.run P w = .ok (.value cv) w) (hv : VR G μ v cv) : Step P G μ H n s w v [] :=
  ⟨_, cv, w, μ, h, .inl rfl, hv, Mu.le_refl _, hH, fun _ h => .inl h⟩

/-- A new row in a new block. -/
theorem HR.fresh {P : Program} {G : Ctx} {μ : Mu} {H : Heap} {w w' : World} {n : Nat} {C : Array Value} {ty : TypeId} {g : Bool} {sz off : Nat} {es : List AVal} {vec gr : Bool} (hH : HR P G μ H w) (hn : μ n = none)
    (hw : w'.heap = w.heap.push (.cells C ty (0, 0))) (hcm : Calm w w') (hg : g = false → gr = false)
    (hC : ∀ i, i < es.length → (acells (es.getD i .any)).length = sz ∧ ∀ j, j < sz → ∃ c, C[off + i * sz + j]? = some c ∧ VR G μ ((acells (es.getD i .any)).getD j .any) c) :
    let p : Place := ⟨w.heap.size, off, sz, es.length, C.size, gr, vec⟩
    let μ' : Mu := fun r => if r = n then some p else μ r
    μ.le μ' ∧ μ' n = some p ∧ HR P G μ' (H.put n (.cells g sz es)) w' ∧ ∀ r, (μ' r).isSome = true → (μ r).isSome = true ∨ r = n := by
  intro p μ'
  have hle : μ.le μ' := fun r q hq => ⟨q, by
    have : r ≠ n := fun e => by rw [e, hn] at hq; cases hq
    simp [μ', this, hq], .inl rfl⟩
  have hp : μ' n = some p := by simp [μ']
  refine ⟨hle, hp, ?_, fun r hr => ?_⟩
  · refine hH.put hcm hle (fun s hs => by simp [μ', hs]) hp (by simp [hw]) (by simp [hw, p]) ?_ ?_ ?_ ?_
    · intro hk
      have := (hH.kept _ hk).1
      simp [p] at this
    · intro b hb _
      rw [hw, Array.getElem?_push_lt hb]
      simp [hb]
    · intro s y q _ hy hq
      obtain ⟨q', h1, _, h3, _⟩ := hH.row s y hy
      rw [hq] at h1; cases h1
      simp only [p]
      omega
    · refine ⟨rfl, rfl, hg, C, ty, by simp [hw, p], rfl, fun i hi => ⟨(hC i hi).1, fun j hj => ?_⟩⟩
      obtain ⟨c, h1, h2⟩ := (hC i hi).2 j hj
      exact ⟨c, h1, h2.mono hle⟩
  · by_cases h : r = n
    · exact .inr h
    · left; simpa [μ', h] using hr

/-! ### Inversions -/
section
variable {G : Ctx} {μ : Mu} {c : Value}
theorem VR.inv_bool {b : Bool} (h : VR G μ (.bool b) c) : c = .bool b := by cases h; rfl
theorem VR.inv_int {k : IntKind} {n : Int} (h : VR G μ (.int k n) c) : c = .int k n := by cases h; rfl
theorem VR.inv_agg {cs : List AVal} (h : VR G μ (.agg cs) c) : ∃ vs, c = .agg vs ∧ cs.length = vs.size ∧ ∀ i, i < cs.length → VR G μ (cs.getD i .any) (vs.getD i undef) := by
  cases h with | agg cs vs hl hv => exact ⟨vs, rfl, hl, hv⟩
theorem VR.inv_tup {cs : List AVal} (h : VR G μ (.tup cs) c) : ∃ vs, c = .tuple vs ∧ cs.length = vs.size ∧ ∀ i, i < cs.length → VR G μ (cs.getD i .any) (vs.getD i undef) := by
  cases h with | tup cs vs hl hv => exact ⟨vs, rfl, hl, hv⟩
theorem VR.inv_str {l : List UInt8} (h : VR G μ (.str l) c) : ∃ s : ByteArray, c = .string s ∧ s.data.toList = l := by
  cases h with | str l s h => exact ⟨s, rfl, h⟩
theorem VR.inv_ptr {r i off L : Nat} (h : VR G μ (.ptr r i off L) c) : ∃ p, μ r = some p ∧ L ≤ p.len ∧ (p.live L → c = .pointer (some ⟨p.blk, p.off + i * p.sz + off, none⟩)) := by
  cases h with | ptr _ _ _ _ p _ hp hL ho hc => exact ⟨p, hp, hL, hc⟩
theorem VR.inv_sl {r off len : Nat} (h : VR G μ (.sl r off len) c) : ∃ p, μ r = some p ∧ p.vec = true ∧ off + len ≤ p.len ∧
    (p.live (off + len) → ∃ cap, c = .slice (some ⟨p.blk, p.off + off * p.sz, none⟩) len cap ∧ len ≤ cap ∧ p.off + (off + cap) * p.sz ≤ p.size) := by
  cases h with | sl _ _ _ p _ hp hvec hL ho hc => exact ⟨p, hp, hvec, hL, hc⟩
end

/-- Cells that are related one by one. -/
def CR (G : Ctx) (μ : Mu) (cs : List AVal) (vs : Array Value) : Prop := cs.length = vs.size ∧ ∀ i, i < cs.length → VR G μ (cs.getD i .any) (vs.getD i undef)

theorem foldl_cells (v : List Value) : ∀ (off k : Nat) (cells : Array Value), off + k + v.length ≤ cells.size →
    ((v.zipIdx k).foldl (fun cs (c, j) => cs.setIfInBounds (off + j) c) cells).size = cells.size ∧
    ∀ i, ((v.zipIdx k).foldl (fun cs (c, j) => cs.setIfInBounds (off + j) c) cells)[i]? = if off + k ≤ i ∧ i < off + k + v.length then v[i - (off + k)]? else cells[i]? := by
  induction v with
  | nil => intro off k cells h; refine ⟨rfl, fun i => ?_⟩; rw [if_neg (by simp only [List.length_nil]; omega)]; rfl
  | cons x v ih =>
    intro off k cells h
    simp only [List.length_cons] at h
    obtain ⟨h1, h2⟩ := ih off (k + 1) (cells.setIfInBounds (off + k) x) (by simp; omega)
    refine ⟨by simpa using h1, fun i => ?_⟩
    simp only [List.zipIdx_cons, List.foldl_cons]
    rw [h2 i]
    simp only [List.length_cons]
    by_cases hi : off + k = i
    · rw [if_neg (by omega), if_pos (by omega)]
      subst hi
      have : off + k < cells.size := by omega
      simp [this]
    · by_cases hj : off + (k + 1) ≤ i ∧ i < off + (k + 1) + v.length
      · rw [if_pos hj, if_pos (by omega)]
        have : i - (off + k) = (i - (off + (k + 1))) + 1 := by omega
        rw [this, List.getElem?_cons_succ]
      · rw [if_neg hj, if_neg (by omega)]
        simp [Array.getElem?_setIfInBounds, hi]

theorem CR.splice {G : Ctx} {μ : Mu} {cs us : List AVal} {vs ws : Array Value} {off : Nat} (h : CR G μ cs vs) (hu : CR G μ us ws) (hl : off + us.length ≤ cs.length) :
    CR G μ (cs.take off ++ us ++ cs.drop (off + us.length)) (ws.zipIdx.foldl (fun cs (c, j) => cs.setIfInBounds (off + j) c) vs) := by
  have hf : ws.zipIdx.foldl (fun cs (c, j) => cs.setIfInBounds (off + j) c) vs = (ws.toList.zipIdx 0).foldl (fun cs (c, j) => cs.setIfInBounds (off + j) c) vs := by
    rw [← Array.foldl_toList]; simp
  rw [hf]
  have hul := hu.1
  have hcl := h.1
  obtain ⟨h1, h2⟩ := foldl_cells ws.toList off 0 vs (by simp; omega)
  refine ⟨by rw [h1]; simp; omega, fun i hi => ?_⟩
  have hi' : i < cs.length := by simp at hi; omega
  have hget := h2 i
  simp only [Nat.add_zero, Array.length_toList] at hget
  rw [Array.getD_eq_getD_getElem?, hget, List.getD_eq_getElem?_getD]
  by_cases hj : off ≤ i ∧ i < off + ws.size
  · rw [if_pos hj, List.append_assoc, List.getElem?_append_right (by simp; omega), List.getElem?_append_left (by simp; omega)]
    have := hu.2 (i - off) (by omega)
    rw [Array.getD_eq_getD_getElem?, List.getD_eq_getElem?_getD] at this
    have e : i - (List.take off cs).length = i - off := by simp; omega
    rw [e]
    simpa using this
  · rw [if_neg hj]
    have hv := h.2 i hi'
    rw [Array.getD_eq_getD_getElem?, List.getD_eq_getElem?_getD] at hv
    by_cases hlt : i < off
    · rw [List.append_assoc, List.getElem?_append_left (by simp; omega), List.getElem?_take_of_lt hlt]
      exact hv
    · rw [List.getElem?_append_right (by simp; omega), List.getElem?_drop]
      have e : off + us.length + (i - (List.take off cs ++ us).length) = i := by simp; omega
      rw [e]
      exact hv

theorem CR.of_VR {G : Ctx} {μ : Mu} {v : AVal} {c : Value} (h : VR G μ v c) (ha : v.isAny = false) : CR G μ (acells v) c.cells :=
  h.cells (by rintro rfl; simp [AVal.isAny] at ha)

theorem fill_sound {G : Ctx} {μ : Mu} (place : Nat → Option (Nat × Nat)) : ∀ (ps : List (Nat × AVal × Value)) (zs : List AVal) (cs : List AVal) (vs : Array Value),
    CR G μ cs vs → (∀ p ∈ ps, VR G μ p.2.1 p.2.2) → (∀ p ∈ ps, (place p.1).isSome = true) →
    setParts cs (ps.map fun p => (((place p.1).getD (0, 0)).1, ((place p.1).getD (0, 0)).2, p.2.1)) = some zs →
    ∃ ws, Instr.fill place vs (ps.map fun p => (p.1, p.2.2)) = some ws ∧ CR G μ zs ws := by
  intro ps
  induction ps with
  | nil => intro zs cs vs h _ _ hs; simp [setParts] at hs; subst hs; exact ⟨vs, rfl, h⟩
  | cons p ps ih =>
    intro zs cs vs h hv hpl hs
    obtain ⟨i, v, c⟩ := p
    obtain ⟨⟨off, n⟩, hp⟩ := Option.isSome_iff_exists.1 (hpl _ (List.mem_cons_self ..))
    simp only [List.map_cons, hp, Option.getD_some, setParts] at hs
    split at hs
    · rename_i hc
      obtain ⟨h1, h2, h3⟩ := hc
      have hcr := CR.of_VR (hv _ (List.mem_cons_self ..)) h2
      simp only at hcr
      have hs' : setParts (cs.take off ++ acells v ++ cs.drop (off + (acells v).length)) (ps.map fun p => (((place p.1).getD (0, 0)).1, ((place p.1).getD (0, 0)).2, p.2.1)) = some zs := by rw [h1]; exact hs
      obtain ⟨ws, hw, hcw⟩ := ih zs _ _ (h.splice hcr (by omega)) (fun p hp => hv p (by simp [hp])) (fun p hp => hpl p (by simp [hp])) hs'
      refine ⟨ws, ?_, hcw⟩
      simp only [List.map_cons, Instr.fill, hp]
      have hsz : c.cells.size = n := by rw [← hcr.1, h1]
      have hvs : off + c.cells.size ≤ vs.size := by rw [hsz, ← h.1]; omega
      rw [if_neg (by simp [hsz]; omega)]
      exact hw
    · cases hs
end Go.Sx
