/- Rows and heaps, and what it means that a world holds them. -/
import Derived.Test.YtnfnjolpojofcabSxCode
import Derived.Laws.CopyRow
import Derived.Laws.Cells
namespace Go.Sx

inductive Row where
  | cells (g : Bool) (sz : Nat) (es : List AVal)
  | loop (ρ : List AVal) (ps : List Nat) (asg body : ACode) (d : Nat) (st : LoopState) (pend : Option ACode)
  | dfr
  | siter (s : List UInt8) (pos : Nat)
  deriving Inhabited

abbrev Heap := List (Option Row)

/-- Where a row of one's own lies. 'vec': a slice's row, which may grow. -/
structure Place where
  blk : Nat
  off : Nat
  sz : Nat
  len : Nat
  size : Nat
  grown : Bool
  vec : Bool

/-- What a walk may lean on: 'keep': blocks that stay as they were in w0; 'ro': those of them that views look into. -/
structure Ctx where
  keep : Nat → Prop
  ro : Nat → Prop
  w0 : World

abbrev Mu := Nat → Option Place

def Place.live (p : Place) (l : Nat) : Prop := p.grown = false ∨ l = p.len

inductive VR (G : Ctx) (μ : Mu) : AVal → Value → Prop where
  | any (c : Value) : VR G μ .any c
  | bool (b : Bool) : VR G μ (.bool b) (.bool b)
  | int (k : IntKind) (n : Int) : VR G μ (.int k n) (.int k n)
  | str (l : List UInt8) (s : ByteArray) (h : s.data.toList = l) : VR G μ (.str l) (.string s)
  | ptr (r i off L : Nat) (p : Place) (c : Value) (hp : μ r = some p) (hL : L ≤ p.len) (ho : c.oneCell' = true)
      (hc : p.live L → c = .pointer (some ⟨p.blk, p.off + i * p.sz + off, none⟩)) : VR G μ (.ptr r i off L) c
  | rptr (e : AVal) (off b o : Nat) (f : Nat → Value) (hb : G.ro b)
      (hf : ∀ j, j < (acells e).length → G.w0.cell? ⟨b, o + j, none⟩ = some (f j))
      (hv : ∀ j, j < (acells e).length → VR G μ ((acells e).getD j .any) (f j)) : VR G μ (.rptr e off) (.pointer (some ⟨b, o + off, none⟩))
  | nilptr : VR G μ .nilptr (.pointer none)
  | sl (r off len : Nat) (p : Place) (c : Value) (hp : μ r = some p) (hvec : p.vec = true) (hL : off + len ≤ p.len) (ho : c.oneCell' = true)
      (hc : p.live (off + len) → ∃ cap, c = .slice (some ⟨p.blk, p.off + off * p.sz, none⟩) len cap ∧ len ≤ cap ∧ p.off + (off + cap) * p.sz ≤ p.size) : VR G μ (.sl r off len) c
  | view (es : List AVal) (b o sz cap : Nat) (f : Nat → Nat → Value) (hb : G.ro b) (hcap : es.length ≤ cap)
      (hs : ∀ i, i < es.length → (acells (es.getD i .any)).length = sz)
      (hf : ∀ i j, i < es.length → j < sz → G.w0.cell? ⟨b, o + i * sz + j, none⟩ = some (f i j))
      (hv : ∀ i j, i < es.length → j < sz → VR G μ ((acells (es.getD i .any)).getD j .any) (f i j)) : VR G μ (.view es) (.slice (some ⟨b, o, none⟩) es.length cap)
  | viewnil (a : Option Addr) (cap : Nat) : VR G μ (.view []) (.slice a 0 cap)
  | nilsl : VR G μ .nilsl (.slice none 0 0)
  | fn (f : Fn) (a b : List AVal) (a' b' : Array Value) (ha : a.length = a'.size) (hb : b.length = b'.size)
      (va : ∀ i, i < a.length → VR G μ (a.getD i .any) (a'.getD i undef)) (vb : ∀ i, i < b.length → VR G μ (b.getD i .any) (b'.getD i undef)) : VR G μ (.fn f a b) (.func f a' b')
  | yfn (r : Nat) (p : Place) (hp : μ r = some p) (hv : p.vec = false) : VR G μ (.yfn r) (.func (.yield p.blk) #[] #[])
  | nilfn : VR G μ .nilfn .nilFunc
  | iface (t : TypeId) (v : AVal) (c : Value) (h : VR G μ v c) : VR G μ (.iface t v) (.iface t c)
  | niliface : VR G μ .niliface .nilIface
  | agg (cs : List AVal) (vs : Array Value) (hl : cs.length = vs.size) (hv : ∀ i, i < cs.length → VR G μ (cs.getD i .any) (vs.getD i undef)) : VR G μ (.agg cs) (.agg vs)
  | tup (cs : List AVal) (vs : Array Value) (hl : cs.length = vs.size) (hv : ∀ i, i < cs.length → VR G μ (cs.getD i .any) (vs.getD i undef)) : VR G μ (.tup cs) (.tuple vs)
  | mp (r : Nat) (p : Place) (hp : μ r = some p) (hv : p.vec = false) : VR G μ (.mp r) (.map (some p.blk))
  | nilmap : VR G μ .nilmap (.map none)

/-- A map of more rows, or of rows that have grown. -/
def Place.le (p p' : Place) : Prop := p' = p ∨ (p.vec = true ∧ p'.vec = true ∧ p'.grown = true ∧ p.len < p'.len)
def Mu.le (μ μ' : Mu) : Prop := ∀ r p, μ r = some p → ∃ p', μ' r = some p' ∧ p.le p'

theorem Mu.le_refl (μ : Mu) : Mu.le μ μ := fun _ p h => ⟨p, h, .inl rfl⟩
theorem Mu.le_trans {a b c : Mu} (h : a.le b) (h' : b.le c) : a.le c := fun r p hp => by
  obtain ⟨q, hq, hpq⟩ := h r p hp
  obtain ⟨s, hs, hqs⟩ := h' r q hq
  refine ⟨s, hs, ?_⟩
  rcases hpq with rfl | ⟨h1, h0, h2, h3⟩
  · exact hqs
  · rcases hqs with rfl | ⟨h4, h7, h5, h6⟩
    · exact .inr ⟨h1, h0, h2, h3⟩
    · exact .inr ⟨h1, h7, h5, by omega⟩

theorem VR.mono {G : Ctx} {μ μ' : Mu} (h : μ.le μ') {v : AVal} {c : Value} (hv : VR G μ v c) : VR G μ' v c := by
  induction hv with
  | any c => exact .any c
  | bool b => exact .bool b
  | int k n => exact .int k n
  | str l s h => exact .str l s h
  | ptr r i off L p c hp hL ho hc =>
    obtain ⟨p', hp', rfl | ⟨h1, h0, h2, h3⟩⟩ := h r p hp
    · exact .ptr r i off L _ c hp' hL ho hc
    · refine .ptr r i off L _ c hp' (by omega) ho fun hl => ?_
      rcases hl with hl | hl
      · simp [h2] at hl
      · omega
  | rptr e off b o f hb hf _ ih => exact .rptr e off b o f hb hf ih
  | nilptr => exact .nilptr
  | sl r off len p c hp hvec hL ho hc =>
    obtain ⟨p', hp', rfl | ⟨h1, h0, h2, h3⟩⟩ := h r p hp
    · exact .sl r off len _ c hp' hvec hL ho hc
    · refine .sl r off len _ c hp' h0 (by omega) ho fun hl => ?_
      rcases hl with hl | hl
      · simp [h2] at hl
      · omega
  | view es b o sz cap f hb hcap hs hf _ ih => exact .view es b o sz cap f hb hcap hs hf ih
  | viewnil a cap => exact .viewnil a cap
  | nilsl => exact .nilsl
  | fn f a b a' b' ha hb _ _ iha ihb => exact .fn f a b a' b' ha hb iha ihb
  | yfn r p hp hv =>
    obtain ⟨p', hp', rfl | ⟨h1, h0, h2, h3⟩⟩ := h r p hp
    · exact .yfn r _ hp' hv
    · simp [hv] at h1
  | nilfn => exact .nilfn
  | iface t v c _ ih => exact .iface t v c ih
  | niliface => exact .niliface
  | agg cs vs hl _ ih => exact .agg cs vs hl ih
  | tup cs vs hl _ ih => exact .tup cs vs hl ih
  | mp r p hp hv =>
    obtain ⟨p', hp', rfl | ⟨h1, h0, h2, h3⟩⟩ := h r p hp
    · exact .mp r _ hp' hv
    · simp [hv] at h1
  | nilmap => exact .nilmap

/-- Another context in which all that views look into reads alike. -/
theorem VR.ctx {G G' : Ctx} {μ : Mu} (h : ∀ b, G.ro b → G'.ro b ∧ G'.w0.heap[b]? = G.w0.heap[b]?) {v : AVal} {c : Value} (hv : VR G μ v c) : VR G' μ v c := by
  have hcell : ∀ b o, G.ro b → G'.w0.cell? ⟨b, o, none⟩ = G.w0.cell? ⟨b, o, none⟩ := fun b o hb => by
    simp only [World.cell?, (h b hb).2]
  induction hv with
  | any c => exact .any c
  | bool b => exact .bool b
  | int k n => exact .int k n
  | str l s h => exact .str l s h
  | ptr r i off L p c hp hL ho hc => exact .ptr r i off L p c hp hL ho hc
  | rptr e off b o f hb hf _ ih => exact .rptr e off b o f (h b hb).1 (fun j hj => by rw [hcell _ _ hb]; exact hf j hj) ih
  | nilptr => exact .nilptr
  | sl r off len p c hp hvec hL ho hc => exact .sl r off len p c hp hvec hL ho hc
  | view es b o sz cap f hb hcap hs hf _ ih => exact .view es b o sz cap f (h b hb).1 hcap hs (fun i j hi hj => by rw [hcell _ _ hb]; exact hf i j hi hj) ih
  | viewnil a cap => exact .viewnil a cap
  | nilsl => exact .nilsl
  | fn f a b a' b' ha hb _ _ iha ihb => exact .fn f a b a' b' ha hb iha ihb
  | yfn r p hp hv => exact .yfn r p hp hv
  | nilfn => exact .nilfn
  | iface t v c _ ih => exact .iface t v c ih
  | niliface => exact .niliface
  | agg cs vs hl _ ih => exact .agg cs vs hl ih
  | tup cs vs hl _ ih => exact .tup cs vs hl ih
  | mp r p hp hv => exact .mp r p hp hv
  | nilmap => exact .nilmap

/-- A value of cells is related as its cells are. -/
theorem VR.cells {G : Ctx} {μ : Mu} {v : AVal} {c : Value} (h : VR G μ v c) (ha : v ≠ .any) :
    (acells v).length = c.cells.size ∧ ∀ i, i < (acells v).length → VR G μ ((acells v).getD i .any) (c.cells.getD i undef) := by
  have one : ∀ (v : AVal) (c : Value), acells v = [v] → c.cells = #[c] → VR G μ v c → (acells v).length = c.cells.size ∧ ∀ i, i < (acells v).length → VR G μ ((acells v).getD i .any) (c.cells.getD i undef) := by
    intro v c h1 h2 h
    rw [h1, h2]
    refine ⟨rfl, fun i hi => ?_⟩
    simp only [List.length_cons, List.length_nil] at hi
    obtain rfl : i = 0 := by omega
    simpa using h
  have h0 := h
  cases h with
  | any => exact absurd rfl ha
  | agg cs vs hl hv => exact ⟨hl, hv⟩
  | ptr r i off L p c hp hL ho hc => exact one _ _ rfl (by cases c <;> simp_all [Value.cells, Value.oneCell']) h0
  | sl r off len p c hp hvec hL ho hc => exact one _ _ rfl (by cases c <;> simp_all [Value.cells, Value.oneCell']) h0
  | _ => exact one _ _ rfl rfl h0

/-- A value of one cell, of which something is known. -/
def AVal.one : AVal → Bool
  | .any | .agg _ | .tup _ => false
  | _ => true

theorem VR.one {G : Ctx} {μ : Mu} {v : AVal} {c : Value} (h : VR G μ v c) (ho : v.one = true) : c.oneCell' = true := by
  cases h <;> first | rfl | assumption | simp [AVal.one] at ho

/-- A row's block holds it. -/
def RowIs (P : Program) (G : Ctx) (μ : Mu) (p : Place) (hp : Array Obj) : Row → Prop
  | .cells g sz es => p.sz = sz ∧ p.len = es.length ∧ (g = false → p.grown = false) ∧ ∃ C ty, hp[p.blk]? = some (.cells C ty (0, 0)) ∧ C.size = p.size ∧
      ∀ i, i < es.length → (acells (es.getD i .any)).length = sz ∧ ∀ j, j < sz → ∃ c, C[p.off + i * sz + j]? = some c ∧ VR G μ ((acells (es.getD i .any)).getD j .any) c
  | .loop ρ ps asg body d st pend => p.vec = false ∧ ∃ r : Loop, hp[p.blk]? = some (.loop r) ∧ r.state = st ∧ r.pending.map (ccode P) = pend ∧ r.params.toList = ps ∧
      ccode P r.assign = asg ∧ ccode P r.body = body ∧ ρ.length = r.tmps.size ∧ (∀ t, t < ρ.length → VR G μ (ρ.getD t .any) (r.tmps.getD t undef)) ∧ ∃ pd, μ d = some pd ∧ pd.vec = false ∧ r.defers = pd.blk
  | .dfr => p.vec = false ∧ hp[p.blk]? = some (.deferred (some []))
  | .siter s pos => p.vec = false ∧ ∃ b : ByteArray, b.data.toList = s ∧ hp[p.blk]? = some (.stringIter b pos)

/-- What the world holds besides its memory is as it was. -/
def Calm (w w' : World) : Prop := w'.os = w.os ∧ w'.tape = w.tape ∧ w'.output = w.output
theorem Calm.refl (w : World) : Calm w w := ⟨rfl, rfl, rfl⟩
theorem Calm.trans {a b c : World} (h : Calm a b) (h' : Calm b c) : Calm a c := ⟨h'.1.trans h.1, h'.2.1.trans h.2.1, h'.2.2.trans h.2.2⟩

structure HR (P : Program) (G : Ctx) (μ : Mu) (H : Heap) (w : World) : Prop where
  row : ∀ r x, H[r]? = some (some x) → ∃ p, μ r = some p ∧ ¬ G.keep p.blk ∧ p.blk < w.heap.size ∧ RowIs P G μ p w.heap x
  apart : ∀ r r' x x' p p', H[r]? = some (some x) → H[r']? = some (some x') → μ r = some p → μ r' = some p' → r ≠ r' → p.blk ≠ p'.blk
  kept : ∀ b, G.keep b → b < w.heap.size ∧ w.heap[b]? = G.w0.heap[b]?
  ro : ∀ b, G.ro b → G.keep b
  calm : Calm G.w0 w

theorem RowIs.mono {P : Program} {G : Ctx} {μ μ' : Mu} {p : Place} {hp hp' : Array Obj} {x : Row} (h : RowIs P G μ p hp x) (hμ : μ.le μ') (hb : hp'[p.blk]? = hp[p.blk]?) : RowIs P G μ' p hp' x := by
  cases x with
  | cells g sz es =>
    obtain ⟨h1, h2, hg, C, ty, h3, h4, h5⟩ := h
    refine ⟨h1, h2, hg, C, ty, by rw [hb]; exact h3, h4, fun i hi => ⟨(h5 i hi).1, fun j hj => ?_⟩⟩
    obtain ⟨c, hc, hv⟩ := (h5 i hi).2 j hj
    exact ⟨c, hc, hv.mono hμ⟩
  | loop ρ ps asg body d st pend =>
    obtain ⟨h0, r, h1, h2, h3, h4, h5, h6, h7, h8, pd, h9, h10, h11⟩ := h
    obtain ⟨pd', hd', rfl | ⟨k1, _, _⟩⟩ := hμ d pd h9
    · exact ⟨h0, r, by rw [hb]; exact h1, h2, h3, h4, h5, h6, h7, fun t ht => (h8 t ht).mono hμ, _, hd', h10, h11⟩
    · simp [h10] at k1
  | dfr => exact ⟨h.1, by rw [hb]; exact h.2⟩
  | siter s pos =>
    obtain ⟨h0, b, h1, h2⟩ := h
    exact ⟨h0, b, h1, by rw [hb]; exact h2⟩

/-- Blocks that are laid beside change nothing. -/
theorem HR.more {P : Program} {G : Ctx} {μ : Mu} {H : Heap} {w w' : World} (h : HR P G μ H w) (hcm : Calm w w') (hs : w.heap.size ≤ w'.heap.size) (hb : ∀ b, b < w.heap.size → w'.heap[b]? = w.heap[b]?) : HR P G μ H w' where
  row r x hx := by
    obtain ⟨p, h1, h2, h3, h4⟩ := h.row r x hx
    exact ⟨p, h1, h2, by omega, h4.mono (Mu.le_refl _) (hb _ h3)⟩
  apart := h.apart
  kept b hk := ⟨by have := (h.kept b hk).1; omega, by rw [hb b (h.kept b hk).1]; exact (h.kept b hk).2⟩
  ro := h.ro
  calm := h.calm.trans hcm

def Heap.put (H : Heap) (r : Nat) (x : Row) : Heap :=
  if r < H.length then H.set r (some x) else H ++ (List.replicate (r - H.length) none ++ [some x])

theorem Heap.len_put (H : Heap) (r : Nat) (x : Row) : (H.put r x).length = max H.length (r + 1) := by
  unfold Heap.put
  split
  · simp; omega
  · simp; omega

theorem Heap.put_end (H : Heap) (x : Row) : H.put H.length x = H ++ [some x] := by simp [Heap.put]

theorem Heap.put_same (H : Heap) (r : Nat) (x : Row) : (H.put r x)[r]? = some (some x) := by
  unfold Heap.put
  split
  · simp [*]
  · rename_i h
    rw [List.getElem?_append_right (by omega), List.getElem?_append_right (by simp)]
    simp

theorem Heap.put_other (H : Heap) {r s : Nat} (x : Row) (h : s ≠ r) (y : Row) : (H.put r x)[s]? = some (some y) ↔ H[s]? = some (some y) := by
  unfold Heap.put
  split
  · rw [List.getElem?_set_ne (by omega)]
  · rename_i hr
    by_cases hs : s < H.length
    · rw [List.getElem?_append_left hs]
    · rw [List.getElem?_append_right (by omega)]
      have h1 : H[s]? = none := by simp; omega
      rw [h1]
      by_cases hs2 : s - H.length < r - H.length
      · rw [List.getElem?_append_left (by simpa using hs2)]
        simp [List.getElem?_replicate, hs2]
      · rw [List.getElem?_append_right (by simp; omega)]
        simp only [List.length_replicate]
        have : s - H.length - (r - H.length) ≠ 0 := by omega
        rw [List.getElem?_cons]
        simp [this]

/-- A new row in a new block, or one whose block has been written. 'hp'' differs from hp at that block alone. -/
theorem HR.put {P : Program} {G : Ctx} {μ μ' : Mu} {H : Heap} {w w' : World} {r : Nat} {x : Row} {p : Place} (h : HR P G μ H w) (hcm : Calm w w') (hμ : μ.le μ')
    (hother : ∀ s, s ≠ r → μ' s = μ s) (hp1 : μ' r = some p) (hs : w.heap.size ≤ w'.heap.size) (hpb : p.blk < w'.heap.size) (hnk : ¬ G.keep p.blk)
    (hb : ∀ b, b < w.heap.size → b ≠ p.blk → w'.heap[b]? = w.heap[b]?)
    (hap : ∀ s y q, s ≠ r → H[s]? = some (some y) → μ s = some q → q.blk ≠ p.blk)
    (hx : RowIs P G μ' p w'.heap x) : HR P G μ' (H.put r x) w' where
  row s y hy := by
    by_cases hsr : s = r
    · subst hsr
      rw [Heap.put_same] at hy
      cases hy
      exact ⟨p, hp1, hnk, hpb, hx⟩
    · rw [Heap.put_other H x hsr] at hy
      obtain ⟨q, h1, h2, h3, h4⟩ := h.row s y hy
      exact ⟨q, by rw [hother s hsr]; exact h1, h2, by omega, h4.mono hμ (hb _ h3 (hap s y q hsr hy h1))⟩
  apart s s' y y' q q' hy hy' hq hq' hne := by
    by_cases hsr : s = r
    · subst hsr
      have hs' : s' ≠ s := fun h => hne h.symm
      rw [Heap.put_other H x hs'] at hy'
      rw [hp1] at hq; cases hq
      rw [hother s' hs'] at hq'
      exact fun h => hap s' y' q' hs' hy' hq' h.symm
    · rw [Heap.put_other H x hsr] at hy
      rw [hother s hsr] at hq
      by_cases hsr' : s' = r
      · subst hsr'
        rw [hp1] at hq'; cases hq'
        exact hap s y q hsr hy hq
      · rw [Heap.put_other H x hsr'] at hy'
        rw [hother s' hsr'] at hq'
        exact h.apart s s' y y' q q' hy hy' hq hq' hne
  kept b hk := by
    obtain ⟨h1, h2⟩ := h.kept b hk
    refine ⟨by omega, ?_⟩
    rw [hb b h1 (fun e => hnk (e ▸ hk))]; exact h2
  ro := h.ro
  calm := h.calm.trans hcm
end Go.Sx
