/- A call that sees only the rows that it is handed, by names of its own. -/
import Derived.Test.YtnfnjolpojofcabSxRen
namespace Go.Sx
open Go

/-- The i-th of the rows that are handed over. -/
def nth (ι : List Nat) (i : Nat) : Nat := ι.getD i 0

/-- What is known of a function: in whatever context. -/
def Fn (P : Program) (f : FuncId) (args : List AVal) (H : Heap) (R : AVal → Heap → Prop) : Prop := ∀ G, CallW P G f args H R

theorem Fn.mono {P : Program} {f : FuncId} {args : List AVal} {H : Heap} {R R' : AVal → Heap → Prop} (h : Fn P f args H R) (hR : ∀ v H', R v H' → R' v H') : Fn P f args H R' := fun G => (h G).mono hR

/-- How a call's rows stand among the caller's. S: those that are kept; σ: their names. -/
structure OutOK (ι : List Nat) (Fr : Heap → Nat → Prop) (H LH' H'' : Heap) (v : AVal) (σ : Nat → Nat) (S : Nat → Prop) : Prop where
  old : ∀ i, i < ι.length → S i ∧ σ i = nth ι i
  new : ∀ i, S i → i < ι.length ∨ Fr H'' (σ i)
  inj : ∀ i j, S i → S j → σ i = σ j → i = j
  val : Bel S v
  rows : ∀ r x, H''[r]? = some (some x) → (∃ i y, S i ∧ σ i = r ∧ LH'[i]? = some (some y) ∧ x = y.ren σ ∧ y.bel S) ∨ ((∀ i, S i → σ i ≠ r) ∧ H[r]? = some (some x))

section
variable {P : Program} {G G' : Ctx}

theorem RowIs.ctx {μ : Mu} {p : Place} {hp : Array Obj} {x : Row} (hc : ∀ b, G.ro b → G'.ro b ∧ G'.w0.heap[b]? = G.w0.heap[b]?) (h : RowIs P G μ p hp x) : RowIs P G' μ p hp x := by
  cases x with
  | cells g sz es =>
    obtain ⟨h1, h2, hg, C, ty, h3, h4, h5⟩ := h
    refine ⟨h1, h2, hg, C, ty, h3, h4, fun i hi => ⟨(h5 i hi).1, fun j hj => ?_⟩⟩
    obtain ⟨c, k1, k2⟩ := (h5 i hi).2 j hj
    exact ⟨c, k1, k2.ctx hc⟩
  | loop ρ ps asg body d st pend =>
    obtain ⟨h0, r, h1, h2, h3, h4, h5, h6, h7, h8, h9⟩ := h
    exact ⟨h0, r, h1, h2, h3, h4, h5, h6, h7, fun t ht => (h8 t ht).ctx hc, h9⟩
  | dfr => exact h
  | siter s pos => exact h

theorem nth_inj {ι : List Nat} (hn : ι.Nodup) {i j : Nat} (hi : i < ι.length) (hj : j < ι.length) (h : nth ι i = nth ι j) : i = j := by
  have e1 : nth ι i = ι[i] := by simp [nth, hi]
  have e2 : nth ι j = ι[j] := by simp [nth, hj]
  rw [e1, e2] at h
  exact (List.getElem?_inj hi hn).1 (by rw [List.getElem?_eq_getElem hi, List.getElem?_eq_getElem hj, h])

theorem call_local {f : FuncId} {largs args : List AVal} {LH H : Heap} {R R' : AVal → Heap → Prop} (hf : Fn P f largs LH R) {ι : List Nat} {Fr : Heap → Nat → Prop} (hn : ι.Nodup) (hlen : LH.length = ι.length) (hall : ∀ i, i < ι.length → ∃ x, LH[i]? = some (some x))
    (hargs : args = largs.map (ren (nth ι))) (hbel : ∀ v ∈ largs, Bel (· < ι.length) v)
    (hrows : ∀ i x, LH[i]? = some (some x) → H[nth ι i]? = some (some (x.ren (nth ι))) ∧ x.bel (· < ι.length))
    (hout : ∀ v LH', R v LH' → ∃ σ S H'', OutOK ι Fr H LH' H'' v σ S ∧ R' (ren σ v) H'')
    {μ : Mu} {cargs : Array Value} {w : World} (hl : args.length = cargs.size) (hv : ∀ i, i < args.length → VR G μ (args.getD i .any) (cargs.getD i undef)) (hH : HR P G μ H w) (hfree : ∀ H'' r, Fr H'' r → μ r = none) :
    CallsIn (Fw none) 0 P f cargs w fun e w' => ∃ v' cv μ'' H'', e = .returned cv ∧ R' v' H'' ∧ VR G μ'' v' cv ∧ HR P G μ'' H'' w' ∧ μ.le μ'' ∧ ∀ r, (μ'' r).isSome = true → (μ r).isSome = true ∨ Fr H'' r := by
  classical
  let G' : Ctx := { keep := fun b => G.keep b ∨ ∃ r x p, (∀ i, i < ι.length → nth ι i ≠ r) ∧ H[r]? = some (some x) ∧ μ r = some p ∧ p.blk = b, ro := G.ro, w0 := w }
  let μl : Mu := fun i => if i < ι.length then μ (nth ι i) else none
  have hroi : ∀ b, G.ro b → w.heap[b]? = G.w0.heap[b]? := fun b hb => (hH.kept b (hH.ro b hb)).2
  have hto : ∀ b, G.ro b → G'.ro b ∧ G'.w0.heap[b]? = G.w0.heap[b]? := fun b hb => ⟨hb, hroi b hb⟩
  have hfrom : ∀ b, G'.ro b → G.ro b ∧ G.w0.heap[b]? = G'.w0.heap[b]? := fun b hb => ⟨hb, (hroi b hb).symm⟩
  have hμl : ∀ r, r < ι.length → μl r = μ (nth ι r) := fun r hr => by simp [μl, hr]
  have hlH : HR P G' μl LH w := by
    constructor
    · intro i x hx
      have hi : i < ι.length := by rw [← hlen]; exact (List.getElem?_eq_some_iff.1 hx).1
      obtain ⟨h1, h2⟩ := hrows i x hx
      obtain ⟨p, k1, k2, k3, k4⟩ := hH.row _ _ h1
      refine ⟨p, by rw [hμl i hi]; exact k1, ?_, k3, (k4.pull h2 hμl).ctx hto⟩
      rintro (hk | ⟨r, y, q, q1, q2, q3, q4⟩)
      · exact k2 hk
      · exact hH.apart _ _ _ _ _ _ h1 q2 k1 q3 (q1 i hi) q4.symm
    · intro i j x y p q hx hy hp hq hne
      have hi : i < ι.length := by rw [← hlen]; exact (List.getElem?_eq_some_iff.1 hx).1
      have hj : j < ι.length := by rw [← hlen]; exact (List.getElem?_eq_some_iff.1 hy).1
      rw [hμl i hi] at hp
      rw [hμl j hj] at hq
      exact hH.apart _ _ _ _ _ _ (hrows i x hx).1 (hrows j y hy).1 hp hq fun h => hne (nth_inj hn hi hj h)
    · rintro b (hk | ⟨r, y, q, q1, q2, q3, rfl⟩)
      · exact ⟨(hH.kept b hk).1, rfl⟩
      · obtain ⟨p, k1, k2, k3, k4⟩ := hH.row _ _ q2
        rw [k1] at q3; cases q3
        exact ⟨k3, rfl⟩
    · exact fun b hb => .inl (hH.ro b hb)
    · exact Calm.refl w
  subst hargs
  refine ((hf G').2 μl cargs w (by simpa using hl) (fun i hi => ?_) hlH (fun r hr => ?_)).mono ?_
  · have := hv i (by simpa using hi)
    have e : (largs.map (ren (nth ι))).getD i .any = ren (nth ι) (largs.getD i .any) := by rw [← rens_eq, rens_getD]
    rw [e] at this
    have hm : largs.getD i .any ∈ largs := by
      rw [List.getD_eq_getElem?_getD, List.getElem?_eq_getElem hi]; simp
    exact (this.pull (hbel _ hm) hμl).ctx hto
  · simp only [μl] at hr
    split at hr
    · rename_i h; rw [hlen]; exact h
    · cases hr
  · rintro e w' ⟨v, cv, μ', LH', rfl, hR, hvv, hH', hdom, hle⟩
    obtain ⟨σ, S, H'', ho, hR'⟩ := hout v LH' hR
    let μ'' : Mu := fun r => if h : ∃ i, S i ∧ σ i = r then μ' h.choose else μ r
    have hσ : ∀ i, S i → μ'' (σ i) = μ' i := by
      intro i hi
      have h : ∃ j, S j ∧ σ j = σ i := ⟨i, hi, rfl⟩
      have hc := h.choose_spec
      have : h.choose = i := ho.inj _ _ hc.1 hi hc.2
      simp only [μ'', dif_pos h, this]
    have hoff : ∀ r, (∀ i, S i → σ i ≠ r) → μ'' r = μ r := by
      intro r h
      have : ¬ ∃ i, S i ∧ σ i = r := fun ⟨i, h1, h2⟩ => h i h1 h2
      simp only [μ'', dif_neg this]
    have hμle : μ.le μ'' := by
      intro r p hp
      by_cases h : ∃ i, S i ∧ σ i = r
      · obtain ⟨i, hi, rfl⟩ := h
        rw [hσ i hi]
        rcases ho.new i hi with h1 | h1
        · refine hle i p (by rw [hlen]; exact h1) ?_
          rw [hμl i h1, ← (ho.old i h1).2]; exact hp
        · rw [hfree _ _ h1] at hp; cases hp
      · rw [hoff r fun i h1 h2 => h ⟨i, h1, h2⟩]; exact ⟨p, hp, .inl rfl⟩
    refine ⟨ren σ v, cv, μ'', H'', rfl, hR', ?_, ?_, hμle, ?_⟩
    · exact (hvv.push ho.val fun r p hr hp => by rw [hσ r hr]; exact hp).ctx hfrom
    · have src : ∀ r x, H''[r]? = some (some x) → ∃ p, μ'' r = some p ∧ ¬ G.keep p.blk ∧ p.blk < w'.heap.size ∧ RowIs P G μ'' p w'.heap x ∧
          ((∃ i y, S i ∧ σ i = r ∧ LH'[i]? = some (some y) ∧ μ' i = some p ∧ ¬ G'.keep p.blk) ∨ ((∀ i, S i → σ i ≠ r) ∧ H[r]? = some (some x) ∧ μ r = some p ∧ G'.keep p.blk)) := by
        intro r x hx
        rcases ho.rows r x hx with ⟨i, y, h1, rfl, h3, rfl, h5⟩ | ⟨h1, h2⟩
        · obtain ⟨p, k1, k2, k3, k4⟩ := hH'.row i y h3
          refine ⟨p, by rw [hσ i h1]; exact k1, fun h => k2 (.inl h), k3, (k4.push h5 fun r p hr hp => by rw [hσ r hr]; exact hp).ctx hfrom, .inl ⟨i, y, h1, rfl, h3, k1, k2⟩⟩
        · obtain ⟨p, k1, k2, k3, k4⟩ := hH.row r x h2
          have hkeep : G'.keep p.blk := .inr ⟨r, x, p, fun i hi e => h1 i (ho.old i hi).1 ((ho.old i hi).2.trans e), h2, k1, rfl⟩
          obtain ⟨m1, m2⟩ := hH'.kept p.blk hkeep
          exact ⟨p, by rw [hoff r h1]; exact k1, k2, m1, k4.mono hμle m2, .inr ⟨h1, h2, k1, hkeep⟩⟩
      constructor
      · intro r x hx
        obtain ⟨p, k1, k2, k3, k4, _⟩ := src r x hx
        exact ⟨p, k1, k2, k3, k4⟩
      · intro r r' x x' p p' hx hx' hp hp' hne
        obtain ⟨q, k1, _, _, _, k5⟩ := src r x hx
        obtain ⟨q', k1', _, _, _, k5'⟩ := src r' x' hx'
        rw [k1] at hp; cases hp
        rw [k1'] at hp'; cases hp'
        rcases k5 with ⟨i, y, a1, a2, a3, a4, a5⟩ | ⟨a1, a2, a3, a4⟩ <;> rcases k5' with ⟨j, z, b1, b2, b3, b4, b5⟩ | ⟨b1, b2, b3, b4⟩
        · exact hH'.apart i j y z _ _ a3 b3 a4 b4 fun e => hne (by rw [← a2, ← b2, e])
        · exact fun e => a5 (by rw [e]; exact b4)
        · exact fun e => b5 (by rw [← e]; exact a4)
        · exact hH.apart r r' x x' _ _ a2 b2 a3 b3 hne
      · intro b hb
        have : G'.keep b := .inl hb
        obtain ⟨m1, m2⟩ := hH'.kept b this
        exact ⟨m1, m2.trans (hH.kept b hb).2⟩
      · exact hH.ro
      · exact hH.calm.trans hH'.calm
    · intro r hr
      by_cases h : ∃ i, S i ∧ σ i = r
      · obtain ⟨i, hi, rfl⟩ := h
        rcases ho.new i hi with h1 | h1
        · rw [hσ i hi] at hr
          left
          rw [(ho.old i h1).2, ← hμl i h1]
          obtain ⟨x, hx⟩ := hall i h1
          obtain ⟨p, k1, _⟩ := hlH.row i x hx
          rw [k1]; rfl
        · exact .inr h1
      · rw [hoff r fun i h1 h2 => h ⟨i, h1, h2⟩] at hr; exact .inl hr

/-- The same, over all the caller's rows. -/
theorem callOK_local {f : FuncId} {largs args : List AVal} {LH H : Heap} {R R' : AVal → Heap → Prop} (hf : Fn P f largs LH R) (ι : List Nat) (hn : ι.Nodup) (hlen : LH.length = ι.length) (hall : ∀ i, i < ι.length → ∃ x, LH[i]? = some (some x))
    (hargs : args = largs.map (ren (nth ι))) (hbel : ∀ v ∈ largs, Bel (· < ι.length) v)
    (hrows : ∀ i x, LH[i]? = some (some x) → H[nth ι i]? = some (some (x.ren (nth ι))) ∧ x.bel (· < ι.length))
    (hout : ∀ v LH', R v LH' → ∃ σ S H'', OutOK ι (fun H'' r => H.length ≤ r ∧ r < H''.length) H LH' H'' v σ S ∧ H.length ≤ H''.length ∧ R' (ren σ v) H'') : CallOK P G f args H R' := by
  refine ⟨(hf G).1, fun μ cargs w hl hv hH hd => ?_⟩
  have hno : ∀ r, H.length ≤ r → μ r = none := fun r hr => by
    cases h : μ r with
    | none => rfl
    | some p => have := hd r (by rw [h]; rfl); omega
  refine (call_local (R' := fun v H'' => H.length ≤ H''.length ∧ R' v H'') hf hn hlen hall hargs hbel hrows hout hl hv hH (fun _ r hr => hno r hr.1)).mono ?_
  rintro e w' ⟨v', cv, μ'', H'', rfl, ⟨hlen', hR⟩, h1, h2, h3, h4⟩
  refine ⟨v', cv, μ'', H'', rfl, hR, h1, h2, fun r hr => ?_, Mu.leB_of h3, fun r hr hn => ?_⟩
  · rcases h4 r hr with h | h
    · have := hd r h; omega
    · exact h.2
  · cases h : μ'' r with
    | none => rfl
    | some p =>
      rcases h4 r (by rw [h]; rfl) with k | k
      · rw [hn] at k; cases k
      · omega
end
end Go.Sx
