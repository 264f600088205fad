/- Regions whose order is drawn: what is done when some of the operations are. -/
import Derived.Test.YtnfnjolpojofcabSxTmps
import Derived.Test.YtnfnjolpojofcabSxEv
namespace Go.Sx
open Go

/-- An operation's outcome: its value, the rows it lays or writes, which of them are new. -/
structure Oc where
  v : AVal
  Δ : List (Nat × Row)
  fs : List Nat := []

def Oc.rows (c : Oc) : List Nat := c.Δ.map (·.1)

/-- The temporaries when the operations in D are done. -/
def rAfter : List (AOper × Oc) → Nat → (Nat → Bool) → List AVal → List AVal
  | [], _, _, ρ => ρ
  | x :: l, i, D, ρ => rAfter l (i + 1) D (if D i = true then setD ρ x.1.dst x.2.v else ρ)

def hAfter : List (AOper × Oc) → Nat → (Nat → Bool) → Heap → Heap
  | [], _, _, H => H
  | x :: l, i, D, H => hAfter l (i + 1) D (if D i = true then H.puts x.2.Δ else H)

def upd (D : Nat → Bool) (n : Nat) : Nat → Bool := fun m => if m = n then true else D m

theorem setD_eq (ρ : List AVal) (d : Option Nat) (v : AVal) : setD ρ d v = match d with | some t => ρ.set t v | none => ρ := by
  cases d <;> simp [setD, tset_eq]

theorem setD_len (ρ : List AVal) (d : Option Nat) (v : AVal) : (setD ρ d v).length = ρ.length := by
  rw [setD_eq]; cases d <;> simp

theorem tget_setD_ne {ρ : List AVal} {d : Option Nat} {v : AVal} {t : Nat} (h : d ≠ some t) : tget (setD ρ d v) t = tget ρ t := by
  rw [setD_eq, tget_eq, tget_eq]
  cases d with
  | none => rfl
  | some u =>
    have : u ≠ t := fun e => h (by rw [e])
    simp [List.getD_eq_getElem?_getD, List.getElem?_set_ne this]

theorem tget_setD_same {ρ ρ' : List AVal} {v : AVal} {t : Nat} (hl : ρ.length = ρ'.length) : tget (setD ρ (some t) v) t = tget (setD ρ' (some t) v) t := by
  simp only [setD_eq, tget_eq, List.getD_eq_getElem?_getD]
  by_cases h : t < ρ.length
  · simp [List.getElem?_set_self h, List.getElem?_set_self (hl ▸ h)]
  · rw [List.getElem?_eq_none (by simp; omega), List.getElem?_eq_none (by simp; omega)]

theorem setD_comm (ρ : List AVal) {d e : Option Nat} (v u : AVal) (h : ∀ t, d = some t → e ≠ some t) : setD (setD ρ d v) e u = setD (setD ρ e u) d v := by
  simp only [setD_eq]
  cases d <;> cases e <;> try rfl
  rename_i a b
  have : a ≠ b := fun x => h a rfl (by rw [x])
  exact List.set_comm _ _ this

theorem rAfter_len (l : List (AOper × Oc)) : ∀ (i : Nat) (D : Nat → Bool) (ρ : List AVal), (rAfter l i D ρ).length = ρ.length := by
  induction l with
  | nil => intros; rfl
  | cons x l ih => intro i D ρ; simp only [rAfter]; rw [ih]; split <;> simp [setD_len]

theorem rAfter_tget (t : Nat) (l : List (AOper × Oc)) : ∀ (i : Nat) (D D' : Nat → Bool) (ρ ρ' : List AVal), ρ.length = ρ'.length → tget ρ t = tget ρ' t →
    (∀ j x, l[j]? = some x → x.1.dst = some t → D (i + j) = D' (i + j)) → tget (rAfter l i D ρ) t = tget (rAfter l i D' ρ') t := by
  induction l with
  | nil => intro i D D' ρ ρ' _ h _; exact h
  | cons x l ih =>
    intro i D D' ρ ρ' hl h hd
    simp only [rAfter]
    refine ih (i + 1) D D' _ _ ?_ ?_ fun j y hy hyd => by have := hd (j + 1) y (by simpa using hy) hyd; rwa [show i + (j + 1) = i + 1 + j by omega] at this
    · split <;> split <;> simp [setD_len, hl]
    · by_cases hx : x.1.dst = some t
      · have e := hd 0 x (by simp) hx
        simp only [Nat.add_zero] at e
        rw [e]
        split
        · rw [hx]; exact tget_setD_same hl
        · exact h
      · split <;> split <;> simp only [tget_setD_ne hx, h]

theorem rAfter_congr (l : List (AOper × Oc)) : ∀ (i : Nat) (D D' : Nat → Bool) (ρ : List AVal), (∀ m, i ≤ m → D m = D' m) → rAfter l i D ρ = rAfter l i D' ρ := by
  induction l with
  | nil => intros; rfl
  | cons x l ih =>
    intro i D D' ρ h
    simp only [rAfter, h i (Nat.le_refl _)]
    exact ih _ _ _ _ fun m hm => h m (by omega)

theorem hAfter_congr (l : List (AOper × Oc)) : ∀ (i : Nat) (D D' : Nat → Bool) (H : Heap), (∀ m, i ≤ m → D m = D' m) → hAfter l i D H = hAfter l i D' H := by
  induction l with
  | nil => intros; rfl
  | cons x l ih =>
    intro i D D' H h
    simp only [hAfter, h i (Nat.le_refl _)]
    exact ih _ _ _ _ fun m hm => h m (by omega)

theorem rAfter_setD {d : Option Nat} {v : AVal} (l : List (AOper × Oc)) : ∀ (i : Nat) (D : Nat → Bool) (ρ : List AVal), (∀ j x t, l[j]? = some x → D (i + j) = true → d = some t → x.1.dst ≠ some t) →
    rAfter l i D (setD ρ d v) = setD (rAfter l i D ρ) d v := by
  induction l with
  | nil => intros; rfl
  | cons x l ih =>
    intro i D ρ h
    simp only [rAfter]
    have h' : ∀ j y t, l[j]? = some y → D (i + 1 + j) = true → d = some t → y.1.dst ≠ some t := fun j y t hy hd ht => h (j + 1) y t (by simpa using hy) (by rwa [show i + (j + 1) = i + 1 + j by omega]) ht
    split
    · rename_i hD
      rw [setD_comm ρ v x.2.v fun t ht => h 0 x t (by simp) (by simpa using hD) ht, ih _ _ _ h']
    · exact ih _ _ _ h'

theorem rAfter_add {x : AOper × Oc} (l : List (AOper × Oc)) : ∀ (i j : Nat) (D : Nat → Bool) (ρ : List AVal), l[j]? = some x → D (i + j) = false →
    (∀ m y t, l[m]? = some y → j < m → D (i + m) = true → x.1.dst = some t → y.1.dst ≠ some t) →
    rAfter l i (upd D (i + j)) ρ = setD (rAfter l i D ρ) x.1.dst x.2.v := by
  induction l with
  | nil => intro i j D ρ h; simp at h
  | cons z l ih =>
    intro i j D ρ h hD hm
    cases j with
    | zero =>
      simp only [List.getElem?_cons_zero, Option.some.injEq] at h
      subst h
      simp only [Nat.add_zero] at hD ⊢
      have e : rAfter l (i + 1) (upd D i) = rAfter l (i + 1) D := by
        funext ρ
        exact rAfter_congr l _ _ _ ρ fun m hm => by simp [upd]; intro h; omega
      have e' : upd D i i = true := by simp [upd]
      simp only [rAfter, e', if_true, hD, Bool.false_eq_true, if_false]
      rw [e]
      exact rAfter_setD l (i + 1) D ρ fun j y t hy hd ht => hm (j + 1) y t (by simpa using hy) (by omega) (by rwa [show i + (j + 1) = i + 1 + j by omega]) ht
    | succ j =>
      simp only [List.getElem?_cons_succ] at h
      simp only [rAfter]
      have e : i + (j + 1) = i + 1 + j := by omega
      rw [e] at hD ⊢
      have hi : upd D (i + 1 + j) i = D i := by simp [upd]; intro h; omega
      rw [hi]
      exact ih (i + 1) j D _ h hD fun m y t hy hjm hd ht => hm (m + 1) y t (by simpa using hy) (by omega) (by rwa [show i + (m + 1) = i + 1 + m by omega]) ht

theorem Heap.put_get (H : Heap) (r s : Nat) (x : Row) : (H.put r x)[s]? = if s = r then some (some x) else if s < H.length then H[s]? else if s < r then some none else none := by
  by_cases h : s = r
  · rw [if_pos h, h]; exact Heap.put_same H r x
  · rw [if_neg h]
    unfold Heap.put
    split
    · rename_i hr
      rw [List.getElem?_set_ne (by omega)]
      split
      · rfl
      · rw [List.getElem?_eq_none (by omega)]
        rw [if_neg (by omega)]
    · rename_i hr
      split
      · rename_i hs; rw [List.getElem?_append_left hs]
      · rename_i hs
        rw [List.getElem?_append_right (by omega)]
        split
        · rw [List.getElem?_append_left (by simp; omega), List.getElem?_replicate, if_pos (by omega)]
        · rw [List.getElem?_eq_none (by simp; omega)]

theorem Heap.put_comm (H : Heap) {r s : Nat} (x y : Row) (h : r ≠ s) : (H.put r x).put s y = (H.put s y).put r x := by
  apply List.ext_getElem?
  intro n
  simp only [Heap.put_get, Heap.len_put]
  repeat' split
  all_goals first | rfl | omega

theorem Heap.puts_put (Δ : List (Nat × Row)) : ∀ (H : Heap) (r : Nat) (x : Row), r ∉ Δ.map (·.1) → (H.put r x).puts Δ = (H.puts Δ).put r x := by
  induction Δ with
  | nil => intros; rfl
  | cons p Δ ih =>
    intro H r x h
    simp only [List.map_cons, List.mem_cons, not_or] at h
    simp only [Heap.puts]
    rw [Heap.put_comm H x p.2 h.1, ih _ _ _ h.2]

theorem Heap.puts_comm (Δ Δ' : List (Nat × Row)) : ∀ (H : Heap), (∀ r ∈ Δ.map (·.1), r ∉ Δ'.map (·.1)) → (H.puts Δ).puts Δ' = (H.puts Δ').puts Δ := by
  induction Δ with
  | nil => intros; rfl
  | cons p Δ ih =>
    intro H h
    simp only [Heap.puts]
    rw [ih _ fun r hr => h r (by simp at hr ⊢; exact .inr hr), Heap.puts_put _ _ _ _ (h p.1 (by simp))]

theorem hAfter_puts {Δ : List (Nat × Row)} (l : List (AOper × Oc)) : ∀ (i : Nat) (D : Nat → Bool) (H : Heap), (∀ j x, l[j]? = some x → D (i + j) = true → ∀ r ∈ Δ.map (·.1), r ∉ x.2.rows) →
    hAfter l i D (H.puts Δ) = (hAfter l i D H).puts Δ := by
  induction l with
  | nil => intros; rfl
  | cons x l ih =>
    intro i D H h
    simp only [hAfter]
    have h' : ∀ j y, l[j]? = some y → D (i + 1 + j) = true → ∀ r ∈ Δ.map (·.1), r ∉ y.2.rows := fun j y hy hd => h (j + 1) y (by simpa using hy) (by rwa [show i + (j + 1) = i + 1 + j by omega])
    split
    · rename_i hD
      rw [Heap.puts_comm Δ x.2.Δ H (h 0 x (by simp) (by simpa using hD)), ih _ _ _ h']
    · exact ih _ _ _ h'

theorem hAfter_add {x : AOper × Oc} (l : List (AOper × Oc)) : ∀ (i j : Nat) (D : Nat → Bool) (H : Heap), l[j]? = some x → D (i + j) = false →
    (∀ m y, l[m]? = some y → j < m → D (i + m) = true → ∀ r ∈ x.2.rows, r ∉ y.2.rows) →
    hAfter l i (upd D (i + j)) H = (hAfter l i D H).puts x.2.Δ := by
  induction l with
  | nil => intro i j D H h; simp at h
  | cons z l ih =>
    intro i j D H h hD hm
    cases j with
    | zero =>
      simp only [List.getElem?_cons_zero, Option.some.injEq] at h
      subst h
      simp only [Nat.add_zero] at hD ⊢
      have e : hAfter l (i + 1) (upd D i) = hAfter l (i + 1) D := by
        funext H
        exact hAfter_congr l _ _ _ H fun m hm => by simp [upd]; intro h; omega
      have e' : upd D i i = true := by simp [upd]
      simp only [hAfter, e', if_true, hD, Bool.false_eq_true, if_false]
      rw [e]
      exact hAfter_puts l (i + 1) D H fun j y hy hd => hm (j + 1) y (by simpa using hy) (by omega) (by rwa [show i + (j + 1) = i + 1 + j by omega])
    | succ j =>
      simp only [List.getElem?_cons_succ] at h
      simp only [hAfter]
      have e : i + (j + 1) = i + 1 + j := by omega
      rw [e] at hD ⊢
      have hi : upd D (i + 1 + j) i = D i := by simp [upd]; intro h; omega
      rw [hi]
      exact ih (i + 1) j D _ h hD fun m y hy hjm hd => hm (m + 1) y (by simpa using hy) (by omega) (by rwa [show i + (m + 1) = i + 1 + m by omega])

/-- Of a row two heaps say the same. -/
def Same (r : Nat) (H H' : Heap) : Prop := ∀ y, H[r]? = some (some y) ↔ H'[r]? = some (some y)

theorem Same.refl (r : Nat) (H : Heap) : Same r H H := fun _ => Iff.rfl
theorem Same.put {r : Nat} {H H' : Heap} (h : Same r H H') (q : Nat) (x : Row) : Same r (H.put q x) (H'.put q x) := fun y => by
  by_cases hq : r = q
  · subst hq; rw [Heap.put_same, Heap.put_same]
  · rw [Heap.put_other H x hq, Heap.put_other H' x hq]; exact h y
theorem Same.puts {r : Nat} (Δ : List (Nat × Row)) : ∀ {H H' : Heap}, Same r H H' → Same r (H.puts Δ) (H'.puts Δ) := by
  induction Δ with
  | nil => intro H H' h; exact h
  | cons p Δ ih => intro H H' h; exact ih (h.put p.1 p.2)
theorem Same.off {r : Nat} (Δ : List (Nat × Row)) : ∀ {H : Heap}, r ∉ Δ.map (·.1) → Same r (H.puts Δ) H := by
  induction Δ with
  | nil => intro H _; exact .refl _ _
  | cons p Δ ih =>
    intro H h y
    simp only [List.map_cons, List.mem_cons, not_or] at h
    exact (ih h.2 y).trans (Heap.put_other H p.2 h.1 y)
theorem Same.symm {r : Nat} {H H' : Heap} (h : Same r H H') : Same r H' H := fun y => (h y).symm
theorem Same.trans {r : Nat} {H H' H'' : Heap} (h : Same r H H') (h' : Same r H' H'') : Same r H H'' := fun y => (h y).trans (h' y)

theorem hAfter_same (r : Nat) (l : List (AOper × Oc)) : ∀ (i : Nat) (D D' : Nat → Bool) (H H' : Heap), Same r H H' →
    (∀ j x, l[j]? = some x → r ∈ x.2.rows → D (i + j) = D' (i + j)) → Same r (hAfter l i D H) (hAfter l i D' H') := by
  induction l with
  | nil => intro i D D' H H' h _; exact h
  | cons x l ih =>
    intro i D D' H H' h hd
    simp only [hAfter]
    refine ih (i + 1) D D' _ _ ?_ fun j y hy hr => by have := hd (j + 1) y (by simpa using hy) hr; rwa [show i + (j + 1) = i + 1 + j by omega] at this
    by_cases hx : r ∈ x.2.rows
    · have e := hd 0 x (by simp) hx
      simp only [Nat.add_zero] at e
      rw [e]
      split
      · exact h.puts _
      · exact h
    · split <;> split
      · exact h.puts _
      · exact (Same.off _ hx).trans h
      · exact h.trans (Same.off _ hx).symm
      · exact h

/-- A heap without some rows. -/
def Heap.mask (H : Heap) (rs : List Nat) : Heap := H.zipIdx.map fun (x, i) => if i ∈ rs then none else x

theorem mask_get (H : Heap) (rs : List Nat) (r : Nat) (y : Row) : (H.mask rs)[r]? = some (some y) ↔ r ∉ rs ∧ H[r]? = some (some y) := by
  unfold Heap.mask
  rw [List.getElem?_map, List.getElem?_zipIdx]
  cases h : H[r]? with
  | none => simp
  | some x =>
    simp only [Option.map_some, Nat.zero_add, Option.some.injEq]
    by_cases hr : r ∈ rs
    · simp [hr]
    · simp [hr]

theorem cellsAt_get {H : Heap} {r : Nat} {x : Bool × Nat × List AVal} : H.cellsAt r = some x ↔ H[r]? = some (some (.cells x.1 x.2.1 x.2.2)) := by
  unfold Heap.cellsAt
  constructor
  · intro h
    split at h
    · rename_i g sz es he; cases h; exact he
    · cases h
  · intro h; rw [h]

/-- What the masked heap says, each heap says that is the same off the mask. -/
theorem mask_le {H H' : Heap} {rs : List Nat} (h : ∀ r, r ∉ rs → Same r H H') : (H.mask rs).le H' := fun r x hx => by
  rw [cellsAt_get, mask_get] at hx
  rw [cellsAt_get]
  exact (h r hx.1 _).1 hx.2

theorem cellsAt_mask (H : Heap) (rs : List Nat) (r : Nat) : (H.mask rs).cellsAt r = if r ∈ rs then none else H.cellsAt r := by
  apply Option.ext
  intro x
  rw [cellsAt_get, mask_get]
  split
  · rename_i h; simp [h]
  · rename_i h; rw [cellsAt_get]; simp [h]

section
variable {P : Program} {G : Ctx}

/-- Where no row is laid, it does not matter where it would be. -/
theorem aev_free {op : AOp} {ρ : List AVal} {H : Heap} {n n' : Nat} {v : AVal} {Δ : List (Nat × Row)} (h : aev op ρ H n = some (v, Δ)) (hn : n ∉ Δ.map (·.1)) : aev op ρ H n' = some (v, Δ) := by
  cases op <;> try exact h
  case box x =>
    simp only [aev] at h
    split at h
    · cases h
    · simp only [Option.some.injEq, Prod.mk.injEq] at h
      rw [← h.2] at hn; simp at hn
  case buildSlice sz xs =>
    simp only [aev] at h
    split at h
    · simp only [Option.some.injEq, Prod.mk.injEq] at h
      rw [← h.2] at hn; simp at hn
    · cases h
  case makeSlice z b l c =>
    simp only [aev] at h
    repeat' split at h
    all_goals first
      | (cases h; done)
      | (simp only [Option.some.injEq, Prod.mk.injEq] at h
         rw [← h.2] at hn; simp at hn)
  case append sz b g s x =>
    simp only [aev] at h ⊢
    cases he : elemsOf H (opd ρ x) with
    | none => rw [he] at h; cases h
    | some ys =>
      rw [he] at h
      simp only at h ⊢
      split at h
      · cases h
      · rename_i hz
        rw [if_neg hz]
        cases hs : opd ρ s
        case nilsl =>
          rw [hs] at h
          simp only at h ⊢
          split at h
          · rename_i hy; rw [if_pos hy]; exact h
          · rename_i hy
            rw [if_neg hy]
            split at h
            · simp only [Option.some.injEq, Prod.mk.injEq] at h
              rw [← h.2] at hn; simp at hn
            · cases h
        case sl r off len => rw [hs] at h; cases off <;> exact h
        all_goals (rw [hs] at h; cases h)

/-- An operation that lays its row at a free index. -/
theorem op_at {ao : AOper} {s : St} {n i : Nat} {v : AVal} {Δ : List (Nat × Row)} {ops : Array Oper} {draw : Bool} {o : Oper} {Q : Exit → Act → World → Prop} {μ : Mu} {ro : Option Nat} {a : Act} {w : World}
    (hi : ops[i]? = some o) (hc : coper P ops draw i o = ao) (hg : gval s.ρ ao.guard = some true) (he : aev ao.op s.ρ s.H n = some (v, Δ)) (hn : μ n = none) (h : Rel P G μ s a w) :
    wpOpIn (Fw ro) 0 P ops Q i (fun a' w' => ∃ μ', Rel P G μ' ⟨setD s.ρ ao.dst v, s.H.puts Δ, s.ms⟩ a' w' ∧ μ.le μ' ∧ ∀ r, (μ' r).isSome = true → (μ r).isSome = true ∨ (r = n ∧ r < (s.H.puts Δ).length)) a w := by
  have hnb : ao.op ≠ .bad := by rintro hb; rw [hb] at he; simp [aev] at he
  obtain ⟨h1, h2, h3⟩ := coper_parts hc hnb
  have hw := wanted_of h.tr ops o h1 hg
  simp only [wpOpIn, hi, if_pos hw]
  rw [← h2] at he
  obtain ⟨x, cv, w', μ', hrun, hx, hv, hle, hH, hdom⟩ := aev_sound h.tr h.hr hn o he
  have hnd : ∀ c, o.op ≠ .defer c := by
    intro c hd
    simp [cop, hd, aev] at he
  have hfree : s.H[n]? = none ∨ s.H[n]? = some none := by
    cases hq : s.H[n]? with
    | none => exact .inl rfl
    | some y => cases y with
      | none => exact .inr rfl
      | some y => obtain ⟨p, k1, _⟩ := h.hr.row n y hq; rw [hn] at k1; cases k1
  have hrow : ∀ r, s.H[r]? = some (some Row.dfr) → (s.H.puts Δ)[r]? = some (some Row.dfr) := fun r hr => puts_dfr he hfree hr
  have hfin : ∃ μ', Rel P G μ' ⟨setD s.ρ ao.dst v, s.H.puts Δ, s.ms⟩ (a.put o.dst cv) w' ∧ μ.le μ' ∧ ∀ r, (μ' r).isSome = true → (μ r).isSome = true ∨ (r = n ∧ r < (s.H.puts Δ).length) := by
    refine ⟨μ', ?_, hle, fun r hr => ?_⟩
    · rw [← h3]
      refine ⟨(h.tr.mono hle).put hv _, hH, fun r hr => ?_, ?_, fun r hr => hrow r (h.mkr r hr)⟩
      · have hl := Heap.le_puts Δ s.H
        rcases hdom r hr with h5 | ⟨rfl, h5⟩
        · have := h.dom r h5; simp only; omega
        · exact h5
      · rw [put_defers, h.mk']; exact (h.same_marks hle).symm
    · rcases hdom r hr with h5 | ⟨h5, h6⟩
      · exact .inl h5
      · exact .inr ⟨h5, h5 ▸ h6⟩
  unfold Oper.wpIn
  refine ⟨fun _ _ => trivial, ?_⟩
  rw [Oper.semAt_eq _ _ _ hnd, hrun]
  rcases hx with rfl | ⟨rfl, rfl⟩
  · exact hfin
  · exact hfin

/-- An operation whose guard is false. -/
theorem op_off {ao : AOper} {s : St} {i : Nat} {ops : Array Oper} {draw : Bool} {o : Oper} {Q : Exit → Act → World → Prop} {μ : Mu} {ro : Option Nat} {a : Act} {w : World}
    (hi : ops[i]? = some o) (hc : coper P ops draw i o = ao) (hg : gval s.ρ ao.guard = some false) (h : Rel P G μ s a w) :
    wpOpIn (Fw ro) 0 P ops Q i (fun a' w' => Rel P G μ ⟨setD s.ρ ao.dst (.tup []), s.H, s.ms⟩ a' w') a w := by
  obtain ⟨h1, h2⟩ := coper_guard hc hg rfl
  have hw := wanted_of h.tr ops o h1 hg
  simp only [wpOpIn, hi, hw]
  refine ⟨fun _ _ => trivial, ?_⟩
  rw [h2]
  exact ⟨h.tr.put vr_undef _, h.hr, h.dom, by rw [put_defers]; exact h.mk', h.mkr⟩
end
end Go.Sx
