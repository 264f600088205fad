/- Values: what they refer to, whether two are equal. -/
import Derived.Test.YtnfnjolpojofcabSxSeg
namespace Go.Sx
open Go

mutual
/-- All rows of a value. -/
def allR (p : Nat → Bool) : AVal → Bool
  | .any | .bool _ | .int _ _ | .str _ | .nilptr | .nilsl | .nilfn | .niliface | .nilmap => true
  | .ptr r _ _ _ => p r
  | .rptr e _ => allR p e
  | .sl r _ _ => p r
  | .view es => allRs p es
  | .fn _ a b => allRs p a && allRs p b
  | .yfn r => p r
  | .iface _ v => allR p v
  | .agg cs => allRs p cs
  | .tup cs => allRs p cs
  | .mp r => p r
def allRs (p : Nat → Bool) : List AVal → Bool
  | [] => true
  | v :: vs => allR p v && allRs p vs
end

mutual
def rowsV : AVal → List Nat
  | .any | .bool _ | .int _ _ | .str _ | .nilptr | .nilsl | .nilfn | .niliface | .nilmap => []
  | .ptr r _ _ _ => [r]
  | .rptr e _ => rowsV e
  | .sl r _ _ => [r]
  | .view es => rowsVs es
  | .fn _ a b => rowsVs a ++ rowsVs b
  | .yfn r => [r]
  | .iface _ v => rowsV v
  | .agg cs => rowsVs cs
  | .tup cs => rowsVs cs
  | .mp r => [r]
def rowsVs : List AVal → List Nat
  | [] => []
  | v :: vs => rowsV v ++ rowsVs vs
end

mutual
def veq : AVal → AVal → Bool
  | .any, w => match w with | .any => true | _ => false
  | .bool a, w => match w with | .bool b => a == b | _ => false
  | .int k n, w => match w with | .int k' n' => decide (k = k') && decide (n = n') | _ => false
  | .str s, w => match w with | .str t => decide (s = t) | _ => false
  | .ptr r i o L, w => match w with | .ptr r' i' o' L' => decide (r = r') && (decide (i = i') && (decide (o = o') && decide (L = L'))) | _ => false
  | .rptr e o, w => match w with | .rptr e' o' => veq e e' && decide (o = o') | _ => false
  | .nilptr, w => match w with | .nilptr => true | _ => false
  | .sl r o l, w => match w with | .sl r' o' l' => decide (r = r') && (decide (o = o') && decide (l = l')) | _ => false
  | .view es, w => match w with | .view es' => veqs es es' | _ => false
  | .nilsl, w => match w with | .nilsl => true | _ => false
  | .fn (.func f) a b, w => match w with | .fn (.func g) a' b' => decide (f = g) && (veqs a a' && veqs b b') | _ => false
  | .fn _ _ _, _ => false
  | .yfn r, w => match w with | .yfn r' => decide (r = r') | _ => false
  | .nilfn, w => match w with | .nilfn => true | _ => false
  | .iface t v, w => match w with | .iface t' v' => decide (t = t') && veq v v' | _ => false
  | .niliface, w => match w with | .niliface => true | _ => false
  | .agg cs, w => match w with | .agg cs' => veqs cs cs' | _ => false
  | .tup cs, w => match w with | .tup cs' => veqs cs cs' | _ => false
  | .mp r, w => match w with | .mp r' => decide (r = r') | _ => false
  | .nilmap, w => match w with | .nilmap => true | _ => false
def veqs : List AVal → List AVal → Bool
  | [], w => match w with | [] => true | _ => false
  | v :: vs, w => match w with | u :: us => veq v u && veqs vs us | [] => false
end

mutual
theorem veq_eq : ∀ (v w : AVal), veq v w = true → v = w
  | .any, w, h => by cases w <;> simp_all [veq]
  | .bool a, w, h => by cases w <;> simp_all [veq]
  | .int k n, w, h => by cases w <;> simp_all [veq]
  | .str s, w, h => by cases w <;> simp_all [veq]
  | .ptr r i o L, w, h => by cases w <;> simp_all [veq]
  | .rptr e o, w, h => by
    cases w <;> simp only [veq] at h <;> try (cases h; done)
    rename_i e' o'
    simp only [Bool.and_eq_true, decide_eq_true_eq] at h
    rw [veq_eq e e' h.1, h.2]
  | .nilptr, w, h => by cases w <;> simp_all [veq]
  | .sl r o l, w, h => by cases w <;> simp_all [veq]
  | .view es, w, h => by
    cases w <;> simp only [veq] at h <;> try (cases h; done)
    rw [veqs_eq _ _ h]
  | .nilsl, w, h => by cases w <;> simp_all [veq]
  | .fn (.func f) a b, w, h => by
    cases w <;> simp only [veq] at h <;> try (cases h; done)
    rename_i g a' b'
    cases g <;> simp only [] at h <;> try (cases h; done)
    simp only [Bool.and_eq_true, decide_eq_true_eq] at h
    rw [h.1, veqs_eq _ _ h.2.1, veqs_eq _ _ h.2.2]
  | .fn (.method n) a b, w, h => by simp [veq] at h
  | .fn (.methodOf t n) a b, w, h => by simp [veq] at h
  | .fn (.yield l) a b, w, h => by simp [veq] at h
  | .yfn r, w, h => by cases w <;> simp_all [veq]
  | .nilfn, w, h => by cases w <;> simp_all [veq]
  | .iface t v, w, h => by
    cases w <;> simp only [veq] at h <;> try (cases h; done)
    rename_i t' v'
    simp only [Bool.and_eq_true, decide_eq_true_eq] at h
    rw [veq_eq v v' h.2, h.1]
  | .niliface, w, h => by cases w <;> simp_all [veq]
  | .agg cs, w, h => by
    cases w <;> simp only [veq] at h <;> try (cases h; done)
    rw [veqs_eq _ _ h]
  | .tup cs, w, h => by
    cases w <;> simp only [veq] at h <;> try (cases h; done)
    rw [veqs_eq _ _ h]
  | .mp r, w, h => by cases w <;> simp_all [veq]
  | .nilmap, w, h => by cases w <;> simp_all [veq]
theorem veqs_eq : ∀ (v w : List AVal), veqs v w = true → v = w
  | [], w, h => by cases w <;> simp_all [veqs]
  | v :: vs, w, h => by
    cases w <;> simp only [veqs] at h <;> try (cases h; done)
    simp only [Bool.and_eq_true] at h
    rw [veq_eq _ _ h.1, veqs_eq _ _ h.2]
end

theorem Bel.cells {S : Nat → Prop} {v : AVal} (h : Bel S v) : ∀ j, j < (acells v).length → Bel S ((acells v).getD j .any) := by
  intro j hj
  by_cases hv : ∃ cs, v = .agg cs
  · obtain ⟨cs, rfl⟩ := hv
    cases h with | agg _ hv => exact hv j hj
  · rw [acells_one hv] at hj ⊢
    simp only [List.length_singleton] at hj
    obtain rfl : j = 0 := by omega
    exact h

mutual
theorem allR_bel {p : Nat → Bool} : ∀ (v : AVal), allR p v = true → Bel (fun r => p r = true) v
  | .any, _ => .any
  | .bool b, _ => .bool b
  | .int k n, _ => .int k n
  | .str s, _ => .str s
  | .ptr r i o L, h => .ptr r i o L (by simpa [allR] using h)
  | .rptr e o, h => .rptr e o (Bel.cells (allR_bel e (by simpa [allR] using h)))
  | .nilptr, _ => .nilptr
  | .sl r o l, h => .sl r o l (by simpa [allR] using h)
  | .view es, h => .view es fun i j hi hj => Bel.cells (allRs_bel es (by simpa [allR] using h) i hi) j hj
  | .nilsl, _ => .nilsl
  | .fn f a b, h => by
    simp only [allR, Bool.and_eq_true] at h
    exact .fn f a b (allRs_bel a h.1) (allRs_bel b h.2)
  | .yfn r, h => .yfn r (by simpa [allR] using h)
  | .nilfn, _ => .nilfn
  | .iface t v, h => .iface t v (allR_bel v (by simpa [allR] using h))
  | .niliface, _ => .niliface
  | .agg cs, h => .agg cs (allRs_bel cs (by simpa [allR] using h))
  | .tup cs, h => .tup cs (allRs_bel cs (by simpa [allR] using h))
  | .mp r, h => .mp r (by simpa [allR] using h)
  | .nilmap, _ => .nilmap
theorem allRs_bel {p : Nat → Bool} : ∀ (l : List AVal), allRs p l = true → ∀ i, i < l.length → Bel (fun r => p r = true) (l.getD i .any)
  | [], _, i, hi => by simp at hi
  | v :: vs, h, i, hi => by
    simp only [allRs, Bool.and_eq_true] at h
    cases i with
    | zero => exact allR_bel v h.1
    | succ i => simpa using allRs_bel vs h.2 i (by simpa using hi)
end

theorem list_ext_getD {a b : List AVal} (hl : a.length = b.length) (h : ∀ i, i < a.length → a.getD i .any = b.getD i .any) : a = b := by
  apply List.ext_getElem hl
  intro i h1 h2
  have := h i h1
  rw [List.getD_eq_getElem?_getD, List.getD_eq_getElem?_getD, List.getElem?_eq_getElem h1, List.getElem?_eq_getElem h2] at this
  exact this

/-- There and back. -/
theorem ren_back {f g : Nat → Nat} {S : Nat → Prop} (hS : ∀ r, S r → f (g r) = r) {v : AVal} (h : Bel S v) : ren f (ren g v) = v := by
  have cells : ∀ e : AVal, (∀ j, j < (acells e).length → ren f (ren g ((acells e).getD j .any)) = (acells e).getD j .any) → ren f (ren g e) = e := by
    intro e he
    by_cases hv : ∃ cs, e = .agg cs
    · obtain ⟨cs, rfl⟩ := hv
      simp only [ren, acells] at he ⊢
      congr 1
      refine list_ext_getD (by simp [rens_len]) fun i hi => ?_
      rw [rens_getD, rens_getD]
      exact he i (by simpa [rens_len] using hi)
    · rw [acells_one hv] at he
      simpa using he 0 (by simp)
  induction h with
  | any => rfl
  | bool b => rfl
  | int q n => rfl
  | str l => rfl
  | ptr r i off L hr => simp only [ren, hS r hr]
  | rptr e off _ ih => simp only [ren]; rw [cells e ih]
  | nilptr => rfl
  | sl r off len hr => simp only [ren, hS r hr]
  | view es _ ih =>
    simp only [ren]
    congr 1
    refine list_ext_getD (by simp [rens_len]) fun i hi => ?_
    rw [rens_getD, rens_getD]
    exact cells _ (ih i · (by simpa [rens_len] using hi))
  | nilsl => rfl
  | fn f' a b _ _ iha ihb =>
    simp only [ren]
    congr 1
    · exact list_ext_getD (by simp [rens_len]) fun i hi => by rw [rens_getD, rens_getD]; exact iha i (by simpa [rens_len] using hi)
    · exact list_ext_getD (by simp [rens_len]) fun i hi => by rw [rens_getD, rens_getD]; exact ihb i (by simpa [rens_len] using hi)
  | yfn r hr => simp only [ren, hS r hr]
  | nilfn => rfl
  | iface t v _ ih => simp only [ren, ih]
  | niliface => rfl
  | agg cs _ ih =>
    simp only [ren]
    congr 1
    exact list_ext_getD (by simp [rens_len]) fun i hi => by rw [rens_getD, rens_getD]; exact ih i (by simpa [rens_len] using hi)
  | tup cs _ ih =>
    simp only [ren]
    congr 1
    exact list_ext_getD (by simp [rens_len]) fun i hi => by rw [rens_getD, rens_getD]; exact ih i (by simpa [rens_len] using hi)
  | mp r hr => simp only [ren, hS r hr]
  | nilmap => rfl

def Row.allR (p : Nat → Bool) : Row → Bool
  | .cells _ _ es => allRs p es
  | .loop ρ _ _ _ d _ _ => p d && allRs p ρ
  | .dfr => true
  | .siter _ _ => true

def Row.rows : Row → List Nat
  | .cells _ _ es => rowsVs es
  | .loop ρ _ _ _ d _ _ => d :: rowsVs ρ
  | .dfr => []
  | .siter _ _ => []

def Row.same : Row → Row → Bool
  | .cells g sz es, x => match x with | .cells g' sz' es' => g == g' && (decide (sz = sz') && veqs es es') | _ => false
  | .dfr, x => match x with | .dfr => true | _ => false
  | _, _ => false

theorem Row.same_eq {x y : Row} (h : x.same y = true) : x = y := by
  cases x <;> cases y <;> simp only [Row.same, Bool.and_eq_true, beq_iff_eq, decide_eq_true_eq] at h <;> try (cases h; done)
  · obtain ⟨rfl, rfl, h⟩ := h; rw [veqs_eq _ _ h]
  · rfl

theorem Row.allR_bel {p : Nat → Bool} {x : Row} (h : x.allR p = true) : x.bel (fun r => p r = true) := by
  cases x with
  | cells g sz es => exact fun i j hi hj => Bel.cells (allRs_bel es h i hi) j hj
  | loop ρ ps asg body d st pend =>
    simp only [Row.allR, Bool.and_eq_true] at h
    exact ⟨h.1, allRs_bel ρ h.2⟩
  | dfr => trivial
  | siter s pos => trivial

theorem Row.ren_back {f g : Nat → Nat} {p : Nat → Bool} (hS : ∀ r, p r = true → f (g r) = r) {x : Row} (h : x.allR p = true) : (x.ren g).ren f = x := by
  have hl : ∀ l : List AVal, allRs p l = true → rens f (rens g l) = l := fun l hl =>
    list_ext_getD (by simp [rens_len]) fun i hi => by rw [rens_getD, rens_getD]; exact Sx.ren_back hS (allRs_bel l hl i (by simpa [rens_len] using hi))
  cases x with
  | cells g' sz es => simp only [Row.ren]; rw [hl es h]
  | loop ρ ps asg body d st pend =>
    simp only [Row.allR, Bool.and_eq_true] at h
    simp only [Row.ren]; rw [hl ρ h.2, hS d h.1]
  | dfr => rfl
  | siter s pos => rfl
end Go.Sx
