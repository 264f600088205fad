/- Rows under other names; a call that sees only the rows that it is handed. -/
import Derived.Test.YtnfnjolpojofcabSxDraw
namespace Go.Sx
open Go

mutual
/-- A value, its rows by other names. -/
def ren (f : Nat → Nat) : AVal → AVal
  | .any => .any
  | .bool b => .bool b
  | .int k n => .int k n
  | .str s => .str s
  | .ptr r i off L => .ptr (f r) i off L
  | .rptr e off => .rptr (ren f e) off
  | .nilptr => .nilptr
  | .sl r off len => .sl (f r) off len
  | .view es => .view (rens f es)
  | .nilsl => .nilsl
  | .fn g a b => .fn g (rens f a) (rens f b)
  | .yfn r => .yfn (f r)
  | .nilfn => .nilfn
  | .iface t v => .iface t (ren f v)
  | .niliface => .niliface
  | .agg cs => .agg (rens f cs)
  | .tup vs => .tup (rens f vs)
  | .mp r => .mp (f r)
  | .nilmap => .nilmap
def rens (f : Nat → Nat) : List AVal → List AVal
  | [] => []
  | v :: vs => ren f v :: rens f vs
end

theorem rens_eq (f : Nat → Nat) : ∀ l : List AVal, rens f l = l.map (ren f)
  | [] => by simp [rens]
  | v :: vs => by simp [rens, rens_eq f vs]

theorem rens_len (f : Nat → Nat) (l : List AVal) : (rens f l).length = l.length := by simp [rens_eq]
theorem rens_getD (f : Nat → Nat) (l : List AVal) (i : Nat) : (rens f l).getD i .any = ren f (l.getD i .any) := by
  rw [rens_eq, List.getD_eq_getElem?_getD, List.getD_eq_getElem?_getD, List.getElem?_map]
  cases l[i]? <;> simp [ren]
theorem acells_ren (f : Nat → Nat) (v : AVal) : acells (ren f v) = rens f (acells v) := by
  cases v <;> simp [ren, acells, rens]

def Row.ren (f : Nat → Nat) : Row → Row
  | .cells g sz es => .cells g sz (rens f es)
  | .loop ρ ps asg body d st pend => .loop (rens f ρ) ps asg body (f d) st pend
  | .dfr => .dfr
  | .siter s pos => .siter s pos

section
variable {P : Program} {G : Ctx} {μ μ' : Mu} {f : Nat → Nat} {S : Nat → Prop}

theorem VR.push {v : AVal} {c : Value} (h : VR G μ v c) (hb : Bel S v) (hu : ∀ r p, S r → μ r = some p → μ' (f r) = some p) : VR G μ' (ren f v) c := by
  induction h with
  | any c => exact .any c
  | bool b => exact .bool b
  | int k n => exact .int k n
  | str l s h => exact .str l s h
  | ptr r i off L p c hp hL ho hc => cases hb with | ptr _ _ _ _ hr => exact .ptr _ i off L p c (hu r p hr hp) hL ho hc
  | rptr e off b o f' hb' hf _ ih =>
    cases hb with | rptr _ _ hv =>
    simp only [ren]
    refine .rptr _ off b o f' hb' (fun j hj => hf j ?_) fun j hj => ?_
    · rwa [acells_ren, rens_len] at hj
    · rw [acells_ren, rens_len] at hj
      rw [acells_ren, rens_getD]; exact ih j hj (hv j hj)
  | nilptr => exact .nilptr
  | sl r off len p c hp hvec hL ho hc => cases hb with | sl _ _ _ hr => exact .sl _ off len p c (hu r p hr hp) hvec hL ho hc
  | view es b o sz cap f' hb' hcap hs hf _ ih =>
    cases hb with | view _ hv =>
    simp only [ren]
    have := VR.view (G := G) (μ := μ') (rens f es) b o sz cap f' hb' (by rw [rens_len]; exact hcap) (fun i hi => by rw [rens_getD, acells_ren, rens_len]; exact hs i (by rwa [rens_len] at hi)) (fun i j hi hj => hf i j (by rwa [rens_len] at hi) hj)
      (fun i j hi hj => by rw [rens_getD, acells_ren, rens_getD]; rw [rens_len] at hi; exact ih i j hi hj (hv i j hi (by rw [hs i hi]; exact hj)))
    rwa [rens_len] at this
  | viewnil a cap => simp only [ren, rens]; exact .viewnil a cap
  | nilsl => exact .nilsl
  | fn g a b a' b' ha hb' _ _ iha ihb =>
    cases hb with | fn _ _ _ va vb =>
    exact .fn g _ _ a' b' (by rw [rens_len]; exact ha) (by rw [rens_len]; exact hb') (fun i hi => by rw [rens_len] at hi; rw [rens_getD]; exact iha i hi (va i hi)) (fun i hi => by rw [rens_len] at hi; rw [rens_getD]; exact ihb i hi (vb i hi))
  | yfn r p hp hv => cases hb with | yfn _ hr => exact .yfn _ p (hu r p hr hp) hv
  | nilfn => exact .nilfn
  | iface t v c _ ih => cases hb with | iface _ _ h => exact .iface t _ c (ih h)
  | niliface => exact .niliface
  | agg cs vs hl _ ih => cases hb with | agg _ hv => exact .agg _ vs (by rw [rens_len]; exact hl) fun i hi => by rw [rens_len] at hi; rw [rens_getD]; exact ih i hi (hv i hi)
  | tup cs vs hl _ ih => cases hb with | tup _ hv => exact .tup _ vs (by rw [rens_len]; exact hl) fun i hi => by rw [rens_len] at hi; rw [rens_getD]; exact ih i hi (hv i hi)
  | mp r p hp hv => cases hb with | mp _ hr => exact .mp _ p (hu r p hr hp) hv
  | nilmap => exact .nilmap

theorem VR.pull {v : AVal} (hb : Bel S v) (hu : ∀ r, S r → μ' r = μ (f r)) : ∀ {c : Value}, VR G μ (ren f v) c → VR G μ' v c := by
  induction hb with
  | any => intro c h; exact .any c
  | bool b => intro c h; simp only [ren] at h; cases h; exact .bool b
  | int q n => intro c h; simp only [ren] at h; cases h; exact .int q n
  | str l => intro c h; simp only [ren] at h; cases h with | str l s h => exact .str l s h
  | ptr r i off L hr => intro c h; simp only [ren] at h; cases h with | ptr _ _ _ _ p c hp hL ho hc => exact .ptr r i off L p c (by rw [hu r hr]; exact hp) hL ho hc
  | rptr e off _ ih =>
    intro c h; simp only [ren] at h
    cases h with | rptr _ _ b o f' hb' hf hv =>
    rw [acells_ren, rens_len] at hf
    refine .rptr e off b o f' hb' hf fun j hj => ih j hj ?_
    have := hv j (by rw [acells_ren, rens_len]; exact hj)
    rwa [acells_ren, rens_getD] at this
  | nilptr => intro c h; simp only [ren] at h; cases h; exact .nilptr
  | sl r off len hr => intro c h; simp only [ren] at h; cases h with | sl _ _ _ p c hp hvec hL ho hc => exact .sl r off len p c (by rw [hu r hr]; exact hp) hvec hL ho hc
  | view es _ ih =>
    intro c h; simp only [ren] at h
    generalize hz : rens f es = zs at h
    cases h with
    | view _ b o sz cap f' hb' hcap hs hf hv =>
      subst hz
      rw [rens_len] at hcap hs hf hv ⊢
      have hs' : ∀ i, i < es.length → (acells (es.getD i .any)).length = sz := fun i hi => by
        have := hs i hi
        rwa [rens_getD, acells_ren, rens_len] at this
      refine .view es b o sz cap f' hb' hcap hs' hf fun i j hi hj => ih i j hi (by rw [hs' i hi]; exact hj) ?_
      have := hv i j hi hj
      rwa [rens_getD, acells_ren, rens_getD] at this
    | viewnil a cap =>
      have : es = [] := by
        have := congrArg List.length hz
        rw [rens_len] at this
        exact List.eq_nil_of_length_eq_zero (by simpa using this)
      subst this
      exact .viewnil a cap
  | nilsl => intro c h; simp only [ren] at h; cases h; exact .nilsl
  | fn g a b _ _ iha ihb =>
    intro c h; simp only [ren] at h
    cases h with | fn _ _ _ a' b' ha hb' va vb =>
    rw [rens_len] at ha hb' va vb
    refine .fn g a b a' b' ha hb' (fun i hi => iha i hi ?_) fun i hi => ihb i hi ?_
    · have := va i hi; rwa [rens_getD] at this
    · have := vb i hi; rwa [rens_getD] at this
  | yfn r hr => intro c h; simp only [ren] at h; cases h with | yfn _ p hp hv => exact .yfn r p (by rw [hu r hr]; exact hp) hv
  | nilfn => intro c h; simp only [ren] at h; cases h; exact .nilfn
  | iface t v _ ih => intro c h; simp only [ren] at h; cases h with | iface _ _ c h => exact .iface t v c (ih h)
  | niliface => intro c h; simp only [ren] at h; cases h; exact .niliface
  | agg cs _ ih =>
    intro c h; simp only [ren] at h
    cases h with | agg _ vs hl hv =>
    rw [rens_len] at hl hv
    exact .agg cs vs hl fun i hi => ih i hi (by have := hv i hi; rwa [rens_getD] at this)
  | tup cs _ ih =>
    intro c h; simp only [ren] at h
    cases h with | tup _ vs hl hv =>
    rw [rens_len] at hl hv
    exact .tup cs vs hl fun i hi => ih i hi (by have := hv i hi; rwa [rens_getD] at this)
  | mp r hr => intro c h; simp only [ren] at h; cases h with | mp _ p hp hv => exact .mp r p (by rw [hu r hr]; exact hp) hv
  | nilmap => intro c h; simp only [ren] at h; cases h; exact .nilmap

theorem RowIs.push {p : Place} {hp : Array Obj} {x : Row} (h : RowIs P G μ p hp x) (hb : x.bel S) (hu : ∀ r p, S r → μ r = some p → μ' (f r) = some p) : RowIs P G μ' p hp (x.ren f) := by
  cases x with
  | cells g sz es =>
    obtain ⟨h1, h2, hg, C, ty, h3, h4, h5⟩ := h
    refine ⟨h1, by rw [rens_len]; exact h2, hg, C, ty, h3, h4, fun i hi => ?_⟩
    rw [rens_len] at hi
    rw [rens_getD, acells_ren, rens_len]
    refine ⟨(h5 i hi).1, fun j hj => ?_⟩
    obtain ⟨c, hc, hv⟩ := (h5 i hi).2 j hj
    exact ⟨c, hc, by rw [rens_getD]; exact hv.push (hb i j hi (by rw [(h5 i hi).1]; exact hj)) hu⟩
  | loop ρ ps asg body d st pend =>
    obtain ⟨h0, r, h1, h2, h3, h4, h5, h6, h7, h8, pd, h9, h10, h11⟩ := h
    exact ⟨h0, r, h1, h2, h3, h4, h5, h6, by rw [rens_len]; exact h7, fun t ht => by rw [rens_len] at ht; rw [rens_getD]; exact (h8 t ht).push (hb.2 t ht) hu, pd, hu d pd hb.1 h9, h10, h11⟩
  | dfr => exact h
  | siter s pos => exact h

theorem RowIs.pull {p : Place} {hp : Array Obj} {x : Row} (h : RowIs P G μ p hp (x.ren f)) (hb : x.bel S) (hu : ∀ r, S r → μ' r = μ (f r)) : RowIs P G μ' p hp x := by
  cases x with
  | cells g sz es =>
    obtain ⟨h1, h2, hg, C, ty, h3, h4, h5⟩ := h
    rw [rens_len] at h2 h5
    have hs : ∀ i, i < es.length → (acells (es.getD i .any)).length = sz := fun i hi => by
      have := (h5 i hi).1
      rwa [rens_getD, acells_ren, rens_len] at this
    refine ⟨h1, h2, hg, C, ty, h3, h4, fun i hi => ⟨hs i hi, fun j hj => ?_⟩⟩
    obtain ⟨c, hc, hv⟩ := (h5 i hi).2 j hj
    rw [rens_getD, acells_ren, rens_getD] at hv
    exact ⟨c, hc, hv.pull (hb i j hi (by rw [hs i hi]; exact hj)) hu⟩
  | loop ρ ps asg body d st pend =>
    obtain ⟨h0, r, h1, h2, h3, h4, h5, h6, h7, h8, pd, h9, h10, h11⟩ := h
    rw [rens_len] at h7 h8
    exact ⟨h0, r, h1, h2, h3, h4, h5, h6, h7, fun t ht => by have := h8 t ht; rw [rens_getD] at this; exact this.pull (hb.2 t ht) hu, pd, by rw [hu d hb.1]; exact h9, h10, h11⟩
  | dfr => exact h
  | siter s pos => exact h
end
end Go.Sx
