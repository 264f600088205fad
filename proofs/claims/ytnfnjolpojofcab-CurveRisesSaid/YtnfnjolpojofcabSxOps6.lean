/- 'aev' is sound: indexes, slice expressions, min and max. -/
import Derived.Test.YtnfnjolpojofcabSxOps5
namespace Go.Sx
open Go

variable {P : Program} {G : Ctx} {μ : Mu} {H : Heap} {n : Nat} {w : World} {ρ : List AVal} {a : Act} {v : AVal} {Δ : List (Nat × Row)}

theorem view_elem {es : List AVal} {i sz : Nat} {e : AVal} {b o cap : Nat} (hx : VR G μ (.view es) (.slice (some ⟨b, o, none⟩) es.length cap)) (he : es[i]? = some e) (hsz : (acells e).length = sz) :
    VR G μ (.rptr e 0) (.pointer (some ⟨b, o + i * sz, none⟩)) := by
  obtain ⟨hi, hd⟩ := getD_of_get he
  generalize hl : es.length = len at hx
  generalize hc : Value.slice (some (⟨b, o, none⟩ : Addr)) len cap = c at hx
  cases hx with
  | view _ b' o' sz' cap' f hb hcap hs hf hv =>
    cases hc
    have h1 := hs i (by omega)
    rw [hd, hsz] at h1
    subst h1
    have h2 : VR G μ (.rptr e 0) (.pointer (some ⟨b, o + i * sz + 0, none⟩)) :=
      .rptr e 0 b (o + i * sz) (f i) hb (fun j hj => hf i j (by omega) (by omega)) (fun j hj => by have := hv i j (by omega) (by omega); rw [hd] at this; exact this)
    simpa using h2
  | viewnil => simp at he

theorem aev_indexAddr (hT : TR G μ ρ a.tmps) (hH : HR P G μ H w) (t e : TypeId) (sz : Nat) (x y : Operand) (o : Oper) (ho : o.op = .indexAddr t x y) (hu : P.underlying t = some (.slice e)) (hsz : sizeT P e = some sz)
    (h : aev (.indexAddr sz (copd x) (copd y)) ρ H n = some (v, Δ)) : Step P G μ H n (execOp a.eval o) w v Δ := by
  have hex : execOp a.eval o = (do pure (.value (← Instr.indexAt t (a.eval x) (a.eval y)))) := by simp only [execOp, ho]
  rw [hex]
  simp only [aev] at h
  split at h
  · rename_i k i hi
    have hyv := (hi ▸ opd_sound hT y).inv_int
    split at h
    · cases h
    · rename_i hneg
      have hx := opd_sound hT x
      split at h
      · rename_i r off len hr
        rw [hr] at hx
        split at h
        · rename_i g sz' es hc
          split at h
          · rename_i hg
            obtain ⟨rfl, hg, hlt⟩ := hg
            obtain ⟨rfl, rfl⟩ := some_nil h
            obtain ⟨p, C, ty, h1, h2, h3, h4, h5, h6, h7, h8, h9⟩ := hH.own hc
            obtain ⟨p', h1', hvec, hL, hcv⟩ := hx.inv_sl
            rw [h1] at h1'; cases h1'
            obtain ⟨cap, hcs, hcap, _⟩ := hcv (live_of h6 h5 hg)
            have hadd : (⟨p.blk, p.off + off * p.sz, none⟩ : Addr).add (i.toNat * sz) = ⟨p.blk, p.off + (off + i.toNat) * p.sz + 0, none⟩ := by
              rw [add_at, h4, Nat.add_mul]; simp [Nat.add_assoc]
            refine Step.pure (cv := .pointer (some ⟨p.blk, p.off + (off + i.toNat) * p.sz + 0, none⟩)) hH ?_ (.ptr _ _ _ _ p _ h1 (by omega) rfl fun _ => rfl)
            have h0 : 0 ≤ i ∧ i < (len : Int) := by omega
            simp [Instr.indexAt, hyv, asIntOf, run_underlying hu, hcs, h0, run_sizeT hsz, hadd]
          · cases h
        · cases h
      · rename_i es hes
        rw [hes] at hx
        split at h
        · rename_i el hel
          split at h
          · rename_i hl
            obtain ⟨rfl, rfl⟩ := some_nil h
            obtain ⟨hi', _⟩ := getD_of_get hel
            obtain ⟨c, hc⟩ : ∃ c, a.eval x = c := ⟨_, rfl⟩
            rw [hc] at hx
            obtain ⟨b, oo, cap, rfl⟩ : ∃ b oo cap, c = .slice (some ⟨b, oo, none⟩) es.length cap := by
              cases hx with
              | view => exact ⟨_, _, _, rfl⟩
              | viewnil => simp at hi'
            have hve := view_elem hx hel hl
            have h0 : 0 ≤ i ∧ i < (es.length : Int) := by omega
            exact Step.pure (cv := .pointer (some ⟨b, oo + i.toNat * sz, none⟩)) hH (by simp [Instr.indexAt, hyv, asIntOf, run_underlying hu, hc, h0, run_sizeT hsz, add_at]) hve
          · cases h
        · cases h
      · cases h
  · cases h

theorem aev_indexArr (hT : TR G μ ρ a.tmps) (hH : HR P G μ H w) (t e : TypeId) (m sz : Nat) (x y : Operand) (o : Oper) (ho : o.op = .indexAddr t x y) (hu : P.underlying t = some (.array m e)) (hsz : sizeT P e = some sz)
    (h : aev (.indexArr m sz (copd x) (copd y)) ρ H n = some (v, Δ)) : Step P G μ H n (execOp a.eval o) w v Δ := by
  have hex : execOp a.eval o = (do pure (.value (← Instr.indexAt t (a.eval x) (a.eval y)))) := by simp only [execOp, ho]
  rw [hex]
  simp only [aev] at h
  split at h
  · rename_i k i hi
    have hyv := (hi ▸ opd_sound hT y).inv_int
    split at h
    · rename_i h0
      have hx := opd_sound hT x
      split at h
      · rename_i r q off L hr
        rw [hr] at hx
        split at h
        · rename_i g sz' es hc
          split at h
          · rename_i hg
            obtain ⟨rfl, rfl⟩ := some_nil h
            obtain ⟨p, h1, h2, h3, h4, h5⟩ := live_addr hH hc hg hx
            exact Step.pure (cv := .pointer (some ⟨p.blk, p.off + q * p.sz + off + i.toNat * sz, none⟩)) hH (by simp [Instr.indexAt, hyv, asIntOf, run_underlying hu, h5, Instr.sureAddr, h0, run_sizeT hsz, add_at]) (ptr_on h1 h4)
          · cases h
        · cases h
      · rename_i el off hr
        rw [hr] at hx
        obtain ⟨rfl, rfl⟩ := some_nil h
        obtain ⟨c, hc⟩ : ∃ c, a.eval x = c := ⟨_, rfl⟩
        rw [hc] at hx
        obtain ⟨b, oo, rfl⟩ : ∃ b oo, c = .pointer (some ⟨b, oo, none⟩) := by cases hx; exact ⟨_, _, rfl⟩
        exact Step.pure (cv := .pointer (some ⟨b, oo + i.toNat * sz, none⟩)) hH (by simp [Instr.indexAt, hyv, asIntOf, run_underlying hu, hc, Instr.sureAddr, h0, run_sizeT hsz, add_at]) (rptr_on hx)
      · cases h
    · cases h
  · cases h

theorem aev_indexAgg (hT : TR G μ ρ a.tmps) (hH : HR P G μ H w) (t e : TypeId) (m sz : Nat) (ag : Bool) (x y : Operand) (o : Oper) (ho : o.op = .index t x y) (hu : P.underlying t = some (.array m e)) (hsz : sizeT P e = some sz) (hag : isAggT P e = some ag)
    (h : aev (.indexAgg m sz ag (copd x) (copd y)) ρ H n = some (v, Δ)) : Step P G μ H n (execOp a.eval o) w v Δ := by
  have hex : execOp a.eval o = (do pure (.value (← Instr.index t (a.eval x) (a.eval y)))) := by simp only [execOp, ho]
  rw [hex]
  simp only [aev] at h
  split at h
  · rename_i k i cs hi hcs
    have hyv := (hi ▸ opd_sound hT y).inv_int
    obtain ⟨vs, hvs, hl, hv⟩ := (hcs ▸ opd_sound hT x).inv_agg
    split at h
    · rename_i h0
      obtain ⟨hp, rfl⟩ := map_nil h
      have hk : lkind P e = some (if ag then some sz else none) := by unfold lkind; rw [hag]; cases ag <;> simp [hsz]
      obtain ⟨cv, hr, hvr⟩ := part_sound (w := w) hk hl hv hp
      exact Step.pure (cv := cv) hH (by simp [Instr.index, hyv, asIntOf, run_underlying hu, hvs, h0, run_sizeT hsz, hr]) hvr
    · cases h
  · cases h

theorem aev_indexStr (hT : TR G μ ρ a.tmps) (hH : HR P G μ H w) (t : TypeId) (x y : Operand) (o : Oper) (ho : o.op = .index t x y) (hu : P.underlying t = some .string)
    (h : aev (.indexStr (copd x) (copd y)) ρ H n = some (v, Δ)) : Step P G μ H n (execOp a.eval o) w v Δ := by
  have hex : execOp a.eval o = (do pure (.value (← Instr.index t (a.eval x) (a.eval y)))) := by simp only [execOp, ho]
  rw [hex]
  simp only [aev] at h
  split at h
  · rename_i l k i hl hi
    have hyv := (hi ▸ opd_sound hT y).inv_int
    obtain ⟨s, hs, hsl⟩ := (hl ▸ opd_sound hT x).inv_str
    split at h
    · cases h
    · rename_i hneg
      split at h
      · rename_i b hb
        obtain ⟨rfl, rfl⟩ := some_nil h
        subst hsl
        have h0 : 0 ≤ i := by omega
        have hget : s[i.toNat]? = some b := by
          obtain ⟨h1, h2⟩ := List.getElem?_eq_some_iff.1 hb
          have h3 : i.toNat < s.size := by rw [Array.length_toList] at h1; exact h1
          rw [getElem?_pos s i.toNat h3]
          have : s[i.toNat] = s.data[i.toNat] := rfl
          rw [this]
          simpa using h2
        exact Step.pure (cv := .int .u8 b.toNat) hH (by simp [Instr.index, hyv, asIntOf, run_underlying hu, hs, h0, hget]) (.int _ _)
      · cases h
  · cases h

theorem minmaxs_sound (mx : Bool) : ∀ (xs : List AVal) (cs : List Value) (m r : Int), xs.length = cs.length → (∀ i, i < xs.length → VR G μ (xs.getD i .any) (cs.getD i undef)) → minmaxs mx m xs = some r →
    ((cs.foldlM (if mx then Builtin.max2 else Builtin.min2) (.int .i64 m)).run P w = .ok (.int .i64 r) w) := by
  intro xs
  induction xs with
  | nil =>
    intro cs m r hl hv h
    obtain rfl : cs = [] := by cases cs <;> simp at hl ⊢
    simp only [minmaxs, Option.some.injEq] at h
    subst h
    simp
  | cons x xs ih =>
    intro cs m r hl hv h
    cases cs with
    | nil => simp at hl
    | cons c cs =>
      have h0 := hv 0 (by simp)
      simp only [List.getD_cons_zero] at h0
      unfold minmaxs at h
      split at h
      · rename_i heq; cases heq
      · rename_i b rest heq
        cases heq
        have hc := h0.inv_int
        subst hc
        have := ih cs _ r (by simpa using hl) (fun i hi => by have := hv (i + 1) (by simpa using hi); simpa using this) h
        cases mx
        · simp only [List.foldlM_cons, Bool.false_eq_true, if_false, Sem.run_bind, Builtin.min2, Sem.run_pure, Result.andThen_ok] at this ⊢
          exact this
        · simp only [List.foldlM_cons, if_true, Sem.run_bind, Builtin.max2, Sem.run_pure, Result.andThen_ok] at this ⊢
          exact this
      · cases h

theorem aev_minmax (hT : TR G μ ρ a.tmps) (hH : HR P G μ H w) (mx : Bool) (c : Call) (o : Oper) (ho : o.op = .call c) (hb : c.callee = .builtin (if mx then .max else .min))
    (h : aev (.minmax mx (c.args.toList.map copd)) ρ H n = some (v, Δ)) : Step P G μ H n (execOp a.eval o) w v Δ := by
  have hex : execOp a.eval o = (do let r ← (if mx then Builtin.max_ c.argTypes o.type (c.args.map a.eval) else Builtin.min_ c.argTypes o.type (c.args.map a.eval)); pure (.value r)) := by
    cases mx <;> simp [execOp, ho, resolve, hb, invoke, builtin]
  rw [hex]
  simp only [aev, List.map_map] at h
  split at h
  · rename_i m rest hxs
    simp only [Option.map_eq_some_iff, Prod.mk.injEq] at h
    obtain ⟨r, hr, rfl, rfl⟩ := h
    have hall : ∀ i, i < c.args.toList.length → VR G μ ((c.args.toList.map (opd ρ ∘ copd)).getD i .any) ((c.args.toList.map a.eval).getD i undef) := by
      intro i hi
      rw [List.getD_eq_getElem?_getD, List.getD_eq_getElem?_getD]
      simp only [List.getElem?_map, List.getElem?_eq_getElem hi, Option.map_some, Option.getD_some]
      exact opd_sound hT _
    cases hargs : c.args.toList with
    | nil => rw [hargs] at hxs; simp at hxs
    | cons x0 xs0 =>
      rw [hargs] at hxs hall
      simp only [List.map_cons, List.cons.injEq] at hxs
      have h0 := hall 0 (by simp)
      simp only [List.map_cons, List.getD_cons_zero, hxs.1] at h0
      have hc0 := h0.inv_int
      have := minmaxs_sound (P := P) (w := w) (G := G) (μ := μ) mx rest (xs0.map a.eval) m r (by rw [← hxs.2]; simp) (fun i hi => by
        have := hall (i + 1) (by simp; rw [← hxs.2] at hi; simpa using hi)
        simp only [List.map_cons, List.getD_cons_succ, hxs.2] at this
        exact this) hr
      refine Step.pure (cv := .int .i64 r) hH ?_ (.int _ _)
      cases mx
      · simp only [Bool.false_eq_true, if_false] at this
        simp [Builtin.min_, hargs, hc0, this]
      · simp only [if_true] at this
        simp [Builtin.max_, hargs, hc0, this]
  · cases h
end Go.Sx
