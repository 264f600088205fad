/- 'aev' is sound: addresses, slices, lengths, conversions. -/
import Derived.Test.YtnfnjolpojofcabSxOps4
namespace Go.Sx
open Go

variable {P : Program} {G : Ctx} {μ : Mu} {H : Heap} {n : Nat} {w : World} {ρ : List AVal} {a : Act} {v : AVal} {Δ : List (Nat × Row)}

theorem aev_toInt (hT : TR G μ ρ a.tmps) (hH : HR P G μ H w) (src dst : TypeId) (x : Operand) (o : Oper) (ho : o.op = .convert src dst x) (j k : IntKind) (hs : P.underlying src = some (.int j)) (hd : P.underlying dst = some (.int k))
    (h : aev (.toInt k (copd x)) ρ H n = some (v, Δ)) : Step P G μ H n (execOp a.eval o) w v Δ := by
  have hex : execOp a.eval o = (do pure (.value (← convert src dst (a.eval x)))) := by simp only [execOp, ho]
  rw [hex]
  simp only [aev] at h
  split at h
  · rename_i q m hq
    obtain ⟨rfl, rfl⟩ := some_nil h
    have := (hq ▸ opd_sound hT x).inv_int
    exact Step.pure (cv := .int k (k.wrap m)) hH (by simp [this, convert, run_underlying hs, run_underlying hd, Conv.intToInt]) (.int _ _)
  · cases h

theorem aev_makeIface (hT : TR G μ ρ a.tmps) (hH : HR P G μ H w) (t : TypeId) (x : Operand) (o : Oper) (ho : o.op = .makeInterface t x) (d : TypeDesc) (hu : P.underlying t = some d) (hd : ∀ ms, d ≠ .interface ms)
    (h : aev (.makeIface t (copd x)) ρ H n = some (v, Δ)) : Step P G μ H n (execOp a.eval o) w v Δ := by
  have hex : execOp a.eval o = (do pure (.value (← Instr.makeInterface t (a.eval x)))) := by simp only [execOp, ho]
  rw [hex]
  simp only [aev] at h
  obtain ⟨rfl, rfl⟩ := some_nil h
  refine Step.pure (cv := .iface t (a.eval x)) hH ?_ (.iface _ _ _ (opd_sound hT x))
  cases d <;> first | exact absurd rfl (hd _) | simp [Instr.makeInterface, run_underlying hu]

theorem aev_lenArr (hH : HR P G μ H w) (m : Nat) (s : Sem Next) (hs : s.run P w = .ok (.value (.int .i64 m)) w) (h : aev (.lenArr m) ρ H n = some (v, Δ)) : Step P G μ H n s w v Δ := by
  simp only [aev] at h
  obtain ⟨rfl, rfl⟩ := some_nil h
  exact Step.pure (cv := .int .i64 m) hH hs (.int _ _)

/-- The abstract length is the value's own. 'hl': of a row of one's own the slice must be live, which 'len' does not ask: so it is asked of the value. -/
theorem lenOf_run {x : AVal} {c : Value} {m : Nat} (hH : HR P G μ H w) (h : lenOfIn H x = some m) (hx : VR G μ x c) :
    (isStr x = false ∧ ∃ a k, c = .slice a m k) ∨ (isStr x = true ∧ ∃ s : ByteArray, c = .string s ∧ s.size = m) := by
  cases hx <;> simp only [lenOfIn] at h <;> first
    | (cases h; done)
    | skip
  · rename_i l s hs
    cases h
    refine .inr ⟨rfl, s, rfl, ?_⟩
    rw [← hs]; exact Array.length_toList.symm
  · rename_i r off len p hp hvec hL ho hc
    split at h
    · rename_i g sz es hca
      split at h
      · rename_i hg
        cases h
        obtain ⟨p', C, ty, h1, h2, h3, h4, h5, h6, h7, h8, h9⟩ := hH.own hca
        rw [hp] at h1; cases h1
        obtain ⟨cap, hcs, _⟩ := hc (live_of h6 h5 hg)
        exact .inl ⟨rfl, _, _, hcs⟩
      · cases h
    · cases h
  · cases h; exact .inl ⟨rfl, _, _, rfl⟩
  · cases h; exact .inl ⟨rfl, _, _, rfl⟩
  · cases h; exact .inl ⟨rfl, _, _, rfl⟩

theorem aev_len (hT : TR G μ ρ a.tmps) (hH : HR P G μ H w) (c : Call) (x : Operand) (t : TypeId) (o : Oper) (ho : o.op = .call c) (hb : c.callee = .builtin .len) (hc : c.args.toList = [x]) (ht : c.argTypes[0]? = some t)
    (str : Bool) (hu : if str then P.underlying t = some .string else ∃ e, P.underlying t = some (.slice e))
    (h : aev (.len str (copd x)) ρ H n = some (v, Δ)) : Step P G μ H n (execOp a.eval o) w v Δ := by
  have hargs : c.args = #[x] := by
    have := congrArg List.toArray hc
    simpa using this
  have hex : execOp a.eval o = (do let r ← Builtin.len_ c.argTypes o.type #[a.eval x]; pure (.value r)) := by
    simp [execOp, ho, resolve, hb, hargs, invoke, builtin]
  rw [hex]
  simp only [aev] at h
  split at h
  · rename_i m hm
    split at h
    · rename_i hstr
      obtain ⟨rfl, rfl⟩ := some_nil h
      refine Step.pure (cv := .int .i64 m) hH ?_ (.int _ _)
      rcases lenOf_run hH hm (opd_sound hT x) with ⟨hi, ad, k, hv⟩ | ⟨hi, s, hv, hsz⟩
      · rw [hi] at hstr
        subst hstr
        obtain ⟨e, hu⟩ := hu
        simp [Builtin.len_, ht, hv, run_underlying hu, goInt]
      · rw [hi] at hstr
        subst hstr
        simp only [if_true] at hu
        simp [Builtin.len_, ht, hv, run_underlying hu, goInt, hsz]
    · cases h
  · cases h

theorem aev_nilCheck (hT : TR G μ ρ a.tmps) (hH : HR P G μ H w) (x : Operand) (o : Oper) (ho : o.op = .nilCheck x)
    (h : aev (.nilCheck (copd x)) ρ H n = some (v, Δ)) : Step P G μ H n (execOp a.eval o) w v Δ := by
  have hx := opd_sound hT x
  simp only [aev] at h
  split at h
  · rename_i hn
    have hval : (execOp a.eval o).run P w = .ok (.value (a.eval x)) w ∧ v = opd ρ (copd x) ∧ Δ = [] := by
      have hr := isNil_run hH hn hx
      split at h
      · rename_i f p q hq
        cases h
        obtain ⟨c, hc⟩ : ∃ c, a.eval x = c := ⟨_, rfl⟩
        rw [hq, hc] at hx
        cases hx
        refine ⟨by simp [execOp, ho, hc], hq.symm, rfl⟩
      · cases h
      · rename_i h1 h2
        cases h
        refine ⟨?_, rfl, rfl⟩
        rcases hr with (⟨h3, h4⟩ | ⟨⟨a1, h3⟩, h4⟩) | (⟨h3, h4⟩ | ⟨⟨a1, a2, a3, h3⟩, h4⟩) | (⟨h3, h4⟩ | ⟨⟨a1, a2, a3, h3⟩, h4⟩) | (⟨h3, h4⟩ | ⟨⟨a1, h3⟩, h4⟩) | (⟨h3, h4⟩ | ⟨⟨a1, a2, h3⟩, h4⟩) <;> first
          | (cases h4; done)
          | (simp [execOp, ho, h3]; done)
          | skip
        rw [h3] at hx
        generalize hq : opd ρ (copd x) = q at *
        cases hx with
        | any => simp [isNilIn, isNil] at hn
        | ptr r i off L p _ hp hL hone hc =>
          obtain ⟨⟨b, hb⟩, _⟩ := isNil_ptr hH hn (.ptr r i off L p _ hp hL hone hc)
          cases hb
        | sl r off len p _ hp hvec hL hone hc =>
          obtain ⟨⟨b, _, _, hb⟩, _⟩ := isNil_sl hH hn (.sl r off len p _ hp hvec hL hone hc)
          cases hb
        | fn => exact absurd rfl (h2 _ _ _)
        | yfn r p hp hv => simp [execOp, ho, h3]
    obtain ⟨h1, rfl, rfl⟩ := hval
    exact Step.pure hH h1 hx
  · cases h

theorem live_addr (hH : HR P G μ H w) {r i off L : Nat} {g : Bool} {sz : Nat} {es : List AVal} {c : Value} (hc : H.cellsAt r = some (g, sz, es)) (hg : g = false ∨ L = es.length) (hx : VR G μ (.ptr r i off L) c) :
    ∃ p, μ r = some p ∧ p.sz = sz ∧ p.len = es.length ∧ L ≤ p.len ∧ c = .pointer (some ⟨p.blk, p.off + i * p.sz + off, none⟩) := by
  obtain ⟨p, C, ty, h1, h2, h3, h4, h5, h6, h7, h8, h9⟩ := hH.own hc
  obtain ⟨p', h1', hL, hcv⟩ := hx.inv_ptr
  rw [h1] at h1'; cases h1'
  exact ⟨p, h1, h4, h5, hL, hcv (live_of h6 h5 hg)⟩

/-- The address that lies m cells on. -/
theorem ptr_on {r i off L m : Nat} {p : Place} (hp : μ r = some p) (hL : L ≤ p.len) : VR G μ (.ptr r i (off + m) L) (.pointer (some ⟨p.blk, p.off + i * p.sz + off + m, none⟩)) :=
  .ptr r i (off + m) L p _ hp hL rfl fun _ => by rw [Nat.add_assoc]

theorem rptr_on {e : AVal} {off b o m : Nat} (hx : VR G μ (.rptr e off) (.pointer (some ⟨b, o, none⟩))) : VR G μ (.rptr e (off + m)) (.pointer (some ⟨b, o + m, none⟩)) := by
  cases hx with
  | rptr _ _ _ o' f hb hf hv => rw [Nat.add_assoc]; exact .rptr e (off + m) b o' f hb hf hv

theorem aev_fieldAddr (hT : TR G μ ρ a.tmps) (hH : HR P G μ H w) (t : TypeId) (x : Operand) (i : Nat) (o : Oper) (ho : o.op = .fieldAddr t x i)
    (h : aev (cop P o) ρ H n = some (v, Δ)) : Step P G μ H n (execOp a.eval o) w v Δ := by
  have hex : execOp a.eval o = (do pure (.value (← Instr.fieldAt t (a.eval x) i))) := by simp only [execOp, ho]
  rw [hex]
  simp only [cop, ho] at h
  split at h
  · rename_i fs hu
    split at h
    · rename_i f hf
      split at h
      · rename_i m hm
        split at h
        · simp [aev] at h
        · rename_i hm0
          have hplace : ∀ ad : Addr, (fieldPlace ad f).run P w = .ok (ad.add f.offset) w := fun ad => by
            simp [fieldPlace, run_sizeT hm, hm0]
          have hx := opd_sound hT x
          simp only [aev] at h
          split at h
          · rename_i r k off L hr
            rw [hr] at hx
            split at h
            · rename_i g sz es hc
              split at h
              · rename_i hg
                obtain ⟨rfl, rfl⟩ := some_nil h
                obtain ⟨p, h1, h2, h3, h4, h5⟩ := live_addr hH hc hg hx
                exact Step.pure (cv := .pointer (some ⟨p.blk, p.off + k * p.sz + off + f.offset, none⟩)) hH (by simp [Instr.fieldAt, run_underlying hu, hf, h5, Instr.sureAddr, hplace, add_at]) (ptr_on h1 h4)
              · cases h
            · cases h
          · rename_i e off hr
            rw [hr] at hx
            obtain ⟨rfl, rfl⟩ := some_nil h
            obtain ⟨c, hc⟩ : ∃ c, a.eval x = c := ⟨_, rfl⟩
            rw [hc] at hx
            obtain ⟨b, oo, rfl⟩ : ∃ b oo, c = .pointer (some ⟨b, oo, none⟩) := by cases hx; exact ⟨_, _, rfl⟩
            exact Step.pure (cv := .pointer (some ⟨b, oo + f.offset, none⟩)) hH (by simp [Instr.fieldAt, run_underlying hu, hf, hc, Instr.sureAddr, hplace, add_at]) (rptr_on hx)
          · cases h
      · simp [aev] at h
    · simp [aev] at h
  · simp [aev] at h
end Go.Sx
