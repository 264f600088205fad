/- 'aev' is sound, operation by operation. -/
import Derived.Test.YtnfnjolpojofcabSxOps10
namespace Go.Sx
open Go

variable {P : Program} {G : Ctx} {μ : Mu} {H : Heap} {n : Nat} {w : World} {ρ : List AVal} {a : Act} {v : AVal} {Δ : List (Nat × Row)}

theorem aev_bad {ρ : List AVal} {H : Heap} {n : Nat} : aev .bad ρ H n = none := rfl

theorem cbin_sound (hT : TR G μ ρ a.tmps) (hH : HR P G μ H w) (op : BinOp) (t yt : TypeId) (x y : Operand) (o : Oper) (ho : o.op = .binOp op t x y yt)
    (h : aev (cbin P op t x y) ρ H n = some (v, Δ)) : Step P G μ H n (execOp a.eval o) w v Δ := by
  unfold cbin at h
  split at h
  · rename_i fs hu
    split at h
    · rename_i ks hk
      split at h
      · simp [aev] at h
      · rename_i hg
        exact aev_eqAgg hT hH .eql false (.inl ⟨rfl, rfl⟩) t yt x y o ho ks hk (by simpa using hg) (by simp [isAggT, hu]) h
    · simp [aev] at h
  · rename_i fs hu
    split at h
    · rename_i ks hk
      split at h
      · simp [aev] at h
      · rename_i hg
        exact aev_eqAgg hT hH .neq true (.inr ⟨rfl, rfl⟩) t yt x y o ho ks hk (by simpa using hg) (by simp [isAggT, hu]) h
    · simp [aev] at h
  · rename_i hu; exact aev_bin hT hH _ t yt x y o ho .bool hu h
  · exact aev_bin hT hH _ t yt x y o ho .plain trivial h
  · exact aev_bin hT hH _ t yt x y o ho .plain trivial h
  · rename_i hu; exact aev_bin hT hH _ t yt x y o ho .slice ⟨_, hu⟩ h
  · rename_i hu; exact aev_bin hT hH _ t yt x y o ho .ptr ⟨_, hu⟩ h
  · rename_i hu; exact aev_bin hT hH _ t yt x y o ho .map ⟨_, _, hu⟩ h
  · rename_i hu; exact aev_bin hT hH _ t yt x y o ho .func ⟨_, _, _, hu⟩ h
  · simp [aev] at h

theorem aev_sound (hT : TR G μ ρ a.tmps) (hH : HR P G μ H w) (hn : μ n = none) (o : Oper) (h : aev (cop P o) ρ H n = some (v, Δ)) : Step P G μ H n (execOp a.eval o) w v Δ := by
  cases ho : o.op with
  | move x => simp only [cop, ho] at h; exact aev_move hT hH x h _ (by simp only [execOp, ho])
  | assign x => simp only [cop, ho] at h; exact aev_move hT hH x h _ (by simp only [execOp, ho])
  | pick c x y =>
    simp only [cop, ho] at h
    have hex : execOp a.eval o = (do pure (.value (if ← asBool (a.eval c) then a.eval x else a.eval y))) := by simp only [execOp, ho]
    rw [hex]; exact aev_pick hT hH c x y h
  | alloc t =>
    simp only [cop, ho] at h
    split at h
    · rename_i z hz
      obtain ⟨c, hc, rfl⟩ := run_zeroT (w := w) hz
      refine aev_box (ρ := ρ) hH hn t (.const (cval 3 c)) c (cval_sound G μ 3 c) _ ?_ h
      simp [execOp, ho, Instr.alloc, hc, newVar, newRow]
    · simp [aev] at h
  | box t x =>
    simp only [cop, ho] at h
    refine aev_box hH hn t (copd x) (a.eval x) (opd_sound hT x) _ ?_ h
    simp [execOp, ho, Instr.box, newVar, newRow]
  | build t parts => exact aev_build hT hH t parts o ho h
  | buildSlice t len parts => exact aev_buildSlice hT hH hn t len parts o ho h
  | load t x => exact aev_load hT hH t x o ho h
  | store t x y => exact aev_store hT hH t x y o ho h
  | nilCheck x => simp only [cop, ho] at h; exact aev_nilCheck hT hH x o ho h
  | binOp op t x y yt => simp only [cop, ho] at h; exact cbin_sound hT hH op t yt x y o ho h
  | unOp op t x =>
    cases op with
    | neg => exact aev_neg hT hH t x o ho h
    | not => exact aev_not hT hH t x o ho h
    | xor => simp [cop, ho, aev] at h
    | plus => simp [cop, ho, aev] at h
  | convert src dst x =>
    simp only [cop, ho] at h
    split at h
    · rename_i hs hd; exact aev_toInt hT hH src dst x o ho _ _ hs hd h
    · rename_i hs hd
      simp only [aev] at h
      split at h
      · rename_i hstr
        obtain ⟨rfl, rfl⟩ := some_nil h
        cases hv : opd ρ (copd x) <;> rw [hv] at hstr <;> simp [isStr] at hstr
        have hx := opd_sound hT x
        obtain ⟨s, hs1, hs2⟩ := (hv ▸ hx).inv_str
        rw [hv] at hx
        exact Step.pure (cv := a.eval x) hH (by simp [execOp, ho, hs1, convert, run_underlying hs, run_underlying hd]) hx
      · cases h
    · split at h <;> simp [aev] at h
    · split at h <;> simp [aev] at h
    · simp [aev] at h
  | makeFunc f x y => exact aev_makeFunc hT hH f x y o ho h
  | makeInterface t x =>
    simp only [cop, ho] at h
    split at h
    · simp [aev] at h
    · simp [aev] at h
    · rename_i d hd hu; exact aev_makeIface hT hH t x o ho d hu (fun ms hm => hd ms (by rw [hm])) h
  | makeSlice t x y =>
    simp only [cop, ho] at h
    split at h
    · rename_i e hu
      split at h
      · rename_i z b sz hz hb hsz
        split at h
        · rename_i hc
          simp only [Bool.and_eq_true, decide_eq_true_eq] at hc
          exact aev_makeSlice hT hH hn t e x y z b sz o ho hu hz hb hsz hc.1 hc.2 h
        · simp [aev] at h
      · simp [aev] at h
    · simp [aev] at h
  | slice t x lo hi mx =>
    simp only [cop, ho] at h
    split at h
    · rename_i hu; exact aev_slice hT hH t 1 true x lo hi o ho (by simpa using hu) h
    · rename_i e hu
      split at h
      · rename_i sz hsz; exact aev_slice hT hH t sz false x lo hi o ho (by simpa using ⟨e, hu, hsz⟩) h
      · simp [aev] at h
    · split at h <;> simp [aev] at h
    · simp [aev] at h
  | fieldAddr t x i => exact aev_fieldAddr hT hH t x i o ho h
  | field t x i => exact aev_field hT hH t x i o ho h
  | indexAddr t x y =>
    simp only [cop, ho] at h
    split at h
    · rename_i e hu
      split at h
      · rename_i sz hsz; exact aev_indexAddr hT hH t e sz x y o ho hu hsz h
      · simp [aev] at h
    · rename_i m e hu
      split at h
      · rename_i sz hsz; exact aev_indexArr hT hH t e m sz x y o ho hu hsz h
      · simp [aev] at h
    · simp [aev] at h
  | index t x y =>
    simp only [cop, ho] at h
    split at h
    · rename_i hu; exact aev_indexStr hT hH t x y o ho hu h
    · rename_i m e hu
      split at h
      · rename_i sz ag hsz hag; exact aev_indexAgg hT hH t e m sz ag x y o ho hu hsz hag h
      · simp [aev] at h
    · simp [aev] at h
  | extract x i => exact aev_extract hT hH x i o ho h
  | call c =>
    simp only [cop, ho] at h
    split at h
    · simp [aev] at h
    · rename_i hb
      split at h
      · rename_i x hu hargs
        obtain ⟨t, ht, hu⟩ := Option.bind_eq_some_iff.1 hu
        exact aev_len hT hH c x t o ho hb hargs ht true (by simpa using hu) h
      · rename_i e x hu hargs
        obtain ⟨t, ht, hu⟩ := Option.bind_eq_some_iff.1 hu
        exact aev_len hT hH c x t o ho hb hargs ht false (by simpa using ⟨e, hu⟩) h
      · rename_i m e x hu hargs
        obtain ⟨t, ht, hu⟩ := Option.bind_eq_some_iff.1 hu
        have ha : c.args = #[x] := by have := congrArg List.toArray hargs; simpa using this
        exact aev_lenArr hH m _ (by simp [execOp, ho, resolve, hb, ha, invoke, builtin, Builtin.len_, ht, run_underlying hu, goInt]) h
      · rename_i t' x hu hargs
        obtain ⟨t, ht, hu⟩ := Option.bind_eq_some_iff.1 hu
        split at h
        · rename_i m e hu'
          have ha : c.args = #[x] := by have := congrArg List.toArray hargs; simpa using this
          exact aev_lenArr hH m _ (by simp [execOp, ho, resolve, hb, ha, invoke, builtin, Builtin.len_, ht, run_underlying hu, run_underlying hu', goInt]) h
        · simp [aev] at h
      · simp [aev] at h
    · rename_i hb; exact aev_minmax hT hH false c o ho (by simpa using hb) h
    · rename_i hb; exact aev_minmax hT hH true c o ho (by simpa using hb) h
    · rename_i hb
      split at h
      · rename_i e e' s x h0 h1 hargs
        obtain ⟨t, ht, hu⟩ := Option.bind_eq_some_iff.1 h0
        obtain ⟨u, ht', hu'⟩ := Option.bind_eq_some_iff.1 h1
        split at h
        · rename_i sz b ag hsz hby hag
          cases hz' : zeroT P e with
          | none => simp [hz', aev] at h
          | some z =>
            simp only [hz'] at h
            split at h
            · rename_i hc
              simp only [Bool.and_eq_true, decide_eq_true_eq, beq_iff_eq, Bool.not_eq_true'] at hc
              obtain ⟨⟨hp, hbp⟩, hz1, hz2⟩ := hc
              exact aev_append hT hH hn c s x t u e e' sz b ag o ho hb hargs ht ht' hu hu' hsz hby z hz' hz1 hz2 hp hbp h
            · simp [aev] at h
        · simp [aev] at h
      · split at h <;> simp [aev] at h
      · simp [aev] at h
    · split at h
      · split at h <;> simp [aev] at h
      · simp [aev] at h
    · simp [aev] at h
  | range t x =>
    simp only [cop, ho] at h
    split at h <;> simp [aev] at h
  | next x b => cases b <;> simp [cop, ho, aev] at h
  | _ => simp [cop, ho, aev] at h
end Go.Sx
