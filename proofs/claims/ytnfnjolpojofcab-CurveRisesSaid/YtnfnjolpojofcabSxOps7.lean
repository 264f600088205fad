/- 'aev' is sound: slice expressions, slice literals, make. -/
import Derived.Test.YtnfnjolpojofcabSxOps6
namespace Go.Sx
open Go

variable {P : Program} {G : Ctx} {μ : Mu} {H : Heap} {n : Nat} {w : World} {ρ : List AVal} {a : Act} {v : AVal} {Δ : List (Nat × Row)}

theorem wrap_id {m : Int} (h1 : -9223372036854775808 ≤ m) (h2 : m ≤ 9223372036854775807) : IntKind.i64.wrap m = m := by
  unfold IntKind.wrap
  have e1 : (2 ^ IntKind.i64.bits : Int) = 18446744073709551616 := rfl
  have e2 : (2 ^ (IntKind.i64.bits - 1) : Int) = 9223372036854775808 := rfl
  have e3 : IntKind.i64.signed = true := rfl
  simp only [e1, e2, e3, Bool.true_and]
  by_cases h : 0 ≤ m
  · rw [Int.emod_eq_of_lt h (by omega), if_neg (by simp; omega)]
  · have : m % 18446744073709551616 = m + 18446744073709551616 := by omega
    rw [this, if_pos (by simp; omega)]; omega

/-- A bound of a slice expression, as it is evaluated. -/
def BoundIs (ρ : List AVal) (x : Option Operand) (d m : Int) : Prop :=
  match x with
  | none => m = d
  | some y => intOf (opd ρ (copd y)) = some m

theorem run_bound (hT : TR G μ ρ a.tmps) {y : Operand} {m : Int} (h : intOf (opd ρ (copd y)) = some m) (top : Nat) (code : BoundsCode) (h0 : 0 ≤ m) (h1 : m ≤ top) :
    (Instr.sliceBound (a.eval y) top code).run P w = .ok m.toNat w := by
  cases hv : opd ρ (copd y) <;> rw [hv] at h <;> simp [intOf] at h
  subst h
  have := (hv ▸ opd_sound hT y).inv_int
  simp [Instr.sliceBound, this, asIntOf, h0, h1]

theorem run_bounds (hT : TR G μ ρ a.tmps) {lo hi : Option Operand} {l h : Int} (isS : Bool) (len cap : Nat) (hlo : BoundIs ρ lo 0 l) (hhi : BoundIs ρ hi len h) (h0 : 0 ≤ l) (h1 : l ≤ h) (h2 : h ≤ len) (h3 : len ≤ cap) :
    (Instr.sliceBounds isS len cap (lo.map a.eval) (hi.map a.eval) none).run P w = .ok (l.toNat, h.toNat, cap) w := by
  have hh : ∀ code, ((match hi.map a.eval, (none : Option Value) with
      | some v, some _ => Instr.sliceBound v cap .slice3B
      | some v, none => Instr.sliceBound v cap code
      | none, none => pure len
      | none, some _ => stuck "Slice: max without high") : Sem Nat).run P w = .ok h.toNat w := by
    intro code
    cases hi with
    | none => simp only [BoundIs] at hhi; subst hhi; simp
    | some y => simp only [Option.map_some]; exact run_bound hT hhi cap _ (by omega) (by omega)
  have hl : ∀ code, ((match lo.map a.eval with
      | some v => Instr.sliceBound v h.toNat code
      | none => pure 0) : Sem Nat).run P w = .ok l.toNat w := by
    intro code
    cases lo with
    | none => simp only [BoundIs] at hlo; subst hlo; simp
    | some y => simp only [Option.map_some]; exact run_bound hT hlo _ _ h0 (by omega)
  unfold Instr.sliceBounds
  cases hi with
  | none =>
    simp only [BoundIs] at hhi
    subst hhi
    cases lo with
    | none => simp only [BoundIs] at hlo; subst hlo; simp
    | some y =>
      have := fun code => run_bound (P := P) (w := w) hT hlo len code h0 (by omega)
      simp [this]
  | some z =>
    have hz := fun code => run_bound (P := P) (w := w) hT hhi cap code (by omega) (by omega)
    cases lo with
    | none => simp only [BoundIs] at hlo; subst hlo; simp [hz]
    | some y =>
      have := fun code => run_bound (P := P) (w := w) hT hlo h.toNat code h0 (by omega)
      simp [hz, this]

theorem aev_slice (hT : TR G μ ρ a.tmps) (hH : HR P G μ H w) (t : TypeId) (sz : Nat) (str : Bool) (x : Operand) (lo hi : Option Operand) (o : Oper) (ho : o.op = .slice t x lo hi none)
    (hu : if str then P.underlying t = some .string else ∃ e, P.underlying t = some (.slice e) ∧ sizeT P e = some sz)
    (h : aev (.slice str sz (copd x) (lo.map copd) (hi.map copd)) ρ H n = some (v, Δ)) : Step P G μ H n (execOp a.eval o) w v Δ := by
  have hex : execOp a.eval o = (do pure (.value (← Instr.sliceAt t (a.eval x) (lo.map a.eval) (hi.map a.eval) none))) := by simp only [execOp, ho, Option.map_none]
  rw [hex]
  simp only [aev] at h
  have hx := opd_sound hT x
  split at h
  · cases h
  · rename_i len hlen
    split at h
    · rename_i l hh hl hhi
      have hlo' : BoundIs ρ lo 0 l := by
        cases lo <;> simp [BoundIs] at hl ⊢
        · omega
        · exact hl
      have hhi' : BoundIs ρ hi len hh := by
        cases hi <;> simp [BoundIs] at hhi ⊢
        · omega
        · exact hhi
      split at h
      · rename_i hb
        obtain ⟨h0, h1, h2⟩ := hb
        have hrun := lenOf_run hH hlen hx
        split at h
        · rename_i s hs
          split at h
          · rename_i hst
            subst hst
            simp only [if_true] at hu
            obtain ⟨rfl, rfl⟩ := some_nil h
            rw [hs] at hx
            obtain ⟨b, hb, hbl⟩ := hx.inv_str
            have hsz : b.size = len := by
              rw [hs] at hlen
              simp only [lenOfIn, Option.some.injEq] at hlen
              rw [← hlen, ← hbl]; exact Array.length_toList.symm
            have hbd := run_bounds (P := P) (w := w) hT false len len hlo' hhi' h0 h1 h2 (Nat.le_refl _)
            subst hsz
            refine Step.pure (cv := .string (b.extract l.toNat hh.toNat)) hH (by simp [Instr.sliceAt, Instr.slice, run_underlying hu, hb, hbd]) (.str _ _ ?_)
            subst hbl
            simp
          · cases h
        · rename_i r off len' hr
          split at h
          · rename_i g sz' es hc
            split at h
            · rename_i hg
              obtain ⟨hst, rfl, hpos, hg⟩ := hg
              subst hst
              simp only [Bool.false_eq_true, if_false] at hu
              obtain ⟨e, hu, hsz⟩ := hu
              obtain ⟨rfl, rfl⟩ := some_nil h
              rw [hr] at hx
              obtain ⟨p, C, ty, h3, h4, h5, h6, h7, h8, h9, h10, h11⟩ := hH.own hc
              obtain ⟨p', h3', hvec, hL, hcv⟩ := hx.inv_sl
              rw [h3] at h3'; cases h3'
              obtain ⟨cap, hcs, hcap, hroom⟩ := hcv (live_of h8 h7 hg)
              have hle : len' = len := by
                rw [hr] at hlen
                simp only [lenOfIn, hc, if_pos hg, Option.some.injEq] at hlen
                exact hlen
              subst hle
              have hbd := run_bounds (P := P) (w := w) hT true len' cap hlo' hhi' h0 h1 h2 hcap
              by_cases hlh : l = hh
              · rw [if_pos hlh]
                refine Step.pure (cv := .slice (if cap = l.toNat then some ⟨p.blk, p.off + off * p.sz, none⟩ else (some (⟨p.blk, p.off + off * p.sz, none⟩ : Addr)).map (·.add (l.toNat * sz))) 0 (cap - l.toNat)) hH ?_ (.viewnil _ _)
                have : hh.toNat - l.toNat = 0 := by omega
                simp [Instr.sliceAt, Instr.slice, run_underlying hu, hcs, hbd, run_sizeT hsz, this]
              · rw [if_neg hlh]
                have hne : cap ≠ l.toNat := by omega
                refine Step.pure (cv := .slice (some ⟨p.blk, p.off + (off + l.toNat) * p.sz, none⟩) (hh.toNat - l.toNat) (cap - l.toNat)) hH ?_ (.sl _ _ _ p _ h3 hvec (by omega) rfl fun _ => ⟨_, rfl, by omega, ?_⟩)
                · simp [Instr.sliceAt, Instr.slice, run_underlying hu, hcs, hbd, run_sizeT hsz, hne, add_at, h6, Nat.add_mul, Nat.add_assoc]
                · have : off + l.toNat + (cap - l.toNat) = off + cap := by omega
                  rw [this]; exact hroom
            · cases h
          · cases h
        · rename_i es hes
          split at h
          · rename_i hst
            obtain ⟨hst, hall⟩ := hst
            subst hst
            simp only [Bool.false_eq_true, if_false] at hu
            obtain ⟨e, hu, hsz⟩ := hu
            obtain ⟨rfl, rfl⟩ := some_nil h
            rw [hes] at hx hlen
            simp only [lenOfIn, Option.some.injEq] at hlen
            obtain ⟨c, hc⟩ : ∃ c, a.eval x = c := ⟨_, rfl⟩
            rw [hc] at hx
            obtain ⟨ad, cap, rfl, hcap⟩ : ∃ ad cap, c = .slice ad len cap ∧ len ≤ cap := by
              cases hx with
              | view _ b o' sz' cap f hb hcap => exact ⟨_, cap, by rw [hlen], by omega⟩
              | viewnil ad cap => simp only [List.length_nil] at hlen; subst hlen; exact ⟨ad, cap, rfl, Nat.zero_le _⟩
            have hbd := run_bounds (P := P) (w := w) hT true len cap hlo' hhi' h0 h1 h2 hcap
            by_cases hlh : l = hh
            · have e1 : (es.drop l.toNat).take (hh.toNat - l.toNat) = [] := by rw [hlh]; simp
              rw [e1]
              refine Step.pure (cv := .slice (if cap = l.toNat then ad else ad.map (·.add (l.toNat * sz))) 0 (cap - l.toNat)) hH ?_ (.viewnil _ _)
              have : hh.toNat - l.toNat = 0 := by omega
              simp [Instr.sliceAt, Instr.slice, run_underlying hu, hc, hbd, run_sizeT hsz, this]
            · have hne : cap ≠ l.toNat := by omega
              subst hlen
              generalize hcv : Value.slice ad es.length cap = cv at hx
              cases hx with
              | view _ b o' sz' cap' f hb hcap' hs hf hv =>
                cases hcv
                have hes0 : 0 < es.length := by omega
                have hsz0 : sz' = sz := by
                  have k1 := hs 0 hes0
                  have k2 := List.all_eq_true.1 hall (es.getD 0 .any) (by rw [List.getD_eq_getElem?_getD, List.getElem?_eq_getElem hes0]; exact List.getElem_mem hes0)
                  rw [beq_iff_eq] at k2
                  omega
                subst hsz0
                have hlen' : ((es.drop l.toNat).take (hh.toNat - l.toNat)).length = hh.toNat - l.toNat := by simp; omega
                have hgd : ∀ i, i < hh.toNat - l.toNat → ((es.drop l.toNat).take (hh.toNat - l.toNat)).getD i .any = es.getD (l.toNat + i) .any := fun i hi => by
                  rw [List.getD_eq_getElem?_getD, List.getElem?_take_of_lt hi, List.getElem?_drop, List.getD_eq_getElem?_getD]
                have hvw : VR G μ (.view ((es.drop l.toNat).take (hh.toNat - l.toNat))) (.slice (some ⟨b, o' + l.toNat * sz', none⟩) ((es.drop l.toNat).take (hh.toNat - l.toNat)).length (cap - l.toNat)) := by
                  refine .view _ b (o' + l.toNat * sz') sz' _ (fun i j => f (l.toNat + i) j) hb (by omega) (fun i hi => ?_) (fun i j hi hj => ?_) (fun i j hi hj => ?_)
                  · rw [hgd i (by omega)]; exact hs _ (by omega)
                  · have := hf (l.toNat + i) j (by omega) hj
                    rw [Nat.add_mul, ← Nat.add_assoc] at this
                    exact this
                  · rw [hgd i (by omega)]; exact hv _ j (by omega) hj
                rw [hlen'] at hvw
                exact Step.pure (cv := .slice (some ⟨b, o' + l.toNat * sz', none⟩) (hh.toNat - l.toNat) (cap - l.toNat)) hH (by simp [Instr.sliceAt, Instr.slice, run_underlying hu, hc, hbd, run_sizeT hsz, hne, add_at]) hvw
              | viewnil => simp at h2; omega
          · cases h
        · rename_i hn
          split at h
          · rename_i hst
            subst hst
            simp only [Bool.false_eq_true, if_false] at hu
            obtain ⟨e, hu, hsz⟩ := hu
            obtain ⟨rfl, rfl⟩ := some_nil h
            rw [hn] at hx hlen
            simp only [lenOfIn, Option.some.injEq] at hlen
            subst hlen
            obtain ⟨c, hc⟩ : ∃ c, a.eval x = c := ⟨_, rfl⟩
            rw [hc] at hx
            cases hx
            have hbd := run_bounds (P := P) (w := w) hT true 0 0 hlo' hhi' h0 h1 h2 (Nat.le_refl _)
            have e1 : l.toNat = 0 := by omega
            have e2 : hh.toNat = 0 := by omega
            exact Step.pure (cv := .slice none 0 0) hH (by simp [Instr.sliceAt, Instr.slice, run_underlying hu, hc, hbd, run_sizeT hsz, e1, e2]) .nilsl
          · cases h
        · cases h
      · cases h
    · cases h
end Go.Sx
