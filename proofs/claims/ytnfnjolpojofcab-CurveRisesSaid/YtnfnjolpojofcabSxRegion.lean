/- Regions that keep the order of the text; calls. -/
import Derived.Test.YtnfnjolpojofcabSxLogic
import Derived.OrdersIn
namespace Go.Sx
open Go

/-- A temporary is set. -/
def tset : List AVal → Nat → AVal → List AVal
  | [], _, _ => []
  | _ :: ρ, 0, v => v :: ρ
  | u :: ρ, n + 1, v => u :: tset ρ n v

theorem tset_eq : ∀ (ρ : List AVal) (t : Nat) (v : AVal), tset ρ t v = ρ.set t v
  | [], _, _ => rfl
  | _ :: _, 0, _ => rfl
  | u :: ρ, n + 1, v => by simp only [tset, List.set_cons_succ, tset_eq ρ n v]

def setD (ρ : List AVal) (d : Option Nat) (v : AVal) : List AVal :=
  match d with
  | some d => tset ρ d v
  | none => ρ

theorem TR.put {G : Ctx} {μ : Mu} {ρ : List AVal} {a : Act} {v : AVal} {c : Value} (h : TR G μ ρ a.tmps) (hv : VR G μ v c) (d : Option Nat) : TR G μ (setD ρ d v) (a.put d c).tmps := by
  cases d with
  | none => exact h
  | some d =>
    refine ⟨by simp [setD, tset_eq, Act.put, h.1], fun t => ?_⟩
    have ht := h.2 t
    simp only [setD, tset_eq, Act.put]
    rw [List.getD_eq_getElem?_getD, Array.getD_eq_getD_getElem?] at ht ⊢
    by_cases hd : d = t
    · subst hd
      by_cases hl : d < ρ.length
      · have hl' : d < a.tmps.size := by rw [← h.1]; exact hl
        simpa [hl, hl'] using hv
      · have hl' : ¬ d < a.tmps.size := by rw [← h.1]; exact hl
        have e1 : (ρ.set d v)[d]? = none := by simp; omega
        rw [e1]; exact .any _
    · rw [List.getElem?_set_ne hd, Array.getElem?_setIfInBounds_ne hd]; exact ht

theorem put_defers (a : Act) (d : Option Nat) (v : Value) : (a.put d v).defers = a.defers := by cases d <;> rfl

def boolOf (v : AVal) (want : Bool) : Option Bool :=
  match v with
  | .bool b => some (b == want)
  | .tup [] => some false
  | _ => none

def gval (ρ : List AVal) : Option (Nat × Bool) → Option Bool
  | none => some true
  | some (t, want) => boolOf (tget ρ t) want

theorem wanted_of {G : Ctx} {μ : Mu} {ρ : List AVal} {tmps : Array Value} (h : TR G μ ρ tmps) (ops : Array Oper) (o : Oper) {g : Option (Nat × Bool)} (hg : cguard ops o = some g) {b : Bool} (hb : gval ρ g = some b) :
    Region.wanted o (yielded ops tmps) = b := by
  unfold cguard at hg
  unfold Region.wanted
  cases ho : o.guard with
  | none =>
    rw [ho] at hg
    cases hg
    simpa [gval] using hb
  | some p =>
    obtain ⟨j, want⟩ := p
    rw [ho] at hg
    simp only at hg
    split at hg
    · rename_i t ht
      cases hg
      simp only [gval, tget_eq] at hb
      unfold boolOf at hb
      split at hb
      · rename_i c hc
        cases hb
        have hv := (hc ▸ h.2 t).inv_bool
        rw [Array.getD_eq_getD_getElem?] at hv
        cases hq : tmps[t]? with
        | none => rw [hq] at hv; simp [undef] at hv
        | some q =>
          rw [hq] at hv
          simp only [Option.getD_some] at hv
          subst hv
          simp only [yielded, ht, Option.bind_some, hq]
          cases c <;> cases want <;> rfl
      · rename_i hc
        cases hb
        have hv := hc ▸ h.2 t
        rw [Array.getD_eq_getD_getElem?] at hv
        cases hq : tmps[t]? with
        | none => simp only [yielded, ht, Option.bind_some, hq]; rfl
        | some q =>
          rw [hq] at hv
          simp only [Option.getD_some] at hv
          cases hv
          simp only [yielded, ht, Option.bind_some, hq]
          rfl
      · cases hb
    · cases hg

/-- What holds behind one operation. -/
def NPost (P : Program) (G : Ctx) (k : Nat) (μ : Mu) (K : St → Prop) (a : Act) (w : World) : Prop :=
  ∃ μ' s, K s ∧ Mu.leB k μ μ' ∧ Rel P G μ' s a w

/-- From s the operation leads to K, whatever region it stands in. -/
def OpA (P : Program) (G : Ctx) (k : Nat) (rd : Option Nat) (ao : AOper) (s : St) (K : St → Prop) : Prop :=
  ∀ (ops : Array Oper) (draw : Bool) (i : Nat) (o : Oper) (Q : Exit → Act → World → Prop), ops[i]? = some o → coper P ops draw i o = ao →
    ∀ μ ro a w, RdOK k μ rd ro → Rel P G μ s a w → wpOpIn (Fw ro) 0 P ops Q i (NPost P G k μ K) a w

theorem fw_fn (ro : Option Nat) (f : FuncId) : (Fw ro).fn f := trivial

section
variable {P : Program} {G : Ctx} {k : Nat} {rd : Option Nat} {ao : AOper} {s : St} {K : St → Prop}

theorem coper_parts {ops : Array Oper} {draw : Bool} {i : Nat} {o : Oper} (h : coper P ops draw i o = ao) (hb : ao.op ≠ .bad) : cguard ops o = some ao.guard ∧ cop P o = ao.op ∧ o.dst = ao.dst := by
  subst h
  simp only [coper] at hb ⊢
  split at hb
  · rename_i hs
    obtain ⟨g, hg⟩ := Option.isSome_iff_exists.1 hs
    rw [hg]
    simp
  · exact absurd rfl hb

theorem coper_guard {ops : Array Oper} {draw : Bool} {i : Nat} {o : Oper} (h : coper P ops draw i o = ao) {b : Bool} {ρ : List AVal} (hg : gval ρ ao.guard = some b) (hb : b = false) : cguard ops o = some ao.guard ∧ o.dst = ao.dst := by
  subst h
  simp only [coper] at hg ⊢
  cases hc : cguard ops o with
  | none => rw [hc] at hg; simp [gval] at hg; subst hb; cases hg
  | some g => simp

/-- Rows that hold no cells are left alone. -/
theorem aev_rows {op : AOp} {ρ : List AVal} {H : Heap} {n : Nat} {v : AVal} {Δ : List (Nat × Row)} (h : aev op ρ H n = some (v, Δ)) : Δ = [] ∨ ∃ r x, Δ = [(r, x)] ∧ (r = n ∨ ∃ c, H.cellsAt r = some c) := by
  unfold aev at h
  split at h
  all_goals first
    | (have := some_nil h; exact .inl this.2)
    | (have := map_nil h; exact .inl this.2)
    | skip
  all_goals
    repeat' (first
      | (split at h)
      | (cases h; done)
      | (have := some_nil h; exact .inl this.2)
      | (have := map_nil h; exact .inl this.2)
      | (simp only [Option.some.injEq, Prod.mk.injEq] at h
         obtain ⟨h1, h2⟩ := h
         subst h2
         refine .inr ⟨_, _, rfl, ?_⟩
         first
           | exact .inl rfl
           | exact .inr ⟨_, by assumption⟩))
  · simp at h; exact .inr ⟨n, _, h.2.2.symm, .inl rfl⟩
  · simp only [Option.map_eq_some_iff, Prod.mk.injEq] at h
    obtain ⟨r, _, _, h2⟩ := h
    exact .inl h2.symm

theorem Heap.le_puts (Δ : List (Nat × Row)) : ∀ H : Heap, H.length ≤ (H.puts Δ).length := by
  induction Δ with
  | nil => intro H; exact Nat.le_refl _
  | cons p Δ ih => intro H; exact Nat.le_trans (by rw [Heap.len_put]; omega) (ih (H.put p.1 p.2))

theorem puts_dfr {op : AOp} {ρ : List AVal} {H : Heap} {n : Nat} {v : AVal} {Δ : List (Nat × Row)} (h : aev op ρ H n = some (v, Δ)) (hn : H[n]? = none ∨ H[n]? = some none) {r : Nat} (hr : H[r]? = some (some .dfr)) : (H.puts Δ)[r]? = some (some .dfr) := by
  rcases aev_rows h with rfl | ⟨q, x, rfl, hq⟩
  · exact hr
  · have hne : r ≠ q := by
      rintro rfl
      rcases hq with rfl | ⟨c, hc⟩
      · rcases hn with hn | hn <;> rw [hn] at hr <;> cases hr
      · simp [Heap.cellsAt, hr] at hc
    simp only [Heap.puts]
    exact (Heap.put_other H x hne _).2 hr

theorem blkOf_le {μ μ' : Mu} (h : μ.le μ') {H : Heap} {hp : World} (hH : HR P G μ H hp) {r : Nat} (hr : H[r]? = some (some .dfr)) : blkOf μ' r = blkOf μ r := by
  obtain ⟨p, h1, _, _, h4⟩ := hH.row r _ hr
  obtain ⟨p', h5, rfl | ⟨h6, _⟩⟩ := h r p h1
  · simp [blkOf, h1, h5]
  · simp [RowIs] at h4; simp [h4.1] at h6

theorem Rel.same_marks {μ μ' : Mu} {a : Act} {w : World} (h : Rel P G μ s a w) (hμ : μ.le μ') : s.ms.map (fun r => ({ target := .collected (blkOf μ' r), args := #[] } : Deferred)) = s.ms.map fun r => { target := .collected (blkOf μ r), args := #[] } := by
  refine List.map_congr_left fun r hr => ?_
  rw [blkOf_le hμ h.hr (h.mkr r hr)]

theorem vr_undef {μ : Mu} : VR G μ (.tup []) undef := .tup [] #[] rfl fun i hi => absurd hi (by simp)

theorem op_skip (hg : gval s.ρ ao.guard = some false) (hK : K { s with ρ := setD s.ρ ao.dst (.tup []) }) : OpA P G k rd ao s K := by
  intro ops draw i o Q hi hc μ ro a w hrd h
  obtain ⟨h1, h2⟩ := coper_guard hc hg rfl
  have hw := wanted_of h.tr ops o h1 hg
  simp only [wpOpIn, hi, hw]
  refine ⟨fun _ _ => trivial, μ, _, hK, Mu.leB_refl _ _, ?_⟩
  rw [h2]
  exact ⟨h.tr.put vr_undef _, h.hr, h.dom, by rw [put_defers]; exact h.mk', h.mkr⟩

theorem op_simple {v : AVal} {Δ : List (Nat × Row)} (hg : gval s.ρ ao.guard = some true) (he : aev ao.op s.ρ s.H s.H.length = some (v, Δ)) (hK : K { s with ρ := setD s.ρ ao.dst v, H := s.H.puts Δ }) : OpA P G k rd ao s K := by
  intro ops draw i o Q hi hc μ ro a w hrd h
  have hnb : ao.op ≠ .bad := by rintro hb; rw [hb] at he; simp [aev] at he
  obtain ⟨h1, h2, h3⟩ := coper_parts hc hnb
  have hw := wanted_of h.tr ops o h1 hg
  simp only [wpOpIn, hi, if_pos hw]
  rw [← h2] at he
  have hfresh : μ s.H.length = none := by
    cases hm : μ s.H.length with
    | none => rfl
    | some p => have := h.dom s.H.length (by rw [hm]; rfl); omega
  obtain ⟨x, cv, w', μ', hrun, hx, hv, hle, hH, hdom⟩ := aev_sound h.tr h.hr hfresh o he
  have hnd : ∀ c, o.op ≠ .defer c := by
    intro c hd
    simp [cop, hd, aev] at he
  have hrow : ∀ r, s.H[r]? = some (some Row.dfr) → (s.H.puts Δ)[r]? = some (some Row.dfr) := fun r hr => puts_dfr he (.inl (by simp)) hr
  have hfin : NPost P G k μ K (a.put o.dst cv) w' := by
    refine ⟨μ', _, hK, Mu.leB_of hle, ?_⟩
    rw [← h3]
    refine ⟨(h.tr.mono hle).put hv _, hH, fun r hr => ?_, ?_, fun r hr => hrow r (h.mkr r hr)⟩
    · have hl := Heap.le_puts Δ s.H
      rcases hdom r hr with h5 | ⟨rfl, h5⟩
      · have := h.dom r h5; simp only; omega
      · exact h5
    · rw [put_defers, h.mk']; exact (h.same_marks hle).symm
  unfold Oper.wpIn
  refine ⟨fun _ _ => trivial, ?_⟩
  rw [Oper.semAt_eq _ _ _ hnd, hrun]
  rcases hx with rfl | ⟨rfl, rfl⟩
  · exact hfin
  · exact hfin

/-! ### Calls -/

def Callable (P : Program) (f : FuncId) : Bool :=
  match P.funcs[f]? with
  | some fn => fn.name != "runtime.NumGoroutine" && fn.body.isSome
  | none => false

/-- What is said of a call's end. -/
def CPost (P : Program) (G : Ctx) (k : Nat) (μ : Mu) (R : AVal → Heap → Prop) (e : Ending) (w : World) : Prop :=
  ∃ v cv μ' H', e = .returned cv ∧ R v H' ∧ VR G μ' v cv ∧ HR P G μ' H' w ∧ Dom μ' H' ∧ Mu.leB k μ μ'

/-- A call over rows of the caller's own. -/
def CallW (P : Program) (G : Ctx) (f : FuncId) (args : List AVal) (H : Heap) (R : AVal → Heap → Prop) : Prop :=
  Callable P f = true ∧ ∀ μ (cargs : Array Value) w, args.length = cargs.size → (∀ i, i < args.length → VR G μ (args.getD i .any) (cargs.getD i undef)) → HR P G μ H w → Dom μ H →
    CallsIn (Fw none) 0 P f cargs w (CPost P G H.length μ R)

theorem CallW.mono {f : FuncId} {args : List AVal} {H : Heap} {R R' : AVal → Heap → Prop} (h : CallW P G f args H R) (hR : ∀ v H', R v H' → R' v H') : CallW P G f args H R' :=
  ⟨h.1, fun μ cargs w h1 h2 h3 h4 => (h.2 μ cargs w h1 h2 h3 h4).mono fun e w' ⟨v, cv, μ', H', k1, k2, k3⟩ => ⟨v, cv, μ', H', k1, hR _ _ k2, k3⟩⟩

theorem callsIn_fw {ro ro' : Option Nat} {f : FuncId} {args : Array Value} {w : World} {R : Ending → World → Prop} (h : CallsIn (Fw ro) 0 P f args w R) : CallsIn (Fw ro') 0 P f args w R := h

theorem run_callFunc {f : FuncId} {args : Array Value} {w : World} (h : Callable P f = true) : (callFunc f args).run P w = .ok (.enter f args) w := by
  unfold Callable at h
  split at h
  · rename_i fn hf
    simp only [Bool.and_eq_true, bne_iff_ne] at h
    obtain ⟨h1, h2⟩ := h
    have h3 : fn.body.isNone = false := by cases hb : fn.body <;> simp [hb] at h2 ⊢
    simp [callFunc, hf, h1]
    intro hb; rw [hb] at h2; simp at h2
  · cases h

theorem cop_call {o : Oper} {f : AOpd} {xs : List AOpd} (h2 : cop P o = .call f xs) : ∃ c x, o.op = .call c ∧ c.callee = .value x ∧ copd x = f ∧ c.args.toList.map copd = xs := by
  cases hop : o.op
  case call c =>
    simp only [cop, hop] at h2
    cases hcl : c.callee with
    | value x =>
      simp only [hcl, AOp.call.injEq] at h2
      exact ⟨c, x, rfl, hcl, h2.1, h2.2⟩
    | invoke x m => simp [hcl] at h2
    | builtin b =>
      simp only [hcl] at h2
      cases b <;> simp only [] at h2 <;> first
        | (cases h2; done)
        | (repeat' (first | (cases h2; done) | split at h2))
  case unOp op t x => cases op <;> simp [cop, hop] at h2
  case next x b => cases b <;> simp [cop, hop] at h2
  case binOp op t x y yt =>
    simp only [cop, hop, cbin] at h2
    repeat' (first | (cases h2; done) | split at h2)
  all_goals
    simp only [cop, hop] at h2
    repeat' (first | (cases h2; done) | split at h2)

theorem op_call {f : AOpd} {xs : List AOpd} {g : FuncId} {fs cs : List AVal} {R : AVal → Heap → Prop} (hg : gval s.ρ ao.guard = some true) (ho : ao.op = .call f xs) (hf : opd s.ρ f = .fn (.func g) fs cs)
    (hc : CallW P G g (fs ++ xs.map (opd s.ρ) ++ cs) s.H R) (hk : k ≤ s.H.length) (hK : ∀ v H', R v H' → (∀ r ∈ s.ms, H'[r]? = some (some .dfr)) ∧ K { s with ρ := setD s.ρ ao.dst v, H := H' }) : OpA P G k rd ao s K := by
  intro ops draw i o Q hi hcc μ ro a w hrd h
  have hnb : ao.op ≠ .bad := by rw [ho]; simp
  obtain ⟨h1, h2, h3⟩ := coper_parts hcc hnb
  have hw := wanted_of h.tr ops o h1 hg
  simp only [wpOpIn, hi, if_pos hw]
  rw [ho] at h2
  -- which call it is
  obtain ⟨c, x, hoc, hcal, hfx, hxs⟩ : ∃ c x, o.op = .call c ∧ c.callee = .value x ∧ copd x = f ∧ c.args.toList.map copd = xs := by
    exact cop_call h2
  have hx := opd_sound h.tr x
  rw [hfx, hf] at hx
  obtain ⟨cf, hcf⟩ : ∃ cf, a.eval x = cf := ⟨_, rfl⟩
  rw [hcf] at hx
  cases hx with
  | fn _ _ _ a' b' ha hb va vb =>
    have hnd : ∀ c', o.op ≠ .defer c' := by intro c' hd; rw [hoc] at hd; cases hd
    have hrun : (execOp a.eval o).run P w = .ok (.enter g (a' ++ c.args.map a.eval ++ b')) w := by
      simp [execOp, hoc, resolve, hcal, hcf, Deferred.ofValue, invoke, run_callFunc hc.1]
    unfold Oper.wpIn
    refine ⟨fun _ _ => trivial, ?_⟩
    rw [Oper.semAt_eq _ _ _ hnd, hrun]
    refine ⟨fun hd => by simp [Fw, Fence.wide] at hd, ?_⟩
    have hlen : xs.length = c.args.size := by rw [← hxs]; simp
    have := hc.2 μ (a' ++ c.args.map a.eval ++ b') w (by simp [ha, hb, hlen]) (fun j hj => ?_) h.hr h.dom
    · refine (callsIn_fw (ro' := ro) this).mono ?_
      rintro e w' ⟨v, cv, μ', H', rfl, hR, hv, hH, hdom, hle⟩
      obtain ⟨hm, hK⟩ := hK v H' hR
      refine ⟨μ', _, hK, Mu.leB_less hle hk, ?_⟩
      rw [← h3]
      have hle' : μ.le μ' := fun r p hp => hle r p (h.dom r (by simp [hp])) hp
      exact ⟨(h.tr.mono hle').put hv _, hH, hdom, by rw [put_defers, h.mk']; exact (h.same_marks hle').symm, hm⟩
    · rw [List.getD_eq_getElem?_getD, Array.getD_eq_getD_getElem?]
      by_cases hj1 : j < fs.length
      · rw [List.append_assoc, List.getElem?_append_left hj1, Array.append_assoc, Array.getElem?_append_left (by omega)]
        have := va j hj1
        rwa [List.getD_eq_getElem?_getD, Array.getD_eq_getD_getElem?] at this
      · by_cases hj2 : j < fs.length + xs.length
        · rw [List.append_assoc, List.getElem?_append_right (by omega), List.getElem?_append_left (by simp; omega), Array.append_assoc, Array.getElem?_append_right (by omega), Array.getElem?_append_left (by simp; omega)]
          subst hxs
          have hjx : j - fs.length < c.args.size := by simp at hj2; omega
          simp only [List.map_map, List.getElem?_map, Array.getElem?_map, ← ha, Array.getElem?_toList]
          simp [hjx]
          exact opd_sound h.tr _
        · rw [List.getElem?_append_right (by simp; omega), Array.getElem?_append_right (by simp; omega)]
          have := vb (j - fs.length - xs.length) (by simp at hj; omega)
          rw [List.getD_eq_getElem?_getD, Array.getD_eq_getD_getElem?] at this
          have e1 : j - (fs ++ xs.map (opd s.ρ)).length = j - fs.length - xs.length := by simp; omega
          have e2 : j - (a' ++ c.args.map a.eval).size = j - fs.length - xs.length := by simp; omega
          rw [e1, e2]; exact this
end
end Go.Sx
