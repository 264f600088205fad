/- A part of the proof: the abstract semantics. -/
import Derived.Test.YtmpocglkfgfpbaaSxC
import Derived.OrdersIn
import Derived.RangeFuncRecord
set_option linter.unusedSimpArgs false
set_option linter.unusedVariables false
/- Regions that keep the order of the text; calls. -/
namespace Go.Sx
open Go

def tset : List AVal → Nat → AVal → List AVal
  | [], _, _ => []
  | _ :: ρ, 0, v => v :: ρ
  | u :: ρ, n + 1, v => u :: tset ρ n v

theorem tset_eq : ∀ (ρ : List AVal) (t : Nat) (v : AVal), tset ρ t v = ρ.set t v
  | [], _, _ => rfl
  | _ :: _, 0, _ => rfl
  | u :: ρ, n + 1, v => by simp only [tset, List.set_cons_succ, tset_eq ρ n v]

def setD (ρ : List AVal) (d : Option Nat) (v : AVal) : List AVal :=
  match d with
  | some d => tset ρ d v
  | none => ρ

theorem TR.put {G : Ctx} {μ : Mu} {ρ : List AVal} {a : Act} {v : AVal} {c : Value} (h : TR G μ ρ a.tmps) (hv : VR G μ v c) (d : Option Nat) : TR G μ (setD ρ d v) (a.put d c).tmps := by
  cases d with
  | none => exact h
  | some d =>
    refine ⟨by simp [setD, tset_eq, Act.put, h.1], fun t => ?_⟩
    have ht := h.2 t
    simp only [setD, tset_eq, Act.put]
    rw [List.getD_eq_getElem?_getD, Array.getD_eq_getD_getElem?] at ht ⊢
    by_cases hd : d = t
    · subst hd
      by_cases hl : d < ρ.length
      · have hl' : d < a.tmps.size := by rw [← h.1]; exact hl
        simpa [hl, hl'] using hv
      · have hl' : ¬ d < a.tmps.size := by rw [← h.1]; exact hl
        have e1 : (ρ.set d v)[d]? = none := by simp; omega
        rw [e1]; exact .any _
    · rw [List.getElem?_set_ne hd, Array.getElem?_setIfInBounds_ne hd]; exact ht

theorem put_defers (a : Act) (d : Option Nat) (v : Value) : (a.put d v).defers = a.defers := by cases d <;> rfl

def boolOf (v : AVal) (want : Bool) : Option Bool :=
  match v with
  | .bool b => some (b == want)
  | .tup [] => some false
  | _ => none

def gval (ρ : List AVal) : Option (Nat × Bool) → Option Bool
  | none => some true
  | some (t, want) => boolOf (tget ρ t) want

theorem wanted_of {G : Ctx} {μ : Mu} {ρ : List AVal} {tmps : Array Value} (h : TR G μ ρ tmps) (ops : Array Oper) (o : Oper) {g : Option (Nat × Bool)} (hg : cguard ops o = some g) {b : Bool} (hb : gval ρ g = some b) :
    Region.wanted o (yielded ops tmps) = b := by
  unfold cguard at hg
  unfold Region.wanted
  cases ho : o.guard with
  | none =>
    rw [ho] at hg
    cases hg
    simpa [gval] using hb
  | some p =>
    obtain ⟨j, want⟩ := p
    rw [ho] at hg
    simp only at hg
    split at hg
    · rename_i t ht
      cases hg
      simp only [gval, tget_eq] at hb
      unfold boolOf at hb
      split at hb
      · rename_i c hc
        cases hb
        have hv := (hc ▸ h.2 t).inv_bool
        rw [Array.getD_eq_getD_getElem?] at hv
        cases hq : tmps[t]? with
        | none => rw [hq] at hv; simp [undef] at hv
        | some q =>
          rw [hq] at hv
          simp only [Option.getD_some] at hv
          subst hv
          simp only [yielded, ht, Option.bind_some, hq]
          cases c <;> cases want <;> rfl
      · rename_i hc
        cases hb
        have hv := hc ▸ h.2 t
        rw [Array.getD_eq_getD_getElem?] at hv
        cases hq : tmps[t]? with
        | none => simp only [yielded, ht, Option.bind_some, hq]; rfl
        | some q =>
          rw [hq] at hv
          simp only [Option.getD_some] at hv
          cases hv
          simp only [yielded, ht, Option.bind_some, hq]
          rfl
      · cases hb
    · cases hg

def NPost (P : Program) (G : Ctx) (k : Nat) (μ : Mu) (K : St → Prop) (a : Act) (w : World) : Prop :=
  ∃ μ' s, K s ∧ Mu.leB k μ μ' ∧ Rel P G μ' s a w

def OpA (P : Program) (G : Ctx) (k : Nat) (rd : Option Nat) (ao : AOper) (s : St) (K : St → Prop) : Prop :=
  ∀ (ops : Array Oper) (draw : Bool) (i : Nat) (o : Oper) (Q : Exit → Act → World → Prop), ops[i]? = some o → coper P ops draw i o = ao →
    ∀ μ ro a w, RdOK k μ rd ro → Rel P G μ s a w → wpOpIn (Fw ro) 0 P ops Q i (NPost P G k μ K) a w

theorem fw_fn (ro : Option Nat) (f : FuncId) : (Fw ro).fn f := trivial

section
variable {P : Program} {G : Ctx} {k : Nat} {rd : Option Nat} {ao : AOper} {s : St} {K : St → Prop}

theorem coper_parts {ops : Array Oper} {draw : Bool} {i : Nat} {o : Oper} (h : coper P ops draw i o = ao) (hb : ao.op ≠ .bad) : cguard ops o = some ao.guard ∧ cop P o = ao.op ∧ o.dst = ao.dst := by
  subst h
  simp only [coper] at hb ⊢
  split at hb
  · rename_i hs
    obtain ⟨g, hg⟩ := Option.isSome_iff_exists.1 hs
    rw [hg]
    simp
  · exact absurd rfl hb

theorem coper_guard {ops : Array Oper} {draw : Bool} {i : Nat} {o : Oper} (h : coper P ops draw i o = ao) {b : Bool} {ρ : List AVal} (hg : gval ρ ao.guard = some b) (hb : b = false) : cguard ops o = some ao.guard ∧ o.dst = ao.dst := by
  subst h
  simp only [coper] at hg ⊢
  cases hc : cguard ops o with
  | none => rw [hc] at hg; simp [gval] at hg; subst hb; cases hg
  | some g => simp

theorem aev_rows {op : AOp} {ρ : List AVal} {H : Heap} {n : Nat} {v : AVal} {Δ : List (Nat × Row)} (h : aev op ρ H n = some (v, Δ)) : Δ = [] ∨ ∃ r x, Δ = [(r, x)] ∧ (r = n ∨ (∃ c, H.cellsAt r = some c) ∨ ∃ c, H.mapAt r = some c) := by
  unfold aev at h
  split at h
  all_goals first
    | (have := some_nil h; exact .inl this.2)
    | (have := map_nil h; exact .inl this.2)
    | skip
  all_goals
    repeat' (first
      | (split at h)
      | (cases h; done)
      | (have := some_nil h; exact .inl this.2)
      | (have := map_nil h; exact .inl this.2)
      | (simp only [Option.some.injEq, Prod.mk.injEq] at h
         obtain ⟨h1, h2⟩ := h
         subst h2
         refine .inr ⟨_, _, rfl, ?_⟩
         first
           | exact .inl rfl
           | exact .inr (.inl ⟨_, by assumption⟩)
           | exact .inr (.inr ⟨_, by assumption⟩)))
  · simp at h; exact .inr ⟨n, _, h.2.2.symm, .inl rfl⟩
  · simp only [Option.map_eq_some_iff, Prod.mk.injEq] at h
    obtain ⟨r, _, _, h2⟩ := h
    exact .inl h2.symm
  · simp only [Option.map_eq_some_iff, Prod.mk.injEq] at h
    obtain ⟨r, _, _, h2⟩ := h
    exact .inl h2.symm

theorem Heap.le_puts (Δ : List (Nat × Row)) : ∀ H : Heap, H.length ≤ (H.puts Δ).length := by
  induction Δ with
  | nil => intro H; exact Nat.le_refl _
  | cons p Δ ih => intro H; exact Nat.le_trans (by rw [Heap.len_put]; omega) (ih (H.put p.1 p.2))

theorem puts_dfr {op : AOp} {ρ : List AVal} {H : Heap} {n : Nat} {v : AVal} {Δ : List (Nat × Row)} (h : aev op ρ H n = some (v, Δ)) (hn : H[n]? = none ∨ H[n]? = some none) {r : Nat} (hr : H[r]? = some (some .dfr)) : (H.puts Δ)[r]? = some (some .dfr) := by
  rcases aev_rows h with rfl | ⟨q, x, rfl, hq⟩
  · exact hr
  · have hne : r ≠ q := by
      rintro rfl
      rcases hq with rfl | ⟨c, hc⟩ | ⟨c, hc⟩
      · rcases hn with hn | hn <;> rw [hn] at hr <;> cases hr
      · simp [Heap.cellsAt, hr] at hc
      · simp [Heap.mapAt, hr] at hc
    simp only [Heap.puts]
    exact (Heap.put_other H x hne _).2 hr

theorem blkOf_le {μ μ' : Mu} (h : μ.le μ') {H : Heap} {hp : World} (hH : HR P G μ H hp) {r : Nat} (hr : H[r]? = some (some .dfr)) : blkOf μ' r = blkOf μ r := by
  obtain ⟨p, h1, _, _, h4⟩ := hH.row r _ hr nofun
  obtain ⟨p', h5, rfl | ⟨h6, _⟩⟩ := h r p h1
  · simp [blkOf, h1, h5]
  · simp [RowIs] at h4; simp [h4.1] at h6

theorem Rel.same_marks {μ μ' : Mu} {a : Act} {w : World} (h : Rel P G μ s a w) (hμ : μ.le μ') : s.ms.map (fun r => ({ target := .collected (blkOf μ' r), args := #[] } : Deferred)) = s.ms.map fun r => { target := .collected (blkOf μ r), args := #[] } := by
  refine List.map_congr_left fun r hr => ?_
  rw [blkOf_le hμ h.hr (h.mkr r hr)]

theorem vr_undef {μ : Mu} : VR G μ (.tup []) undef := .tup [] #[] rfl fun i hi => absurd hi (by simp)

theorem op_skip (hg : gval s.ρ ao.guard = some false) (hK : K { s with ρ := setD s.ρ ao.dst (.tup []) }) : OpA P G k rd ao s K := by
  intro ops draw i o Q hi hc μ ro a w hrd h
  obtain ⟨h1, h2⟩ := coper_guard hc hg rfl
  have hw := wanted_of h.tr ops o h1 hg
  simp only [wpOpIn, hi, hw]
  refine ⟨fun _ _ => trivial, μ, _, hK, Mu.leB_refl _ _, ?_⟩
  rw [h2]
  exact ⟨h.tr.put vr_undef _, h.hr, h.dom, by rw [put_defers]; exact h.mk', h.mkr⟩

theorem op_simple {v : AVal} {Δ : List (Nat × Row)} (hg : gval s.ρ ao.guard = some true) (he : aev ao.op s.ρ s.H s.H.length = some (v, Δ)) (hK : K { s with ρ := setD s.ρ ao.dst v, H := s.H.puts Δ }) : OpA P G k rd ao s K := by
  intro ops draw i o Q hi hc μ ro a w hrd h
  have hnb : ao.op ≠ .bad := by rintro hb; rw [hb] at he; simp [aev] at he
  obtain ⟨h1, h2, h3⟩ := coper_parts hc hnb
  have hw := wanted_of h.tr ops o h1 hg
  simp only [wpOpIn, hi, if_pos hw]
  rw [← h2] at he
  have hfresh : μ s.H.length = none := by
    cases hm : μ s.H.length with
    | none => rfl
    | some p => have := h.dom s.H.length (by rw [hm]; rfl); omega
  obtain ⟨x, cv, w', μ', hrun, hx, hv, hle, hH, hdom⟩ := aev_sound h.tr h.hr hfresh o he
  have hnd : ∀ c, o.op ≠ .defer c := by
    intro c hd
    simp [cop, hd, aev] at he
  have hrow : ∀ r, s.H[r]? = some (some Row.dfr) → (s.H.puts Δ)[r]? = some (some Row.dfr) := fun r hr => puts_dfr he (.inl (by simp)) hr
  have hfin : NPost P G k μ K (a.put o.dst cv) w' := by
    refine ⟨μ', _, hK, Mu.leB_of hle, ?_⟩
    rw [← h3]
    refine ⟨(h.tr.mono hle).put hv _, hH, fun r hr => ?_, ?_, fun r hr => hrow r (h.mkr r hr)⟩
    · have hl := Heap.le_puts Δ s.H
      rcases hdom r hr with h5 | ⟨rfl, h5⟩
      · have := h.dom r h5; simp only; omega
      · exact h5
    · rw [put_defers, h.mk']; exact (h.same_marks hle).symm
  unfold Oper.wpIn
  refine ⟨fun _ _ => trivial, ?_⟩
  rw [Oper.semAt_eq _ _ _ hnd, hrun]
  rcases hx with rfl | ⟨rfl, rfl⟩
  · exact hfin
  · exact hfin


def Callable (P : Program) (f : FuncId) : Bool :=
  match P.funcs[f]? with
  | some fn => fn.name != "runtime.NumGoroutine" && fn.body.isSome
  | none => false

def CPost (P : Program) (G : Ctx) (k : Nat) (μ : Mu) (R : AVal → Heap → Prop) (e : Ending) (w : World) : Prop :=
  ∃ v cv μ' H', e = .returned cv ∧ R v H' ∧ VR G μ' v cv ∧ HR P G μ' H' w ∧ Dom μ' H' ∧ Mu.leB k μ μ'

def CallW (P : Program) (G : Ctx) (f : FuncId) (args : List AVal) (H : Heap) (R : AVal → Heap → Prop) : Prop :=
  Callable P f = true ∧ ∀ μ (cargs : Array Value) w, args.length = cargs.size → (∀ i, i < args.length → VR G μ (args.getD i .any) (cargs.getD i undef)) → HR P G μ H w → Dom μ H →
    CallsIn (Fw none) 0 P f cargs w (CPost P G H.length μ R)

theorem CallW.mono {f : FuncId} {args : List AVal} {H : Heap} {R R' : AVal → Heap → Prop} (h : CallW P G f args H R) (hR : ∀ v H', R v H' → R' v H') : CallW P G f args H R' :=
  ⟨h.1, fun μ cargs w h1 h2 h3 h4 => (h.2 μ cargs w h1 h2 h3 h4).mono fun e w' ⟨v, cv, μ', H', k1, k2, k3⟩ => ⟨v, cv, μ', H', k1, hR _ _ k2, k3⟩⟩

theorem callsIn_fw {ro ro' : Option Nat} {f : FuncId} {args : Array Value} {w : World} {R : Ending → World → Prop} (h : CallsIn (Fw ro) 0 P f args w R) : CallsIn (Fw ro') 0 P f args w R := h

theorem run_callFunc {f : FuncId} {args : Array Value} {w : World} (h : Callable P f = true) : (callFunc f args).run P w = .ok (.enter f args) w := by
  unfold Callable at h
  split at h
  · rename_i fn hf
    simp only [Bool.and_eq_true, bne_iff_ne] at h
    obtain ⟨h1, h2⟩ := h
    have h3 : fn.body.isNone = false := by cases hb : fn.body <;> simp [hb] at h2 ⊢
    simp [callFunc, hf, h1]
    intro hb; rw [hb] at h2; simp at h2
  · cases h

theorem cop_call {o : Oper} {f : AOpd} {xs : List AOpd} (h2 : cop P o = .call f xs) : ∃ c x, o.op = .call c ∧ c.callee = .value x ∧ (copd P) x = f ∧ c.args.toList.map (copd P) = xs := by
  cases hop : o.op
  case call c =>
    simp only [cop, hop] at h2
    cases hcl : c.callee with
    | value x =>
      simp only [hcl, invokeOf] at h2
      split at h2
      · cases h2
      · simp only [AOp.call.injEq] at h2
        exact ⟨c, x, rfl, hcl, h2.1, h2.2⟩
    | invoke x m => simp [hcl, invokeOf] at h2
    | builtin b =>
      simp only [hcl, invokeOf] at h2
      cases b <;> simp only [] at h2 <;> first
        | (cases h2; done)
        | (repeat' (first | (cases h2; done) | split at h2))
  case alloc t =>
    simp only [cop, hop, allocA] at h2
    repeat' (first | (cases h2; done) | split at h2)
  case unOp op t x => cases op <;> simp [cop, hop] at h2
  case next x b => cases b <;> simp [cop, hop] at h2
  case binOp op t x y yt =>
    simp only [cop, hop, cbin] at h2
    repeat' (first | (cases h2; done) | split at h2)
  all_goals
    simp only [cop, hop] at h2
    repeat' (first | (cases h2; done) | split at h2)

theorem op_call {f : AOpd} {xs : List AOpd} {g : FuncId} {fs cs : List AVal} {R : AVal → Heap → Prop} (hg : gval s.ρ ao.guard = some true) (ho : ao.op = .call f xs) (hf : opd s.ρ f = .fn (.func g) fs cs)
    (hc : CallW P G g (fs ++ xs.map (opd s.ρ) ++ cs) s.H R) (hk : k ≤ s.H.length) (hK : ∀ v H', R v H' → (∀ r ∈ s.ms, H'[r]? = some (some .dfr)) ∧ K { s with ρ := setD s.ρ ao.dst v, H := H' }) : OpA P G k rd ao s K := by
  intro ops draw i o Q hi hcc μ ro a w hrd h
  have hnb : ao.op ≠ .bad := by rw [ho]; simp
  obtain ⟨h1, h2, h3⟩ := coper_parts hcc hnb
  have hw := wanted_of h.tr ops o h1 hg
  simp only [wpOpIn, hi, if_pos hw]
  rw [ho] at h2
  -- which call it is
  obtain ⟨c, x, hoc, hcal, hfx, hxs⟩ : ∃ c x, o.op = .call c ∧ c.callee = .value x ∧ (copd P) x = f ∧ c.args.toList.map (copd P) = xs := by
    exact cop_call h2
  have hx := opd_sound h.hr.glob h.tr x
  rw [hfx, hf] at hx
  obtain ⟨cf, hcf⟩ : ∃ cf, a.eval x = cf := ⟨_, rfl⟩
  rw [hcf] at hx
  cases hx with
  | fn _ _ _ a' b' ha hb va vb =>
    have hnd : ∀ c', o.op ≠ .defer c' := by intro c' hd; rw [hoc] at hd; cases hd
    have hrun : (execOp a.eval o).run P w = .ok (.enter g (a' ++ c.args.map a.eval ++ b')) w := by
      simp [execOp, hoc, resolve, hcal, hcf, Deferred.ofValue, invoke, run_callFunc hc.1]
    unfold Oper.wpIn
    refine ⟨fun _ _ => trivial, ?_⟩
    rw [Oper.semAt_eq _ _ _ hnd, hrun]
    refine ⟨fun hd => by simp [Fw, Fence.wide] at hd, ?_⟩
    have hlen : xs.length = c.args.size := by rw [← hxs]; simp
    have := hc.2 μ (a' ++ c.args.map a.eval ++ b') w (by simp [ha, hb, hlen]) (fun j hj => ?_) h.hr h.dom
    · refine (callsIn_fw (ro' := ro) this).mono ?_
      rintro e w' ⟨v, cv, μ', H', rfl, hR, hv, hH, hdom, hle⟩
      obtain ⟨hm, hK⟩ := hK v H' hR
      refine ⟨μ', _, hK, Mu.leB_less hle hk, ?_⟩
      rw [← h3]
      have hle' : μ.le μ' := fun r p hp => hle r p (h.dom r (by simp [hp])) hp
      exact ⟨(h.tr.mono hle').put hv _, hH, hdom, by rw [put_defers, h.mk']; exact (h.same_marks hle').symm, hm⟩
    · rw [List.getD_eq_getElem?_getD, Array.getD_eq_getD_getElem?]
      by_cases hj1 : j < fs.length
      · rw [List.append_assoc, List.getElem?_append_left hj1, Array.append_assoc, Array.getElem?_append_left (by omega)]
        have := va j hj1
        rwa [List.getD_eq_getElem?_getD, Array.getD_eq_getD_getElem?] at this
      · by_cases hj2 : j < fs.length + xs.length
        · rw [List.append_assoc, List.getElem?_append_right (by omega), List.getElem?_append_left (by simp; omega), Array.append_assoc, Array.getElem?_append_right (by omega), Array.getElem?_append_left (by simp; omega)]
          subst hxs
          have hjx : j - fs.length < c.args.size := by simp at hj2; omega
          simp only [List.map_map, List.getElem?_map, Array.getElem?_map, ← ha, Array.getElem?_toList]
          simp [hjx]
          exact opd_sound h.hr.glob h.tr _
        · rw [List.getElem?_append_right (by simp; omega), Array.getElem?_append_right (by simp; omega)]
          have := vb (j - fs.length - xs.length) (by simp at hj; omega)
          rw [List.getD_eq_getElem?_getD, Array.getD_eq_getD_getElem?] at this
          have e1 : j - (fs ++ xs.map (opd s.ρ)).length = j - fs.length - xs.length := by simp; omega
          have e2 : j - (a' ++ c.args.map a.eval).size = j - fs.length - xs.length := by simp; omega
          rw [e1, e2]; exact this

theorem tabAt_mem {l : List (Nat × Nat)} {x g : Nat} (h : tabAt l x = some g) : (x, g) ∈ l := by
  induction l with
  | nil => cases h
  | cons p l ih =>
    obtain ⟨t, g'⟩ := p
    simp only [tabAt] at h
    split at h
    · rename_i hn
      cases h
      rw [Nat.eq_of_beq_eq_true hn]; exact List.mem_cons_self
    · exact List.mem_cons_of_mem _ (ih h)
theorem methTab_at {name : String} {t : TypeId} {g : FuncId} (h : tabAt (methTab P name) t = some g) : methT P name t = some g := by
  have := tabAt_mem h
  unfold methTab at this
  rw [List.mem_filterMap] at this
  obtain ⟨a, _, h2⟩ := this
  rw [Option.map_eq_some_iff] at h2
  obtain ⟨g', h3, h4⟩ := h2
  cases h4
  exact h3
theorem run_method {name : String} {t : TypeId} {g : FuncId} (h : methT P name t = some g) (n : Nat) (v : Value) (w : World) : (method (n + 1) t v name).run P w = .ok (g, v) w := by
  unfold methT at h
  split at h
  · rename_i i hi
    split at h
    · cases h
    · split at h
      · rename_i m u hm hu
        split at h
        · rename_i hp
          split at h
          · cases h
          · rename_i u' p g' hnp hf
            cases h
            have hpe : m.path.toList = [] := by
              have := Array.isEmpty_iff.1 hp
              rw [this]
            simp [method, typeInfo, hi, hm, hpe, follow, hf, receiverAt, run_underlying hu, Place.get, Result.andThen]
          · cases h
        · cases h
      · cases h
  · cases h

theorem cop_callM {o : Oper} {tab : List (Nat × Nat)} {f : AOpd} {xs : List AOpd} (h2 : cop P o = .callM tab f xs) : ∃ c x name, o.op = .call c ∧ c.callee = .invoke x name ∧ tab = methTab P name ∧ (copd P) x = f ∧ c.args.toList.map (copd P) = xs := by
  cases hop : o.op
  case call c =>
    simp only [cop, hop] at h2
    cases hcl : c.callee with
    | value x => simp only [hcl, invokeOf] at h2; split at h2 <;> cases h2
    | invoke x m =>
      simp only [hcl, invokeOf, AOp.callM.injEq] at h2
      exact ⟨c, x, m, rfl, hcl, h2.1.symm, h2.2.1, h2.2.2⟩
    | builtin b =>
      simp only [hcl, invokeOf] at h2
      cases b <;> simp only [] at h2 <;> first
        | (cases h2; done)
        | (repeat' (first | (cases h2; done) | split at h2))
  case alloc t =>
    simp only [cop, hop, allocA] at h2
    repeat' (first | (cases h2; done) | split at h2)
  case unOp op t x => cases op <;> simp [cop, hop] at h2
  case next x b => cases b <;> simp [cop, hop] at h2
  case binOp op t x y yt =>
    simp only [cop, hop, cbin] at h2
    repeat' (first | (cases h2; done) | split at h2)
  all_goals
    simp only [cop, hop] at h2
    repeat' (first | (cases h2; done) | split at h2)

theorem op_callM {tab : List (Nat × Nat)} {f : AOpd} {xs : List AOpd} {t : TypeId} {v : AVal} {g : FuncId} {R : AVal → Heap → Prop} (hg : gval s.ρ ao.guard = some true) (ho : ao.op = .callM tab f xs) (hf : opd s.ρ f = .iface t v) (ht : tabAt tab t = some g)
    (hc : CallW P G g (v :: xs.map (opd s.ρ)) s.H R) (hk : k ≤ s.H.length) (hK : (∀ r ∈ s.ms, s.H[r]? = some (some .dfr)) → ∀ v H', R v H' → (∀ r ∈ s.ms, H'[r]? = some (some .dfr)) ∧ K { s with ρ := setD s.ρ ao.dst v, H := H' }) : OpA P G k rd ao s K := by
  intro ops draw i o Q hi hcc μ ro a w hrd h
  have hnb : ao.op ≠ .bad := by rw [ho]; simp
  obtain ⟨h1, h2, h3⟩ := coper_parts hcc hnb
  have hw := wanted_of h.tr ops o h1 hg
  simp only [wpOpIn, hi, if_pos hw]
  rw [ho] at h2
  obtain ⟨c, x, name, hoc, hcal, htab, hfx, hxs⟩ := cop_callM h2
  subst htab
  have hm := methTab_at ht
  have hx := opd_sound h.hr.glob h.tr x
  rw [hfx, hf] at hx
  obtain ⟨cf, hcf⟩ : ∃ cf, a.eval x = cf := ⟨_, rfl⟩
  rw [hcf] at hx
  cases hx with
  | iface _ _ cv hvv =>
    have hnd : ∀ c', o.op ≠ .defer c' := by intro c' hd; rw [hoc] at hd; cases hd
    have hrun : (execOp a.eval o).run P w = .ok (.enter g (#[cv] ++ c.args.map a.eval)) w := by
      have hmr := run_method hm (P.types.size + Made.depth - 1) cv w
      have hd : P.types.size + Made.depth - 1 + 1 = P.types.size + Made.depth := by have : Made.depth = Made.depth := rfl; unfold Made.depth; omega
      rw [hd] at hmr
      have e0 : (#[Value.iface t cv] ++ c.args.map a.eval)[0]? = some (.iface t cv) := by rw [Array.getElem?_append_left (by simp)]; rfl
      have e1 : (c.args.map a.eval).extract 0 c.args.size = c.args.map a.eval := by simp
      simp [execOp, hoc, resolve, hcal, hcf, Deferred.ofValue, invoke, callMethod]
      rw [e0]
      simp [e1, hmr, Result.andThen, run_callFunc hc.1]
    unfold Oper.wpIn
    refine ⟨fun _ _ => trivial, ?_⟩
    rw [Oper.semAt_eq _ _ _ hnd, hrun]
    refine ⟨fun hd => by simp [Fw, Fence.wide] at hd, ?_⟩
    have hlen : xs.length = c.args.size := by rw [← hxs]; simp
    have := hc.2 μ (#[cv] ++ c.args.map a.eval) w (by simp [hlen]; omega) (fun j hj => ?_) h.hr h.dom
    · refine (callsIn_fw (ro' := ro) this).mono ?_
      rintro e w' ⟨v, cv, μ', H', rfl, hR, hv, hH, hdom, hle⟩
      obtain ⟨hm, hK⟩ := hK h.mkr v H' hR
      refine ⟨μ', _, hK, Mu.leB_less hle hk, ?_⟩
      rw [← h3]
      have hle' : μ.le μ' := fun r p hp => hle r p (h.dom r (by simp [hp])) hp
      exact ⟨(h.tr.mono hle').put hv _, hH, hdom, by rw [put_defers, h.mk']; exact (h.same_marks hle').symm, hm⟩
    · rw [List.getD_eq_getElem?_getD, Array.getD_eq_getD_getElem?]
      cases j with
      | zero =>
        have e : (#[cv] ++ c.args.map a.eval)[0]? = some cv := by rw [Array.getElem?_append_left (by simp)]; rfl
        rw [e]; exact hvv
      | succ j =>
        subst hxs
        have hjx : j < c.args.size := by simp at hj; omega
        rw [List.getElem?_cons_succ, Array.getElem?_append_right (by simp)]
        simp only [List.map_map, List.getElem?_map, Array.getElem?_map, Array.getElem?_toList]
        simp [hjx]
        exact opd_sound h.hr.glob h.tr _
end
end Go.Sx
/- Compiled code, functions, and what they hand back. -/
namespace Go.Sx
open Go

section
variable {P : Program} {G : Ctx} {k : Nat} {rd : Option Nat} {Q : Exit → St → Prop} {s : St}

def AW (P : Program) (G : Ctx) (k : Nat) (rd : Option Nat) (c : ACode) (Q : Exit → St → Prop) (s : St) : Prop :=
  ∀ code, ccode P code = c → Awp P G k rd code Q s

def AL (P : Program) (G : Ctx) (k : Nat) (rd : Option Nat) (c : ACode) (Q : Exit → St → Prop) (s : St) : Prop :=
  ∀ code, ccode P code = c → ALoop P G k rd code Q s

theorem AW.mono {c : ACode} {Q' : Exit → St → Prop} (h : AW P G k rd c Q s) (hq : ∀ e s, Q e s → Q' e s) : AW P G k rd c Q' s := fun code hc => (h code hc).mono hq

theorem aw_skip (h : Q .normal s) : AW P G k rd .skip Q s := fun code hc => by cases code <;> simp only [ccode] at hc <;> first | (cases hc; done) | exact awp_skip h
theorem aw_exit {id : Nat} (h : Q (.exit id) s) : AW P G k rd (.exit id) Q s := fun code hc => by cases code <;> simp only [ccode] at hc <;> cases hc; exact awp_exit h
theorem aw_goto {l : Nat} (h : Q (.goto l) s) : AW P G k rd (.goto l) Q s := fun code hc => by cases code <;> simp only [ccode] at hc <;> cases hc; exact awp_goto h
theorem aw_label {l : Nat} (h : Q .normal s) : AW P G k rd (.label l) Q s := fun code hc => by cases code <;> simp only [ccode] at hc <;> cases hc; exact awp_label h
theorem aw_ret (h : Q .ret s) : AW P G k rd .ret Q s := fun code hc => by cases code <;> simp only [ccode] at hc <;> first | (cases hc; done) | exact awp_ret h
theorem aw_seq {x y : ACode} (h : AW P G k rd x (andThen (AW P G k rd y Q) Q) s) : AW P G k rd (.seq x y) Q s := fun code hc => by
  cases code <;> simp only [ccode] at hc <;> cases hc
  rename_i a b
  exact awp_seq ((h a rfl).mono fun e s hs => by cases e <;> first | exact hs | exact hs b rfl)
theorem aw_cond {c : AOpd} {x y : ACode} {t : Bool} (hc : opd s.ρ c = .bool t) (h1 : t = true → AW P G k rd x Q s) (h2 : t = false → AW P G k rd y Q s) : AW P G k rd (.cond c x y) Q s := fun code hcc => by
  cases code <;> simp only [ccode] at hcc <;> cases hcc
  exact awp_cond hc (fun ht => h1 ht _ rfl) (fun ht => h2 ht _ rfl)
theorem aw_block {id : Nat} {c : ACode} (h : AW P G k rd c (inBlock id Q) s) : AW P G k rd (.block id c) Q s := fun code hc => by
  cases code <;> simp only [ccode] at hc <;> cases hc
  exact awp_block (h _ rfl)
theorem aw_loop {c : ACode} (h : AL P G k rd c Q s) : AW P G k rd (.loop c) Q s := fun code hc => by
  cases code <;> simp only [ccode] at hc <;> cases hc
  exact awp_loop (h _ rfl)
theorem al_round {c : ACode} (h : AW P G k rd c (andThen (AL P G k rd c Q) Q) s) : AL P G k rd c Q s := fun code hc =>
  aloop_round ((h code hc).mono fun e s hs => by cases e <;> first | exact hs | exact hs code hc)
theorem aw_less {c : ACode} {s' : St} (hl : Less P G k s s') (h : AW P G k rd c Q s') : AW P G k rd c Q s := fun code hc => awp_less hl (h code hc)
theorem al_less {c : ACode} {s' : St} (hl : Less P G k s s') (h : AL P G k rd c Q s') : AL P G k rd c Q s := fun code hc => aloop_less hl (h code hc)


def Areg (P : Program) (G : Ctx) (k : Nat) (rd : Option Nat) : List AOper → St → (St → Prop) → Prop
  | [], s, K => K s
  | ao :: l, s, K => OpA P G k rd ao s fun s' => Areg P G k rd l s' K

theorem aw_reg {ops : List AOper} (h : Areg P G k rd ops s (Q .normal)) : AW P G k rd (.reg ops false) Q s := fun code hc => by
  cases code <;> simp only [ccode] at hc <;> first | (cases hc; done) | skip
  rename_i id ops' draw
  simp only [ACode.reg.injEq] at hc
  obtain ⟨hops, rfl⟩ := hc
  subst hops
  intro μ ro a w hrd hR
  refine wpIn_region ?_
  have key : ∀ (m j : Nat) (s : St) (μ' : Mu) (a : Act) (w : World), j + m = ops'.size → Mu.leB k μ μ' → Rel P G μ' s a w →
      Areg P G k rd ((ops'.toList.zipIdx.map fun (o, i) => coper P ops' false i o).drop j) s (Q .normal) → wpOpsIn (Fw ro) 0 P ops' (Post P G k μ Q) (List.range' j m) a w := by
    intro m
    induction m with
    | zero =>
      intro j s μ' a w hj hle hR' hA
      have : (ops'.toList.zipIdx.map fun (o, i) => coper P ops' false i o).drop j = [] := by simp; omega
      rw [this] at hA
      exact ⟨μ', s, hA, hle, hR'⟩
    | succ m ih =>
      intro j s μ' a w hj hle hR' hA
      have hjl : j < ops'.size := by omega
      have hd : (ops'.toList.zipIdx.map fun (o, i) => coper P ops' false i o).drop j = coper P ops' false j ops'[j] :: (ops'.toList.zipIdx.map fun (o, i) => coper P ops' false i o).drop (j + 1) := by
        rw [List.drop_eq_getElem_cons (by simp; omega)]
        congr 1
        simp
      rw [hd] at hA
      rw [List.range'_succ, wpOpsIn_cons]
      refine wpOpIn_mono ?_ (hA ops' false j ops'[j] (Post P G k μ Q) (by simp [hjl]) rfl μ' ro a w (hrd.mono hle) hR')
      rintro a' w' ⟨μ'', s', hA', hle', hR''⟩
      exact ih (j + 1) s' μ'' a' w' (by omega) (Mu.leB_trans hle hle') hR'' hA'
  have := key ops'.size 0 s μ a w (by omega) (Mu.leB_refl _ _) hR (by simpa using h)
  rwa [← List.range_eq_range'] at this


def resVal (s : St) : ARes → Option AVal
  | .tmp t => some (tget s.ρ t)
  | .cell a (some n) => ldv s.H n (tget s.ρ a)
  | .cell _ none => none

def resVals (s : St) : List ARes → Option (List AVal)
  | [] => some []
  | r :: rs => match resVal s r, resVals s rs with | some v, some vs => some (v :: vs) | _, _ => none

def resOf (l : List ARes) (s : St) : Option AVal :=
  match resVals s l with
  | some [v] => some v
  | some vs => some (.tup vs)
  | none => none

def freed (H : Heap) : List Nat → Heap
  | [] => H
  | r :: rs => freed (H.set r none) rs

def RetPost (res : List ARes) (R : AVal → Heap → Prop) (e : Exit) (s : St) : Prop :=
  (e = .normal ∨ e = .ret) ∧ s.ms.Nodup ∧ ∃ v, resOf res { s with H := freed s.H s.ms } = some v ∧ R v (freed s.H s.ms)


def resOne (tmps : Array Value) : ResultVar → Sem Value
  | .tmp t => pure (tmps.getD t undef)
  | .cell q t => do loadVar t (← asAddr (tmps.getD q undef))

def cresOne (P : Program) : ResultVar → ARes
  | .tmp t => .tmp t
  | .cell a t => .cell a (lkind P t)

def cres (P : Program) (fn : Func) : List ARes := fn.results.toList.map (cresOne P)

theorem results_eq (fn : Func) (tmps : Array Value) : results fn tmps = (do let vs ← fn.results.mapM (resOne tmps); pure (if h : vs.size = 1 then vs[0] else .tuple vs)) := by
  unfold results
  congr 1

theorem resVals_run {μ : Mu} {a : Act} {w : World} (hT : TR G μ s.ρ a.tmps) (hH : HR P G μ s.H w) : ∀ (l : List ResultVar) (vs : List AVal), resVals s (l.map (cresOne P)) = some vs →
    ∃ cs, ((l.mapM (resOne a.tmps) : Sem (List Value)).run P w = .ok cs w) ∧ vs.length = cs.length ∧ ∀ i, i < vs.length → VR G μ (vs.getD i .any) (cs.getD i undef)
  | [], vs, h => by
    simp only [List.map_nil, resVals, Option.some.injEq] at h
    subst h
    exact ⟨[], by simp, rfl, fun i hi => by simp at hi⟩
  | r :: l, vs, h => by
    simp only [List.map_cons, resVals] at h
    split at h
    · rename_i v vs' hv hvs
      cases h
      obtain ⟨cs, h1, h2, h3⟩ := resVals_run hT hH l vs' hvs
      have hone : ∃ c, ((resOne a.tmps r).run P w = .ok c w) ∧ VR G μ v c := by
        cases r with
        | tmp t =>
          simp only [cresOne, resVal, tget_eq, Option.some.injEq] at hv
          subst hv
          exact ⟨_, by simp [resOne], hT.2 t⟩
        | cell q t =>
          simp only [cresOne] at hv
          cases hk : lkind P t with
          | none => rw [hk] at hv; simp [resVal] at hv
          | some kk =>
            rw [hk] at hv
            simp only [resVal, tget_eq] at hv
            obtain ⟨ad, cv, h4, h5, h6⟩ := ldv_run hH hk (hT.2 q) hv
            exact ⟨cv, by simp only [resOne, Sem.run_bind, h4, asAddr, Sem.run_pure, Result.andThen_ok, h5], h6⟩
      obtain ⟨c, hc1, hc2⟩ := hone
      refine ⟨c :: cs, ?_, by simp [h2], fun i hi => ?_⟩
      · rw [List.mapM_cons]
        simp only [Sem.run_bind, hc1, Result.andThen_ok, h1, Sem.run_pure]
      · cases i with
        | zero => exact hc2
        | succ i => simpa using h3 i (by simpa using hi)
    · cases h

theorem results_run {μ : Mu} {a : Act} {w : World} {fn : Func} {v : AVal} (hT : TR G μ s.ρ a.tmps) (hH : HR P G μ s.H w) (h : resOf (cres P fn) s = some v) :
    ∃ c, (results fn a.tmps).run P w = .ok c w ∧ VR G μ v c := by
  unfold resOf at h
  have hm : ∀ vs, resVals s (cres P fn) = some vs → ∃ cs : List Value, ((fn.results.mapM (resOne a.tmps) : Sem (Array Value)).run P w = .ok cs.toArray w) ∧ vs.length = cs.length ∧ ∀ i, i < vs.length → VR G μ (vs.getD i .any) (cs.getD i undef) := by
    intro vs hvs
    obtain ⟨cs, h1, h2, h3⟩ := resVals_run hT hH fn.results.toList vs hvs
    refine ⟨cs, ?_, h2, h3⟩
    rw [Array.mapM_eq_mapM_toList]
    simp only [Functor.map]
    rw [Sem.run_bind', h1]
    rfl
  split at h
  · rename_i v' hvs
    cases h
    obtain ⟨cs, h1, h2, h3⟩ := hm _ hvs
    match cs, h2 with
    | [c], _ =>
      refine ⟨c, ?_, by simpa using h3 0 (by simp)⟩
      rw [results_eq]
      simp only [Sem.run_bind, h1, Result.andThen_ok, Sem.run_pure]
      rfl
  · rename_i vs hne hvs
    cases h
    obtain ⟨cs, h1, h2, h3⟩ := hm _ hvs
    have hl : cs.length ≠ 1 := by
      intro hc
      match vs, (by omega : vs.length = 1) with
      | [x], _ => exact hne x rfl
    refine ⟨.tuple cs.toArray, ?_, .tup _ _ (by simpa using h2) fun i hi => ?_⟩
    · rw [results_eq]
      simp only [Sem.run_bind, h1, Result.andThen_ok, Sem.run_pure]
      rw [dif_neg (by simpa using hl)]
    · have := h3 i hi
      rw [Array.getD_eq_getD_getElem?]
      rw [List.getD_eq_getElem?_getD (l := cs)] at this
      simpa using this
  · cases h

theorem HR.free {μ : Mu} {H : Heap} {hp : World} {r : Nat} {p : Place} (h : HR P G μ H hp) (hr : H[r]? = some (some .dfr)) (hp1 : μ r = some p) (o : Obj) : HR P G μ (H.set r none) (hp.putObj p.blk o) := by
  have hne : ∀ s x, (H.set r none)[s]? = some (some x) → s ≠ r ∧ H[s]? = some (some x) := by
    intro s x hs
    by_cases hsr : r = s
    · subst hsr
      rw [List.getElem?_set_self (by obtain ⟨hlt, _⟩ := List.getElem?_eq_some_iff.1 hr; exact hlt)] at hs
      cases hs
    · rw [List.getElem?_set_ne hsr] at hs
      exact ⟨Ne.symm hsr, hs⟩
  have hblk : ∀ s x q, (H.set r none)[s]? = some (some x) → μ s = some q → x ≠ .dead → q.blk ≠ p.blk := by
    intro s x q hs hq hnd
    obtain ⟨h1, h2⟩ := hne s x hs
    exact h.apart s r x _ q p h2 hr hq hp1 h1 hnd nofun
  obtain ⟨p0, e1, hk, e2, _⟩ := h.row r _ hr nofun
  rw [hp1] at e1; cases e1
  constructor
  · intro s x hs hnd
    obtain ⟨h1, h2⟩ := hne s x hs
    obtain ⟨q, h3, h4, h5, h6⟩ := h.row s x h2 hnd
    exact ⟨q, h3, h4, by simpa [World.putObj] using h5, h6.mono (Mu.le_refl _) (by show (hp.heap.setIfInBounds p.blk o)[q.blk]? = _; rw [Array.getElem?_setIfInBounds_ne (Ne.symm (hblk s x q hs h3 hnd))])⟩
  · intro s s' x x' q q' hs hs' hq hq' hn n1 n2
    exact h.apart s s' x x' q q' (hne s x hs).2 (hne s' x' hs').2 hq hq' hn n1 n2
  · intro b hb
    obtain ⟨h1, h2⟩ := h.kept b hb
    refine ⟨by simpa [World.putObj] using h1, ?_⟩
    show (hp.heap.setIfInBounds p.blk o)[b]? = _
    rw [Array.getElem?_setIfInBounds_ne (fun e => hk (by rw [e]; exact hb))]; exact h2
  · exact h.ro
  · exact h.calm
  · exact fun s hs => h.named s (hne s _ hs).2
  · exact h.glob

theorem leaves_free {μ : Mu} {fn : Func} {tmps : Array Value} {R : Ending → World → Prop} : ∀ (ms : List Nat) (H : Heap) (w : World), ms.Nodup → HR P G μ H w → (∀ r ∈ ms, H[r]? = some (some .dfr)) →
    (∀ w', HR P G μ (freed H ms) w' → ∃ v, (results fn tmps).run P w' = .ok v w' ∧ R (.returned v) w') →
    LeavesInM (Fw none) 0 P fn tmps R (ms.map fun r => { target := .collected (blkOf μ r), args := #[] }) .returning w
  | [], H, w, _, hH, _, h => h w hH
  | r :: ms, H, w, hnd, hH, hms, h => by
    obtain ⟨p, h1, _, _, h4⟩ := hH.row r _ (hms r (by simp)) nofun
    have hb : blkOf μ r = p.blk := by simp [blkOf, h1]
    simp only [List.map_cons, LeavesInM]
    refine ⟨by simp, .inl ⟨_, _, rfl, by rw [hb]; exact run_takeDeferred h4.2, ?_⟩⟩
    rw [List.nodup_cons] at hnd
    refine leaves_free ms (H.set r none) _ hnd.2 (hH.free (hms r (by simp)) h1 _) (fun q hq => ?_) h
    rw [List.getElem?_set_ne (fun e => hnd.1 (by rw [e]; exact hq))]
    exact hms q (by simp [hq])

theorem Dom.freed {μ : Mu} : ∀ (ms : List Nat) (H : Heap), Dom μ H → Dom μ (freed H ms)
  | [], _, h => h
  | r :: ms, H, h => Dom.freed ms _ fun q hq => by have := h q hq; simpa using this

theorem call_of_body {f : FuncId} {fn : Func} {c : Code} {args : List AVal} {H : Heap} {R : AVal → Heap → Prop} (hf : P.funcs[f]? = some fn) (hb : fn.body = some c) (hc : Callable P f = true)
    (h : Awp P G H.length none c (RetPost (cres P fn) R) { ρ := args ++ List.replicate (fn.ntmps - args.length) .any, H := H }) : CallW P G f args H R := by
  refine ⟨hc, fun μ cargs w hl hv hH hdom => ?_⟩
  refine callsIn_of_wp_marks hf hb (fw_fn _ _) ?_ rfl
  have hrel : Rel P G μ { ρ := args ++ List.replicate (fn.ntmps - args.length) .any, H := H } { tmps := cargs ++ Array.replicate (fn.ntmps - cargs.size) undef, defers := [] } w := by
    refine ⟨⟨by simp [hl], fun t => ?_⟩, hH, hdom, rfl, fun r hr => by simp at hr⟩
    rw [List.getD_eq_getElem?_getD, Array.getD_eq_getD_getElem?]
    by_cases ht : t < args.length
    · rw [List.getElem?_append_left ht, Array.getElem?_append_left (by omega)]
      have := hv t ht
      rwa [List.getD_eq_getElem?_getD, Array.getD_eq_getD_getElem?] at this
    · rw [List.getElem?_append_right (by omega)]
      have : (List.replicate (fn.ntmps - args.length) AVal.any)[t - args.length]?.getD .any = .any := by
        rw [List.getElem?_replicate]; split <;> rfl
      rw [this]; exact .any _
  refine wpIn_mono (h μ none _ w rfl hrel) ?_
  rintro e a w' ⟨μ', s', ⟨he, hnd, v, hv, hR⟩, hle, hR'⟩
  have hleave : LeavesInM (Fw none) 0 P fn a.tmps (CPost P G H.length μ R) a.defers .returning w' := by
    rw [hR'.mk']
    refine leaves_free s'.ms s'.H w' hnd hR'.hr hR'.mkr fun w'' hH'' => ?_
    obtain ⟨c, hc1, hc2⟩ := results_run (s := { s' with H := freed s'.H s'.ms }) hR'.tr hH'' hv
    exact ⟨c, hc1, v, c, μ', _, rfl, hR, hc2, hH'', hR'.dom.freed _ _, hle⟩
  rcases he with rfl | rfl <;> exact hleave
end
end Go.Sx
/- Straight pieces of code, reckoned at once; calls that leave the rows as they were. -/
namespace Go.Sx
open Go

section
variable {P : Program} {G : Ctx} {k : Nat} {rd : Option Nat} {Q : Exit → St → Prop} {s : St}

def evalTo : List AOper → List AVal → Heap → Option (List AOper × List AVal × Heap)
  | [], ρ, H => some ([], ρ, H)
  | ao :: l, ρ, H =>
    match gval ρ ao.guard with
    | some false => evalTo l (setD ρ ao.dst (.tup [])) H
    | some true =>
      match ao.op with
      | .call f xs => some (ao :: l, ρ, H)
      | op => match aev op ρ H H.length with
        | some (v, Δ) => evalTo l (setD ρ ao.dst v) (H.puts Δ)
        | none => none
    | none => none

theorem areg_ev {ops rest : List AOper} {ρ ρ' : List AVal} {H H' : Heap} {ms : List Nat} {K : St → Prop} (h : evalTo ops ρ H = some (rest, ρ', H')) (hK : Areg P G k rd rest ⟨ρ', H', ms⟩ K) : Areg P G k rd ops ⟨ρ, H, ms⟩ K := by
  induction ops generalizing ρ H with
  | nil => simp only [evalTo, Option.some.injEq, Prod.mk.injEq] at h; obtain ⟨rfl, rfl, rfl⟩ := h; exact hK
  | cons ao l ih =>
    unfold evalTo at h
    split at h
    · rename_i hg; exact op_skip hg (ih h)
    · rename_i hg
      split at h
      · simp only [Option.some.injEq, Prod.mk.injEq] at h; obtain ⟨rfl, rfl, rfl⟩ := h; exact hK
      · split at h
        · rename_i v Δ he; exact op_simple hg he (ih h)
        · cases h
    · cases h

theorem areg_nil {K : St → Prop} (h : K s) : Areg P G k rd [] s K := h
theorem areg_cons {ao : AOper} {l : List AOper} {K : St → Prop} (h : OpA P G k rd ao s fun s' => Areg P G k rd l s' K) : Areg P G k rd (ao :: l) s K := h

theorem call_of_afun {f : FuncId} {fn : Func} {af : AFun} {args : List AVal} {H : Heap} {R : AVal → Heap → Prop} (hf : P.funcs[f]? = some fn) (ha : cfun P fn = af) (hc : (fn.name != "runtime.NumGoroutine" && fn.body.isSome) = true)
    (h : AW P G H.length none af.body (RetPost af.res R) { ρ := args ++ List.replicate (af.ntmps - args.length) .any, H := H }) : CallW P G f args H R := by
  subst ha
  have hc0 : Callable P f = true := by unfold Callable; rw [hf]; exact hc
  simp only [Bool.and_eq_true] at hc
  obtain ⟨c, hb⟩ := Option.isSome_iff_exists.1 hc.2
  refine call_of_body hf hb hc0 ?_
  have h1 : (cfun P fn).body = ccode P c := by simp [cfun, hb]
  have h2 : (cfun P fn).res = cres P fn := by
    simp only [cfun, cres]
    exact List.map_congr_left fun x _ => by cases x <;> rfl
  have := h c h1.symm
  rw [h2] at this
  exact this


inductive Bel (S : Nat → Prop) : AVal → Prop where
  | any : Bel S .any
  | bool (b : Bool) : Bel S (.bool b)
  | int (q : IntKind) (n : Int) : Bel S (.int q n)
  | str (l : List UInt8) : Bel S (.str l)
  | ptr (r i off L : Nat) (h : S r) : Bel S (.ptr r i off L)
  | rptr (e : AVal) (off : Nat) (hv : ∀ j, j < (acells e).length → Bel S ((acells e).getD j .any)) : Bel S (.rptr e off)
  | nilptr : Bel S .nilptr
  | sl (r off len : Nat) (h : S r) : Bel S (.sl r off len)
  | view (es : List AVal) (hv : ∀ i j, i < es.length → j < (acells (es.getD i .any)).length → Bel S ((acells (es.getD i .any)).getD j .any)) : Bel S (.view es)
  | nilsl : Bel S .nilsl
  | fn (f : Fn) (a b : List AVal) (va : ∀ i, i < a.length → Bel S (a.getD i .any)) (vb : ∀ i, i < b.length → Bel S (b.getD i .any)) : Bel S (.fn f a b)
  | yfn (r : Nat) (h : S r) : Bel S (.yfn r)
  | nilfn : Bel S .nilfn
  | iface (t : TypeId) (v : AVal) (h : Bel S v) : Bel S (.iface t v)
  | niliface : Bel S .niliface
  | agg (cs : List AVal) (hv : ∀ i, i < cs.length → Bel S (cs.getD i .any)) : Bel S (.agg cs)
  | tup (cs : List AVal) (hv : ∀ i, i < cs.length → Bel S (cs.getD i .any)) : Bel S (.tup cs)
  | mp (r : Nat) (h : S r) : Bel S (.mp r)
  | nilmap : Bel S .nilmap

theorem VR.bel {μ : Mu} {v : AVal} {c : Value} {S : Nat → Prop} (hd : ∀ r, (μ r).isSome = true → S r) (h : VR G μ v c) : Bel S v := by
  induction h with
  | any c => exact .any
  | bool b => exact .bool b
  | int q n => exact .int q n
  | str l s h => exact .str l
  | ptr r i off L p c hp hL ho hc => exact .ptr r i off L (hd r (by simp [hp]))
  | rptr e off b o f hb hf _ ih => exact .rptr e off ih
  | nilptr => exact .nilptr
  | sl r off len p c hp hvec hL ho hc => exact .sl r off len (hd r (by simp [hp]))
  | view es b o sz cap f hb hcap hs hf _ ih => exact .view es fun i j hi hj => ih i j hi (by rw [← hs i hi]; exact hj)
  | viewnil a cap => exact .view [] fun i j hi => by simp at hi
  | nilsl => exact .nilsl
  | fn f a b a' b' ha hb _ _ iha ihb => exact .fn f a b iha ihb
  | yfn r p hp hv => exact .yfn r (hd r (by simp [hp]))
  | nilfn => exact .nilfn
  | iface t v c _ ih => exact .iface t v ih
  | niliface => exact .niliface
  | agg cs vs hl _ ih => exact .agg cs ih
  | tup cs vs hl _ ih => exact .tup cs ih
  | mp r p hp hv => exact .mp r (hd r (by simp [hp]))
  | nilmap => exact .nilmap

theorem Bel.mono {S S' : Nat → Prop} {v : AVal} (h : Bel S v) (hs : ∀ r, S r → S' r) : Bel S' v := by
  induction h with
  | any => exact .any
  | bool b => exact .bool b
  | int q n => exact .int q n
  | str l => exact .str l
  | ptr r i off L h => exact .ptr r i off L (hs r h)
  | rptr e off _ ih => exact .rptr e off ih
  | nilptr => exact .nilptr
  | sl r off len h => exact .sl r off len (hs r h)
  | view es _ ih => exact .view es ih
  | nilsl => exact .nilsl
  | fn f a b _ _ iha ihb => exact .fn f a b iha ihb
  | yfn r h => exact .yfn r (hs r h)
  | nilfn => exact .nilfn
  | iface t v _ ih => exact .iface t v ih
  | niliface => exact .niliface
  | agg cs _ ih => exact .agg cs ih
  | tup cs _ ih => exact .tup cs ih
  | mp r h => exact .mp r (hs r h)
  | nilmap => exact .nilmap

def Mu.only (μ : Mu) (S : Nat → Prop) [DecidablePred S] : Mu := fun r => if S r then μ r else none

theorem VR.only {μ : Mu} {S : Nat → Prop} [DecidablePred S] {v : AVal} {c : Value} (h : VR G μ v c) (hb : Bel S v) : VR G (μ.only S) v c := by
  have hu : ∀ r p, μ r = some p → S r → μ.only S r = some p := fun r p hp hr => by simp [Mu.only, hr, hp]
  induction h with
  | any c => exact .any c
  | bool b => exact .bool b
  | int q n => exact .int q n
  | str l s h => exact .str l s h
  | ptr r i off L p c hp hL ho hc => cases hb with | ptr _ _ _ _ hr => exact .ptr r i off L p c (hu r p hp hr) hL ho hc
  | rptr e off b o f hb' hf _ ih => cases hb with | rptr _ _ hv => exact .rptr e off b o f hb' hf fun j hj => ih j hj (hv j hj)
  | nilptr => exact .nilptr
  | sl r off len p c hp hvec hL ho hc => cases hb with | sl _ _ _ hr => exact .sl r off len p c (hu r p hp hr) hvec hL ho hc
  | view es b o sz cap f hb' hcap hs hf _ ih => cases hb with | view _ hv => exact .view es b o sz cap f hb' hcap hs hf fun i j hi hj => ih i j hi hj (hv i j hi (by rw [hs i hi]; exact hj))
  | viewnil a cap => exact .viewnil a cap
  | nilsl => exact .nilsl
  | fn f a b a' b' ha hb' _ _ iha ihb => cases hb with | fn _ _ _ va vb => exact .fn f a b a' b' ha hb' (fun i hi => iha i hi (va i hi)) (fun i hi => ihb i hi (vb i hi))
  | yfn r p hp hv => cases hb with | yfn _ hr => exact .yfn r p (hu r p hp hr) hv
  | nilfn => exact .nilfn
  | iface t v c _ ih => cases hb with | iface _ _ h => exact .iface t v c (ih h)
  | niliface => exact .niliface
  | agg cs vs hl _ ih => cases hb with | agg _ hv => exact .agg cs vs hl fun i hi => ih i hi (hv i hi)
  | tup cs vs hl _ ih => cases hb with | tup _ hv => exact .tup cs vs hl fun i hi => ih i hi (hv i hi)
  | mp r p hp hv => cases hb with | mp _ hr => exact .mp r p (hu r p hp hr) hv
  | nilmap => exact .nilmap

def Row.bel (S : Nat → Prop) : Row → Prop
  | .cells _ _ es => ∀ i j, i < es.length → j < (acells (es.getD i .any)).length → Bel S ((acells (es.getD i .any)).getD j .any)
  | .loop ρ _ _ _ d _ _ => S d ∧ ∀ t, t < ρ.length → Bel S (ρ.getD t .any)
  | .dfr => True
  | .siter _ _ => True
  | .mapr _ _ vs => ∀ i, i < vs.length → Bel S (vs.getD i .any)
  | .dead => True

theorem RowIs.bel {μ : Mu} {p : Place} {hp : Array Obj} {x : Row} {S : Nat → Prop} (hd : ∀ r, (μ r).isSome = true → S r) (h : RowIs P G μ p hp x) : x.bel S := by
  cases x with
  | cells g sz es =>
    obtain ⟨_, _, _, C, ty, _, _, h5⟩ := h
    intro i j hi hj
    obtain ⟨c, _, hv⟩ := (h5 i hi).2 j (by rw [← (h5 i hi).1]; exact hj)
    exact hv.bel hd
  | loop ρ ps asg body d st pend =>
    obtain ⟨_, r, _, _, _, _, _, _, _, h8, pd, h9, _⟩ := h
    exact ⟨hd d (by simp [h9]), fun t ht => (h8 t ht).bel hd⟩
  | dfr => trivial
  | siter s pos => trivial
  | mapr kk ks vs =>
    obtain ⟨_, hl, es, ck, _, _, h3⟩ := h
    intro i hi
    obtain ⟨e, _, _, k3⟩ := h3 i (by omega)
    exact k3.bel hd
  | dead => trivial

theorem RowIs.only {μ : Mu} {S : Nat → Prop} [DecidablePred S] {p : Place} {hp : Array Obj} {x : Row} (h : RowIs P G μ p hp x) (hb : x.bel S) : RowIs P G (μ.only S) p hp x := by
  cases x with
  | cells g sz es =>
    obtain ⟨h1, h2, hg, C, ty, h3, h4, h5⟩ := h
    refine ⟨h1, h2, hg, C, ty, h3, h4, fun i hi => ⟨(h5 i hi).1, fun j hj => ?_⟩⟩
    obtain ⟨c, hc, hv⟩ := (h5 i hi).2 j hj
    exact ⟨c, hc, hv.only (hb i j hi (by rw [(h5 i hi).1]; exact hj))⟩
  | loop ρ ps asg body d st pend =>
    obtain ⟨h0, r, h1, h2, h3, h4, h5, h6, h7, h8, pd, h9, h10, h11⟩ := h
    exact ⟨h0, r, h1, h2, h3, h4, h5, h6, h7, fun t ht => (h8 t ht).only (hb.2 t ht), pd, by simp [Mu.only, hb.1, h9], h10, h11⟩
  | dfr => exact h
  | siter s pos => exact h
  | mapr kk ks vs =>
    obtain ⟨h0, hl, es, ck, h1, h2, h3⟩ := h
    exact ⟨h0, hl, es, ck, h1, h2, fun i hi => by obtain ⟨e, k1, k2, k3⟩ := h3 i hi; exact ⟨e, k1, k2, k3.only (hb i (by omega))⟩⟩
  | dead => trivial

theorem HR.only {μ : Mu} {S : Nat → Prop} [DecidablePred S] {H H' : Heap} {hp : World} (h : HR P G μ H' hp) (hb : ∀ (r : Nat) (x : Row), H[r]? = some (some x) → S r ∧ H'[r]? = some (some x) ∧ x.bel S) : HR P G (μ.only S) H hp := by
  constructor
  · intro r x hr hnd
    obtain ⟨hs, hr', hx⟩ := hb r x hr
    obtain ⟨p, h1, h2, h3, h4⟩ := h.row r x hr' hnd
    exact ⟨p, by simp [Mu.only, hs, h1], h2, h3, h4.only hx⟩
  · intro r r' x x' p p' hr hr' hp hp' hne n1 n2
    obtain ⟨e1, f1, _⟩ := hb r x hr
    obtain ⟨e2, f2, _⟩ := hb r' x' hr'
    simp only [Mu.only, e1, e2, if_true] at hp hp'
    exact h.apart r r' x x' p p' f1 f2 hp hp' hne n1 n2
  · exact h.kept
  · exact h.ro
  · exact h.calm
  · intro r hr
    obtain ⟨hs, hr', _⟩ := hb r _ hr
    have := h.named r hr'
    simpa [Mu.only, hs] using this
  · exact h.glob

def Laid (H : Heap) (r : Nat) : Prop := ∃ x, H[r]? = some (some x)

def CallOK (P : Program) (G : Ctx) (f : FuncId) (args : List AVal) (H : Heap) (R : AVal → Heap → Prop) : Prop :=
  Callable P f = true ∧ ∀ μ (cargs : Array Value) w, args.length = cargs.size → (∀ i, i < args.length → VR G μ (args.getD i .any) (cargs.getD i undef)) → HR P G μ H w → Dom μ H →
    CallsIn (Fw none) 0 P f cargs w fun e w' => ∃ v cv μ' H', e = .returned cv ∧ R v H' ∧ VR G μ' v cv ∧ HR P G μ' H' w' ∧ Dom μ' H' ∧ Mu.leB H.length μ μ' ∧ ∀ r, r < H.length → μ r = none → μ' r = none

theorem CallOK.weak {f : FuncId} {args : List AVal} {H : Heap} {R : AVal → Heap → Prop} (h : CallOK P G f args H R) : CallW P G f args H R :=
  ⟨h.1, fun μ cargs w h1 h2 h3 h4 => (h.2 μ cargs w h1 h2 h3 h4).mono fun _ _ ⟨v, cv, μ', H', k1, k2, k3, k4, k5, k6, _⟩ => ⟨v, cv, μ', H', k1, k2, k3, k4, k5, k6⟩⟩

theorem CallOK.mono {f : FuncId} {args : List AVal} {H : Heap} {R R' : AVal → Heap → Prop} (h : CallOK P G f args H R) (hR : ∀ v H', R v H' → R' v H') : CallOK P G f args H R' :=
  ⟨h.1, fun μ cargs w h1 h2 h3 h4 => (h.2 μ cargs w h1 h2 h3 h4).mono fun _ _ ⟨v, cv, μ', H', k1, k2, k3⟩ => ⟨v, cv, μ', H', k1, hR _ _ k2, k3⟩⟩

theorem CallW.back {f : FuncId} {args : List AVal} {H : Heap} {R : AVal → Prop} (h : CallW P G f args H fun v H' => R v ∧ Bel (Laid H) v ∧ ∃ X, H' = H ++ X) : CallOK P G f args H fun v H' => R v ∧ H' = H := by
  refine ⟨h.1, fun μ cargs w h1 h2 h3 h4 => (h.2 μ cargs w h1 h2 h3 h4).mono ?_⟩
  rintro e w' ⟨v, cv, μ', H', rfl, ⟨hR, hb, X, rfl⟩, hv, hH, hd, hle⟩
  have hdom : ∀ r, Laid H r → (μ r).isSome = true := fun r ⟨x, hx⟩ => h3.nm hx
  refine ⟨v, cv, μ'.only (fun r => (μ r).isSome = true), H, rfl, ⟨hR, rfl⟩, hv.only (hb.mono hdom), hH.only fun r x hr => ⟨hdom r ⟨x, hr⟩, ?_, ?_⟩, fun r hr => ?_, fun r p hr hp => ?_, fun r hr hn => ?_⟩
  · rw [List.getElem?_append_left (List.getElem?_eq_some_iff.1 hr).1]; exact hr
  · by_cases hnd : x = .dead
    · subst hnd; trivial
    obtain ⟨p, k1, _, _, k4⟩ := h3.row r x hr hnd
    exact k4.bel fun _ h => h
  · unfold Mu.only at hr
    split at hr
    · rename_i hs; exact h4 r hs
    · cases hr
  · obtain ⟨p', k1, k2⟩ := hle r p hr hp
    exact ⟨p', by simp [Mu.only, hp, k1], k2⟩
  · simp [Mu.only, hn]
end
end Go.Sx
/- Regions whose order is drawn: what is done when some of the operations are. -/
namespace Go.Sx
open Go

structure Oc where
  v : AVal
  Δ : List (Nat × Row)
  fs : List Nat := []

def Oc.rows (c : Oc) : List Nat := c.Δ.map (·.1)

def rAfter : List (AOper × Oc) → Nat → (Nat → Bool) → List AVal → List AVal
  | [], _, _, ρ => ρ
  | x :: l, i, D, ρ => rAfter l (i + 1) D (if D i = true then setD ρ x.1.dst x.2.v else ρ)

def hAfter : List (AOper × Oc) → Nat → (Nat → Bool) → Heap → Heap
  | [], _, _, H => H
  | x :: l, i, D, H => hAfter l (i + 1) D (if D i = true then H.puts x.2.Δ else H)

def upd (D : Nat → Bool) (n : Nat) : Nat → Bool := fun m => if m = n then true else D m

theorem setD_eq (ρ : List AVal) (d : Option Nat) (v : AVal) : setD ρ d v = match d with | some t => ρ.set t v | none => ρ := by
  cases d <;> simp [setD, tset_eq]

theorem setD_len (ρ : List AVal) (d : Option Nat) (v : AVal) : (setD ρ d v).length = ρ.length := by
  rw [setD_eq]; cases d <;> simp

theorem tget_setD_ne {ρ : List AVal} {d : Option Nat} {v : AVal} {t : Nat} (h : d ≠ some t) : tget (setD ρ d v) t = tget ρ t := by
  rw [setD_eq, tget_eq, tget_eq]
  cases d with
  | none => rfl
  | some u =>
    have : u ≠ t := fun e => h (by rw [e])
    simp [List.getD_eq_getElem?_getD, List.getElem?_set_ne this]

theorem tget_setD_same {ρ ρ' : List AVal} {v : AVal} {t : Nat} (hl : ρ.length = ρ'.length) : tget (setD ρ (some t) v) t = tget (setD ρ' (some t) v) t := by
  simp only [setD_eq, tget_eq, List.getD_eq_getElem?_getD]
  by_cases h : t < ρ.length
  · simp [List.getElem?_set_self h, List.getElem?_set_self (hl ▸ h)]
  · rw [List.getElem?_eq_none (by simp; omega), List.getElem?_eq_none (by simp; omega)]

theorem setD_comm (ρ : List AVal) {d e : Option Nat} (v u : AVal) (h : ∀ t, d = some t → e ≠ some t) : setD (setD ρ d v) e u = setD (setD ρ e u) d v := by
  simp only [setD_eq]
  cases d <;> cases e <;> try rfl
  rename_i a b
  have : a ≠ b := fun x => h a rfl (by rw [x])
  exact List.set_comm _ _ this

theorem rAfter_len (l : List (AOper × Oc)) : ∀ (i : Nat) (D : Nat → Bool) (ρ : List AVal), (rAfter l i D ρ).length = ρ.length := by
  induction l with
  | nil => intros; rfl
  | cons x l ih => intro i D ρ; simp only [rAfter]; rw [ih]; split <;> simp [setD_len]

theorem rAfter_tget (t : Nat) (l : List (AOper × Oc)) : ∀ (i : Nat) (D D' : Nat → Bool) (ρ ρ' : List AVal), ρ.length = ρ'.length → tget ρ t = tget ρ' t →
    (∀ j x, l[j]? = some x → x.1.dst = some t → D (i + j) = D' (i + j)) → tget (rAfter l i D ρ) t = tget (rAfter l i D' ρ') t := by
  induction l with
  | nil => intro i D D' ρ ρ' _ h _; exact h
  | cons x l ih =>
    intro i D D' ρ ρ' hl h hd
    simp only [rAfter]
    refine ih (i + 1) D D' _ _ ?_ ?_ fun j y hy hyd => by have := hd (j + 1) y (by simpa using hy) hyd; rwa [show i + (j + 1) = i + 1 + j by omega] at this
    · split <;> split <;> simp [setD_len, hl]
    · by_cases hx : x.1.dst = some t
      · have e := hd 0 x (by simp) hx
        simp only [Nat.add_zero] at e
        rw [e]
        split
        · rw [hx]; exact tget_setD_same hl
        · exact h
      · split <;> split <;> simp only [tget_setD_ne hx, h]

theorem rAfter_congr (l : List (AOper × Oc)) : ∀ (i : Nat) (D D' : Nat → Bool) (ρ : List AVal), (∀ m, i ≤ m → D m = D' m) → rAfter l i D ρ = rAfter l i D' ρ := by
  induction l with
  | nil => intros; rfl
  | cons x l ih =>
    intro i D D' ρ h
    simp only [rAfter, h i (Nat.le_refl _)]
    exact ih _ _ _ _ fun m hm => h m (by omega)

theorem hAfter_congr (l : List (AOper × Oc)) : ∀ (i : Nat) (D D' : Nat → Bool) (H : Heap), (∀ m, i ≤ m → D m = D' m) → hAfter l i D H = hAfter l i D' H := by
  induction l with
  | nil => intros; rfl
  | cons x l ih =>
    intro i D D' H h
    simp only [hAfter, h i (Nat.le_refl _)]
    exact ih _ _ _ _ fun m hm => h m (by omega)

theorem rAfter_setD {d : Option Nat} {v : AVal} (l : List (AOper × Oc)) : ∀ (i : Nat) (D : Nat → Bool) (ρ : List AVal), (∀ j x t, l[j]? = some x → D (i + j) = true → d = some t → x.1.dst ≠ some t) →
    rAfter l i D (setD ρ d v) = setD (rAfter l i D ρ) d v := by
  induction l with
  | nil => intros; rfl
  | cons x l ih =>
    intro i D ρ h
    simp only [rAfter]
    have h' : ∀ j y t, l[j]? = some y → D (i + 1 + j) = true → d = some t → y.1.dst ≠ some t := fun j y t hy hd ht => h (j + 1) y t (by simpa using hy) (by rwa [show i + (j + 1) = i + 1 + j by omega]) ht
    split
    · rename_i hD
      rw [setD_comm ρ v x.2.v fun t ht => h 0 x t (by simp) (by simpa using hD) ht, ih _ _ _ h']
    · exact ih _ _ _ h'

theorem rAfter_add {x : AOper × Oc} (l : List (AOper × Oc)) : ∀ (i j : Nat) (D : Nat → Bool) (ρ : List AVal), l[j]? = some x → D (i + j) = false →
    (∀ m y t, l[m]? = some y → j < m → D (i + m) = true → x.1.dst = some t → y.1.dst ≠ some t) →
    rAfter l i (upd D (i + j)) ρ = setD (rAfter l i D ρ) x.1.dst x.2.v := by
  induction l with
  | nil => intro i j D ρ h; simp at h
  | cons z l ih =>
    intro i j D ρ h hD hm
    cases j with
    | zero =>
      simp only [List.getElem?_cons_zero, Option.some.injEq] at h
      subst h
      simp only [Nat.add_zero] at hD ⊢
      have e : rAfter l (i + 1) (upd D i) = rAfter l (i + 1) D := by
        funext ρ
        exact rAfter_congr l _ _ _ ρ fun m hm => by simp [upd]; intro h; omega
      have e' : upd D i i = true := by simp [upd]
      simp only [rAfter, e', if_true, hD, Bool.false_eq_true, if_false]
      rw [e]
      exact rAfter_setD l (i + 1) D ρ fun j y t hy hd ht => hm (j + 1) y t (by simpa using hy) (by omega) (by rwa [show i + (j + 1) = i + 1 + j by omega]) ht
    | succ j =>
      simp only [List.getElem?_cons_succ] at h
      simp only [rAfter]
      have e : i + (j + 1) = i + 1 + j := by omega
      rw [e] at hD ⊢
      have hi : upd D (i + 1 + j) i = D i := by simp [upd]; intro h; omega
      rw [hi]
      exact ih (i + 1) j D _ h hD fun m y t hy hjm hd ht => hm (m + 1) y t (by simpa using hy) (by omega) (by rwa [show i + (m + 1) = i + 1 + m by omega]) ht

theorem Heap.put_get (H : Heap) (r s : Nat) (x : Row) : (H.put r x)[s]? = if s = r then some (some x) else if s < H.length then H[s]? else if s < r then some none else none := by
  by_cases h : s = r
  · rw [if_pos h, h]; exact Heap.put_same H r x
  · rw [if_neg h]
    unfold Heap.put
    split
    · rename_i hr
      rw [List.getElem?_set_ne (by omega)]
      split
      · rfl
      · rw [List.getElem?_eq_none (by omega)]
        rw [if_neg (by omega)]
    · rename_i hr
      split
      · rename_i hs; rw [List.getElem?_append_left hs]
      · rename_i hs
        rw [List.getElem?_append_right (by omega)]
        split
        · rw [List.getElem?_append_left (by simp; omega), List.getElem?_replicate, if_pos (by omega)]
        · rw [List.getElem?_eq_none (by simp; omega)]

theorem Heap.put_comm (H : Heap) {r s : Nat} (x y : Row) (h : r ≠ s) : (H.put r x).put s y = (H.put s y).put r x := by
  apply List.ext_getElem?
  intro n
  simp only [Heap.put_get, Heap.len_put]
  repeat' split
  all_goals first | rfl | omega

theorem Heap.puts_put (Δ : List (Nat × Row)) : ∀ (H : Heap) (r : Nat) (x : Row), r ∉ Δ.map (·.1) → (H.put r x).puts Δ = (H.puts Δ).put r x := by
  induction Δ with
  | nil => intros; rfl
  | cons p Δ ih =>
    intro H r x h
    simp only [List.map_cons, List.mem_cons, not_or] at h
    simp only [Heap.puts]
    rw [Heap.put_comm H x p.2 h.1, ih _ _ _ h.2]

theorem Heap.puts_comm (Δ Δ' : List (Nat × Row)) : ∀ (H : Heap), (∀ r ∈ Δ.map (·.1), r ∉ Δ'.map (·.1)) → (H.puts Δ).puts Δ' = (H.puts Δ').puts Δ := by
  induction Δ with
  | nil => intros; rfl
  | cons p Δ ih =>
    intro H h
    simp only [Heap.puts]
    rw [ih _ fun r hr => h r (by simp at hr ⊢; exact .inr hr), Heap.puts_put _ _ _ _ (h p.1 (by simp))]

theorem hAfter_puts {Δ : List (Nat × Row)} (l : List (AOper × Oc)) : ∀ (i : Nat) (D : Nat → Bool) (H : Heap), (∀ j x, l[j]? = some x → D (i + j) = true → ∀ r ∈ Δ.map (·.1), r ∉ x.2.rows) →
    hAfter l i D (H.puts Δ) = (hAfter l i D H).puts Δ := by
  induction l with
  | nil => intros; rfl
  | cons x l ih =>
    intro i D H h
    simp only [hAfter]
    have h' : ∀ j y, l[j]? = some y → D (i + 1 + j) = true → ∀ r ∈ Δ.map (·.1), r ∉ y.2.rows := fun j y hy hd => h (j + 1) y (by simpa using hy) (by rwa [show i + (j + 1) = i + 1 + j by omega])
    split
    · rename_i hD
      rw [Heap.puts_comm Δ x.2.Δ H (h 0 x (by simp) (by simpa using hD)), ih _ _ _ h']
    · exact ih _ _ _ h'

theorem hAfter_add {x : AOper × Oc} (l : List (AOper × Oc)) : ∀ (i j : Nat) (D : Nat → Bool) (H : Heap), l[j]? = some x → D (i + j) = false →
    (∀ m y, l[m]? = some y → j < m → D (i + m) = true → ∀ r ∈ x.2.rows, r ∉ y.2.rows) →
    hAfter l i (upd D (i + j)) H = (hAfter l i D H).puts x.2.Δ := by
  induction l with
  | nil => intro i j D H h; simp at h
  | cons z l ih =>
    intro i j D H h hD hm
    cases j with
    | zero =>
      simp only [List.getElem?_cons_zero, Option.some.injEq] at h
      subst h
      simp only [Nat.add_zero] at hD ⊢
      have e : hAfter l (i + 1) (upd D i) = hAfter l (i + 1) D := by
        funext H
        exact hAfter_congr l _ _ _ H fun m hm => by simp [upd]; intro h; omega
      have e' : upd D i i = true := by simp [upd]
      simp only [hAfter, e', if_true, hD, Bool.false_eq_true, if_false]
      rw [e]
      exact hAfter_puts l (i + 1) D H fun j y hy hd => hm (j + 1) y (by simpa using hy) (by omega) (by rwa [show i + (j + 1) = i + 1 + j by omega])
    | succ j =>
      simp only [List.getElem?_cons_succ] at h
      simp only [hAfter]
      have e : i + (j + 1) = i + 1 + j := by omega
      rw [e] at hD ⊢
      have hi : upd D (i + 1 + j) i = D i := by simp [upd]; intro h; omega
      rw [hi]
      exact ih (i + 1) j D _ h hD fun m y hy hjm hd => hm (m + 1) y (by simpa using hy) (by omega) (by rwa [show i + (m + 1) = i + 1 + m by omega])

def Same (r : Nat) (H H' : Heap) : Prop := ∀ y, H[r]? = some (some y) ↔ H'[r]? = some (some y)

theorem Same.refl (r : Nat) (H : Heap) : Same r H H := fun _ => Iff.rfl
theorem Same.put {r : Nat} {H H' : Heap} (h : Same r H H') (q : Nat) (x : Row) : Same r (H.put q x) (H'.put q x) := fun y => by
  by_cases hq : r = q
  · subst hq; rw [Heap.put_same, Heap.put_same]
  · rw [Heap.put_other H x hq, Heap.put_other H' x hq]; exact h y
theorem Same.puts {r : Nat} (Δ : List (Nat × Row)) : ∀ {H H' : Heap}, Same r H H' → Same r (H.puts Δ) (H'.puts Δ) := by
  induction Δ with
  | nil => intro H H' h; exact h
  | cons p Δ ih => intro H H' h; exact ih (h.put p.1 p.2)
theorem Same.off {r : Nat} (Δ : List (Nat × Row)) : ∀ {H : Heap}, r ∉ Δ.map (·.1) → Same r (H.puts Δ) H := by
  induction Δ with
  | nil => intro H _; exact .refl _ _
  | cons p Δ ih =>
    intro H h y
    simp only [List.map_cons, List.mem_cons, not_or] at h
    exact (ih h.2 y).trans (Heap.put_other H p.2 h.1 y)
theorem Same.symm {r : Nat} {H H' : Heap} (h : Same r H H') : Same r H' H := fun y => (h y).symm
theorem Same.trans {r : Nat} {H H' H'' : Heap} (h : Same r H H') (h' : Same r H' H'') : Same r H H'' := fun y => (h y).trans (h' y)

theorem hAfter_same (r : Nat) (l : List (AOper × Oc)) : ∀ (i : Nat) (D D' : Nat → Bool) (H H' : Heap), Same r H H' →
    (∀ j x, l[j]? = some x → r ∈ x.2.rows → D (i + j) = D' (i + j)) → Same r (hAfter l i D H) (hAfter l i D' H') := by
  induction l with
  | nil => intro i D D' H H' h _; exact h
  | cons x l ih =>
    intro i D D' H H' h hd
    simp only [hAfter]
    refine ih (i + 1) D D' _ _ ?_ fun j y hy hr => by have := hd (j + 1) y (by simpa using hy) hr; rwa [show i + (j + 1) = i + 1 + j by omega] at this
    by_cases hx : r ∈ x.2.rows
    · have e := hd 0 x (by simp) hx
      simp only [Nat.add_zero] at e
      rw [e]
      split
      · exact h.puts _
      · exact h
    · split <;> split
      · exact h.puts _
      · exact (Same.off _ hx).trans h
      · exact h.trans (Same.off _ hx).symm
      · exact h

def Heap.mask (H : Heap) (rs : List Nat) : Heap := H.zipIdx.map fun (x, i) => if i ∈ rs then none else x

theorem mask_get (H : Heap) (rs : List Nat) (r : Nat) (y : Row) : (H.mask rs)[r]? = some (some y) ↔ r ∉ rs ∧ H[r]? = some (some y) := by
  unfold Heap.mask
  rw [List.getElem?_map, List.getElem?_zipIdx]
  cases h : H[r]? with
  | none => simp
  | some x =>
    simp only [Option.map_some, Nat.zero_add, Option.some.injEq]
    by_cases hr : r ∈ rs
    · simp [hr]
    · simp [hr]

theorem cellsAt_get {H : Heap} {r : Nat} {x : Bool × Nat × List AVal} : H.cellsAt r = some x ↔ H[r]? = some (some (.cells x.1 x.2.1 x.2.2)) := by
  unfold Heap.cellsAt
  constructor
  · intro h
    split at h
    · rename_i g sz es he; cases h; exact he
    · cases h
  · intro h; rw [h]

theorem mask_le {H H' : Heap} {rs : List Nat} (h : ∀ r, r ∉ rs → Same r H H') : (H.mask rs).le H' := fun r x hx => by
  rw [cellsAt_get, mask_get] at hx
  rw [cellsAt_get]
  exact (h r hx.1 _).1 hx.2

theorem mapAt_get {H : Heap} {r : Nat} {x : IntKind × List Int × List AVal} : H.mapAt r = some x ↔ H[r]? = some (some (.mapr x.1 x.2.1 x.2.2)) := by
  unfold Heap.mapAt
  constructor
  · intro h
    split at h
    · rename_i g sz es he; cases h; exact he
    · cases h
  · intro h; rw [h]
theorem mask_leM {H H' : Heap} {rs : List Nat} (h : ∀ r, r ∉ rs → Same r H H') (r : Nat) (x : IntKind × List Int × List AVal) (hx : (H.mask rs).mapAt r = some x) : H'.mapAt r = some x := by
  rw [mapAt_get, mask_get] at hx
  rw [mapAt_get]
  exact (h r hx.1 _).1 hx.2
theorem mapAt_mask (H : Heap) (rs : List Nat) (r : Nat) : (H.mask rs).mapAt r = if r ∈ rs then none else H.mapAt r := by
  apply Option.ext
  intro x
  rw [mapAt_get, mask_get]
  split
  · rename_i h; simp [h]
  · rename_i h; rw [mapAt_get]; simp [h]

theorem cellsAt_mask (H : Heap) (rs : List Nat) (r : Nat) : (H.mask rs).cellsAt r = if r ∈ rs then none else H.cellsAt r := by
  apply Option.ext
  intro x
  rw [cellsAt_get, mask_get]
  split
  · rename_i h; simp [h]
  · rename_i h; rw [cellsAt_get]; simp [h]

section
variable {P : Program} {G : Ctx}

theorem aev_free {op : AOp} {ρ : List AVal} {H : Heap} {n n' : Nat} {v : AVal} {Δ : List (Nat × Row)} (h : aev op ρ H n = some (v, Δ)) (hn : n ∉ Δ.map (·.1)) : aev op ρ H n' = some (v, Δ) := by
  cases op <;> try exact h
  case box x =>
    simp only [aev] at h
    split at h
    · cases h
    · simp only [Option.some.injEq, Prod.mk.injEq] at h
      rw [← h.2] at hn; simp at hn
  case buildSlice sz xs =>
    simp only [aev] at h
    split at h
    · simp only [Option.some.injEq, Prod.mk.injEq] at h
      rw [← h.2] at hn; simp at hn
    · cases h
  case makeMap kk =>
    simp only [aev, Option.some.injEq, Prod.mk.injEq] at h
    rw [← h.2] at hn; simp at hn
  case appendStr s x =>
    simp only [aev] at h ⊢
    cases hx : opd ρ x <;> rw [hx] at h <;> try (cases h; done)
    dsimp only at h ⊢
    cases ho : opd ρ s <;> rw [ho] at h <;> try (cases h; done)
    all_goals try dsimp only at h ⊢
    · rename_i r off len
      cases off with
      | succ m => cases h
      | zero => exact h
    · split at h
      · rename_i hy; rw [if_pos hy]; exact h
      · split at h
        · simp only [Option.some.injEq, Prod.mk.injEq] at h
          rw [← h.2] at hn; simp at hn
        · cases h
  case allocArr cs =>
    simp only [aev, Option.some.injEq, Prod.mk.injEq] at h
    rw [← h.2] at hn; simp at hn
  case strToBytes x =>
    simp only [aev] at h
    split at h
    · simp only [Option.some.injEq, Prod.mk.injEq] at h
      rw [← h.2] at hn; simp at hn
    · cases h
  case makeSlice z b l c =>
    simp only [aev] at h
    repeat' split at h
    all_goals first
      | (cases h; done)
      | (simp only [Option.some.injEq, Prod.mk.injEq] at h
         rw [← h.2] at hn; simp at hn)
  case appendN sz b z s x =>
    simp only [aev] at h
    repeat' split at h
    all_goals first
      | (cases h; done)
      | (simp only [Option.some.injEq, Prod.mk.injEq] at h
         rw [← h.2] at hn; simp at hn)
  case append sz b g s x =>
    simp only [aev] at h ⊢
    cases he : elemsOf H (opd ρ x) with
    | none => rw [he] at h; cases h
    | some ys =>
      rw [he] at h
      simp only at h ⊢
      split at h
      · cases h
      · rename_i hz
        rw [if_neg hz]
        cases hs : opd ρ s
        case nilsl =>
          rw [hs] at h
          simp only at h ⊢
          split at h
          · rename_i hy; rw [if_pos hy]; exact h
          · rename_i hy
            rw [if_neg hy]
            split at h
            · simp only [Option.some.injEq, Prod.mk.injEq] at h
              rw [← h.2] at hn; simp at hn
            · cases h
        case sl r off len => rw [hs] at h; cases off <;> exact h
        all_goals (rw [hs] at h; cases h)

theorem op_at {ao : AOper} {s : St} {n i : Nat} {v : AVal} {Δ : List (Nat × Row)} {ops : Array Oper} {draw : Bool} {o : Oper} {Q : Exit → Act → World → Prop} {μ : Mu} {ro : Option Nat} {a : Act} {w : World}
    (hi : ops[i]? = some o) (hc : coper P ops draw i o = ao) (hg : gval s.ρ ao.guard = some true) (he : aev ao.op s.ρ s.H n = some (v, Δ)) (hn : μ n = none) (h : Rel P G μ s a w) :
    wpOpIn (Fw ro) 0 P ops Q i (fun a' w' => ∃ μ', Rel P G μ' ⟨setD s.ρ ao.dst v, s.H.puts Δ, s.ms⟩ a' w' ∧ μ.le μ' ∧ ∀ r, (μ' r).isSome = true → (μ r).isSome = true ∨ (r = n ∧ r < (s.H.puts Δ).length)) a w := by
  have hnb : ao.op ≠ .bad := by rintro hb; rw [hb] at he; simp [aev] at he
  obtain ⟨h1, h2, h3⟩ := coper_parts hc hnb
  have hw := wanted_of h.tr ops o h1 hg
  simp only [wpOpIn, hi, if_pos hw]
  rw [← h2] at he
  obtain ⟨x, cv, w', μ', hrun, hx, hv, hle, hH, hdom⟩ := aev_sound h.tr h.hr hn o he
  have hnd : ∀ c, o.op ≠ .defer c := by
    intro c hd
    simp [cop, hd, aev] at he
  have hfree : s.H[n]? = none ∨ s.H[n]? = some none := by
    cases hq : s.H[n]? with
    | none => exact .inl rfl
    | some y => cases y with
      | none => exact .inr rfl
      | some y => have := h.hr.nm hq; rw [hn] at this; cases this
  have hrow : ∀ r, s.H[r]? = some (some Row.dfr) → (s.H.puts Δ)[r]? = some (some Row.dfr) := fun r hr => puts_dfr he hfree hr
  have hfin : ∃ μ', Rel P G μ' ⟨setD s.ρ ao.dst v, s.H.puts Δ, s.ms⟩ (a.put o.dst cv) w' ∧ μ.le μ' ∧ ∀ r, (μ' r).isSome = true → (μ r).isSome = true ∨ (r = n ∧ r < (s.H.puts Δ).length) := by
    refine ⟨μ', ?_, hle, fun r hr => ?_⟩
    · rw [← h3]
      refine ⟨(h.tr.mono hle).put hv _, hH, fun r hr => ?_, ?_, fun r hr => hrow r (h.mkr r hr)⟩
      · have hl := Heap.le_puts Δ s.H
        rcases hdom r hr with h5 | ⟨rfl, h5⟩
        · have := h.dom r h5; simp only; omega
        · exact h5
      · rw [put_defers, h.mk']; exact (h.same_marks hle).symm
    · rcases hdom r hr with h5 | ⟨h5, h6⟩
      · exact .inl h5
      · exact .inr ⟨h5, h5 ▸ h6⟩
  unfold Oper.wpIn
  refine ⟨fun _ _ => trivial, ?_⟩
  rw [Oper.semAt_eq _ _ _ hnd, hrun]
  rcases hx with rfl | ⟨rfl, rfl⟩
  · exact hfin
  · exact hfin

theorem op_off {ao : AOper} {s : St} {i : Nat} {ops : Array Oper} {draw : Bool} {o : Oper} {Q : Exit → Act → World → Prop} {μ : Mu} {ro : Option Nat} {a : Act} {w : World}
    (hi : ops[i]? = some o) (hc : coper P ops draw i o = ao) (hg : gval s.ρ ao.guard = some false) (h : Rel P G μ s a w) :
    wpOpIn (Fw ro) 0 P ops Q i (fun a' w' => Rel P G μ ⟨setD s.ρ ao.dst (.tup []), s.H, s.ms⟩ a' w') a w := by
  obtain ⟨h1, h2⟩ := coper_guard hc hg rfl
  have hw := wanted_of h.tr ops o h1 hg
  simp only [wpOpIn, hi, hw]
  refine ⟨fun _ _ => trivial, ?_⟩
  rw [h2]
  exact ⟨h.tr.put vr_undef _, h.hr, h.dom, by rw [put_defers]; exact h.mk', h.mkr⟩
end
end Go.Sx
/- What must come before an operation. -/
namespace Go.Sx
open Go

def closeOne (acc : List (List Nat)) (o : Oper) : List Nat := ((o.after.toList.filter (Region.binds .any)).flatMap fun e => e.on :: acc.getD e.on []).eraseDups

theorem closures_snoc (l : List Oper) (o : Oper) : closures (l ++ [o]) = closures l ++ [closeOne (closures l) o] := by
  simp [closures, List.foldl_append, closeOne]

theorem closes_len (l : List Oper) : ∀ acc : List (List Nat), (l.foldl (fun acc o => acc ++ [closeOne acc o]) acc).length = acc.length + l.length := by
  induction l with
  | nil => intro acc; rfl
  | cons o l ih => intro acc; rw [List.foldl_cons, ih]; simp; omega

theorem closures_len (l : List Oper) : (closures l).length = l.length := by
  have := closes_len l []
  simpa [closures, closeOne] using this

theorem closes_keep (l : List Oper) (i : Nat) : ∀ acc : List (List Nat), i < acc.length → (l.foldl (fun acc o => acc ++ [closeOne acc o]) acc).getD i [] = acc.getD i [] := by
  induction l with
  | nil => intro acc _; rfl
  | cons o l ih =>
    intro acc h
    rw [List.foldl_cons, ih _ (by simp; omega)]
    simp [List.getD_eq_getElem?_getD, List.getElem?_append_left h]

theorem closures_take (l l' : List Oper) (i : Nat) (h : i < l.length) : (closures (l ++ l')).getD i [] = (closures l).getD i [] := by
  have e : closures (l ++ l') = l'.foldl (fun acc o => acc ++ [closeOne acc o]) (closures l) := by simp [closures, closeOne, List.foldl_append]
  rw [e]
  exact closes_keep l' i _ (by rw [closures_len]; exact h)

theorem closures_at {l : List Oper} {j : Nat} (hj : j < l.length) : (closures l).getD j [] = closeOne (closures (l.take j)) l[j] := by
  have e : (l.take j ++ [l[j]]) ++ l.drop (j + 1) = l := by simp
  have hl : (l.take j).length = j := by simp; omega
  have h1 := closures_take (l.take j ++ [l[j]]) (l.drop (j + 1)) j (by simp; omega)
  rw [e] at h1
  rw [h1, closures_snoc, List.getD_eq_getElem?_getD, List.getElem?_append_right (by rw [closures_len]; omega), closures_len, hl]
  simp

theorem closures_low {l : List Oper} {j i : Nat} (hj : j < l.length) (hi : i < j) : (closures (l.take j)).getD i [] = (closures l).getD i [] := by
  have h1 := closures_take (l.take j) (l.drop j) i (by simp; omega)
  rw [List.take_append_drop] at h1
  exact h1.symm

theorem mem_closures {l : List Oper} {j i : Nat} {o : Oper} (ho : l[j]? = some o) (h : i ∈ (closures l).getD j []) :
    ∃ e ∈ o.after.toList, Region.binds .any e = true ∧ (i = e.on ∨ i ∈ (closures l).getD e.on []) := by
  obtain ⟨hj, rfl⟩ := List.getElem?_eq_some_iff.1 ho
  rw [closures_at hj] at h
  simp only [closeOne, List.mem_eraseDups, List.mem_flatMap, List.mem_filter, List.mem_cons] at h
  obtain ⟨e', ⟨he, hb⟩, h⟩ := h
  refine ⟨e', he, hb, ?_⟩
  rcases h with h | h
  · exact .inl h
  · refine .inr ?_
    by_cases hlt : e'.on < j
    · rw [← closures_low hj hlt]; exact h
    · rw [List.getD_eq_getElem?_getD, List.getElem?_eq_none (by rw [closures_len]; simp; omega)] at h
      simp at h

theorem closures_mem {l : List Oper} {j : Nat} {o : Oper} (ho : l[j]? = some o) {e : Edge} (he : e ∈ o.after.toList) (hb : Region.binds .any e = true) : e.on ∈ (closures l).getD j [] := by
  obtain ⟨hj, rfl⟩ := List.getElem?_eq_some_iff.1 ho
  rw [closures_at hj]
  simp only [closeOne, List.mem_eraseDups, List.mem_flatMap, List.mem_filter, List.mem_cons]
  exact ⟨e, ⟨he, hb⟩, .inl rfl⟩
end Go.Sx
