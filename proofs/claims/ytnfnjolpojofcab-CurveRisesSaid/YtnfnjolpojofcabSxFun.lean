/- Compiled code, functions, and what they hand back. -/
import Derived.Test.YtnfnjolpojofcabSxRegion
import Derived.RangeFuncRecord
namespace Go.Sx
open Go

section
variable {P : Program} {G : Ctx} {k : Nat} {rd : Option Nat} {Q : Exit → St → Prop} {s : St}

/-- 'Awp' for whatever code is compiled to 'c'. -/
def AW (P : Program) (G : Ctx) (k : Nat) (rd : Option Nat) (c : ACode) (Q : Exit → St → Prop) (s : St) : Prop :=
  ∀ code, ccode P code = c → Awp P G k rd code Q s

/-- At a loop's head. -/
def AL (P : Program) (G : Ctx) (k : Nat) (rd : Option Nat) (c : ACode) (Q : Exit → St → Prop) (s : St) : Prop :=
  ∀ code, ccode P code = c → ALoop P G k rd code Q s

theorem AW.mono {c : ACode} {Q' : Exit → St → Prop} (h : AW P G k rd c Q s) (hq : ∀ e s, Q e s → Q' e s) : AW P G k rd c Q' s := fun code hc => (h code hc).mono hq

theorem aw_skip (h : Q .normal s) : AW P G k rd .skip Q s := fun code hc => by cases code <;> simp only [ccode] at hc <;> first | (cases hc; done) | exact awp_skip h
theorem aw_exit {id : Nat} (h : Q (.exit id) s) : AW P G k rd (.exit id) Q s := fun code hc => by cases code <;> simp only [ccode] at hc <;> cases hc; exact awp_exit h
theorem aw_goto {l : Nat} (h : Q (.goto l) s) : AW P G k rd (.goto l) Q s := fun code hc => by cases code <;> simp only [ccode] at hc <;> cases hc; exact awp_goto h
theorem aw_label {l : Nat} (h : Q .normal s) : AW P G k rd (.label l) Q s := fun code hc => by cases code <;> simp only [ccode] at hc <;> cases hc; exact awp_label h
theorem aw_ret (h : Q .ret s) : AW P G k rd .ret Q s := fun code hc => by cases code <;> simp only [ccode] at hc <;> first | (cases hc; done) | exact awp_ret h
theorem aw_seq {x y : ACode} (h : AW P G k rd x (andThen (AW P G k rd y Q) Q) s) : AW P G k rd (.seq x y) Q s := fun code hc => by
  cases code <;> simp only [ccode] at hc <;> cases hc
  rename_i a b
  exact awp_seq ((h a rfl).mono fun e s hs => by cases e <;> first | exact hs | exact hs b rfl)
theorem aw_cond {c : AOpd} {x y : ACode} {t : Bool} (hc : opd s.ρ c = .bool t) (h1 : t = true → AW P G k rd x Q s) (h2 : t = false → AW P G k rd y Q s) : AW P G k rd (.cond c x y) Q s := fun code hcc => by
  cases code <;> simp only [ccode] at hcc <;> cases hcc
  exact awp_cond hc (fun ht => h1 ht _ rfl) (fun ht => h2 ht _ rfl)
theorem aw_block {id : Nat} {c : ACode} (h : AW P G k rd c (inBlock id Q) s) : AW P G k rd (.block id c) Q s := fun code hc => by
  cases code <;> simp only [ccode] at hc <;> cases hc
  exact awp_block (h _ rfl)
theorem aw_loop {c : ACode} (h : AL P G k rd c Q s) : AW P G k rd (.loop c) Q s := fun code hc => by
  cases code <;> simp only [ccode] at hc <;> cases hc
  exact awp_loop (h _ rfl)
theorem al_round {c : ACode} (h : AW P G k rd c (andThen (AL P G k rd c Q) Q) s) : AL P G k rd c Q s := fun code hc =>
  aloop_round ((h code hc).mono fun e s hs => by cases e <;> first | exact hs | exact hs code hc)
theorem aw_less {c : ACode} {s' : St} (hl : Less P G k s s') (h : AW P G k rd c Q s') : AW P G k rd c Q s := fun code hc => awp_less hl (h code hc)
theorem al_less {c : ACode} {s' : St} (hl : Less P G k s s') (h : AL P G k rd c Q s') : AL P G k rd c Q s := fun code hc => aloop_less hl (h code hc)

/-! ### Regions in the order of the text -/

def Areg (P : Program) (G : Ctx) (k : Nat) (rd : Option Nat) : List AOper → St → (St → Prop) → Prop
  | [], s, K => K s
  | ao :: l, s, K => OpA P G k rd ao s fun s' => Areg P G k rd l s' K

theorem aw_reg {ops : List AOper} (h : Areg P G k rd ops s (Q .normal)) : AW P G k rd (.reg ops false) Q s := fun code hc => by
  cases code <;> simp only [ccode] at hc <;> first | (cases hc; done) | skip
  rename_i id ops' draw
  simp only [ACode.reg.injEq] at hc
  obtain ⟨hops, rfl⟩ := hc
  subst hops
  intro μ ro a w hrd hR
  refine wpIn_region ?_
  have key : ∀ (m j : Nat) (s : St) (μ' : Mu) (a : Act) (w : World), j + m = ops'.size → Mu.leB k μ μ' → Rel P G μ' s a w →
      Areg P G k rd ((ops'.toList.zipIdx.map fun (o, i) => coper P ops' false i o).drop j) s (Q .normal) → wpOpsIn (Fw ro) 0 P ops' (Post P G k μ Q) (List.range' j m) a w := by
    intro m
    induction m with
    | zero =>
      intro j s μ' a w hj hle hR' hA
      have : (ops'.toList.zipIdx.map fun (o, i) => coper P ops' false i o).drop j = [] := by simp; omega
      rw [this] at hA
      exact ⟨μ', s, hA, hle, hR'⟩
    | succ m ih =>
      intro j s μ' a w hj hle hR' hA
      have hjl : j < ops'.size := by omega
      have hd : (ops'.toList.zipIdx.map fun (o, i) => coper P ops' false i o).drop j = coper P ops' false j ops'[j] :: (ops'.toList.zipIdx.map fun (o, i) => coper P ops' false i o).drop (j + 1) := by
        rw [List.drop_eq_getElem_cons (by simp; omega)]
        congr 1
        simp
      rw [hd] at hA
      rw [List.range'_succ, wpOpsIn_cons]
      refine wpOpIn_mono ?_ (hA ops' false j ops'[j] (Post P G k μ Q) (by simp [hjl]) rfl μ' ro a w (hrd.mono hle) hR')
      rintro a' w' ⟨μ'', s', hA', hle', hR''⟩
      exact ih (j + 1) s' μ'' a' w' (by omega) (Mu.leB_trans hle hle') hR'' hA'
  have := key ops'.size 0 s μ a w (by omega) (Mu.leB_refl _ _) hR (by simpa using h)
  rwa [← List.range_eq_range'] at this

/-! ### Functions -/

def resVal (s : St) : ARes → Option AVal
  | .tmp t => some (tget s.ρ t)
  | .cell a (some n) => ldv s.H n (tget s.ρ a)
  | .cell _ none => none

def resVals (s : St) : List ARes → Option (List AVal)
  | [] => some []
  | r :: rs => match resVal s r, resVals s rs with | some v, some vs => some (v :: vs) | _, _ => none

def resOf (l : List ARes) (s : St) : Option AVal :=
  match resVals s l with
  | some [v] => some v
  | some vs => some (.tup vs)
  | none => none

/-- The marks' rows are taken. -/
def freed (H : Heap) : List Nat → Heap
  | [] => H
  | r :: rs => freed (H.set r none) rs

def RetPost (res : List ARes) (R : AVal → Heap → Prop) (e : Exit) (s : St) : Prop :=
  (e = .normal ∨ e = .ret) ∧ s.ms.Nodup ∧ ∃ v, resOf res { s with H := freed s.H s.ms } = some v ∧ R v (freed s.H s.ms)


/-- One result, as the program reads it. -/
def resOne (tmps : Array Value) : ResultVar → Sem Value
  | .tmp t => pure (tmps.getD t undef)
  | .cell q t => do loadVar t (← asAddr (tmps.getD q undef))

def cresOne (P : Program) : ResultVar → ARes
  | .tmp t => .tmp t
  | .cell a t => .cell a (lkind P t)

def cres (P : Program) (fn : Func) : List ARes := fn.results.toList.map (cresOne P)

theorem results_eq (fn : Func) (tmps : Array Value) : results fn tmps = (do let vs ← fn.results.mapM (resOne tmps); pure (if h : vs.size = 1 then vs[0] else .tuple vs)) := by
  unfold results
  congr 1

theorem resVals_run {μ : Mu} {a : Act} {w : World} (hT : TR G μ s.ρ a.tmps) (hH : HR P G μ s.H w) : ∀ (l : List ResultVar) (vs : List AVal), resVals s (l.map (cresOne P)) = some vs →
    ∃ cs, ((l.mapM (resOne a.tmps) : Sem (List Value)).run P w = .ok cs w) ∧ vs.length = cs.length ∧ ∀ i, i < vs.length → VR G μ (vs.getD i .any) (cs.getD i undef)
  | [], vs, h => by
    simp only [List.map_nil, resVals, Option.some.injEq] at h
    subst h
    exact ⟨[], by simp, rfl, fun i hi => by simp at hi⟩
  | r :: l, vs, h => by
    simp only [List.map_cons, resVals] at h
    split at h
    · rename_i v vs' hv hvs
      cases h
      obtain ⟨cs, h1, h2, h3⟩ := resVals_run hT hH l vs' hvs
      have hone : ∃ c, ((resOne a.tmps r).run P w = .ok c w) ∧ VR G μ v c := by
        cases r with
        | tmp t =>
          simp only [cresOne, resVal, tget_eq, Option.some.injEq] at hv
          subst hv
          exact ⟨_, by simp [resOne], hT.2 t⟩
        | cell q t =>
          simp only [cresOne] at hv
          cases hk : lkind P t with
          | none => rw [hk] at hv; simp [resVal] at hv
          | some kk =>
            rw [hk] at hv
            simp only [resVal, tget_eq] at hv
            obtain ⟨ad, cv, h4, h5, h6⟩ := ldv_run hH hk (hT.2 q) hv
            exact ⟨cv, by simp only [resOne, Sem.run_bind, h4, asAddr, Sem.run_pure, Result.andThen_ok, h5], h6⟩
      obtain ⟨c, hc1, hc2⟩ := hone
      refine ⟨c :: cs, ?_, by simp [h2], fun i hi => ?_⟩
      · rw [List.mapM_cons]
        simp only [Sem.run_bind, hc1, Result.andThen_ok, h1, Sem.run_pure]
      · cases i with
        | zero => exact hc2
        | succ i => simpa using h3 i (by simpa using hi)
    · cases h

theorem results_run {μ : Mu} {a : Act} {w : World} {fn : Func} {v : AVal} (hT : TR G μ s.ρ a.tmps) (hH : HR P G μ s.H w) (h : resOf (cres P fn) s = some v) :
    ∃ c, (results fn a.tmps).run P w = .ok c w ∧ VR G μ v c := by
  unfold resOf at h
  have hm : ∀ vs, resVals s (cres P fn) = some vs → ∃ cs : List Value, ((fn.results.mapM (resOne a.tmps) : Sem (Array Value)).run P w = .ok cs.toArray w) ∧ vs.length = cs.length ∧ ∀ i, i < vs.length → VR G μ (vs.getD i .any) (cs.getD i undef) := by
    intro vs hvs
    obtain ⟨cs, h1, h2, h3⟩ := resVals_run hT hH fn.results.toList vs hvs
    refine ⟨cs, ?_, h2, h3⟩
    rw [Array.mapM_eq_mapM_toList]
    simp only [Functor.map]
    rw [Sem.run_bind', h1]
    rfl
  split at h
  · rename_i v' hvs
    cases h
    obtain ⟨cs, h1, h2, h3⟩ := hm _ hvs
    match cs, h2 with
    | [c], _ =>
      refine ⟨c, ?_, by simpa using h3 0 (by simp)⟩
      rw [results_eq]
      simp only [Sem.run_bind, h1, Result.andThen_ok, Sem.run_pure]
      rfl
  · rename_i vs hne hvs
    cases h
    obtain ⟨cs, h1, h2, h3⟩ := hm _ hvs
    have hl : cs.length ≠ 1 := by
      intro hc
      match vs, (by omega : vs.length = 1) with
      | [x], _ => exact hne x rfl
    refine ⟨.tuple cs.toArray, ?_, .tup _ _ (by simpa using h2) fun i hi => ?_⟩
    · rw [results_eq]
      simp only [Sem.run_bind, h1, Result.andThen_ok, Sem.run_pure]
      rw [dif_neg (by simpa using hl)]
    · have := h3 i hi
      rw [Array.getD_eq_getD_getElem?]
      rw [List.getD_eq_getElem?_getD (l := cs)] at this
      simpa using this
  · cases h

theorem HR.free {μ : Mu} {H : Heap} {hp : World} {r : Nat} {p : Place} (h : HR P G μ H hp) (hr : H[r]? = some (some .dfr)) (hp1 : μ r = some p) (o : Obj) : HR P G μ (H.set r none) (hp.putObj p.blk o) := by
  have hne : ∀ s x, (H.set r none)[s]? = some (some x) → s ≠ r ∧ H[s]? = some (some x) := by
    intro s x hs
    by_cases hsr : r = s
    · subst hsr
      rw [List.getElem?_set_self (by obtain ⟨hlt, _⟩ := List.getElem?_eq_some_iff.1 hr; exact hlt)] at hs
      cases hs
    · rw [List.getElem?_set_ne hsr] at hs
      exact ⟨Ne.symm hsr, hs⟩
  have hblk : ∀ s x q, (H.set r none)[s]? = some (some x) → μ s = some q → q.blk ≠ p.blk := by
    intro s x q hs hq
    obtain ⟨h1, h2⟩ := hne s x hs
    exact h.apart s r x _ q p h2 hr hq hp1 h1
  obtain ⟨p0, e1, hk, e2, _⟩ := h.row r _ hr
  rw [hp1] at e1; cases e1
  constructor
  · intro s x hs
    obtain ⟨h1, h2⟩ := hne s x hs
    obtain ⟨q, h3, h4, h5, h6⟩ := h.row s x h2
    exact ⟨q, h3, h4, by simpa [World.putObj] using h5, h6.mono (Mu.le_refl _) (by show (hp.heap.setIfInBounds p.blk o)[q.blk]? = _; rw [Array.getElem?_setIfInBounds_ne (Ne.symm (hblk s x q hs h3))])⟩
  · intro s s' x x' q q' hs hs' hq hq' hn
    exact h.apart s s' x x' q q' (hne s x hs).2 (hne s' x' hs').2 hq hq' hn
  · intro b hb
    obtain ⟨h1, h2⟩ := h.kept b hb
    refine ⟨by simpa [World.putObj] using h1, ?_⟩
    show (hp.heap.setIfInBounds p.blk o)[b]? = _
    rw [Array.getElem?_setIfInBounds_ne (fun e => hk (by rw [e]; exact hb))]; exact h2
  · exact h.ro
  · exact h.calm

theorem leaves_free {μ : Mu} {fn : Func} {tmps : Array Value} {R : Ending → World → Prop} : ∀ (ms : List Nat) (H : Heap) (w : World), ms.Nodup → HR P G μ H w → (∀ r ∈ ms, H[r]? = some (some .dfr)) →
    (∀ w', HR P G μ (freed H ms) w' → ∃ v, (results fn tmps).run P w' = .ok v w' ∧ R (.returned v) w') →
    LeavesInM (Fw none) 0 P fn tmps R (ms.map fun r => { target := .collected (blkOf μ r), args := #[] }) .returning w
  | [], H, w, _, hH, _, h => h w hH
  | r :: ms, H, w, hnd, hH, hms, h => by
    obtain ⟨p, h1, _, _, h4⟩ := hH.row r _ (hms r (by simp))
    have hb : blkOf μ r = p.blk := by simp [blkOf, h1]
    simp only [List.map_cons, LeavesInM]
    refine ⟨by simp, .inl ⟨_, _, rfl, by rw [hb]; exact run_takeDeferred h4.2, ?_⟩⟩
    rw [List.nodup_cons] at hnd
    refine leaves_free ms (H.set r none) _ hnd.2 (hH.free (hms r (by simp)) h1 _) (fun q hq => ?_) h
    rw [List.getElem?_set_ne (fun e => hnd.1 (by rw [e]; exact hq))]
    exact hms q (by simp [hq])

theorem Dom.freed {μ : Mu} : ∀ (ms : List Nat) (H : Heap), Dom μ H → Dom μ (freed H ms)
  | [], _, h => h
  | r :: ms, H, h => Dom.freed ms _ fun q hq => by have := h q hq; simpa using this

/-- A function's contract, from its body. -/
theorem call_of_body {f : FuncId} {fn : Func} {c : Code} {args : List AVal} {H : Heap} {R : AVal → Heap → Prop} (hf : P.funcs[f]? = some fn) (hb : fn.body = some c) (hc : Callable P f = true)
    (h : Awp P G H.length none c (RetPost (cres P fn) R) { ρ := args ++ List.replicate (fn.ntmps - args.length) .any, H := H }) : CallW P G f args H R := by
  refine ⟨hc, fun μ cargs w hl hv hH hdom => ?_⟩
  refine callsIn_of_wp_marks hf hb (fw_fn _ _) ?_ rfl
  have hrel : Rel P G μ { ρ := args ++ List.replicate (fn.ntmps - args.length) .any, H := H } { tmps := cargs ++ Array.replicate (fn.ntmps - cargs.size) undef, defers := [] } w := by
    refine ⟨⟨by simp [hl], fun t => ?_⟩, hH, hdom, rfl, fun r hr => by simp at hr⟩
    rw [List.getD_eq_getElem?_getD, Array.getD_eq_getD_getElem?]
    by_cases ht : t < args.length
    · rw [List.getElem?_append_left ht, Array.getElem?_append_left (by omega)]
      have := hv t ht
      rwa [List.getD_eq_getElem?_getD, Array.getD_eq_getD_getElem?] at this
    · rw [List.getElem?_append_right (by omega)]
      have : (List.replicate (fn.ntmps - args.length) AVal.any)[t - args.length]?.getD .any = .any := by
        rw [List.getElem?_replicate]; split <;> rfl
      rw [this]; exact .any _
  refine wpIn_mono (h μ none _ w rfl hrel) ?_
  rintro e a w' ⟨μ', s', ⟨he, hnd, v, hv, hR⟩, hle, hR'⟩
  have hleave : LeavesInM (Fw none) 0 P fn a.tmps (CPost P G H.length μ R) a.defers .returning w' := by
    rw [hR'.mk']
    refine leaves_free s'.ms s'.H w' hnd hR'.hr hR'.mkr fun w'' hH'' => ?_
    obtain ⟨c, hc1, hc2⟩ := results_run (s := { s' with H := freed s'.H s'.ms }) hR'.tr hH'' hv
    exact ⟨c, hc1, v, c, μ', _, rfl, hR, hc2, hH'', hR'.dom.freed _ _, hle⟩
  rcases he with rfl | rfl <;> exact hleave
end
end Go.Sx
