/- A part of the proof: the abstract semantics. -/
import Derived.Test.YtmpocglkfgfpbaaSxD
set_option linter.unusedSimpArgs false
set_option linter.unusedVariables false
/- Regions whose order is drawn. -/
namespace Go.Sx
open Go

def unord (x : AOper) (j : Nat) (y : AOper) (m : Nat) : Prop := (m < j ∧ m ∈ x.free) ∨ (j < m ∧ j ∈ y.free)

instance (x : AOper) (j : Nat) (y : AOper) (m : Nat) : Decidable (unord x j y m) := by unfold unord; infer_instance

def guardTmps : Option (Nat × Bool) → List Nat
  | some (t, _) => [t]
  | none => []

def loose (l : List (AOper × Oc)) (x : AOper) (j : Nat) : List Nat := l.zipIdx.flatMap fun y => if unord x j y.1.1 y.2 then y.1.2.rows else []

def before (j : Nat) : Nat → Bool := fun m => decide (m < j)

def Heap.sub (H H' : Heap) : Prop := ∀ (r : Nat) (x : Row), H[r]? = some (some x) → H'[r]? = some (some x)

def DCall (P : Program) (g : FuncId) (args : List AVal) (Hm : Heap) (c : Oc) : Prop :=
  Callable P g = true ∧ ∀ G (H : Heap) μ (cargs : Array Value) w, Hm.sub H → (∀ r ∈ c.fs, μ r = none) → args.length = cargs.size → (∀ i, i < args.length → VR G μ (args.getD i .any) (cargs.getD i undef)) → HR P G μ H w →
    CallsIn (Fw none) 0 P g cargs w fun e w' => ∃ cv μ', e = .returned cv ∧ VR G μ' c.v cv ∧ HR P G μ' (H.puts c.Δ) w' ∧ μ.le μ' ∧ ∀ r, (μ' r).isSome = true → (μ r).isSome = true ∨ (r ∈ c.fs ∧ r < (H.puts c.Δ).length)

def CallAs (ρ : List AVal) (op : AOp) (g : FuncId) (args : List AVal) : Prop :=
  (∃ f xs ys cs, op = .call f xs ∧ opd ρ f = .fn (.func g) ys cs ∧ args = ys ++ xs.map (opd ρ) ++ cs) ∨
  (∃ tab f xs t v, op = .callM tab f xs ∧ opd ρ f = .iface t v ∧ tabAt tab t = some g ∧ args = v :: xs.map (opd ρ))
theorem CallAs.congr {ρ ρ' : List AVal} {op : AOp} {g : FuncId} {args : List AVal} (h : CallAs ρ op g args) (ht : ∀ t ∈ op.tmps, tget ρ' t = tget ρ t) : CallAs ρ' op g args := by
  rcases h with ⟨f, xs, ys, cs, rfl, h1, rfl⟩ | ⟨tab, f, xs, t, v, rfl, h1, h2, rfl⟩
  · simp only [AOp.tmps, List.mem_append, or_imp, forall_and] at ht
    exact .inl ⟨f, xs, ys, cs, rfl, by rw [opd_congr ht.1]; exact h1, by rw [opds_congr ht.2]⟩
  · simp only [AOp.tmps, List.mem_append, or_imp, forall_and] at ht
    exact .inr ⟨tab, f, xs, t, v, rfl, by rw [opd_congr ht.1]; exact h1, h2, by rw [opds_congr ht.2]⟩

structure Chk (P : Program) (s : St) (l : List (AOper × Oc)) (j : Nat) (x : AOper × Oc) : Prop where
  free : j ∉ x.1.free
  apart : ∀ m y, l[m]? = some y → unord x.1 j y.1 m → (∀ t, y.1.dst = some t → t ∉ x.1.op.tmps ∧ t ∉ guardTmps x.1.guard ∧ x.1.dst ≠ some t) ∧ ∀ r ∈ x.2.rows, r ∉ y.2.rows
  old : ∀ r ∈ x.2.fs, s.H.length ≤ r
  own : ∀ m y, l[m]? = some y → m ≠ j → ∀ r ∈ x.2.fs, r ∉ y.2.fs
  does : (gval (rAfter l 0 (before j) s.ρ) x.1.guard = some false ∧ x.2.v = .tup [] ∧ x.2.Δ = []) ∨
    (gval (rAfter l 0 (before j) s.ρ) x.1.guard = some true ∧ ∃ n, aev x.1.op (rAfter l 0 (before j) s.ρ) ((hAfter l 0 (before j) s.H).mask (loose l x.1 j)) n = some (x.2.v, x.2.Δ) ∧ (n ∈ x.2.Δ.map (·.1) → n ∈ x.2.fs)) ∨
    (gval (rAfter l 0 (before j) s.ρ) x.1.guard = some true ∧ (∀ q ∈ s.ms, q ∉ x.2.rows) ∧ ∃ g xs, CallAs (rAfter l 0 (before j) s.ρ) x.1.op g xs ∧ DCall P g xs ((hAfter l 0 (before j) s.H).mask (loose l x.1 j)) x.2)

theorem mem_loose {l : List (AOper × Oc)} {x : AOper} {j m r : Nat} {y : AOper × Oc} (hy : l[m]? = some y) (hu : unord x j y.1 m) (hr : r ∈ y.2.rows) : r ∈ loose l x j := by
  unfold loose
  refine List.mem_flatMap.2 ⟨(y, m), ?_, ?_⟩
  · rw [List.mem_iff_getElem?]
    exact ⟨m, by rw [List.getElem?_zipIdx, hy]; simp⟩
  · simp only [if_pos hu]; exact hr

section
variable {P : Program} {G : Ctx} {k : Nat} {rd : Option Nat} {s : St}

def Closed (ops : Array Oper) (D : Nat → Bool) : Prop := ∀ i m, D i = true → m ∈ (closures ops.toList).getD i [] → D m = true

variable {ops : Array Oper} {l : List (AOper × Oc)}

theorem unord_of {D : Nat → Bool} {lo : Nat} (hl : ∀ j x, lo ≤ j → l[j]? = some x → ∃ o, ops[j]? = some o ∧ coper P ops true j o = x.1) (hc : Closed ops D) {j m : Nat} {x y : AOper × Oc} (hx : l[j]? = some x) (hy : l[m]? = some y) (hloj : lo ≤ j) (hlom : lo ≤ m)
    (hfx : j ∉ x.1.free) (hfy : m ∉ y.1.free) (hDj : D j = false) (hpre : ∀ i ∈ (closures ops.toList).getD j [], D i = true) (hne : m ≠ j) (hd : D m ≠ before j m) : unord x.1 j y.1 m := by
  have frees : ∀ {i : Nat} {z : AOper × Oc}, lo ≤ i → l[i]? = some z → i ∉ z.1.free → z.1.free = (List.range i).filter fun q => !((closures ops.toList).getD i []).contains q := by
    intro i z hi hz hf
    obtain ⟨o, ho, h1⟩ := hl i z hi hz
    rw [← h1] at hf ⊢
    simp only [coper, if_true] at hf ⊢
    split at hf
    · rename_i he; rw [if_pos he]
    · simp at hf
  unfold before at hd
  by_cases hlt : m < j
  · left
    refine ⟨hlt, ?_⟩
    rw [frees hloj hx hfx]
    simp only [hlt, decide_true] at hd
    simp only [List.mem_filter, List.mem_range, hlt, true_and, Bool.not_eq_true', List.contains_eq_mem, decide_eq_false_iff_not]
    exact fun hm => hd (hpre m hm)
  · right
    have hgt : j < m := by omega
    refine ⟨hgt, ?_⟩
    rw [frees hlom hy hfy]
    simp only [hlt, decide_false] at hd
    have hD : D m = true := by cases h : D m with | true => rfl | false => exact absurd h hd
    simp only [List.mem_filter, List.mem_range, hgt, true_and, Bool.not_eq_true', List.contains_eq_mem, decide_eq_false_iff_not]
    intro hm
    have := hc m j hD hm
    rw [hDj] at this; cases this

theorem gval_congr {ρ ρ' : List AVal} {g : Option (Nat × Bool)} (h : ∀ t ∈ guardTmps g, tget ρ' t = tget ρ t) : gval ρ' g = gval ρ g := by
  cases g with
  | none => rfl
  | some p => obtain ⟨t, b⟩ := p; simp only [gval, h t (by simp [guardTmps])]

theorem op_dcall {draw : Bool} {ao : AOper} {i : Nat} {o : Oper} {Q : Exit → Act → World → Prop} {μ : Mu} {ro : Option Nat} {a : Act} {w : World} {f : AOpd} {xs : List AOpd} {g : FuncId} {fs cs : List AVal} {Hm : Heap} {c : Oc}
    (hi : ops[i]? = some o) (hcc : coper P ops draw i o = ao) (hg : gval s.ρ ao.guard = some true) (hms : ∀ q ∈ s.ms, q ∉ c.rows) (ho : ao.op = .call f xs) (hf : opd s.ρ f = .fn (.func g) fs cs)
    (hc : DCall P g (fs ++ xs.map (opd s.ρ) ++ cs) Hm c) (hsub : Hm.sub s.H) (hn : ∀ r ∈ c.fs, μ r = none) (h : Rel P G μ s a w) :
    wpOpIn (Fw ro) 0 P ops Q i (fun a' w' => ∃ μ', Rel P G μ' ⟨setD s.ρ ao.dst c.v, s.H.puts c.Δ, s.ms⟩ a' w' ∧ μ.le μ' ∧ ∀ r, (μ' r).isSome = true → (μ r).isSome = true ∨ r ∈ c.fs) a w := by
  have hnb : ao.op ≠ .bad := by rw [ho]; simp
  obtain ⟨h1, h2, h3⟩ := coper_parts hcc hnb
  have hw := wanted_of h.tr ops o h1 hg
  simp only [wpOpIn, hi, if_pos hw]
  rw [ho] at h2
  obtain ⟨cc, x, hoc, hcal, hfx, hxs⟩ := cop_call h2
  have hx := opd_sound h.hr.glob h.tr x
  rw [hfx, hf] at hx
  obtain ⟨cf, hcf⟩ : ∃ cf, a.eval x = cf := ⟨_, rfl⟩
  rw [hcf] at hx
  cases hx with
  | fn _ _ _ a' b' ha hb va vb =>
    have hnd : ∀ c', o.op ≠ .defer c' := by intro c' hd; rw [hoc] at hd; cases hd
    have hrun : (execOp a.eval o).run P w = .ok (.enter g (a' ++ cc.args.map a.eval ++ b')) w := by
      simp [execOp, hoc, resolve, hcal, hcf, Deferred.ofValue, invoke, run_callFunc hc.1]
    unfold Oper.wpIn
    refine ⟨fun _ _ => trivial, ?_⟩
    rw [Oper.semAt_eq _ _ _ hnd, hrun]
    refine ⟨fun hd => by simp [Fw, Fence.wide] at hd, ?_⟩
    have hlen : xs.length = cc.args.size := by rw [← hxs]; simp
    have := hc.2 G s.H μ (a' ++ cc.args.map a.eval ++ b') w hsub hn (by simp [ha, hb, hlen]) (fun j hj => ?_) h.hr
    · refine (callsIn_fw (ro' := ro) this).mono ?_
      rintro e w' ⟨cv, μ', rfl, hv, hH, hle, hdom⟩
      refine ⟨μ', ?_, hle, fun r hr => (hdom r hr).imp id (·.1)⟩
      rw [← h3]
      refine ⟨(h.tr.mono hle).put hv _, hH, fun r hr => ?_, ?_, fun r hr => ?_⟩
      · have hl := Heap.le_puts c.Δ s.H
        rcases hdom r hr with h5 | ⟨_, h5⟩
        · have := h.dom r h5; simp only; omega
        · exact h5
      · rw [put_defers, h.mk']; exact (h.same_marks hle).symm
      · exact (Same.off c.Δ (hms r hr) _).2 (h.mkr r hr)
    · rw [List.getD_eq_getElem?_getD, Array.getD_eq_getD_getElem?]
      by_cases hj1 : j < fs.length
      · rw [List.append_assoc, List.getElem?_append_left hj1, Array.append_assoc, Array.getElem?_append_left (by omega)]
        have := va j hj1
        rwa [List.getD_eq_getElem?_getD, Array.getD_eq_getD_getElem?] at this
      · by_cases hj2 : j < fs.length + xs.length
        · rw [List.append_assoc, List.getElem?_append_right (by omega), List.getElem?_append_left (by simp; omega), Array.append_assoc, Array.getElem?_append_right (by omega), Array.getElem?_append_left (by simp; omega)]
          subst hxs
          have hjx : j - fs.length < cc.args.size := by simp at hj2; omega
          simp only [List.map_map, List.getElem?_map, Array.getElem?_map, ← ha, Array.getElem?_toList]
          simp [hjx]
          exact opd_sound h.hr.glob h.tr _
        · rw [List.getElem?_append_right (by simp; omega), Array.getElem?_append_right (by simp; omega)]
          have := vb (j - fs.length - xs.length) (by simp at hj; omega)
          rw [List.getD_eq_getElem?_getD, Array.getD_eq_getD_getElem?] at this
          have e1 : j - (fs ++ xs.map (opd s.ρ)).length = j - fs.length - xs.length := by simp; omega
          have e2 : j - (a' ++ cc.args.map a.eval).size = j - fs.length - xs.length := by simp; omega
          rw [e1, e2]; exact this

theorem op_dcallM {draw : Bool} {ao : AOper} {i : Nat} {o : Oper} {Q : Exit → Act → World → Prop} {μ : Mu} {ro : Option Nat} {a : Act} {w : World} {tab : List (Nat × Nat)} {f : AOpd} {xs : List AOpd} {g : FuncId} {t : TypeId} {v : AVal} {Hm : Heap} {c : Oc}
    (hi : ops[i]? = some o) (hcc : coper P ops draw i o = ao) (hg : gval s.ρ ao.guard = some true) (hms : ∀ q ∈ s.ms, q ∉ c.rows) (ho : ao.op = .callM tab f xs) (hf : opd s.ρ f = .iface t v) (ht : tabAt tab t = some g)
    (hc : DCall P g (v :: xs.map (opd s.ρ)) Hm c) (hsub : Hm.sub s.H) (hn : ∀ r ∈ c.fs, μ r = none) (h : Rel P G μ s a w) :
    wpOpIn (Fw ro) 0 P ops Q i (fun a' w' => ∃ μ', Rel P G μ' ⟨setD s.ρ ao.dst c.v, s.H.puts c.Δ, s.ms⟩ a' w' ∧ μ.le μ' ∧ ∀ r, (μ' r).isSome = true → (μ r).isSome = true ∨ r ∈ c.fs) a w := by
  have hnb : ao.op ≠ .bad := by rw [ho]; simp
  obtain ⟨h1, h2, h3⟩ := coper_parts hcc hnb
  have hw := wanted_of h.tr ops o h1 hg
  simp only [wpOpIn, hi, if_pos hw]
  rw [ho] at h2
  obtain ⟨cc, x, name, hoc, hcal, htab, hfx, hxs⟩ := cop_callM h2
  subst htab
  have hm := methTab_at ht
  have hx := opd_sound h.hr.glob h.tr x
  rw [hfx, hf] at hx
  obtain ⟨cf, hcf⟩ : ∃ cf, a.eval x = cf := ⟨_, rfl⟩
  rw [hcf] at hx
  cases hx with
  | iface _ _ cv hvv =>
    have hnd : ∀ c', o.op ≠ .defer c' := by intro c' hd; rw [hoc] at hd; cases hd
    have hrun : (execOp a.eval o).run P w = .ok (.enter g (#[cv] ++ cc.args.map a.eval)) w := by
      have hmr := run_method hm (P.types.size + Made.depth - 1) cv w
      have hd : P.types.size + Made.depth - 1 + 1 = P.types.size + Made.depth := by have : Made.depth = Made.depth := rfl; unfold Made.depth; omega
      rw [hd] at hmr
      have e0 : (#[Value.iface t cv] ++ cc.args.map a.eval)[0]? = some (.iface t cv) := by rw [Array.getElem?_append_left (by simp)]; rfl
      have e1 : (cc.args.map a.eval).extract 0 cc.args.size = cc.args.map a.eval := by simp
      simp [execOp, hoc, resolve, hcal, hcf, Deferred.ofValue, invoke, callMethod]
      rw [e0]
      simp [e1, hmr, Result.andThen, run_callFunc hc.1]
    unfold Oper.wpIn
    refine ⟨fun _ _ => trivial, ?_⟩
    rw [Oper.semAt_eq _ _ _ hnd, hrun]
    refine ⟨fun hd => by simp [Fw, Fence.wide] at hd, ?_⟩
    have hlen : xs.length = cc.args.size := by rw [← hxs]; simp
    have := hc.2 G s.H μ (#[cv] ++ cc.args.map a.eval) w hsub hn (by simp [hlen]; omega) (fun j hj => ?_) h.hr
    · refine (callsIn_fw (ro' := ro) this).mono ?_
      rintro e w' ⟨cv, μ', rfl, hv, hH, hle, hdom⟩
      refine ⟨μ', ?_, hle, fun r hr => (hdom r hr).imp id (·.1)⟩
      rw [← h3]
      refine ⟨(h.tr.mono hle).put hv _, hH, fun r hr => ?_, ?_, fun r hr => ?_⟩
      · have hl := Heap.le_puts c.Δ s.H
        rcases hdom r hr with h5 | ⟨_, h5⟩
        · have := h.dom r h5; simp only; omega
        · exact h5
      · rw [put_defers, h.mk']; exact (h.same_marks hle).symm
      · exact (Same.off c.Δ (hms r hr) _).2 (h.mkr r hr)
    · rw [List.getD_eq_getElem?_getD, Array.getD_eq_getD_getElem?]
      cases j with
      | zero =>
        have e : (#[cv] ++ cc.args.map a.eval)[0]? = some cv := by rw [Array.getElem?_append_left (by simp)]; rfl
        rw [e]; exact hvv
      | succ j =>
        subst hxs
        have hjx : j < cc.args.size := by simp at hj; omega
        rw [List.getElem?_cons_succ, Array.getElem?_append_right (by simp)]
        simp only [List.map_map, List.getElem?_map, Array.getElem?_map, Array.getElem?_toList]
        simp [hjx]
        exact opd_sound h.hr.glob h.tr _
theorem op_dcallA {draw : Bool} {ao : AOper} {i : Nat} {o : Oper} {Q : Exit → Act → World → Prop} {μ : Mu} {ro : Option Nat} {a : Act} {w : World} {g : FuncId} {args : List AVal} {Hm : Heap} {c : Oc}
    (hi : ops[i]? = some o) (hcc : coper P ops draw i o = ao) (hg : gval s.ρ ao.guard = some true) (hms : ∀ q ∈ s.ms, q ∉ c.rows) (ha : CallAs s.ρ ao.op g args)
    (hc : DCall P g args Hm c) (hsub : Hm.sub s.H) (hn : ∀ r ∈ c.fs, μ r = none) (h : Rel P G μ s a w) :
    wpOpIn (Fw ro) 0 P ops Q i (fun a' w' => ∃ μ', Rel P G μ' ⟨setD s.ρ ao.dst c.v, s.H.puts c.Δ, s.ms⟩ a' w' ∧ μ.le μ' ∧ ∀ r, (μ' r).isSome = true → (μ r).isSome = true ∨ r ∈ c.fs) a w := by
  rcases ha with ⟨f, xs, ys, cs, h1, h2, rfl⟩ | ⟨tab, f, xs, t, v, h1, h2, h3, rfl⟩
  · exact op_dcall hi hcc hg hms h1 h2 hc hsub hn h
  · exact op_dcallM hi hcc hg hms h1 h2 h3 hc hsub hn h

theorem op_dc {ao : AOper} {K : St → Prop} {f : AOpd} {xs : List AOpd} {g : FuncId} {fs cs : List AVal} {c : Oc} (hg : gval s.ρ ao.guard = some true) (hms : ∀ q ∈ s.ms, q ∉ c.rows) (ho : ao.op = .call f xs)
    (hf : opd s.ρ f = .fn (.func g) fs cs) (hc : DCall P g (fs ++ xs.map (opd s.ρ) ++ cs) s.H c) (hfs : ∀ r ∈ c.fs, s.H.length ≤ r) (hK : K ⟨setD s.ρ ao.dst c.v, s.H.puts c.Δ, s.ms⟩) : OpA P G k rd ao s K := by
  intro ops draw i o Q hi hcc μ ro a w hrd hR
  refine wpOpIn_mono ?_ (op_dcall hi hcc hg hms ho hf hc (fun _ _ h => h) (fun r hr => ?_) hR)
  · rintro a' w' ⟨μ', h1, h2, _⟩
    exact ⟨μ', _, hK, Mu.leB_of h2, h1⟩
  · cases h : μ r with
    | none => rfl
    | some p => have := hR.dom r (by rw [h]; rfl); have := hfs r hr; omega

theorem draw_step {D : Nat → Bool} {lo : Nat} (hl : ∀ j x, lo ≤ j → l[j]? = some x → ∃ o, ops[j]? = some o ∧ coper P ops true j o = x.1) (hchk : ∀ j x, lo ≤ j → l[j]? = some x → Chk P s l j x) (hD0 : ∀ m, m < lo → D m = true) (hc : Closed ops D) {j : Nat} {x : AOper × Oc} (hloj : lo ≤ j) (hx : l[j]? = some x)
    (hDj : D j = false) (hpre : ∀ i ∈ (closures ops.toList).getD j [], D i = true) {Q : Exit → Act → World → Prop} {μ : Mu} {ro : Option Nat} {a : Act} {w : World}
    (hR : Rel P G μ ⟨rAfter l 0 D s.ρ, hAfter l 0 D s.H, s.ms⟩ a w) (hn : ∀ r ∈ x.2.fs, μ r = none) :
    wpOpIn (Fw ro) 0 P ops Q j (fun a' w' => ∃ μ', Rel P G μ' ⟨rAfter l 0 (upd D j) s.ρ, hAfter l 0 (upd D j) s.H, s.ms⟩ a' w' ∧ μ.le μ' ∧ ∀ r, (μ' r).isSome = true → (μ r).isSome = true ∨ r ∈ x.2.fs) a w := by
  have hk := hchk j x hloj hx
  have hun : ∀ m y, l[m]? = some y → D m ≠ before j m → unord x.1 j y.1 m := fun m y hy hd => by
    have hlom : lo ≤ m := by
      refine Decidable.byContradiction fun h => hd ?_
      rw [hD0 m (by omega)]
      have : m < j := by omega
      simp [before, this]
    refine unord_of hl hc hx hy hloj hlom hk.free (hchk m y hlom hy).free hDj hpre ?_ hd
    rintro rfl
    exact hd (by rw [hDj]; simp [before])
  have ht : ∀ t, t ∈ x.1.op.tmps ∨ t ∈ guardTmps x.1.guard → tget (rAfter l 0 D s.ρ) t = tget (rAfter l 0 (before j) s.ρ) t := fun t ht => by
    refine rAfter_tget t l 0 D (before j) _ _ rfl rfl fun m y hy hyd => ?_
    simp only [Nat.zero_add]
    refine Decidable.byContradiction fun hd => ?_
    have := (hk.apart m y hy (hun m y hy hd)).1 t hyd
    rcases ht with ht | ht
    · exact this.1 ht
    · exact this.2.1 ht
  have hsame : ∀ r, r ∉ loose l x.1 j → Same r (hAfter l 0 (before j) s.H) (hAfter l 0 D s.H) := by
    refine fun r hr => hAfter_same r l 0 _ _ _ _ (Same.refl _ _) fun m y hy hyr => ?_
    simp only [Nat.zero_add]
    refine Decidable.byContradiction fun hd => hr (mem_loose hy (hun m y hy (Ne.symm hd)) hyr)
  have hle : ((hAfter l 0 (before j) s.H).mask (loose l x.1 j)).le (hAfter l 0 D s.H) := mask_le hsame
  have hsub : ((hAfter l 0 (before j) s.H).mask (loose l x.1 j)).sub (hAfter l 0 D s.H) := fun r y hy => by
    rw [mask_get] at hy
    exact (hsame r hy.1 y).1 hy.2
  have hg : gval (rAfter l 0 D s.ρ) x.1.guard = gval (rAfter l 0 (before j) s.ρ) x.1.guard := gval_congr fun t h => ht t (.inr h)
  have late : ∀ m y, l[m]? = some y → j < m → D (0 + m) = true → unord x.1 j y.1 m := fun m y hy hjm hd => hun m y hy (by
    rw [Nat.zero_add] at hd
    have h2 : before j m = false := by simp [before]; omega
    rw [hd, h2]; simp)
  have e1 : rAfter l 0 (upd D j) s.ρ = setD (rAfter l 0 D s.ρ) x.1.dst x.2.v := by
    have := rAfter_add l 0 j D s.ρ hx (by rw [Nat.zero_add]; exact hDj) fun m y t hy hjm hd hxt hyt => ((hk.apart m y hy (late m y hy hjm hd)).1 t hyt).2.2 hxt
    rwa [Nat.zero_add] at this
  have e2 : hAfter l 0 (upd D j) s.H = (hAfter l 0 D s.H).puts x.2.Δ := by
    have := hAfter_add l 0 j D s.H hx (by rw [Nat.zero_add]; exact hDj) fun m y hy hjm hd => (hk.apart m y hy (late m y hy hjm hd)).2
    rwa [Nat.zero_add] at this
  obtain ⟨o, ho, hco⟩ := hl j x hloj hx
  rw [e1, e2]
  rcases hk.does with ⟨h1, h2, h3⟩ | ⟨h1, n, h2, h2'⟩ | ⟨h1, h2, g, xs, h3, h5⟩
  · rw [h2, h3]
    refine wpOpIn_mono (fun a' w' h => ⟨μ, h, Mu.le_refl _, fun r hr => .inl hr⟩) (op_off (s := ⟨rAfter l 0 D s.ρ, hAfter l 0 D s.H, s.ms⟩) ho hco (by rw [hg]; exact h1) hR)
  · have he := aev_mono hle (mask_leM hsame) (by rw [aev_congr fun t h => ht t (.inl h)]; exact h2)
    by_cases hnd : n ∈ x.2.Δ.map (·.1)
    · exact wpOpIn_mono (fun a' w' ⟨μ', k1, k2, k3⟩ => ⟨μ', k1, k2, fun r hr => by
        rcases k3 r hr with h | ⟨rfl, _⟩
        · exact .inl h
        · exact .inr (h2' hnd)⟩) (op_at (s := ⟨rAfter l 0 D s.ρ, hAfter l 0 D s.H, s.ms⟩) ho hco (by rw [hg]; exact h1) he (hn n (h2' hnd)) hR)
    · have he' := aev_free (n' := max (hAfter l 0 D s.H).length ((hAfter l 0 D s.H).puts x.2.Δ).length) he hnd
      exact wpOpIn_mono (fun a' w' ⟨μ', k1, k2, k3⟩ => ⟨μ', k1, k2, fun r hr => by
        rcases k3 r hr with h | ⟨rfl, h⟩
        · exact .inl h
        · exact absurd h (by dsimp only; omega)⟩) (op_at (s := ⟨rAfter l 0 D s.ρ, hAfter l 0 D s.H, s.ms⟩) ho hco (by rw [hg]; exact h1) he' (by
          cases hq : μ (max (hAfter l 0 D s.H).length ((hAfter l 0 D s.H).puts x.2.Δ).length) with
          | none => rfl
          | some p => have := hR.dom _ (by rw [hq]; rfl); simp only at this; omega) hR)
  · exact op_dcallA (s := ⟨rAfter l 0 D s.ρ, hAfter l 0 D s.H, s.ms⟩) ho hco (by rw [hg]; exact h1) h2 (h3.congr fun t h => ht t (.inl h)) h5 hsub hn hR

def gone : AOper × Oc := (⟨none, .bad, none, []⟩, ⟨.any, [], []⟩)

theorem rAfter_upto (l : List (AOper × Oc)) : ∀ (i : Nat) (D D' : Nat → Bool) (ρ : List AVal), (∀ m, m < l.length → D (i + m) = D' (i + m)) → rAfter l i D ρ = rAfter l i D' ρ := by
  induction l with
  | nil => intros; rfl
  | cons x l ih =>
    intro i D D' ρ h
    have h0 := h 0 (by simp)
    simp only [Nat.add_zero] at h0
    simp only [rAfter, h0]
    exact ih _ _ _ _ fun j hj => by have := h (j + 1) (by simp; omega); rwa [show i + (j + 1) = i + 1 + j by omega] at this
theorem hAfter_upto (l : List (AOper × Oc)) : ∀ (i : Nat) (D D' : Nat → Bool) (H : Heap), (∀ m, m < l.length → D (i + m) = D' (i + m)) → hAfter l i D H = hAfter l i D' H := by
  induction l with
  | nil => intros; rfl
  | cons x l ih =>
    intro i D D' H h
    have h0 := h 0 (by simp)
    simp only [Nat.add_zero] at h0
    simp only [hAfter, h0]
    exact ih _ _ _ _ fun j hj => by have := h (j + 1) (by simp; omega); rwa [show i + (j + 1) = i + 1 + j by omega] at this
theorem rAfter_gone (l : List (AOper × Oc)) : ∀ (i : Nat) (D : Nat → Bool) (ρ : List AVal), (∀ j x, l[j]? = some x → D (i + j) = false ∨ x = gone) → rAfter l i D ρ = ρ := by
  induction l with
  | nil => intros; rfl
  | cons x l ih =>
    intro i D ρ h
    have e : (if D i = true then setD ρ x.1.dst x.2.v else ρ) = ρ := by
      rcases h 0 x (by simp) with h | h
      · simp only [Nat.add_zero] at h; simp [h]
      · subst h; simp [gone, setD]
    simp only [rAfter, e]
    exact ih _ _ _ fun j y hy => by have := h (j + 1) y (by simpa using hy); rwa [show i + (j + 1) = i + 1 + j by omega] at this
theorem hAfter_gone (l : List (AOper × Oc)) : ∀ (i : Nat) (D : Nat → Bool) (H : Heap), (∀ j x, l[j]? = some x → D (i + j) = false ∨ x = gone) → hAfter l i D H = H := by
  induction l with
  | nil => intros; rfl
  | cons x l ih =>
    intro i D H h
    have e : (if D i = true then H.puts x.2.Δ else H) = H := by
      rcases h 0 x (by simp) with h | h
      · simp only [Nat.add_zero] at h; simp [h]
      · subst h; simp [gone, Heap.puts]
    simp only [hAfter, e]
    exact ih _ _ _ fun j y hy => by have := h (j + 1) y (by simpa using hy); rwa [show i + (j + 1) = i + 1 + j by omega] at this

def DR (P : Program) (G : Ctx) (k : Nat) (rd : Option Nat) (ops : Array Oper) (lo : Nat) (s : St) (K : St → Prop) : Prop :=
  ∀ μ ro a w (L : Array Bool) (fuel : Nat) (Q : Exit → Act → World → Prop), RdOK k μ rd ro → Rel P G μ s a w → L.size = ops.size → (∀ m, m < ops.size → L.getD m true = decide (m < lo)) → L.toList.count false ≤ fuel →
    (∀ μ' s' a' w', K s' → Mu.leB k μ μ' → Rel P G μ' s' a' w' → Q .normal a' w') → wpAnyIn (Fw ro) 0 P .any ops Q fuel L a w

def Upward (ops : Array Oper) : Prop := ∀ (j : Nat) (o : Oper), ops[j]? = some o → edgesOk j o = true

theorem closures_lt (hu : Upward ops) : ∀ (i m : Nat), m ∈ (closures ops.toList).getD i [] → m < i := by
  intro i
  induction i using Nat.strongRecOn with
  | ind i ih =>
    intro m hm
    by_cases hi : i < ops.size
    · obtain ⟨e, he1, he2, he3⟩ := mem_closures (l := ops.toList) (j := i) (o := ops[i]) (by simp [hi]) hm
      have hlt : e.on < i := by
        have := List.all_eq_true.1 (hu i ops[i] (by simp [hi])) e (List.mem_filter.2 ⟨he1, he2⟩)
        simpa using this
      rcases he3 with rfl | he3
      · exact hlt
      · have := ih e.on hlt m he3; omega
    · rw [List.getD_eq_getElem?_getD, List.getElem?_eq_none (by rw [closures_len]; simp; omega)] at hm
      simp at hm

theorem lt_closed (hu : Upward ops) (lo : Nat) {D : Nat → Bool} (hD : ∀ m, m < ops.size → D m = decide (m < lo)) (hD' : ∀ m, ops.size ≤ m → D m = true) : Closed ops D := by
  intro i m hi hm
  have hlt := closures_lt hu i m hm
  by_cases hs : i < ops.size
  · rw [hD i hs] at hi
    rw [hD m (by omega)]
    simp at hi ⊢; omega
  · rw [List.getD_eq_getElem?_getD, List.getElem?_eq_none (by rw [closures_len]; simp; omega)] at hm
    simp at hm

theorem getD_big {L : Array Bool} {m : Nat} (h : L.size ≤ m) : L.getD m true = true := by simp [Array.getD, Nat.not_lt.2 h]

theorem upd_getD {L : Array Bool} {j : Nat} (hj : j < L.size) : (fun m => (L.setIfInBounds j true).getD m true) = upd (fun m => L.getD m true) j := by
  funext m
  unfold upd
  by_cases hmj : m = j
  · subst hmj
    rw [if_pos rfl]
    simp [Array.getD, hj]
  · rw [if_neg hmj]
    by_cases hs : m < L.size
    · simp [Array.getD, hs, Array.getElem_setIfInBounds, Ne.symm hmj]
    · simp [Array.getD, hs]

theorem count_upd {L : Array Bool} {j n : Nat} (hj : j < L.size) (h0 : L.getD j true = false) (h : L.toList.count false ≤ n + 1) : (L.setIfInBounds j true).toList.count false ≤ n := by
  have hjl : j < L.toList.length := by simpa using hj
  have h0 : L.toList[j] = false := by
    simp [Array.getD, hj] at h0
    simpa using h0
  have h1 : (L.toList.set j true).count false = L.toList.count false - 1 := by rw [List.count_set hjl, h0]; simp
  have h2 : 0 < L.toList.count false := List.count_pos_iff.2 (by rw [← h0]; exact List.getElem_mem hjl)
  rw [Array.toList_setIfInBounds, h1]
  omega

theorem first_ready (hu : Upward ops) {L : Array Bool} {j : Nat} (hsz : L.size = ops.size) (hj : L.getD j true = false) (hb : ∀ m, m < j → L.getD m true = true) : j ∈ Region.ready .any ops L := by
  have hjs : j < ops.size := by
    rw [← hsz]
    refine Decidable.byContradiction fun h => ?_
    rw [getD_big (by omega)] at hj; cases hj
  unfold Region.ready
  rw [List.mem_filter]
  refine ⟨List.mem_range.2 hjs, ?_⟩
  rw [hj, Array.getElem?_eq_getElem hjs]
  simp only [Bool.not_false, Bool.true_and, Option.map_some, Option.getD_some, Array.all_eq_true_iff_forall_mem, Bool.or_eq_true, Bool.not_eq_true']
  intro e hem
  by_cases hbd : Region.binds .any e = true
  · right
    have hlt : e.on < j := by
      have := List.all_eq_true.1 (hu j ops[j] (by simp [hjs])) e (List.mem_filter.2 ⟨by simpa using hem, hbd⟩)
      simpa using this
    have h3 := hb e.on hlt
    have hs : e.on < L.size := by omega
    simp [Array.getD, hs] at h3 ⊢
    exact h3
  · left; simpa using hbd

theorem ready_pre {L : Array Bool} {j : Nat} (hsz : L.size = ops.size) (hcl : Closed ops fun m => L.getD m true) (hj : j ∈ Region.ready .any ops L) :
    j < ops.size ∧ L.getD j true = false ∧ ∀ i ∈ (closures ops.toList).getD j [], L.getD i true = true := by
  unfold Region.ready at hj
  rw [List.mem_filter] at hj
  obtain ⟨hjs, hj2⟩ := hj
  have hjs := List.mem_range.1 hjs
  rw [Array.getElem?_eq_getElem hjs] at hj2
  simp only [Option.map_some, Option.getD_some, Bool.and_eq_true, Bool.not_eq_true', Array.all_eq_true_iff_forall_mem, Bool.or_eq_true] at hj2
  obtain ⟨hDj, hedges⟩ := hj2
  have hon : ∀ e ∈ ops[j].after.toList, Region.binds .any e = true → L.getD e.on true = true := by
    intro e hem hb
    rcases hedges e (by simpa using hem) with h | h
    · rw [hb] at h; cases h
    · by_cases hs : e.on < L.size
      · simp [Array.getD, hs] at h ⊢; exact h
      · simp [Array.getD, hs]
  refine ⟨hjs, hDj, fun i hi => ?_⟩
  obtain ⟨e, he1, he2, he3⟩ := mem_closures (l := ops.toList) (j := j) (o := ops[j]) (by simp [hjs]) hi
  rcases he3 with rfl | he3
  · exact hon e he1 he2
  · exact hcl e.on i (hon e he1 he2) he3

theorem dr_end {lo : Nat} {K : St → Prop} (hlo : ops.size ≤ lo) (h : K s) : DR P G k rd ops lo s K := by
  intro μ ro a w L fuel Q _ hR hsz hL _ hQ
  refine wpAnyIn_done ?_ (hQ μ s a w h (Mu.leB_refl _ _) hR) fuel
  unfold Region.ready
  rw [List.filter_eq_nil_iff]
  intro i hi
  have := hL i (List.mem_range.1 hi)
  rw [this]
  simp; intro h; have := List.mem_range.1 hi; omega

theorem dr_bar (hu : Upward ops) {lo : Nat} {o : Oper} {K : St → Prop} (ho : ops[lo]? = some o) (hafter : ∀ m, lo < m → m < ops.size → lo ∈ (closures ops.toList).getD m [])
    (h : OpA P G k rd (coper P ops true lo o) s fun s' => DR P G k rd ops (lo + 1) s' K) : DR P G k rd ops lo s K := by
  intro μ ro a w L fuel Q hrd hR hsz hL hcnt hQ
  have hlo : lo < ops.size := (Array.getElem?_eq_some_iff.1 ho).1
  have h0 : L.getD lo true = false := by rw [hL lo hlo]; simp
  have hcl : Closed ops fun m => L.getD m true := lt_closed hu lo hL fun m hm => getD_big (by omega)
  have hone : ∀ j ∈ Region.ready .any ops L, j = lo := by
    intro j hj
    obtain ⟨h1, h2, h3⟩ := ready_pre hsz hcl hj
    rw [hL j h1] at h2
    have h2 : lo ≤ j := by simpa using h2
    rcases Nat.lt_or_ge lo j with h4 | h4
    · have := h3 lo (hafter j h4 h1)
      rw [h0] at this; cases this
    · omega
  have hin : lo ∈ Region.ready .any ops L := first_ready hu hsz h0 fun m hm => by rw [hL m (by omega)]; simpa using hm
  cases fuel with
  | zero =>
    exfalso
    have h2 : 0 < L.toList.count false := List.count_pos_iff.2 (by
      have : lo < L.size := by omega
      simp [Array.getD, this] at h0
      rw [← h0]; simp)
    omega
  | succ fuel =>
    refine ⟨fun hn => absurd hin (by rw [hn]; exact List.not_mem_nil), fun j hj => ?_⟩
    obtain rfl := hone j hj
    refine wpOpIn_mono ?_ (h ops true j o Q ho rfl μ ro a w hrd hR)
    rintro a' w' ⟨μ', s', hs', hle, hR'⟩
    refine hs' μ' ro a' w' _ fuel Q (hrd.mono hle) hR' (by simpa using hsz) (fun m hm => ?_) (count_upd (by omega) h0 hcnt) fun μ₂ s₂ a₂ w₂ h1 h2 h3 => hQ μ₂ s₂ a₂ w₂ h1 (Mu.leB_trans hle h2) h3
    have := congrFun (upd_getD (L := L) (j := j) (by omega)) m
    rw [this]
    unfold upd
    by_cases hmj : m = j
    · subst hmj; simp
    · rw [if_neg hmj]
      show L.getD m true = _
      rw [hL m hm]
      simp only [decide_eq_decide]; omega

theorem dr_seg (hu : Upward ops) {l : List (AOper × Oc)} {lo : Nat} {K : St → Prop} (hlen : l.length ≤ ops.size) (hlo : lo ≤ l.length) (hl : ∀ j x, lo ≤ j → l[j]? = some x → ∃ o, ops[j]? = some o ∧ coper P ops true j o = x.1)
    (hgone : ∀ j x, j < lo → l[j]? = some x → x = gone) (hchk : ∀ j x, lo ≤ j → l[j]? = some x → Chk P s l j x) (hcut : ∀ m j, l.length ≤ m → m < ops.size → lo ≤ j → j < l.length → j ∈ (closures ops.toList).getD m [])
    (h : DR P G k rd ops l.length ⟨rAfter l 0 (fun _ => true) s.ρ, hAfter l 0 (fun _ => true) s.H, s.ms⟩ K) : DR P G k rd ops lo s K := by
  intro μ ro a w L fuel Q hrd hR hsz hL hcnt hQ
  have key : ∀ (fuel : Nat) (L : Array Bool) (μ' : Mu) (a : Act) (w : World), L.size = ops.size → L.toList.count false ≤ fuel → Closed ops (fun m => L.getD m true) → Mu.leB k μ μ' → (∀ m, m < lo → L.getD m true = true) →
      (∀ m, l.length ≤ m → m < ops.size → L.getD m true = false) →
      (∀ j x, l[j]? = some x → L.getD j true = false → ∀ r ∈ x.2.fs, μ' r = none) → Rel P G μ' ⟨rAfter l 0 (fun m => L.getD m true) s.ρ, hAfter l 0 (fun m => L.getD m true) s.H, s.ms⟩ a w →
      wpAnyIn (Fw ro) 0 P .any ops Q fuel L a w := by
    have fin : ∀ (fuel : Nat) (L : Array Bool) (μ' : Mu) (a : Act) (w : World), L.size = ops.size → L.toList.count false ≤ fuel → (∀ m, l.length ≤ m → m < ops.size → L.getD m true = false) → (∀ j, j < l.length → L.getD j true = true) → Mu.leB k μ μ' →
        Rel P G μ' ⟨rAfter l 0 (fun m => L.getD m true) s.ρ, hAfter l 0 (fun m => L.getD m true) s.H, s.ms⟩ a w → wpAnyIn (Fw ro) 0 P .any ops Q fuel L a w := by
      intro fuel L μ' a w hsz hcnt hhi hall hle hR'
      have e1 : rAfter l 0 (fun m => L.getD m true) s.ρ = rAfter l 0 (fun _ => true) s.ρ := by
        rw [rAfter_upto l 0 _ (fun _ => true) s.ρ]; intro m hm; simpa using hall m (by omega)
      have e2 : hAfter l 0 (fun m => L.getD m true) s.H = hAfter l 0 (fun _ => true) s.H := by
        rw [hAfter_upto l 0 _ (fun _ => true) s.H]; intro m hm; simpa using hall m (by omega)
      rw [e1, e2] at hR'
      refine h μ' ro a w L fuel Q (hrd.mono hle) hR' hsz (fun m hm => ?_) hcnt fun μ₂ s₂ a₂ w₂ h1 h2 h3 => hQ μ₂ s₂ a₂ w₂ h1 (Mu.leB_trans hle h2) h3
      by_cases hml : m < l.length
      · rw [hall m hml]; simp [hml]
      · rw [hhi m (by omega) hm]; simp [hml]
    intro fuel
    induction fuel with
    | zero =>
      intro L μ' a w hsz hcnt hcl hle hlo0 hhi hfr hR'
      refine fin 0 L μ' a w hsz hcnt hhi (fun j hj => ?_) hle hR'
      have : false ∉ L.toList := List.count_eq_zero.1 (by omega)
      cases h : L.getD j true with
      | true => rfl
      | false =>
        refine absurd ?_ this
        by_cases hj : j < L.size
        · simp [Array.getD, hj] at h; rw [← h]; simp
        · simp [Array.getD, hj] at h
    | succ fuel ih =>
      intro L μ' a w hsz hcnt hcl hle hlo0 hhi hfr hR'
      by_cases hall : ∀ j, j < l.length → L.getD j true = true
      · exact fin (fuel + 1) L μ' a w hsz hcnt hhi hall hle hR'
      · have hlast : ∀ m, (∀ j, j < m → j < l.length → L.getD j true = true) ∨ ∃ j, j < m ∧ j < l.length ∧ L.getD j true = false ∧ ∀ i, i < j → L.getD i true = true := by
          intro m
          induction m with
          | zero => exact .inl fun j hj => by omega
          | succ m ihm =>
            rcases ihm with h1 | ⟨j, h1, h2, h3⟩
            · by_cases hm : m < l.length
              · cases hv : L.getD m true with
                | true =>
                  left
                  intro j hj hjl
                  by_cases hjm : j = m
                  · subst hjm; exact hv
                  · exact h1 j (by omega) hjl
                | false => exact .inr ⟨m, by omega, hm, hv, fun i hi => h1 i hi (by omega)⟩
              · left
                intro j hj hjl
                exact h1 j (by omega) hjl
            · exact .inr ⟨j, by omega, h2, h3⟩
        obtain ⟨j0, _, hj0, hj0f, hj0b⟩ : ∃ j, j < l.length ∧ j < l.length ∧ L.getD j true = false ∧ ∀ i, i < j → L.getD i true = true := by
          rcases hlast l.length with h1 | h1
          · exact absurd (fun j hj => h1 j hj hj) hall
          · exact h1
        have hin : j0 ∈ Region.ready .any ops L := first_ready hu hsz hj0f hj0b
        refine ⟨fun hn => absurd hin (by rw [hn]; exact List.not_mem_nil), fun j hj => ?_⟩
        obtain ⟨hjs, hDj, hpre⟩ := ready_pre hsz hcl hj
        have hloj : lo ≤ j := by
          refine Decidable.byContradiction fun hc => ?_
          rw [hlo0 j (by omega)] at hDj; cases hDj
        have hjl : j < l.length := by
          refine Decidable.byContradiction fun hc => ?_
          have hj0lo : lo ≤ j0 := by
            refine Decidable.byContradiction fun hc => ?_
            rw [hlo0 j0 (by omega)] at hj0f; cases hj0f
          have := hpre j0 (hcut j j0 (by omega) hjs hj0lo hj0)
          rw [hj0f] at this; cases this
        have hx : l[j]? = some l[j] := List.getElem?_eq_getElem hjl
        have hupd := upd_getD (L := L) (j := j) (by omega)
        refine wpOpIn_mono ?_ (draw_step hl hchk hlo0 hcl hloj hx hDj hpre hR' (hfr j _ hx hDj))
        rintro a' w' ⟨μ'', hR'', hle', hnew⟩
        refine ih (L.setIfInBounds j true) μ'' a' w' (by simpa using hsz) (count_upd (by omega) hDj hcnt) ?_ (Mu.leB_trans hle (Mu.leB_of hle')) ?_ ?_ ?_ ?_
        · intro i m hi hmi
          rw [hupd] at hi ⊢
          unfold upd at hi ⊢
          by_cases hmj : m = j
          · rw [if_pos hmj]
          · rw [if_neg hmj]
            by_cases hij : i = j
            · subst hij; exact hpre m hmi
            · rw [if_neg hij] at hi; exact hcl i m hi hmi
        · intro m hm
          have := congrFun hupd m
          rw [this]
          unfold upd
          rw [if_neg (by omega)]; exact hlo0 m hm
        · intro m hm hms
          have := congrFun hupd m
          rw [this]
          unfold upd
          rw [if_neg (by omega)]; exact hhi m hm hms
        · intro i y hy hi r hr
          have := congrFun hupd i
          rw [this] at hi
          unfold upd at hi
          split at hi
          · cases hi
          · rename_i hij
            cases hq : μ'' r with
            | none => rfl
            | some p =>
              rcases hnew r (by rw [hq]; rfl) with h | h
              · rw [hfr i y hy hi r hr] at h; cases h
              · exact absurd hr ((hchk j _ hloj hx).own i y hy hij r h)
        · rw [hupd]; exact hR''
  refine key fuel L μ a w hsz hcnt (lt_closed hu lo hL fun m hm => getD_big (by omega)) (Mu.leB_refl _ _) (fun m hm => by rw [hL m (by omega)]; simpa using hm) (fun m h1 h2 => by rw [hL m h2]; simp; omega) ?_ ?_
  · intro j x hx hj r hr
    have hjl : j < l.length := (List.getElem?_eq_some_iff.1 hx).1
    have hloj : lo ≤ j := by
      rw [hL j (by omega)] at hj
      simpa using hj
    cases hq : μ r with
    | none => rfl
    | some p => have := hR.dom r (by rw [hq]; rfl); have := (hchk j x hloj hx).old r hr; omega
  · have e1 : rAfter l 0 (fun m => L.getD m true) s.ρ = s.ρ := rAfter_gone l 0 _ _ fun j x hx => by
      by_cases hj : j < lo
      · exact .inr (hgone j x hj hx)
      · left
        have hjl : j < l.length := (List.getElem?_eq_some_iff.1 hx).1
        rw [Nat.zero_add, hL j (by omega)]; simp; omega
    have e2 : hAfter l 0 (fun m => L.getD m true) s.H = s.H := hAfter_gone l 0 _ _ fun j x hx => by
      by_cases hj : j < lo
      · exact .inr (hgone j x hj hx)
      · left
        have hjl : j < l.length := (List.getElem?_eq_some_iff.1 hx).1
        rw [Nat.zero_add, hL j (by omega)]; simp; omega
    rw [e1, e2]
    exact ⟨hR.tr, hR.hr, hR.dom, hR.mk', hR.mkr⟩

theorem aw_reg_dr (hm : P.follows .mixedOrders = true) {aops : List AOper} {Q : Exit → St → Prop}
    (h : ∀ ops : Array Oper, aops = (ops.toList.zipIdx.map fun (o, i) => coper P ops true i o) → DR P G k rd ops 0 s (Q .normal)) : AW P G k rd (.reg aops true) Q s := fun code hc => by
  cases code <;> simp only [ccode] at hc <;> first | (cases hc; done) | skip
  rename_i id ops draw
  simp only [ACode.reg.injEq] at hc
  obtain ⟨hops, rfl⟩ := hc
  intro μ ro a w hrd hR
  refine wpIn_region_any hm ?_
  refine h ops hops.symm μ ro a _ _ _ _ hrd ⟨hR.tr, ⟨hR.hr.row, hR.hr.apart, hR.hr.kept, hR.hr.ro, hR.hr.calm, hR.hr.named, hR.hr.glob⟩, hR.dom, hR.mk', hR.mkr⟩ (by simp) (fun m hm => by simp [Array.getD, hm]) (by simp [List.count_replicate]) ?_
  intro μ' s' a' w' hK hle hR'
  exact ⟨μ', s', hK, hle, hR'⟩
end
end Go.Sx
/- Rows under other names; a call that sees only the rows that it is handed. -/
namespace Go.Sx
open Go

mutual
def ren (f : Nat → Nat) : AVal → AVal
  | .any => .any
  | .bool b => .bool b
  | .int k n => .int k n
  | .str s => .str s
  | .ptr r i off L => .ptr (f r) i off L
  | .rptr e off => .rptr (ren f e) off
  | .nilptr => .nilptr
  | .sl r off len => .sl (f r) off len
  | .view es => .view (rens f es)
  | .nilsl => .nilsl
  | .fn g a b => .fn g (rens f a) (rens f b)
  | .yfn r => .yfn (f r)
  | .nilfn => .nilfn
  | .iface t v => .iface t (ren f v)
  | .niliface => .niliface
  | .agg cs => .agg (rens f cs)
  | .tup vs => .tup (rens f vs)
  | .mp r => .mp (f r)
  | .nilmap => .nilmap
def rens (f : Nat → Nat) : List AVal → List AVal
  | [] => []
  | v :: vs => ren f v :: rens f vs
end

theorem rens_eq (f : Nat → Nat) : ∀ l : List AVal, rens f l = l.map (ren f)
  | [] => by simp [rens]
  | v :: vs => by simp [rens, rens_eq f vs]

theorem rens_len (f : Nat → Nat) (l : List AVal) : (rens f l).length = l.length := by simp [rens_eq]
theorem rens_getD (f : Nat → Nat) (l : List AVal) (i : Nat) : (rens f l).getD i .any = ren f (l.getD i .any) := by
  rw [rens_eq, List.getD_eq_getElem?_getD, List.getD_eq_getElem?_getD, List.getElem?_map]
  cases l[i]? <;> simp [ren]
theorem acells_ren (f : Nat → Nat) (v : AVal) : acells (ren f v) = rens f (acells v) := by
  cases v <;> simp [ren, acells, rens]

def Row.ren (f : Nat → Nat) : Row → Row
  | .cells g sz es => .cells g sz (rens f es)
  | .loop ρ ps asg body d st pend => .loop (rens f ρ) ps asg body (f d) st pend
  | .dfr => .dfr
  | .siter s pos => .siter s pos
  | .mapr kk ks vs => .mapr kk ks (rens f vs)
  | .dead => .dead

theorem ren_dead {f : Nat → Nat} {y : Row} (h : y.ren f = .dead) : y = .dead := by cases y <;> first | rfl | cases h

section
variable {P : Program} {G : Ctx} {μ μ' : Mu} {f : Nat → Nat} {S : Nat → Prop}

theorem VR.push {v : AVal} {c : Value} (h : VR G μ v c) (hb : Bel S v) (hu : ∀ r p, S r → μ r = some p → μ' (f r) = some p) : VR G μ' (ren f v) c := by
  induction h with
  | any c => exact .any c
  | bool b => exact .bool b
  | int k n => exact .int k n
  | str l s h => exact .str l s h
  | ptr r i off L p c hp hL ho hc => cases hb with | ptr _ _ _ _ hr => exact .ptr _ i off L p c (hu r p hr hp) hL ho hc
  | rptr e off b o f' hb' hf _ ih =>
    cases hb with | rptr _ _ hv =>
    simp only [ren]
    refine .rptr _ off b o f' hb' (fun j hj => hf j ?_) fun j hj => ?_
    · rwa [acells_ren, rens_len] at hj
    · rw [acells_ren, rens_len] at hj
      rw [acells_ren, rens_getD]; exact ih j hj (hv j hj)
  | nilptr => exact .nilptr
  | sl r off len p c hp hvec hL ho hc => cases hb with | sl _ _ _ hr => exact .sl _ off len p c (hu r p hr hp) hvec hL ho hc
  | view es b o sz cap f' hb' hcap hs hf _ ih =>
    cases hb with | view _ hv =>
    simp only [ren]
    have := VR.view (G := G) (μ := μ') (rens f es) b o sz cap f' hb' (by rw [rens_len]; exact hcap) (fun i hi => by rw [rens_getD, acells_ren, rens_len]; exact hs i (by rwa [rens_len] at hi)) (fun i j hi hj => hf i j (by rwa [rens_len] at hi) hj)
      (fun i j hi hj => by rw [rens_getD, acells_ren, rens_getD]; rw [rens_len] at hi; exact ih i j hi hj (hv i j hi (by rw [hs i hi]; exact hj)))
    rwa [rens_len] at this
  | viewnil a cap => simp only [ren, rens]; exact .viewnil a cap
  | nilsl => exact .nilsl
  | fn g a b a' b' ha hb' _ _ iha ihb =>
    cases hb with | fn _ _ _ va vb =>
    exact .fn g _ _ a' b' (by rw [rens_len]; exact ha) (by rw [rens_len]; exact hb') (fun i hi => by rw [rens_len] at hi; rw [rens_getD]; exact iha i hi (va i hi)) (fun i hi => by rw [rens_len] at hi; rw [rens_getD]; exact ihb i hi (vb i hi))
  | yfn r p hp hv => cases hb with | yfn _ hr => exact .yfn _ p (hu r p hr hp) hv
  | nilfn => exact .nilfn
  | iface t v c _ ih => cases hb with | iface _ _ h => exact .iface t _ c (ih h)
  | niliface => exact .niliface
  | agg cs vs hl _ ih => cases hb with | agg _ hv => exact .agg _ vs (by rw [rens_len]; exact hl) fun i hi => by rw [rens_len] at hi; rw [rens_getD]; exact ih i hi (hv i hi)
  | tup cs vs hl _ ih => cases hb with | tup _ hv => exact .tup _ vs (by rw [rens_len]; exact hl) fun i hi => by rw [rens_len] at hi; rw [rens_getD]; exact ih i hi (hv i hi)
  | mp r p hp hv => cases hb with | mp _ hr => exact .mp _ p (hu r p hr hp) hv
  | nilmap => exact .nilmap

theorem VR.pull {v : AVal} (hb : Bel S v) (hu : ∀ r, S r → μ' r = μ (f r)) : ∀ {c : Value}, VR G μ (ren f v) c → VR G μ' v c := by
  induction hb with
  | any => intro c h; exact .any c
  | bool b => intro c h; simp only [ren] at h; cases h; exact .bool b
  | int q n => intro c h; simp only [ren] at h; cases h; exact .int q n
  | str l => intro c h; simp only [ren] at h; cases h with | str l s h => exact .str l s h
  | ptr r i off L hr => intro c h; simp only [ren] at h; cases h with | ptr _ _ _ _ p c hp hL ho hc => exact .ptr r i off L p c (by rw [hu r hr]; exact hp) hL ho hc
  | rptr e off _ ih =>
    intro c h; simp only [ren] at h
    cases h with | rptr _ _ b o f' hb' hf hv =>
    rw [acells_ren, rens_len] at hf
    refine .rptr e off b o f' hb' hf fun j hj => ih j hj ?_
    have := hv j (by rw [acells_ren, rens_len]; exact hj)
    rwa [acells_ren, rens_getD] at this
  | nilptr => intro c h; simp only [ren] at h; cases h; exact .nilptr
  | sl r off len hr => intro c h; simp only [ren] at h; cases h with | sl _ _ _ p c hp hvec hL ho hc => exact .sl r off len p c (by rw [hu r hr]; exact hp) hvec hL ho hc
  | view es _ ih =>
    intro c h; simp only [ren] at h
    generalize hz : rens f es = zs at h
    cases h with
    | view _ b o sz cap f' hb' hcap hs hf hv =>
      subst hz
      rw [rens_len] at hcap hs hf hv ⊢
      have hs' : ∀ i, i < es.length → (acells (es.getD i .any)).length = sz := fun i hi => by
        have := hs i hi
        rwa [rens_getD, acells_ren, rens_len] at this
      refine .view es b o sz cap f' hb' hcap hs' hf fun i j hi hj => ih i j hi (by rw [hs' i hi]; exact hj) ?_
      have := hv i j hi hj
      rwa [rens_getD, acells_ren, rens_getD] at this
    | viewnil a cap =>
      have : es = [] := by
        have := congrArg List.length hz
        rw [rens_len] at this
        exact List.eq_nil_of_length_eq_zero (by simpa using this)
      subst this
      exact .viewnil a cap
  | nilsl => intro c h; simp only [ren] at h; cases h; exact .nilsl
  | fn g a b _ _ iha ihb =>
    intro c h; simp only [ren] at h
    cases h with | fn _ _ _ a' b' ha hb' va vb =>
    rw [rens_len] at ha hb' va vb
    refine .fn g a b a' b' ha hb' (fun i hi => iha i hi ?_) fun i hi => ihb i hi ?_
    · have := va i hi; rwa [rens_getD] at this
    · have := vb i hi; rwa [rens_getD] at this
  | yfn r hr => intro c h; simp only [ren] at h; cases h with | yfn _ p hp hv => exact .yfn r p (by rw [hu r hr]; exact hp) hv
  | nilfn => intro c h; simp only [ren] at h; cases h; exact .nilfn
  | iface t v _ ih => intro c h; simp only [ren] at h; cases h with | iface _ _ c h => exact .iface t v c (ih h)
  | niliface => intro c h; simp only [ren] at h; cases h; exact .niliface
  | agg cs _ ih =>
    intro c h; simp only [ren] at h
    cases h with | agg _ vs hl hv =>
    rw [rens_len] at hl hv
    exact .agg cs vs hl fun i hi => ih i hi (by have := hv i hi; rwa [rens_getD] at this)
  | tup cs _ ih =>
    intro c h; simp only [ren] at h
    cases h with | tup _ vs hl hv =>
    rw [rens_len] at hl hv
    exact .tup cs vs hl fun i hi => ih i hi (by have := hv i hi; rwa [rens_getD] at this)
  | mp r hr => intro c h; simp only [ren] at h; cases h with | mp _ p hp hv => exact .mp r p (by rw [hu r hr]; exact hp) hv
  | nilmap => intro c h; simp only [ren] at h; cases h; exact .nilmap

theorem RowIs.push {p : Place} {hp : Array Obj} {x : Row} (h : RowIs P G μ p hp x) (hb : x.bel S) (hu : ∀ r p, S r → μ r = some p → μ' (f r) = some p) : RowIs P G μ' p hp (x.ren f) := by
  cases x with
  | cells g sz es =>
    obtain ⟨h1, h2, hg, C, ty, h3, h4, h5⟩ := h
    refine ⟨h1, by rw [rens_len]; exact h2, hg, C, ty, h3, h4, fun i hi => ?_⟩
    rw [rens_len] at hi
    rw [rens_getD, acells_ren, rens_len]
    refine ⟨(h5 i hi).1, fun j hj => ?_⟩
    obtain ⟨c, hc, hv⟩ := (h5 i hi).2 j hj
    exact ⟨c, hc, by rw [rens_getD]; exact hv.push (hb i j hi (by rw [(h5 i hi).1]; exact hj)) hu⟩
  | loop ρ ps asg body d st pend =>
    obtain ⟨h0, r, h1, h2, h3, h4, h5, h6, h7, h8, pd, h9, h10, h11⟩ := h
    exact ⟨h0, r, h1, h2, h3, h4, h5, h6, by rw [rens_len]; exact h7, fun t ht => by rw [rens_len] at ht; rw [rens_getD]; exact (h8 t ht).push (hb.2 t ht) hu, pd, hu d pd hb.1 h9, h10, h11⟩
  | dfr => exact h
  | siter s pos => exact h
  | mapr kk ks vs =>
    obtain ⟨h0, hl, es, ck, h1, h2, h3⟩ := h
    exact ⟨h0, by rw [rens_len]; exact hl, es, ck, h1, h2, fun i hi => by obtain ⟨e, k1, k2, k3⟩ := h3 i hi; exact ⟨e, k1, k2, by rw [rens_getD]; exact k3.push (hb i (by omega)) hu⟩⟩
  | dead => trivial

theorem RowIs.pull {p : Place} {hp : Array Obj} {x : Row} (h : RowIs P G μ p hp (x.ren f)) (hb : x.bel S) (hu : ∀ r, S r → μ' r = μ (f r)) : RowIs P G μ' p hp x := by
  cases x with
  | cells g sz es =>
    obtain ⟨h1, h2, hg, C, ty, h3, h4, h5⟩ := h
    rw [rens_len] at h2 h5
    have hs : ∀ i, i < es.length → (acells (es.getD i .any)).length = sz := fun i hi => by
      have := (h5 i hi).1
      rwa [rens_getD, acells_ren, rens_len] at this
    refine ⟨h1, h2, hg, C, ty, h3, h4, fun i hi => ⟨hs i hi, fun j hj => ?_⟩⟩
    obtain ⟨c, hc, hv⟩ := (h5 i hi).2 j hj
    rw [rens_getD, acells_ren, rens_getD] at hv
    exact ⟨c, hc, hv.pull (hb i j hi (by rw [hs i hi]; exact hj)) hu⟩
  | loop ρ ps asg body d st pend =>
    obtain ⟨h0, r, h1, h2, h3, h4, h5, h6, h7, h8, pd, h9, h10, h11⟩ := h
    rw [rens_len] at h7 h8
    exact ⟨h0, r, h1, h2, h3, h4, h5, h6, h7, fun t ht => by have := h8 t ht; rw [rens_getD] at this; exact this.pull (hb.2 t ht) hu, pd, by rw [hu d hb.1]; exact h9, h10, h11⟩
  | dfr => exact h
  | siter s pos => exact h
  | mapr kk ks vs =>
    obtain ⟨h0, hl, es, ck, h1, h2, h3⟩ := h
    rw [rens_len] at hl
    exact ⟨h0, hl, es, ck, h1, h2, fun i hi => by obtain ⟨e, k1, k2, k3⟩ := h3 i hi; rw [rens_getD] at k3; exact ⟨e, k1, k2, k3.pull (hb i (by omega)) hu⟩⟩
  | dead => trivial
end
end Go.Sx
/- A call that sees only the rows that it is handed, by names of its own. -/
namespace Go.Sx
open Go

def nth (ι : List Nat) (i : Nat) : Nat := ι.getD i 0

def Fn (P : Program) (f : FuncId) (args : List AVal) (H : Heap) (R : AVal → Heap → Prop) : Prop := ∀ G, CallW P G f args H R

theorem Fn.mono {P : Program} {f : FuncId} {args : List AVal} {H : Heap} {R R' : AVal → Heap → Prop} (h : Fn P f args H R) (hR : ∀ v H', R v H' → R' v H') : Fn P f args H R' := fun G => (h G).mono hR

structure OutOK (ι : List Nat) (Fr : Heap → Nat → Prop) (H LH' H'' : Heap) (v : AVal) (σ : Nat → Nat) (S : Nat → Prop) : Prop where
  old : ∀ i, i < ι.length → S i ∧ σ i = nth ι i
  new : ∀ i, S i → i < ι.length ∨ Fr H'' (σ i)
  inj : ∀ i j, S i → S j → σ i = σ j → i = j
  val : Bel S v
  rows : ∀ r x, H''[r]? = some (some x) → (∃ i y, S i ∧ σ i = r ∧ LH'[i]? = some (some y) ∧ x = y.ren σ ∧ y.bel S) ∨ ((∀ i, S i → σ i ≠ r) ∧ H[r]? = some (some x))

section
variable {P : Program} {G G' : Ctx}

theorem RowIs.ctx {μ : Mu} {p : Place} {hp : Array Obj} {x : Row} (hc : ∀ b, G.ro b → G'.ro b ∧ G'.w0.heap[b]? = G.w0.heap[b]?) (h : RowIs P G μ p hp x) : RowIs P G' μ p hp x := by
  cases x with
  | cells g sz es =>
    obtain ⟨h1, h2, hg, C, ty, h3, h4, h5⟩ := h
    refine ⟨h1, h2, hg, C, ty, h3, h4, fun i hi => ⟨(h5 i hi).1, fun j hj => ?_⟩⟩
    obtain ⟨c, k1, k2⟩ := (h5 i hi).2 j hj
    exact ⟨c, k1, k2.ctx hc⟩
  | loop ρ ps asg body d st pend =>
    obtain ⟨h0, r, h1, h2, h3, h4, h5, h6, h7, h8, h9⟩ := h
    exact ⟨h0, r, h1, h2, h3, h4, h5, h6, h7, fun t ht => (h8 t ht).ctx hc, h9⟩
  | dfr => exact h
  | siter s pos => exact h
  | mapr kk ks vs =>
    obtain ⟨h0, hl, es, ck, h1, h2, h3⟩ := h
    exact ⟨h0, hl, es, ck, h1, h2, fun i hi => by obtain ⟨e, k1, k2, k3⟩ := h3 i hi; exact ⟨e, k1, k2, k3.ctx hc⟩⟩
  | dead => trivial

theorem nth_inj {ι : List Nat} (hn : ι.Nodup) {i j : Nat} (hi : i < ι.length) (hj : j < ι.length) (h : nth ι i = nth ι j) : i = j := by
  have e1 : nth ι i = ι[i] := by simp [nth, hi]
  have e2 : nth ι j = ι[j] := by simp [nth, hj]
  rw [e1, e2] at h
  exact (List.getElem?_inj hi hn).1 (by rw [List.getElem?_eq_getElem hi, List.getElem?_eq_getElem hj, h])

theorem call_local {f : FuncId} {largs args : List AVal} {LH H : Heap} {R R' : AVal → Heap → Prop} (hf : Fn P f largs LH R) {ι : List Nat} {Fr : Heap → Nat → Prop} (hn : ι.Nodup) (hlen : LH.length = ι.length) (hall : ∀ i, i < ι.length → ∃ x, LH[i]? = some (some x))
    (hargs : args = largs.map (ren (nth ι))) (hbel : ∀ v ∈ largs, Bel (· < ι.length) v)
    (hrows : ∀ i x, LH[i]? = some (some x) → H[nth ι i]? = some (some (x.ren (nth ι))) ∧ x.bel (· < ι.length))
    (hout : ∀ v LH', R v LH' → ∃ σ S H'', OutOK ι Fr H LH' H'' v σ S ∧ R' (ren σ v) H'')
    {μ : Mu} {cargs : Array Value} {w : World} (hl : args.length = cargs.size) (hv : ∀ i, i < args.length → VR G μ (args.getD i .any) (cargs.getD i undef)) (hH : HR P G μ H w) (hfree : ∀ H'' r, Fr H'' r → μ r = none) :
    CallsIn (Fw none) 0 P f cargs w fun e w' => ∃ v' cv μ'' H'', e = .returned cv ∧ R' v' H'' ∧ VR G μ'' v' cv ∧ HR P G μ'' H'' w' ∧ μ.le μ'' ∧ ∀ r, (μ'' r).isSome = true → (μ r).isSome = true ∨ Fr H'' r := by
  classical
  let G' : Ctx := { keep := fun b => G.keep b ∨ ∃ r x p, (∀ i, i < ι.length → nth ι i ≠ r) ∧ H[r]? = some (some x) ∧ x ≠ .dead ∧ μ r = some p ∧ p.blk = b, ro := G.ro, w0 := w }
  let μl : Mu := fun i => if i < ι.length then μ (nth ι i) else none
  have hroi : ∀ b, G.ro b → w.heap[b]? = G.w0.heap[b]? := fun b hb => (hH.kept b (hH.ro b hb)).2
  have hto : ∀ b, G.ro b → G'.ro b ∧ G'.w0.heap[b]? = G.w0.heap[b]? := fun b hb => ⟨hb, hroi b hb⟩
  have hfrom : ∀ b, G'.ro b → G.ro b ∧ G.w0.heap[b]? = G'.w0.heap[b]? := fun b hb => ⟨hb, (hroi b hb).symm⟩
  have hμl : ∀ r, r < ι.length → μl r = μ (nth ι r) := fun r hr => by simp [μl, hr]
  have hlH : HR P G' μl LH w := by
    constructor
    · intro i x hx hnd
      have hi : i < ι.length := by rw [← hlen]; exact (List.getElem?_eq_some_iff.1 hx).1
      obtain ⟨h1, h2⟩ := hrows i x hx
      have hnd' : x.ren (nth ι) ≠ .dead := fun e => hnd (ren_dead e)
      obtain ⟨p, k1, k2, k3, k4⟩ := hH.row _ _ h1 hnd'
      refine ⟨p, by rw [hμl i hi]; exact k1, ?_, k3, (k4.pull h2 hμl).ctx hto⟩
      rintro (hk | ⟨r, y, q, q1, q2, q2', q3, q4⟩)
      · exact k2 hk
      · exact hH.apart _ _ _ _ _ _ h1 q2 k1 q3 (q1 i hi) hnd' q2' q4.symm
    · intro i j x y p q hx hy hp hq hne n1 n2
      have hi : i < ι.length := by rw [← hlen]; exact (List.getElem?_eq_some_iff.1 hx).1
      have hj : j < ι.length := by rw [← hlen]; exact (List.getElem?_eq_some_iff.1 hy).1
      rw [hμl i hi] at hp
      rw [hμl j hj] at hq
      exact hH.apart _ _ _ _ _ _ (hrows i x hx).1 (hrows j y hy).1 hp hq (fun h => hne (nth_inj hn hi hj h)) (fun e => n1 (ren_dead e)) fun e => n2 (ren_dead e)
    · rintro b (hk | ⟨r, y, q, q1, q2, q2', q3, rfl⟩)
      · exact ⟨(hH.kept b hk).1, rfl⟩
      · obtain ⟨p, k1, k2, k3, k4⟩ := hH.row _ _ q2 q2'
        rw [k1] at q3; cases q3
        exact ⟨k3, rfl⟩
    · exact fun b hb => .inl (hH.ro b hb)
    · exact Calm.refl w
    · intro i hx
      have hi : i < ι.length := by rw [← hlen]; exact (List.getElem?_eq_some_iff.1 hx).1
      rw [hμl i hi]; exact hH.nm (hrows i _ hx).1
    · exact hH.glob.ctx hto
  subst hargs
  refine ((hf G').2 μl cargs w (by simpa using hl) (fun i hi => ?_) hlH (fun r hr => ?_)).mono ?_
  · have := hv i (by simpa using hi)
    have e : (largs.map (ren (nth ι))).getD i .any = ren (nth ι) (largs.getD i .any) := by rw [← rens_eq, rens_getD]
    rw [e] at this
    have hm : largs.getD i .any ∈ largs := by
      rw [List.getD_eq_getElem?_getD, List.getElem?_eq_getElem hi]; simp
    exact (this.pull (hbel _ hm) hμl).ctx hto
  · simp only [μl] at hr
    split at hr
    · rename_i h; rw [hlen]; exact h
    · cases hr
  · rintro e w' ⟨v, cv, μ', LH', rfl, hR, hvv, hH', hdom, hle⟩
    obtain ⟨σ, S, H'', ho, hR'⟩ := hout v LH' hR
    let μ'' : Mu := fun r => if h : ∃ i, S i ∧ σ i = r then μ' h.choose else μ r
    have hσ : ∀ i, S i → μ'' (σ i) = μ' i := by
      intro i hi
      have h : ∃ j, S j ∧ σ j = σ i := ⟨i, hi, rfl⟩
      have hc := h.choose_spec
      have : h.choose = i := ho.inj _ _ hc.1 hi hc.2
      simp only [μ'', dif_pos h, this]
    have hoff : ∀ r, (∀ i, S i → σ i ≠ r) → μ'' r = μ r := by
      intro r h
      have : ¬ ∃ i, S i ∧ σ i = r := fun ⟨i, h1, h2⟩ => h i h1 h2
      simp only [μ'', dif_neg this]
    have hμle : μ.le μ'' := by
      intro r p hp
      by_cases h : ∃ i, S i ∧ σ i = r
      · obtain ⟨i, hi, rfl⟩ := h
        rw [hσ i hi]
        rcases ho.new i hi with h1 | h1
        · refine hle i p (by rw [hlen]; exact h1) ?_
          rw [hμl i h1, ← (ho.old i h1).2]; exact hp
        · rw [hfree _ _ h1] at hp; cases hp
      · rw [hoff r fun i h1 h2 => h ⟨i, h1, h2⟩]; exact ⟨p, hp, .inl rfl⟩
    refine ⟨ren σ v, cv, μ'', H'', rfl, hR', ?_, ?_, hμle, ?_⟩
    · exact (hvv.push ho.val fun r p hr hp => by rw [hσ r hr]; exact hp).ctx hfrom
    · have src : ∀ r x, H''[r]? = some (some x) → x ≠ .dead → ∃ p, μ'' r = some p ∧ ¬ G.keep p.blk ∧ p.blk < w'.heap.size ∧ RowIs P G μ'' p w'.heap x ∧
          ((∃ i y, S i ∧ σ i = r ∧ LH'[i]? = some (some y) ∧ μ' i = some p ∧ ¬ G'.keep p.blk ∧ y ≠ .dead) ∨ ((∀ i, S i → σ i ≠ r) ∧ H[r]? = some (some x) ∧ μ r = some p ∧ G'.keep p.blk)) := by
        intro r x hx hnd
        rcases ho.rows r x hx with ⟨i, y, h1, rfl, h3, rfl, h5⟩ | ⟨h1, h2⟩
        · obtain ⟨p, k1, k2, k3, k4⟩ := hH'.row i y h3 (fun e => hnd (by rw [e]; rfl))
          refine ⟨p, by rw [hσ i h1]; exact k1, fun h => k2 (.inl h), k3, (k4.push h5 fun r p hr hp => by rw [hσ r hr]; exact hp).ctx hfrom, .inl ⟨i, y, h1, rfl, h3, k1, k2, fun e => hnd (by rw [e]; rfl)⟩⟩
        · obtain ⟨p, k1, k2, k3, k4⟩ := hH.row r x h2 hnd
          have hkeep : G'.keep p.blk := .inr ⟨r, x, p, fun i hi e => h1 i (ho.old i hi).1 ((ho.old i hi).2.trans e), h2, hnd, k1, rfl⟩
          obtain ⟨m1, m2⟩ := hH'.kept p.blk hkeep
          exact ⟨p, by rw [hoff r h1]; exact k1, k2, m1, k4.mono hμle m2, .inr ⟨h1, h2, k1, hkeep⟩⟩
      constructor
      · intro r x hx hnd
        obtain ⟨p, k1, k2, k3, k4, _⟩ := src r x hx hnd
        exact ⟨p, k1, k2, k3, k4⟩
      · intro r r' x x' p p' hx hx' hp hp' hne n1 n2
        obtain ⟨q, k1, _, _, _, k5⟩ := src r x hx n1
        obtain ⟨q', k1', _, _, _, k5'⟩ := src r' x' hx' n2
        rw [k1] at hp; cases hp
        rw [k1'] at hp'; cases hp'
        rcases k5 with ⟨i, y, a1, a2, a3, a4, a5, a6⟩ | ⟨a1, a2, a3, a4⟩ <;> rcases k5' with ⟨j, z, b1, b2, b3, b4, b5, b6⟩ | ⟨b1, b2, b3, b4⟩
        · exact hH'.apart i j y z _ _ a3 b3 a4 b4 (fun e => hne (by rw [← a2, ← b2, e])) a6 b6
        · exact fun e => a5 (by rw [e]; exact b4)
        · exact fun e => b5 (by rw [← e]; exact a4)
        · exact hH.apart r r' x x' _ _ a2 b2 a3 b3 hne n1 n2
      · intro b hb
        have : G'.keep b := .inl hb
        obtain ⟨m1, m2⟩ := hH'.kept b this
        exact ⟨m1, m2.trans (hH.kept b hb).2⟩
      · exact hH.ro
      · exact hH.calm.trans hH'.calm
      · intro r hr
        rcases ho.rows r _ hr with ⟨i, y, h1, rfl, h3, h4, h5⟩ | ⟨h1, h2⟩
        · have := ren_dead h4.symm; subst this
          rw [hσ i h1]; exact hH'.named i h3
        · rw [hoff r h1]; exact hH.named r h2
      · exact hH.glob
    · intro r hr
      by_cases h : ∃ i, S i ∧ σ i = r
      · obtain ⟨i, hi, rfl⟩ := h
        rcases ho.new i hi with h1 | h1
        · rw [hσ i hi] at hr
          left
          rw [(ho.old i h1).2, ← hμl i h1]
          obtain ⟨x, hx⟩ := hall i h1
          exact hlH.nm hx
        · exact .inr h1
      · rw [hoff r fun i h1 h2 => h ⟨i, h1, h2⟩] at hr; exact .inl hr

theorem callOK_local {f : FuncId} {largs args : List AVal} {LH H : Heap} {R R' : AVal → Heap → Prop} (hf : Fn P f largs LH R) (ι : List Nat) (hn : ι.Nodup) (hlen : LH.length = ι.length) (hall : ∀ i, i < ι.length → ∃ x, LH[i]? = some (some x))
    (hargs : args = largs.map (ren (nth ι))) (hbel : ∀ v ∈ largs, Bel (· < ι.length) v)
    (hrows : ∀ i x, LH[i]? = some (some x) → H[nth ι i]? = some (some (x.ren (nth ι))) ∧ x.bel (· < ι.length))
    (hout : ∀ v LH', R v LH' → ∃ σ S H'', OutOK ι (fun H'' r => H.length ≤ r ∧ r < H''.length) H LH' H'' v σ S ∧ H.length ≤ H''.length ∧ R' (ren σ v) H'') : CallOK P G f args H R' := by
  refine ⟨(hf G).1, fun μ cargs w hl hv hH hd => ?_⟩
  have hno : ∀ r, H.length ≤ r → μ r = none := fun r hr => by
    cases h : μ r with
    | none => rfl
    | some p => have := hd r (by rw [h]; rfl); omega
  refine (call_local (R' := fun v H'' => H.length ≤ H''.length ∧ R' v H'') hf hn hlen hall hargs hbel hrows hout hl hv hH (fun _ r hr => hno r hr.1)).mono ?_
  rintro e w' ⟨v', cv, μ'', H'', rfl, ⟨hlen', hR⟩, h1, h2, h3, h4⟩
  refine ⟨v', cv, μ'', H'', rfl, hR, h1, h2, fun r hr => ?_, Mu.leB_of h3, fun r hr hn => ?_⟩
  · rcases h4 r hr with h | h
    · have := hd r h; omega
    · exact h.2
  · cases h : μ'' r with
    | none => rfl
    | some p =>
      rcases h4 r (by rw [h]; rfl) with k | k
      · rw [hn] at k; cases k
      · omega
end
end Go.Sx
/- A call that sees the caller's rows as memory that is only read. -/
namespace Go.Sx
open Go

def frz : Nat → Heap → AVal → AVal
  | 0, _, .agg cs => .agg (cs.map fun _ => .any)
  | 0, _, _ => .any
  | d + 1, H, .sl r off len => match H.cellsAt r with
    | some (g, _, es) => if (g = false ∨ off + len = es.length) ∧ off + len ≤ es.length then .view (((es.drop off).take len).map (frz d H)) else .any
    | none => .any
  | d + 1, H, .ptr r i off L => match H.cellsAt r with
    | some (g, _, es) => if g = false ∨ L = es.length then (match es[i]? with | some e => .rptr (frz d H e) off | none => .any) else .any
    | none => .any
  | d + 1, H, .rptr e off => .rptr (frz d H e) off
  | d + 1, H, .view es => .view (es.map (frz d H))
  | d + 1, H, .fn f a b => .fn f (a.map (frz d H)) (b.map (frz d H))
  | d + 1, H, .iface t v => .iface t (frz d H v)
  | d + 1, H, .agg cs => .agg (cs.map (frz d H))
  | d + 1, H, .tup cs => .tup (cs.map (frz d H))
  | _ + 1, _, .yfn _ => .any
  | _ + 1, _, .mp _ => .any
  | _ + 1, _, v => v

inductive NV : AVal → Prop where
  | any : NV .any
  | bool (b : Bool) : NV (.bool b)
  | int (q : IntKind) (n : Int) : NV (.int q n)
  | str (l : List UInt8) : NV (.str l)
  | ptr (r i off L : Nat) : NV (.ptr r i off L)
  | nilptr : NV .nilptr
  | sl (r off len : Nat) : NV (.sl r off len)
  | nilsl : NV .nilsl
  | viewnil : NV (.view [])
  | fn (f : Go.Fn) (a b : List AVal) (va : ∀ i, i < a.length → NV (a.getD i .any)) (vb : ∀ i, i < b.length → NV (b.getD i .any)) : NV (.fn f a b)
  | yfn (r : Nat) : NV (.yfn r)
  | nilfn : NV .nilfn
  | iface (t : TypeId) (v : AVal) (h : NV v) : NV (.iface t v)
  | niliface : NV .niliface
  | agg (cs : List AVal) (hv : ∀ i, i < cs.length → NV (cs.getD i .any)) : NV (.agg cs)
  | tup (cs : List AVal) (hv : ∀ i, i < cs.length → NV (cs.getD i .any)) : NV (.tup cs)
  | mp (r : Nat) : NV (.mp r)
  | nilmap : NV .nilmap

def Row.nv : Row → Prop
  | .cells _ _ es => ∀ i j, i < es.length → j < (acells (es.getD i .any)).length → NV ((acells (es.getD i .any)).getD j .any)
  | .loop ρ _ _ _ _ _ _ => ∀ t, t < ρ.length → NV (ρ.getD t .any)
  | .dfr => True
  | .siter _ _ => True
  | .mapr _ _ vs => ∀ i, i < vs.length → NV (vs.getD i .any)
  | .dead => True

section
variable {P : Program} {G G' : Ctx} {μ : Mu}

theorem VR.nv {v : AVal} {c : Value} (h : VR G μ v c) (hn : NV v) : VR G' μ v c := by
  induction h with
  | any c => exact .any c
  | bool b => exact .bool b
  | int k n => exact .int k n
  | str l s h => exact .str l s h
  | ptr r i off L p c hp hL ho hc => exact .ptr r i off L p c hp hL ho hc
  | rptr e off b o f hb hf _ ih => cases hn
  | nilptr => exact .nilptr
  | sl r off len p c hp hvec hL ho hc => exact .sl r off len p c hp hvec hL ho hc
  | view es b o sz cap f hb hcap hs hf _ ih => cases hn; exact .viewnil _ _
  | viewnil a cap => exact .viewnil a cap
  | nilsl => exact .nilsl
  | fn f a b a' b' ha hb _ _ iha ihb => cases hn with | fn _ _ _ va vb => exact .fn f a b a' b' ha hb (fun i hi => iha i hi (va i hi)) fun i hi => ihb i hi (vb i hi)
  | yfn r p hp hv => exact .yfn r p hp hv
  | nilfn => exact .nilfn
  | iface t v c _ ih => cases hn with | iface _ _ h => exact .iface t v c (ih h)
  | niliface => exact .niliface
  | agg cs vs hl _ ih => cases hn with | agg _ hv => exact .agg cs vs hl fun i hi => ih i hi (hv i hi)
  | tup cs vs hl _ ih => cases hn with | tup _ hv => exact .tup cs vs hl fun i hi => ih i hi (hv i hi)
  | mp r p hp hv => exact .mp r p hp hv
  | nilmap => exact .nilmap

theorem RowIs.nv {p : Place} {hp : Array Obj} {x : Row} (h : RowIs P G μ p hp x) (hn : x.nv) : RowIs P G' μ p hp x := by
  cases x with
  | cells g sz es =>
    obtain ⟨h1, h2, hg, C, ty, h3, h4, h5⟩ := h
    refine ⟨h1, h2, hg, C, ty, h3, h4, fun i hi => ⟨(h5 i hi).1, fun j hj => ?_⟩⟩
    obtain ⟨c, k1, k2⟩ := (h5 i hi).2 j hj
    exact ⟨c, k1, k2.nv (hn i j hi (by rw [(h5 i hi).1]; exact hj))⟩
  | loop ρ ps asg body d st pend =>
    obtain ⟨h0, r, h1, h2, h3, h4, h5, h6, h7, h8, h9⟩ := h
    exact ⟨h0, r, h1, h2, h3, h4, h5, h6, h7, fun t ht => (h8 t ht).nv (hn t ht), h9⟩
  | dfr => exact h
  | siter s pos => exact h
  | mapr kk ks vs =>
    obtain ⟨h0, hl, es, ck, h1, h2, h3⟩ := h
    exact ⟨h0, hl, es, ck, h1, h2, fun i hi => by obtain ⟨e, k1, k2, k3⟩ := h3 i hi; exact ⟨e, k1, k2, k3.nv (hn i (by omega))⟩⟩
  | dead => trivial

theorem map_getD (f : AVal → AVal) (l : List AVal) (i : Nat) (h : i < l.length) : (l.map f).getD i .any = f (l.getD i .any) := by
  rw [List.getD_eq_getElem?_getD, List.getD_eq_getElem?_getD, List.getElem?_map, List.getElem?_eq_getElem h]; rfl

theorem frz_agg {d : Nat} {H : Heap} {v : AVal} {cs : List AVal} (h : frz d H v = .agg cs) : ∃ cs', v = .agg cs' := by
  cases d <;> cases v <;> simp only [frz] at h <;> first
    | exact ⟨_, rfl⟩
    | (cases h; done)
    | (exfalso; repeat' split at h
       all_goals cases h)

theorem acells_one {v : AVal} (h : ¬ ∃ cs, v = .agg cs) : acells v = [v] := by
  cases v <;> first | rfl | exact absurd ⟨_, rfl⟩ h

theorem acells_frz (d : Nat) (H : Heap) (v : AVal) : (acells (frz d H v)).length = (acells v).length := by
  by_cases hv : ∃ cs, v = .agg cs
  · obtain ⟨cs, rfl⟩ := hv
    cases d <;> simp only [frz, acells, List.length_map]
  · rw [acells_one hv, acells_one fun ⟨cs, h⟩ => hv (frz_agg h)]; rfl

theorem frz_cells {d : Nat} {H : Heap} {v : AVal} {j : Nat} {c : Value} (ih : ∀ d' v c, d' ≤ d → VR G μ v c → VR G' (fun _ => none) (frz d' H v) c) (hj : j < (acells v).length) (h : VR G μ ((acells v).getD j .any) c) :
    VR G' (fun _ => none) ((acells (frz d H v)).getD j .any) c := by
  by_cases hv : ∃ cs, v = .agg cs
  · obtain ⟨cs, rfl⟩ := hv
    simp only [acells] at hj h
    cases d with
    | zero =>
      simp only [frz, acells]
      rw [List.getD_eq_getElem?_getD, List.getElem?_map, List.getElem?_eq_getElem hj]
      exact .any _
    | succ d =>
      simp only [frz, acells]
      rw [map_getD _ _ _ hj]
      exact ih d _ _ (by omega) h
  · have e1 : acells v = [v] := acells_one hv
    have e2 : acells (frz d H v) = [frz d H v] := acells_one fun ⟨cs, h⟩ => hv (frz_agg h)
    rw [e1] at hj h
    simp only [List.length_singleton] at hj
    obtain rfl : j = 0 := by omega
    rw [e2]
    exact ih d v c (Nat.le_refl _) (by simpa using h)

theorem frz_vr {H : Heap} {w : World} (hH : HR P G μ H w) (hw : G'.w0 = w) (hro : ∀ b, G.ro b → G'.ro b) (hrow : ∀ (r : Nat) (x : Row) (p : Place), H[r]? = some (some x) → x ≠ .dead → μ r = some p → G'.ro p.blk) :
    ∀ (d : Nat) (v : AVal) (c : Value), VR G μ v c → VR G' (fun _ => none) (frz d H v) c := by
  have hcell : ∀ b o, G.ro b → G'.w0.cell? ⟨b, o, none⟩ = G.w0.cell? ⟨b, o, none⟩ := fun b o hb => by
    rw [hw]
    simp only [World.cell?, (hH.kept b (hH.ro b hb)).2]
  intro d
  induction d using Nat.strongRecOn with
  | ind d ih =>
    intro v c h
    cases d with
    | zero =>
      by_cases hv : ∃ cs, v = .agg cs
      · obtain ⟨cs, rfl⟩ := hv
        cases h with | agg _ vs hl hv =>
        simp only [frz]
        refine .agg _ _ (by simpa using hl) fun i hi => ?_
        rw [List.getD_eq_getElem?_getD, List.getElem?_map, List.getElem?_eq_getElem (by simpa using hi)]
        exact .any _
      · have : frz 0 H v = .any := by cases v <;> simp only [frz] at hv ⊢ <;> exact absurd ⟨_, rfl⟩ hv
        rw [this]; exact .any _
    | succ d =>
      have ih' : ∀ d' v c, d' ≤ d → VR G μ v c → VR G' (fun _ => none) (frz d' H v) c := fun d' v c hd h => ih d' (by omega) v c h
      cases h with
      | any c => exact .any c
      | bool b => exact .bool b
      | int k n => exact .int k n
      | str l s h => exact .str l s h
      | nilptr => exact .nilptr
      | nilsl => exact .nilsl
      | nilfn => exact .nilfn
      | niliface => exact .niliface
      | nilmap => exact .nilmap
      | yfn r p hp hv => exact .any _
      | mp r p hp hv => exact .any _
      | iface t v c h => simp only [frz]; exact .iface t _ c (ih' d _ _ (Nat.le_refl _) h)
      | agg cs vs hl hv =>
        simp only [frz]
        refine .agg _ _ (by simpa using hl) fun i hi => ?_
        rw [map_getD _ _ _ (by simpa using hi)]
        exact ih' d _ _ (Nat.le_refl _) (hv i (by simpa using hi))
      | tup cs vs hl hv =>
        simp only [frz]
        refine .tup _ _ (by simpa using hl) fun i hi => ?_
        rw [map_getD _ _ _ (by simpa using hi)]
        exact ih' d _ _ (Nat.le_refl _) (hv i (by simpa using hi))
      | fn f a b a' b' ha hb va vb =>
        simp only [frz]
        refine .fn f _ _ _ _ (by simpa using ha) (by simpa using hb) (fun i hi => ?_) fun i hi => ?_
        · rw [map_getD _ _ _ (by simpa using hi)]; exact ih' d _ _ (Nat.le_refl _) (va i (by simpa using hi))
        · rw [map_getD _ _ _ (by simpa using hi)]; exact ih' d _ _ (Nat.le_refl _) (vb i (by simpa using hi))
      | viewnil a cap => simp only [frz, List.map_nil]; exact .viewnil a cap
      | view es b o sz cap f hb hcap hs hf hv =>
        simp only [frz]
        have := VR.view (G := G') (μ := fun _ => none) (es.map (frz d H)) b o sz cap f (hro b hb) (by simpa using hcap) (fun i hi => by
          rw [map_getD _ _ _ (by simpa using hi), acells_frz]; exact hs i (by simpa using hi)) (fun i j hi hj => by rw [hcell _ _ hb]; exact hf i j (by simpa using hi) hj) (fun i j hi hj => by
          have hi' : i < es.length := by simpa using hi
          rw [map_getD _ _ _ hi']
          exact frz_cells ih' (by rw [hs i hi']; exact hj) (hv i j hi' hj))
        simpa using this
      | rptr e off b o f hb hf hv =>
        simp only [frz]
        exact .rptr _ off b o f (hro b hb) (fun j hj => by rw [acells_frz] at hj; rw [hcell _ _ hb]; exact hf j hj) fun j hj => by
          rw [acells_frz] at hj
          exact frz_cells ih' hj (hv j hj)
      | sl r off len p c hp hvec hL ho hc =>
        simp only [frz]
        split
        · rename_i g sz es hcs
          split
          · rename_i hlive
            have hget := cellsAt_get.1 hcs
            obtain ⟨p', k1, k2, k3, k4⟩ := hH.row r _ hget nofun
            rw [hp] at k1; cases k1
            obtain ⟨h1, h2, hg, C, ty, h3, h4, h5⟩ := k4
            dsimp only at h1 h2 hg h5
            have hlv : p.live (off + len) := by
              rcases hlive.1 with h | h
              · exact .inl (hg h)
              · exact .inr (by omega)
            obtain ⟨cap, rfl, hcap, hroom⟩ := hc hlv
            have hlen : (((es.drop off).take len).map (frz d H)).length = len := by simp; omega
            have helt : ∀ i, i < len → (((es.drop off).take len).map (frz d H)).getD i .any = frz d H (es.getD (off + i) .any) := fun i hi => by
              rw [map_getD _ _ _ (by simp; omega)]
              congr 1
              rw [List.getD_eq_getElem?_getD, List.getD_eq_getElem?_getD, List.getElem?_take, if_pos hi, List.getElem?_drop]
            have := VR.view (G := G') (μ := fun _ => none) (((es.drop off).take len).map (frz d H)) p.blk (p.off + off * p.sz) sz cap (fun i j => (C[p.off + (off + i) * sz + j]?).getD undef) (hrow r _ p hget nofun hp) (by rw [hlen]; exact hcap)
              (fun i hi => by rw [hlen] at hi; rw [helt i hi, acells_frz]; exact (h5 (off + i) (by omega)).1)
              (fun i j hi hj => by
                rw [hlen] at hi
                obtain ⟨c, q1, q2⟩ := (h5 (off + i) (by omega)).2 j hj
                rw [hw]
                simp only [World.cell?, h3, h1]
                rw [show p.off + off * sz + i * sz + j = p.off + (off + i) * sz + j by rw [Nat.add_mul]; omega, q1]; rfl)
              (fun i j hi hj => by
                rw [hlen] at hi
                obtain ⟨c, q1, q2⟩ := (h5 (off + i) (by omega)).2 j hj
                rw [helt i hi, q1]
                exact frz_cells ih' (by rw [(h5 (off + i) (by omega)).1]; exact hj) q2)
            rwa [hlen] at this
          · exact .any _
        · exact .any _
      | ptr r i off L p c hp hL ho hc =>
        simp only [frz]
        split
        · rename_i g sz es hcs
          split
          · rename_i hlive
            split
            · rename_i e he
              have hget := cellsAt_get.1 hcs
              obtain ⟨p', k1, k2, k3, k4⟩ := hH.row r _ hget nofun
              rw [hp] at k1; cases k1
              obtain ⟨h1, h2, hg, C, ty, h3, h4, h5⟩ := k4
              dsimp only at h1 h2 hg h5
              have hlv : p.live L := by
                rcases hlive with h | h
                · exact .inl (hg h)
                · exact .inr (by omega)
              rw [hc hlv]
              have hi : i < es.length := (List.getElem?_eq_some_iff.1 he).1
              have hee : es.getD i .any = e := by rw [List.getD_eq_getElem?_getD, he]; rfl
              refine .rptr _ off p.blk (p.off + i * p.sz) (fun j => (C[p.off + i * sz + j]?).getD undef) (hrow r _ p hget nofun hp) (fun j hj => ?_) fun j hj => ?_
              · rw [acells_frz] at hj
                obtain ⟨c, q1, q2⟩ := (h5 i hi).2 j (by rw [← (h5 i hi).1, hee]; exact hj)
                rw [hw]
                simp [World.cell?, h3, h1, q1]
              · rw [acells_frz] at hj
                obtain ⟨c, q1, q2⟩ := (h5 i hi).2 j (by rw [← (h5 i hi).1, hee]; exact hj)
                rw [hee] at q2
                simp only [q1, Option.getD_some]
                exact frz_cells ih' hj q2
            · exact .any _
          · exact .any _
        · exact .any _

structure FrzOK (Fr : Heap → Nat → Prop) (H LH' H'' : Heap) (v : AVal) (σ : Nat → Nat) (S : Nat → Prop) : Prop where
  new : ∀ i, S i → Fr H'' (σ i)
  inj : ∀ i j, S i → S j → σ i = σ j → i = j
  val : Bel S v
  nv : NV v
  rows : ∀ r x, H''[r]? = some (some x) → (∃ i y, S i ∧ σ i = r ∧ LH'[i]? = some (some y) ∧ x = y.ren σ ∧ y.bel S ∧ y.nv) ∨ ((∀ i, S i → σ i ≠ r) ∧ H[r]? = some (some x))

theorem HR.sub {μ : Mu} {H H' : Heap} {hp : World} (h : HR P G μ H hp) (hs : H'.sub H) : HR P G μ H' hp :=
  ⟨fun r x hx => h.row r x (hs r x hx), fun r r' x x' p p' h1 h2 => h.apart r r' x x' p p' (hs r x h1) (hs r' x' h2), h.kept, h.ro, h.calm, fun r hr => h.named r (hs r _ hr), h.glob⟩

theorem call_frz {f : FuncId} {args : List AVal} {H Hf : Heap} {R R' : AVal → Heap → Prop} {d : Nat} (hsub : Hf.sub H) (hf : Fn P f (args.map (frz d Hf)) [] R) {Fr : Heap → Nat → Prop}
    (hout : ∀ v LH', R v LH' → ∃ σ S H'', FrzOK Fr H LH' H'' v σ S ∧ R' (ren σ v) H'')
    {cargs : Array Value} {w : World} (hl : args.length = cargs.size) (hv : ∀ i, i < args.length → VR G μ (args.getD i .any) (cargs.getD i undef)) (hH : HR P G μ H w) (hfree : ∀ H'' r, Fr H'' r → μ r = none) :
    CallsIn (Fw none) 0 P f cargs w fun e w' => ∃ v' cv μ'' H'', e = .returned cv ∧ R' v' H'' ∧ VR G μ'' v' cv ∧ HR P G μ'' H'' w' ∧ μ.le μ'' ∧ ∀ r, (μ'' r).isSome = true → (μ r).isSome = true ∨ Fr H'' r := by
  classical
  let G' : Ctx := { keep := fun b => G.keep b ∨ ∃ r x p, H[r]? = some (some x) ∧ x ≠ .dead ∧ μ r = some p ∧ p.blk = b, ro := fun b => G.ro b ∨ ∃ r x p, H[r]? = some (some x) ∧ x ≠ .dead ∧ μ r = some p ∧ p.blk = b, w0 := w }
  have hlH : HR P G' (fun _ => none) [] w := by
    constructor
    · intro i x hx; simp at hx
    · intro i j x y p q hx; simp at hx
    · rintro b (hk | ⟨r, y, q, q2, q2', q3, rfl⟩)
      · exact ⟨(hH.kept b hk).1, rfl⟩
      · obtain ⟨p, k1, k2, k3, k4⟩ := hH.row _ _ q2 q2'
        rw [k1] at q3; cases q3
        exact ⟨k3, rfl⟩
    · rintro b (hb | hb)
      · exact .inl (hH.ro b hb)
      · exact .inr hb
    · exact Calm.refl w
    · intro i hx; simp at hx
    · exact hH.glob.ctx fun b hb => ⟨.inl hb, (hH.kept b (hH.ro b hb)).2⟩
  refine ((hf G').2 (fun _ => none) cargs w (by simpa using hl) (fun i hi => ?_) hlH (fun r hr => by cases hr)).mono ?_
  · have hi' : i < args.length := by simpa using hi
    rw [map_getD _ _ _ hi']
    exact frz_vr (G' := G') (hH.sub hsub) rfl (fun b hb => Or.inl hb) (fun r x p h1 h1' h2 => Or.inr ⟨r, x, p, hsub r x h1, h1', h2, rfl⟩) d _ _ (hv i hi')
  · rintro e w' ⟨v, cv, μ', LH', rfl, hR, hvv, hH', hdom, _⟩
    obtain ⟨σ, S, H'', ho, hR'⟩ := hout v LH' hR
    let μ'' : Mu := fun r => if h : ∃ i, S i ∧ σ i = r then μ' h.choose else μ r
    have hσ : ∀ i, S i → μ'' (σ i) = μ' i := by
      intro i hi
      have h : ∃ j, S j ∧ σ j = σ i := ⟨i, hi, rfl⟩
      have hc := h.choose_spec
      have : h.choose = i := ho.inj _ _ hc.1 hi hc.2
      simp only [μ'', dif_pos h, this]
    have hoff : ∀ r, (∀ i, S i → σ i ≠ r) → μ'' r = μ r := by
      intro r h
      have : ¬ ∃ i, S i ∧ σ i = r := fun ⟨i, h1, h2⟩ => h i h1 h2
      simp only [μ'', dif_neg this]
    have hμle : μ.le μ'' := by
      intro r p hp
      by_cases h : ∃ i, S i ∧ σ i = r
      · obtain ⟨i, hi, rfl⟩ := h
        rw [hfree _ _ (ho.new i hi)] at hp; cases hp
      · rw [hoff r fun i h1 h2 => h ⟨i, h1, h2⟩]; exact ⟨p, hp, .inl rfl⟩
    refine ⟨ren σ v, cv, μ'', H'', rfl, hR', ?_, ?_, hμle, ?_⟩
    · exact (hvv.nv (G' := G) ho.nv).push ho.val fun r p hr hp => by rw [hσ r hr]; exact hp
    · have src : ∀ r x, H''[r]? = some (some x) → x ≠ .dead → ∃ p, μ'' r = some p ∧ ¬ G.keep p.blk ∧ p.blk < w'.heap.size ∧ RowIs P G μ'' p w'.heap x ∧
          ((∃ i y, S i ∧ σ i = r ∧ LH'[i]? = some (some y) ∧ μ' i = some p ∧ ¬ G'.keep p.blk ∧ y ≠ .dead) ∨ ((∀ i, S i → σ i ≠ r) ∧ H[r]? = some (some x) ∧ μ r = some p ∧ G'.keep p.blk)) := by
        intro r x hx hnd
        rcases ho.rows r x hx with ⟨i, y, h1, rfl, h3, rfl, h5, h6⟩ | ⟨h1, h2⟩
        · obtain ⟨p, k1, k2, k3, k4⟩ := hH'.row i y h3 (fun e => hnd (by rw [e]; rfl))
          refine ⟨p, by rw [hσ i h1]; exact k1, fun h => k2 (.inl h), k3, (k4.nv (G' := G) h6).push h5 fun r p hr hp => by rw [hσ r hr]; exact hp, .inl ⟨i, y, h1, rfl, h3, k1, k2, fun e => hnd (by rw [e]; rfl)⟩⟩
        · obtain ⟨p, k1, k2, k3, k4⟩ := hH.row r x h2 hnd
          have hkeep : G'.keep p.blk := .inr ⟨r, x, p, h2, hnd, k1, rfl⟩
          obtain ⟨m1, m2⟩ := hH'.kept p.blk hkeep
          exact ⟨p, by rw [hoff r h1]; exact k1, k2, m1, k4.mono hμle m2, .inr ⟨h1, h2, k1, hkeep⟩⟩
      constructor
      · intro r x hx hnd
        obtain ⟨p, k1, k2, k3, k4, _⟩ := src r x hx hnd
        exact ⟨p, k1, k2, k3, k4⟩
      · intro r r' x x' p p' hx hx' hp hp' hne n1 n2
        obtain ⟨q, k1, _, _, _, k5⟩ := src r x hx n1
        obtain ⟨q', k1', _, _, _, k5'⟩ := src r' x' hx' n2
        rw [k1] at hp; cases hp
        rw [k1'] at hp'; cases hp'
        rcases k5 with ⟨i, y, a1, a2, a3, a4, a5, a6⟩ | ⟨a1, a2, a3, a4⟩ <;> rcases k5' with ⟨j, z, b1, b2, b3, b4, b5, b6⟩ | ⟨b1, b2, b3, b4⟩
        · exact hH'.apart i j y z _ _ a3 b3 a4 b4 (fun e => hne (by rw [← a2, ← b2, e])) a6 b6
        · exact fun e => a5 (by rw [e]; exact b4)
        · exact fun e => b5 (by rw [← e]; exact a4)
        · exact hH.apart r r' x x' _ _ a2 b2 a3 b3 hne n1 n2
      · intro b hb
        have : G'.keep b := .inl hb
        obtain ⟨m1, m2⟩ := hH'.kept b this
        exact ⟨m1, m2.trans (hH.kept b hb).2⟩
      · exact hH.ro
      · exact hH.calm.trans hH'.calm
      · intro r hr
        rcases ho.rows r _ hr with ⟨i, y, h1, rfl, h3, h4, h5, h6⟩ | ⟨h1, h2⟩
        · have := ren_dead h4.symm; subst this
          rw [hσ i h1]; exact hH'.named i h3
        · rw [hoff r h1]; exact hH.named r h2
      · exact hH.glob
    · intro r hr
      by_cases h : ∃ i, S i ∧ σ i = r
      · obtain ⟨i, hi, rfl⟩ := h
        exact .inr (ho.new i hi)
      · rw [hoff r fun i h1 h2 => h ⟨i, h1, h2⟩] at hr; exact .inl hr

theorem callOK_frz {f : FuncId} {args : List AVal} {H : Heap} {R R' : AVal → Heap → Prop} (d : Nat) (hf : Fn P f (args.map (frz d H)) [] R)
    (hout : ∀ v LH', R v LH' → ∃ σ S H'', FrzOK (fun H'' r => H.length ≤ r ∧ r < H''.length) H LH' H'' v σ S ∧ H.length ≤ H''.length ∧ R' (ren σ v) H'') : CallOK P G f args H R' := by
  refine ⟨(hf G).1, fun μ cargs w hl hv hH hd => ?_⟩
  have hno : ∀ r, H.length ≤ r → μ r = none := fun r hr => by
    cases h : μ r with
    | none => rfl
    | some p => have := hd r (by rw [h]; rfl); omega
  refine (call_frz (R' := fun v H'' => H.length ≤ H''.length ∧ R' v H'') (fun _ _ h => h) hf hout hl hv hH (fun _ r hr => hno r hr.1)).mono ?_
  rintro e w' ⟨v', cv, μ'', H'', rfl, ⟨hlen', hR⟩, h1, h2, h3, h4⟩
  refine ⟨v', cv, μ'', H'', rfl, hR, h1, h2, fun r hr => ?_, Mu.leB_of h3, fun r hr hn => ?_⟩
  · rcases h4 r hr with h | h
    · have := hd r h; omega
    · exact h.2
  · cases h : μ'' r with
    | none => rfl
    | some p =>
      rcases h4 r (by rw [h]; rfl) with k | k
      · rw [hn] at k; cases k
      · omega
end
end Go.Sx
