/- Regions whose order is drawn. -/
import Derived.Test.YtnfnjolpojofcabSxClos
namespace Go.Sx
open Go

/-- Two operations of which either may come first. -/
def unord (x : AOper) (j : Nat) (y : AOper) (m : Nat) : Prop := (m < j ∧ m ∈ x.free) ∨ (j < m ∧ j ∈ y.free)

instance (x : AOper) (j : Nat) (y : AOper) (m : Nat) : Decidable (unord x j y m) := by unfold unord; infer_instance

def guardTmps : Option (Nat × Bool) → List Nat
  | some (t, _) => [t]
  | none => []

/-- The rows of the operations that are unordered with one. -/
def loose (l : List (AOper × Oc)) (x : AOper) (j : Nat) : List Nat := l.zipIdx.flatMap fun y => if unord x j y.1.1 y.2 then y.1.2.rows else []

def before (j : Nat) : Nat → Bool := fun m => decide (m < j)

/-- All rows of the one are rows of the other. -/
def Heap.sub (H H' : Heap) : Prop := ∀ (r : Nat) (x : Row), H[r]? = some (some x) → H'[r]? = some (some x)

/-- A call whose outcome is known, whatever other rows there are. -/
def DCall (P : Program) (g : FuncId) (args : List AVal) (Hm : Heap) (c : Oc) : Prop :=
  Callable P g = true ∧ ∀ G (H : Heap) μ (cargs : Array Value) w, Hm.sub H → (∀ r ∈ c.fs, μ r = none) → args.length = cargs.size → (∀ i, i < args.length → VR G μ (args.getD i .any) (cargs.getD i undef)) → HR P G μ H w →
    CallsIn (Fw none) 0 P g cargs w fun e w' => ∃ cv μ', e = .returned cv ∧ VR G μ' c.v cv ∧ HR P G μ' (H.puts c.Δ) w' ∧ μ.le μ' ∧ ∀ r, (μ' r).isSome = true → (μ r).isSome = true ∨ (r ∈ c.fs ∧ r < (H.puts c.Δ).length)

/-- What is asked of the j-th operation. -/
structure Chk (P : Program) (s : St) (l : List (AOper × Oc)) (j : Nat) (x : AOper × Oc) : Prop where
  free : j ∉ x.1.free
  apart : ∀ m y, l[m]? = some y → unord x.1 j y.1 m → (∀ t, y.1.dst = some t → t ∉ x.1.op.tmps ∧ t ∉ guardTmps x.1.guard ∧ x.1.dst ≠ some t) ∧ ∀ r ∈ x.2.rows, r ∉ y.2.rows
  old : ∀ r ∈ x.2.fs, s.H.length ≤ r
  own : ∀ m y, l[m]? = some y → m ≠ j → ∀ r ∈ x.2.fs, r ∉ y.2.fs
  does : (gval (rAfter l 0 (before j) s.ρ) x.1.guard = some false ∧ x.2.v = .tup [] ∧ x.2.Δ = []) ∨
    (gval (rAfter l 0 (before j) s.ρ) x.1.guard = some true ∧ ∃ n, aev x.1.op (rAfter l 0 (before j) s.ρ) ((hAfter l 0 (before j) s.H).mask (loose l x.1 j)) n = some (x.2.v, x.2.Δ) ∧ (n ∈ x.2.Δ.map (·.1) → n ∈ x.2.fs)) ∨
    (gval (rAfter l 0 (before j) s.ρ) x.1.guard = some true ∧ (∀ q ∈ s.ms, q ∉ x.2.rows) ∧ ∃ f xs g ys cs, x.1.op = .call f xs ∧ opd (rAfter l 0 (before j) s.ρ) f = .fn (.func g) ys cs ∧
      DCall P g (ys ++ xs.map (opd (rAfter l 0 (before j) s.ρ)) ++ cs) ((hAfter l 0 (before j) s.H).mask (loose l x.1 j)) x.2)

theorem mem_loose {l : List (AOper × Oc)} {x : AOper} {j m r : Nat} {y : AOper × Oc} (hy : l[m]? = some y) (hu : unord x j y.1 m) (hr : r ∈ y.2.rows) : r ∈ loose l x j := by
  unfold loose
  refine List.mem_flatMap.2 ⟨(y, m), ?_, ?_⟩
  · rw [List.mem_iff_getElem?]
    exact ⟨m, by rw [List.getElem?_zipIdx, hy]; simp⟩
  · simp only [if_pos hu]; exact hr

section
variable {P : Program} {G : Ctx} {k : Nat} {rd : Option Nat} {s : St}

/-- The set of what is done: with an operation all that must come before it. -/
def Closed (ops : Array Oper) (D : Nat → Bool) : Prop := ∀ i m, D i = true → m ∈ (closures ops.toList).getD i [] → D m = true

variable {ops : Array Oper} {l : List (AOper × Oc)}

/-- What is done and stands not before, or is not done and stands before, is unordered. -/
theorem unord_of {D : Nat → Bool} {lo : Nat} (hl : ∀ j x, lo ≤ j → l[j]? = some x → ∃ o, ops[j]? = some o ∧ coper P ops true j o = x.1) (hc : Closed ops D) {j m : Nat} {x y : AOper × Oc} (hx : l[j]? = some x) (hy : l[m]? = some y) (hloj : lo ≤ j) (hlom : lo ≤ m)
    (hfx : j ∉ x.1.free) (hfy : m ∉ y.1.free) (hDj : D j = false) (hpre : ∀ i ∈ (closures ops.toList).getD j [], D i = true) (hne : m ≠ j) (hd : D m ≠ before j m) : unord x.1 j y.1 m := by
  have frees : ∀ {i : Nat} {z : AOper × Oc}, lo ≤ i → l[i]? = some z → i ∉ z.1.free → z.1.free = (List.range i).filter fun q => !((closures ops.toList).getD i []).contains q := by
    intro i z hi hz hf
    obtain ⟨o, ho, h1⟩ := hl i z hi hz
    rw [← h1] at hf ⊢
    simp only [coper, if_true] at hf ⊢
    split at hf
    · rename_i he; rw [if_pos he]
    · simp at hf
  unfold before at hd
  by_cases hlt : m < j
  · left
    refine ⟨hlt, ?_⟩
    rw [frees hloj hx hfx]
    simp only [hlt, decide_true] at hd
    simp only [List.mem_filter, List.mem_range, hlt, true_and, Bool.not_eq_true', List.contains_eq_mem, decide_eq_false_iff_not]
    exact fun hm => hd (hpre m hm)
  · right
    have hgt : j < m := by omega
    refine ⟨hgt, ?_⟩
    rw [frees hlom hy hfy]
    simp only [hlt, decide_false] at hd
    have hD : D m = true := by cases h : D m with | true => rfl | false => exact absurd h hd
    simp only [List.mem_filter, List.mem_range, hgt, true_and, Bool.not_eq_true', List.contains_eq_mem, decide_eq_false_iff_not]
    intro hm
    have := hc m j hD hm
    rw [hDj] at this; cases this

theorem gval_congr {ρ ρ' : List AVal} {g : Option (Nat × Bool)} (h : ∀ t ∈ guardTmps g, tget ρ' t = tget ρ t) : gval ρ' g = gval ρ g := by
  cases g with
  | none => rfl
  | some p => obtain ⟨t, b⟩ := p; simp only [gval, h t (by simp [guardTmps])]

/-- A call of a drawn region. -/
theorem op_dcall {draw : Bool} {ao : AOper} {i : Nat} {o : Oper} {Q : Exit → Act → World → Prop} {μ : Mu} {ro : Option Nat} {a : Act} {w : World} {f : AOpd} {xs : List AOpd} {g : FuncId} {fs cs : List AVal} {Hm : Heap} {c : Oc}
    (hi : ops[i]? = some o) (hcc : coper P ops draw i o = ao) (hg : gval s.ρ ao.guard = some true) (hms : ∀ q ∈ s.ms, q ∉ c.rows) (ho : ao.op = .call f xs) (hf : opd s.ρ f = .fn (.func g) fs cs)
    (hc : DCall P g (fs ++ xs.map (opd s.ρ) ++ cs) Hm c) (hsub : Hm.sub s.H) (hn : ∀ r ∈ c.fs, μ r = none) (h : Rel P G μ s a w) :
    wpOpIn (Fw ro) 0 P ops Q i (fun a' w' => ∃ μ', Rel P G μ' ⟨setD s.ρ ao.dst c.v, s.H.puts c.Δ, s.ms⟩ a' w' ∧ μ.le μ' ∧ ∀ r, (μ' r).isSome = true → (μ r).isSome = true ∨ r ∈ c.fs) a w := by
  have hnb : ao.op ≠ .bad := by rw [ho]; simp
  obtain ⟨h1, h2, h3⟩ := coper_parts hcc hnb
  have hw := wanted_of h.tr ops o h1 hg
  simp only [wpOpIn, hi, if_pos hw]
  rw [ho] at h2
  obtain ⟨cc, x, hoc, hcal, hfx, hxs⟩ := cop_call h2
  have hx := opd_sound h.tr x
  rw [hfx, hf] at hx
  obtain ⟨cf, hcf⟩ : ∃ cf, a.eval x = cf := ⟨_, rfl⟩
  rw [hcf] at hx
  cases hx with
  | fn _ _ _ a' b' ha hb va vb =>
    have hnd : ∀ c', o.op ≠ .defer c' := by intro c' hd; rw [hoc] at hd; cases hd
    have hrun : (execOp a.eval o).run P w = .ok (.enter g (a' ++ cc.args.map a.eval ++ b')) w := by
      simp [execOp, hoc, resolve, hcal, hcf, Deferred.ofValue, invoke, run_callFunc hc.1]
    unfold Oper.wpIn
    refine ⟨fun _ _ => trivial, ?_⟩
    rw [Oper.semAt_eq _ _ _ hnd, hrun]
    refine ⟨fun hd => by simp [Fw, Fence.wide] at hd, ?_⟩
    have hlen : xs.length = cc.args.size := by rw [← hxs]; simp
    have := hc.2 G s.H μ (a' ++ cc.args.map a.eval ++ b') w hsub hn (by simp [ha, hb, hlen]) (fun j hj => ?_) h.hr
    · refine (callsIn_fw (ro' := ro) this).mono ?_
      rintro e w' ⟨cv, μ', rfl, hv, hH, hle, hdom⟩
      refine ⟨μ', ?_, hle, fun r hr => (hdom r hr).imp id (·.1)⟩
      rw [← h3]
      refine ⟨(h.tr.mono hle).put hv _, hH, fun r hr => ?_, ?_, fun r hr => ?_⟩
      · have hl := Heap.le_puts c.Δ s.H
        rcases hdom r hr with h5 | ⟨_, h5⟩
        · have := h.dom r h5; simp only; omega
        · exact h5
      · rw [put_defers, h.mk']; exact (h.same_marks hle).symm
      · exact (Same.off c.Δ (hms r hr) _).2 (h.mkr r hr)
    · rw [List.getD_eq_getElem?_getD, Array.getD_eq_getD_getElem?]
      by_cases hj1 : j < fs.length
      · rw [List.append_assoc, List.getElem?_append_left hj1, Array.append_assoc, Array.getElem?_append_left (by omega)]
        have := va j hj1
        rwa [List.getD_eq_getElem?_getD, Array.getD_eq_getD_getElem?] at this
      · by_cases hj2 : j < fs.length + xs.length
        · rw [List.append_assoc, List.getElem?_append_right (by omega), List.getElem?_append_left (by simp; omega), Array.append_assoc, Array.getElem?_append_right (by omega), Array.getElem?_append_left (by simp; omega)]
          subst hxs
          have hjx : j - fs.length < cc.args.size := by simp at hj2; omega
          simp only [List.map_map, List.getElem?_map, Array.getElem?_map, ← ha, Array.getElem?_toList]
          simp [hjx]
          exact opd_sound h.tr _
        · rw [List.getElem?_append_right (by simp; omega), Array.getElem?_append_right (by simp; omega)]
          have := vb (j - fs.length - xs.length) (by simp at hj; omega)
          rw [List.getD_eq_getElem?_getD, Array.getD_eq_getD_getElem?] at this
          have e1 : j - (fs ++ xs.map (opd s.ρ)).length = j - fs.length - xs.length := by simp; omega
          have e2 : j - (a' ++ cc.args.map a.eval).size = j - fs.length - xs.length := by simp; omega
          rw [e1, e2]; exact this

/-- A call, whose outcome is known. -/
theorem op_dc {ao : AOper} {K : St → Prop} {f : AOpd} {xs : List AOpd} {g : FuncId} {fs cs : List AVal} {c : Oc} (hg : gval s.ρ ao.guard = some true) (hms : ∀ q ∈ s.ms, q ∉ c.rows) (ho : ao.op = .call f xs)
    (hf : opd s.ρ f = .fn (.func g) fs cs) (hc : DCall P g (fs ++ xs.map (opd s.ρ) ++ cs) s.H c) (hfs : ∀ r ∈ c.fs, s.H.length ≤ r) (hK : K ⟨setD s.ρ ao.dst c.v, s.H.puts c.Δ, s.ms⟩) : OpA P G k rd ao s K := by
  intro ops draw i o Q hi hcc μ ro a w hrd hR
  refine wpOpIn_mono ?_ (op_dcall hi hcc hg hms ho hf hc (fun _ _ h => h) (fun r hr => ?_) hR)
  · rintro a' w' ⟨μ', h1, h2, _⟩
    exact ⟨μ', _, hK, Mu.leB_of h2, h1⟩
  · cases h : μ r with
    | none => rfl
    | some p => have := hR.dom r (by rw [h]; rfl); have := hfs r hr; omega

/-- One operation of a drawn region, when all that must come before it is done. -/
theorem draw_step {D : Nat → Bool} {lo : Nat} (hl : ∀ j x, lo ≤ j → l[j]? = some x → ∃ o, ops[j]? = some o ∧ coper P ops true j o = x.1) (hchk : ∀ j x, lo ≤ j → l[j]? = some x → Chk P s l j x) (hD0 : ∀ m, m < lo → D m = true) (hc : Closed ops D) {j : Nat} {x : AOper × Oc} (hloj : lo ≤ j) (hx : l[j]? = some x)
    (hDj : D j = false) (hpre : ∀ i ∈ (closures ops.toList).getD j [], D i = true) {Q : Exit → Act → World → Prop} {μ : Mu} {ro : Option Nat} {a : Act} {w : World}
    (hR : Rel P G μ ⟨rAfter l 0 D s.ρ, hAfter l 0 D s.H, s.ms⟩ a w) (hn : ∀ r ∈ x.2.fs, μ r = none) :
    wpOpIn (Fw ro) 0 P ops Q j (fun a' w' => ∃ μ', Rel P G μ' ⟨rAfter l 0 (upd D j) s.ρ, hAfter l 0 (upd D j) s.H, s.ms⟩ a' w' ∧ μ.le μ' ∧ ∀ r, (μ' r).isSome = true → (μ r).isSome = true ∨ r ∈ x.2.fs) a w := by
  have hk := hchk j x hloj hx
  have hun : ∀ m y, l[m]? = some y → D m ≠ before j m → unord x.1 j y.1 m := fun m y hy hd => by
    have hlom : lo ≤ m := by
      refine Decidable.byContradiction fun h => hd ?_
      rw [hD0 m (by omega)]
      have : m < j := by omega
      simp [before, this]
    refine unord_of hl hc hx hy hloj hlom hk.free (hchk m y hlom hy).free hDj hpre ?_ hd
    rintro rfl
    exact hd (by rw [hDj]; simp [before])
  have ht : ∀ t, t ∈ x.1.op.tmps ∨ t ∈ guardTmps x.1.guard → tget (rAfter l 0 D s.ρ) t = tget (rAfter l 0 (before j) s.ρ) t := fun t ht => by
    refine rAfter_tget t l 0 D (before j) _ _ rfl rfl fun m y hy hyd => ?_
    simp only [Nat.zero_add]
    refine Decidable.byContradiction fun hd => ?_
    have := (hk.apart m y hy (hun m y hy hd)).1 t hyd
    rcases ht with ht | ht
    · exact this.1 ht
    · exact this.2.1 ht
  have hsame : ∀ r, r ∉ loose l x.1 j → Same r (hAfter l 0 (before j) s.H) (hAfter l 0 D s.H) := by
    refine fun r hr => hAfter_same r l 0 _ _ _ _ (Same.refl _ _) fun m y hy hyr => ?_
    simp only [Nat.zero_add]
    refine Decidable.byContradiction fun hd => hr (mem_loose hy (hun m y hy (Ne.symm hd)) hyr)
  have hle : ((hAfter l 0 (before j) s.H).mask (loose l x.1 j)).le (hAfter l 0 D s.H) := mask_le hsame
  have hsub : ((hAfter l 0 (before j) s.H).mask (loose l x.1 j)).sub (hAfter l 0 D s.H) := fun r y hy => by
    rw [mask_get] at hy
    exact (hsame r hy.1 y).1 hy.2
  have hg : gval (rAfter l 0 D s.ρ) x.1.guard = gval (rAfter l 0 (before j) s.ρ) x.1.guard := gval_congr fun t h => ht t (.inr h)
  have late : ∀ m y, l[m]? = some y → j < m → D (0 + m) = true → unord x.1 j y.1 m := fun m y hy hjm hd => hun m y hy (by
    rw [Nat.zero_add] at hd
    have h2 : before j m = false := by simp [before]; omega
    rw [hd, h2]; simp)
  have e1 : rAfter l 0 (upd D j) s.ρ = setD (rAfter l 0 D s.ρ) x.1.dst x.2.v := by
    have := rAfter_add l 0 j D s.ρ hx (by rw [Nat.zero_add]; exact hDj) fun m y t hy hjm hd hxt hyt => ((hk.apart m y hy (late m y hy hjm hd)).1 t hyt).2.2 hxt
    rwa [Nat.zero_add] at this
  have e2 : hAfter l 0 (upd D j) s.H = (hAfter l 0 D s.H).puts x.2.Δ := by
    have := hAfter_add l 0 j D s.H hx (by rw [Nat.zero_add]; exact hDj) fun m y hy hjm hd => (hk.apart m y hy (late m y hy hjm hd)).2
    rwa [Nat.zero_add] at this
  obtain ⟨o, ho, hco⟩ := hl j x hloj hx
  rw [e1, e2]
  rcases hk.does with ⟨h1, h2, h3⟩ | ⟨h1, n, h2, h2'⟩ | ⟨h1, h2, f, xs, g, ys, cs, h3, h4, h5⟩
  · rw [h2, h3]
    refine wpOpIn_mono (fun a' w' h => ⟨μ, h, Mu.le_refl _, fun r hr => .inl hr⟩) (op_off (s := ⟨rAfter l 0 D s.ρ, hAfter l 0 D s.H, s.ms⟩) ho hco (by rw [hg]; exact h1) hR)
  · have he := aev_mono hle (by rw [aev_congr fun t h => ht t (.inl h)]; exact h2)
    by_cases hnd : n ∈ x.2.Δ.map (·.1)
    · exact wpOpIn_mono (fun a' w' ⟨μ', k1, k2, k3⟩ => ⟨μ', k1, k2, fun r hr => by
        rcases k3 r hr with h | ⟨rfl, _⟩
        · exact .inl h
        · exact .inr (h2' hnd)⟩) (op_at (s := ⟨rAfter l 0 D s.ρ, hAfter l 0 D s.H, s.ms⟩) ho hco (by rw [hg]; exact h1) he (hn n (h2' hnd)) hR)
    · have he' := aev_free (n' := max (hAfter l 0 D s.H).length ((hAfter l 0 D s.H).puts x.2.Δ).length) he hnd
      exact wpOpIn_mono (fun a' w' ⟨μ', k1, k2, k3⟩ => ⟨μ', k1, k2, fun r hr => by
        rcases k3 r hr with h | ⟨rfl, h⟩
        · exact .inl h
        · exact absurd h (by dsimp only; omega)⟩) (op_at (s := ⟨rAfter l 0 D s.ρ, hAfter l 0 D s.H, s.ms⟩) ho hco (by rw [hg]; exact h1) he' (by
          cases hq : μ (max (hAfter l 0 D s.H).length ((hAfter l 0 D s.H).puts x.2.Δ).length) with
          | none => rfl
          | some p => have := hR.dom _ (by rw [hq]; rfl); simp only at this; omega) hR)
  · have htc : ∀ t ∈ x.1.op.tmps, tget (rAfter l 0 D s.ρ) t = tget (rAfter l 0 (before j) s.ρ) t := fun t h => ht t (.inl h)
    rw [h3] at htc
    simp only [AOp.tmps, List.mem_append, or_imp, forall_and] at htc
    rw [← opd_congr htc.1] at h4
    rw [← opds_congr htc.2] at h5
    exact op_dcall (s := ⟨rAfter l 0 D s.ρ, hAfter l 0 D s.H, s.ms⟩) ho hco (by rw [hg]; exact h1) h2 h3 h4 h5 hsub hn hR

/-- An operation that is not looked at any more. -/
def gone : AOper × Oc := (⟨none, .bad, none, []⟩, ⟨.any, [], []⟩)

theorem rAfter_upto (l : List (AOper × Oc)) : ∀ (i : Nat) (D D' : Nat → Bool) (ρ : List AVal), (∀ m, m < l.length → D (i + m) = D' (i + m)) → rAfter l i D ρ = rAfter l i D' ρ := by
  induction l with
  | nil => intros; rfl
  | cons x l ih =>
    intro i D D' ρ h
    have h0 := h 0 (by simp)
    simp only [Nat.add_zero] at h0
    simp only [rAfter, h0]
    exact ih _ _ _ _ fun j hj => by have := h (j + 1) (by simp; omega); rwa [show i + (j + 1) = i + 1 + j by omega] at this
theorem hAfter_upto (l : List (AOper × Oc)) : ∀ (i : Nat) (D D' : Nat → Bool) (H : Heap), (∀ m, m < l.length → D (i + m) = D' (i + m)) → hAfter l i D H = hAfter l i D' H := by
  induction l with
  | nil => intros; rfl
  | cons x l ih =>
    intro i D D' H h
    have h0 := h 0 (by simp)
    simp only [Nat.add_zero] at h0
    simp only [hAfter, h0]
    exact ih _ _ _ _ fun j hj => by have := h (j + 1) (by simp; omega); rwa [show i + (j + 1) = i + 1 + j by omega] at this
theorem rAfter_gone (l : List (AOper × Oc)) : ∀ (i : Nat) (D : Nat → Bool) (ρ : List AVal), (∀ j x, l[j]? = some x → D (i + j) = false ∨ x = gone) → rAfter l i D ρ = ρ := by
  induction l with
  | nil => intros; rfl
  | cons x l ih =>
    intro i D ρ h
    have e : (if D i = true then setD ρ x.1.dst x.2.v else ρ) = ρ := by
      rcases h 0 x (by simp) with h | h
      · simp only [Nat.add_zero] at h; simp [h]
      · subst h; simp [gone, setD]
    simp only [rAfter, e]
    exact ih _ _ _ fun j y hy => by have := h (j + 1) y (by simpa using hy); rwa [show i + (j + 1) = i + 1 + j by omega] at this
theorem hAfter_gone (l : List (AOper × Oc)) : ∀ (i : Nat) (D : Nat → Bool) (H : Heap), (∀ j x, l[j]? = some x → D (i + j) = false ∨ x = gone) → hAfter l i D H = H := by
  induction l with
  | nil => intros; rfl
  | cons x l ih =>
    intro i D H h
    have e : (if D i = true then H.puts x.2.Δ else H) = H := by
      rcases h 0 x (by simp) with h | h
      · simp only [Nat.add_zero] at h; simp [h]
      · subst h; simp [gone, Heap.puts]
    simp only [hAfter, e]
    exact ih _ _ _ fun j y hy => by have := h (j + 1) y (by simpa using hy); rwa [show i + (j + 1) = i + 1 + j by omega] at this

/-- The rest of a drawn region, when just the first 'lo' operations are done. -/
def DR (P : Program) (G : Ctx) (k : Nat) (rd : Option Nat) (ops : Array Oper) (lo : Nat) (s : St) (K : St → Prop) : Prop :=
  ∀ μ ro a w (L : Array Bool) (fuel : Nat) (Q : Exit → Act → World → Prop), RdOK k μ rd ro → Rel P G μ s a w → L.size = ops.size → (∀ m, m < ops.size → L.getD m true = decide (m < lo)) → L.toList.count false ≤ fuel →
    (∀ μ' s' a' w', K s' → Mu.leB k μ μ' → Rel P G μ' s' a' w' → Q .normal a' w') → wpAnyIn (Fw ro) 0 P .any ops Q fuel L a w

/-- All that must come before an operation stands before it. -/
def Upward (ops : Array Oper) : Prop := ∀ (j : Nat) (o : Oper), ops[j]? = some o → edgesOk j o = true

theorem closures_lt (hu : Upward ops) : ∀ (i m : Nat), m ∈ (closures ops.toList).getD i [] → m < i := by
  intro i
  induction i using Nat.strongRecOn with
  | ind i ih =>
    intro m hm
    by_cases hi : i < ops.size
    · obtain ⟨e, he1, he2, he3⟩ := mem_closures (l := ops.toList) (j := i) (o := ops[i]) (by simp [hi]) hm
      have hlt : e.on < i := by
        have := List.all_eq_true.1 (hu i ops[i] (by simp [hi])) e (List.mem_filter.2 ⟨he1, he2⟩)
        simpa using this
      rcases he3 with rfl | he3
      · exact hlt
      · have := ih e.on hlt m he3; omega
    · rw [List.getD_eq_getElem?_getD, List.getElem?_eq_none (by rw [closures_len]; simp; omega)] at hm
      simp at hm

theorem lt_closed (hu : Upward ops) (lo : Nat) {D : Nat → Bool} (hD : ∀ m, m < ops.size → D m = decide (m < lo)) (hD' : ∀ m, ops.size ≤ m → D m = true) : Closed ops D := by
  intro i m hi hm
  have hlt := closures_lt hu i m hm
  by_cases hs : i < ops.size
  · rw [hD i hs] at hi
    rw [hD m (by omega)]
    simp at hi ⊢; omega
  · rw [List.getD_eq_getElem?_getD, List.getElem?_eq_none (by rw [closures_len]; simp; omega)] at hm
    simp at hm

theorem getD_big {L : Array Bool} {m : Nat} (h : L.size ≤ m) : L.getD m true = true := by simp [Array.getD, Nat.not_lt.2 h]

theorem upd_getD {L : Array Bool} {j : Nat} (hj : j < L.size) : (fun m => (L.setIfInBounds j true).getD m true) = upd (fun m => L.getD m true) j := by
  funext m
  unfold upd
  by_cases hmj : m = j
  · subst hmj
    rw [if_pos rfl]
    simp [Array.getD, hj]
  · rw [if_neg hmj]
    by_cases hs : m < L.size
    · simp [Array.getD, hs, Array.getElem_setIfInBounds, Ne.symm hmj]
    · simp [Array.getD, hs]

theorem count_upd {L : Array Bool} {j n : Nat} (hj : j < L.size) (h0 : L.getD j true = false) (h : L.toList.count false ≤ n + 1) : (L.setIfInBounds j true).toList.count false ≤ n := by
  have hjl : j < L.toList.length := by simpa using hj
  have h0 : L.toList[j] = false := by
    simp [Array.getD, hj] at h0
    simpa using h0
  have h1 : (L.toList.set j true).count false = L.toList.count false - 1 := by rw [List.count_set hjl, h0]; simp
  have h2 : 0 < L.toList.count false := List.count_pos_iff.2 (by rw [← h0]; exact List.getElem_mem hjl)
  rw [Array.toList_setIfInBounds, h1]
  omega

/-- The first operation that is not done is ready. -/
theorem first_ready (hu : Upward ops) {L : Array Bool} {j : Nat} (hsz : L.size = ops.size) (hj : L.getD j true = false) (hb : ∀ m, m < j → L.getD m true = true) : j ∈ Region.ready .any ops L := by
  have hjs : j < ops.size := by
    rw [← hsz]
    refine Decidable.byContradiction fun h => ?_
    rw [getD_big (by omega)] at hj; cases hj
  unfold Region.ready
  rw [List.mem_filter]
  refine ⟨List.mem_range.2 hjs, ?_⟩
  rw [hj, Array.getElem?_eq_getElem hjs]
  simp only [Bool.not_false, Bool.true_and, Option.map_some, Option.getD_some, Array.all_eq_true_iff_forall_mem, Bool.or_eq_true, Bool.not_eq_true']
  intro e hem
  by_cases hbd : Region.binds .any e = true
  · right
    have hlt : e.on < j := by
      have := List.all_eq_true.1 (hu j ops[j] (by simp [hjs])) e (List.mem_filter.2 ⟨by simpa using hem, hbd⟩)
      simpa using this
    have h3 := hb e.on hlt
    have hs : e.on < L.size := by omega
    simp [Array.getD, hs] at h3 ⊢
    exact h3
  · left; simpa using hbd

/-- What is ready is not done, and all that must come before it is. -/
theorem ready_pre {L : Array Bool} {j : Nat} (hsz : L.size = ops.size) (hcl : Closed ops fun m => L.getD m true) (hj : j ∈ Region.ready .any ops L) :
    j < ops.size ∧ L.getD j true = false ∧ ∀ i ∈ (closures ops.toList).getD j [], L.getD i true = true := by
  unfold Region.ready at hj
  rw [List.mem_filter] at hj
  obtain ⟨hjs, hj2⟩ := hj
  have hjs := List.mem_range.1 hjs
  rw [Array.getElem?_eq_getElem hjs] at hj2
  simp only [Option.map_some, Option.getD_some, Bool.and_eq_true, Bool.not_eq_true', Array.all_eq_true_iff_forall_mem, Bool.or_eq_true] at hj2
  obtain ⟨hDj, hedges⟩ := hj2
  have hon : ∀ e ∈ ops[j].after.toList, Region.binds .any e = true → L.getD e.on true = true := by
    intro e hem hb
    rcases hedges e (by simpa using hem) with h | h
    · rw [hb] at h; cases h
    · by_cases hs : e.on < L.size
      · simp [Array.getD, hs] at h ⊢; exact h
      · simp [Array.getD, hs]
  refine ⟨hjs, hDj, fun i hi => ?_⟩
  obtain ⟨e, he1, he2, he3⟩ := mem_closures (l := ops.toList) (j := j) (o := ops[j]) (by simp [hjs]) hi
  rcases he3 with rfl | he3
  · exact hon e he1 he2
  · exact hcl e.on i (hon e he1 he2) he3

theorem dr_end {lo : Nat} {K : St → Prop} (hlo : ops.size ≤ lo) (h : K s) : DR P G k rd ops lo s K := by
  intro μ ro a w L fuel Q _ hR hsz hL _ hQ
  refine wpAnyIn_done ?_ (hQ μ s a w h (Mu.leB_refl _ _) hR) fuel
  unfold Region.ready
  rw [List.filter_eq_nil_iff]
  intro i hi
  have := hL i (List.mem_range.1 hi)
  rw [this]
  simp; intro h; have := List.mem_range.1 hi; omega

/-- An operation that is ordered with all others. -/
theorem dr_bar (hu : Upward ops) {lo : Nat} {o : Oper} {K : St → Prop} (ho : ops[lo]? = some o) (hafter : ∀ m, lo < m → m < ops.size → lo ∈ (closures ops.toList).getD m [])
    (h : OpA P G k rd (coper P ops true lo o) s fun s' => DR P G k rd ops (lo + 1) s' K) : DR P G k rd ops lo s K := by
  intro μ ro a w L fuel Q hrd hR hsz hL hcnt hQ
  have hlo : lo < ops.size := (Array.getElem?_eq_some_iff.1 ho).1
  have h0 : L.getD lo true = false := by rw [hL lo hlo]; simp
  have hcl : Closed ops fun m => L.getD m true := lt_closed hu lo hL fun m hm => getD_big (by omega)
  have hone : ∀ j ∈ Region.ready .any ops L, j = lo := by
    intro j hj
    obtain ⟨h1, h2, h3⟩ := ready_pre hsz hcl hj
    rw [hL j h1] at h2
    have h2 : lo ≤ j := by simpa using h2
    rcases Nat.lt_or_ge lo j with h4 | h4
    · have := h3 lo (hafter j h4 h1)
      rw [h0] at this; cases this
    · omega
  have hin : lo ∈ Region.ready .any ops L := first_ready hu hsz h0 fun m hm => by rw [hL m (by omega)]; simpa using hm
  cases fuel with
  | zero =>
    exfalso
    have h2 : 0 < L.toList.count false := List.count_pos_iff.2 (by
      have : lo < L.size := by omega
      simp [Array.getD, this] at h0
      rw [← h0]; simp)
    omega
  | succ fuel =>
    refine ⟨fun hn => absurd hin (by rw [hn]; exact List.not_mem_nil), fun j hj => ?_⟩
    obtain rfl := hone j hj
    refine wpOpIn_mono ?_ (h ops true j o Q ho rfl μ ro a w hrd hR)
    rintro a' w' ⟨μ', s', hs', hle, hR'⟩
    refine hs' μ' ro a' w' _ fuel Q (hrd.mono hle) hR' (by simpa using hsz) (fun m hm => ?_) (count_upd (by omega) h0 hcnt) fun μ₂ s₂ a₂ w₂ h1 h2 h3 => hQ μ₂ s₂ a₂ w₂ h1 (Mu.leB_trans hle h2) h3
    have := congrFun (upd_getD (L := L) (j := j) (by omega)) m
    rw [this]
    unfold upd
    by_cases hmj : m = j
    · subst hmj; simp
    · rw [if_neg hmj]
      show L.getD m true = _
      rw [hL m hm]
      simp only [decide_eq_decide]; omega

/-- Operations of which each outcome is known, in whatever order. -/
theorem dr_seg (hu : Upward ops) {l : List (AOper × Oc)} {lo : Nat} {K : St → Prop} (hlen : l.length ≤ ops.size) (hlo : lo ≤ l.length) (hl : ∀ j x, lo ≤ j → l[j]? = some x → ∃ o, ops[j]? = some o ∧ coper P ops true j o = x.1)
    (hgone : ∀ j x, j < lo → l[j]? = some x → x = gone) (hchk : ∀ j x, lo ≤ j → l[j]? = some x → Chk P s l j x) (hcut : ∀ m j, l.length ≤ m → m < ops.size → lo ≤ j → j < l.length → j ∈ (closures ops.toList).getD m [])
    (h : DR P G k rd ops l.length ⟨rAfter l 0 (fun _ => true) s.ρ, hAfter l 0 (fun _ => true) s.H, s.ms⟩ K) : DR P G k rd ops lo s K := by
  intro μ ro a w L fuel Q hrd hR hsz hL hcnt hQ
  have key : ∀ (fuel : Nat) (L : Array Bool) (μ' : Mu) (a : Act) (w : World), L.size = ops.size → L.toList.count false ≤ fuel → Closed ops (fun m => L.getD m true) → Mu.leB k μ μ' → (∀ m, m < lo → L.getD m true = true) →
      (∀ m, l.length ≤ m → m < ops.size → L.getD m true = false) →
      (∀ j x, l[j]? = some x → L.getD j true = false → ∀ r ∈ x.2.fs, μ' r = none) → Rel P G μ' ⟨rAfter l 0 (fun m => L.getD m true) s.ρ, hAfter l 0 (fun m => L.getD m true) s.H, s.ms⟩ a w →
      wpAnyIn (Fw ro) 0 P .any ops Q fuel L a w := by
    have fin : ∀ (fuel : Nat) (L : Array Bool) (μ' : Mu) (a : Act) (w : World), L.size = ops.size → L.toList.count false ≤ fuel → (∀ m, l.length ≤ m → m < ops.size → L.getD m true = false) → (∀ j, j < l.length → L.getD j true = true) → Mu.leB k μ μ' →
        Rel P G μ' ⟨rAfter l 0 (fun m => L.getD m true) s.ρ, hAfter l 0 (fun m => L.getD m true) s.H, s.ms⟩ a w → wpAnyIn (Fw ro) 0 P .any ops Q fuel L a w := by
      intro fuel L μ' a w hsz hcnt hhi hall hle hR'
      have e1 : rAfter l 0 (fun m => L.getD m true) s.ρ = rAfter l 0 (fun _ => true) s.ρ := by
        rw [rAfter_upto l 0 _ (fun _ => true) s.ρ]; intro m hm; simpa using hall m (by omega)
      have e2 : hAfter l 0 (fun m => L.getD m true) s.H = hAfter l 0 (fun _ => true) s.H := by
        rw [hAfter_upto l 0 _ (fun _ => true) s.H]; intro m hm; simpa using hall m (by omega)
      rw [e1, e2] at hR'
      refine h μ' ro a w L fuel Q (hrd.mono hle) hR' hsz (fun m hm => ?_) hcnt fun μ₂ s₂ a₂ w₂ h1 h2 h3 => hQ μ₂ s₂ a₂ w₂ h1 (Mu.leB_trans hle h2) h3
      by_cases hml : m < l.length
      · rw [hall m hml]; simp [hml]
      · rw [hhi m (by omega) hm]; simp [hml]
    intro fuel
    induction fuel with
    | zero =>
      intro L μ' a w hsz hcnt hcl hle hlo0 hhi hfr hR'
      refine fin 0 L μ' a w hsz hcnt hhi (fun j hj => ?_) hle hR'
      have : false ∉ L.toList := List.count_eq_zero.1 (by omega)
      cases h : L.getD j true with
      | true => rfl
      | false =>
        refine absurd ?_ this
        by_cases hj : j < L.size
        · simp [Array.getD, hj] at h; rw [← h]; simp
        · simp [Array.getD, hj] at h
    | succ fuel ih =>
      intro L μ' a w hsz hcnt hcl hle hlo0 hhi hfr hR'
      by_cases hall : ∀ j, j < l.length → L.getD j true = true
      · exact fin (fuel + 1) L μ' a w hsz hcnt hhi hall hle hR'
      · have hlast : ∀ m, (∀ j, j < m → j < l.length → L.getD j true = true) ∨ ∃ j, j < m ∧ j < l.length ∧ L.getD j true = false ∧ ∀ i, i < j → L.getD i true = true := by
          intro m
          induction m with
          | zero => exact .inl fun j hj => by omega
          | succ m ihm =>
            rcases ihm with h1 | ⟨j, h1, h2, h3⟩
            · by_cases hm : m < l.length
              · cases hv : L.getD m true with
                | true =>
                  left
                  intro j hj hjl
                  by_cases hjm : j = m
                  · subst hjm; exact hv
                  · exact h1 j (by omega) hjl
                | false => exact .inr ⟨m, by omega, hm, hv, fun i hi => h1 i hi (by omega)⟩
              · left
                intro j hj hjl
                exact h1 j (by omega) hjl
            · exact .inr ⟨j, by omega, h2, h3⟩
        obtain ⟨j0, _, hj0, hj0f, hj0b⟩ : ∃ j, j < l.length ∧ j < l.length ∧ L.getD j true = false ∧ ∀ i, i < j → L.getD i true = true := by
          rcases hlast l.length with h1 | h1
          · exact absurd (fun j hj => h1 j hj hj) hall
          · exact h1
        have hin : j0 ∈ Region.ready .any ops L := first_ready hu hsz hj0f hj0b
        refine ⟨fun hn => absurd hin (by rw [hn]; exact List.not_mem_nil), fun j hj => ?_⟩
        obtain ⟨hjs, hDj, hpre⟩ := ready_pre hsz hcl hj
        have hloj : lo ≤ j := by
          refine Decidable.byContradiction fun hc => ?_
          rw [hlo0 j (by omega)] at hDj; cases hDj
        have hjl : j < l.length := by
          refine Decidable.byContradiction fun hc => ?_
          have hj0lo : lo ≤ j0 := by
            refine Decidable.byContradiction fun hc => ?_
            rw [hlo0 j0 (by omega)] at hj0f; cases hj0f
          have := hpre j0 (hcut j j0 (by omega) hjs hj0lo hj0)
          rw [hj0f] at this; cases this
        have hx : l[j]? = some l[j] := List.getElem?_eq_getElem hjl
        have hupd := upd_getD (L := L) (j := j) (by omega)
        refine wpOpIn_mono ?_ (draw_step hl hchk hlo0 hcl hloj hx hDj hpre hR' (hfr j _ hx hDj))
        rintro a' w' ⟨μ'', hR'', hle', hnew⟩
        refine ih (L.setIfInBounds j true) μ'' a' w' (by simpa using hsz) (count_upd (by omega) hDj hcnt) ?_ (Mu.leB_trans hle (Mu.leB_of hle')) ?_ ?_ ?_ ?_
        · intro i m hi hmi
          rw [hupd] at hi ⊢
          unfold upd at hi ⊢
          by_cases hmj : m = j
          · rw [if_pos hmj]
          · rw [if_neg hmj]
            by_cases hij : i = j
            · subst hij; exact hpre m hmi
            · rw [if_neg hij] at hi; exact hcl i m hi hmi
        · intro m hm
          have := congrFun hupd m
          rw [this]
          unfold upd
          rw [if_neg (by omega)]; exact hlo0 m hm
        · intro m hm hms
          have := congrFun hupd m
          rw [this]
          unfold upd
          rw [if_neg (by omega)]; exact hhi m hm hms
        · intro i y hy hi r hr
          have := congrFun hupd i
          rw [this] at hi
          unfold upd at hi
          split at hi
          · cases hi
          · rename_i hij
            cases hq : μ'' r with
            | none => rfl
            | some p =>
              rcases hnew r (by rw [hq]; rfl) with h | h
              · rw [hfr i y hy hi r hr] at h; cases h
              · exact absurd hr ((hchk j _ hloj hx).own i y hy hij r h)
        · rw [hupd]; exact hR''
  refine key fuel L μ a w hsz hcnt (lt_closed hu lo hL fun m hm => getD_big (by omega)) (Mu.leB_refl _ _) (fun m hm => by rw [hL m (by omega)]; simpa using hm) (fun m h1 h2 => by rw [hL m h2]; simp; omega) ?_ ?_
  · intro j x hx hj r hr
    have hjl : j < l.length := (List.getElem?_eq_some_iff.1 hx).1
    have hloj : lo ≤ j := by
      rw [hL j (by omega)] at hj
      simpa using hj
    cases hq : μ r with
    | none => rfl
    | some p => have := hR.dom r (by rw [hq]; rfl); have := (hchk j x hloj hx).old r hr; omega
  · have e1 : rAfter l 0 (fun m => L.getD m true) s.ρ = s.ρ := rAfter_gone l 0 _ _ fun j x hx => by
      by_cases hj : j < lo
      · exact .inr (hgone j x hj hx)
      · left
        have hjl : j < l.length := (List.getElem?_eq_some_iff.1 hx).1
        rw [Nat.zero_add, hL j (by omega)]; simp; omega
    have e2 : hAfter l 0 (fun m => L.getD m true) s.H = s.H := hAfter_gone l 0 _ _ fun j x hx => by
      by_cases hj : j < lo
      · exact .inr (hgone j x hj hx)
      · left
        have hjl : j < l.length := (List.getElem?_eq_some_iff.1 hx).1
        rw [Nat.zero_add, hL j (by omega)]; simp; omega
    rw [e1, e2]
    exact ⟨hR.tr, hR.hr, hR.dom, hR.mk', hR.mkr⟩

theorem aw_reg_dr (hm : P.follows .mixedOrders = true) {aops : List AOper} {Q : Exit → St → Prop}
    (h : ∀ ops : Array Oper, aops = (ops.toList.zipIdx.map fun (o, i) => coper P ops true i o) → DR P G k rd ops 0 s (Q .normal)) : AW P G k rd (.reg aops true) Q s := fun code hc => by
  cases code <;> simp only [ccode] at hc <;> first | (cases hc; done) | skip
  rename_i id ops draw
  simp only [ACode.reg.injEq] at hc
  obtain ⟨hops, rfl⟩ := hc
  intro μ ro a w hrd hR
  refine wpIn_region_any hm ?_
  refine h ops hops.symm μ ro a _ _ _ _ hrd ⟨hR.tr, ⟨hR.hr.row, hR.hr.apart, hR.hr.kept, hR.hr.ro, hR.hr.calm⟩, hR.dom, hR.mk', hR.mkr⟩ (by simp) (fun m hm => by simp [Array.getD, hm]) (by simp [List.count_replicate]) ?_
  intro μ' s' a' w' hK hle hR'
  exact ⟨μ', s', hK, hle, hR'⟩
end
end Go.Sx
