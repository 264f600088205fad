/- Ranges over functions: the loop's record, its rounds. -/
import Derived.Test.YtnfnjolpojofcabSxFrz
import Derived.RangeFuncNested
namespace Go.Sx
open Go

/-- A round's temporaries. -/
def psets : List AVal → List Nat → List AVal → List AVal
  | ρ, p :: ps, x :: xs => psets (tset ρ p x) ps xs
  | ρ, _, _ => ρ

section
variable {P : Program} {G : Ctx} {k : Nat} {rd : Option Nat} {s : St}

/-- A row is let go, whatever becomes of its block. -/
theorem HR.kill {μ : Mu} {H : Heap} {hp : World} {r : Nat} {x : Row} {p : Place} (h : HR P G μ H hp) (hr : H[r]? = some (some x)) (hp1 : μ r = some p) (o : Obj) : HR P G μ (H.set r none) (hp.putObj p.blk o) := by
  have hne : ∀ s x, (H.set r none)[s]? = some (some x) → s ≠ r ∧ H[s]? = some (some x) := by
    intro s x hs
    by_cases hsr : r = s
    · subst hsr
      rw [List.getElem?_set_self (by obtain ⟨hlt, _⟩ := List.getElem?_eq_some_iff.1 hr; exact hlt)] at hs
      cases hs
    · rw [List.getElem?_set_ne hsr] at hs
      exact ⟨Ne.symm hsr, hs⟩
  have hblk : ∀ s x q, (H.set r none)[s]? = some (some x) → μ s = some q → q.blk ≠ p.blk := by
    intro s x q hs hq
    obtain ⟨h1, h2⟩ := hne s x hs
    exact h.apart s r x _ q p h2 hr hq hp1 h1
  obtain ⟨p0, e1, hk, e2, _⟩ := h.row r _ hr
  rw [hp1] at e1; cases e1
  constructor
  · intro s x hs
    obtain ⟨h1, h2⟩ := hne s x hs
    obtain ⟨q, h3, h4, h5, h6⟩ := h.row s x h2
    exact ⟨q, h3, h4, by simpa [World.putObj] using h5, h6.mono (Mu.le_refl _) (by show (hp.heap.setIfInBounds p.blk o)[q.blk]? = _; rw [Array.getElem?_setIfInBounds_ne (Ne.symm (hblk s x q hs h3))])⟩
  · intro s s' x x' q q' hs hs' hq hq' hn
    exact h.apart s s' x x' q q' (hne s x hs).2 (hne s' x' hs').2 hq hq' hn
  · intro b hb
    obtain ⟨h1, h2⟩ := h.kept b hb
    refine ⟨by simpa [World.putObj] using h1, ?_⟩
    show (hp.heap.setIfInBounds p.blk o)[b]? = _
    rw [Array.getElem?_setIfInBounds_ne (fun e => hk (by rw [e]; exact hb))]; exact h2
  · exact h.ro
  · exact h.calm

/-- A loop's record in another state. -/
theorem HR.state {μ : Mu} {H : Heap} {hp : World} {r : Nat} {p : Place} {ρ : List AVal} {ps : List Nat} {asg body : ACode} {d : Nat} {st : LoopState} {pend : Option ACode} {rec : Go.Loop} (h : HR P G μ H hp)
    (hr : H[r]? = some (some (.loop ρ ps asg body d st pend))) (hp1 : μ r = some p) (hrec : hp.heap[p.blk]? = some (.loop rec)) (st' : LoopState) (pe' : Option Code) :
    HR P G μ (H.put r (.loop ρ ps asg body d st' (pe'.map (ccode P)))) (hp.putObj p.blk (.loop { rec with state := st', pending := pe' })) := by
  obtain ⟨p0, e1, hk, e2, hx⟩ := h.row r _ hr
  rw [hp1] at e1; cases e1
  obtain ⟨h0, r0, h1, h2, h3, h4, h5, h6, h7, h8, h9⟩ := hx
  rw [hrec] at h1
  simp only [Option.some.injEq, Obj.loop.injEq] at h1
  subst h1
  refine h.put ⟨rfl, rfl, rfl⟩ (Mu.le_refl _) (fun _ _ => rfl) hp1 (by simp [World.putObj]) (by simpa [World.putObj] using e2) hk (fun b hb hne => by simp only [World.putObj]; rw [Array.getElem?_setIfInBounds_ne (Ne.symm hne)]) (fun s y q hs hy hq => h.apart s r y _ q p hy hr hq hp1 hs) ?_
  exact ⟨h0, { rec with state := st', pending := pe' }, by simp [World.putObj, e2], rfl, rfl, h4, h5, h6, h7, h8, h9⟩

theorem loop_rec {μ : Mu} {H : Heap} {hp : World} {r : Nat} {ρ : List AVal} {ps : List Nat} {asg body : ACode} {d : Nat} {st : LoopState} {pend : Option ACode} (h : HR P G μ H hp)
    (hr : H[r]? = some (some (.loop ρ ps asg body d st pend))) : ∃ p rec, μ r = some p ∧ p.vec = false ∧ p.blk < hp.heap.size ∧ hp.heap[p.blk]? = some (.loop rec) ∧ rec.state = st ∧ rec.pending.map (ccode P) = pend ∧ rec.params.toList = ps ∧
      ccode P rec.assign = asg ∧ ccode P rec.body = body ∧ ρ.length = rec.tmps.size ∧ ∀ t, t < ρ.length → VR G μ (ρ.getD t .any) (rec.tmps.getD t undef) := by
  obtain ⟨p, e1, hk, e2, hx⟩ := h.row r _ hr
  obtain ⟨h0, r0, h1, h2, h3, h4, h5, h6, h7, h8, h9⟩ := hx
  exact ⟨p, r0, e1, h0, e2, h1, h2, h3, h4, h5, h6, h7, h8⟩

theorem psets_tr {μ : Mu} : ∀ (ps : List Nat) (xs : List AVal) (cs : List Value) (ρ : List AVal) (tmps : Array Value), TR G μ ρ tmps → xs.length = cs.length → (∀ i, i < xs.length → VR G μ (xs.getD i .any) (cs.getD i undef)) →
    TR G μ (psets ρ ps xs) ((ps.zip cs).foldl (fun t (p, v) => t.setIfInBounds p v) tmps)
  | [], _, _, ρ, tmps, h, _, _ => by simpa [psets] using h
  | p :: ps, [], cs, ρ, tmps, h, hl, _ => by
    have : cs = [] := List.eq_nil_of_length_eq_zero (by simpa using hl.symm)
    subst this
    simpa [psets] using h
  | p :: ps, x :: xs, [], ρ, tmps, h, hl, _ => by simp at hl
  | p :: ps, x :: xs, c :: cs, ρ, tmps, h, hl, hv => by
    simp only [psets, List.zip_cons_cons, List.foldl_cons]
    refine psets_tr ps xs cs _ _ ?_ (by simpa using hl) fun i hi => by simpa using hv (i + 1) (by simpa using hi)
    have := TR.put (a := { tmps := tmps, defers := [] }) h (by simpa using hv 0 (by simp)) (some p)
    simpa [setD, Act.put] using this

/-- What is asked of a round's end. -/
def RoundEnd (r : Nat) (R : AVal → Heap → Prop) (e : Exit) (s : St) : Prop :=
  ∃ ρ ps asg body d st pend, s.H[r]? = some (some (.loop ρ ps asg body d st pend)) ∧
    match e with
    | .normal => R (.bool true) (s.H.put r (.loop ρ ps asg body d .ready none))
    | .ret => R (.bool false) (s.H.put r (.loop ρ ps asg body d .done (some .ret)))
    | .exit id => R (.bool false) (s.H.put r (.loop ρ ps asg body d .done (some (.exit id))))
    | .goto t => R (.bool false) (s.H.put r (.loop ρ ps asg body d .done (some (.goto t))))
    | _ => False

/-- What is asked behind the assignments to a loop's left sides. -/
def RoundMid (P : Program) (G : Ctx) (k : Nat) (r : Nat) (body : ACode) (R : AVal → Heap → Prop) (e : Exit) (s : St) : Prop :=
  e = .normal ∧ ∃ ρ ps asg body' d pend, s.H[r]? = some (some (.loop ρ ps asg body' d .ready pend)) ∧
    AW P G k (some r) body (RoundEnd r R) ⟨s.ρ, s.H.put r (.loop ρ ps asg body' d .busy pend), s.ms⟩

/-- A call of a loop's yield: a round. -/
theorem op_round {ao : AOper} {K : St → Prop} {f : AOpd} {xs : List AOpd} {r : Nat} {ρr : List AVal} {ps : List Nat} {asg body : ACode} {d : Nat} {pend : Option ACode} {R : AVal → Heap → Prop} (hg : gval s.ρ ao.guard = some true) (ho : ao.op = .call f xs)
    (hf : opd s.ρ f = .yfn r) (hr : s.H[r]? = some (some (.loop ρr ps asg body d .ready pend))) (hn : xs.length = ps.length)
    (h : AW P G s.H.length (some r) asg (RoundMid P G s.H.length r body R) ⟨psets ρr ps (xs.map (opd s.ρ)), s.H, []⟩) (hk : k ≤ s.H.length)
    (hK : ∀ v H', R v H' → (∀ q ∈ s.ms, H'[q]? = some (some .dfr)) ∧ K { s with ρ := setD s.ρ ao.dst v, H := H' }) : OpA P G k rd ao s K := by
  intro ops draw i o Q hi hcc μ ro a w hrd hR
  have hnb : ao.op ≠ .bad := by rw [ho]; simp
  obtain ⟨h1, h2, h3⟩ := coper_parts hcc hnb
  have hw := wanted_of hR.tr ops o h1 hg
  simp only [wpOpIn, hi, if_pos hw]
  rw [ho] at h2
  obtain ⟨c, x, hoc, hcal, hfx, hxs⟩ := cop_call h2
  have hx := opd_sound hR.tr x
  rw [hfx, hf] at hx
  obtain ⟨cf, hcf⟩ : ∃ cf, a.eval x = cf := ⟨_, rfl⟩
  rw [hcf] at hx
  cases hx with
  | yfn _ p hp hv =>
    obtain ⟨p', rec, k1, k2, k3, k4, k5, k6, k7, k8, k9, k10, k11⟩ := loop_rec hR.hr hr
    rw [hp] at k1; cases k1
    have hnd : ∀ c', o.op ≠ .defer c' := by intro c' hd; rw [hoc] at hd; cases hd
    have hsz : (c.args.map a.eval).size = rec.params.size := by
      rw [← Array.length_toList, ← Array.length_toList, k7, ← hn, ← hxs]; simp
    have hrun : (execOp a.eval o).run P w = .ok (.round p.blk rec.fn ((rec.params.zip (c.args.map a.eval)).foldl (fun tmps (t, a) => tmps.setIfInBounds t a) rec.tmps) rec.assign rec.body) w := by
      have := run_yield (P := P) (args := c.args.map a.eval) k4 hsz
      simp [execOp, hoc, resolve, hcal, hcf, Deferred.ofValue, invoke]
      simpa using this
    unfold Oper.wpIn
    refine ⟨fun _ _ => trivial, ?_⟩
    rw [Oper.semAt_eq _ _ _ hnd, hrun, Oper.uponIn_round]
    refine ⟨fun hd => by simp [Fw, Fence.wide] at hd, ?_⟩
    refine roundIn_of_wpIn trivial ?_
    have hF : (Fw ro).inRound p.blk = Fw (some p.blk) := rfl
    rw [hF]
    have hrel : Rel P G μ ⟨psets ρr ps (xs.map (opd s.ρ)), s.H, []⟩ { tmps := (rec.params.zip (c.args.map a.eval)).foldl (fun tmps (t, a) => tmps.setIfInBounds t a) rec.tmps, defers := [] } w := by
      refine ⟨?_, hR.hr, hR.dom, rfl, fun q hq => by simp at hq⟩
      have e : (rec.params.zip (c.args.map a.eval)).foldl (fun tmps (t, a) => tmps.setIfInBounds t a) rec.tmps = (ps.zip (c.args.map a.eval).toList).foldl (fun t (p, v) => t.setIfInBounds p v) rec.tmps := by
        rw [← k7, ← Array.foldl_toList, Array.toList_zip]
      simp only [e]
      refine psets_tr ps _ _ _ _ ⟨k10, fun t => ?_⟩ (by rw [← hxs]; simp) fun j hj => ?_
      · by_cases ht : t < ρr.length
        · exact k11 t ht
        · rw [List.getD_eq_getElem?_getD, List.getElem?_eq_none (by omega)]; exact .any _
      · subst hxs
        have hjx : j < c.args.size := by simpa using hj
        simp only [List.getD_eq_getElem?_getD, List.map_map, List.getElem?_map, Array.toList_map, Array.getElem?_toList]
        simp [hjx]
        exact opd_sound hR.tr _
    have hrlt : r < s.H.length := (List.getElem?_eq_some_iff.1 hr).1
    have hasg := h rec.assign k8 μ (some p.blk) _ w ⟨hrlt, p, hp, k2, rfl⟩ hrel
    refine wpIn_mono hasg ?_
    rintro e a₁ w₁ ⟨μ₁, s₁, ⟨rfl, ρ₁, ps₁, asg₁, body₁, d₁, pend₁, hr₁, hbody⟩, hle₁, hR₁⟩
    obtain ⟨p₁, rec₁, m1, m2, m3, m4, m5, m6, m7, m8, m9, m10, m11⟩ := loop_rec hR₁.hr hr₁
    have hp₁ : p₁ = p := by
      obtain ⟨q, q1, rfl | ⟨q2, _⟩⟩ := hle₁ r p hrlt hp
      · rw [m1] at q1; cases q1; rfl
      · rw [k2] at q2; cases q2
    subst hp₁
    refine ⟨_, run_beginRound m4 m5, ?_⟩
    have hR₁' : Rel P G μ₁ ⟨s₁.ρ, s₁.H.put r (.loop ρ₁ ps₁ asg₁ body₁ d₁ .busy pend₁), s₁.ms⟩ a₁ (w₁.putObj p₁.blk (.loop { rec₁ with state := .busy })) := by
      refine ⟨hR₁.tr, ?_, fun q hq => ?_, hR₁.mk', fun q hq => ?_⟩
      · have := hR₁.hr.state hr₁ m1 m4 .busy rec₁.pending
        rw [m6] at this
        exact this
      · have := hR₁.dom q hq
        rw [Heap.len_put]; omega
      · have hq' := hR₁.mkr q hq
        refine (Heap.put_other _ _ (fun e => ?_) _).2 hq'
        subst e
        rw [hr₁] at hq'; cases hq'
    refine wpIn_mono (hbody rec.body k9 μ₁ (some p₁.blk) a₁ _ ⟨hrlt, p₁, m1, m2, rfl⟩ hR₁') ?_
    rintro e a₂ w₂ ⟨μ₂, s₂, ⟨ρ₂, ps₂, asg₂, body₂, d₂, st₂, pend₂, hr₂, hend⟩, hle₂, hR₂⟩
    obtain ⟨p₂, rec₂, n1, n2, n3, n4, n5, n6, n7, n8, n9, n10, n11⟩ := loop_rec hR₂.hr hr₂
    have hp₂ : p₂ = p₁ := by
      obtain ⟨q, q1, rfl | ⟨q2, _⟩⟩ := hle₂ r p₁ hrlt m1
      · rw [n1] at q1; cases q1; rfl
      · rw [m2] at q2; cases q2
    subst hp₂
    have hle : μ.le μ₂ := fun q p' hq => Mu.leB_trans hle₁ hle₂ q p' (hR.dom q (by rw [hq]; rfl)) hq
    have fin : ∀ (b : Bool) (st' : LoopState) (pe' : Option Code), R (.bool b) (s₂.H.put r (.loop ρ₂ ps₂ asg₂ body₂ d₂ st' (pe'.map (ccode P)))) →
        NPost P G k μ K (a.put o.dst (.bool b)) (w₂.putObj p₂.blk (.loop { rec₂ with state := st', pending := pe' })) := by
      intro b st' pe' hRR
      obtain ⟨hm, hKK⟩ := hK _ _ hRR
      refine ⟨μ₂, _, hKK, Mu.leB_of hle, ?_⟩
      rw [← h3]
      refine ⟨(hR.tr.mono hle).put (.bool b) _, hR₂.hr.state hr₂ n1 n4 st' pe', fun q hq => ?_, ?_, hm⟩
      · have := hR₂.dom q hq
        simp only [Heap.len_put]; omega
      · rw [put_defers, hR.mk']; exact (hR.same_marks hle).symm
    cases e with
    | normal => exact ⟨_, _, run_endRound none n4, fin true .ready none hend⟩
    | ret => exact ⟨_, _, run_endRound (some .ret) n4, fin false .done (some .ret) hend⟩
    | exit id => exact ⟨_, _, run_endRound (some (.exit id)) n4, fin false .done (some (.exit id)) hend⟩
    | goto t => exact ⟨_, _, run_endRound (some (.goto t)) n4, fin false .done (some (.goto t)) hend⟩
    | panic chain => exact hend.elim
    | outgrown => exact hend.elim

/-- What is asked when the function that was ranged over has returned. -/
def RngEnd (P : Program) (G : Ctx) (k : Nat) (rd : Option Nat) (l : Nat) (ρ : List AVal) (ms : List Nat) (Q : Exit → St → Prop) (H' : Heap) : Prop :=
  (∀ q ∈ ms, H'[q]? = some (some .dfr)) ∧ ∃ ρ' ps' asg' body' d' st pend, H'[l]? = some (some (.loop ρ' ps' asg' body' d' st pend)) ∧ st ≠ .busy ∧
    match pend with
    | none => Q .normal ⟨ρ, H'.set l none, ms⟩
    | some c => AW P G k rd c Q ⟨ρ, H'.set l none, ms⟩

theorem place_row {μ : Mu} {H : Heap} {w : World} {r : Nat} {x : Row} {o : Obj} (hR : HR P G μ H w) (hd : Dom μ H) (hr : r = H.length) (hx : ∀ μ' : Mu, μ.le μ' → RowIs P G μ' ⟨w.heap.size, 0, 0, 0, 0, false, false⟩ (w.alloc o).heap x) :
    ∃ μ' : Mu, μ' r = some ⟨w.heap.size, 0, 0, 0, 0, false, false⟩ ∧ μ.le μ' ∧ HR P G μ' (H ++ [some x]) (w.alloc o) ∧ Dom μ' (H ++ [some x]) := by
  subst hr
  have hno : μ H.length = none := by
    cases h : μ H.length with
    | none => rfl
    | some p => have := hd H.length (by rw [h]; rfl); omega
  have hheap : (w.alloc o).heap = w.heap.push o := rfl
  let μ' : Mu := fun q => if q = H.length then some ⟨w.heap.size, 0, 0, 0, 0, false, false⟩ else μ q
  have hle : μ.le μ' := fun q p hq => by
    have : q ≠ H.length := fun e => by rw [e, hno] at hq; cases hq
    exact ⟨p, by simp [μ', this, hq], .inl rfl⟩
  refine ⟨μ', by simp [μ'], hle, ?_, fun q hq => ?_⟩
  · rw [← Heap.put_end]
    refine hR.put (p := ⟨w.heap.size, 0, 0, 0, 0, false, false⟩) ⟨rfl, rfl, rfl⟩ hle (fun q hq => by simp [μ', hq]) (by simp [μ']) (by rw [hheap]; simp) (by rw [hheap]; simp) (fun hk => ?_) (fun b hb _ => by rw [hheap, Array.getElem?_push_lt hb, Array.getElem?_eq_getElem hb]) (fun q y p hq hy hp => ?_) (hx μ' hle)
    · exact absurd (hR.kept _ hk).1 (by simp)
    · obtain ⟨p', k1, _, k3, _⟩ := hR.row q y hy
      rw [hp] at k1; cases k1
      simp only; omega
  · by_cases h : q = H.length
    · subst h; simp
    · simp only [μ', if_neg h] at hq
      have := hd q hq; simp; omega

theorem aw_rng_outer {g : AOpd} {ps : List Nat} {asg body : ACode} {Q : Exit → St → Prop} {f : FuncId} {fs cs : List AVal} {R : AVal → Heap → Prop} (hg : opd s.ρ g = .fn (.func f) fs cs)
    (hc : CallW P G f (fs ++ [.yfn (s.H.length + 1)] ++ cs) (s.H ++ [some .dfr] ++ [some (.loop s.ρ ps asg body s.H.length .ready none)]) R) (hk : k ≤ s.H.length)
    (hK : ∀ v H', R v H' → RngEnd P G k none (s.H.length + 1) s.ρ (s.H.length :: s.ms) Q H') : AW P G k none (.rng g ps asg body) Q s := fun code hcc => by
  cases code <;> simp only [ccode] at hcc <;> cases hcc
  rename_i g' ps' asg' body'
  intro μ ro a w hrd hR
  have hro : ro = none := hrd
  subst hro
  refine wpIn_rangeFunc ?_
  intro fn _
  have hx := opd_sound hR.tr g'
  rw [hg] at hx
  obtain ⟨cf, hcf⟩ : ∃ cf, a.eval g' = cf := ⟨_, rfl⟩
  rw [hcf] at hx
  cases hx with
  | fn _ _ _ a' b' ha hb va vb =>
    -- the two rows
    obtain ⟨μ₁, e1, hle1, hH1, hd1⟩ := place_row (x := .dfr) (o := .deferred (some [])) hR.hr hR.dom rfl (fun μ' _ => ⟨rfl, World.alloc_heap_new _ _⟩)
    obtain ⟨rec, hrec⟩ : ∃ rec : Go.Loop, rec = { state := .ready, pending := none, fn, tmps := a.tmps, params := ps', assign := asg', body := body', defers := w.heap.size } := ⟨_, rfl⟩
    obtain ⟨μ₂, e2, hle2, hH2, hd2⟩ := place_row (r := s.H.length + 1) (w := w.alloc (.deferred (some []))) (x := .loop s.ρ ps'.toList (ccode P asg') (ccode P body') s.H.length .ready none) (o := .loop rec) hH1 hd1 (by simp) (fun μ' hμ' => by
      obtain ⟨pd, k1, k2⟩ := hμ' _ _ e1
      have hpd : pd = ⟨w.heap.size, 0, 0, 0, 0, false, false⟩ := by
        rcases k2 with rfl | ⟨h, _⟩
        · rfl
        · simp at h
      subst hpd
      refine ⟨rfl, rec, World.alloc_heap_new _ _, by rw [hrec], by rw [hrec]; rfl, by rw [hrec], by rw [hrec], by rw [hrec], by rw [hrec]; exact hR.tr.1, fun t ht => ?_, _, k1, rfl, by rw [hrec]⟩
      · rw [hrec]; exact (hR.tr.2 t).mono (Mu.le_trans hle1 hμ'))
    obtain ⟨W, hW⟩ : ∃ W, (w.alloc (.deferred (some []))).alloc (.loop rec) = W := ⟨_, rfl⟩
    refine ⟨w.heap.size + 1, [{ target := .collected w.heap.size, args := #[] }], W, { target := .fn (.func f) b', args := a' ++ #[.func (.yield (w.heap.size + 1)) #[] #[]] }, W, f, a' ++ #[.func (.yield (w.heap.size + 1)) #[] #[]] ++ b', W, ?_, ?_, fun _ _ => trivial, ?_, fun _ => by simp [Fw, Fence.wide] at *, ?_⟩
    · rw [← hW, hrec]; exact run_enterLoop_outer _ _ _ _ _
    · simp [resolve, hcf, Deferred.ofValue]; rfl
    · simp [invoke, run_callFunc hc.1]
    · have hW2 : HR P G μ₂ (s.H ++ [some .dfr] ++ [some (.loop s.ρ ps'.toList (ccode P asg') (ccode P body') s.H.length .ready none)]) W := by rw [← hW]; exact hH2
      have hle : μ.le μ₂ := Mu.le_trans hle1 hle2
      have hargs : ∀ j, j < (fs ++ [AVal.yfn (s.H.length + 1)] ++ cs).length → VR G μ₂ ((fs ++ [AVal.yfn (s.H.length + 1)] ++ cs).getD j .any) ((a' ++ #[Value.func (.yield (w.heap.size + 1)) #[] #[]] ++ b').getD j undef) := by
        intro j hj
        rw [List.getD_eq_getElem?_getD, Array.getD_eq_getD_getElem?]
        by_cases hj1 : j < fs.length
        · rw [List.append_assoc, List.getElem?_append_left hj1, Array.append_assoc, Array.getElem?_append_left (by omega)]
          have := va j hj1
          rw [List.getD_eq_getElem?_getD, Array.getD_eq_getD_getElem?] at this
          exact this.mono hle
        · by_cases hj2 : j = fs.length
          · subst hj2
            rw [List.getElem?_append_left (by simp), List.getElem?_append_right (by omega), Array.getElem?_append_left (by simp; omega), Array.getElem?_append_right (by omega), ha]
            simp only [Nat.sub_self, List.getElem?_cons_zero, Option.getD_some]
            have : (w.alloc (.deferred (some []))).heap.size = w.heap.size + 1 := by
              show (w.heap.push _).size = _
              simp
            have := VR.yfn (G := G) (s.H.length + 1) _ e2 rfl
            simp only at this
            simpa [*] using this
          · rw [List.getElem?_append_right (by simp; omega), Array.getElem?_append_right (by simp; omega)]
            have := vb (j - fs.length - 1) (by simp at hj; omega)
            rw [List.getD_eq_getElem?_getD, Array.getD_eq_getD_getElem?] at this
            have q1 : j - (fs ++ [AVal.yfn (s.H.length + 1)]).length = j - fs.length - 1 := by simp; omega
            have q2 : j - (a' ++ #[Value.func (.yield (w.heap.size + 1)) #[] #[]]).size = j - fs.length - 1 := by simp; omega
            rw [q1, q2]; exact this.mono hle
      have hcall := hc.2 μ₂ (a' ++ #[Value.func (.yield (w.heap.size + 1)) #[] #[]] ++ b') W (by simp [ha, hb]; omega) hargs hW2 hd2
      refine CallsIn.mono hcall ?_
      · rintro e w' ⟨v, cv, μ₃, H', rfl, hRR, hv, hH', hd', hle3⟩
        obtain ⟨hms, ρ₂, ps₂, asg₂, body₂, d₂, st₂, pend₂, hr₂, hst, hend⟩ := hK v H' hRR
        obtain ⟨p₂, rec₂, n1, n2, n3, n4, n5, n6, _⟩ := loop_rec hH' hr₂
        have hp₂ : p₂.blk = w.heap.size + 1 := by
          obtain ⟨q, q1, rfl | ⟨q2, _⟩⟩ := hle3 (s.H.length + 1) _ (by simp) e2
          · rw [n1] at q1; cases q1
            show (w.heap.push _).size = _
            simp
          · simp at q2
        have hle' : μ.le μ₃ := fun q p hq => Mu.leB_trans (Mu.leB_of hle) hle3 q p (by have := hR.dom q (by rw [hq]; rfl); simp only [List.length_append, List.length_singleton]; omega) hq
        have hdb : blkOf μ₃ s.H.length = w.heap.size := by
          obtain ⟨q, q1, q2⟩ := hle3 s.H.length _ (by simp) (by
            obtain ⟨q, q1, q2⟩ := hle2 _ _ e1
            rcases q2 with rfl | ⟨q2, _⟩
            · exact q1
            · simp at q2)
          rcases q2 with rfl | ⟨q2, _⟩
          · simp [blkOf, q1]
          · simp at q2
        have hrel : Rel P G μ₃ ⟨s.ρ, H'.set (s.H.length + 1) none, s.H.length :: s.ms⟩ { a with defers := [{ target := .collected w.heap.size, args := #[] }] ++ a.defers } (w'.putObj (w.heap.size + 1) (.loop { rec₂ with state := .exhausted })) := by
          refine ⟨hR.tr.mono hle', ?_, fun q hq => by have := hd' q hq; simpa using this, ?_, fun q hq => ?_⟩
          · have := hH'.kill hr₂ n1 (.loop { rec₂ with state := .exhausted })
            rw [hp₂] at this; exact this
          · simp only [List.map_cons, hdb, List.singleton_append, List.cons.injEq, true_and]
            rw [hR.mk']; exact (hR.same_marks hle').symm
          · have hq' := hms q hq
            show (H'.set (s.H.length + 1) none)[q]? = _
            rw [List.getElem?_set_ne (fun e => ?_)]
            · exact hq'
            · rw [e, hq'] at hr₂; cases hr₂
        refine ⟨rec₂.pending, _, run_endLoop (by rw [← hp₂]; exact n4) (by rw [n5]; exact hst), ?_⟩
        cases hpe : rec₂.pending with
        | none =>
          rw [hpe] at n6 hrel
          simp only [Option.map_none] at n6
          subst n6
          exact ⟨μ₃, _, hend, Mu.leB_of hle', hrel⟩
        | some c =>
          rw [hpe] at n6 hrel
          simp only [Option.map_some] at n6
          subst n6
          refine wpIn_mono (hend c rfl μ₃ none _ _ rfl hrel) ?_
          exact fun e a w hp => hp.from (Mu.leB_of hle') fun _ h => h
/-- A range over a function within a round of another one. -/
theorem aw_rng_inner {r₀ : Nat} {ρ₀ : List AVal} {ps₀ : List Nat} {asg₀ body₀ : ACode} {d₀ : Nat} {st₀ : LoopState} {pend₀ : Option ACode} (h₀ : s.H[r₀]? = some (some (.loop ρ₀ ps₀ asg₀ body₀ d₀ st₀ pend₀))) {g : AOpd} {ps : List Nat} {asg body : ACode} {Q : Exit → St → Prop} {f : FuncId} {fs cs : List AVal} {R : AVal → Heap → Prop} (hg : opd s.ρ g = .fn (.func f) fs cs)
    (hc : CallW P G f (fs ++ [.yfn s.H.length] ++ cs) (s.H ++ [some (.loop s.ρ ps asg body d₀ .ready none)]) R) (hk : k ≤ s.H.length)
    (hK : ∀ v H', R v H' → RngEnd P G k (some r₀) s.H.length s.ρ s.ms Q H') : AW P G k (some r₀) (.rng g ps asg body) Q s := fun code hcc => by
  cases code <;> simp only [ccode] at hcc <;> cases hcc
  rename_i g' ps' asg' body'
  intro μ ro a w hrd hR
  obtain ⟨hr0, p₀, hp₀, hv₀, rfl⟩ := hrd
  refine wpIn_rangeFunc ?_
  intro fn _
  have hx := opd_sound hR.tr g'
  rw [hg] at hx
  obtain ⟨cf, hcf⟩ : ∃ cf, a.eval g' = cf := ⟨_, rfl⟩
  rw [hcf] at hx
  cases hx with
  | fn _ _ _ a' b' ha hb va vb =>
    -- the enclosing loop's record, and the new row
    obtain ⟨p₁, hk₁, _, hb₁, hx₁⟩ := hR.hr.row r₀ _ h₀
    rw [hp₀] at hk₁; cases hk₁
    obtain ⟨_, rec₀, m1, _, _, _, _, _, _, _, pd, m2, m3, m4⟩ := hx₁
    obtain ⟨rec, hrec⟩ : ∃ rec : Go.Loop, rec = { state := .ready, pending := none, fn, tmps := a.tmps, params := ps', assign := asg', body := body', defers := rec₀.defers } := ⟨_, rfl⟩
    obtain ⟨μ₂, e2, hle2, hH2, hd2⟩ := place_row (r := s.H.length) (w := w) (x := .loop s.ρ ps'.toList (ccode P asg') (ccode P body') d₀ .ready none) (o := .loop rec) hR.hr hR.dom rfl (fun μ' hμ' => by
      obtain ⟨pd', k1, k2⟩ := hμ' _ _ m2
      have hpd : pd' = pd := by
        rcases k2 with rfl | ⟨h, _⟩
        · rfl
        · rw [m3] at h; cases h
      subst hpd
      refine ⟨rfl, rec, World.alloc_heap_new _ _, by rw [hrec], by rw [hrec]; rfl, by rw [hrec], by rw [hrec], by rw [hrec], by rw [hrec]; exact hR.tr.1, fun t ht => ?_, _, k1, m3, by rw [hrec]; exact m4⟩
      rw [hrec]; exact (hR.tr.2 t).mono hμ')
    obtain ⟨W, hW⟩ : ∃ W, w.alloc (.loop rec) = W := ⟨_, rfl⟩
    refine ⟨w.heap.size, [], W, { target := .fn (.func f) b', args := a' ++ #[.func (.yield w.heap.size) #[] #[]] }, W, f, a' ++ #[.func (.yield w.heap.size) #[] #[]] ++ b', W, ?_, ?_, fun _ _ => trivial, ?_, fun _ => by simp [Fw, Fence.wide] at *, ?_⟩
    · rw [← hW, hrec]; exact run_enterLoop_inner m1 _ _ _ _ _
    · simp [resolve, hcf, Deferred.ofValue]; rfl
    · simp [invoke, run_callFunc hc.1]
    · have hW2 : HR P G μ₂ (s.H ++ [some (.loop s.ρ ps'.toList (ccode P asg') (ccode P body') d₀ .ready none)]) W := by rw [← hW]; exact hH2
      have hle : μ.le μ₂ := hle2
      have hargs : ∀ j, j < (fs ++ [AVal.yfn s.H.length] ++ cs).length → VR G μ₂ ((fs ++ [AVal.yfn s.H.length] ++ cs).getD j .any) ((a' ++ #[Value.func (.yield w.heap.size) #[] #[]] ++ b').getD j undef) := by
        intro j hj
        rw [List.getD_eq_getElem?_getD, Array.getD_eq_getD_getElem?]
        by_cases hj1 : j < fs.length
        · rw [List.append_assoc, List.getElem?_append_left hj1, Array.append_assoc, Array.getElem?_append_left (by omega)]
          have := va j hj1
          rw [List.getD_eq_getElem?_getD, Array.getD_eq_getD_getElem?] at this
          exact this.mono hle
        · by_cases hj2 : j = fs.length
          · subst hj2
            rw [List.getElem?_append_left (by simp), List.getElem?_append_right (by omega), Array.getElem?_append_left (by simp; omega), Array.getElem?_append_right (by omega), ha]
            simp only [Nat.sub_self, List.getElem?_cons_zero, Option.getD_some]
            have := VR.yfn (G := G) s.H.length _ e2 rfl
            simp only at this
            simp [*]
          · rw [List.getElem?_append_right (by simp; omega), Array.getElem?_append_right (by simp; omega)]
            have := vb (j - fs.length - 1) (by simp at hj; omega)
            rw [List.getD_eq_getElem?_getD, Array.getD_eq_getD_getElem?] at this
            have q1 : j - (fs ++ [AVal.yfn s.H.length]).length = j - fs.length - 1 := by simp; omega
            have q2 : j - (a' ++ #[Value.func (.yield w.heap.size) #[] #[]]).size = j - fs.length - 1 := by simp; omega
            rw [q1, q2]; exact this.mono hle
      have hcall := hc.2 μ₂ (a' ++ #[Value.func (.yield w.heap.size) #[] #[]] ++ b') W (by simp [ha, hb]; omega) hargs hW2 hd2
      refine CallsIn.mono hcall ?_
      · rintro e w' ⟨v, cv, μ₃, H', rfl, hRR, hv, hH', hd', hle3⟩
        obtain ⟨hms, ρ₂, ps₂, asg₂, body₂, d₂, st₂, pend₂, hr₂, hst, hend⟩ := hK v H' hRR
        obtain ⟨p₂, rec₂, n1, n2, n3, n4, n5, n6, _⟩ := loop_rec hH' hr₂
        have hp₂ : p₂.blk = w.heap.size := by
          obtain ⟨q, q1, rfl | ⟨q2, _⟩⟩ := hle3 s.H.length _ (by simp) e2
          · rw [n1] at q1; cases q1; rfl
          · simp at q2
        have hle' : μ.le μ₃ := fun q p hq => Mu.leB_trans (Mu.leB_of hle) hle3 q p (by have := hR.dom q (by rw [hq]; rfl); simp only [List.length_append, List.length_singleton]; omega) hq
        have hrel : Rel P G μ₃ ⟨s.ρ, H'.set s.H.length none, s.ms⟩ { a with defers := [] ++ a.defers } (w'.putObj w.heap.size (.loop { rec₂ with state := .exhausted })) := by
          refine ⟨hR.tr.mono hle', ?_, fun q hq => by have := hd' q hq; simpa using this, ?_, fun q hq => ?_⟩
          · have := hH'.kill hr₂ n1 (.loop { rec₂ with state := .exhausted })
            rw [hp₂] at this; exact this
          · simp only [List.nil_append]
            rw [hR.mk']; exact (hR.same_marks hle').symm
          · have hq' := hms q hq
            show (H'.set s.H.length none)[q]? = _
            rw [List.getElem?_set_ne (fun e => ?_)]
            · exact hq'
            · rw [e, hq'] at hr₂; cases hr₂
        have hp₃ : μ₃ r₀ = some p₀ := by
          obtain ⟨q, q1, rfl | ⟨q2, _⟩⟩ := hle' r₀ p₀ hp₀
          · exact q1
          · rw [hv₀] at q2; cases q2
        refine ⟨rec₂.pending, _, run_endLoop (by rw [← hp₂]; exact n4) (by rw [n5]; exact hst), ?_⟩
        cases hpe : rec₂.pending with
        | none =>
          rw [hpe] at n6 hrel
          simp only [Option.map_none] at n6
          subst n6
          exact ⟨μ₃, _, hend, Mu.leB_of hle', hrel⟩
        | some c =>
          rw [hpe] at n6 hrel
          simp only [Option.map_some] at n6
          subst n6
          refine wpIn_mono (hend c rfl μ₃ (some p₀.blk) _ _ ⟨hr0, p₀, hp₃, hv₀, rfl⟩ hrel) ?_
          exact fun e a w hp => hp.from (Mu.leB_of hle') fun _ h => h
end
end Go.Sx
