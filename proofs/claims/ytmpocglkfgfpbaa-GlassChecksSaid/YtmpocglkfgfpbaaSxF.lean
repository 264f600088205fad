/- A part of the proof: the abstract semantics. -/
import Derived.Test.YtmpocglkfgfpbaaSxE
import Derived.RangeFuncNested
import Derived.Scope
set_option linter.unusedSimpArgs false
set_option linter.unusedVariables false
/- Ranges over functions: the loop's record, its rounds. -/
namespace Go.Sx
open Go

def psets : List AVal → List Nat → List AVal → List AVal
  | ρ, p :: ps, x :: xs => psets (tset ρ p x) ps xs
  | ρ, _, _ => ρ

section
variable {P : Program} {G : Ctx} {k : Nat} {rd : Option Nat} {s : St}

theorem HR.kill {μ : Mu} {H : Heap} {hp : World} {r : Nat} {x : Row} {p : Place} (h : HR P G μ H hp) (hr : H[r]? = some (some x)) (hxd : x ≠ .dead) (hp1 : μ r = some p) (o : Obj) : HR P G μ (H.set r none) (hp.putObj p.blk o) := by
  have hne : ∀ s x, (H.set r none)[s]? = some (some x) → s ≠ r ∧ H[s]? = some (some x) := by
    intro s x hs
    by_cases hsr : r = s
    · subst hsr
      rw [List.getElem?_set_self (by obtain ⟨hlt, _⟩ := List.getElem?_eq_some_iff.1 hr; exact hlt)] at hs
      cases hs
    · rw [List.getElem?_set_ne hsr] at hs
      exact ⟨Ne.symm hsr, hs⟩
  have hblk : ∀ s x q, (H.set r none)[s]? = some (some x) → μ s = some q → x ≠ .dead → q.blk ≠ p.blk := by
    intro s x q hs hq hnd
    obtain ⟨h1, h2⟩ := hne s x hs
    exact h.apart s r x _ q p h2 hr hq hp1 h1 hnd hxd
  obtain ⟨p0, e1, hk, e2, _⟩ := h.row r _ hr hxd
  rw [hp1] at e1; cases e1
  constructor
  · intro s x hs hnd
    obtain ⟨h1, h2⟩ := hne s x hs
    obtain ⟨q, h3, h4, h5, h6⟩ := h.row s x h2 hnd
    exact ⟨q, h3, h4, by simpa [World.putObj] using h5, h6.mono (Mu.le_refl _) (by show (hp.heap.setIfInBounds p.blk o)[q.blk]? = _; rw [Array.getElem?_setIfInBounds_ne (Ne.symm (hblk s x q hs h3 hnd))])⟩
  · intro s s' x x' q q' hs hs' hq hq' hn n1 n2
    exact h.apart s s' x x' q q' (hne s x hs).2 (hne s' x' hs').2 hq hq' hn n1 n2
  · intro b hb
    obtain ⟨h1, h2⟩ := h.kept b hb
    refine ⟨by simpa [World.putObj] using h1, ?_⟩
    show (hp.heap.setIfInBounds p.blk o)[b]? = _
    rw [Array.getElem?_setIfInBounds_ne (fun e => hk (by rw [e]; exact hb))]; exact h2
  · exact h.ro
  · exact h.calm
  · exact fun s hs => h.named s (hne s _ hs).2
  · exact h.glob

theorem HR.state {μ : Mu} {H : Heap} {hp : World} {r : Nat} {p : Place} {ρ : List AVal} {ps : List Nat} {asg body : ACode} {d : Nat} {st : LoopState} {pend : Option ACode} {rec : Go.Loop} (h : HR P G μ H hp)
    (hr : H[r]? = some (some (.loop ρ ps asg body d st pend))) (hp1 : μ r = some p) (hrec : hp.heap[p.blk]? = some (.loop rec)) (st' : LoopState) (pe' : Option Code) :
    HR P G μ (H.put r (.loop ρ ps asg body d st' (pe'.map (ccode P)))) (hp.putObj p.blk (.loop { rec with state := st', pending := pe' })) := by
  obtain ⟨p0, e1, hk, e2, hx⟩ := h.row r _ hr nofun
  rw [hp1] at e1; cases e1
  obtain ⟨h0, r0, h1, h2, h3, h4, h5, h6, h7, h8, h9⟩ := hx
  rw [hrec] at h1
  simp only [Option.some.injEq, Obj.loop.injEq] at h1
  subst h1
  refine h.put ⟨rfl, rfl, rfl⟩ (Mu.le_refl _) (fun _ _ => rfl) hp1 (by simp [World.putObj]) (by simpa [World.putObj] using e2) hk (fun b hb hne => by simp only [World.putObj]; rw [Array.getElem?_setIfInBounds_ne (Ne.symm hne)]) (fun s y q hs hy hq hnd => h.apart s r y _ q p hy hr hq hp1 hs hnd nofun) ?_
  exact ⟨h0, { rec with state := st', pending := pe' }, by simp [World.putObj, e2], rfl, rfl, h4, h5, h6, h7, h8, h9⟩

theorem loop_rec {μ : Mu} {H : Heap} {hp : World} {r : Nat} {ρ : List AVal} {ps : List Nat} {asg body : ACode} {d : Nat} {st : LoopState} {pend : Option ACode} (h : HR P G μ H hp)
    (hr : H[r]? = some (some (.loop ρ ps asg body d st pend))) : ∃ p rec, μ r = some p ∧ p.vec = false ∧ p.blk < hp.heap.size ∧ hp.heap[p.blk]? = some (.loop rec) ∧ rec.state = st ∧ rec.pending.map (ccode P) = pend ∧ rec.params.toList = ps ∧
      ccode P rec.assign = asg ∧ ccode P rec.body = body ∧ ρ.length = rec.tmps.size ∧ ∀ t, t < ρ.length → VR G μ (ρ.getD t .any) (rec.tmps.getD t undef) := by
  obtain ⟨p, e1, hk, e2, hx⟩ := h.row r _ hr nofun
  obtain ⟨h0, r0, h1, h2, h3, h4, h5, h6, h7, h8, h9⟩ := hx
  exact ⟨p, r0, e1, h0, e2, h1, h2, h3, h4, h5, h6, h7, h8⟩

theorem psets_tr {μ : Mu} : ∀ (ps : List Nat) (xs : List AVal) (cs : List Value) (ρ : List AVal) (tmps : Array Value), TR G μ ρ tmps → xs.length = cs.length → (∀ i, i < xs.length → VR G μ (xs.getD i .any) (cs.getD i undef)) →
    TR G μ (psets ρ ps xs) ((ps.zip cs).foldl (fun t (p, v) => t.setIfInBounds p v) tmps)
  | [], _, _, ρ, tmps, h, _, _ => by simpa [psets] using h
  | p :: ps, [], cs, ρ, tmps, h, hl, _ => by
    have : cs = [] := List.eq_nil_of_length_eq_zero (by simpa using hl.symm)
    subst this
    simpa [psets] using h
  | p :: ps, x :: xs, [], ρ, tmps, h, hl, _ => by simp at hl
  | p :: ps, x :: xs, c :: cs, ρ, tmps, h, hl, hv => by
    simp only [psets, List.zip_cons_cons, List.foldl_cons]
    refine psets_tr ps xs cs _ _ ?_ (by simpa using hl) fun i hi => by simpa using hv (i + 1) (by simpa using hi)
    have := TR.put (a := { tmps := tmps, defers := [] }) h (by simpa using hv 0 (by simp)) (some p)
    simpa [setD, Act.put] using this

def RoundEnd (r : Nat) (R : AVal → Heap → Prop) (e : Exit) (s : St) : Prop :=
  ∃ ρ ps asg body d st pend, s.H[r]? = some (some (.loop ρ ps asg body d st pend)) ∧
    match e with
    | .normal => R (.bool true) (s.H.put r (.loop ρ ps asg body d .ready none))
    | .ret => R (.bool false) (s.H.put r (.loop ρ ps asg body d .done (some .ret)))
    | .exit id => R (.bool false) (s.H.put r (.loop ρ ps asg body d .done (some (.exit id))))
    | .goto t => R (.bool false) (s.H.put r (.loop ρ ps asg body d .done (some (.goto t))))
    | _ => False

def RoundMid (P : Program) (G : Ctx) (k : Nat) (r : Nat) (body : ACode) (R : AVal → Heap → Prop) (e : Exit) (s : St) : Prop :=
  e = .normal ∧ ∃ ρ ps asg body' d pend, s.H[r]? = some (some (.loop ρ ps asg body' d .ready pend)) ∧
    AW P G k (some r) body (RoundEnd r R) ⟨s.ρ, s.H.put r (.loop ρ ps asg body' d .busy pend), s.ms⟩

theorem op_round {ao : AOper} {K : St → Prop} {f : AOpd} {xs : List AOpd} {r : Nat} {ρr : List AVal} {ps : List Nat} {asg body : ACode} {d : Nat} {pend : Option ACode} {R : AVal → Heap → Prop} (hg : gval s.ρ ao.guard = some true) (ho : ao.op = .call f xs)
    (hf : opd s.ρ f = .yfn r) (hr : s.H[r]? = some (some (.loop ρr ps asg body d .ready pend))) (hn : xs.length = ps.length)
    (h : AW P G s.H.length (some r) asg (RoundMid P G s.H.length r body R) ⟨psets ρr ps (xs.map (opd s.ρ)), s.H, []⟩) (hk : k ≤ s.H.length)
    (hK : ∀ v H', R v H' → (∀ q ∈ s.ms, H'[q]? = some (some .dfr)) ∧ K { s with ρ := setD s.ρ ao.dst v, H := H' }) : OpA P G k rd ao s K := by
  intro ops draw i o Q hi hcc μ ro a w hrd hR
  have hnb : ao.op ≠ .bad := by rw [ho]; simp
  obtain ⟨h1, h2, h3⟩ := coper_parts hcc hnb
  have hw := wanted_of hR.tr ops o h1 hg
  simp only [wpOpIn, hi, if_pos hw]
  rw [ho] at h2
  obtain ⟨c, x, hoc, hcal, hfx, hxs⟩ := cop_call h2
  have hx := opd_sound hR.hr.glob hR.tr x
  rw [hfx, hf] at hx
  obtain ⟨cf, hcf⟩ : ∃ cf, a.eval x = cf := ⟨_, rfl⟩
  rw [hcf] at hx
  cases hx with
  | yfn _ p hp hv =>
    obtain ⟨p', rec, k1, k2, k3, k4, k5, k6, k7, k8, k9, k10, k11⟩ := loop_rec hR.hr hr
    rw [hp] at k1; cases k1
    have hnd : ∀ c', o.op ≠ .defer c' := by intro c' hd; rw [hoc] at hd; cases hd
    have hsz : (c.args.map a.eval).size = rec.params.size := by
      rw [← Array.length_toList, ← Array.length_toList, k7, ← hn, ← hxs]; simp
    have hrun : (execOp a.eval o).run P w = .ok (.round p.blk rec.fn ((rec.params.zip (c.args.map a.eval)).foldl (fun tmps (t, a) => tmps.setIfInBounds t a) rec.tmps) rec.assign rec.body) w := by
      have := run_yield (P := P) (args := c.args.map a.eval) k4 hsz
      simp [execOp, hoc, resolve, hcal, hcf, Deferred.ofValue, invoke]
      simpa using this
    unfold Oper.wpIn
    refine ⟨fun _ _ => trivial, ?_⟩
    rw [Oper.semAt_eq _ _ _ hnd, hrun, Oper.uponIn_round]
    refine ⟨fun hd => by simp [Fw, Fence.wide] at hd, ?_⟩
    refine roundIn_of_wpIn trivial ?_
    have hF : (Fw ro).inRound p.blk = Fw (some p.blk) := rfl
    rw [hF]
    have hrel : Rel P G μ ⟨psets ρr ps (xs.map (opd s.ρ)), s.H, []⟩ { tmps := (rec.params.zip (c.args.map a.eval)).foldl (fun tmps (t, a) => tmps.setIfInBounds t a) rec.tmps, defers := [] } w := by
      refine ⟨?_, hR.hr, hR.dom, rfl, fun q hq => by simp at hq⟩
      have e : (rec.params.zip (c.args.map a.eval)).foldl (fun tmps (t, a) => tmps.setIfInBounds t a) rec.tmps = (ps.zip (c.args.map a.eval).toList).foldl (fun t (p, v) => t.setIfInBounds p v) rec.tmps := by
        rw [← k7, ← Array.foldl_toList, Array.toList_zip]
      simp only [e]
      refine psets_tr ps _ _ _ _ ⟨k10, fun t => ?_⟩ (by rw [← hxs]; simp) fun j hj => ?_
      · by_cases ht : t < ρr.length
        · exact k11 t ht
        · rw [List.getD_eq_getElem?_getD, List.getElem?_eq_none (by omega)]; exact .any _
      · subst hxs
        have hjx : j < c.args.size := by simpa using hj
        simp only [List.getD_eq_getElem?_getD, List.map_map, List.getElem?_map, Array.toList_map, Array.getElem?_toList]
        simp [hjx]
        exact opd_sound hR.hr.glob hR.tr _
    have hrlt : r < s.H.length := (List.getElem?_eq_some_iff.1 hr).1
    have hasg := h rec.assign k8 μ (some p.blk) _ w ⟨hrlt, p, hp, k2, rfl⟩ hrel
    refine wpIn_mono hasg ?_
    rintro e a₁ w₁ ⟨μ₁, s₁, ⟨rfl, ρ₁, ps₁, asg₁, body₁, d₁, pend₁, hr₁, hbody⟩, hle₁, hR₁⟩
    obtain ⟨p₁, rec₁, m1, m2, m3, m4, m5, m6, m7, m8, m9, m10, m11⟩ := loop_rec hR₁.hr hr₁
    have hp₁ : p₁ = p := by
      obtain ⟨q, q1, rfl | ⟨q2, _⟩⟩ := hle₁ r p hrlt hp
      · rw [m1] at q1; cases q1; rfl
      · rw [k2] at q2; cases q2
    subst hp₁
    refine ⟨_, run_beginRound m4 m5, ?_⟩
    have hR₁' : Rel P G μ₁ ⟨s₁.ρ, s₁.H.put r (.loop ρ₁ ps₁ asg₁ body₁ d₁ .busy pend₁), s₁.ms⟩ a₁ (w₁.putObj p₁.blk (.loop { rec₁ with state := .busy })) := by
      refine ⟨hR₁.tr, ?_, fun q hq => ?_, hR₁.mk', fun q hq => ?_⟩
      · have := hR₁.hr.state hr₁ m1 m4 .busy rec₁.pending
        rw [m6] at this
        exact this
      · have := hR₁.dom q hq
        rw [Heap.len_put]; omega
      · have hq' := hR₁.mkr q hq
        refine (Heap.put_other _ _ (fun e => ?_) _).2 hq'
        subst e
        rw [hr₁] at hq'; cases hq'
    refine wpIn_mono (hbody rec.body k9 μ₁ (some p₁.blk) a₁ _ ⟨hrlt, p₁, m1, m2, rfl⟩ hR₁') ?_
    rintro e a₂ w₂ ⟨μ₂, s₂, ⟨ρ₂, ps₂, asg₂, body₂, d₂, st₂, pend₂, hr₂, hend⟩, hle₂, hR₂⟩
    obtain ⟨p₂, rec₂, n1, n2, n3, n4, n5, n6, n7, n8, n9, n10, n11⟩ := loop_rec hR₂.hr hr₂
    have hp₂ : p₂ = p₁ := by
      obtain ⟨q, q1, rfl | ⟨q2, _⟩⟩ := hle₂ r p₁ hrlt m1
      · rw [n1] at q1; cases q1; rfl
      · rw [m2] at q2; cases q2
    subst hp₂
    have hle : μ.le μ₂ := fun q p' hq => Mu.leB_trans hle₁ hle₂ q p' (hR.dom q (by rw [hq]; rfl)) hq
    have fin : ∀ (b : Bool) (st' : LoopState) (pe' : Option Code), R (.bool b) (s₂.H.put r (.loop ρ₂ ps₂ asg₂ body₂ d₂ st' (pe'.map (ccode P)))) →
        NPost P G k μ K (a.put o.dst (.bool b)) (w₂.putObj p₂.blk (.loop { rec₂ with state := st', pending := pe' })) := by
      intro b st' pe' hRR
      obtain ⟨hm, hKK⟩ := hK _ _ hRR
      refine ⟨μ₂, _, hKK, Mu.leB_of hle, ?_⟩
      rw [← h3]
      refine ⟨(hR.tr.mono hle).put (.bool b) _, hR₂.hr.state hr₂ n1 n4 st' pe', fun q hq => ?_, ?_, hm⟩
      · have := hR₂.dom q hq
        simp only [Heap.len_put]; omega
      · rw [put_defers, hR.mk']; exact (hR.same_marks hle).symm
    cases e with
    | normal => exact ⟨_, _, run_endRound none n4, fin true .ready none hend⟩
    | ret => exact ⟨_, _, run_endRound (some .ret) n4, fin false .done (some .ret) hend⟩
    | exit id => exact ⟨_, _, run_endRound (some (.exit id)) n4, fin false .done (some (.exit id)) hend⟩
    | goto t => exact ⟨_, _, run_endRound (some (.goto t)) n4, fin false .done (some (.goto t)) hend⟩
    | panic chain => exact hend.elim
    | outgrown => exact hend.elim

def RngEnd (P : Program) (G : Ctx) (k : Nat) (rd : Option Nat) (l : Nat) (ρ : List AVal) (ms : List Nat) (Q : Exit → St → Prop) (H' : Heap) : Prop :=
  (∀ q ∈ ms, H'[q]? = some (some .dfr)) ∧ ∃ ρ' ps' asg' body' d' st pend, H'[l]? = some (some (.loop ρ' ps' asg' body' d' st pend)) ∧ st ≠ .busy ∧
    match pend with
    | none => Q .normal ⟨ρ, H'.set l none, ms⟩
    | some c => AW P G k rd c Q ⟨ρ, H'.set l none, ms⟩

theorem place_row {μ : Mu} {H : Heap} {w : World} {r : Nat} {x : Row} {o : Obj} (hR : HR P G μ H w) (hd : Dom μ H) (hr : r = H.length) (hx : ∀ μ' : Mu, μ.le μ' → RowIs P G μ' ⟨w.heap.size, 0, 0, 0, 0, false, false⟩ (w.alloc o).heap x) :
    ∃ μ' : Mu, μ' r = some ⟨w.heap.size, 0, 0, 0, 0, false, false⟩ ∧ μ.le μ' ∧ HR P G μ' (H ++ [some x]) (w.alloc o) ∧ Dom μ' (H ++ [some x]) := by
  subst hr
  have hno : μ H.length = none := by
    cases h : μ H.length with
    | none => rfl
    | some p => have := hd H.length (by rw [h]; rfl); omega
  have hheap : (w.alloc o).heap = w.heap.push o := rfl
  let μ' : Mu := fun q => if q = H.length then some ⟨w.heap.size, 0, 0, 0, 0, false, false⟩ else μ q
  have hle : μ.le μ' := fun q p hq => by
    have : q ≠ H.length := fun e => by rw [e, hno] at hq; cases hq
    exact ⟨p, by simp [μ', this, hq], .inl rfl⟩
  refine ⟨μ', by simp [μ'], hle, ?_, fun q hq => ?_⟩
  · rw [← Heap.put_end]
    refine hR.put (p := ⟨w.heap.size, 0, 0, 0, 0, false, false⟩) ⟨rfl, rfl, rfl⟩ hle (fun q hq => by simp [μ', hq]) (by simp [μ']) (by rw [hheap]; simp) (by rw [hheap]; simp) (fun hk => ?_) (fun b hb _ => by rw [hheap, Array.getElem?_push_lt hb, Array.getElem?_eq_getElem hb]) (fun q y p hq hy hp hnd => ?_) (hx μ' hle)
    · exact absurd (hR.kept _ hk).1 (by simp)
    · obtain ⟨p', k1, _, k3, _⟩ := hR.row q y hy hnd
      rw [hp] at k1; cases k1
      simp only; omega
  · by_cases h : q = H.length
    · subst h; simp
    · simp only [μ', if_neg h] at hq
      have := hd q hq; simp; omega

theorem aw_rng_outer {g : AOpd} {ps : List Nat} {asg body : ACode} {Q : Exit → St → Prop} {f : FuncId} {fs cs : List AVal} {R : AVal → Heap → Prop} (hg : opd s.ρ g = .fn (.func f) fs cs)
    (hc : CallW P G f (fs ++ [.yfn (s.H.length + 1)] ++ cs) (s.H ++ [some .dfr] ++ [some (.loop s.ρ ps asg body s.H.length .ready none)]) R) (hk : k ≤ s.H.length)
    (hK : ∀ v H', R v H' → RngEnd P G k none (s.H.length + 1) s.ρ (s.H.length :: s.ms) Q H') : AW P G k none (.rng g ps asg body) Q s := fun code hcc => by
  cases code <;> simp only [ccode] at hcc <;> cases hcc
  rename_i g' ps' asg' body'
  intro μ ro a w hrd hR
  have hro : ro = none := hrd
  subst hro
  refine wpIn_rangeFunc ?_
  intro fn _
  have hx := opd_sound hR.hr.glob hR.tr g'
  rw [hg] at hx
  obtain ⟨cf, hcf⟩ : ∃ cf, a.eval g' = cf := ⟨_, rfl⟩
  rw [hcf] at hx
  cases hx with
  | fn _ _ _ a' b' ha hb va vb =>
    -- the two rows
    obtain ⟨μ₁, e1, hle1, hH1, hd1⟩ := place_row (x := .dfr) (o := .deferred (some [])) hR.hr hR.dom rfl (fun μ' _ => ⟨rfl, World.alloc_heap_new _ _⟩)
    obtain ⟨rec, hrec⟩ : ∃ rec : Go.Loop, rec = { state := .ready, pending := none, fn, tmps := a.tmps, params := ps', assign := asg', body := body', defers := w.heap.size } := ⟨_, rfl⟩
    obtain ⟨μ₂, e2, hle2, hH2, hd2⟩ := place_row (r := s.H.length + 1) (w := w.alloc (.deferred (some []))) (x := .loop s.ρ ps'.toList (ccode P asg') (ccode P body') s.H.length .ready none) (o := .loop rec) hH1 hd1 (by simp) (fun μ' hμ' => by
      obtain ⟨pd, k1, k2⟩ := hμ' _ _ e1
      have hpd : pd = ⟨w.heap.size, 0, 0, 0, 0, false, false⟩ := by
        rcases k2 with rfl | ⟨h, _⟩
        · rfl
        · simp at h
      subst hpd
      refine ⟨rfl, rec, World.alloc_heap_new _ _, by rw [hrec], by rw [hrec]; rfl, by rw [hrec], by rw [hrec], by rw [hrec], by rw [hrec]; exact hR.tr.1, fun t ht => ?_, _, k1, rfl, by rw [hrec]⟩
      · rw [hrec]; exact (hR.tr.2 t).mono (Mu.le_trans hle1 hμ'))
    obtain ⟨W, hW⟩ : ∃ W, (w.alloc (.deferred (some []))).alloc (.loop rec) = W := ⟨_, rfl⟩
    refine ⟨w.heap.size + 1, [{ target := .collected w.heap.size, args := #[] }], W, { target := .fn (.func f) b', args := a' ++ #[.func (.yield (w.heap.size + 1)) #[] #[]] }, W, f, a' ++ #[.func (.yield (w.heap.size + 1)) #[] #[]] ++ b', W, ?_, ?_, fun _ _ => trivial, ?_, fun _ => by simp [Fw, Fence.wide] at *, ?_⟩
    · rw [← hW, hrec]; exact run_enterLoop_outer _ _ _ _ _
    · simp [resolve, hcf, Deferred.ofValue]; rfl
    · simp [invoke, run_callFunc hc.1]
    · have hW2 : HR P G μ₂ (s.H ++ [some .dfr] ++ [some (.loop s.ρ ps'.toList (ccode P asg') (ccode P body') s.H.length .ready none)]) W := by rw [← hW]; exact hH2
      have hle : μ.le μ₂ := Mu.le_trans hle1 hle2
      have hargs : ∀ j, j < (fs ++ [AVal.yfn (s.H.length + 1)] ++ cs).length → VR G μ₂ ((fs ++ [AVal.yfn (s.H.length + 1)] ++ cs).getD j .any) ((a' ++ #[Value.func (.yield (w.heap.size + 1)) #[] #[]] ++ b').getD j undef) := by
        intro j hj
        rw [List.getD_eq_getElem?_getD, Array.getD_eq_getD_getElem?]
        by_cases hj1 : j < fs.length
        · rw [List.append_assoc, List.getElem?_append_left hj1, Array.append_assoc, Array.getElem?_append_left (by omega)]
          have := va j hj1
          rw [List.getD_eq_getElem?_getD, Array.getD_eq_getD_getElem?] at this
          exact this.mono hle
        · by_cases hj2 : j = fs.length
          · subst hj2
            rw [List.getElem?_append_left (by simp), List.getElem?_append_right (by omega), Array.getElem?_append_left (by simp; omega), Array.getElem?_append_right (by omega), ha]
            simp only [Nat.sub_self, List.getElem?_cons_zero, Option.getD_some]
            have : (w.alloc (.deferred (some []))).heap.size = w.heap.size + 1 := by
              show (w.heap.push _).size = _
              simp
            have := VR.yfn (G := G) (s.H.length + 1) _ e2 rfl
            simp only at this
            simpa [*] using this
          · rw [List.getElem?_append_right (by simp; omega), Array.getElem?_append_right (by simp; omega)]
            have := vb (j - fs.length - 1) (by simp at hj; omega)
            rw [List.getD_eq_getElem?_getD, Array.getD_eq_getD_getElem?] at this
            have q1 : j - (fs ++ [AVal.yfn (s.H.length + 1)]).length = j - fs.length - 1 := by simp; omega
            have q2 : j - (a' ++ #[Value.func (.yield (w.heap.size + 1)) #[] #[]]).size = j - fs.length - 1 := by simp; omega
            rw [q1, q2]; exact this.mono hle
      have hcall := hc.2 μ₂ (a' ++ #[Value.func (.yield (w.heap.size + 1)) #[] #[]] ++ b') W (by simp [ha, hb]; omega) hargs hW2 hd2
      refine CallsIn.mono hcall ?_
      · rintro e w' ⟨v, cv, μ₃, H', rfl, hRR, hv, hH', hd', hle3⟩
        obtain ⟨hms, ρ₂, ps₂, asg₂, body₂, d₂, st₂, pend₂, hr₂, hst, hend⟩ := hK v H' hRR
        obtain ⟨p₂, rec₂, n1, n2, n3, n4, n5, n6, _⟩ := loop_rec hH' hr₂
        have hp₂ : p₂.blk = w.heap.size + 1 := by
          obtain ⟨q, q1, rfl | ⟨q2, _⟩⟩ := hle3 (s.H.length + 1) _ (by simp) e2
          · rw [n1] at q1; cases q1
            show (w.heap.push _).size = _
            simp
          · simp at q2
        have hle' : μ.le μ₃ := fun q p hq => Mu.leB_trans (Mu.leB_of hle) hle3 q p (by have := hR.dom q (by rw [hq]; rfl); simp only [List.length_append, List.length_singleton]; omega) hq
        have hdb : blkOf μ₃ s.H.length = w.heap.size := by
          obtain ⟨q, q1, q2⟩ := hle3 s.H.length _ (by simp) (by
            obtain ⟨q, q1, q2⟩ := hle2 _ _ e1
            rcases q2 with rfl | ⟨q2, _⟩
            · exact q1
            · simp at q2)
          rcases q2 with rfl | ⟨q2, _⟩
          · simp [blkOf, q1]
          · simp at q2
        have hrel : Rel P G μ₃ ⟨s.ρ, H'.set (s.H.length + 1) none, s.H.length :: s.ms⟩ { a with defers := [{ target := .collected w.heap.size, args := #[] }] ++ a.defers } (w'.putObj (w.heap.size + 1) (.loop { rec₂ with state := .exhausted })) := by
          refine ⟨hR.tr.mono hle', ?_, fun q hq => by have := hd' q hq; simpa using this, ?_, fun q hq => ?_⟩
          · have := hH'.kill hr₂ nofun n1 (.loop { rec₂ with state := .exhausted })
            rw [hp₂] at this; exact this
          · simp only [List.map_cons, hdb, List.singleton_append, List.cons.injEq, true_and]
            rw [hR.mk']; exact (hR.same_marks hle').symm
          · have hq' := hms q hq
            show (H'.set (s.H.length + 1) none)[q]? = _
            rw [List.getElem?_set_ne (fun e => ?_)]
            · exact hq'
            · rw [e, hq'] at hr₂; cases hr₂
        refine ⟨rec₂.pending, _, run_endLoop (by rw [← hp₂]; exact n4) (by rw [n5]; exact hst), ?_⟩
        cases hpe : rec₂.pending with
        | none =>
          rw [hpe] at n6 hrel
          simp only [Option.map_none] at n6
          subst n6
          exact ⟨μ₃, _, hend, Mu.leB_of hle', hrel⟩
        | some c =>
          rw [hpe] at n6 hrel
          simp only [Option.map_some] at n6
          subst n6
          refine wpIn_mono (hend c rfl μ₃ none _ _ rfl hrel) ?_
          exact fun e a w hp => hp.from (Mu.leB_of hle') fun _ h => h
theorem aw_rng_inner {r₀ : Nat} {ρ₀ : List AVal} {ps₀ : List Nat} {asg₀ body₀ : ACode} {d₀ : Nat} {st₀ : LoopState} {pend₀ : Option ACode} (h₀ : s.H[r₀]? = some (some (.loop ρ₀ ps₀ asg₀ body₀ d₀ st₀ pend₀))) {g : AOpd} {ps : List Nat} {asg body : ACode} {Q : Exit → St → Prop} {f : FuncId} {fs cs : List AVal} {R : AVal → Heap → Prop} (hg : opd s.ρ g = .fn (.func f) fs cs)
    (hc : CallW P G f (fs ++ [.yfn s.H.length] ++ cs) (s.H ++ [some (.loop s.ρ ps asg body d₀ .ready none)]) R) (hk : k ≤ s.H.length)
    (hK : ∀ v H', R v H' → RngEnd P G k (some r₀) s.H.length s.ρ s.ms Q H') : AW P G k (some r₀) (.rng g ps asg body) Q s := fun code hcc => by
  cases code <;> simp only [ccode] at hcc <;> cases hcc
  rename_i g' ps' asg' body'
  intro μ ro a w hrd hR
  obtain ⟨hr0, p₀, hp₀, hv₀, rfl⟩ := hrd
  refine wpIn_rangeFunc ?_
  intro fn _
  have hx := opd_sound hR.hr.glob hR.tr g'
  rw [hg] at hx
  obtain ⟨cf, hcf⟩ : ∃ cf, a.eval g' = cf := ⟨_, rfl⟩
  rw [hcf] at hx
  cases hx with
  | fn _ _ _ a' b' ha hb va vb =>
    -- the enclosing loop's record, and the new row
    obtain ⟨p₁, hk₁, _, hb₁, hx₁⟩ := hR.hr.row r₀ _ h₀ nofun
    rw [hp₀] at hk₁; cases hk₁
    obtain ⟨_, rec₀, m1, _, _, _, _, _, _, _, pd, m2, m3, m4⟩ := hx₁
    obtain ⟨rec, hrec⟩ : ∃ rec : Go.Loop, rec = { state := .ready, pending := none, fn, tmps := a.tmps, params := ps', assign := asg', body := body', defers := rec₀.defers } := ⟨_, rfl⟩
    obtain ⟨μ₂, e2, hle2, hH2, hd2⟩ := place_row (r := s.H.length) (w := w) (x := .loop s.ρ ps'.toList (ccode P asg') (ccode P body') d₀ .ready none) (o := .loop rec) hR.hr hR.dom rfl (fun μ' hμ' => by
      obtain ⟨pd', k1, k2⟩ := hμ' _ _ m2
      have hpd : pd' = pd := by
        rcases k2 with rfl | ⟨h, _⟩
        · rfl
        · rw [m3] at h; cases h
      subst hpd
      refine ⟨rfl, rec, World.alloc_heap_new _ _, by rw [hrec], by rw [hrec]; rfl, by rw [hrec], by rw [hrec], by rw [hrec], by rw [hrec]; exact hR.tr.1, fun t ht => ?_, _, k1, m3, by rw [hrec]; exact m4⟩
      rw [hrec]; exact (hR.tr.2 t).mono hμ')
    obtain ⟨W, hW⟩ : ∃ W, w.alloc (.loop rec) = W := ⟨_, rfl⟩
    refine ⟨w.heap.size, [], W, { target := .fn (.func f) b', args := a' ++ #[.func (.yield w.heap.size) #[] #[]] }, W, f, a' ++ #[.func (.yield w.heap.size) #[] #[]] ++ b', W, ?_, ?_, fun _ _ => trivial, ?_, fun _ => by simp [Fw, Fence.wide] at *, ?_⟩
    · rw [← hW, hrec]; exact run_enterLoop_inner m1 _ _ _ _ _
    · simp [resolve, hcf, Deferred.ofValue]; rfl
    · simp [invoke, run_callFunc hc.1]
    · have hW2 : HR P G μ₂ (s.H ++ [some (.loop s.ρ ps'.toList (ccode P asg') (ccode P body') d₀ .ready none)]) W := by rw [← hW]; exact hH2
      have hle : μ.le μ₂ := hle2
      have hargs : ∀ j, j < (fs ++ [AVal.yfn s.H.length] ++ cs).length → VR G μ₂ ((fs ++ [AVal.yfn s.H.length] ++ cs).getD j .any) ((a' ++ #[Value.func (.yield w.heap.size) #[] #[]] ++ b').getD j undef) := by
        intro j hj
        rw [List.getD_eq_getElem?_getD, Array.getD_eq_getD_getElem?]
        by_cases hj1 : j < fs.length
        · rw [List.append_assoc, List.getElem?_append_left hj1, Array.append_assoc, Array.getElem?_append_left (by omega)]
          have := va j hj1
          rw [List.getD_eq_getElem?_getD, Array.getD_eq_getD_getElem?] at this
          exact this.mono hle
        · by_cases hj2 : j = fs.length
          · subst hj2
            rw [List.getElem?_append_left (by simp), List.getElem?_append_right (by omega), Array.getElem?_append_left (by simp; omega), Array.getElem?_append_right (by omega), ha]
            simp only [Nat.sub_self, List.getElem?_cons_zero, Option.getD_some]
            have := VR.yfn (G := G) s.H.length _ e2 rfl
            simp only at this
            simp [*]
          · rw [List.getElem?_append_right (by simp; omega), Array.getElem?_append_right (by simp; omega)]
            have := vb (j - fs.length - 1) (by simp at hj; omega)
            rw [List.getD_eq_getElem?_getD, Array.getD_eq_getD_getElem?] at this
            have q1 : j - (fs ++ [AVal.yfn s.H.length]).length = j - fs.length - 1 := by simp; omega
            have q2 : j - (a' ++ #[Value.func (.yield w.heap.size) #[] #[]]).size = j - fs.length - 1 := by simp; omega
            rw [q1, q2]; exact this.mono hle
      have hcall := hc.2 μ₂ (a' ++ #[Value.func (.yield w.heap.size) #[] #[]] ++ b') W (by simp [ha, hb]; omega) hargs hW2 hd2
      refine CallsIn.mono hcall ?_
      · rintro e w' ⟨v, cv, μ₃, H', rfl, hRR, hv, hH', hd', hle3⟩
        obtain ⟨hms, ρ₂, ps₂, asg₂, body₂, d₂, st₂, pend₂, hr₂, hst, hend⟩ := hK v H' hRR
        obtain ⟨p₂, rec₂, n1, n2, n3, n4, n5, n6, _⟩ := loop_rec hH' hr₂
        have hp₂ : p₂.blk = w.heap.size := by
          obtain ⟨q, q1, rfl | ⟨q2, _⟩⟩ := hle3 s.H.length _ (by simp) e2
          · rw [n1] at q1; cases q1; rfl
          · simp at q2
        have hle' : μ.le μ₃ := fun q p hq => Mu.leB_trans (Mu.leB_of hle) hle3 q p (by have := hR.dom q (by rw [hq]; rfl); simp only [List.length_append, List.length_singleton]; omega) hq
        have hrel : Rel P G μ₃ ⟨s.ρ, H'.set s.H.length none, s.ms⟩ { a with defers := [] ++ a.defers } (w'.putObj w.heap.size (.loop { rec₂ with state := .exhausted })) := by
          refine ⟨hR.tr.mono hle', ?_, fun q hq => by have := hd' q hq; simpa using this, ?_, fun q hq => ?_⟩
          · have := hH'.kill hr₂ nofun n1 (.loop { rec₂ with state := .exhausted })
            rw [hp₂] at this; exact this
          · simp only [List.nil_append]
            rw [hR.mk']; exact (hR.same_marks hle').symm
          · have hq' := hms q hq
            show (H'.set s.H.length none)[q]? = _
            rw [List.getElem?_set_ne (fun e => ?_)]
            · exact hq'
            · rw [e, hq'] at hr₂; cases hr₂
        have hp₃ : μ₃ r₀ = some p₀ := by
          obtain ⟨q, q1, rfl | ⟨q2, _⟩⟩ := hle' r₀ p₀ hp₀
          · exact q1
          · rw [hv₀] at q2; cases q2
        refine ⟨rec₂.pending, _, run_endLoop (by rw [← hp₂]; exact n4) (by rw [n5]; exact hst), ?_⟩
        cases hpe : rec₂.pending with
        | none =>
          rw [hpe] at n6 hrel
          simp only [Option.map_none] at n6
          subst n6
          exact ⟨μ₃, _, hend, Mu.leB_of hle', hrel⟩
        | some c =>
          rw [hpe] at n6 hrel
          simp only [Option.map_some] at n6
          subst n6
          refine wpIn_mono (hend c rfl μ₃ (some p₀.blk) _ _ ⟨hr0, p₀, hp₃, hv₀, rfl⟩ hrel) ?_
          exact fun e a w hp => hp.from (Mu.leB_of hle') fun _ h => h
end
end Go.Sx
/- Drawn regions, part by part. -/
namespace Go.Sx
open Go

def disj (a b : List Nat) : Bool := a.all fun x => !b.contains x

def Heap.onlyR (H : Heap) (l : List Nat) : Heap := H.zipIdx.map fun (x, i) => if i ∈ l then x else none

theorem onlyR_get (H : Heap) (l : List Nat) (r : Nat) (y : Row) : (H.onlyR l)[r]? = some (some y) ↔ r ∈ l ∧ H[r]? = some (some y) := by
  unfold Heap.onlyR
  rw [List.getElem?_map, List.getElem?_zipIdx]
  cases h : H[r]? with
  | none => simp
  | some x =>
    simp only [Option.map_some, Nat.zero_add, Option.some.injEq]
    by_cases hr : r ∈ l
    · simp [hr]
    · simp [hr]

theorem disj_spec {a b : List Nat} (h : disj a b = true) {r : Nat} (ha : r ∈ a) : r ∉ b := by
  unfold disj at h
  have := List.all_eq_true.1 h r ha
  simpa using this

def pairStat (x y : AOper) : Bool :=
  (match x.dst with | some t => !y.op.tmps.contains t && (!(guardTmps y.guard).contains t && decide (y.dst ≠ some t)) | none => true) &&
  (match y.dst with | some t => !x.op.tmps.contains t && !(guardTmps x.guard).contains t | none => true)

def statOne (l : List AOper) (j : Nat) (y : AOper) : Bool := !y.free.contains j && y.free.all fun i => match l[i]? with | some x => pairStat x y | none => true

def statOK (l : List AOper) : Bool := l.zipIdx.all fun (y, j) => statOne l j y

theorem statOK_spec {l : List AOper} (h : statOK l = true) {j : Nat} {y : AOper} (hy : l[j]? = some y) : j ∉ y.free ∧ ∀ i x, i ∈ y.free → l[i]? = some x → pairStat x y = true := by
  unfold statOK at h
  have := List.all_eq_true.1 h (y, j) (by rw [List.mem_iff_getElem?]; exact ⟨j, by rw [List.getElem?_zipIdx, hy]; simp⟩)
  simp only [statOne, Bool.and_eq_true, Bool.not_eq_true', List.contains_eq_mem, decide_eq_false_iff_not, List.all_eq_true] at this
  refine ⟨this.1, fun i x hi hx => ?_⟩
  have h2 := this.2 i hi
  rw [hx] at h2; exact h2

def dynOK (free deps rows : List Nat) : List (List Nat × List Nat) → Nat → Bool
  | [], _ => true
  | (d, w) :: tr, i => (!free.contains i || (disj w rows && (disj d rows && disj deps w))) && dynOK free deps rows tr (i + 1)

theorem dynOK_spec {free deps rows : List Nat} : ∀ {tr : List (List Nat × List Nat)} {i : Nat}, dynOK free deps rows tr i = true → ∀ k d w, tr[k]? = some (d, w) → i + k ∈ free → disj w rows = true ∧ disj d rows = true ∧ disj deps w = true
  | [], i, h, k, d, w, hk, _ => by simp at hk
  | (d', w') :: tr, i, h, k, d, w, hk, hm => by
    simp only [dynOK, Bool.and_eq_true, Bool.or_eq_true, Bool.not_eq_true', List.contains_eq_mem, decide_eq_false_iff_not] at h
    cases k with
    | zero =>
      simp only [List.getElem?_cons_zero, Option.some.injEq, Prod.mk.injEq] at hk
      obtain ⟨rfl, rfl⟩ := hk
      rcases h.1 with h1 | h1
      · exact absurd hm h1
      · exact ⟨h1.1, h1.2.1, h1.2.2⟩
    | succ k =>
      simp only [List.getElem?_cons_succ] at hk
      exact dynOK_spec h.2 k d w hk (by rwa [show i + 1 + k = i + (k + 1) by omega])

def AGrp (P : Program) (base : Nat) : List AOper → List (List Nat × List Nat) → St → (St → Prop) → Prop
  | [], _, s, K => K s
  | ao :: l, tr, s, K =>
    match gval s.ρ ao.guard with
    | none => False
    | some false => AGrp P base l (tr ++ [([], [])]) { s with ρ := setD s.ρ ao.dst (.tup []) } K
    | some true =>
      match ao.op with
      | .call f xs => ∃ g ys cs c deps, (∀ q ∈ s.ms, q ∉ c.rows) ∧ opd s.ρ f = .fn (.func g) ys cs ∧ DCall P g (ys ++ xs.map (opd s.ρ) ++ cs) (s.H.onlyR deps) c ∧ (∀ r ∈ c.fs, s.H.length ≤ r ∧ r < (s.H.puts c.Δ).length) ∧
          dynOK ao.free deps (c.Δ.map (·.1)) tr base = true ∧ AGrp P base l (tr ++ [(deps, c.Δ.map (·.1))]) { s with ρ := setD s.ρ ao.dst c.v, H := s.H.puts c.Δ } K
      | .callM tab f xs => ∃ t v g c deps, (∀ q ∈ s.ms, q ∉ c.rows) ∧ opd s.ρ f = .iface t v ∧ tabAt tab t = some g ∧ DCall P g (v :: xs.map (opd s.ρ)) (s.H.onlyR deps) c ∧ (∀ r ∈ c.fs, s.H.length ≤ r ∧ r < (s.H.puts c.Δ).length) ∧
          dynOK ao.free deps (c.Δ.map (·.1)) tr base = true ∧ AGrp P base l (tr ++ [(deps, c.Δ.map (·.1))]) { s with ρ := setD s.ρ ao.dst c.v, H := s.H.puts c.Δ } K
      | op =>
        match aev op s.ρ s.H s.H.length with
        | none => False
        | some r => dynOK ao.free (adeps op s.ρ) (r.2.map (·.1)) tr base = true ∧ AGrp P base l (tr ++ [(adeps op s.ρ, r.2.map (·.1))]) { s with ρ := setD s.ρ ao.dst r.1, H := s.H.puts r.2 } K

def stepρ (ρ : List AVal) (x : AOper × Oc) : List AVal := setD ρ x.1.dst x.2.v
def stepH (H : Heap) (x : AOper × Oc) : Heap := H.puts x.2.Δ

theorem rAfter_before (l : List (AOper × Oc)) : ∀ (i j : Nat) (ρ : List AVal), rAfter l i (before j) ρ = (l.take (j - i)).foldl stepρ ρ := by
  induction l with
  | nil => intros; simp [rAfter]
  | cons x l ih =>
    intro i j ρ
    simp only [rAfter]
    by_cases h : i < j
    · have e : before j i = true := by simp [before, h]
      rw [e, if_pos rfl, ih, show j - i = (j - (i + 1)) + 1 by omega, List.take_succ_cons, List.foldl_cons]; rfl
    · have e : before j i = false := by simp [before, h]
      rw [e, if_neg (by simp), ih, show j - i = 0 by omega, show j - (i + 1) = 0 by omega]; rfl
theorem hAfter_before (l : List (AOper × Oc)) : ∀ (i j : Nat) (H : Heap), hAfter l i (before j) H = (l.take (j - i)).foldl stepH H := by
  induction l with
  | nil => intros; simp [hAfter]
  | cons x l ih =>
    intro i j ρ
    simp only [hAfter]
    by_cases h : i < j
    · have e : before j i = true := by simp [before, h]
      rw [e, if_pos rfl, ih, show j - i = (j - (i + 1)) + 1 by omega, List.take_succ_cons, List.foldl_cons]; rfl
    · have e : before j i = false := by simp [before, h]
      rw [e, if_neg (by simp), ih, show j - i = 0 by omega, show j - (i + 1) = 0 by omega]; rfl
theorem rAfter_all (l : List (AOper × Oc)) : ∀ (i : Nat) (ρ : List AVal), rAfter l i (fun _ => true) ρ = l.foldl stepρ ρ := by
  induction l with
  | nil => intros; rfl
  | cons x l ih => intro i ρ; simp only [rAfter, if_true, ih, List.foldl_cons]; rfl
theorem hAfter_all (l : List (AOper × Oc)) : ∀ (i : Nat) (H : Heap), hAfter l i (fun _ => true) H = l.foldl stepH H := by
  induction l with
  | nil => intros; rfl
  | cons x l ih => intro i ρ; simp only [hAfter, if_true, ih, List.foldl_cons]; rfl
theorem gone_ρ (n : Nat) (ρ : List AVal) : (List.replicate n gone).foldl stepρ ρ = ρ := by
  induction n with
  | zero => rfl
  | succ n ih => rw [List.replicate_succ, List.foldl_cons]; exact ih
theorem gone_H (n : Nat) (H : Heap) : (List.replicate n gone).foldl stepH H = H := by
  induction n with
  | zero => rfl
  | succ n ih => rw [List.replicate_succ, List.foldl_cons]; exact ih

theorem foldH_len (l : List (AOper × Oc)) : ∀ H : Heap, H.length ≤ (l.foldl stepH H).length := by
  induction l with
  | nil => intro H; exact Nat.le_refl _
  | cons x l ih => intro H; exact Nat.le_trans (Heap.le_puts x.2.Δ H) (ih _)

theorem Heap.puts_lt {n : Nat} : ∀ {Δ : List (Nat × Row)} {H : Heap}, n ∈ Δ.map (·.1) → n < (H.puts Δ).length
  | [], _, h => by simp at h
  | (r, x) :: Δ, H, h => by
    simp only [Heap.puts]
    simp only [List.map_cons, List.mem_cons] at h
    rcases h with rfl | h
    · have := Heap.le_puts Δ (H.put n x)
      rw [Heap.len_put] at this
      omega
    · exact Heap.puts_lt h

structure Inv (P : Program) (s : St) (lo : Nat) (done : List (AOper × Oc)) (tr : List (List Nat × List Nat)) : Prop where
  len : tr.length = done.length
  fresh : ∀ (k : Nat) x, done[k]? = some x → ∀ r ∈ x.2.fs, ((done.take k).foldl stepH s.H).length ≤ r ∧ r < ((done.take (k + 1)).foldl stepH s.H).length
  does : ∀ (k : Nat) x, done[k]? = some x →
    (gval ((done.take k).foldl stepρ s.ρ) x.1.guard = some false ∧ x.2.v = .tup [] ∧ x.2.Δ = [] ∧ tr[k]? = some ([], [])) ∨
    (gval ((done.take k).foldl stepρ s.ρ) x.1.guard = some true ∧ (∃ n, aev x.1.op ((done.take k).foldl stepρ s.ρ) ((done.take k).foldl stepH s.H) n = some (x.2.v, x.2.Δ) ∧ (n ∈ x.2.Δ.map (·.1) → n ∈ x.2.fs)) ∧
      tr[k]? = some (adeps x.1.op ((done.take k).foldl stepρ s.ρ), x.2.rows)) ∨
    (gval ((done.take k).foldl stepρ s.ρ) x.1.guard = some true ∧ (∀ q ∈ s.ms, q ∉ x.2.rows) ∧ ∃ g xs deps, CallAs ((done.take k).foldl stepρ s.ρ) x.1.op g xs ∧
      DCall P g xs (((done.take k).foldl stepH s.H).onlyR deps) x.2 ∧ tr[k]? = some (deps, x.2.rows))
  pairs : ∀ (i k : Nat) x d w d' w', i < k → done[k]? = some x → lo + i ∈ x.1.free → tr[i]? = some (d, w) → tr[k]? = some (d', w') → disj w w' = true ∧ disj d w' = true ∧ disj d' w = true

theorem Inv.snoc {P : Program} {s : St} {lo : Nat} {done : List (AOper × Oc)} {tr : List (List Nat × List Nat)} (h : Inv P s lo done tr) {x : AOper × Oc} {e : List Nat × List Nat}
    (hf : ∀ r ∈ x.2.fs, (done.foldl stepH s.H).length ≤ r ∧ r < ((done.foldl stepH s.H).puts x.2.Δ).length)
    (hd : (gval (done.foldl stepρ s.ρ) x.1.guard = some false ∧ x.2.v = .tup [] ∧ x.2.Δ = [] ∧ e = ([], [])) ∨
      (gval (done.foldl stepρ s.ρ) x.1.guard = some true ∧ (∃ n, aev x.1.op (done.foldl stepρ s.ρ) (done.foldl stepH s.H) n = some (x.2.v, x.2.Δ) ∧ (n ∈ x.2.Δ.map (·.1) → n ∈ x.2.fs)) ∧ e = (adeps x.1.op (done.foldl stepρ s.ρ), x.2.rows)) ∨
      (gval (done.foldl stepρ s.ρ) x.1.guard = some true ∧ (∀ q ∈ s.ms, q ∉ x.2.rows) ∧ ∃ g xs deps, CallAs (done.foldl stepρ s.ρ) x.1.op g xs ∧
        DCall P g xs ((done.foldl stepH s.H).onlyR deps) x.2 ∧ e = (deps, x.2.rows)))
    (hp : dynOK x.1.free e.1 e.2 tr lo = true) : Inv P s lo (done ++ [x]) (tr ++ [e]) := by
  have tk : ∀ k, k ≤ done.length → (done ++ [x]).take k = done.take k := fun k hk => List.take_append_of_le_length hk
  have tk1 : (done ++ [x]).take (done.length + 1) = done ++ [x] := List.take_of_length_le (by simp)
  have tk0 : (done ++ [x]).take done.length = done := by rw [tk _ (Nat.le_refl _)]; exact List.take_length
  have cs : ∀ (k : Nat) y, (done ++ [x])[k]? = some y → (k < done.length ∧ done[k]? = some y) ∨ (k = done.length ∧ y = x) := by
    intro k y hy
    by_cases hk : k < done.length
    · rw [List.getElem?_append_left hk] at hy; exact .inl ⟨hk, hy⟩
    · rw [List.getElem?_append_right (by omega)] at hy
      right
      by_cases h0 : k - done.length = 0
      · rw [h0] at hy; simp at hy; exact ⟨by omega, hy.symm⟩
      · rw [List.getElem?_eq_none (by simp; omega)] at hy; cases hy
  have trl : ∀ k, k < done.length → (tr ++ [e])[k]? = tr[k]? := fun k hk => List.getElem?_append_left (by rw [h.len]; exact hk)
  have tre : (tr ++ [e])[done.length]? = some e := by rw [List.getElem?_append_right (by rw [h.len]; exact Nat.le_refl _), h.len]; simp
  refine ⟨by simp [h.len], fun k y hy r hr => ?_, fun k y hy => ?_, fun i k y d w d' w' hik hy hm hi hk => ?_⟩
  · rcases cs k y hy with ⟨hk, hy⟩ | ⟨rfl, rfl⟩
    · rw [tk k (by omega), tk (k + 1) (by omega)]; exact h.fresh k y hy r hr
    · rw [tk0, tk1, List.foldl_append]; exact hf r hr
  · rcases cs k y hy with ⟨hk, hy⟩ | ⟨rfl, rfl⟩
    · rw [tk k (by omega), trl k hk]; exact h.does k y hy
    · rw [tk0, tre]
      rcases hd with ⟨h1, h2, h3, h4⟩ | ⟨h1, h2, h3⟩ | ⟨h1, h2, g, xs, deps, h3, h5, h6⟩
      · exact .inl ⟨h1, h2, h3, by rw [h4]⟩
      · exact .inr (.inl ⟨h1, h2, by rw [h3]⟩)
      · exact .inr (.inr ⟨h1, h2, g, xs, deps, h3, h5, by rw [h6]⟩)
  · rcases cs k y hy with ⟨hk', hy⟩ | ⟨rfl, rfl⟩
    · rw [trl k hk'] at hk
      rw [trl i (by omega)] at hi
      exact h.pairs i k y d w d' w' hik hy hm hi hk
    · rw [tre] at hk; cases hk
      rw [trl i hik] at hi
      have := dynOK_spec hp i d w hi hm
      exact this

theorem pairStat_fst {x y : AOper} (h : pairStat x y = true) {t : Nat} (ht : x.dst = some t) : t ∉ y.op.tmps ∧ t ∉ guardTmps y.guard ∧ y.dst ≠ some t := by
  unfold pairStat at h
  rw [ht] at h
  simp only [Bool.and_eq_true, Bool.not_eq_true', List.contains_eq_mem, decide_eq_false_iff_not, decide_eq_true_eq] at h
  exact ⟨h.1.1, h.1.2.1, h.1.2.2⟩
theorem pairStat_snd {x y : AOper} (h : pairStat x y = true) {t : Nat} (ht : y.dst = some t) : t ∉ x.op.tmps ∧ t ∉ guardTmps x.guard := by
  unfold pairStat at h
  rw [ht] at h
  simp only [Bool.and_eq_true, Bool.not_eq_true', List.contains_eq_mem, decide_eq_false_iff_not] at h
  exact h.2

section
variable {P : Program} {G : Ctx} {k : Nat} {rd : Option Nat} {s : St} {ops : Array Oper} {K : St → Prop}

theorem onlyR_mask {H : Heap} {deps rs : List Nat} (h : ∀ r ∈ deps, r ∉ rs) : (H.onlyR deps).sub (H.mask rs) := fun r x hx => by
  rw [onlyR_get] at hx
  rw [mask_get]
  exact ⟨h r hx.1, hx.2⟩

theorem DCall.sub {g : FuncId} {args : List AVal} {H H' : Heap} {c : Oc} (h : DCall P g args H c) (hs : H.sub H') : DCall P g args H' c :=
  ⟨h.1, fun G H'' μ cargs w h1 h2 h3 h4 h5 => h.2 G H'' μ cargs w (fun r x hx => h1 r x (hs r x hx)) h2 h3 h4 h5⟩

theorem dr_inv (hu : Upward ops) {aops : List AOper} (haops : aops = ops.toList.zipIdx.map fun (o, i) => coper P ops true i o) (hst : statOK aops = true) {lo : Nat} {done : List (AOper × Oc)} {tr : List (List Nat × List Nat)} (hI : Inv P s lo done tr)
    (hdone : ∀ (i : Nat) x, done[i]? = some x → aops[lo + i]? = some x.1) (hlo : lo ≤ ops.size) (hlen : lo + done.length ≤ ops.size) (hcut : ∀ m y, lo + done.length ≤ m → aops[m]? = some y → ∀ q ∈ y.free, q < lo ∨ lo + done.length ≤ q)
    (h : DR P G k rd ops (lo + done.length) ⟨done.foldl stepρ s.ρ, done.foldl stepH s.H, s.ms⟩ K) : DR P G k rd ops lo s K := by
  have hasz : aops.length = ops.size := by rw [haops]; simp
  have haop : ∀ j y, aops[j]? = some y → ∃ o, ops[j]? = some o ∧ coper P ops true j o = y := by
    intro j y hy
    rw [haops, List.getElem?_map, List.getElem?_zipIdx] at hy
    cases ho : ops.toList[j]? with
    | none => rw [ho] at hy; simp at hy
    | some o =>
      rw [ho] at hy
      simp only [Option.map_some, Nat.zero_add, Option.some.injEq] at hy
      exact ⟨o, by simpa using ho, hy⟩
  have hL : (List.replicate lo gone ++ done).length = lo + done.length := by simp
  have hget : ∀ (j : Nat) x, (List.replicate lo gone ++ done)[j]? = some x → (j < lo ∧ x = gone) ∨ (lo ≤ j ∧ done[j - lo]? = some x) := by
    intro j x hx
    by_cases hj : j < lo
    · rw [List.getElem?_append_left (by simpa using hj), List.getElem?_replicate, if_pos hj] at hx
      cases hx; exact .inl ⟨hj, rfl⟩
    · rw [List.getElem?_append_right (by simpa using hj)] at hx
      exact .inr ⟨by omega, by simpa using hx⟩
  have hρ : ∀ j, lo ≤ j → rAfter (List.replicate lo gone ++ done) 0 (before j) s.ρ = (done.take (j - lo)).foldl stepρ s.ρ := fun j hj => by
    rw [rAfter_before, Nat.sub_zero, List.take_append, List.foldl_append, List.length_replicate, List.take_of_length_le (by simpa using hj), gone_ρ]
  have hH : ∀ j, lo ≤ j → hAfter (List.replicate lo gone ++ done) 0 (before j) s.H = (done.take (j - lo)).foldl stepH s.H := fun j hj => by
    rw [hAfter_before, Nat.sub_zero, List.take_append, List.foldl_append, List.length_replicate, List.take_of_length_le (by simpa using hj), gone_H]
  -- the fresh rows
  have hmono : ∀ a b, a ≤ b → ((done.take a).foldl stepH s.H).length ≤ ((done.take b).foldl stepH s.H).length := fun a b hab => by
    have : done.take b = done.take a ++ (done.drop a).take (b - a) := by
      rw [← List.take_append_drop a (done.take b), List.take_take, Nat.min_eq_left hab, List.drop_take]
    rw [this, List.foldl_append]
    exact foldH_len _ _
  refine dr_seg hu (l := List.replicate lo gone ++ done) (by rw [hL]; exact hlen) (by rw [hL]; omega) (fun j x hj hx => ?_) (fun j x hj hx => ?_) (fun j x hj hx => ?_) (fun m j hm hms hj hjl => ?_) ?_
  · rcases hget j x hx with ⟨h1, _⟩ | ⟨h1, h2⟩
    · omega
    · have := hdone _ _ h2
      rw [show lo + (j - lo) = j by omega] at this
      exact haop j _ this
  · rcases hget j x hx with ⟨_, h2⟩ | ⟨h1, _⟩
    · exact h2
    · omega
  · rcases hget j x hx with ⟨h1, _⟩ | ⟨_, h2⟩
    · omega
    have hao := hdone _ _ h2
    rw [show lo + (j - lo) = j by omega] at hao
    obtain ⟨hf1, hf2⟩ := statOK_spec hst hao
    have hjk : j - lo < done.length := (List.getElem?_eq_some_iff.1 h2).1
    obtain ⟨⟨d', w'⟩, htr⟩ : ∃ e, tr[j - lo]? = some e := ⟨_, List.getElem?_eq_getElem (by rw [hI.len]; exact hjk)⟩
    -- an unordered one
    have hun : ∀ m y, (List.replicate lo gone ++ done)[m]? = some y → unord x.1 j y.1 m → y = gone ∨ (lo ≤ m ∧ ∃ d w, tr[m - lo]? = some (d, w) ∧ w = y.2.rows ∧ disj w w' = true ∧ disj w' w = true ∧ disj d' w = true ∧
        (∀ t, y.1.dst = some t → t ∉ x.1.op.tmps ∧ t ∉ guardTmps x.1.guard ∧ x.1.dst ≠ some t)) := by
      intro m y hy hu
      rcases hget m y hy with ⟨_, rfl⟩ | ⟨hm, hy2⟩
      · exact .inl rfl
      · right
        have hmk : m - lo < done.length := (List.getElem?_eq_some_iff.1 hy2).1
        obtain ⟨⟨d, w⟩, htm⟩ : ∃ e, tr[m - lo]? = some e := ⟨_, List.getElem?_eq_getElem (by rw [hI.len]; exact hmk)⟩
        have hwy : w = y.2.rows := by
          rcases hI.does _ _ hy2 with ⟨_, _, h3, h4⟩ | ⟨_, _, h3⟩ | ⟨_, _, _, _, _, _, _, h3⟩
          · rw [htm] at h4; cases h4; simp [Oc.rows, h3]
          · rw [htm] at h3; cases h3; rfl
          · rw [htm] at h3; cases h3; rfl
        have haom := hdone _ _ hy2
        rw [show lo + (m - lo) = m by omega] at haom
        have dsym : ∀ a b : List Nat, disj a b = true → disj b a = true := fun a b hab => by
          unfold disj
          rw [List.all_eq_true]
          intro q hq
          simp only [Bool.not_eq_true', List.contains_eq_mem, decide_eq_false_iff_not]
          exact fun hqa => disj_spec hab hqa hq
        refine ⟨hm, d, w, htm, hwy, ?_⟩
        rcases hu with ⟨hlt, hmf⟩ | ⟨hlt, hjf⟩
        · have := hI.pairs (m - lo) (j - lo) x d w d' w' (by omega) h2 (by rw [show lo + (m - lo) = m by omega]; exact hmf) htm htr
          exact ⟨this.1, dsym _ _ this.1, this.2.2, fun t ht => pairStat_fst (hf2 m _ hmf haom) ht⟩
        · have := hI.pairs (j - lo) (m - lo) y d' w' d w (by omega) hy2 (by rw [show lo + (j - lo) = j by omega]; exact hjf) htr htm
          have hst2 := (statOK_spec hst haom).2 j _ hjf hao
          exact ⟨dsym _ _ this.1, this.1, this.2.1, fun t ht => ⟨(pairStat_snd hst2 ht).1, (pairStat_snd hst2 ht).2, fun hx => (pairStat_fst hst2 hx).2.2 ht⟩⟩
    have hw'x : w' = x.2.rows := by
      rcases hI.does _ _ h2 with ⟨_, _, h3, h4⟩ | ⟨_, _, h3⟩ | ⟨_, _, _, _, _, _, _, h3⟩
      · rw [htr] at h4; cases h4; simp [Oc.rows, h3]
      · rw [htr] at h3; cases h3; rfl
      · rw [htr] at h3; cases h3; rfl
    have hloose : ∀ r ∈ d', r ∉ loose (List.replicate lo gone ++ done) x.1 j := by
      intro r hr hl
      unfold loose at hl
      rw [List.mem_flatMap] at hl
      obtain ⟨⟨y, m⟩, hm, hr'⟩ := hl
      rw [List.mem_iff_getElem?] at hm
      obtain ⟨q, hq⟩ := hm
      rw [List.getElem?_zipIdx] at hq
      cases hy : (List.replicate lo gone ++ done)[q]? with
      | none => rw [hy] at hq; simp at hq
      | some y' =>
        rw [hy] at hq
        simp only [Option.map_some, Nat.zero_add, Option.some.injEq, Prod.mk.injEq] at hq
        obtain ⟨rfl, rfl⟩ := hq
        simp only at hr'
        split at hr'
        · rename_i hu
          rcases hun q y' hy hu with rfl | ⟨_, d, w, _, h4, _, _, h5, _⟩
          · simp [gone, Oc.rows] at hr'
          · rw [← h4] at hr'; exact disj_spec h5 hr hr'
        · simp at hr'
    have hfr := hI.fresh _ _ h2
    refine ⟨hf1, fun m y hy hu => ?_, fun r hr => ?_, fun m y hy hne r hr hry => ?_, ?_⟩
    · rcases hun m y hy hu with rfl | ⟨_, d, w, _, h4, h5, h6, _, h7⟩
      · exact ⟨fun t ht => by simp [gone] at ht, fun r _ => by simp [gone, Oc.rows]⟩
      · refine ⟨h7, fun r hr => ?_⟩
        rw [← hw'x] at hr
        rw [← h4]; exact disj_spec h6 hr
    · have := (hfr r hr).1
      have h3 := hmono 0 (j - lo) (by omega)
      simp only [List.take_zero, List.foldl_nil] at h3
      omega
    · rcases hget m y hy with ⟨_, rfl⟩ | ⟨hm, hy2⟩
      · simp [gone] at hry
      · have h3 := hfr r hr
        have h4 := hI.fresh _ _ hy2 r hry
        rcases Nat.lt_or_ge m j with hmj | hmj
        · have := hmono (m - lo + 1) (j - lo) (by omega); omega
        · have := hmono (j - lo + 1) (m - lo) (by omega); omega
    · rw [hρ j hj, hH j hj]
      rcases hI.does _ _ h2 with ⟨h3, h4, h5, _⟩ | ⟨h3, ⟨n, h4, h5⟩, h6⟩ | ⟨h3, h4, g, xs, deps, h5, h7, h8⟩
      · exact .inl ⟨h3, h4, h5⟩
      · refine .inr (.inl ⟨h3, n, ?_, h5⟩)
        rw [htr] at h6; cases h6
        refine aev_dep (fun r hr y hy => ?_) (fun r hr y hy => ?_) h4
        · rw [cellsAt_mask, if_neg (hloose r hr)]; exact hy
        · rw [mapAt_mask, if_neg (hloose r hr)]; exact hy
      · rw [htr] at h8; cases h8
        exact .inr (.inr ⟨h3, h4, g, xs, h5, h7.sub (onlyR_mask hloose)⟩)
  · obtain ⟨y, hy⟩ : ∃ y, aops[m]? = some y := ⟨_, List.getElem?_eq_getElem (by omega)⟩
    rw [hL] at hm hjl
    have hq := hcut m y hm hy
    obtain ⟨o, ho, hco⟩ := haop m y hy
    have hmf := (statOK_spec hst hy).1
    rw [← hco] at hq hmf
    simp only [coper, if_true] at hq hmf
    split at hq
    · rename_i he
      refine Decidable.byContradiction fun hn => ?_
      have := hq j (List.mem_filter.2 ⟨List.mem_range.2 (by omega), by simpa using hn⟩)
      omega
    · rename_i he
      rw [if_neg he] at hmf
      simp at hmf
  · rw [hL, rAfter_all, hAfter_all, List.foldl_append, List.foldl_append, gone_ρ, gone_H]; exact h

theorem dr_grp (hu : Upward ops) {aops : List AOper} (haops : aops = ops.toList.zipIdx.map fun (o, i) => coper P ops true i o) (hst : statOK aops = true) {lo hi : Nat} (hhi : hi ≤ ops.size) (hcut : ∀ m y, hi ≤ m → aops[m]? = some y → ∀ q ∈ y.free, q < lo ∨ hi ≤ q) :
    ∀ (l : List AOper) (done : List (AOper × Oc)) (tr : List (List Nat × List Nat)) (s' : St), lo + done.length + l.length = hi → Inv P s lo done tr → (∀ (i : Nat) x, done[i]? = some x → aops[lo + i]? = some x.1) → (∀ (i : Nat) y, l[i]? = some y → aops[lo + done.length + i]? = some y) →
      s' = ⟨done.foldl stepρ s.ρ, done.foldl stepH s.H, s.ms⟩ → AGrp P lo l tr s' (fun s'' => DR P G k rd ops hi s'' K) → DR P G k rd ops lo s K
  | [], done, tr, s', hlen, hI, hd, _, hs', h => by
    subst hs'
    simp only [List.length_nil, Nat.add_zero] at hlen
    subst hlen
    exact dr_inv hu haops hst hI hd (by omega) hhi hcut h
  | ao :: l, done, tr, s', hlen, hI, hd, hl, hs', h => by
    subst hs'
    have next : ∀ (x : AOper × Oc) (e : List Nat × List Nat), x.1 = ao → Inv P s lo (done ++ [x]) (tr ++ [e]) → AGrp P lo l (tr ++ [e]) ⟨setD (done.foldl stepρ s.ρ) x.1.dst x.2.v, (done.foldl stepH s.H).puts x.2.Δ, s.ms⟩ (fun s'' => DR P G k rd ops hi s'' K) → DR P G k rd ops lo s K := by
      intro x e hx hI' hA
      refine dr_grp hu haops hst hhi hcut l (done ++ [x]) (tr ++ [e]) _ (by simp only [List.length_append, List.length_cons, List.length_nil] at hlen ⊢; omega) hI' (fun i y hy => ?_) (fun i y hy => ?_) (by rw [List.foldl_append, List.foldl_append]; rfl) hA
      · by_cases hi : i < done.length
        · rw [List.getElem?_append_left hi] at hy; exact hd i y hy
        · rw [List.getElem?_append_right (by omega)] at hy
          have h0 : i - done.length = 0 := by
            refine Decidable.byContradiction fun hc => ?_
            rw [List.getElem?_eq_none (by simp; omega)] at hy; cases hy
          rw [h0] at hy
          simp only [List.getElem?_cons_zero, Option.some.injEq] at hy
          subst hy
          have := hl 0 ao (by simp)
          rw [hx, show lo + i = lo + done.length + 0 by omega]; exact this
      · have := hl (i + 1) y (by simpa using hy)
        rw [List.length_append, List.length_singleton, show lo + (done.length + 1) + i = lo + done.length + (i + 1) by omega]; exact this
    simp only [AGrp] at h
    cases hg : gval (done.foldl stepρ s.ρ) ao.guard with
    | none => rw [hg] at h; exact h.elim
    | some b =>
      rw [hg] at h
      cases b with
      | false =>
        refine next (ao, ⟨.tup [], [], []⟩) ([], []) rfl (hI.snoc (fun r hr => by simp at hr) (.inl ⟨hg, rfl, rfl, rfl⟩) ?_) h
        have : ∀ (tr : List (List Nat × List Nat)) i, dynOK ao.free [] [] tr i = true := by
          intro tr
          induction tr with
          | nil => intro i; rfl
          | cons p tr ih =>
            intro i
            have e : ∀ l : List Nat, disj l [] = true := fun l => by simp [disj]
            simp only [dynOK, e, ih]
            simp [disj]
        exact this _ _
      | true =>
        have simple : (match aev ao.op (done.foldl stepρ s.ρ) (done.foldl stepH s.H) (done.foldl stepH s.H).length with
            | none => False
            | some r => dynOK ao.free (adeps ao.op (done.foldl stepρ s.ρ)) (r.2.map (·.1)) tr lo = true ∧ AGrp P lo l (tr ++ [(adeps ao.op (done.foldl stepρ s.ρ), r.2.map (·.1))]) ⟨setD (done.foldl stepρ s.ρ) ao.dst r.1, (done.foldl stepH s.H).puts r.2, s.ms⟩ (fun s'' => DR P G k rd ops hi s'' K)) → DR P G k rd ops lo s K := by
          intro h
          cases he : aev ao.op (done.foldl stepρ s.ρ) (done.foldl stepH s.H) (done.foldl stepH s.H).length with
          | none => rw [he] at h; exact h.elim
          | some r =>
            rw [he] at h
            obtain ⟨v, Δ⟩ := r
            obtain ⟨h1, h2⟩ := h
            refine next (ao, ⟨v, Δ, if (done.foldl stepH s.H).length ∈ Δ.map (·.1) then [(done.foldl stepH s.H).length] else []⟩) _ rfl (hI.snoc (fun r hr => ?_) (.inr (.inl ⟨hg, ⟨_, he, fun hn => by simp only [if_pos hn]; simp⟩, rfl⟩)) h1) h2
            simp only at hr
            split at hr
            · rename_i hn
              simp only [List.mem_singleton] at hr
              subst hr
              exact ⟨Nat.le_refl _, Heap.puts_lt hn⟩
            · simp at hr
        cases hop : ao.op
        case call f xs =>
          rw [hop] at h
          obtain ⟨g, ys, cs, c, deps, hms, h1, h2, h3, h4, h5⟩ := h
          exact next (ao, c) (deps, c.Δ.map (·.1)) rfl (hI.snoc h3 (.inr (.inr ⟨hg, hms, g, _, deps, .inl ⟨f, xs, ys, cs, hop, h1, rfl⟩, h2, rfl⟩)) h4) h5
        case callM tab f xs =>
          rw [hop] at h
          obtain ⟨t, v, g, c, deps, hms, h1, h1', h2, h3, h4, h5⟩ := h
          exact next (ao, c) (deps, c.Δ.map (·.1)) rfl (hI.snoc h3 (.inr (.inr ⟨hg, hms, g, _, deps, .inr ⟨tab, f, xs, t, v, hop, h1, h1', rfl⟩, h2, rfl⟩)) h4) h5
        all_goals (rw [hop] at h; rw [hop] at simple; exact simple h)

def cutOK (lo p : Nat) (rest : List AOper) : Bool := (rest.drop p).all fun y => y.free.all fun q => decide (q < lo) || decide (lo + p ≤ q)

def cutFrom (lo : Nat) (rest : List AOper) : Nat → Nat → Nat
  | 0, _ => rest.length
  | n + 1, p => if cutOK lo p rest = true then p else cutFrom lo rest n (p + 1)

def segsOf : Nat → Nat → List AOper → List (List AOper)
  | 0, _, _ => []
  | _ + 1, _, [] => []
  | n + 1, lo, a :: rest => (a :: rest).take (cutFrom lo (a :: rest) (a :: rest).length 1) :: segsOf n (lo + cutFrom lo (a :: rest) (a :: rest).length 1) ((a :: rest).drop (cutFrom lo (a :: rest) (a :: rest).length 1))

def segs (l : List AOper) : List (List AOper) := segsOf l.length 0 l

theorem cutFrom_spec {lo : Nat} {rest : List AOper} (hr : 0 < rest.length) : ∀ (n p : Nat), 1 ≤ p → 1 ≤ cutFrom lo rest n p ∧ ∀ m y, cutFrom lo rest n p ≤ m → rest[m]? = some y → ∀ q ∈ y.free, q < lo ∨ lo + cutFrom lo rest n p ≤ q
  | 0, p, _ => ⟨hr, fun m y hm hy => by simp only [cutFrom] at hm; rw [List.getElem?_eq_none hm] at hy; cases hy⟩
  | n + 1, p, hp => by
    simp only [cutFrom]
    split
    · rename_i hc
      refine ⟨hp, fun m y hm hy q hq => ?_⟩
      unfold cutOK at hc
      have h1 : (rest.drop p)[m - p]? = some y := by rw [List.getElem?_drop, show p + (m - p) = m by omega]; exact hy
      have := List.all_eq_true.1 (List.all_eq_true.1 hc y (List.mem_of_getElem? h1)) q hq
      simpa using this
    · exact cutFrom_spec hr n (p + 1) (by omega)

def Valid (aops : List AOper) : Nat → List (List AOper) → Prop
  | lo, [] => aops.length ≤ lo
  | lo, grp :: ss => grp ≠ [] ∧ (∀ (i : Nat) y, grp[i]? = some y → aops[lo + i]? = some y) ∧ lo + grp.length ≤ aops.length ∧
      (∀ (m : Nat) y, lo + grp.length ≤ m → aops[m]? = some y → ∀ q ∈ y.free, q < lo ∨ lo + grp.length ≤ q) ∧ Valid aops (lo + grp.length) ss

theorem segs_valid (aops : List AOper) : ∀ (n lo : Nat), aops.length - lo ≤ n → Valid aops lo (segsOf n lo (aops.drop lo)) := by
  intro n
  induction n with
  | zero => intro lo h; simp only [segsOf, Valid]; omega
  | succ n ih =>
    intro lo h
    cases hd : aops.drop lo with
    | nil =>
      simp only [segsOf, Valid]
      have := congrArg List.length hd
      simp at this; omega
    | cons a rest =>
      have hlen : (a :: rest).length = aops.length - lo := by rw [← hd, List.length_drop]
      have hpos : 0 < aops.length - lo := by rw [← hlen]; simp
      obtain ⟨h1, h2⟩ := cutFrom_spec (lo := lo) (rest := a :: rest) (by simp) (a :: rest).length 1 (Nat.le_refl _)
      simp only [segsOf]
      generalize cutFrom lo (a :: rest) (a :: rest).length 1 = p at h1 h2 ⊢
      have hget : ∀ i, (a :: rest)[i]? = aops[lo + i]? := fun i => by rw [← hd, List.getElem?_drop]
      have hl2 : ((a :: rest).take p).length = min p (aops.length - lo) := by rw [List.length_take, hlen]
      have hcut : ∀ (m : Nat) y, lo + ((a :: rest).take p).length ≤ m → aops[m]? = some y → ∀ q ∈ y.free, q < lo ∨ lo + ((a :: rest).take p).length ≤ q := by
        intro m y hm hy q hq
        have hml : m < aops.length := (List.getElem?_eq_some_iff.1 hy).1
        rw [hl2] at hm ⊢
        have hm2 : p ≤ m - lo := by omega
        have := h2 (m - lo) y hm2 (by rw [hget, show lo + (m - lo) = m by omega]; exact hy) q hq
        omega
      refine ⟨?_, fun i y hy => ?_, by rw [hl2]; omega, hcut, ?_⟩
      · intro he
        have := congrArg List.length he
        rw [hl2] at this
        simp at this hlen
        omega
      · rw [List.getElem?_take] at hy
        split at hy
        · rw [← hget]; exact hy
        · cases hy
      · have e : (a :: rest).drop p = aops.drop (lo + p) := by rw [← hd, List.drop_drop]
        rw [e]
        rcases Nat.lt_or_ge (aops.length - lo) p with hp | hp
        · have e1 : aops.drop (lo + p) = [] := List.drop_eq_nil_of_le (by omega)
          rw [e1]
          have e2 : segsOf n (lo + p) [] = [] := by cases n <;> rfl
          rw [e2, hl2]
          simp only [Valid]; omega
        · rw [show lo + ((a :: rest).take p).length = lo + p by rw [hl2]; omega]
          exact ih (lo + p) (by omega)

def ASegs (P : Program) (G : Ctx) (k : Nat) (rd : Option Nat) : Nat → List (List AOper) → St → (St → Prop) → Prop
  | _, [], s, K => K s
  | lo, [ao] :: ss, s, K => OpA P G k rd ao s fun s' => ASegs P G k rd (lo + 1) ss s' K
  | lo, grp :: ss, s, K => AGrp P lo grp [] s fun s' => ASegs P G k rd (lo + grp.length) ss s' K

theorem AGrp.mono {base : Nat} {K' : St → Prop} (hK : ∀ s, K s → K' s) : ∀ (l : List AOper) (tr : List (List Nat × List Nat)) (s : St), AGrp P base l tr s K → AGrp P base l tr s K'
  | [], _, s, h => hK s h
  | ao :: l, tr, s, h => by
    simp only [AGrp] at h ⊢
    cases hg : gval s.ρ ao.guard with
    | none => rw [hg] at h; exact h.elim
    | some b =>
      rw [hg] at h
      cases b with
      | false => exact AGrp.mono hK l _ _ h
      | true =>
        have simple : ∀ o : Option (AVal × List (Nat × Row)), (match o with
            | none => False
            | some r => dynOK ao.free (adeps ao.op s.ρ) (r.2.map (·.1)) tr base = true ∧ AGrp P base l (tr ++ [(adeps ao.op s.ρ, r.2.map (·.1))]) { s with ρ := setD s.ρ ao.dst r.1, H := s.H.puts r.2 } K) → (match o with
            | none => False
            | some r => dynOK ao.free (adeps ao.op s.ρ) (r.2.map (·.1)) tr base = true ∧ AGrp P base l (tr ++ [(adeps ao.op s.ρ, r.2.map (·.1))]) { s with ρ := setD s.ρ ao.dst r.1, H := s.H.puts r.2 } K') := by
          intro o ho
          cases o with
          | none => exact ho
          | some r => exact ⟨ho.1, AGrp.mono hK l _ _ ho.2⟩
        cases hop : ao.op
        case call f xs =>
          rw [hop] at h
          obtain ⟨g, ys, cs, c, deps, hms, h1, h2, h3, h4, h5⟩ := h
          exact ⟨g, ys, cs, c, deps, hms, h1, h2, h3, h4, AGrp.mono hK l _ _ h5⟩
        case callM tab f xs =>
          rw [hop] at h
          obtain ⟨t, v, g, c, deps, hms, h1, h1', h2, h3, h4, h5⟩ := h
          exact ⟨t, v, g, c, deps, hms, h1, h1', h2, h3, h4, AGrp.mono hK l _ _ h5⟩
        all_goals (have simple' := simple (aev ao.op s.ρ s.H s.H.length); rw [hop] at h simple'; exact simple' h)

theorem OpA.mono {ao : AOper} {K' : St → Prop} (hK : ∀ s, K s → K' s) (h : OpA P G k rd ao s K) : OpA P G k rd ao s K' :=
  fun ops draw i o Q hi hc μ ro a w h1 h2 => wpOpIn_mono (fun _ _ ⟨μ', s', q1, q2⟩ => ⟨μ', s', hK _ q1, q2⟩) (h ops draw i o Q hi hc μ ro a w h1 h2)

theorem dr_segs (hu : Upward ops) {aops : List AOper} (haops : aops = ops.toList.zipIdx.map fun (o, i) => coper P ops true i o) (hst : statOK aops = true) :
    ∀ (ss : List (List AOper)) (lo : Nat) (s : St), Valid aops lo ss → ASegs P G k rd lo ss s K → DR P G k rd ops lo s K := by
  have hasz : aops.length = ops.size := by rw [haops]; simp
  intro ss
  induction ss with
  | nil => intro lo s hv h; exact dr_end (by simp only [Valid] at hv; omega) h
  | cons grp ss ih =>
    intro lo s hv h
    obtain ⟨h1, h2, h3, h4, h5⟩ := hv
    match grp, h with
    | [], _ => exact absurd rfl h1
    | [ao], h =>
      have hao := h2 0 ao (by simp)
      simp only [Nat.add_zero] at hao
      have hlo : lo < ops.size := by simp only [List.length_singleton] at h3; omega
      have ho : ops[lo]? = some ops[lo] := by simp [hlo]
      have hco : coper P ops true lo ops[lo] = ao := by
        rw [haops, List.getElem?_map, List.getElem?_zipIdx] at hao
        simpa [hlo] using hao
      refine dr_bar hu ho (fun m hm hms => ?_) ?_
      · obtain ⟨y, hy⟩ : ∃ y, aops[m]? = some y := ⟨_, List.getElem?_eq_getElem (by omega)⟩
        have hq := h4 m y (by simp only [List.length_singleton]; omega) hy
        have hmf := (statOK_spec hst hy).1
        rw [haops, List.getElem?_map, List.getElem?_zipIdx] at hy
        simp [hms] at hy
        rw [← hy] at hq hmf
        simp only [coper, if_true] at hq hmf
        split at hq
        · refine Decidable.byContradiction fun hn => ?_
          have := hq lo (List.mem_filter.2 ⟨List.mem_range.2 (by omega), by simpa using hn⟩)
          simp only [List.length_singleton] at this
          omega
        · rename_i he
          rw [if_neg he] at hmf
          simp at hmf
      · rw [hco]
        simp only [ASegs] at h
        exact h.mono fun s' hs' => ih (lo + 1) s' h5 hs'
    | a :: b :: grp, h =>
      simp only [ASegs] at h
      refine dr_grp hu haops hst (hi := lo + (a :: b :: grp).length) (by omega) h4 (a :: b :: grp) [] [] s (by simp) ⟨rfl, fun k x hx => by simp at hx, fun k x hx => by simp at hx, fun i k x d w d' w' _ hx => by simp at hx⟩ (fun i x hx => by simp at hx) (fun i y hy => by simpa using h2 i y hy) rfl ?_
      exact AGrp.mono (fun s' hs' => ih _ s' h5 hs') _ _ _ h

theorem aw_reg_segs {l : List AOper} {Q : Exit → St → Prop} (hm : P.follows .mixedOrders = true) (hst : statOK l = true) (h : ASegs P G k rd 0 (segs l) s (Q .normal)) : AW P G k rd (.reg l true) Q s := by
  refine aw_reg_dr hm fun ops haops => ?_
  have hu : Upward ops := by
    intro j o ho
    have hy : l[j]? = some (coper P ops true j o) := by
      rw [haops, List.getElem?_map, List.getElem?_zipIdx]
      have : ops.toList[j]? = some o := by simpa using ho
      rw [this]; simp
    have hmf := (statOK_spec hst hy).1
    simp only [coper, if_true] at hmf
    split at hmf
    · assumption
    · simp at hmf
  refine dr_segs hu haops hst (segs l) 0 s ?_ h
  have := segs_valid l l.length 0 (by omega)
  simpa [segs] using this
end
end Go.Sx
/- Values: what they refer to, whether two are equal. -/
namespace Go.Sx
open Go

mutual
def allR (p : Nat → Bool) : AVal → Bool
  | .any | .bool _ | .int _ _ | .str _ | .nilptr | .nilsl | .nilfn | .niliface | .nilmap => true
  | .ptr r _ _ _ => p r
  | .rptr e _ => allR p e
  | .sl r _ _ => p r
  | .view es => allRs p es
  | .fn _ a b => allRs p a && allRs p b
  | .yfn r => p r
  | .iface _ v => allR p v
  | .agg cs => allRs p cs
  | .tup cs => allRs p cs
  | .mp r => p r
def allRs (p : Nat → Bool) : List AVal → Bool
  | [] => true
  | v :: vs => allR p v && allRs p vs
end

mutual
def rowsV : AVal → List Nat
  | .any | .bool _ | .int _ _ | .str _ | .nilptr | .nilsl | .nilfn | .niliface | .nilmap => []
  | .ptr r _ _ _ => [r]
  | .rptr e _ => rowsV e
  | .sl r _ _ => [r]
  | .view es => rowsVs es
  | .fn _ a b => rowsVs a ++ rowsVs b
  | .yfn r => [r]
  | .iface _ v => rowsV v
  | .agg cs => rowsVs cs
  | .tup cs => rowsVs cs
  | .mp r => [r]
def rowsVs : List AVal → List Nat
  | [] => []
  | v :: vs => rowsV v ++ rowsVs vs
end

mutual
def veq : AVal → AVal → Bool
  | .any, w => match w with | .any => true | _ => false
  | .bool a, w => match w with | .bool b => a == b | _ => false
  | .int k n, w => match w with | .int k' n' => decide (k = k') && decide (n = n') | _ => false
  | .str s, w => match w with | .str t => decide (s = t) | _ => false
  | .ptr r i o L, w => match w with | .ptr r' i' o' L' => decide (r = r') && (decide (i = i') && (decide (o = o') && decide (L = L'))) | _ => false
  | .rptr e o, w => match w with | .rptr e' o' => veq e e' && decide (o = o') | _ => false
  | .nilptr, w => match w with | .nilptr => true | _ => false
  | .sl r o l, w => match w with | .sl r' o' l' => decide (r = r') && (decide (o = o') && decide (l = l')) | _ => false
  | .view es, w => match w with | .view es' => veqs es es' | _ => false
  | .nilsl, w => match w with | .nilsl => true | _ => false
  | .fn (.func f) a b, w => match w with | .fn (.func g) a' b' => decide (f = g) && (veqs a a' && veqs b b') | _ => false
  | .fn _ _ _, _ => false
  | .yfn r, w => match w with | .yfn r' => decide (r = r') | _ => false
  | .nilfn, w => match w with | .nilfn => true | _ => false
  | .iface t v, w => match w with | .iface t' v' => decide (t = t') && veq v v' | _ => false
  | .niliface, w => match w with | .niliface => true | _ => false
  | .agg cs, w => match w with | .agg cs' => veqs cs cs' | _ => false
  | .tup cs, w => match w with | .tup cs' => veqs cs cs' | _ => false
  | .mp r, w => match w with | .mp r' => decide (r = r') | _ => false
  | .nilmap, w => match w with | .nilmap => true | _ => false
def veqs : List AVal → List AVal → Bool
  | [], w => match w with | [] => true | _ => false
  | v :: vs, w => match w with | u :: us => veq v u && veqs vs us | [] => false
end

mutual
theorem veq_eq : ∀ (v w : AVal), veq v w = true → v = w
  | .any, w, h => by cases w <;> simp_all [veq]
  | .bool a, w, h => by cases w <;> simp_all [veq]
  | .int k n, w, h => by cases w <;> simp_all [veq]
  | .str s, w, h => by cases w <;> simp_all [veq]
  | .ptr r i o L, w, h => by cases w <;> simp_all [veq]
  | .rptr e o, w, h => by
    cases w <;> simp only [veq] at h <;> try (cases h; done)
    rename_i e' o'
    simp only [Bool.and_eq_true, decide_eq_true_eq] at h
    rw [veq_eq e e' h.1, h.2]
  | .nilptr, w, h => by cases w <;> simp_all [veq]
  | .sl r o l, w, h => by cases w <;> simp_all [veq]
  | .view es, w, h => by
    cases w <;> simp only [veq] at h <;> try (cases h; done)
    rw [veqs_eq _ _ h]
  | .nilsl, w, h => by cases w <;> simp_all [veq]
  | .fn (.func f) a b, w, h => by
    cases w <;> simp only [veq] at h <;> try (cases h; done)
    rename_i g a' b'
    cases g <;> simp only [] at h <;> try (cases h; done)
    simp only [Bool.and_eq_true, decide_eq_true_eq] at h
    rw [h.1, veqs_eq _ _ h.2.1, veqs_eq _ _ h.2.2]
  | .fn (.method n) a b, w, h => by simp [veq] at h
  | .fn (.methodOf t n) a b, w, h => by simp [veq] at h
  | .fn (.yield l) a b, w, h => by simp [veq] at h
  | .yfn r, w, h => by cases w <;> simp_all [veq]
  | .nilfn, w, h => by cases w <;> simp_all [veq]
  | .iface t v, w, h => by
    cases w <;> simp only [veq] at h <;> try (cases h; done)
    rename_i t' v'
    simp only [Bool.and_eq_true, decide_eq_true_eq] at h
    rw [veq_eq v v' h.2, h.1]
  | .niliface, w, h => by cases w <;> simp_all [veq]
  | .agg cs, w, h => by
    cases w <;> simp only [veq] at h <;> try (cases h; done)
    rw [veqs_eq _ _ h]
  | .tup cs, w, h => by
    cases w <;> simp only [veq] at h <;> try (cases h; done)
    rw [veqs_eq _ _ h]
  | .mp r, w, h => by cases w <;> simp_all [veq]
  | .nilmap, w, h => by cases w <;> simp_all [veq]
theorem veqs_eq : ∀ (v w : List AVal), veqs v w = true → v = w
  | [], w, h => by cases w <;> simp_all [veqs]
  | v :: vs, w, h => by
    cases w <;> simp only [veqs] at h <;> try (cases h; done)
    simp only [Bool.and_eq_true] at h
    rw [veq_eq _ _ h.1, veqs_eq _ _ h.2]
end

theorem Bel.cells {S : Nat → Prop} {v : AVal} (h : Bel S v) : ∀ j, j < (acells v).length → Bel S ((acells v).getD j .any) := by
  intro j hj
  by_cases hv : ∃ cs, v = .agg cs
  · obtain ⟨cs, rfl⟩ := hv
    cases h with | agg _ hv => exact hv j hj
  · rw [acells_one hv] at hj ⊢
    simp only [List.length_singleton] at hj
    obtain rfl : j = 0 := by omega
    exact h

mutual
theorem allR_bel {p : Nat → Bool} : ∀ (v : AVal), allR p v = true → Bel (fun r => p r = true) v
  | .any, _ => .any
  | .bool b, _ => .bool b
  | .int k n, _ => .int k n
  | .str s, _ => .str s
  | .ptr r i o L, h => .ptr r i o L (by simpa [allR] using h)
  | .rptr e o, h => .rptr e o (Bel.cells (allR_bel e (by simpa [allR] using h)))
  | .nilptr, _ => .nilptr
  | .sl r o l, h => .sl r o l (by simpa [allR] using h)
  | .view es, h => .view es fun i j hi hj => Bel.cells (allRs_bel es (by simpa [allR] using h) i hi) j hj
  | .nilsl, _ => .nilsl
  | .fn f a b, h => by
    simp only [allR, Bool.and_eq_true] at h
    exact .fn f a b (allRs_bel a h.1) (allRs_bel b h.2)
  | .yfn r, h => .yfn r (by simpa [allR] using h)
  | .nilfn, _ => .nilfn
  | .iface t v, h => .iface t v (allR_bel v (by simpa [allR] using h))
  | .niliface, _ => .niliface
  | .agg cs, h => .agg cs (allRs_bel cs (by simpa [allR] using h))
  | .tup cs, h => .tup cs (allRs_bel cs (by simpa [allR] using h))
  | .mp r, h => .mp r (by simpa [allR] using h)
  | .nilmap, _ => .nilmap
theorem allRs_bel {p : Nat → Bool} : ∀ (l : List AVal), allRs p l = true → ∀ i, i < l.length → Bel (fun r => p r = true) (l.getD i .any)
  | [], _, i, hi => by simp at hi
  | v :: vs, h, i, hi => by
    simp only [allRs, Bool.and_eq_true] at h
    cases i with
    | zero => exact allR_bel v h.1
    | succ i => simpa using allRs_bel vs h.2 i (by simpa using hi)
end

theorem list_ext_getD {a b : List AVal} (hl : a.length = b.length) (h : ∀ i, i < a.length → a.getD i .any = b.getD i .any) : a = b := by
  apply List.ext_getElem hl
  intro i h1 h2
  have := h i h1
  rw [List.getD_eq_getElem?_getD, List.getD_eq_getElem?_getD, List.getElem?_eq_getElem h1, List.getElem?_eq_getElem h2] at this
  exact this

theorem ren_back {f g : Nat → Nat} {S : Nat → Prop} (hS : ∀ r, S r → f (g r) = r) {v : AVal} (h : Bel S v) : ren f (ren g v) = v := by
  have cells : ∀ e : AVal, (∀ j, j < (acells e).length → ren f (ren g ((acells e).getD j .any)) = (acells e).getD j .any) → ren f (ren g e) = e := by
    intro e he
    by_cases hv : ∃ cs, e = .agg cs
    · obtain ⟨cs, rfl⟩ := hv
      simp only [ren, acells] at he ⊢
      congr 1
      refine list_ext_getD (by simp [rens_len]) fun i hi => ?_
      rw [rens_getD, rens_getD]
      exact he i (by simpa [rens_len] using hi)
    · rw [acells_one hv] at he
      simpa using he 0 (by simp)
  induction h with
  | any => rfl
  | bool b => rfl
  | int q n => rfl
  | str l => rfl
  | ptr r i off L hr => simp only [ren, hS r hr]
  | rptr e off _ ih => simp only [ren]; rw [cells e ih]
  | nilptr => rfl
  | sl r off len hr => simp only [ren, hS r hr]
  | view es _ ih =>
    simp only [ren]
    congr 1
    refine list_ext_getD (by simp [rens_len]) fun i hi => ?_
    rw [rens_getD, rens_getD]
    exact cells _ (ih i · (by simpa [rens_len] using hi))
  | nilsl => rfl
  | fn f' a b _ _ iha ihb =>
    simp only [ren]
    congr 1
    · exact list_ext_getD (by simp [rens_len]) fun i hi => by rw [rens_getD, rens_getD]; exact iha i (by simpa [rens_len] using hi)
    · exact list_ext_getD (by simp [rens_len]) fun i hi => by rw [rens_getD, rens_getD]; exact ihb i (by simpa [rens_len] using hi)
  | yfn r hr => simp only [ren, hS r hr]
  | nilfn => rfl
  | iface t v _ ih => simp only [ren, ih]
  | niliface => rfl
  | agg cs _ ih =>
    simp only [ren]
    congr 1
    exact list_ext_getD (by simp [rens_len]) fun i hi => by rw [rens_getD, rens_getD]; exact ih i (by simpa [rens_len] using hi)
  | tup cs _ ih =>
    simp only [ren]
    congr 1
    exact list_ext_getD (by simp [rens_len]) fun i hi => by rw [rens_getD, rens_getD]; exact ih i (by simpa [rens_len] using hi)
  | mp r hr => simp only [ren, hS r hr]
  | nilmap => rfl

def Row.allR (p : Nat → Bool) : Row → Bool
  | .cells _ _ es => allRs p es
  | .loop ρ _ _ _ d _ _ => p d && allRs p ρ
  | .dfr => true
  | .siter _ _ => true
  | .mapr _ _ vs => allRs p vs
  | .dead => true

def Row.rows : Row → List Nat
  | .cells _ _ es => rowsVs es
  | .loop ρ _ _ _ d _ _ => d :: rowsVs ρ
  | .dfr => []
  | .siter _ _ => []
  | .mapr _ _ vs => rowsVs vs
  | .dead => []

def Row.same : Row → Row → Bool
  | .cells g sz es, x => match x with | .cells g' sz' es' => g == g' && (decide (sz = sz') && veqs es es') | _ => false
  | .dfr, x => match x with | .dfr => true | _ => false
  | .dead, x => match x with | .dead => true | _ => false
  | _, _ => false

theorem Row.same_eq {x y : Row} (h : x.same y = true) : x = y := by
  cases x <;> cases y <;> simp only [Row.same, Bool.and_eq_true, beq_iff_eq, decide_eq_true_eq] at h <;> try (cases h; done)
  · obtain ⟨rfl, rfl, h⟩ := h; rw [veqs_eq _ _ h]
  · rfl
  · rfl

theorem Row.allR_bel {p : Nat → Bool} {x : Row} (h : x.allR p = true) : x.bel (fun r => p r = true) := by
  cases x with
  | cells g sz es => exact fun i j hi hj => Bel.cells (allRs_bel es h i hi) j hj
  | loop ρ ps asg body d st pend =>
    simp only [Row.allR, Bool.and_eq_true] at h
    exact ⟨h.1, allRs_bel ρ h.2⟩
  | dfr => trivial
  | siter s pos => trivial
  | mapr kk ks vs => exact fun i hi => allRs_bel vs h i hi
  | dead => trivial

theorem Row.ren_back {f g : Nat → Nat} {p : Nat → Bool} (hS : ∀ r, p r = true → f (g r) = r) {x : Row} (h : x.allR p = true) : (x.ren g).ren f = x := by
  have hl : ∀ l : List AVal, allRs p l = true → rens f (rens g l) = l := fun l hl =>
    list_ext_getD (by simp [rens_len]) fun i hi => by rw [rens_getD, rens_getD]; exact Sx.ren_back hS (allRs_bel l hl i (by simpa [rens_len] using hi))
  cases x with
  | cells g' sz es => simp only [Row.ren]; rw [hl es h]
  | loop ρ ps asg body d st pend =>
    simp only [Row.allR, Bool.and_eq_true] at h
    simp only [Row.ren]; rw [hl ρ h.2, hS d h.1]
  | dfr => rfl
  | siter s pos => rfl
  | mapr kk ks vs => simp only [Row.ren]; rw [hl vs h]
  | dead => rfl
end Go.Sx
/- Calls, reckoned: over the rows that they reach, by names of their own. -/
namespace Go.Sx
open Go

theorem puts_get : ∀ (Δ : List (Nat × Row)) (H : Heap) (r : Nat) (x : Row), (H.puts Δ)[r]? = some (some x) → (r, x) ∈ Δ ∨ (r ∉ Δ.map (·.1) ∧ H[r]? = some (some x))
  | [], H, r, x, h => .inr ⟨by simp, h⟩
  | (q, y) :: Δ, H, r, x, h => by
    simp only [Heap.puts] at h
    rcases puts_get Δ _ r x h with h1 | ⟨h1, h2⟩
    · exact .inl (List.mem_cons_of_mem _ h1)
    · by_cases hq : r = q
      · subst hq
        rw [Heap.put_same] at h2
        cases h2
        exact .inl (by simp)
      · rw [Heap.put_other H y hq] at h2
        refine .inr ⟨?_, h2⟩
        simp only [List.map_cons, List.mem_cons, not_or]
        exact ⟨hq, h1⟩

theorem dcall_of_fn {P : Program} {g : FuncId} {largs args : List AVal} {LH LH' Hm : Heap} {lv : AVal} (hf : Fn P g largs LH fun v H' => v = lv ∧ H' = LH') (ι : List Nat) (hn : ι.Nodup) (hlen : LH.length = ι.length) (hall : ∀ i, i < ι.length → ∃ x, LH[i]? = some (some x))
    (hargs : args = largs.map (ren (nth ι))) (hbel : ∀ v ∈ largs, Bel (· < ι.length) v)
    (hrows : ∀ (i : Nat) x, LH[i]? = some (some x) → Hm[nth ι i]? = some (some (x.ren (nth ι))) ∧ x.bel (· < ι.length))
    (σ : Nat → Nat) (S : Nat → Prop) (Δ : List (Nat × Row)) (fs : List Nat) (hold : ∀ i, i < ι.length → S i ∧ σ i = nth ι i) (hnew : ∀ i, S i → i < ι.length ∨ σ i ∈ fs) (hinj : ∀ i j, S i → S j → σ i = σ j → i = j) (hval : Bel S lv)
    (hΔ : ∀ r x, (r, x) ∈ Δ → ∃ i y, S i ∧ σ i = r ∧ LH'[i]? = some (some y) ∧ x = y.ren σ ∧ y.bel S)
    (hun : ∀ i, S i → σ i ∉ Δ.map (·.1) → ∃ y, LH'[i]? = some (some y) ∧ y.bel S ∧ Hm[σ i]? = some (some (y.ren σ))) (hfs : ∀ r ∈ fs, r ∈ Δ.map (·.1)) : DCall P g args Hm ⟨ren σ lv, Δ, fs⟩ := by
  refine ⟨(hf ⟨fun _ => False, fun _ => False, default⟩).1, fun G H μ cargs w hsub hfree hl hv hH => ?_⟩
  refine (call_local (R' := fun v H'' => v = ren σ lv ∧ H'' = H.puts Δ) (Fr := fun _ r => r ∈ fs) hf hn hlen hall hargs hbel (fun i x hx => ⟨hsub _ _ (hrows i x hx).1, (hrows i x hx).2⟩) ?_ hl hv hH (fun _ r hr => hfree r hr)).mono ?_
  · rintro v LH'' ⟨rfl, rfl⟩
    refine ⟨σ, S, H.puts Δ, ⟨hold, hnew, hinj, hval, fun r x hx => ?_⟩, rfl, rfl⟩
    rcases puts_get Δ H r x hx with h1 | ⟨h1, h2⟩
    · exact .inl (hΔ r x h1)
    · by_cases h : ∃ i, S i ∧ σ i = r
      · obtain ⟨i, hi, rfl⟩ := h
        obtain ⟨y, k1, k2, k3⟩ := hun i hi h1
        have := hsub _ _ k3
        rw [h2] at this; cases this
        exact .inl ⟨i, y, hi, rfl, k1, rfl, k2⟩
      · exact .inr ⟨fun i h1 h2 => h ⟨i, h1, h2⟩, h2⟩
  · rintro e w' ⟨v', cv, μ', H'', rfl, ⟨rfl, rfl⟩, h1, h2, h3, h4⟩
    exact ⟨cv, μ', rfl, h1, h2, h3, fun r hr => (h4 r hr).imp id fun h => ⟨h, Heap.puts_lt (hfs r h)⟩⟩


def rowAt (H : Heap) (r : Nat) : List Nat :=
  match H[r]? with
  | some (some x) => x.rows
  | _ => []

def reach (H : Heap) : Nat → List Nat → List Nat → List Nat
  | 0, _, seen => seen
  | _ + 1, [], seen => seen
  | n + 1, r :: todo, seen => if seen.contains r = true then reach H n todo seen else reach H n (rowAt H r ++ todo) (seen ++ [r])

def nodupB : List Nat → Bool
  | [] => true
  | r :: rs => !rs.contains r && nodupB rs

theorem nodupB_spec : ∀ {l : List Nat}, nodupB l = true → l.Nodup
  | [], _ => List.nodup_nil
  | r :: rs, h => by
    simp only [nodupB, Bool.and_eq_true, Bool.not_eq_true', List.contains_eq_mem, decide_eq_false_iff_not] at h
    exact List.nodup_cons.2 ⟨h.1, nodupB_spec h.2⟩

def posN (ι : List Nat) (r : Nat) : Nat := ι.idxOf r

theorem nth_pos {ι : List Nat} {r : Nat} (h : r ∈ ι) : posN ι r < ι.length ∧ nth ι (posN ι r) = r := by
  have h1 : ι.idxOf r < ι.length := List.idxOf_lt_length_of_mem h
  refine ⟨h1, ?_⟩
  unfold nth posN
  rw [List.getD_eq_getElem?_getD, List.getElem?_eq_getElem h1]
  simp

theorem pos_nth {ι : List Nat} (hn : ι.Nodup) {i : Nat} (hi : i < ι.length) : posN ι (nth ι i) = i := by
  have h1 : nth ι i ∈ ι := by
    have : nth ι i = ι[i] := by simp [nth, hi]
    rw [this]; exact List.getElem_mem hi
  obtain ⟨h2, h3⟩ := nth_pos h1
  exact nth_inj hn h2 hi h3

def okRow (H : Heap) (p : Nat → Bool) (r : Nat) : Bool :=
  match H[r]? with
  | some (some x) => x.allR p
  | _ => false

def locRow (H : Heap) (f : Nat → Nat) (r : Nat) : Option Row :=
  match H[r]? with
  | some (some x) => some (x.ren f)
  | _ => none

def outName (ι κ : List Nat) (N : Nat) (i : Nat) : Nat := if i < ι.length then nth ι i else N + posN κ i
def outKeep (k : Nat) (κ : List Nat) (i : Nat) : Bool := decide (i < k) || κ.contains i

def newRow (LH' : Heap) (σ : Nat → Nat) (i : Nat) : Option (Nat × Row) :=
  match LH'[i]? with
  | some (some y) => some (σ i, y.ren σ)
  | _ => none

def oldRow (LH LH' : Heap) (σ : Nat → Nat) (i : Nat) : Option (Nat × Row) :=
  match LH'[i]?, LH[i]? with
  | some (some y), some (some x) => if x.same y = true then none else some (σ i, y.ren σ)
  | _, _ => none

def backOc (ι : List Nat) (N : Nat) (LH : Heap) (lv : AVal) (LH' : Heap) (κ : List Nat) : Option Oc :=
  if ((nodupB κ && (κ.all fun i => decide (ι.length ≤ i))) && (allR (outKeep ι.length κ) lv && ((List.range ι.length).all (okRow LH' (outKeep ι.length κ)) && κ.all (okRow LH' (outKeep ι.length κ))))) = true then
    some ⟨ren (outName ι κ N) lv, (List.range ι.length).filterMap (oldRow LH LH' (outName ι κ N)) ++ κ.filterMap (newRow LH' (outName ι κ N)), κ.map (outName ι κ N)⟩
  else none

def rowsOpt : Option Row → List Nat
  | some x => x.rows
  | none => []

def callLoc (call : FuncId → List AVal → Heap → Option (AVal × Heap)) (g : FuncId) (args : List AVal) (H : Heap) (ι : List Nat) : Option Oc :=
  if (nodupB ι && (allRs ι.contains args && ι.all (okRow H ι.contains))) = true then
    match call g (rens (posN ι) args) (ι.map (locRow H (posN ι))) with
    | none => none
    | some r => backOc ι H.length (ι.map (locRow H (posN ι))) r.1 r.2 ((reach r.2 10000 (rowsV r.1 ++ (r.2.take ι.length).flatMap rowsOpt) []).filter fun i => decide (ι.length ≤ i))
  else none

section
variable {P : Program} {call : FuncId → List AVal → Heap → Option (AVal × Heap)}

theorem okRow_spec {H : Heap} {p : Nat → Bool} {r : Nat} (h : okRow H p r = true) : ∃ x, H[r]? = some (some x) ∧ x.allR p = true := by
  unfold okRow at h
  split at h
  · rename_i x hx; exact ⟨x, hx, h⟩
  · cases h

theorem bel_mono_row {x : Row} {S S' : Nat → Prop} (h : x.bel S) (hs : ∀ r, S r → S' r) : x.bel S' := by
  cases x with
  | cells g sz es => exact fun i j hi hj => (h i j hi hj).mono hs
  | loop ρ ps asg body d st pend => exact ⟨hs _ h.1, fun t ht => (h.2 t ht).mono hs⟩
  | dfr => trivial
  | siter s pos => trivial
  | mapr kk ks vs => exact fun i hi => (h i hi).mono hs
  | dead => trivial

theorem Bel.push {S S' : Nat → Prop} {f : Nat → Nat} {v : AVal} (h : Bel S v) (hs : ∀ r, S r → S' (f r)) : Bel S' (ren f v) := by
  induction h with
  | any => exact .any
  | bool b => exact .bool b
  | int q n => exact .int q n
  | str l => exact .str l
  | ptr r i off L h => exact .ptr _ i off L (hs r h)
  | rptr e off _ ih => exact .rptr _ off fun j hj => by rw [acells_ren, rens_len] at hj; rw [acells_ren, rens_getD]; exact ih j hj
  | nilptr => exact .nilptr
  | sl r off len h => exact .sl _ off len (hs r h)
  | view es _ ih => exact .view _ fun i j hi hj => by rw [rens_len] at hi; rw [rens_getD, acells_ren, rens_len] at hj; rw [rens_getD, acells_ren, rens_getD]; exact ih i j hi hj
  | nilsl => exact .nilsl
  | fn f' a b _ _ iha ihb => exact .fn f' _ _ (fun i hi => by rw [rens_len] at hi; rw [rens_getD]; exact iha i hi) fun i hi => by rw [rens_len] at hi; rw [rens_getD]; exact ihb i hi
  | yfn r h => exact .yfn _ (hs r h)
  | nilfn => exact .nilfn
  | iface t v _ ih => exact .iface t _ ih
  | niliface => exact .niliface
  | agg cs _ ih => exact .agg _ fun i hi => by rw [rens_len] at hi; rw [rens_getD]; exact ih i hi
  | tup cs _ ih => exact .tup _ fun i hi => by rw [rens_len] at hi; rw [rens_getD]; exact ih i hi
  | mp r h => exact .mp _ (hs r h)
  | nilmap => exact .nilmap

theorem Row.bel_push {x : Row} {S S' : Nat → Prop} {f : Nat → Nat} (h : x.bel S) (hs : ∀ r, S r → S' (f r)) : (x.ren f).bel S' := by
  cases x with
  | cells g sz es => exact fun i j hi hj => by rw [rens_len] at hi; rw [rens_getD, acells_ren, rens_len] at hj; rw [rens_getD, acells_ren, rens_getD]; exact (h i j hi hj).push hs
  | loop ρ ps asg body d st pend => exact ⟨hs _ h.1, fun t ht => by rw [rens_len] at ht; rw [rens_getD]; exact (h.2 t ht).push hs⟩
  | dfr => trivial
  | siter s pos => trivial
  | mapr kk ks vs => exact fun i hi => by rw [rens_len] at hi; rw [rens_getD]; exact (h i hi).push hs
  | dead => trivial

theorem callLoc_sound (hcall : ∀ g args H v H', call g args H = some (v, H') → Fn P g args H fun v' H'' => v' = v ∧ H'' = H') {g : FuncId} {args : List AVal} {H : Heap} {ι : List Nat} {c : Oc} (h : callLoc call g args H ι = some c) :
    DCall P g args (H.onlyR ι) c ∧ ∀ r ∈ c.fs, H.length ≤ r ∧ r < (H.puts c.Δ).length := by
  unfold callLoc at h
  by_cases hchk : (nodupB ι && (allRs ι.contains args && ι.all (okRow H ι.contains))) = true
  case neg => rw [if_neg hchk] at h; cases h
  rw [if_pos hchk] at h
  simp only [Bool.and_eq_true] at hchk
  obtain ⟨hnd, hall, hrow⟩ := hchk
  have hn := nodupB_spec hnd
  cases hc : call g (rens (posN ι) args) (ι.map (locRow H (posN ι))) with
  | none => rw [hc] at h; cases h
  | some r =>
    rw [hc] at h
    obtain ⟨lv, LH'⟩ := r
    simp only at h
    generalize hκ : ((reach LH' 10000 (rowsV lv ++ (LH'.take ι.length).flatMap rowsOpt) []).filter fun i => decide (ι.length ≤ i)) = κ at h
    unfold backOc at h
    by_cases hchk2 : ((nodupB κ && (κ.all fun i => decide (ι.length ≤ i))) && (allR (outKeep ι.length κ) lv && ((List.range ι.length).all (okRow LH' (outKeep ι.length κ)) && κ.all (okRow LH' (outKeep ι.length κ))))) = true
    case neg => rw [if_neg hchk2] at h; cases h
    rw [if_pos hchk2] at h
    simp only [Bool.and_eq_true] at hchk2
    obtain ⟨⟨hκn, hκk⟩, hval, hro, hrn⟩ := hchk2
    have hκk' : ∀ i ∈ κ, ι.length ≤ i := fun i hi => by simpa using List.all_eq_true.1 hκk i hi
    simp only [Option.some.injEq] at h
    subst h
    have hmem : ∀ r, ι.contains r = true → r ∈ ι := fun r hr => by simpa using hr
    have hLHget : ∀ i, i < ι.length → ∃ x, H[nth ι i]? = some (some x) ∧ x.allR ι.contains = true ∧ (ι.map (locRow H (posN ι)))[i]? = some (some (x.ren (posN ι))) := by
      intro i hi
      have hm : nth ι i ∈ ι := by
        have : nth ι i = ι[i] := by simp [nth, hi]
        rw [this]; exact List.getElem_mem hi
      obtain ⟨x, hx, hx2⟩ := okRow_spec (List.all_eq_true.1 hrow _ hm)
      refine ⟨x, hx, hx2, ?_⟩
      have e : nth ι i = ι[i] := by simp [nth, hi]
      rw [List.getElem?_map, List.getElem?_eq_getElem hi, Option.map_some, ← e]
      simp only [locRow, hx]
    have hinp : ∀ r, ι.contains r = true → nth ι (posN ι r) = r := fun r hr => (nth_pos (hmem r hr)).2
    have hbelp : ∀ r, ι.contains r = true → posN ι r < ι.length := fun r hr => (nth_pos (hmem r hr)).1
    have hS1 : ∀ i, outKeep ι.length κ i = true → i < ι.length ∨ i ∈ κ := fun i hi => by simpa [outKeep] using hi
    have hσ0 : ∀ i, i < ι.length → outName ι κ H.length i = nth ι i := fun i hi => by simp [outName, hi]
    have hσ1 : ∀ i, i ∈ κ → outName ι κ H.length i = H.length + posN κ i := fun i hi => by simp [outName, Nat.not_lt.2 (hκk' i hi)]
    have hιH : ∀ i, i < ι.length → nth ι i < H.length := fun i hi => by
      obtain ⟨x, hx, _⟩ := hLHget i hi
      exact (List.getElem?_eq_some_iff.1 hx).1
    have hnewrow : ∀ i ∈ κ, ∃ y, LH'[i]? = some (some y) ∧ y.allR (outKeep ι.length κ) = true := fun i hi => okRow_spec (List.all_eq_true.1 hrn i hi)
    have holdrow : ∀ i, i < ι.length → ∃ y, LH'[i]? = some (some y) ∧ y.allR (outKeep ι.length κ) = true := fun i hi => okRow_spec (List.all_eq_true.1 hro i (List.mem_range.2 hi))
    have hfs : ∀ r ∈ κ.map (outName ι κ H.length), r ∈ ((List.range ι.length).filterMap (oldRow (ι.map (locRow H (posN ι))) LH' (outName ι κ H.length)) ++ κ.filterMap (newRow LH' (outName ι κ H.length))).map (·.1) := by
      intro r hr
      rw [List.mem_map] at hr
      obtain ⟨i, hi, rfl⟩ := hr
      obtain ⟨y, hy, _⟩ := hnewrow i hi
      rw [List.map_append, List.mem_append]
      right
      rw [List.mem_map]
      exact ⟨(outName ι κ H.length i, y.ren (outName ι κ H.length)), List.mem_filterMap.2 ⟨i, hi, by simp only [newRow, hy]⟩, rfl⟩
    refine ⟨dcall_of_fn (hcall g _ _ _ _ hc) ι hn (by simp) (fun i hi => ?_) ?_ (fun v hv => ?_) (fun i x hx => ?_) (outName ι κ H.length) (fun i => outKeep ι.length κ i = true) _ _
      (fun i hi => ⟨by simp [outKeep, hi], hσ0 i hi⟩) (fun i hi => ?_) (fun i j hi hj hij => ?_) (allR_bel lv hval) (fun r x hx => ?_) (fun i hi hni => ?_) hfs, fun r hr => ⟨?_, Heap.puts_lt (hfs r hr)⟩⟩
    · obtain ⟨x, _, _, hx⟩ := hLHget i hi; exact ⟨_, hx⟩
    · refine list_ext_getD (by simp [rens_len]) fun i hi => ?_
      rw [map_getD _ _ _ (by rw [rens_len]; exact hi), rens_getD]
      exact (ren_back hinp (allRs_bel args hall i hi)).symm
    · rw [List.mem_iff_getElem] at hv
      obtain ⟨i, hi, rfl⟩ := hv
      have hi' : i < args.length := by rwa [rens_len] at hi
      have := (allRs_bel args hall i hi').push (S' := (· < ι.length)) (f := posN ι) hbelp
      rw [← rens_getD, List.getD_eq_getElem?_getD, List.getElem?_eq_getElem hi] at this
      exact this
    · have hi : i < ι.length := by have := (List.getElem?_eq_some_iff.1 hx).1; simpa using this
      obtain ⟨y, h1, h2, h3⟩ := hLHget i hi
      rw [h3] at hx; cases hx
      have hm : nth ι i ∈ ι := by
        have : nth ι i = ι[i] := by simp [nth, hi]
        rw [this]; exact List.getElem_mem hi
      refine ⟨?_, ?_⟩
      · rw [onlyR_get, Row.ren_back hinp h2]; exact ⟨hm, h1⟩
      · exact Row.bel_push (Row.allR_bel h2) hbelp
    · rcases hS1 i hi with h1 | h1
      · exact .inl h1
      · exact .inr (List.mem_map.2 ⟨i, h1, rfl⟩)
    · rcases hS1 i hi with h1 | h1 <;> rcases hS1 j hj with h2 | h2
      · rw [hσ0 i h1, hσ0 j h2] at hij; exact nth_inj hn h1 h2 hij
      · rw [hσ0 i h1, hσ1 j h2] at hij; have := hιH i h1; omega
      · rw [hσ1 i h1, hσ0 j h2] at hij; have := hιH j h2; omega
      · rw [hσ1 i h1, hσ1 j h2] at hij
        have : posN κ i = posN κ j := by omega
        rw [← (nth_pos h1).2, ← (nth_pos h2).2, this]
    · rw [List.mem_append] at hx
      rcases hx with hx | hx
      · obtain ⟨i, hi, hx⟩ := List.mem_filterMap.1 hx
        have hi := List.mem_range.1 hi
        obtain ⟨y, hy, hy2⟩ := holdrow i hi
        unfold oldRow at hx
        rw [hy] at hx
        split at hx
        · rename_i y' x' e1 e2
          cases e1
          split at hx
          · cases hx
          · cases hx
            exact ⟨i, y, by simp [outKeep, hi], rfl, hy, rfl, Row.allR_bel hy2⟩
        · cases hx
      · obtain ⟨i, hi, hx⟩ := List.mem_filterMap.1 hx
        obtain ⟨y, hy, hy2⟩ := hnewrow i hi
        simp only [newRow, hy, Option.some.injEq, Prod.mk.injEq] at hx
        obtain ⟨rfl, rfl⟩ := hx
        exact ⟨i, y, by simp [outKeep, hi], rfl, hy, rfl, Row.allR_bel hy2⟩
    · rcases hS1 i hi with h1 | h1
      · obtain ⟨y, hy, hy2⟩ := holdrow i h1
        obtain ⟨x, hx, hx2, hx3⟩ := hLHget i h1
        refine ⟨y, hy, Row.allR_bel hy2, ?_⟩
        have hsame : (x.ren (posN ι)).same y = true := by
          cases hs : (x.ren (posN ι)).same y with
          | true => rfl
          | false =>
            exfalso
            refine hni ?_
            rw [List.map_append, List.mem_append]
            left
            rw [List.mem_map]
            refine ⟨(outName ι κ H.length i, y.ren (outName ι κ H.length)), List.mem_filterMap.2 ⟨i, List.mem_range.2 h1, ?_⟩, rfl⟩
            unfold oldRow
            rw [hy, hx3]
            simp only [hs, Bool.false_eq_true, if_false]
        have hxy := Row.same_eq hsame
        subst hxy
        rw [hσ0 i h1, onlyR_get]
        refine ⟨?_, ?_⟩
        · have : nth ι i = ι[i] := by simp [nth, h1]
          rw [this]; exact List.getElem_mem h1
        · rw [hx, Row.ren_back (fun r hr => ?_) hx2]
          rw [hσ0 _ (hbelp r hr)]; exact hinp r hr
      · exact absurd (hfs _ (List.mem_map.2 ⟨i, h1, rfl⟩)) hni
    · rw [List.mem_map] at hr
      obtain ⟨i, hi, rfl⟩ := hr
      rw [hσ1 i hi]; omega
end
end Go.Sx
/- Scopes of labels to which nothing jumps. -/
namespace Go.Sx
open Go
section
variable {P : Program} {F : Fence} {Q : Go.Exit → Act → World → Prop} {a : Act} {w : World}
theorem wpIn_scope {c : Code} (h : c.wpIn F 0 P (Exit.noGoto Q) a w) : (Code.scope c).wpIn F 0 P Q a w := by
  intro b k cs hro hb hr
  have s1 : step P (lone (b.atR a (.code (.scope c) :: k)) cs w) = .next (lone (b.atR a (.code c :: .inScope c :: k)) cs w) := step_lone_go (by simp [stepG, stepG.exec, Frame.atR])
  have h0 : (lone (b.atR a (.code (.scope c) :: k)) cs w).fenced P F := fenced_calm hb hr rfl
  obtain ⟨e, a₁, w₁, hq, harr⟩ := h b (.inScope c :: k) cs hro hb hr
  have s2 : step P (lone (b.atR a₁ (.inScope c :: k)) cs w₁) = .next (lone (b.atR a₁ k) cs w₁) := step_lone_go (by simp [stepG, stepG.exec, Frame.atR])
  cases e with
  | normal => exact ⟨.normal, a₁, w₁, hq, .head h0 s1 (StepsIn.trans harr (.one (fenced_calm hb hr rfl) s2))⟩
  | exit id' =>
    have hx : exitTo id' (.inScope c :: k) = exitTo id' k := by simp [exitTo]
    exact ⟨.exit id', a₁, w₁, hq, fun k' hk => .head h0 s1 (harr.1 k' (by rw [hx]; exact hk)),
      fun hr' hk => let ⟨k₁, h1, h2⟩ := harr.2 hr' (by rw [hx]; exact hk); ⟨k₁, h1, .head h0 s1 h2⟩⟩
  | goto l => exact hq.elim
  | ret => exact ⟨_, a₁, w₁, hq, .of_steps (.one h0 s1) harr⟩
  | panic ch => exact ⟨_, a₁, w₁, hq, .of_steps (.one h0 s1) harr⟩
  | outgrown => exact ⟨_, a₁, w₁, hq, .of_steps (.one h0 s1) harr⟩
end

def noGoto (Q : Exit → St → Prop) : Exit → St → Prop
  | .goto _, _ => False
  | e, s => Q e s

section
variable {P : Program} {G : Ctx} {k : Nat} {rd : Option Nat} {Q : Exit → St → Prop} {s : St}
theorem awp_scope {c : Code} (h : Awp P G k rd c (noGoto Q) s) : Awp P G k rd (.scope c) Q s :=
  fun μ ro a w h1 h2 => wpIn_scope (wpIn_mono (h μ ro a w h1 h2) fun e a w hp => by
    obtain ⟨μ', s', h3, h4, h5⟩ := hp
    cases e with
    | goto l => exact h3.elim
    | _ => exact ⟨μ', s', h3, h4, h5⟩)
theorem aw_scope {c : ACode} (h : AW P G k rd c (noGoto Q) s) : AW P G k rd (.scope c) Q s := fun code hc => by
  cases code <;> simp only [ccode] at hc <;> cases hc
  exact awp_scope (h _ rfl)
end
end Go.Sx
/- A slice of a row that has grown, shorter than the row: the row is let go, and what is left of it is a row of its own. -/
namespace Go.Sx
open Go

section
variable {P : Program} {G : Ctx} {k : Nat} {rd : Option Nat} {s : St} {ao : AOper} {K : St → Prop}

def cutB (ρ : List AVal) (d : Int) : Option AOpd → Option Int
  | none => some d
  | some l => intOf (opd ρ l)

def cutG (op : AOp) (ρ : List AVal) (H : Heap) (n : Nat) : Option (AVal × List (Nat × Row)) :=
  match op with
  | .slice false sz x lo hi =>
    match opd ρ x with
    | .sl r off len =>
      match H.cellsAt r with
      | some (true, sz', es) =>
        match cutB ρ 0 lo, cutB ρ len hi with
        | some l, some h => if 0 ≤ l ∧ l ≤ h ∧ h < len ∧ sz = sz' ∧ 0 < sz ∧ off + len = es.length then
            some (.sl n 0 (h.toNat - l.toNat), [(n, .cells true sz ((es.drop (off + l.toNat)).take (h.toNat - l.toNat))), (r, .dead)]) else none
        | _, _ => none
      | _ => none
    | _ => none
  | _ => none

theorem cop_slice {o : Oper} {sz : Nat} {x : AOpd} {lo hi : Option AOpd} (h2 : cop P o = .slice false sz x lo hi) : ∃ t e y l h, o.op = .slice t y l h none ∧ P.underlying t = some (.slice e) ∧ sizeT P e = some sz ∧ (copd P) y = x ∧ l.map (copd P) = lo ∧ h.map (copd P) = hi := by
  cases hop : o.op
  case slice t y l h mx =>
    simp only [cop, hop] at h2
    split at h2
    · simp at h2
    · rename_i e hu
      split at h2
      · rename_i n hn
        simp only [AOp.slice.injEq] at h2
        obtain ⟨_, rfl, h3, h4, h5⟩ := h2
        exact ⟨t, _, y, l, h, rfl, hu, hn, h3, h4, h5⟩
      · cases h2
    · split at h2 <;> cases h2
    · split at h2 <;> cases h2
    · cases h2
  case alloc t =>
    simp only [cop, hop, allocA] at h2
    repeat' (first | (cases h2; done) | split at h2)
  case call c =>
    simp only [cop, hop] at h2
    split at h2
    · cases h2
    cases hcl : c.callee with
    | value x => simp only [hcl] at h2; split at h2 <;> cases h2
    | invoke x m => simp [hcl] at h2
    | builtin b =>
      simp only [hcl] at h2
      cases b <;> simp only [] at h2 <;> first
        | (cases h2; done)
        | (repeat' (first | (cases h2; done) | split at h2))
  case unOp op t x => cases op <;> simp [cop, hop] at h2
  case next x b => cases b <;> simp [cop, hop] at h2
  case binOp op t x y yt =>
    simp only [cop, hop, cbin] at h2
    repeat' (first | (cases h2; done) | split at h2)
  all_goals
    simp only [cop, hop] at h2
    repeat' (first | (cases h2; done) | split at h2)

theorem cut_sound {μ : Mu} {H : Heap} {n : Nat} {w : World} {ρ : List AVal} {a : Act} {v : AVal} {Δ : List (Nat × Row)} (hT : TR G μ ρ a.tmps) (hH : HR P G μ H w) (hn : μ n = none) (o : Oper) (h : cutG (cop P o) ρ H n = some (v, Δ)) : Step P G μ H n (execOp a.eval o) w v Δ := by
  unfold cutG at h
  split at h
  · rename_i sz x lo hi hcop
    obtain ⟨t, e, y, ly, hy, hop, hu, hsz, rfl, rfl, rfl⟩ := cop_slice hcop
    have hex : execOp a.eval o = (do pure (.value (← Instr.sliceAt t (a.eval y) (ly.map a.eval) (hy.map a.eval) none))) := by simp only [execOp, hop, Option.map_none]
    rw [hex]
    have hx := opd_sound hH.glob hT y
    split at h
    · rename_i r off len hr
      split at h
      · rename_i sz' es hc
        split at h
        · rename_i l hh hl hhi
          split at h
          · rename_i hcond
            obtain ⟨h0, h1, h2, rfl, hpos, hend⟩ := hcond
            simp only [Option.some.injEq, Prod.mk.injEq] at h
            obtain ⟨rfl, rfl⟩ := h
            have hlo' : BoundIs P ρ ly 0 l := by
              cases ly <;> simp [cutB, BoundIs] at hl ⊢
              · omega
              · exact hl
            have hhi' : BoundIs P ρ hy len hh := by
              cases hy <;> simp [cutB, BoundIs] at hhi ⊢
              · omega
              · exact hhi
            rw [hr] at hx
            obtain ⟨p, C, ty, h3, h4, h5, h6, h7, h8, h9, h10, h11⟩ := hH.own hc
            obtain ⟨p', h3', hvec, hL, hcv⟩ := hx.inv_sl
            rw [h3] at h3'; cases h3'
            obtain ⟨cap, hcs, hcap, hroom⟩ := hcv (live_of h8 h7 (.inr hend))
            have hbd := run_bounds (P := P) (w := w) hH.glob hT true len cap hlo' hhi' h0 h1 (by omega) hcap
            have hne : cap ≠ l.toNat := by omega
            have hrn : r ≠ n := fun e => by rw [e, hn] at h3; cases h3
            have hrl : r < H.length := (List.getElem?_eq_some_iff.1 (cellsAt_row hc)).1
            let q : Place := ⟨p.blk, p.off + (off + l.toNat) * sz, sz, hh.toNat - l.toNat, p.size, false, true⟩
            let μ' : Mu := fun i => if i = n then some q else μ i
            have hle : μ.le μ' := fun i p hi => ⟨p, by
              have : i ≠ n := fun e => by rw [e, hn] at hi; cases hi
              simp [μ', this, hi], .inl rfl⟩
            have hqn : μ' n = some q := by simp [μ']
            have hoth : ∀ i, i ≠ n → μ' i = μ i := fun i hi => by simp [μ', hi]
            have hlen : ((es.drop (off + l.toNat)).take (hh.toNat - l.toNat)).length = hh.toNat - l.toNat := by simp; omega
            have hget : ∀ i, i < hh.toNat - l.toNat → ((es.drop (off + l.toNat)).take (hh.toNat - l.toNat)).getD i .any = es.getD (off + l.toNat + i) .any := fun i hi => by
              simp only [List.getD_eq_getElem?_getD]
              rw [List.getElem?_take_of_lt hi, List.getElem?_drop]
            have hrow : RowIs P G μ' q w.heap (.cells true sz ((es.drop (off + l.toNat)).take (hh.toNat - l.toNat))) := by
              refine ⟨rfl, hlen.symm, fun _ => rfl, C, (ty.1, ⟨ty.2.1, ty.2.2.1, rfl⟩), h9, h10, fun i hi => ?_⟩
              rw [hlen] at hi
              rw [hget i hi]
              obtain ⟨k1, k2⟩ := h11 (off + l.toNat + i) (by omega)
              refine ⟨k1, fun j hj => ?_⟩
              obtain ⟨c, m1, m2⟩ := k2 j hj
              refine ⟨c, ?_, m2.mono hle⟩
              show C[p.off + (off + l.toNat) * sz + i * sz + j]? = some c
              rw [← m1]; congr 2; rw [Nat.add_mul (off + l.toNat) i]; omega
            -- the heap behind it
            have hgetD : ∀ i z, (H.puts [(n, Row.cells true sz ((es.drop (off + l.toNat)).take (hh.toNat - l.toNat))), (r, Row.dead)])[i]? = some (some z) → (i = r ∧ z = .dead) ∨ (i = n ∧ i ≠ r ∧ z = Row.cells true sz ((es.drop (off + l.toNat)).take (hh.toNat - l.toNat))) ∨ (i ≠ r ∧ i ≠ n ∧ H[i]? = some (some z)) := fun i z hz => by
              simp only [Heap.puts] at hz
              by_cases hir : i = r
              · subst hir
                rw [Heap.put_same] at hz; cases hz
                exact .inl ⟨rfl, rfl⟩
              · rw [Heap.put_other _ _ hir] at hz
                by_cases hin : i = n
                · subst hin
                  rw [Heap.put_same] at hz; cases hz
                  exact .inr (.inl ⟨rfl, hir, rfl⟩)
                · rw [Heap.put_other _ _ hin] at hz
                  exact .inr (.inr ⟨hir, hin, hz⟩)
            refine ⟨_, .slice (some ⟨p.blk, p.off + (off + l.toNat) * p.sz, none⟩) (hh.toNat - l.toNat) (cap - l.toNat), w, μ', ?_, .inl rfl, ?_, hle, ?_, fun i hi => ?_⟩
            · simp [Instr.sliceAt, Instr.slice, run_underlying hu, hcs, hbd, run_sizeT hsz, hne, add_at, h6, Nat.add_mul, Nat.add_assoc]
            · refine .sl _ _ _ q _ hqn rfl (by simp [q]) rfl fun _ => ⟨cap - l.toNat, by simp [q, h6], by omega, ?_⟩
              show p.off + (off + l.toNat) * sz + (0 + (cap - l.toNat)) * sz ≤ p.size
              have : (off + l.toNat) * sz + (0 + (cap - l.toNat)) * sz = (off + cap) * sz := by rw [← Nat.add_mul]; congr 1; omega
              rw [h6] at hroom; omega
            · constructor
              · intro i z hz hnd
                rcases hgetD i z hz with ⟨_, e⟩ | ⟨rfl, _, rfl⟩ | ⟨e1, e2, e3⟩
                · exact absurd e hnd
                · exact ⟨q, hqn, h4, h5, hrow⟩
                · obtain ⟨p2, k1, k2, k3, k4⟩ := hH.row i z e3 hnd
                  exact ⟨p2, by rw [hoth i e2]; exact k1, k2, k3, k4.mono hle rfl⟩
              · intro i j z z' p1 p2 hz hz' hp1 hp2 hij n1 n2
                rcases hgetD i z hz with ⟨_, e⟩ | ⟨rfl, _, _⟩ | ⟨e1, e2, e3⟩
                · exact absurd e n1
                · rcases hgetD j z' hz' with ⟨_, e⟩ | ⟨e, _, _⟩ | ⟨f1, f2, f3⟩
                  · exact absurd e n2
                  · exact absurd e.symm hij
                  · rw [hqn] at hp1; cases hp1
                    rw [hoth j f2] at hp2
                    exact hH.apart r j _ z' p p2 (cellsAt_row hc) f3 h3 hp2 (Ne.symm f1) nofun n2
                · rw [hoth i e2] at hp1
                  rcases hgetD j z' hz' with ⟨_, e⟩ | ⟨rfl, _, _⟩ | ⟨f1, f2, f3⟩
                  · exact absurd e n2
                  · rw [hqn] at hp2; cases hp2
                    exact hH.apart i r z _ p1 p e3 (cellsAt_row hc) hp1 h3 e1 n1 nofun
                  · rw [hoth j f2] at hp2
                    exact hH.apart i j z z' p1 p2 e3 f3 hp1 hp2 hij n1 n2
              · exact hH.kept
              · exact hH.ro
              · exact hH.calm
              · intro i hi
                rcases hgetD i _ hi with ⟨rfl, _⟩ | ⟨rfl, _, _⟩ | ⟨e1, e2, e3⟩
                · rw [hoth _ hrn, h3]; rfl
                · rw [hqn]; rfl
                · rw [hoth i e2]; exact hH.named i e3
              · exact hH.glob
            · by_cases e : i = n
              · right
                refine ⟨e, ?_⟩
                simp only [Heap.puts, Heap.len_put]; omega
              · left; rw [hoth i e] at hi; exact hi
          · cases h
        · cases h
      · cases h
    · cases h
  · cases h

theorem cut_dfr {op : AOp} {ρ : List AVal} {H : Heap} {n : Nat} {v : AVal} {Δ : List (Nat × Row)} (h : cutG op ρ H n = some (v, Δ)) (hn : H[n]? = none ∨ H[n]? = some none) {r : Nat} (hr : H[r]? = some (some .dfr)) : (H.puts Δ)[r]? = some (some .dfr) := by
  unfold cutG at h
  split at h
  · split at h
    · rename_i r' off len hr'
      split at h
      · rename_i sz' es hc
        split at h
        · split at h
          · simp only [Option.some.injEq, Prod.mk.injEq] at h
            obtain ⟨rfl, rfl⟩ := h
            have e1 : r ≠ r' := fun e => by rw [e, cellsAt_row hc] at hr; cases hr
            have e2 : r ≠ n := fun e => by rw [e] at hr; rcases hn with h | h <;> rw [h] at hr <;> cases hr
            simp only [Heap.puts]
            rw [Heap.put_other _ _ e1, Heap.put_other _ _ e2]; exact hr
          · cases h
        · cases h
      · cases h
    · cases h
  · cases h

theorem op_cut {v : AVal} {Δ : List (Nat × Row)} (hg : gval s.ρ ao.guard = some true) (he : cutG ao.op s.ρ s.H s.H.length = some (v, Δ)) (hK : K { s with ρ := setD s.ρ ao.dst v, H := s.H.puts Δ }) : OpA P G k rd ao s K := by
  intro ops draw i o Q hi hc μ ro a w hrd h
  have hnb : ao.op ≠ .bad := by rintro hb; rw [hb] at he; simp [cutG] at he
  obtain ⟨h1, h2, h3⟩ := coper_parts hc hnb
  have hw := wanted_of h.tr ops o h1 hg
  simp only [wpOpIn, hi, if_pos hw]
  rw [← h2] at he
  have hfresh : μ s.H.length = none := by
    cases hm : μ s.H.length with
    | none => rfl
    | some p => have := h.dom s.H.length (by rw [hm]; rfl); omega
  obtain ⟨x, cv, w', μ', hrun, hx, hv, hle, hH, hdom⟩ := cut_sound h.tr h.hr hfresh o he
  have hnd : ∀ c, o.op ≠ .defer c := by
    intro c hd
    simp [cop, hd, cutG] at he
  have hrow : ∀ r, s.H[r]? = some (some Row.dfr) → (s.H.puts Δ)[r]? = some (some Row.dfr) := fun r hr => cut_dfr he (.inl (by simp)) hr
  have hfin : NPost P G k μ K (a.put o.dst cv) w' := by
    refine ⟨μ', _, hK, Mu.leB_of hle, ?_⟩
    rw [← h3]
    refine ⟨(h.tr.mono hle).put hv _, hH, fun r hr => ?_, ?_, fun r hr => hrow r (h.mkr r hr)⟩
    · have hl := Heap.le_puts Δ s.H
      rcases hdom r hr with h5 | ⟨rfl, h5⟩
      · have := h.dom r h5; simp only; omega
      · exact h5
    · rw [put_defers, h.mk']; exact (h.same_marks hle).symm
  unfold Oper.wpIn
  refine ⟨fun _ _ => trivial, ?_⟩
  rw [Oper.semAt_eq _ _ _ hnd, hrun]
  rcases hx with rfl | ⟨rfl, rfl⟩
  · exact hfin
  · exact hfin
end
end Go.Sx
