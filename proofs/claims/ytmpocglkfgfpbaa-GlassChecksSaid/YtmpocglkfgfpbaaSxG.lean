/- A part of the proof: the abstract semantics. -/
import Derived.Test.YtmpocglkfgfpbaaSxF
set_option linter.unusedSimpArgs false
set_option linter.unusedVariables false
/- Code, reckoned by data alone. -/
namespace Go.Sx
open Go

inductive Tk where
  | code (c : ACode)
  | ops (l : List AOper)
  | segs (lo : Nat) (ss : List (List AOper))
  | grp (lo : Nat) (l : List AOper) (tr : List (List Nat × List Nat)) (hi : Nat) (ss : List (List AOper))

abbrev Caller := FuncId → List AVal → Heap → Option (AVal × Heap)
abbrev Walker := Option Nat → Tk → St → Option (Exit × St)

def isDfr (H : Heap) (q : Nat) : Bool :=
  match H[q]? with
  | some (some .dfr) => true
  | _ => false

def exEnd (r : Nat) (x : Exit × St) : Option (AVal × Heap) :=
  match x.2.H[r]? with
  | some (some (.loop ρ ps asg body d _ _)) =>
    match x.1 with
    | .normal => some (.bool true, x.2.H.put r (.loop ρ ps asg body d .ready none))
    | .ret => some (.bool false, x.2.H.put r (.loop ρ ps asg body d .done (some .ret)))
    | .exit id => some (.bool false, x.2.H.put r (.loop ρ ps asg body d .done (some (.exit id))))
    | .goto t => some (.bool false, x.2.H.put r (.loop ρ ps asg body d .done (some (.goto t))))
    | _ => none
  | _ => none

def exMid (w : Walker) (r : Nat) (body : ACode) (x : Exit × St) : Option (AVal × Heap) :=
  match x.1 with
  | .normal => match x.2.H[r]? with
    | some (some (.loop ρ ps asg body' d .ready pend)) => (w (some r) (.code body) ⟨x.2.ρ, x.2.H.put r (.loop ρ ps asg body' d .busy pend), x.2.ms⟩).bind (exEnd r)
    | _ => none
  | _ => none

def exRound (w : Walker) (r : Nat) (xs : List AVal) (H : Heap) : Option (AVal × Heap) :=
  match H[r]? with
  | some (some (.loop ρ ps asg body _ .ready _)) => if xs.length = ps.length then (w (some r) (.code asg) ⟨psets ρ ps xs, H, []⟩).bind (exMid w r body) else none
  | _ => none

def exLoc (call : Caller) (g : FuncId) (args : List AVal) (H : Heap) (ms : List Nat) : Option (List Nat × Oc) :=
  match callLoc call g args H (reach H 10000 (rowsVs args) []) with
  | some c => if (ms.all fun q => !c.rows.contains q) = true then some (reach H 10000 (rowsVs args) [], c) else none
  | none => none

def exCallOp (call : Caller) (w : Walker) (f : AVal) (xs : List AVal) (s : St) : Option (AVal × Heap) :=
  match f with
  | .fn (.func g) ys cs => (exLoc call g (ys ++ xs ++ cs) s.H s.ms).map fun p => (p.2.v, s.H.puts p.2.Δ)
  | .yfn r => (exRound w r xs s.H).bind fun p => if s.ms.all (isDfr p.2) = true then some p else none
  | _ => none

def exCallM (call : Caller) (tab : List (Nat × Nat)) (f : AVal) (xs : List AVal) (s : St) : Option (AVal × Heap) :=
  match f with
  | .iface t v => match tabAt tab t with
    | some g => (exLoc call g (v :: xs) s.H s.ms).map fun p => (p.2.v, s.H.puts p.2.Δ)
    | none => none
  | _ => none

def exOp (call : Caller) (w : Walker) (o : AOp) (s : St) : Option (AVal × Heap) :=
  match o with
  | .call f xs => exCallOp call w (opd s.ρ f) (xs.map (opd s.ρ)) s
  | .callM tab f xs => exCallM call tab (opd s.ρ f) (xs.map (opd s.ρ)) s
  | .slice b m x lo hi => match cutG (.slice b m x lo hi) s.ρ s.H s.H.length with
    | some r => some (r.1, s.H.puts r.2)
    | none => (aev (.slice b m x lo hi) s.ρ s.H s.H.length).map fun r => (r.1, s.H.puts r.2)
  | op => (aev op s.ρ s.H s.H.length).map fun r => (r.1, s.H.puts r.2)

def exOpG (call : Caller) (o : AOp) (s : St) : Option (List Nat × Oc) :=
  match o with
  | .call f xs => match opd s.ρ f with
    | .fn (.func g) ys cs => exLoc call g (ys ++ xs.map (opd s.ρ) ++ cs) s.H s.ms
    | _ => none
  | .callM tab f xs => match opd s.ρ f with
    | .iface t v => (match tabAt tab t with
      | some g => exLoc call g (v :: xs.map (opd s.ρ)) s.H s.ms
      | none => none)
    | _ => none
  | op => (aev op s.ρ s.H s.H.length).map fun r => (adeps op s.ρ, ⟨r.1, r.2, []⟩)

def exRngEnd (w : Walker) (rd : Option Nat) (l : Nat) (ρ : List AVal) (ms : List Nat) (H' : Heap) : Option (Exit × St) :=
  if ms.all (isDfr H') = true then
    match H'[l]? with
    | some (some (.loop _ _ _ _ _ st pend)) =>
      if st = .busy then none else
      match pend with
      | none => some (.normal, ⟨ρ, H'.set l none, ms⟩)
      | some c => w rd (.code c) ⟨ρ, H'.set l none, ms⟩
    | _ => none
  else none

def exRng (call : Caller) (w : Walker) (rd : Option Nat) (g : AVal) (ps : List Nat) (asg body : ACode) (s : St) : Option (Exit × St) :=
  match g with
  | .fn (.func f) fs cs =>
    match rd with
    | none => (exLoc call f (fs ++ [.yfn (s.H.length + 1)] ++ cs) (s.H ++ [some Row.dfr] ++ [some (Row.loop s.ρ ps asg body s.H.length .ready none)]) []).bind fun p =>
        exRngEnd w none (s.H.length + 1) s.ρ (s.H.length :: s.ms) ((s.H ++ [some Row.dfr] ++ [some (Row.loop s.ρ ps asg body s.H.length .ready none)]).puts p.2.Δ)
    | some r₀ => match s.H[r₀]? with
      | some (some (.loop _ _ _ _ d₀ _ _)) => (exLoc call f (fs ++ [.yfn s.H.length] ++ cs) (s.H ++ [some (Row.loop s.ρ ps asg body d₀ .ready none)]) []).bind fun p =>
          exRngEnd w (some r₀) s.H.length s.ρ s.ms ((s.H ++ [some (Row.loop s.ρ ps asg body d₀ .ready none)]).puts p.2.Δ)
      | _ => none
  | _ => none

def exSeq (w : Walker) (rd : Option Nat) (b : ACode) (x : Exit × St) : Option (Exit × St) :=
  match x.1 with
  | .normal => w rd (.code b) x.2
  | _ => some x

def exBlk (id : Nat) (x : Exit × St) : Exit × St :=
  match x.1 with
  | .exit j => if j = id then (.normal, x.2) else x
  | _ => x

def exCond (w : Walker) (rd : Option Nat) (v : AVal) (a b : ACode) (s : St) : Option (Exit × St) :=
  match v with
  | .bool true => w rd (.code a) s
  | .bool false => w rd (.code b) s
  | _ => none

def exScp (x : Exit × St) : Option (Exit × St) :=
  match x.1 with
  | .goto _ => none
  | _ => some x

def ex (call : Caller) : Nat → Walker
  | 0, _, _, _ => none
  | n + 1, rd, .code c, s =>
    match c with
    | .skip => some (.normal, s)
    | .reg l draw => if draw = true then (if statOK l = true then ex call n rd (.segs 0 (segs l)) s else none) else ex call n rd (.ops l) s
    | .seq a b => (ex call n rd (.code a) s).bind (exSeq (ex call n) rd b)
    | .cond c a b => exCond (ex call n) rd (opd s.ρ c) a b s
    | .block id c => (ex call n rd (.code c) s).map (exBlk id)
    | .loop c => (ex call n rd (.code c) s).bind (exSeq (ex call n) rd (.loop c))
    | .rng g ps asg body => exRng call (ex call n) rd (opd s.ρ g) ps asg body s
    | .exit id => some (.exit id, s)
    | .label _ => some (.normal, s)
    | .goto l => some (.goto l, s)
    | .ret => some (.ret, s)
    | .scope c => (ex call n rd (.code c) s).bind exScp
    | _ => none
  | n + 1, rd, .ops l, s =>
    match l with
    | [] => some (.normal, s)
    | ao :: l =>
      match gval s.ρ ao.guard with
      | none => none
      | some b => if b = true then (exOp call (ex call n) ao.op s).bind fun r => ex call n rd (.ops l) ⟨setD s.ρ ao.dst r.1, r.2, s.ms⟩
        else ex call n rd (.ops l) ⟨setD s.ρ ao.dst (.tup []), s.H, s.ms⟩
  | n + 1, rd, .segs lo ss, s =>
    match ss with
    | [] => some (.normal, s)
    | grp :: ss => match grp with
      | [ao] =>
        match gval s.ρ ao.guard with
        | none => none
        | some b => if b = true then (exOp call (ex call n) ao.op s).bind fun r => ex call n rd (.segs (lo + 1) ss) ⟨setD s.ρ ao.dst r.1, r.2, s.ms⟩
          else ex call n rd (.segs (lo + 1) ss) ⟨setD s.ρ ao.dst (.tup []), s.H, s.ms⟩
      | grp => ex call n rd (.grp lo grp [] (lo + grp.length) ss) s
  | n + 1, rd, .grp lo l tr hi ss, s =>
    match l with
    | [] => ex call n rd (.segs hi ss) s
    | ao :: l =>
      match gval s.ρ ao.guard with
      | none => none
      | some b => if b = true then (exOpG call ao.op s).bind fun p =>
            if dynOK ao.free p.1 (p.2.Δ.map (·.1)) tr lo = true then ex call n rd (.grp lo l (tr ++ [(p.1, p.2.Δ.map (·.1))]) hi ss) ⟨setD s.ρ ao.dst p.2.v, s.H.puts p.2.Δ, s.ms⟩ else none
        else ex call n rd (.grp lo l (tr ++ [([], [])]) hi ss) ⟨setD s.ρ ao.dst (.tup []), s.H, s.ms⟩

def retOf (res : List ARes) (x : Exit × St) : Option (AVal × Heap) :=
  if nodupB x.2.ms = true then
    match x.1 with
    | .normal | .ret => (resOf res { x.2 with H := freed x.2.H x.2.ms }).map fun v => (v, freed x.2.H x.2.ms)
    | _ => none
  else none

def exFn (tab : Nat → Option AFun) (m : Nat) : Nat → Caller
  | 0, _, _, _ => none
  | n + 1, g, args, H =>
    match tab g with
    | none => none
    | some af => (ex (exFn tab m n) m none (.code af.body) ⟨args ++ List.replicate (af.ntmps - args.length) .any, H, []⟩).bind (retOf af.res)


def CallerOK (P : Program) (call : Caller) : Prop := ∀ g args H v H', call g args H = some (v, H') → Fn P g args H fun v' H'' => v' = v ∧ H'' = H'

def Does (P : Program) (G : Ctx) (k : Nat) (rd : Option Nat) (s : St) (e : Exit) (s' : St) : Tk → Prop
  | .code c => AW P G k rd c (fun e1 s1 => e1 = e ∧ s1 = s') s ∧ ∀ c', c = .loop c' → AL P G k rd c' (fun e1 s1 => e1 = e ∧ s1 = s') s
  | .ops l => e = .normal ∧ Areg P G k rd l s (· = s')
  | .segs lo ss => e = .normal ∧ ASegs P G k rd lo ss s (· = s')
  | .grp lo l tr hi ss => e = .normal ∧ AGrp P lo l tr s fun s1 => ASegs P G k rd hi ss s1 (· = s')

def WalkerOK (P : Program) (w : Walker) : Prop := ∀ rd t s e s', w rd t s = some (e, s') → s.H.length ≤ s'.H.length ∧ ∀ G k, k ≤ s.H.length → Does P G k rd s e s' t

section
variable {P : Program} {call : Caller} {w : Walker}

theorem areg_mono {G : Ctx} {k : Nat} {rd : Option Nat} {K K' : St → Prop} (hK : ∀ s, K s → K' s) : ∀ (l : List AOper) (s : St), Areg P G k rd l s K → Areg P G k rd l s K'
  | [], s, h => hK s h
  | ao :: l, s, h => OpA.mono (fun s' hs' => areg_mono hK l s' hs') h

theorem asegs_mono {G : Ctx} {k : Nat} {rd : Option Nat} {K K' : St → Prop} (hK : ∀ s, K s → K' s) : ∀ (lo : Nat) (ss : List (List AOper)) (s : St), ASegs P G k rd lo ss s K → ASegs P G k rd lo ss s K'
  | lo, [], s, h => hK s h
  | lo, [] :: ss, s, h => asegs_mono hK lo ss s h
  | lo, [ao] :: ss, s, h => OpA.mono (fun s' hs' => asegs_mono hK (lo + 1) ss s' hs') h
  | lo, (a :: b :: grp) :: ss, s, h => AGrp.mono (fun s' hs' => asegs_mono hK _ ss s' hs') _ _ _ h

theorem isDfr_spec {H : Heap} {q : Nat} (h : isDfr H q = true) : H[q]? = some (some .dfr) := by
  unfold isDfr at h
  split at h
  · assumption
  · cases h

theorem DCall.callW {G : Ctx} {g : FuncId} {args : List AVal} {H : Heap} {c : Oc} (h : DCall P g args H c) (hfs : ∀ r ∈ c.fs, H.length ≤ r) : CallW P G g args H fun v H' => v = c.v ∧ H' = H.puts c.Δ := by
  refine ⟨h.1, fun μ cargs w h1 h2 h3 h4 => (h.2 G H μ cargs w (fun _ _ h => h) (fun r hr => ?_) h1 h2 h3).mono ?_⟩
  · cases hq : μ r with
    | none => rfl
    | some p => have := h4 r (by rw [hq]; rfl); have := hfs r hr; omega
  · rintro e w' ⟨cv, μ', rfl, k1, k2, k3, k4⟩
    refine ⟨c.v, cv, μ', _, rfl, ⟨rfl, rfl⟩, k1, k2, fun r hr => ?_, Mu.leB_of k3⟩
    rcases k4 r hr with h | h
    · have := h4 r h; have := Heap.le_puts c.Δ H; omega
    · exact h.2

theorem exLoc_sound (hcall : CallerOK P call) {g : FuncId} {args : List AVal} {H : Heap} {ms deps : List Nat} {c : Oc} (h : exLoc call g args H ms = some (deps, c)) :
    DCall P g args (H.onlyR deps) c ∧ (∀ r ∈ c.fs, H.length ≤ r ∧ r < (H.puts c.Δ).length) ∧ ∀ q ∈ ms, q ∉ c.rows := by
  unfold exLoc at h
  split at h
  · rename_i c' hc
    split at h
    · rename_i hm
      cases h
      obtain ⟨h1, h2⟩ := callLoc_sound hcall hc
      refine ⟨h1, h2, fun q hq => ?_⟩
      have := List.all_eq_true.1 hm q hq
      simpa using this
    · cases h
  · cases h

theorem onlyR_sub (H : Heap) (l : List Nat) : (H.onlyR l).sub H := fun r x h => ((onlyR_get H l r x).1 h).2

theorem exRound_sound (hw : WalkerOK P w) {G : Ctx} {k : Nat} {rd : Option Nat} {s : St} {ao : AOper} {f : AOpd} {xs : List AOpd} {r : Nat} {v : AVal} {H' : Heap} (hg : gval s.ρ ao.guard = some true) (ho : ao.op = .call f xs) (hf : opd s.ρ f = .yfn r)
    (h : exRound w r (xs.map (opd s.ρ)) s.H = some (v, H')) (hk : k ≤ s.H.length) (hms : s.ms.all (isDfr H') = true) : s.H.length ≤ H'.length ∧ ∀ K : St → Prop, K ⟨setD s.ρ ao.dst v, H', s.ms⟩ → OpA P G k rd ao s K := by
  unfold exRound at h
  split at h
  · rename_i ρr ps asg body d pend hr
    split at h
    · rename_i hn
      rw [Option.bind_eq_some_iff] at h
      obtain ⟨⟨e1, s1⟩, h1, h2⟩ := h
      obtain ⟨hl1, hd1⟩ := hw _ _ _ _ _ h1
      unfold exMid at h2
      simp only at h2
      split at h2
      · split at h2
        · rename_i ρ1 ps1 asg1 body1 d1 pend1 hr1
          rw [Option.bind_eq_some_iff] at h2
          obtain ⟨⟨e2, s2⟩, h3, h4⟩ := h2
          obtain ⟨hl2, hd2⟩ := hw _ _ _ _ _ h3
          have hlen : s.H.length ≤ (s1.H.put r (.loop ρ1 ps1 asg1 body1 d1 .busy pend1)).length := by rw [Heap.len_put]; simp only at hl1; omega
          have hend : RoundEnd r (fun v' H'' => v' = v ∧ H'' = H') e2 s2 ∧ s2.H.length ≤ H'.length := by
            unfold exEnd at h4
            simp only at h4
            split at h4
            · rename_i ρ2 ps2 asg2 body2 d2 st2 pend2 hr2
              have hput : ∀ x, s2.H.length ≤ (s2.H.put r x).length := fun x => by rw [Heap.len_put]; omega
              split at h4 <;> first
                | (cases h4; done)
                | (simp only [Option.some.injEq, Prod.mk.injEq] at h4
                   obtain ⟨rfl, rfl⟩ := h4
                   exact ⟨⟨ρ2, ps2, asg2, body2, d2, st2, pend2, hr2, rfl, rfl⟩, hput _⟩)
            · cases h4
          refine ⟨by simp only at hl1 hl2; omega, fun K hK => ?_⟩
          refine op_round hg ho hf hr (by simpa using hn) (R := fun v' H'' => v' = v ∧ H'' = H') ?_ hk ?_
          · refine (hd1 G s.H.length (by simp)).1.mono ?_
            rintro _ _ ⟨rfl, rfl⟩
            refine ⟨rfl, ρ1, ps1, asg1, body1, d1, pend1, hr1, ?_⟩
            refine (hd2 G s.H.length hlen).1.mono ?_
            rintro _ _ ⟨rfl, rfl⟩
            exact hend.1
          · rintro v' H'' ⟨rfl, rfl⟩
            exact ⟨fun q hq => isDfr_spec (List.all_eq_true.1 hms q hq), hK⟩
        · cases h2
      · cases h2
    · cases h
  · cases h

theorem exOp_sound (hcall : CallerOK P call) (hw : WalkerOK P w) {G : Ctx} {k : Nat} {rd : Option Nat} {s : St} {ao : AOper} {v : AVal} {H' : Heap} (hg : gval s.ρ ao.guard = some true) (h : exOp call w ao.op s = some (v, H')) (hk : k ≤ s.H.length) :
    s.H.length ≤ H'.length ∧ ∀ K : St → Prop, K ⟨setD s.ρ ao.dst v, H', s.ms⟩ → OpA P G k rd ao s K := by
  have simple : (aev ao.op s.ρ s.H s.H.length).map (fun r => (r.1, s.H.puts r.2)) = some (v, H') → s.H.length ≤ H'.length ∧ ∀ K : St → Prop, K ⟨setD s.ρ ao.dst v, H', s.ms⟩ → OpA P G k rd ao s K := by
    intro h
    rw [Option.map_eq_some_iff] at h
    obtain ⟨⟨v', Δ⟩, h1, h2⟩ := h
    simp only [Prod.mk.injEq] at h2
    obtain ⟨rfl, rfl⟩ := h2
    exact ⟨Heap.le_puts _ _, fun K hK => op_simple hg h1 hK⟩
  cases hop : ao.op
  case call f xs =>
    rw [hop] at h
    simp only [exOp, exCallOp] at h
    split at h
    · rename_i g ys cs hf
      rw [Option.map_eq_some_iff] at h
      obtain ⟨⟨deps, c⟩, h1, h2⟩ := h
      simp only [Prod.mk.injEq] at h2
      obtain ⟨rfl, rfl⟩ := h2
      obtain ⟨k1, k2, k3⟩ := exLoc_sound hcall h1
      exact ⟨Heap.le_puts _ _, fun K hK => op_dc hg k3 hop hf (k1.sub (onlyR_sub _ _)) (fun r hr => (k2 r hr).1) hK⟩
    · rename_i r hf
      rw [Option.bind_eq_some_iff] at h
      obtain ⟨⟨v', H''⟩, h1, h2⟩ := h
      split at h2
      · rename_i hm
        cases h2
        exact exRound_sound hw hg hop hf h1 hk hm
      · cases h2
    · cases h
  case callM tab f xs =>
    rw [hop] at h
    simp only [exOp, exCallM] at h
    split at h
    · rename_i t v hf
      split at h
      · rename_i g ht
        rw [Option.map_eq_some_iff] at h
        obtain ⟨⟨deps, c⟩, h1, h2⟩ := h
        simp only [Prod.mk.injEq] at h2
        obtain ⟨rfl, rfl⟩ := h2
        obtain ⟨k1, k2, k3⟩ := exLoc_sound hcall h1
        refine ⟨Heap.le_puts _ _, fun K hK => op_callM hg hop hf ht (DCall.callW (k1.sub (onlyR_sub _ _)) fun r hr => (k2 r hr).1) hk ?_⟩
        rintro hmk v H' ⟨rfl, rfl⟩
        exact ⟨fun r hr => (Same.off c.Δ (k3 r hr) _).2 (hmk r hr), hK⟩
      · cases h
    · cases h
  case slice b m x lo hi =>
    rw [hop] at h simple
    simp only [exOp] at h
    split at h
    · rename_i r hr
      cases h
      exact ⟨Heap.le_puts _ _, fun K hK => op_cut hg (by rw [hop]; exact hr) hK⟩
    · exact simple h
  all_goals (rw [hop] at h simple; exact simple h)

theorem ex_sound (hm : P.follows .mixedOrders = true) (hcall : CallerOK P call) : ∀ n, WalkerOK P (ex call n) := by
  intro n
  induction n with
  | zero => intro rd t s e s' h; simp [ex] at h
  | succ n ih =>
    intro rd t s e s' h
    cases t with
    | ops l =>
      simp only [ex] at h
      cases l with
      | nil => simp only [Option.some.injEq, Prod.mk.injEq] at h; obtain ⟨rfl, rfl⟩ := h; exact ⟨Nat.le_refl _, fun G k _ => ⟨rfl, rfl⟩⟩
      | cons ao l =>
        simp only at h
        cases hg : gval s.ρ ao.guard with
        | none => rw [hg] at h; cases h
        | some b =>
          rw [hg] at h
          cases b with
          | false =>
            simp only [Bool.false_eq_true, if_false] at h
            obtain ⟨h1, h2⟩ := ih _ _ _ _ _ h
            exact ⟨h1, fun G k hk => ⟨(h2 G k hk).1, op_skip hg (h2 G k hk).2⟩⟩
          | true =>
            simp only [if_true] at h
            rw [Option.bind_eq_some_iff] at h
            obtain ⟨⟨v, H'⟩, h1, h2⟩ := h
            obtain ⟨h3, h4⟩ := ih _ _ _ _ _ h2
            have hl := (exOp_sound (G := ⟨fun _ => False, fun _ => False, default⟩) (rd := rd) hcall ih hg h1 (Nat.le_refl _)).1
            simp only at h3
            refine ⟨by omega, fun G k hk => ?_⟩
            have h5 := h4 G k (by simp only; omega)
            exact ⟨h5.1, (exOp_sound hcall ih hg h1 hk).2 _ h5.2⟩
    | segs lo ss =>
      simp only [ex] at h
      cases ss with
      | nil => simp only [Option.some.injEq, Prod.mk.injEq] at h; obtain ⟨rfl, rfl⟩ := h; exact ⟨Nat.le_refl _, fun G k _ => ⟨rfl, rfl⟩⟩
      | cons grp ss =>
        simp only at h
        match grp, h with
        | [], h =>
          obtain ⟨h1, h2⟩ := ih _ _ _ _ _ h
          exact ⟨h1, fun G k hk => h2 G k hk⟩
        | [ao], h =>
          simp only at h
          cases hg : gval s.ρ ao.guard with
          | none => rw [hg] at h; cases h
          | some b =>
            rw [hg] at h
            cases b with
            | false =>
              simp only [Bool.false_eq_true, if_false] at h
              obtain ⟨h1, h2⟩ := ih _ _ _ _ _ h
              exact ⟨h1, fun G k hk => ⟨(h2 G k hk).1, op_skip hg (h2 G k hk).2⟩⟩
            | true =>
              simp only [if_true] at h
              rw [Option.bind_eq_some_iff] at h
              obtain ⟨⟨v, H'⟩, h1, h2⟩ := h
              obtain ⟨h3, h4⟩ := ih _ _ _ _ _ h2
              have hl := (exOp_sound (G := ⟨fun _ => False, fun _ => False, default⟩) (rd := rd) hcall ih hg h1 (Nat.le_refl _)).1
              simp only at h3
              refine ⟨by omega, fun G k hk => ?_⟩
              have h5 := h4 G k (by simp only; omega)
              exact ⟨h5.1, (exOp_sound hcall ih hg h1 hk).2 _ h5.2⟩
        | a :: b :: grp, h =>
          obtain ⟨h1, h2⟩ := ih _ _ _ _ _ h
          exact ⟨h1, fun G k hk => h2 G k hk⟩
    | grp lo l tr hi ss =>
      simp only [ex] at h
      cases l with
      | nil =>
        obtain ⟨h1, h2⟩ := ih _ _ _ _ _ h
        exact ⟨h1, fun G k hk => h2 G k hk⟩
      | cons ao l =>
        simp only at h
        cases hg : gval s.ρ ao.guard with
        | none => rw [hg] at h; cases h
        | some b =>
          rw [hg] at h
          cases b with
          | false =>
            simp only [Bool.false_eq_true, if_false] at h
            obtain ⟨h1, h2⟩ := ih _ _ _ _ _ h
            refine ⟨h1, fun G k hk => ⟨(h2 G k hk).1, ?_⟩⟩
            simp only [AGrp, hg]
            exact (h2 G k hk).2
          | true =>
            simp only [if_true] at h
            rw [Option.bind_eq_some_iff] at h
            obtain ⟨⟨deps, c⟩, h1, h2⟩ := h
            simp only at h2
            split at h2
            case isFalse => cases h2
            rename_i hdyn
            obtain ⟨h3, h4⟩ := ih _ _ _ _ _ h2
            have hle := Heap.le_puts c.Δ s.H
            simp only at h3
            refine ⟨by omega, fun G k hk => ?_⟩
            have h5 := h4 G k (by simp only; omega)
            refine ⟨h5.1, ?_⟩
            have hlast := h5.2
            have simple : (aev ao.op s.ρ s.H s.H.length).map (fun r => (adeps ao.op s.ρ, (⟨r.1, r.2, []⟩ : Oc))) = some (deps, c) → (match aev ao.op s.ρ s.H s.H.length with
                | none => False
                | some r => dynOK ao.free (adeps ao.op s.ρ) (r.2.map (·.1)) tr lo = true ∧ AGrp P lo l (tr ++ [(adeps ao.op s.ρ, r.2.map (·.1))]) { s with ρ := setD s.ρ ao.dst r.1, H := s.H.puts r.2 } fun s1 => ASegs P G k rd hi ss s1 (· = s')) := by
              intro h1
              rw [Option.map_eq_some_iff] at h1
              obtain ⟨⟨v', Δ⟩, q1, q2⟩ := h1
              simp only [Prod.mk.injEq] at q2
              obtain ⟨rfl, rfl⟩ := q2
              rw [q1]
              exact ⟨hdyn, hlast⟩
            simp only [AGrp, hg]
            cases hop : ao.op
            case call f xs =>
              rw [hop] at h1
              simp only [exOpG] at h1
              split at h1
              · rename_i g ys cs hf
                obtain ⟨k1, k2, k3⟩ := exLoc_sound hcall h1
                exact ⟨g, ys, cs, c, deps, k3, hf, k1, k2, hdyn, hlast⟩
              · cases h1
            case callM tab f xs =>
              rw [hop] at h1
              simp only [exOpG] at h1
              split at h1
              · rename_i t v hf
                split at h1
                · rename_i g ht
                  obtain ⟨k1, k2, k3⟩ := exLoc_sound hcall h1
                  exact ⟨t, v, g, c, deps, k3, hf, ht, k1, k2, hdyn, hlast⟩
                · cases h1
              · cases h1
            all_goals (rw [hop] at h1 simple; exact simple h1)
    | code c =>
      have noloop : ∀ {G : Ctx} {k : Nat}, (∀ c', c ≠ .loop c') → AW P G k rd c (fun e1 s1 => e1 = e ∧ s1 = s') s → Does P G k rd s e s' (.code c) := fun hn ha => ⟨ha, fun c' hc => absurd hc (hn c')⟩
      cases c with
      | skip => simp only [ex, Option.some.injEq, Prod.mk.injEq] at h; obtain ⟨rfl, rfl⟩ := h; exact ⟨Nat.le_refl _, fun G k _ => noloop (fun _ h => nomatch h) (aw_skip ⟨rfl, rfl⟩)⟩
      | exit id => simp only [ex, Option.some.injEq, Prod.mk.injEq] at h; obtain ⟨rfl, rfl⟩ := h; exact ⟨Nat.le_refl _, fun G k _ => noloop (fun _ h => nomatch h) (aw_exit ⟨rfl, rfl⟩)⟩
      | label l => simp only [ex, Option.some.injEq, Prod.mk.injEq] at h; obtain ⟨rfl, rfl⟩ := h; exact ⟨Nat.le_refl _, fun G k _ => noloop (fun _ h => nomatch h) (aw_label ⟨rfl, rfl⟩)⟩
      | goto l => simp only [ex, Option.some.injEq, Prod.mk.injEq] at h; obtain ⟨rfl, rfl⟩ := h; exact ⟨Nat.le_refl _, fun G k _ => noloop (fun _ h => nomatch h) (aw_goto ⟨rfl, rfl⟩)⟩
      | ret => simp only [ex, Option.some.injEq, Prod.mk.injEq] at h; obtain ⟨rfl, rfl⟩ := h; exact ⟨Nat.le_refl _, fun G k _ => noloop (fun _ h => nomatch h) (aw_ret ⟨rfl, rfl⟩)⟩
      | scope c =>
        simp only [ex] at h
        rw [Option.bind_eq_some_iff] at h
        obtain ⟨⟨e1, s1⟩, h1, h2⟩ := h
        obtain ⟨k1, k2⟩ := ih _ _ _ _ _ h1
        have hg : ∀ l, e1 ≠ .goto l := by rintro l rfl; simp [exScp] at h2
        have h3 : exScp (e1, s1) = some (e1, s1) := by cases e1 <;> first | rfl | exact absurd rfl (hg _)
        rw [h3] at h2; cases h2
        refine ⟨k1, fun G k hk => noloop (fun _ h => nomatch h) (aw_scope ((k2 G k hk).1.mono ?_))⟩
        rintro e₁ _ ⟨rfl, rfl⟩
        cases e₁ <;> first | exact absurd rfl (hg _) | exact ⟨rfl, rfl⟩
      | bad => simp [ex] at h
      | reg l draw =>
        simp only [ex] at h
        cases draw with
        | false =>
          simp only [Bool.false_eq_true, if_false] at h
          obtain ⟨h1, h2⟩ := ih _ _ _ _ _ h
          refine ⟨h1, fun G k hk => noloop (fun _ h => nomatch h) (aw_reg ?_)⟩
          obtain ⟨rfl, h3⟩ := h2 G k hk
          exact areg_mono (fun s1 hs1 => ⟨rfl, hs1⟩) _ _ h3
        | true =>
          simp only [if_true] at h
          split at h
          case isFalse => cases h
          rename_i hst
          obtain ⟨h1, h2⟩ := ih _ _ _ _ _ h
          refine ⟨h1, fun G k hk => noloop (fun _ h => nomatch h) (aw_reg_segs hm hst ?_)⟩
          obtain ⟨rfl, h3⟩ := h2 G k hk
          exact asegs_mono (fun s1 hs1 => ⟨rfl, hs1⟩) _ _ _ h3
      | seq a b =>
        simp only [ex] at h
        rw [Option.bind_eq_some_iff] at h
        obtain ⟨⟨e1, s1⟩, h1, h2⟩ := h
        obtain ⟨k1, k2⟩ := ih _ _ _ _ _ h1
        by_cases he : e1 = .normal
        · subst he
          simp only [exSeq] at h2
          obtain ⟨k3, k4⟩ := ih _ _ _ _ _ h2
          refine ⟨by omega, fun G k hk => noloop (fun _ h => nomatch h) (aw_seq ((k2 G k hk).1.mono ?_))⟩
          rintro _ _ ⟨rfl, rfl⟩
          exact (k4 G k (by omega)).1
        · have : exSeq (ex call n) rd b (e1, s1) = some (e1, s1) := by cases e1 <;> first | exact absurd rfl he | rfl
          rw [this] at h2; cases h2
          refine ⟨k1, fun G k hk => noloop (fun _ h => nomatch h) (aw_seq ((k2 G k hk).1.mono ?_))⟩
          rintro e₁ _ ⟨rfl, rfl⟩
          cases e₁ <;> first | exact absurd rfl he | exact ⟨rfl, rfl⟩
      | cond c a b =>
        simp only [ex, exCond] at h
        split at h
        · rename_i hc
          obtain ⟨k1, k2⟩ := ih _ _ _ _ _ h
          exact ⟨k1, fun G k hk => noloop (fun _ h => nomatch h) (aw_cond hc (fun _ => (k2 G k hk).1) fun h => nomatch h)⟩
        · rename_i hc
          obtain ⟨k1, k2⟩ := ih _ _ _ _ _ h
          exact ⟨k1, fun G k hk => noloop (fun _ h => nomatch h) (aw_cond hc (fun h => nomatch h) fun _ => (k2 G k hk).1)⟩
        · cases h
      | block id c =>
        simp only [ex] at h
        rw [Option.map_eq_some_iff] at h
        obtain ⟨⟨e1, s1⟩, h1, h2⟩ := h
        obtain ⟨k1, k2⟩ := ih _ _ _ _ _ h1
        have hs : s1 = s' := by
          have := congrArg Prod.snd h2
          unfold exBlk at this
          repeat' split at this
          all_goals exact this
        subst hs
        refine ⟨k1, fun G k hk => noloop (fun _ h => nomatch h) (aw_block ((k2 G k hk).1.mono ?_))⟩
        rintro e₁ _ ⟨rfl, rfl⟩
        have he := congrArg Prod.fst h2
        cases e₁ <;> simp only [exBlk] at he <;> first
          | exact ⟨he, rfl⟩
          | skip
        rename_i j
        show (if j = id then _ else _)
        split at he
        · rename_i hj; rw [if_pos hj]; exact ⟨he, rfl⟩
        · rename_i hj; rw [if_neg hj]; exact ⟨he, rfl⟩
      | loop c =>
        simp only [ex] at h
        rw [Option.bind_eq_some_iff] at h
        obtain ⟨⟨e1, s1⟩, h1, h2⟩ := h
        obtain ⟨k1, k2⟩ := ih _ _ _ _ _ h1
        by_cases he : e1 = .normal
        · subst he
          simp only [exSeq] at h2
          obtain ⟨k3, k4⟩ := ih _ _ _ _ _ h2
          have hal : ∀ G k, k ≤ s.H.length → AL P G k rd c (fun e1 s1 => e1 = e ∧ s1 = s') s := fun G k hk => al_round ((k2 G k hk).1.mono (by
            rintro _ _ ⟨rfl, rfl⟩
            exact (k4 G k (by omega)).2 c rfl))
          exact ⟨by omega, fun G k hk => ⟨aw_loop (hal G k hk), fun c' hc => by cases hc; exact hal G k hk⟩⟩
        · have : exSeq (ex call n) rd (.loop c) (e1, s1) = some (e1, s1) := by cases e1 <;> first | exact absurd rfl he | rfl
          rw [this] at h2; cases h2
          have hal : ∀ G k, k ≤ s.H.length → AL P G k rd c (fun e₁ s₁ => e₁ = e ∧ s₁ = s') s := fun G k hk => al_round ((k2 G k hk).1.mono (by
            rintro e₁ _ ⟨rfl, rfl⟩
            cases e₁ <;> first | exact absurd rfl he | exact ⟨rfl, rfl⟩))
          exact ⟨k1, fun G k hk => ⟨aw_loop (hal G k hk), fun c' hc => by cases hc; exact hal G k hk⟩⟩
      | rng g ps asg body =>
        simp only [ex, exRng] at h
        have fin : ∀ (rd : Option Nat) (l : Nat) (ms : List Nat) (H' : Heap), s.H.length ≤ H'.length → exRngEnd (ex call n) rd l s.ρ ms H' = some (e, s') →
            s.H.length ≤ s'.H.length ∧ ∀ G k, k ≤ s.H.length → RngEnd P G k rd l s.ρ ms (fun e1 s1 => e1 = e ∧ s1 = s') H' := by
          intro rd l ms H' hl h
          unfold exRngEnd at h
          split at h
          case isFalse => cases h
          rename_i hms
          split at h
          case h_2 => cases h
          rename_i ρ' ps' asg' body' d' st pend hrow
          split at h
          case isTrue => cases h
          rename_i hst
          cases pend with
          | none =>
            simp only [Option.some.injEq, Prod.mk.injEq] at h
            obtain ⟨rfl, rfl⟩ := h
            exact ⟨by simpa using hl, fun G k hk => ⟨fun q hq => isDfr_spec (List.all_eq_true.1 hms q hq), ρ', ps', asg', body', d', st, none, hrow, hst, rfl, rfl⟩⟩
          | some c =>
            simp only at h
            obtain ⟨k1, k2⟩ := ih _ _ _ _ _ h
            simp only [List.length_set] at k1
            exact ⟨by omega, fun G k hk => ⟨fun q hq => isDfr_spec (List.all_eq_true.1 hms q hq), ρ', ps', asg', body', d', st, some c, hrow, hst, (k2 G k (by simp only [List.length_set]; omega)).1⟩⟩
        split at h
        · rename_i f fs cs hf
          cases rd with
          | none =>
            simp only at h
            rw [Option.bind_eq_some_iff] at h
            obtain ⟨⟨deps, c⟩, h1, h2⟩ := h
            obtain ⟨k1, k2, _⟩ := exLoc_sound hcall h1
            have hle := Heap.le_puts c.Δ (s.H ++ [some .dfr] ++ [some (.loop s.ρ ps asg body s.H.length .ready none)])
            simp only [List.length_append, List.length_singleton] at hle
            obtain ⟨k3, k4⟩ := fin none _ _ _ (by simp only; omega) h2
            refine ⟨k3, fun G k hk => noloop (fun _ h => nomatch h) (aw_rng_outer hf ((k1.sub (onlyR_sub _ _)).callW fun r hr => (k2 r hr).1) hk ?_)⟩
            rintro v H' ⟨rfl, rfl⟩
            exact k4 G k hk
          | some r₀ =>
            simp only at h
            split at h
            · rename_i ρ₀ ps₀ asg₀ body₀ d₀ st₀ pend₀ h₀
              rw [Option.bind_eq_some_iff] at h
              obtain ⟨⟨deps, c⟩, h1, h2⟩ := h
              obtain ⟨k1, k2, _⟩ := exLoc_sound hcall h1
              have hle := Heap.le_puts c.Δ (s.H ++ [some (.loop s.ρ ps asg body d₀ .ready none)])
              simp only [List.length_append, List.length_singleton] at hle
              obtain ⟨k3, k4⟩ := fin (some r₀) _ _ _ (by simp only; omega) h2
              refine ⟨k3, fun G k hk => noloop (fun _ h => nomatch h) (aw_rng_inner h₀ hf ((k1.sub (onlyR_sub _ _)).callW fun r hr => (k2 r hr).1) hk ?_)⟩
              rintro v H' ⟨rfl, rfl⟩
              exact k4 G k hk
            · cases h
        · cases h

theorem exFn_sound (hm : P.follows .mixedOrders = true) {tab : Nat → Option AFun} {m : Nat} (hT : ∀ g af, tab g = some af → ∃ fn, P.funcs[g]? = some fn ∧ cfun P fn = af ∧ (fn.name != "runtime.NumGoroutine" && fn.body.isSome) = true) :
    ∀ n, CallerOK P (exFn tab m n) := by
  intro n
  induction n with
  | zero => intro g args H v H' h; simp [exFn] at h
  | succ n ih =>
    intro g args H v H' h G
    simp only [exFn] at h
    cases ht : tab g with
    | none => rw [ht] at h; cases h
    | some af =>
      rw [ht] at h
      simp only at h
      rw [Option.bind_eq_some_iff] at h
      obtain ⟨⟨e, s'⟩, h1, h2⟩ := h
      obtain ⟨fn, f1, f2, f3⟩ := hT g af ht
      refine call_of_afun f1 f2 f3 (((ex_sound hm ih m _ _ _ _ _ h1).2 G H.length (Nat.le_refl _)).1.mono ?_)
      rintro _ _ ⟨rfl, rfl⟩
      unfold retOf at h2
      split at h2
      case isFalse => cases h2
      rename_i hnd
      have hnd := nodupB_spec hnd
      simp only at h2
      split at h2
      case h_3 => cases h2
      all_goals
        rename_i he
        rw [Option.map_eq_some_iff] at h2
        obtain ⟨v', h3, h4⟩ := h2
        simp only [Prod.mk.injEq] at h4
        obtain ⟨rfl, rfl⟩ := h4
        exact ⟨by simp, hnd, v', h3, rfl, rfl⟩
end
end Go.Sx
/- Code, reckoned step by step; all that a step speaks of is data. -/
namespace Go.Sx
open Go

inductive Frame where
  | seq (c : ACode)
  | blk (id : Nat)
  | rnd (c : ACode)
  | sgs (lo : Nat) (ss : List (List AOper))
  | scp

inductive Cmd where
  | code (c : ACode)
  | ops (l : List AOper)
  | out (e : Exit)
  | segs (lo : Nat) (ss : List (List AOper))
  | grp (lo : Nat) (l : List AOper) (tr : List (List Nat × List Nat)) (hi : Nat) (ss : List (List AOper))

abbrev Goal := Exit → St → Prop
abbrev Runner := Cmd → List Frame → St → Goal → Prop

def known (ρ : List AVal) (b : Bool) : Option (Nat × Bool) → List AVal
  | none => ρ
  | some (t, want) => match tget ρ t with
    | .tup [] => ρ
    | _ => tset ρ t (.bool (if b = true then want else !want))

theorem known_eq {ρ : List AVal} {b : Bool} {g : Option (Nat × Bool)} (h : gval ρ g = some b) : known ρ b g = ρ := by
  cases g with
  | none => rfl
  | some p =>
    obtain ⟨t, want⟩ := p
    simp only [gval] at h
    unfold boolOf at h
    split at h
    · rename_i c hc
      cases h
      simp only [known, hc, tset_eq]
      rw [tget_eq] at hc
      have hlt : t < ρ.length := by
        rcases Nat.lt_or_ge t ρ.length with h | h
        · exact h
        · rw [List.getD_eq_getElem?_getD, List.getElem?_eq_none h] at hc; cases hc
      have e : (AVal.bool (if (c == want) = true then want else !want)) = ρ[t] := by
        rw [List.getD_eq_getElem?_getD, List.getElem?_eq_getElem hlt] at hc
        simp only [Option.getD_some] at hc
        rw [hc]; cases c <;> cases want <;> rfl
      rw [e, List.set_getElem_self]
    · rename_i hc
      simp only [known, hc]
    · cases h

section
variable (P : Program) (G : Ctx) (k : Nat) (rd : Option Nat)

def Fin : List Frame → Goal → Goal
  | [], Q => Q
  | .seq c :: fs, Q => andThen (AW P G k rd c (Fin fs Q)) (Fin fs Q)
  | .blk id :: fs, Q => inBlock id (Fin fs Q)
  | .rnd c :: fs, Q => andThen (AL P G k rd c (Fin fs Q)) (Fin fs Q)
  | .sgs lo ss :: fs, Q => andThen (fun s => ASegs P G k rd lo ss s (Fin fs Q .normal)) fun _ _ => False
  | .scp :: fs, Q => noGoto (Fin fs Q)

def Loop (c : ACode) (fs : List Frame) (s : St) (Q : Goal) : Prop := AL P G k rd c (Fin P G k rd fs Q) s

def Mean : Cmd → List Frame → St → Goal → Prop
  | .code c, fs, s, Q => AW P G k rd c (Fin P G k rd fs Q) s
  | .ops l, fs, s, Q => Areg P G k rd l s (Fin P G k rd fs Q .normal)
  | .out e, fs, s, Q => Fin P G k rd fs Q e s
  | .segs lo ss, fs, s, Q => ASegs P G k rd lo ss s (Fin P G k rd fs Q .normal)
  | .grp lo l tr hi ss, fs, s, Q => AGrp P lo l tr s fun s' => ASegs P G k rd hi ss s' (Fin P G k rd fs Q .normal)

def owe (R : Runner) (o : Option (AVal × List (Nat × Row))) (dst : Option Nat) (l : List AOper) (fs : List Frame) (ρ : List AVal) (H : Heap) (ms : List Nat) (Q : Goal) : Prop :=
  match o with
  | some r => R (.ops l) fs ⟨setD ρ dst r.1, H.puts r.2, ms⟩ Q
  | none => False

def CallR (R : Runner) (g : FuncId) (args : List AVal) (dst : Option Nat) (l : List AOper) (fs : List Frame) (ρ : List AVal) (H : Heap) (ms : List Nat) (Q : Goal) : Prop :=
  k ≤ H.length ∧ CallW P G g args H fun v H' => (∀ r ∈ ms, H'[r]? = some (some .dfr)) ∧ R (.ops l) fs ⟨setD ρ dst v, H', ms⟩ Q

def callee (R : Runner) (v : AVal) (o : AOper) (xs : List AVal) (l : List AOper) (fs : List Frame) (ρ : List AVal) (H : Heap) (ms : List Nat) (Q : Goal) : Prop :=
  match v with
  | .fn (.func g) ys cs => CallR P G k R g (ys ++ xs ++ cs) o.dst l fs ρ H ms Q
  | _ => Areg P G k rd (o :: l) ⟨ρ, H, ms⟩ (Fin P G k rd fs Q .normal)

def calleeM (R : Runner) (tab : List (Nat × Nat)) (v : AVal) (o : AOper) (xs : List AVal) (l : List AOper) (fs : List Frame) (ρ : List AVal) (H : Heap) (ms : List Nat) (Q : Goal) : Prop :=
  match v with
  | .iface t x => match tabAt tab t with
    | some g => CallR P G k R g (x :: xs) o.dst l fs ρ H ms Q
    | none => False
  | _ => False

def stepOp (R : Runner) (o : AOper) (op : AOp) (l : List AOper) (fs : List Frame) (ρ : List AVal) (H : Heap) (ms : List Nat) (Q : Goal) : Prop :=
  match op with
  | .call f xs => callee P G k rd R (opd ρ f) o (xs.map (opd ρ)) l fs ρ H ms Q
  | .callM tab f xs => calleeM P G k R tab (opd ρ f) o (xs.map (opd ρ)) l fs ρ H ms Q
  | op => owe R (aev op ρ H H.length) o.dst l fs ρ H ms Q

def gd (R : Runner) (b : Option Bool) (o : AOper) (l : List AOper) (fs : List Frame) (ρ : List AVal) (H : Heap) (ms : List Nat) (Q : Goal) : Prop :=
  match b with
  | some true => stepOp P G k rd R o o.op l fs (known ρ true o.guard) H ms Q
  | some false => R (.ops l) fs ⟨setD (known ρ false o.guard) o.dst (.tup []), H, ms⟩ Q
  | none => False

def oweG (R : Runner) (o : Option (AVal × List (Nat × Row))) (ao : AOper) (deps : List Nat) (lo : Nat) (l : List AOper) (tr : List (List Nat × List Nat)) (hi : Nat) (ss : List (List AOper)) (fs : List Frame) (ρ : List AVal) (H : Heap) (ms : List Nat) (Q : Goal) : Prop :=
  match o with
  | some r => dynOK ao.free deps (r.2.map (·.1)) tr lo = true ∧ R (.grp lo l (tr ++ [(deps, r.2.map (·.1))]) hi ss) fs ⟨setD ρ ao.dst r.1, H.puts r.2, ms⟩ Q
  | none => False

def DCallR (R : Runner) (g : FuncId) (args : List AVal) (ao : AOper) (lo : Nat) (l : List AOper) (tr : List (List Nat × List Nat)) (hi : Nat) (ss : List (List AOper)) (fs : List Frame) (ρ : List AVal) (H : Heap) (ms : List Nat) (Q : Goal) : Prop :=
  ∃ c deps, (∀ q ∈ ms, q ∉ c.rows) ∧ DCall P g args (H.onlyR deps) c ∧ (∀ r ∈ c.fs, H.length ≤ r ∧ r < (H.puts c.Δ).length) ∧ dynOK ao.free deps (c.Δ.map (·.1)) tr lo = true ∧
    R (.grp lo l (tr ++ [(deps, c.Δ.map (·.1))]) hi ss) fs ⟨setD ρ ao.dst c.v, H.puts c.Δ, ms⟩ Q

def calleeG (R : Runner) (v : AVal) (ao : AOper) (xs : List AVal) (lo : Nat) (l : List AOper) (tr : List (List Nat × List Nat)) (hi : Nat) (ss : List (List AOper)) (fs : List Frame) (ρ : List AVal) (H : Heap) (ms : List Nat) (Q : Goal) : Prop :=
  match v with
  | .fn (.func g) ys cs => DCallR P R g (ys ++ xs ++ cs) ao lo l tr hi ss fs ρ H ms Q
  | _ => False

def calleeGM (R : Runner) (tab : List (Nat × Nat)) (v : AVal) (ao : AOper) (xs : List AVal) (lo : Nat) (l : List AOper) (tr : List (List Nat × List Nat)) (hi : Nat) (ss : List (List AOper)) (fs : List Frame) (ρ : List AVal) (H : Heap) (ms : List Nat) (Q : Goal) : Prop :=
  match v with
  | .iface t x => match tabAt tab t with
    | some g => DCallR P R g (x :: xs) ao lo l tr hi ss fs ρ H ms Q
    | none => False
  | _ => False

def stepG (R : Runner) (ao : AOper) (op : AOp) (lo : Nat) (l : List AOper) (tr : List (List Nat × List Nat)) (hi : Nat) (ss : List (List AOper)) (fs : List Frame) (ρ : List AVal) (H : Heap) (ms : List Nat) (Q : Goal) : Prop :=
  match op with
  | .call f xs => calleeG P R (opd ρ f) ao (xs.map (opd ρ)) lo l tr hi ss fs ρ H ms Q
  | .callM tab f xs => calleeGM P R tab (opd ρ f) ao (xs.map (opd ρ)) lo l tr hi ss fs ρ H ms Q
  | op => oweG R (aev op ρ H H.length) ao (adeps op ρ) lo l tr hi ss fs ρ H ms Q

def gdG (R : Runner) (b : Option Bool) (ao : AOper) (lo : Nat) (l : List AOper) (tr : List (List Nat × List Nat)) (hi : Nat) (ss : List (List AOper)) (fs : List Frame) (ρ : List AVal) (H : Heap) (ms : List Nat) (Q : Goal) : Prop :=
  match b with
  | some true => stepG P R ao ao.op lo l tr hi ss fs (known ρ true ao.guard) H ms Q
  | some false => R (.grp lo l (tr ++ [([], [])]) hi ss) fs ⟨setD (known ρ false ao.guard) ao.dst (.tup []), H, ms⟩ Q
  | none => False

def outSgs (R : Runner) (e : Exit) (lo : Nat) (ss : List (List AOper)) (fs : List Frame) (s : St) (Q : Goal) : Prop :=
  match e with
  | .normal => R (.segs lo ss) fs s Q
  | _ => False

def outScp (R : Runner) (e : Exit) (fs : List Frame) (s : St) (Q : Goal) : Prop :=
  match e with
  | .goto _ => False
  | e => R (.out e) fs s Q

def br (R : Runner) (v : AVal) (x y : ACode) (fs : List Frame) (s : St) (Q : Goal) : Prop :=
  match v with
  | .bool true => R (.code x) fs s Q
  | .bool false => R (.code y) fs s Q
  | _ => False

def outSeq (R : Runner) (e : Exit) (c : ACode) (fs : List Frame) (s : St) (Q : Goal) : Prop :=
  match e with
  | .normal => R (.code c) fs s Q
  | e => R (.out e) fs s Q

def outBlk (R : Runner) (e : Exit) (id : Nat) (fs : List Frame) (s : St) (Q : Goal) : Prop :=
  match e with
  | .exit j => if j = id then R (.out .normal) fs s Q else R (.out (.exit j)) fs s Q
  | e => R (.out e) fs s Q

def outRnd (R : Runner) (e : Exit) (c : ACode) (fs : List Frame) (s : St) (Q : Goal) : Prop :=
  match e with
  | .normal => Loop P G k rd c fs s Q
  | e => R (.out e) fs s Q

def Run : Nat → Runner
  | 0, c, fs, s, Q => Mean P G k rd c fs s Q
  | n + 1, .ops [], fs, s, Q => Run n (.out .normal) fs s Q
  | n + 1, .ops (o :: l), fs, s, Q => gd P G k rd (Run n) (gval s.ρ o.guard) o l fs s.ρ s.H s.ms Q
  | n + 1, .code .skip, fs, s, Q => Run n (.out .normal) fs s Q
  | n + 1, .code (.reg l false), fs, s, Q => Run n (.ops l) fs s Q
  | n + 1, .code (.reg l true), fs, s, Q => P.follows .mixedOrders = true ∧ statOK l = true ∧ Run n (.segs 0 (segs l)) fs s Q
  | n + 1, .segs _ [], fs, s, Q => Run n (.out .normal) fs s Q
  | n + 1, .segs lo ([ao] :: ss), fs, s, Q => Run n (.ops [ao]) (.sgs (lo + 1) ss :: fs) s Q
  | n + 1, .segs lo (grp :: ss), fs, s, Q => Run n (.grp lo grp [] (lo + grp.length) ss) fs s Q
  | n + 1, .grp _ [] _ hi ss, fs, s, Q => Run n (.segs hi ss) fs s Q
  | n + 1, .grp lo (ao :: l) tr hi ss, fs, s, Q => gdG P (Run n) (gval s.ρ ao.guard) ao lo l tr hi ss fs s.ρ s.H s.ms Q
  | n + 1, .code (.seq a b), fs, s, Q => Run n (.code a) (.seq b :: fs) s Q
  | n + 1, .code (.cond c a b), fs, s, Q => br (Run n) (opd s.ρ c) a b fs s Q
  | n + 1, .code (.block id c), fs, s, Q => Run n (.code c) (.blk id :: fs) s Q
  | n + 1, .code (.exit id), fs, s, Q => Run n (.out (.exit id)) fs s Q
  | n + 1, .code (.label _), fs, s, Q => Run n (.out .normal) fs s Q
  | n + 1, .code (.goto l), fs, s, Q => Run n (.out (.goto l)) fs s Q
  | n + 1, .code .ret, fs, s, Q => Run n (.out .ret) fs s Q
  | n + 1, .code (.scope c), fs, s, Q => Run n (.code c) (.scp :: fs) s Q
  | _ + 1, .code (.loop c), fs, s, Q => Loop P G k rd c fs s Q
  | _ + 1, .code c, fs, s, Q => Mean P G k rd (.code c) fs s Q
  | _ + 1, .out e, [], s, Q => Q e s
  | n + 1, .out e, .seq c :: fs, s, Q => outSeq (Run n) e c fs s Q
  | n + 1, .out e, .blk id :: fs, s, Q => outBlk (Run n) e id fs s Q
  | n + 1, .out e, .rnd c :: fs, s, Q => outRnd P G k rd (Run n) e c fs s Q
  | n + 1, .out e, .sgs lo ss :: fs, s, Q => outSgs (Run n) e lo ss fs s Q
  | n + 1, .out e, .scp :: fs, s, Q => outScp (Run n) e fs s Q
end
section
variable {P : Program} {G : Ctx} {k : Nat} {rd : Option Nat}

theorem run_mean (n : Nat) : ∀ (c : Cmd) (fs : List Frame) (s : St) (Q : Goal), Run P G k rd n c fs s Q → Mean P G k rd c fs s Q := by
  induction n with
  | zero => intro c fs s Q h; simpa only [Run] using h
  | succ n ih =>
    intro c fs s Q h
    cases c with
    | ops l =>
      cases l with
      | nil => exact areg_nil (P := P) (G := G) (k := k) (rd := rd) (K := Fin P G k rd fs Q .normal) (ih (.out .normal) fs s Q (by simpa only [Run] using h))
      | cons ao l =>
        simp only [Run] at h
        cases hg : gval s.ρ ao.guard with
        | none => rw [hg] at h; exact h.elim
        | some b =>
          rw [hg] at h
          have hk := known_eq hg
          cases b with
          | false =>
            simp only [gd, hk] at h
            exact op_skip hg (ih _ _ _ _ h)
          | true =>
            simp only [gd, hk] at h
            have simple : owe (Run P G k rd n) (aev ao.op s.ρ s.H s.H.length) ao.dst l fs s.ρ s.H s.ms Q → Mean P G k rd (.ops (ao :: l)) fs s Q := by
              intro h
              cases he : aev ao.op s.ρ s.H s.H.length with
              | none => rw [he] at h; exact h.elim
              | some r => rw [he] at h; exact op_simple hg he (ih _ _ _ _ h)
            by_cases hcall : ∃ f xs, ao.op = .call f xs
            · obtain ⟨f, xs, ho⟩ := hcall
              rw [ho] at h
              simp only [stepOp, callee] at h
              split at h
              · rename_i g ys cs hf
                exact op_call hg ho hf h.2 h.1 fun v H' hR => ⟨hR.1, ih _ _ _ _ hR.2⟩
              · exact h
            · by_cases hcm : ∃ tab f xs, ao.op = .callM tab f xs
              · obtain ⟨tab, f, xs, ho⟩ := hcm
                rw [ho] at h
                simp only [stepOp, calleeM] at h
                split at h
                · rename_i t v hf
                  split at h
                  · rename_i g ht
                    exact op_callM hg ho hf ht h.2 h.1 fun _ v H' hR => ⟨hR.1, ih _ _ _ _ hR.2⟩
                  · exact h.elim
                · exact h.elim
              · refine simple ?_
                unfold stepOp at h
                split at h
                · rename_i f xs ho; exact absurd ⟨_, _, ho⟩ hcall
                · rename_i tab f xs ho; exact absurd ⟨_, _, _, ho⟩ hcm
                · exact h
    | out e =>
      cases fs with
      | nil => simpa only [Run, Mean, Fin] using h
      | cons f fs =>
        cases f with
        | seq c =>
          simp only [Run] at h
          cases e with
          | normal => exact ih (.code c) fs s Q h
          | exit j => exact ih (.out (.exit j)) fs s Q h
          | goto j => exact ih (.out (.goto j)) fs s Q h
          | ret => exact ih (.out .ret) fs s Q h
          | panic ch => exact ih (.out (.panic ch)) fs s Q h
          | outgrown => exact ih (.out .outgrown) fs s Q h
        | rnd c =>
          simp only [Run] at h
          cases e with
          | normal => exact h
          | exit j => exact ih (.out (.exit j)) fs s Q h
          | goto j => exact ih (.out (.goto j)) fs s Q h
          | ret => exact ih (.out .ret) fs s Q h
          | panic ch => exact ih (.out (.panic ch)) fs s Q h
          | outgrown => exact ih (.out .outgrown) fs s Q h
        | sgs lo ss =>
          simp only [Run, outSgs] at h
          cases e with
          | normal => exact ih (.segs lo ss) fs s Q h
          | _ => exact h.elim
        | scp =>
          simp only [Run] at h
          cases e with
          | normal => exact ih (.out .normal) fs s Q h
          | exit j => exact ih (.out (.exit j)) fs s Q h
          | goto j => exact h.elim
          | ret => exact ih (.out .ret) fs s Q h
          | panic ch => exact ih (.out (.panic ch)) fs s Q h
          | outgrown => exact ih (.out .outgrown) fs s Q h
        | blk id =>
          simp only [Run] at h
          cases e with
          | normal => exact ih (.out .normal) fs s Q h
          | exit j =>
            show (if j = id then _ else _)
            simp only [outBlk] at h
            split at h <;> rename_i hj
            · rw [if_pos hj]; exact ih (.out .normal) fs s Q h
            · rw [if_neg hj]; exact ih (.out (.exit j)) fs s Q h
          | goto j => exact ih (.out (.goto j)) fs s Q h
          | ret => exact ih (.out .ret) fs s Q h
          | panic ch => exact ih (.out (.panic ch)) fs s Q h
          | outgrown => exact ih (.out .outgrown) fs s Q h
    | segs lo ss =>
      match ss, h with
      | [], h => exact ih (.out .normal) fs s Q (by simpa only [Run] using h)
      | [ao] :: ss, h => exact ih (.ops [ao]) (.sgs (lo + 1) ss :: fs) s Q (by simpa only [Run] using h)
      | [] :: ss, h => exact ih (.grp lo [] [] (lo + ([] : List AOper).length) ss) fs s Q (by simpa only [Run] using h)
      | (a :: b :: grp) :: ss, h => exact ih (.grp lo (a :: b :: grp) [] (lo + (a :: b :: grp).length) ss) fs s Q (by simpa only [Run] using h)
    | grp lo l tr hi ss =>
      cases l with
      | nil => exact ih (.segs hi ss) fs s Q (by simpa only [Run] using h)
      | cons ao l =>
        simp only [Run] at h
        simp only [Mean, AGrp]
        cases hg : gval s.ρ ao.guard with
        | none => rw [hg] at h; exact h.elim
        | some b =>
          rw [hg] at h
          have hk := known_eq hg
          cases b with
          | false =>
            simp only [gdG, hk] at h
            exact ih _ _ _ _ h
          | true =>
            simp only [gdG, hk] at h
            have simple : oweG (Run P G k rd n) (aev ao.op s.ρ s.H s.H.length) ao (adeps ao.op s.ρ) lo l tr hi ss fs s.ρ s.H s.ms Q → (match aev ao.op s.ρ s.H s.H.length with
                | none => False
                | some r => dynOK ao.free (adeps ao.op s.ρ) (r.2.map (·.1)) tr lo = true ∧ AGrp P lo l (tr ++ [(adeps ao.op s.ρ, r.2.map (·.1))]) { s with ρ := setD s.ρ ao.dst r.1, H := s.H.puts r.2 } fun s' => ASegs P G k rd hi ss s' (Fin P G k rd fs Q .normal)) := by
              intro h
              cases he : aev ao.op s.ρ s.H s.H.length with
              | none => rw [he] at h; exact h.elim
              | some r => rw [he] at h; exact ⟨h.1, ih _ _ _ _ h.2⟩
            cases hop : ao.op
            case call f xs =>
              rw [hop] at h
              simp only [stepG, calleeG] at h
              split at h
              · rename_i g ys cs hf
                obtain ⟨c, deps, h1, h2, h3, h4, h5⟩ := h
                exact ⟨g, ys, cs, c, deps, h1, hf, h2, h3, h4, ih _ _ _ _ h5⟩
              · exact h.elim
            case callM tab f xs =>
              rw [hop] at h
              simp only [stepG, calleeGM] at h
              split at h
              · rename_i t v hf
                split at h
                · rename_i g ht
                  obtain ⟨c, deps, h1, h2, h3, h4, h5⟩ := h
                  exact ⟨t, v, g, c, deps, h1, hf, ht, h2, h3, h4, ih _ _ _ _ h5⟩
                · exact h.elim
              · exact h.elim
            all_goals (rw [hop] at h simple; exact simple h)
    | code c =>
      cases c with
      | skip => exact aw_skip (ih (.out .normal) fs s Q (by simpa only [Run] using h))
      | reg l draw =>
        cases draw with
        | false => exact aw_reg (ih (.ops l) fs s Q (by simpa only [Run] using h))
        | true =>
          simp only [Run] at h
          exact aw_reg_segs h.1 h.2.1 (ih (.segs 0 (segs l)) fs s Q h.2.2)
      | seq a b => exact aw_seq (ih (.code a) (.seq b :: fs) s Q (by simpa only [Run] using h))
      | cond c a b =>
        simp only [Run, br] at h
        split at h
        · rename_i ho; exact aw_cond ho (fun _ => ih (.code a) fs s Q h) (fun e => nomatch e)
        · rename_i ho; exact aw_cond ho (fun e => nomatch e) (fun _ => ih (.code b) fs s Q h)
        · exact h.elim
      | block id c => exact aw_block (ih (.code c) (.blk id :: fs) s Q (by simpa only [Run] using h))
      | exit id => exact aw_exit (ih (.out (.exit id)) fs s Q (by simpa only [Run] using h))
      | label l => exact aw_label (ih (.out .normal) fs s Q (by simpa only [Run] using h))
      | goto l => exact aw_goto (ih (.out (.goto l)) fs s Q (by simpa only [Run] using h))
      | loop c => exact aw_loop (by simpa only [Run, Loop] using h)
      | ret => exact aw_ret (ih (.out .ret) fs s Q (by simpa only [Run] using h))
      | scope c => exact aw_scope (ih (.code c) (.scp :: fs) s Q (by simpa only [Run] using h))
      | _ => simpa only [Run] using h

theorem loop_round (n : Nat) {c : ACode} {fs : List Frame} {s : St} {Q : Goal} (h : Run P G k rd n (.code c) (.rnd c :: fs) s Q) : Loop P G k rd c fs s Q := al_round (run_mean n _ _ _ _ h)
theorem loop_less {c : ACode} {fs : List Frame} {s s' : St} {Q : Goal} (hl : Less P G k s s') (h : Loop P G k rd c fs s' Q) : Loop P G k rd c fs s Q := al_less hl h

theorem run_aw (n : Nat) {c : ACode} {s : St} {Q : Goal} (h : Run P G k rd n (.code c) [] s Q) : AW P G k rd c Q s := run_mean n _ _ _ _ h

theorem callR {R : Runner} {g : FuncId} {args : List AVal} {dst : Option Nat} {l : List AOper} {fs : List Frame} {ρ : List AVal} {H : Heap} {ms : List Nat} {Q : Goal} {T : AVal → Heap → Prop} (h : CallOK P G g args H T)
    (hk : k ≤ H.length) (hK : ∀ v H', T v H' → (∀ r ∈ ms, H'[r]? = some (some .dfr)) ∧ R (.ops l) fs ⟨setD ρ dst v, H', ms⟩ Q) : CallR P G k R g args dst l fs ρ H ms Q :=
  ⟨hk, (h.mono hK).weak⟩

theorem dcallR {R : Runner} {g : FuncId} {args : List AVal} {ao : AOper} {lo : Nat} {l : List AOper} {tr : List (List Nat × List Nat)} {hi : Nat} {ss : List (List AOper)} {fs : List Frame} {ρ : List AVal} {H : Heap} {ms : List Nat} {Q : Goal} {c : Oc} {deps : List Nat}
    (h : DCall P g args (H.onlyR deps) c) (hK : (∀ q ∈ ms, q ∉ c.rows) ∧ (∀ r ∈ c.fs, H.length ≤ r ∧ r < (H.puts c.Δ).length) ∧ dynOK ao.free deps (c.Δ.map (·.1)) tr lo = true ∧
    R (.grp lo l (tr ++ [(deps, c.Δ.map (·.1))]) hi ss) fs ⟨setD ρ ao.dst c.v, H.puts c.Δ, ms⟩ Q) : DCallR P R g args ao lo l tr hi ss fs ρ H ms Q :=
  ⟨c, deps, hK.1, h, hK.2.1, hK.2.2.1, hK.2.2.2⟩

section
variable {R : Runner} {ao : AOper} {deps : List Nat} {lo hi : Nat} {l : List AOper} {tr : List (List Nat × List Nat)} {ss : List (List AOper)} {fs : List Frame} {ρ : List AVal} {H : Heap} {ms : List Nat} {Q : Goal}
theorem oweG_some (r : AVal × List (Nat × Row)) : oweG R (some r) ao deps lo l tr hi ss fs ρ H ms Q = (dynOK ao.free deps (r.2.map (·.1)) tr lo = true ∧ R (.grp lo l (tr ++ [(deps, r.2.map (·.1))]) hi ss) fs ⟨setD ρ ao.dst r.1, H.puts r.2, ms⟩ Q) := rfl
theorem oweG_none : oweG R none ao deps lo l tr hi ss fs ρ H ms Q = False := rfl
theorem oweG_if (c : Prop) [Decidable c] (o : Option (AVal × List (Nat × Row))) : oweG R (if c then o else none) ao deps lo l tr hi ss fs ρ H ms Q = (c ∧ oweG R o ao deps lo l tr hi ss fs ρ H ms Q) := by
  by_cases h : c <;> simp [h, oweG]
theorem oweG_if' (c : Prop) [Decidable c] (o : Option (AVal × List (Nat × Row))) : oweG R (if c then none else o) ao deps lo l tr hi ss fs ρ H ms Q = (¬ c ∧ oweG R o ao deps lo l tr hi ss fs ρ H ms Q) := by
  by_cases h : c <;> simp [h, oweG]
theorem oweG_ite (c : Prop) [Decidable c] (o o' : Option (AVal × List (Nat × Row))) : oweG R (if c then o else o') ao deps lo l tr hi ss fs ρ H ms Q = ((c → oweG R o ao deps lo l tr hi ss fs ρ H ms Q) ∧ (¬ c → oweG R o' ao deps lo l tr hi ss fs ρ H ms Q)) := by
  by_cases h : c <;> simp [h]
theorem gdG_true : gdG P R (some true) ao lo l tr hi ss fs ρ H ms Q = stepG P R ao ao.op lo l tr hi ss fs (known ρ true ao.guard) H ms Q := rfl
theorem gdG_false : gdG P R (some false) ao lo l tr hi ss fs ρ H ms Q = R (.grp lo l (tr ++ [([], [])]) hi ss) fs ⟨setD (known ρ false ao.guard) ao.dst (.tup []), H, ms⟩ Q := rfl
theorem gdG_some (b : Bool) : gdG P R (some b) ao lo l tr hi ss fs ρ H ms Q = ((b = true → gdG P R (some true) ao lo l tr hi ss fs ρ H ms Q) ∧ (b = false → gdG P R (some false) ao lo l tr hi ss fs ρ H ms Q)) := by cases b <;> simp
end
variable {R : Runner} {l : List AOper} {fs : List Frame} {ρ : List AVal} {H : Heap} {ms : List Nat} {Q : Goal} {dst : Option Nat}
theorem owe_some (r : AVal × List (Nat × Row)) : owe R (some r) dst l fs ρ H ms Q = R (.ops l) fs ⟨setD ρ dst r.1, H.puts r.2, ms⟩ Q := rfl
theorem owe_none : owe R none dst l fs ρ H ms Q = False := rfl
theorem owe_if (c : Prop) [Decidable c] (o : Option (AVal × List (Nat × Row))) : owe R (if c then o else none) dst l fs ρ H ms Q = (c ∧ owe R o dst l fs ρ H ms Q) := by
  by_cases h : c <;> simp [h, owe]
theorem owe_if' (c : Prop) [Decidable c] (o : Option (AVal × List (Nat × Row))) : owe R (if c then none else o) dst l fs ρ H ms Q = (¬ c ∧ owe R o dst l fs ρ H ms Q) := by
  by_cases h : c <;> simp [h, owe]
theorem owe_ite (c : Prop) [Decidable c] (o o' : Option (AVal × List (Nat × Row))) : owe R (if c then o else o') dst l fs ρ H ms Q = ((c → owe R o dst l fs ρ H ms Q) ∧ (¬ c → owe R o' dst l fs ρ H ms Q)) := by
  by_cases h : c <;> simp [h]
theorem gd_true (o : AOper) : gd P G k rd R (some true) o l fs ρ H ms Q = stepOp P G k rd R o o.op l fs (known ρ true o.guard) H ms Q := rfl
theorem gd_false (o : AOper) : gd P G k rd R (some false) o l fs ρ H ms Q = R (.ops l) fs ⟨setD (known ρ false o.guard) o.dst (.tup []), H, ms⟩ Q := rfl
theorem gd_some (b : Bool) (o : AOper) : gd P G k rd R (some b) o l fs ρ H ms Q = ((b = true → gd P G k rd R (some true) o l fs ρ H ms Q) ∧ (b = false → gd P G k rd R (some false) o l fs ρ H ms Q)) := by cases b <;> simp
theorem br_true (x y : ACode) (s : St) : br R (.bool true) x y fs s Q = R (.code x) fs s Q := rfl
theorem br_false (x y : ACode) (s : St) : br R (.bool false) x y fs s Q = R (.code y) fs s Q := rfl
theorem br_some (b : Bool) (x y : ACode) (s : St) : br R (.bool b) x y fs s Q = ((b = true → R (.code x) fs s Q) ∧ (b = false → R (.code y) fs s Q)) := by cases b <;> simp [br]
end

@[simp] theorem Heap.puts_nil (H : Heap) : H.puts [] = H := rfl
@[simp] theorem Heap.puts_cons (H : Heap) (r : Nat) (x : Row) (l : List (Nat × Row)) : H.puts ((r, x) :: l) = (H.put r x).puts l := rfl
@[simp] theorem Heap.put_end' (H : Heap) (x : Row) : Heap.put H (List.length H) x = H ++ [some x] := Heap.put_end H x
end Go.Sx
/- What is said of a function: its answer, and the rows that it leaves. -/
namespace Go.Sx
open Go

def Ans (P : Program) (g : FuncId) (args : List AVal) (LH : Heap) (r : AVal) (LH' : Heap) : Prop := Fn P g args LH fun v H' => v = r ∧ ∃ X, H' = LH' ++ X

def Bels (S : Nat → Prop) : List AVal → Prop
  | [] => True
  | v :: vs => Bel S v ∧ Bels S vs

theorem bels_iff {S : Nat → Prop} : ∀ l : List AVal, Bels S l ↔ ∀ i, i < l.length → Bel S (l.getD i .any)
  | [] => by simp [Bels]
  | v :: vs => by
    simp only [Bels, bels_iff vs]
    constructor
    · rintro ⟨h1, h2⟩ i hi
      cases i with
      | zero => exact h1
      | succ i => simpa using h2 i (by simpa using hi)
    · intro h
      exact ⟨by simpa using h 0 (by simp), fun i hi => by simpa using h (i + 1) (by simpa using hi)⟩

theorem bels_mem {S : Nat → Prop} {l : List AVal} (h : Bels S l) : ∀ v ∈ l, Bel S v := by
  intro v hv
  rw [List.mem_iff_getElem] at hv
  obtain ⟨i, hi, rfl⟩ := hv
  have := (bels_iff l).1 h i hi
  rwa [List.getD_eq_getElem?_getD, List.getElem?_eq_getElem hi] at this

theorem bels_of {S : Nat → Prop} {l : List AVal} (h : ∀ v ∈ l, Bel S v) : Bels S l := by
  rw [bels_iff]
  intro i hi
  rw [List.getD_eq_getElem?_getD, List.getElem?_eq_getElem hi]
  exact h _ (List.getElem_mem hi)

theorem bel_of_cells {S : Nat → Prop} {v : AVal} (h : ∀ j, j < (acells v).length → Bel S ((acells v).getD j .any)) : Bel S v := by
  by_cases hv : ∃ cs, v = .agg cs
  · obtain ⟨cs, rfl⟩ := hv; exact .agg cs h
  · rw [acells_one hv] at h; simpa using h 0 (by simp)

theorem bel_agg {S : Nat → Prop} (cs : List AVal) : Bel S (.agg cs) = Bels S cs := propext ⟨fun h => by cases h with | agg _ hv => exact (bels_iff cs).2 hv, fun h => .agg cs ((bels_iff cs).1 h)⟩
theorem bel_tup {S : Nat → Prop} (cs : List AVal) : Bel S (.tup cs) = Bels S cs := propext ⟨fun h => by cases h with | tup _ hv => exact (bels_iff cs).2 hv, fun h => .tup cs ((bels_iff cs).1 h)⟩
theorem bel_view {S : Nat → Prop} (es : List AVal) : Bel S (.view es) = Bels S es := propext ⟨fun h => by
    cases h with | view _ hv => exact (bels_iff es).2 fun i hi => bel_of_cells fun j hj => hv i j hi hj,
  fun h => .view es fun i j hi hj => Bel.cells ((bels_iff es).1 h i hi) j hj⟩
theorem bel_rptr {S : Nat → Prop} (e : AVal) (o : Nat) : Bel S (.rptr e o) = Bel S e := propext ⟨fun h => by cases h with | rptr _ _ hv => exact bel_of_cells hv, fun h => .rptr e o (Bel.cells h)⟩
theorem bel_fn {S : Nat → Prop} (f : Go.Fn) (a b : List AVal) : Bel S (.fn f a b) = (Bels S a ∧ Bels S b) := propext ⟨fun h => by cases h with | fn _ _ _ va vb => exact ⟨(bels_iff a).2 va, (bels_iff b).2 vb⟩, fun h => .fn f a b ((bels_iff a).1 h.1) ((bels_iff b).1 h.2)⟩
theorem bel_iface {S : Nat → Prop} (t : TypeId) (v : AVal) : Bel S (.iface t v) = Bel S v := propext ⟨fun h => by cases h with | iface _ _ h => exact h, fun h => .iface t v h⟩
theorem bel_ptr {S : Nat → Prop} (r i o L : Nat) : Bel S (.ptr r i o L) = S r := propext ⟨fun h => by cases h with | ptr _ _ _ _ h => exact h, fun h => .ptr r i o L h⟩
theorem bel_sl {S : Nat → Prop} (r o l : Nat) : Bel S (.sl r o l) = S r := propext ⟨fun h => by cases h with | sl _ _ _ h => exact h, fun h => .sl r o l h⟩
theorem bel_yfn {S : Nat → Prop} (r : Nat) : Bel S (.yfn r) = S r := propext ⟨fun h => by cases h with | yfn _ h => exact h, fun h => .yfn r h⟩
theorem bels_map {α : Type} {S : Nat → Prop} (f : α → AVal) (l : List α) (h : ∀ a, Bel S (f a)) : Bels S (l.map f) := bels_of fun v hv => by
  obtain ⟨a, _, rfl⟩ := List.mem_map.1 hv; exact h a
theorem bels_ints {S : Nat → Prop} (k : IntKind) (l : List Int) : Bels S (l.map (.int k)) = True := eq_true (bels_map _ _ fun _ => .int _ _)
theorem bels_bools {S : Nat → Prop} (l : List Bool) : Bels S (l.map .bool) = True := eq_true (bels_map _ _ fun _ => .bool _)
theorem bels_app {S : Nat → Prop} (a b : List AVal) : Bels S (a ++ b) = (Bels S a ∧ Bels S b) := propext ⟨fun h => ⟨bels_of fun v hv => bels_mem h v (List.mem_append_left _ hv), bels_of fun v hv => bels_mem h v (List.mem_append_right _ hv)⟩,
  fun h => bels_of fun v hv => (List.mem_append.1 hv).elim (bels_mem h.1 v) (bels_mem h.2 v)⟩

def Full (S : Nat → Prop) : Heap → Prop
  | [] => True
  | some x :: H => x.bel S ∧ Full S H
  | none :: _ => False

theorem row_bel_cells {S : Nat → Prop} (g : Bool) (sz : Nat) (es : List AVal) : (Row.cells g sz es).bel S = Bels S es := propext ⟨fun h => (bels_iff es).2 fun i hi => bel_of_cells fun j hj => h i j hi hj, fun h i j hi hj => Bel.cells ((bels_iff es).1 h i hi) j hj⟩

theorem Full.get {S : Nat → Prop} : ∀ {H : Heap}, Full S H → ∀ i, i < H.length → ∃ x, H[i]? = some (some x) ∧ x.bel S
  | [], _, i, hi => by simp at hi
  | some x :: H, h, i, hi => by
    cases i with
    | zero => exact ⟨x, rfl, h.1⟩
    | succ i => simpa using Full.get h.2 i (by simpa using hi)
  | none :: H, h, i, hi => h.elim

def rowsOK (H : Heap) (f : Nat → Nat) : List Nat → Heap → Prop
  | [], [] => True
  | r :: ι, some x :: L => H[r]? = some (some (x.ren f)) ∧ rowsOK H f ι L
  | _, _ => False

theorem rowsOK.get {H : Heap} {f : Nat → Nat} : ∀ {ι : List Nat} {L : Heap}, rowsOK H f ι L → L.length = ι.length ∧ ∀ (i : Nat) x, L[i]? = some (some x) → H[nth ι i]? = some (some (x.ren f))
  | [], [], _ => ⟨rfl, fun i x hx => by simp at hx⟩
  | r :: ι, some x :: L, h => by
    obtain ⟨h1, h2⟩ := rowsOK.get h.2
    refine ⟨by simp [h1], fun i y hy => ?_⟩
    cases i with
    | zero => simp at hy; subst hy; exact h.1
    | succ i => simpa [nth] using h2 i y (by simpa using hy)
  | [], _ :: _, h => h.elim
  | _ :: _, [], h => h.elim
  | _ :: _, none :: _, h => h.elim

def outσ (ι : List Nat) (N : Nat) (i : Nat) : Nat := if i < ι.length then nth ι i else N + (i - ι.length)

def outΔ (σ : Nat → Nat) : Nat → Heap → List (Nat × Row)
  | _, [] => []
  | i, some x :: L => (σ i, x.ren σ) :: outΔ σ (i + 1) L
  | i, none :: L => outΔ σ (i + 1) L

theorem outΔ_mem {σ : Nat → Nat} : ∀ {L : Heap} {i r : Nat} {x : Row}, (r, x) ∈ outΔ σ i L → ∃ j y, L[j]? = some (some y) ∧ r = σ (i + j) ∧ x = y.ren σ
  | [], _, _, _, h => by simp [outΔ] at h
  | some y :: L, i, r, x, h => by
    simp only [outΔ, List.mem_cons, Prod.mk.injEq] at h
    rcases h with ⟨rfl, rfl⟩ | h
    · exact ⟨0, y, rfl, rfl, rfl⟩
    · obtain ⟨j, z, h1, h2, h3⟩ := outΔ_mem h
      exact ⟨j + 1, z, by simpa using h1, by rw [h2]; congr 1; omega, h3⟩
  | none :: L, i, r, x, h => by
    obtain ⟨j, z, h1, h2, h3⟩ := outΔ_mem (L := L) h
    exact ⟨j + 1, z, by simpa using h1, by rw [h2]; congr 1; omega, h3⟩

theorem outΔ_in {σ : Nat → Nat} : ∀ {L : Heap} {i j : Nat} {y : Row}, L[j]? = some (some y) → (σ (i + j), y.ren σ) ∈ outΔ σ i L
  | [], _, j, _, h => by simp at h
  | some x :: L, i, j, y, h => by
    cases j with
    | zero => simp at h; subst h; simp [outΔ]
    | succ j =>
      have := outΔ_in (σ := σ) (L := L) (i := i + 1) (j := j) (by simpa using h)
      rw [show i + 1 + j = i + (j + 1) by omega] at this
      simp [outΔ, this]
  | none :: L, i, j, y, h => by
    cases j with
    | zero => simp at h
    | succ j =>
      have := outΔ_in (σ := σ) (L := L) (i := i + 1) (j := j) (by simpa using h)
      rw [show i + 1 + j = i + (j + 1) by omega] at this
      simpa [outΔ] using this

def newNames (N : Nat) : Nat → List Nat
  | 0 => []
  | m + 1 => newNames N m ++ [N + m]

theorem mem_newNames {N : Nat} : ∀ {m r : Nat}, r ∈ newNames N m ↔ N ≤ r ∧ r < N + m
  | 0, r => by simp only [newNames, List.not_mem_nil, false_iff]; omega
  | m + 1, r => by
    rw [newNames, List.mem_append, mem_newNames, List.mem_singleton]; omega

theorem ren_same {f : Nat → Nat} {v : AVal} (h : Bel (fun _ => False) v) : ren f v = v := by
  have cells : ∀ e : AVal, (∀ j, j < (acells e).length → ren f ((acells e).getD j .any) = (acells e).getD j .any) → ren f e = e := by
    intro e he
    by_cases hv : ∃ cs, e = .agg cs
    · obtain ⟨cs, rfl⟩ := hv
      simp only [ren, acells] at he ⊢
      congr 1
      refine list_ext_getD (by simp [rens_len]) fun i hi => ?_
      rw [rens_getD]
      exact he i (by simpa [rens_len] using hi)
    · rw [acells_one hv] at he
      simpa using he 0 (by simp)
  induction h with
  | any => rfl
  | bool b => rfl
  | int q n => rfl
  | str l => rfl
  | ptr r i off L hr => exact hr.elim
  | rptr e off _ ih => simp only [ren]; rw [cells e ih]
  | nilptr => rfl
  | sl r off len hr => exact hr.elim
  | view es _ ih =>
    simp only [ren]
    congr 1
    refine list_ext_getD (by simp [rens_len]) fun i hi => ?_
    rw [rens_getD]
    exact cells _ (ih i · (by simpa [rens_len] using hi))
  | nilsl => rfl
  | fn f' a b _ _ iha ihb =>
    simp only [ren]
    congr 1
    · exact list_ext_getD (by simp [rens_len]) fun i hi => by rw [rens_getD]; exact iha i (by simpa [rens_len] using hi)
    · exact list_ext_getD (by simp [rens_len]) fun i hi => by rw [rens_getD]; exact ihb i (by simpa [rens_len] using hi)
  | yfn r hr => exact hr.elim
  | nilfn => rfl
  | iface t v _ ih => simp only [ren, ih]
  | niliface => rfl
  | agg cs _ ih =>
    simp only [ren]
    congr 1
    exact list_ext_getD (by simp [rens_len]) fun i hi => by rw [rens_getD]; exact ih i (by simpa [rens_len] using hi)
  | tup cs _ ih =>
    simp only [ren]
    congr 1
    exact list_ext_getD (by simp [rens_len]) fun i hi => by rw [rens_getD]; exact ih i (by simpa [rens_len] using hi)
  | mp r hr => exact hr.elim
  | nilmap => rfl

section
variable {P : Program} {G : Ctx} {g : FuncId} {largs args : List AVal} {LH LH' H : Heap} {r : AVal}

theorem Ans.dcall (h : Ans P g largs LH r LH') (ι : List Nat) (hn : ι.Nodup) (hrows : rowsOK H (nth ι) ι LH) (hargs : args = largs.map (ren (nth ι))) (hb : Bels (· < ι.length) largs) (hf : Full (· < ι.length) LH)
    (hlen : ι.length ≤ LH'.length) (hr : Bel (· < LH'.length) r) (hf' : Full (· < LH'.length) LH') (hlt : ∀ q ∈ ι, q < H.length) :
    DCall P g args (H.onlyR ι) ⟨ren (outσ ι H.length) r, outΔ (outσ ι H.length) 0 LH', newNames H.length (LH'.length - ι.length)⟩ := by
  obtain ⟨hl, hget⟩ := hrows.get
  have hσ0 : ∀ i, i < ι.length → outσ ι H.length i = nth ι i := fun i hi => by simp [outσ, hi]
  have hσ1 : ∀ i, ¬ i < ι.length → outσ ι H.length i = H.length + (i - ι.length) := fun i hi => by simp [outσ, hi]
  have hmem : ∀ i, i < ι.length → nth ι i ∈ ι := fun i hi => by
    have : nth ι i = ι[i] := by simp [nth, hi]
    rw [this]; exact List.getElem_mem hi
  refine ⟨(h ⟨fun _ => False, fun _ => False, default⟩).1, fun G H' μ cargs w hsub hfree hlc hv hH => ?_⟩
  refine (call_local (R' := fun v H'' => v = ren (outσ ι H.length) r ∧ H'' = H'.puts (outΔ (outσ ι H.length) 0 LH')) (Fr := fun _ q => q ∈ newNames H.length (LH'.length - ι.length)) h hn hl (fun i hi => by
    obtain ⟨x, hx, _⟩ := hf.get i (by omega); exact ⟨x, hx⟩) hargs (bels_mem hb) (fun i x hx => ⟨hsub _ _ ((onlyR_get _ _ _ _).2 ⟨hmem i (by rw [← hl]; exact (List.getElem?_eq_some_iff.1 hx).1), hget i x hx⟩), by
      obtain ⟨y, hy, hb⟩ := hf.get i (List.getElem?_eq_some_iff.1 hx).1
      rw [hx] at hy; cases hy; exact hb⟩) ?_ hlc hv hH (fun _ q hq => hfree q hq)).mono ?_
  · rintro v _ ⟨rfl, X, rfl⟩
    refine ⟨outσ ι H.length, (· < LH'.length), _, ⟨fun i hi => ⟨by omega, hσ0 i hi⟩, fun i hi => ?_, fun i j hi hj hij => ?_, hr, fun q x hq => ?_⟩, rfl, rfl⟩
    · by_cases hlt : i < ι.length
      · exact .inl hlt
      · right; rw [hσ1 i hlt, mem_newNames]; omega
    · by_cases h1 : i < ι.length <;> by_cases h2 : j < ι.length
      · rw [hσ0 i h1, hσ0 j h2] at hij; exact nth_inj hn h1 h2 hij
      · rw [hσ0 i h1, hσ1 j h2] at hij
        have := hlt _ (hmem i h1); omega
      · rw [hσ1 i h1, hσ0 j h2] at hij
        have := hlt _ (hmem j h2); omega
      · rw [hσ1 i h1, hσ1 j h2] at hij; omega
    · rcases puts_get _ H' q x hq with h1 | ⟨h1, h2⟩
      · obtain ⟨j, y, e1, e2, e3⟩ := outΔ_mem h1
        have hj := (List.getElem?_eq_some_iff.1 e1).1
        obtain ⟨y', hy', hb'⟩ := hf'.get j hj
        rw [e1] at hy'; cases hy'
        refine .inl ⟨j, y, hj, by rw [e2]; congr 1; omega, ?_, e3, hb'⟩
        rw [List.getElem?_append_left hj]; exact e1
      · refine .inr ⟨fun i hi hiq => h1 ?_, h2⟩
        obtain ⟨y, hy, _⟩ := hf'.get i hi
        rw [List.mem_map]
        exact ⟨(q, y.ren (outσ ι H.length)), by have := outΔ_in (σ := outσ ι H.length) (i := 0) hy; rw [Nat.zero_add, hiq] at this; exact this, rfl⟩
  · rintro e w' ⟨v', cv, μ', H'', rfl, ⟨rfl, rfl⟩, h1, h2, h3, h4⟩
    refine ⟨cv, μ', rfl, h1, h2, h3, fun q hq => (h4 q hq).imp id fun hq => ⟨hq, Heap.puts_lt ?_⟩⟩
    rw [mem_newNames] at hq
    have hj : ι.length + (q - H.length) < LH'.length := by omega
    obtain ⟨y, hy, _⟩ := hf'.get _ hj
    rw [List.mem_map]
    refine ⟨(q, y.ren (outσ ι H.length)), ?_, rfl⟩
    have := outΔ_in (σ := outσ ι H.length) (i := 0) hy
    rw [Nat.zero_add, hσ1 _ (by omega), show H.length + (ι.length + (q - H.length) - ι.length) = q by omega] at this
    exact this

theorem DCall.callOK {c : Oc} (h : DCall P g args H c) (hfs : ∀ r ∈ c.fs, H.length ≤ r) : CallOK P G g args H fun v H' => v = c.v ∧ H' = H.puts c.Δ := by
  refine ⟨h.1, fun μ cargs w h1 h2 h3 h4 => (h.2 G H μ cargs w (fun _ _ h => h) (fun r hr => ?_) h1 h2 h3).mono ?_⟩
  · cases hq : μ r with
    | none => rfl
    | some p => have := h4 r (by rw [hq]; rfl); have := hfs r hr; omega
  · rintro e w' ⟨cv, μ', rfl, k1, k2, k3, k4⟩
    refine ⟨c.v, cv, μ', _, rfl, ⟨rfl, rfl⟩, k1, k2, fun r hr => ?_, Mu.leB_of k3, fun r hr hn => ?_⟩
    · rcases k4 r hr with h | h
      · have := h4 r h; have := Heap.le_puts c.Δ H; omega
      · exact h.2
    · cases hq : μ' r with
      | none => rfl
      | some p =>
        rcases k4 r (by rw [hq]; rfl) with h | h
        · rw [hn] at h; cases h
        · have := hfs r h.1; omega

theorem Ans.dpure (h : Ans P g args [] r []) (hb : Bels (fun _ => False) args) (hr : Bel (fun _ => False) r) : DCall P g args [] ⟨r, [], []⟩ := by
  have e : ∀ v : AVal, Bel (fun _ => False) v → ∀ f, ren f v = v := fun v hv f => ren_same hv
  have := h.dcall (H := []) (args := args) [] List.nodup_nil trivial (by
    symm
    conv => rhs; rw [← List.map_id args]
    exact List.map_congr_left fun v hv => e v (bels_mem hb v hv) _) (by simpa using hb) trivial (Nat.le_refl _) (by simpa using hr) trivial (fun q hq => by simp at hq)
  have e0 : Heap.onlyR [] [] = [] := rfl
  rw [e0] at this
  simpa [outΔ, newNames, e r hr] using this

def NVs : List AVal → Prop
  | [] => True
  | v :: vs => NV v ∧ NVs vs

theorem nvs_iff : ∀ l : List AVal, NVs l ↔ ∀ i, i < l.length → NV (l.getD i .any)
  | [] => by simp [NVs]
  | v :: vs => by
    simp only [NVs, nvs_iff vs]
    constructor
    · rintro ⟨h1, h2⟩ i hi
      cases i with
      | zero => exact h1
      | succ i => simpa using h2 i (by simpa using hi)
    · intro h
      exact ⟨by simpa using h 0 (by simp), fun i hi => by simpa using h (i + 1) (by simpa using hi)⟩

theorem NV.cells {v : AVal} (h : NV v) : ∀ j, j < (acells v).length → NV ((acells v).getD j .any) := by
  intro j hj
  by_cases hv : ∃ cs, v = .agg cs
  · obtain ⟨cs, rfl⟩ := hv
    cases h with | agg _ hv => exact hv j hj
  · rw [acells_one hv] at hj ⊢
    simp only [List.length_singleton] at hj
    obtain rfl : j = 0 := by omega
    exact h

theorem nv_agg (cs : List AVal) : NV (.agg cs) = NVs cs := propext ⟨fun h => by cases h with | agg _ hv => exact (nvs_iff cs).2 hv, fun h => .agg cs ((nvs_iff cs).1 h)⟩
theorem nv_tup (cs : List AVal) : NV (.tup cs) = NVs cs := propext ⟨fun h => by cases h with | tup _ hv => exact (nvs_iff cs).2 hv, fun h => .tup cs ((nvs_iff cs).1 h)⟩
theorem nvs_of {l : List AVal} (h : ∀ v ∈ l, NV v) : NVs l := by
  rw [nvs_iff]
  intro i hi
  rw [List.getD_eq_getElem?_getD, List.getElem?_eq_getElem hi]
  exact h _ (List.getElem_mem hi)
theorem nvs_map {α : Type} (f : α → AVal) (l : List α) (h : ∀ a, NV (f a)) : NVs (l.map f) := nvs_of fun v hv => by
  obtain ⟨a, _, rfl⟩ := List.mem_map.1 hv; exact h a
theorem nvs_ints (k : IntKind) (l : List Int) : NVs (l.map (.int k)) = True := eq_true (nvs_map _ _ fun _ => .int _ _)
theorem row_nv_cells (g : Bool) (sz : Nat) {es : List AVal} (h : NVs es) : (Row.cells g sz es).nv := fun i _ hi hj => NV.cells ((nvs_iff es).1 h i hi) _ hj

def FullNV : Heap → Prop
  | [] => True
  | some x :: H => x.nv ∧ FullNV H
  | none :: _ => False

theorem FullNV.get : ∀ {H : Heap}, FullNV H → ∀ (i : Nat) x, H[i]? = some (some x) → x.nv
  | [], _, i, x, hi => by simp at hi
  | some y :: H, h, i, x, hx => by
    cases i with
    | zero => simp at hx; subst hx; exact h.1
    | succ i => exact FullNV.get h.2 i x (by simpa using hx)
  | none :: H, h, i, x, hi => h.elim

theorem Ans.dfrz (h : Ans P g largs [] r LH') (d : Nat) (deps : List Nat) (hargs : args.map (frz d (H.onlyR deps)) = largs) (hr : Bel (· < LH'.length) r) (hnv : NV r) (hf' : Full (· < LH'.length) LH') (hn' : FullNV LH') :
    DCall P g args (H.onlyR deps) ⟨ren (outσ [] H.length) r, outΔ (outσ [] H.length) 0 LH', newNames H.length LH'.length⟩ := by
  subst hargs
  have hσ : ∀ i, outσ [] H.length i = H.length + i := fun i => by simp [outσ]
  refine ⟨(h ⟨fun _ => False, fun _ => False, default⟩).1, fun G H' μ cargs w hsub hfree hlc hv hH => ?_⟩
  refine (call_frz (R' := fun v H'' => v = ren (outσ [] H.length) r ∧ H'' = H'.puts (outΔ (outσ [] H.length) 0 LH')) (Fr := fun _ q => q ∈ newNames H.length LH'.length) hsub h ?_ hlc hv hH (fun _ q hq => hfree q hq)).mono ?_
  · rintro v _ ⟨rfl, X, rfl⟩
    refine ⟨outσ [] H.length, (· < LH'.length), _, ⟨fun i hi => ?_, fun i j hi hj hij => ?_, hr, hnv, fun q x hq => ?_⟩, rfl, rfl⟩
    · rw [hσ, mem_newNames]; omega
    · rw [hσ, hσ] at hij; omega
    · rcases puts_get _ H' q x hq with h1 | ⟨h1, h2⟩
      · obtain ⟨j, y, e1, e2, e3⟩ := outΔ_mem h1
        have hj := (List.getElem?_eq_some_iff.1 e1).1
        obtain ⟨y', hy', hb'⟩ := hf'.get j hj
        rw [e1] at hy'; cases hy'
        refine .inl ⟨j, y, hj, by rw [e2]; congr 1; omega, ?_, e3, hb', hn'.get j y e1⟩
        rw [List.getElem?_append_left hj]; exact e1
      · refine .inr ⟨fun i hi hiq => h1 ?_, h2⟩
        obtain ⟨y, hy, _⟩ := hf'.get i hi
        rw [List.mem_map]
        exact ⟨(q, y.ren (outσ [] H.length)), by have := outΔ_in (σ := outσ [] H.length) (i := 0) hy; rw [Nat.zero_add, hiq] at this; exact this, rfl⟩
  · rintro e w' ⟨v', cv, μ', H'', rfl, ⟨rfl, rfl⟩, h1, h2, h3, h4⟩
    refine ⟨cv, μ', rfl, h1, h2, h3, fun q hq => (h4 q hq).imp id fun hq => ⟨hq, Heap.puts_lt ?_⟩⟩
    rw [mem_newNames] at hq
    have hj : q - H.length < LH'.length := by omega
    obtain ⟨y, hy, _⟩ := hf'.get _ hj
    rw [List.mem_map]
    refine ⟨(q, y.ren (outσ [] H.length)), ?_, rfl⟩
    have := outΔ_in (σ := outσ [] H.length) (i := 0) hy
    rw [Nat.zero_add, hσ, show H.length + (q - H.length) = q by omega] at this
    exact this

variable {k : Nat} {rd : Option Nat} {R : Runner} {l : List AOper} {fs : List Frame} {ρ : List AVal} {ms : List Nat} {Q : Goal} {dst : Option Nat} {ao : AOper} {lo hi : Nat} {tr : List (List Nat × List Nat)} {ss : List (List AOper)}

theorem callP (h : Ans P g args [] r []) (hb : Bels (fun _ => False) args) (hr : Bel (fun _ => False) r) (hk : k ≤ H.length) (hms : ∀ q ∈ ms, H[q]? = some (some .dfr)) (hK : R (.ops l) fs ⟨setD ρ dst r, H, ms⟩ Q) : CallR P G k R g args dst l fs ρ H ms Q :=
  callR (((h.dpure hb hr).sub (H' := H) (fun q x hx => by simp at hx)).callOK (fun q hq => by simp at hq)) hk (by
    rintro v H' ⟨rfl, rfl⟩
    exact ⟨hms, hK⟩)

theorem dcallP (h : Ans P g args [] r []) (hb : Bels (fun _ => False) args) (hr : Bel (fun _ => False) r) (hd : dynOK ao.free [] [] tr lo = true) (hK : R (.grp lo l (tr ++ [([], [])]) hi ss) fs ⟨setD ρ ao.dst r, H, ms⟩ Q) : DCallR P R g args ao lo l tr hi ss fs ρ H ms Q :=
  dcallR (deps := []) ((h.dpure hb hr).sub (fun q x hx => by simp at hx)) ⟨fun q _ => by simp [Oc.rows], fun q hq => by simp at hq, hd, hK⟩

theorem marks_kept {Δ : List (Nat × Row)} (hms : ∀ q ∈ ms, q ∉ Δ.map (·.1) ∧ H[q]? = some (some .dfr)) : ∀ q ∈ ms, (H.puts Δ)[q]? = some (some .dfr) := fun q hq => (Same.off Δ (hms q hq).1 _).2 (hms q hq).2

theorem callS (h : Ans P g largs LH r LH') (ι : List Nat) (hn : ι.Nodup) (hrows : rowsOK H (nth ι) ι LH) (hargs : args = largs.map (ren (nth ι))) (hb : Bels (· < ι.length) largs) (hf : Full (· < ι.length) LH)
    (hlen : ι.length ≤ LH'.length) (hr : Bel (· < LH'.length) r) (hf' : Full (· < LH'.length) LH') (hlt : ∀ q ∈ ι, q < H.length) (hk : k ≤ H.length) (hms : ∀ q ∈ ms, q ∉ (outΔ (outσ ι H.length) 0 LH').map (·.1) ∧ H[q]? = some (some .dfr))
    (hK : R (.ops l) fs ⟨setD ρ dst (ren (outσ ι H.length) r), H.puts (outΔ (outσ ι H.length) 0 LH'), ms⟩ Q) : CallR P G k R g args dst l fs ρ H ms Q :=
  callR (((h.dcall ι hn hrows hargs hb hf hlen hr hf' hlt).sub (onlyR_sub _ _)).callOK (fun q hq => (mem_newNames.1 hq).1)) hk (by
    rintro v H' ⟨rfl, rfl⟩
    exact ⟨marks_kept hms, hK⟩)

theorem callF (h : Ans P g largs [] r LH') (d : Nat) (hargs : args.map (frz d H) = largs) (hr : Bel (· < LH'.length) r) (hnv : NV r) (hf' : Full (· < LH'.length) LH') (hn' : FullNV LH') (hk : k ≤ H.length)
    (hms : ∀ q ∈ ms, q ∉ (outΔ (outσ [] H.length) 0 LH').map (·.1) ∧ H[q]? = some (some .dfr)) (hK : R (.ops l) fs ⟨setD ρ dst (ren (outσ [] H.length) r), H.puts (outΔ (outσ [] H.length) 0 LH'), ms⟩ Q) : CallR P G k R g args dst l fs ρ H ms Q := by
  have e : H.onlyR (List.range H.length) = H := by
    apply List.ext_getElem?
    intro i
    unfold Heap.onlyR
    rw [List.getElem?_map, List.getElem?_zipIdx]
    cases hi : H[i]? with
    | none => rfl
    | some x => simp [(List.getElem?_eq_some_iff.1 hi).1]
  have hd := h.dfrz (H := H) (args := args) d (List.range H.length) (by rw [e]; exact hargs) hr hnv hf' hn'
  exact callR ((hd.sub (onlyR_sub _ _)).callOK (fun q hq => (mem_newNames.1 hq).1)) hk (by
    rintro v H' ⟨rfl, rfl⟩
    exact ⟨marks_kept hms, hK⟩)
end

def EntryOK (P : Program) (f : Nat) (af : AFun) : Prop := ∃ fn, P.funcs[f]? = some fn ∧ cfun P fn = af ∧ (fn.name != "runtime.NumGoroutine" && fn.body.isSome) = true

theorem spec_run {P : Program} {f : Nat} {af : AFun} {args : List AVal} {H H' : Heap} {r : AVal} (e : EntryOK P f af)
    (h : ∀ G, Run P G H.length none 3000 (.code af.body) [] ⟨args ++ List.replicate (af.ntmps - args.length) .any, H, []⟩ (RetPost af.res fun v H'' => v = r ∧ ∃ X, H'' = H' ++ X)) : Ans P f args H r H' := fun G => by
  obtain ⟨fn, h1, h2, h3⟩ := e
  exact call_of_afun h1 h2 h3 (run_aw 3000 (h G))

theorem spec_ex {P : Program} (hm : P.follows .mixedOrders = true) {tab : Nat → Option AFun} (hT : ∀ g af, tab g = some af → EntryOK P g af) {m n g : Nat} {args : List AVal} {H H' : Heap} {r : AVal} (h : exFn tab m n g args H = some (r, H')) : Ans P g args H r H' :=
  (exFn_sound hm (fun g af h => by
    have h2 : EntryOK P g af := hT g af h
    obtain ⟨fn, h3, h4, h5⟩ := h2
    exact ⟨fn, h3, h4, h5⟩) n g args H r H' h).mono fun v H'' hv => ⟨hv.1, [], by rw [hv.2]; simp⟩
end Go.Sx
