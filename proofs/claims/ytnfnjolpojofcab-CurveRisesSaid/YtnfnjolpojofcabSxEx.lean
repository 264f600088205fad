/- Code, reckoned by data alone. -/
import Derived.Test.YtnfnjolpojofcabSxCall
namespace Go.Sx
open Go

inductive Tk where
  | code (c : ACode)
  | ops (l : List AOper)
  | segs (lo : Nat) (ss : List (List AOper))
  | grp (lo : Nat) (l : List AOper) (tr : List (List Nat × List Nat)) (hi : Nat) (ss : List (List AOper))

abbrev Caller := FuncId → List AVal → Heap → Option (AVal × Heap)
abbrev Walker := Option Nat → Tk → St → Option (Exit × St)

def isDfr (H : Heap) (q : Nat) : Bool :=
  match H[q]? with
  | some (some .dfr) => true
  | _ => false

/-- A round, at its end. -/
def exEnd (r : Nat) (x : Exit × St) : Option (AVal × Heap) :=
  match x.2.H[r]? with
  | some (some (.loop ρ ps asg body d _ _)) =>
    match x.1 with
    | .normal => some (.bool true, x.2.H.put r (.loop ρ ps asg body d .ready none))
    | .ret => some (.bool false, x.2.H.put r (.loop ρ ps asg body d .done (some .ret)))
    | .exit id => some (.bool false, x.2.H.put r (.loop ρ ps asg body d .done (some (.exit id))))
    | .goto t => some (.bool false, x.2.H.put r (.loop ρ ps asg body d .done (some (.goto t))))
    | _ => none
  | _ => none

def exMid (w : Walker) (r : Nat) (body : ACode) (x : Exit × St) : Option (AVal × Heap) :=
  match x.1 with
  | .normal => match x.2.H[r]? with
    | some (some (.loop ρ ps asg body' d .ready pend)) => (w (some r) (.code body) ⟨x.2.ρ, x.2.H.put r (.loop ρ ps asg body' d .busy pend), x.2.ms⟩).bind (exEnd r)
    | _ => none
  | _ => none

def exRound (w : Walker) (r : Nat) (xs : List AVal) (H : Heap) : Option (AVal × Heap) :=
  match H[r]? with
  | some (some (.loop ρ ps asg body _ .ready _)) => if xs.length = ps.length then (w (some r) (.code asg) ⟨psets ρ ps xs, H, []⟩).bind (exMid w r body) else none
  | _ => none

def exLoc (call : Caller) (g : FuncId) (args : List AVal) (H : Heap) (ms : List Nat) : Option (List Nat × Oc) :=
  match callLoc call g args H (reach H 10000 (rowsVs args) []) with
  | some c => if (ms.all fun q => !c.rows.contains q) = true then some (reach H 10000 (rowsVs args) [], c) else none
  | none => none

/-- A call. -/
def exCallOp (call : Caller) (w : Walker) (f : AVal) (xs : List AVal) (s : St) : Option (AVal × Heap) :=
  match f with
  | .fn (.func g) ys cs => (exLoc call g (ys ++ xs ++ cs) s.H s.ms).map fun p => (p.2.v, s.H.puts p.2.Δ)
  | .yfn r => (exRound w r xs s.H).bind fun p => if s.ms.all (isDfr p.2) = true then some p else none
  | _ => none

/-- One operation. -/
def exOp (call : Caller) (w : Walker) (o : AOp) (s : St) : Option (AVal × Heap) :=
  match o with
  | .call f xs => exCallOp call w (opd s.ρ f) (xs.map (opd s.ρ)) s
  | op => (aev op s.ρ s.H s.H.length).map fun r => (r.1, s.H.puts r.2)

/-- One operation of a part: what it looks at, and its outcome. -/
def exOpG (call : Caller) (o : AOp) (s : St) : Option (List Nat × Oc) :=
  match o with
  | .call f xs => match opd s.ρ f with
    | .fn (.func g) ys cs => exLoc call g (ys ++ xs.map (opd s.ρ) ++ cs) s.H s.ms
    | _ => none
  | op => (aev op s.ρ s.H s.H.length).map fun r => (adeps op s.ρ, ⟨r.1, r.2, []⟩)

def exRngEnd (w : Walker) (rd : Option Nat) (l : Nat) (ρ : List AVal) (ms : List Nat) (H' : Heap) : Option (Exit × St) :=
  if ms.all (isDfr H') = true then
    match H'[l]? with
    | some (some (.loop _ _ _ _ _ st pend)) =>
      if st = .busy then none else
      match pend with
      | none => some (.normal, ⟨ρ, H'.set l none, ms⟩)
      | some c => w rd (.code c) ⟨ρ, H'.set l none, ms⟩
    | _ => none
  else none

def exRng (call : Caller) (w : Walker) (rd : Option Nat) (g : AVal) (ps : List Nat) (asg body : ACode) (s : St) : Option (Exit × St) :=
  match g with
  | .fn (.func f) fs cs =>
    match rd with
    | none => (exLoc call f (fs ++ [.yfn (s.H.length + 1)] ++ cs) (s.H ++ [some Row.dfr] ++ [some (Row.loop s.ρ ps asg body s.H.length .ready none)]) []).bind fun p =>
        exRngEnd w none (s.H.length + 1) s.ρ (s.H.length :: s.ms) ((s.H ++ [some Row.dfr] ++ [some (Row.loop s.ρ ps asg body s.H.length .ready none)]).puts p.2.Δ)
    | some r₀ => match s.H[r₀]? with
      | some (some (.loop _ _ _ _ d₀ _ _)) => (exLoc call f (fs ++ [.yfn s.H.length] ++ cs) (s.H ++ [some (Row.loop s.ρ ps asg body d₀ .ready none)]) []).bind fun p =>
          exRngEnd w (some r₀) s.H.length s.ρ s.ms ((s.H ++ [some (Row.loop s.ρ ps asg body d₀ .ready none)]).puts p.2.Δ)
      | _ => none
  | _ => none

def exSeq (w : Walker) (rd : Option Nat) (b : ACode) (x : Exit × St) : Option (Exit × St) :=
  match x.1 with
  | .normal => w rd (.code b) x.2
  | _ => some x

def exBlk (id : Nat) (x : Exit × St) : Exit × St :=
  match x.1 with
  | .exit j => if j = id then (.normal, x.2) else x
  | _ => x

def exCond (w : Walker) (rd : Option Nat) (v : AVal) (a b : ACode) (s : St) : Option (Exit × St) :=
  match v with
  | .bool true => w rd (.code a) s
  | .bool false => w rd (.code b) s
  | _ => none

def ex (call : Caller) : Nat → Walker
  | 0, _, _, _ => none
  | n + 1, rd, .code c, s =>
    match c with
    | .skip => some (.normal, s)
    | .reg l draw => if draw = true then (if statOK l = true then ex call n rd (.segs 0 (segs l)) s else none) else ex call n rd (.ops l) s
    | .seq a b => (ex call n rd (.code a) s).bind (exSeq (ex call n) rd b)
    | .cond c a b => exCond (ex call n) rd (opd s.ρ c) a b s
    | .block id c => (ex call n rd (.code c) s).map (exBlk id)
    | .loop c => (ex call n rd (.code c) s).bind (exSeq (ex call n) rd (.loop c))
    | .rng g ps asg body => exRng call (ex call n) rd (opd s.ρ g) ps asg body s
    | .exit id => some (.exit id, s)
    | .label _ => some (.normal, s)
    | .goto l => some (.goto l, s)
    | .ret => some (.ret, s)
    | _ => none
  | n + 1, rd, .ops l, s =>
    match l with
    | [] => some (.normal, s)
    | ao :: l =>
      match gval s.ρ ao.guard with
      | none => none
      | some b => if b = true then (exOp call (ex call n) ao.op s).bind fun r => ex call n rd (.ops l) ⟨setD s.ρ ao.dst r.1, r.2, s.ms⟩
        else ex call n rd (.ops l) ⟨setD s.ρ ao.dst (.tup []), s.H, s.ms⟩
  | n + 1, rd, .segs lo ss, s =>
    match ss with
    | [] => some (.normal, s)
    | grp :: ss => match grp with
      | [ao] =>
        match gval s.ρ ao.guard with
        | none => none
        | some b => if b = true then (exOp call (ex call n) ao.op s).bind fun r => ex call n rd (.segs (lo + 1) ss) ⟨setD s.ρ ao.dst r.1, r.2, s.ms⟩
          else ex call n rd (.segs (lo + 1) ss) ⟨setD s.ρ ao.dst (.tup []), s.H, s.ms⟩
      | grp => ex call n rd (.grp lo grp [] (lo + grp.length) ss) s
  | n + 1, rd, .grp lo l tr hi ss, s =>
    match l with
    | [] => ex call n rd (.segs hi ss) s
    | ao :: l =>
      match gval s.ρ ao.guard with
      | none => none
      | some b => if b = true then (exOpG call ao.op s).bind fun p =>
            if dynOK ao.free p.1 (p.2.Δ.map (·.1)) tr lo = true then ex call n rd (.grp lo l (tr ++ [(p.1, p.2.Δ.map (·.1))]) hi ss) ⟨setD s.ρ ao.dst p.2.v, s.H.puts p.2.Δ, s.ms⟩ else none
        else ex call n rd (.grp lo l (tr ++ [([], [])]) hi ss) ⟨setD s.ρ ao.dst (.tup []), s.H, s.ms⟩

def retOf (res : List ARes) (x : Exit × St) : Option (AVal × Heap) :=
  if nodupB x.2.ms = true then
    match x.1 with
    | .normal | .ret => (resOf res { x.2 with H := freed x.2.H x.2.ms }).map fun v => (v, freed x.2.H x.2.ms)
    | _ => none
  else none

/-- A function. -/
def exFn (tab : Nat → Option AFun) (m : Nat) : Nat → Caller
  | 0, _, _, _ => none
  | n + 1, g, args, H =>
    match tab g with
    | none => none
    | some af => (ex (exFn tab m n) m none (.code af.body) ⟨args ++ List.replicate (af.ntmps - args.length) .any, H, []⟩).bind (retOf af.res)

/-! ### It is right -/

def CallerOK (P : Program) (call : Caller) : Prop := ∀ g args H v H', call g args H = some (v, H') → Fn P g args H fun v' H'' => v' = v ∧ H'' = H'

/-- What an answer says. -/
def Does (P : Program) (G : Ctx) (k : Nat) (rd : Option Nat) (s : St) (e : Exit) (s' : St) : Tk → Prop
  | .code c => AW P G k rd c (fun e1 s1 => e1 = e ∧ s1 = s') s ∧ ∀ c', c = .loop c' → AL P G k rd c' (fun e1 s1 => e1 = e ∧ s1 = s') s
  | .ops l => e = .normal ∧ Areg P G k rd l s (· = s')
  | .segs lo ss => e = .normal ∧ ASegs P G k rd lo ss s (· = s')
  | .grp lo l tr hi ss => e = .normal ∧ AGrp P lo l tr s fun s1 => ASegs P G k rd hi ss s1 (· = s')

def WalkerOK (P : Program) (w : Walker) : Prop := ∀ rd t s e s', w rd t s = some (e, s') → s.H.length ≤ s'.H.length ∧ ∀ G k, k ≤ s.H.length → Does P G k rd s e s' t

section
variable {P : Program} {call : Caller} {w : Walker}

theorem areg_mono {G : Ctx} {k : Nat} {rd : Option Nat} {K K' : St → Prop} (hK : ∀ s, K s → K' s) : ∀ (l : List AOper) (s : St), Areg P G k rd l s K → Areg P G k rd l s K'
  | [], s, h => hK s h
  | ao :: l, s, h => OpA.mono (fun s' hs' => areg_mono hK l s' hs') h

theorem asegs_mono {G : Ctx} {k : Nat} {rd : Option Nat} {K K' : St → Prop} (hK : ∀ s, K s → K' s) : ∀ (lo : Nat) (ss : List (List AOper)) (s : St), ASegs P G k rd lo ss s K → ASegs P G k rd lo ss s K'
  | lo, [], s, h => hK s h
  | lo, [] :: ss, s, h => asegs_mono hK lo ss s h
  | lo, [ao] :: ss, s, h => OpA.mono (fun s' hs' => asegs_mono hK (lo + 1) ss s' hs') h
  | lo, (a :: b :: grp) :: ss, s, h => AGrp.mono (fun s' hs' => asegs_mono hK _ ss s' hs') _ _ _ h

theorem isDfr_spec {H : Heap} {q : Nat} (h : isDfr H q = true) : H[q]? = some (some .dfr) := by
  unfold isDfr at h
  split at h
  · assumption
  · cases h

theorem DCall.callW {G : Ctx} {g : FuncId} {args : List AVal} {H : Heap} {c : Oc} (h : DCall P g args H c) (hfs : ∀ r ∈ c.fs, H.length ≤ r) : CallW P G g args H fun v H' => v = c.v ∧ H' = H.puts c.Δ := by
  refine ⟨h.1, fun μ cargs w h1 h2 h3 h4 => (h.2 G H μ cargs w (fun _ _ h => h) (fun r hr => ?_) h1 h2 h3).mono ?_⟩
  · cases hq : μ r with
    | none => rfl
    | some p => have := h4 r (by rw [hq]; rfl); have := hfs r hr; omega
  · rintro e w' ⟨cv, μ', rfl, k1, k2, k3, k4⟩
    refine ⟨c.v, cv, μ', _, rfl, ⟨rfl, rfl⟩, k1, k2, fun r hr => ?_, Mu.leB_of k3⟩
    rcases k4 r hr with h | h
    · have := h4 r h; have := Heap.le_puts c.Δ H; omega
    · exact h.2

theorem exLoc_sound (hcall : CallerOK P call) {g : FuncId} {args : List AVal} {H : Heap} {ms deps : List Nat} {c : Oc} (h : exLoc call g args H ms = some (deps, c)) :
    DCall P g args (H.onlyR deps) c ∧ (∀ r ∈ c.fs, H.length ≤ r ∧ r < (H.puts c.Δ).length) ∧ ∀ q ∈ ms, q ∉ c.rows := by
  unfold exLoc at h
  split at h
  · rename_i c' hc
    split at h
    · rename_i hm
      cases h
      obtain ⟨h1, h2⟩ := callLoc_sound hcall hc
      refine ⟨h1, h2, fun q hq => ?_⟩
      have := List.all_eq_true.1 hm q hq
      simpa using this
    · cases h
  · cases h

theorem onlyR_sub (H : Heap) (l : List Nat) : (H.onlyR l).sub H := fun r x h => ((onlyR_get H l r x).1 h).2

theorem exRound_sound (hw : WalkerOK P w) {G : Ctx} {k : Nat} {rd : Option Nat} {s : St} {ao : AOper} {f : AOpd} {xs : List AOpd} {r : Nat} {v : AVal} {H' : Heap} (hg : gval s.ρ ao.guard = some true) (ho : ao.op = .call f xs) (hf : opd s.ρ f = .yfn r)
    (h : exRound w r (xs.map (opd s.ρ)) s.H = some (v, H')) (hk : k ≤ s.H.length) (hms : s.ms.all (isDfr H') = true) : s.H.length ≤ H'.length ∧ ∀ K : St → Prop, K ⟨setD s.ρ ao.dst v, H', s.ms⟩ → OpA P G k rd ao s K := by
  unfold exRound at h
  split at h
  · rename_i ρr ps asg body d pend hr
    split at h
    · rename_i hn
      rw [Option.bind_eq_some_iff] at h
      obtain ⟨⟨e1, s1⟩, h1, h2⟩ := h
      obtain ⟨hl1, hd1⟩ := hw _ _ _ _ _ h1
      unfold exMid at h2
      simp only at h2
      split at h2
      · split at h2
        · rename_i ρ1 ps1 asg1 body1 d1 pend1 hr1
          rw [Option.bind_eq_some_iff] at h2
          obtain ⟨⟨e2, s2⟩, h3, h4⟩ := h2
          obtain ⟨hl2, hd2⟩ := hw _ _ _ _ _ h3
          have hlen : s.H.length ≤ (s1.H.put r (.loop ρ1 ps1 asg1 body1 d1 .busy pend1)).length := by rw [Heap.len_put]; simp only at hl1; omega
          have hend : RoundEnd r (fun v' H'' => v' = v ∧ H'' = H') e2 s2 ∧ s2.H.length ≤ H'.length := by
            unfold exEnd at h4
            simp only at h4
            split at h4
            · rename_i ρ2 ps2 asg2 body2 d2 st2 pend2 hr2
              have hput : ∀ x, s2.H.length ≤ (s2.H.put r x).length := fun x => by rw [Heap.len_put]; omega
              split at h4 <;> first
                | (cases h4; done)
                | (simp only [Option.some.injEq, Prod.mk.injEq] at h4
                   obtain ⟨rfl, rfl⟩ := h4
                   exact ⟨⟨ρ2, ps2, asg2, body2, d2, st2, pend2, hr2, rfl, rfl⟩, hput _⟩)
            · cases h4
          refine ⟨by simp only at hl1 hl2; omega, fun K hK => ?_⟩
          refine op_round hg ho hf hr (by simpa using hn) (R := fun v' H'' => v' = v ∧ H'' = H') ?_ hk ?_
          · refine (hd1 G s.H.length (by simp)).1.mono ?_
            rintro _ _ ⟨rfl, rfl⟩
            refine ⟨rfl, ρ1, ps1, asg1, body1, d1, pend1, hr1, ?_⟩
            refine (hd2 G s.H.length hlen).1.mono ?_
            rintro _ _ ⟨rfl, rfl⟩
            exact hend.1
          · rintro v' H'' ⟨rfl, rfl⟩
            exact ⟨fun q hq => isDfr_spec (List.all_eq_true.1 hms q hq), hK⟩
        · cases h2
      · cases h2
    · cases h
  · cases h

theorem exOp_sound (hcall : CallerOK P call) (hw : WalkerOK P w) {G : Ctx} {k : Nat} {rd : Option Nat} {s : St} {ao : AOper} {v : AVal} {H' : Heap} (hg : gval s.ρ ao.guard = some true) (h : exOp call w ao.op s = some (v, H')) (hk : k ≤ s.H.length) :
    s.H.length ≤ H'.length ∧ ∀ K : St → Prop, K ⟨setD s.ρ ao.dst v, H', s.ms⟩ → OpA P G k rd ao s K := by
  have simple : (aev ao.op s.ρ s.H s.H.length).map (fun r => (r.1, s.H.puts r.2)) = some (v, H') → s.H.length ≤ H'.length ∧ ∀ K : St → Prop, K ⟨setD s.ρ ao.dst v, H', s.ms⟩ → OpA P G k rd ao s K := by
    intro h
    rw [Option.map_eq_some_iff] at h
    obtain ⟨⟨v', Δ⟩, h1, h2⟩ := h
    simp only [Prod.mk.injEq] at h2
    obtain ⟨rfl, rfl⟩ := h2
    exact ⟨Heap.le_puts _ _, fun K hK => op_simple hg h1 hK⟩
  cases hop : ao.op
  case call f xs =>
    rw [hop] at h
    simp only [exOp, exCallOp] at h
    split at h
    · rename_i g ys cs hf
      rw [Option.map_eq_some_iff] at h
      obtain ⟨⟨deps, c⟩, h1, h2⟩ := h
      simp only [Prod.mk.injEq] at h2
      obtain ⟨rfl, rfl⟩ := h2
      obtain ⟨k1, k2, k3⟩ := exLoc_sound hcall h1
      exact ⟨Heap.le_puts _ _, fun K hK => op_dc hg k3 hop hf (k1.sub (onlyR_sub _ _)) (fun r hr => (k2 r hr).1) hK⟩
    · rename_i r hf
      rw [Option.bind_eq_some_iff] at h
      obtain ⟨⟨v', H''⟩, h1, h2⟩ := h
      split at h2
      · rename_i hm
        cases h2
        exact exRound_sound hw hg hop hf h1 hk hm
      · cases h2
    · cases h
  all_goals (rw [hop] at h simple; exact simple h)

theorem ex_sound (hm : P.follows .mixedOrders = true) (hcall : CallerOK P call) : ∀ n, WalkerOK P (ex call n) := by
  intro n
  induction n with
  | zero => intro rd t s e s' h; simp [ex] at h
  | succ n ih =>
    intro rd t s e s' h
    cases t with
    | ops l =>
      simp only [ex] at h
      cases l with
      | nil => simp only [Option.some.injEq, Prod.mk.injEq] at h; obtain ⟨rfl, rfl⟩ := h; exact ⟨Nat.le_refl _, fun G k _ => ⟨rfl, rfl⟩⟩
      | cons ao l =>
        simp only at h
        cases hg : gval s.ρ ao.guard with
        | none => rw [hg] at h; cases h
        | some b =>
          rw [hg] at h
          cases b with
          | false =>
            simp only [Bool.false_eq_true, if_false] at h
            obtain ⟨h1, h2⟩ := ih _ _ _ _ _ h
            exact ⟨h1, fun G k hk => ⟨(h2 G k hk).1, op_skip hg (h2 G k hk).2⟩⟩
          | true =>
            simp only [if_true] at h
            rw [Option.bind_eq_some_iff] at h
            obtain ⟨⟨v, H'⟩, h1, h2⟩ := h
            obtain ⟨h3, h4⟩ := ih _ _ _ _ _ h2
            have hl := (exOp_sound (G := ⟨fun _ => False, fun _ => False, default⟩) (rd := rd) hcall ih hg h1 (Nat.le_refl _)).1
            simp only at h3
            refine ⟨by omega, fun G k hk => ?_⟩
            have h5 := h4 G k (by simp only; omega)
            exact ⟨h5.1, (exOp_sound hcall ih hg h1 hk).2 _ h5.2⟩
    | segs lo ss =>
      simp only [ex] at h
      cases ss with
      | nil => simp only [Option.some.injEq, Prod.mk.injEq] at h; obtain ⟨rfl, rfl⟩ := h; exact ⟨Nat.le_refl _, fun G k _ => ⟨rfl, rfl⟩⟩
      | cons grp ss =>
        simp only at h
        match grp, h with
        | [], h =>
          obtain ⟨h1, h2⟩ := ih _ _ _ _ _ h
          exact ⟨h1, fun G k hk => h2 G k hk⟩
        | [ao], h =>
          simp only at h
          cases hg : gval s.ρ ao.guard with
          | none => rw [hg] at h; cases h
          | some b =>
            rw [hg] at h
            cases b with
            | false =>
              simp only [Bool.false_eq_true, if_false] at h
              obtain ⟨h1, h2⟩ := ih _ _ _ _ _ h
              exact ⟨h1, fun G k hk => ⟨(h2 G k hk).1, op_skip hg (h2 G k hk).2⟩⟩
            | true =>
              simp only [if_true] at h
              rw [Option.bind_eq_some_iff] at h
              obtain ⟨⟨v, H'⟩, h1, h2⟩ := h
              obtain ⟨h3, h4⟩ := ih _ _ _ _ _ h2
              have hl := (exOp_sound (G := ⟨fun _ => False, fun _ => False, default⟩) (rd := rd) hcall ih hg h1 (Nat.le_refl _)).1
              simp only at h3
              refine ⟨by omega, fun G k hk => ?_⟩
              have h5 := h4 G k (by simp only; omega)
              exact ⟨h5.1, (exOp_sound hcall ih hg h1 hk).2 _ h5.2⟩
        | a :: b :: grp, h =>
          obtain ⟨h1, h2⟩ := ih _ _ _ _ _ h
          exact ⟨h1, fun G k hk => h2 G k hk⟩
    | grp lo l tr hi ss =>
      simp only [ex] at h
      cases l with
      | nil =>
        obtain ⟨h1, h2⟩ := ih _ _ _ _ _ h
        exact ⟨h1, fun G k hk => h2 G k hk⟩
      | cons ao l =>
        simp only at h
        cases hg : gval s.ρ ao.guard with
        | none => rw [hg] at h; cases h
        | some b =>
          rw [hg] at h
          cases b with
          | false =>
            simp only [Bool.false_eq_true, if_false] at h
            obtain ⟨h1, h2⟩ := ih _ _ _ _ _ h
            refine ⟨h1, fun G k hk => ⟨(h2 G k hk).1, ?_⟩⟩
            simp only [AGrp, hg]
            exact (h2 G k hk).2
          | true =>
            simp only [if_true] at h
            rw [Option.bind_eq_some_iff] at h
            obtain ⟨⟨deps, c⟩, h1, h2⟩ := h
            simp only at h2
            split at h2
            case isFalse => cases h2
            rename_i hdyn
            obtain ⟨h3, h4⟩ := ih _ _ _ _ _ h2
            have hle := Heap.le_puts c.Δ s.H
            simp only at h3
            refine ⟨by omega, fun G k hk => ?_⟩
            have h5 := h4 G k (by simp only; omega)
            refine ⟨h5.1, ?_⟩
            have hlast := h5.2
            have simple : (aev ao.op s.ρ s.H s.H.length).map (fun r => (adeps ao.op s.ρ, (⟨r.1, r.2, []⟩ : Oc))) = some (deps, c) → (match aev ao.op s.ρ s.H s.H.length with
                | none => False
                | some r => dynOK ao.free (adeps ao.op s.ρ) (r.2.map (·.1)) tr lo = true ∧ AGrp P lo l (tr ++ [(adeps ao.op s.ρ, r.2.map (·.1))]) { s with ρ := setD s.ρ ao.dst r.1, H := s.H.puts r.2 } fun s1 => ASegs P G k rd hi ss s1 (· = s')) := by
              intro h1
              rw [Option.map_eq_some_iff] at h1
              obtain ⟨⟨v', Δ⟩, q1, q2⟩ := h1
              simp only [Prod.mk.injEq] at q2
              obtain ⟨rfl, rfl⟩ := q2
              rw [q1]
              exact ⟨hdyn, hlast⟩
            simp only [AGrp, hg]
            cases hop : ao.op
            case call f xs =>
              rw [hop] at h1
              simp only [exOpG] at h1
              split at h1
              · rename_i g ys cs hf
                obtain ⟨k1, k2, k3⟩ := exLoc_sound hcall h1
                exact ⟨g, ys, cs, c, deps, k3, hf, k1, k2, hdyn, hlast⟩
              · cases h1
            all_goals (rw [hop] at h1 simple; exact simple h1)
    | code c =>
      have noloop : ∀ {G : Ctx} {k : Nat}, (∀ c', c ≠ .loop c') → AW P G k rd c (fun e1 s1 => e1 = e ∧ s1 = s') s → Does P G k rd s e s' (.code c) := fun hn ha => ⟨ha, fun c' hc => absurd hc (hn c')⟩
      cases c with
      | skip => simp only [ex, Option.some.injEq, Prod.mk.injEq] at h; obtain ⟨rfl, rfl⟩ := h; exact ⟨Nat.le_refl _, fun G k _ => noloop (fun _ h => nomatch h) (aw_skip ⟨rfl, rfl⟩)⟩
      | exit id => simp only [ex, Option.some.injEq, Prod.mk.injEq] at h; obtain ⟨rfl, rfl⟩ := h; exact ⟨Nat.le_refl _, fun G k _ => noloop (fun _ h => nomatch h) (aw_exit ⟨rfl, rfl⟩)⟩
      | label l => simp only [ex, Option.some.injEq, Prod.mk.injEq] at h; obtain ⟨rfl, rfl⟩ := h; exact ⟨Nat.le_refl _, fun G k _ => noloop (fun _ h => nomatch h) (aw_label ⟨rfl, rfl⟩)⟩
      | goto l => simp only [ex, Option.some.injEq, Prod.mk.injEq] at h; obtain ⟨rfl, rfl⟩ := h; exact ⟨Nat.le_refl _, fun G k _ => noloop (fun _ h => nomatch h) (aw_goto ⟨rfl, rfl⟩)⟩
      | ret => simp only [ex, Option.some.injEq, Prod.mk.injEq] at h; obtain ⟨rfl, rfl⟩ := h; exact ⟨Nat.le_refl _, fun G k _ => noloop (fun _ h => nomatch h) (aw_ret ⟨rfl, rfl⟩)⟩
      | scope c => simp [ex] at h
      | bad => simp [ex] at h
      | reg l draw =>
        simp only [ex] at h
        cases draw with
        | false =>
          simp only [Bool.false_eq_true, if_false] at h
          obtain ⟨h1, h2⟩ := ih _ _ _ _ _ h
          refine ⟨h1, fun G k hk => noloop (fun _ h => nomatch h) (aw_reg ?_)⟩
          obtain ⟨rfl, h3⟩ := h2 G k hk
          exact areg_mono (fun s1 hs1 => ⟨rfl, hs1⟩) _ _ h3
        | true =>
          simp only [if_true] at h
          split at h
          case isFalse => cases h
          rename_i hst
          obtain ⟨h1, h2⟩ := ih _ _ _ _ _ h
          refine ⟨h1, fun G k hk => noloop (fun _ h => nomatch h) (aw_reg_segs hm hst ?_)⟩
          obtain ⟨rfl, h3⟩ := h2 G k hk
          exact asegs_mono (fun s1 hs1 => ⟨rfl, hs1⟩) _ _ _ h3
      | seq a b =>
        simp only [ex] at h
        rw [Option.bind_eq_some_iff] at h
        obtain ⟨⟨e1, s1⟩, h1, h2⟩ := h
        obtain ⟨k1, k2⟩ := ih _ _ _ _ _ h1
        by_cases he : e1 = .normal
        · subst he
          simp only [exSeq] at h2
          obtain ⟨k3, k4⟩ := ih _ _ _ _ _ h2
          refine ⟨by omega, fun G k hk => noloop (fun _ h => nomatch h) (aw_seq ((k2 G k hk).1.mono ?_))⟩
          rintro _ _ ⟨rfl, rfl⟩
          exact (k4 G k (by omega)).1
        · have : exSeq (ex call n) rd b (e1, s1) = some (e1, s1) := by cases e1 <;> first | exact absurd rfl he | rfl
          rw [this] at h2; cases h2
          refine ⟨k1, fun G k hk => noloop (fun _ h => nomatch h) (aw_seq ((k2 G k hk).1.mono ?_))⟩
          rintro e₁ _ ⟨rfl, rfl⟩
          cases e₁ <;> first | exact absurd rfl he | exact ⟨rfl, rfl⟩
      | cond c a b =>
        simp only [ex, exCond] at h
        split at h
        · rename_i hc
          obtain ⟨k1, k2⟩ := ih _ _ _ _ _ h
          exact ⟨k1, fun G k hk => noloop (fun _ h => nomatch h) (aw_cond hc (fun _ => (k2 G k hk).1) fun h => nomatch h)⟩
        · rename_i hc
          obtain ⟨k1, k2⟩ := ih _ _ _ _ _ h
          exact ⟨k1, fun G k hk => noloop (fun _ h => nomatch h) (aw_cond hc (fun h => nomatch h) fun _ => (k2 G k hk).1)⟩
        · cases h
      | block id c =>
        simp only [ex] at h
        rw [Option.map_eq_some_iff] at h
        obtain ⟨⟨e1, s1⟩, h1, h2⟩ := h
        obtain ⟨k1, k2⟩ := ih _ _ _ _ _ h1
        have hs : s1 = s' := by
          have := congrArg Prod.snd h2
          unfold exBlk at this
          repeat' split at this
          all_goals exact this
        subst hs
        refine ⟨k1, fun G k hk => noloop (fun _ h => nomatch h) (aw_block ((k2 G k hk).1.mono ?_))⟩
        rintro e₁ _ ⟨rfl, rfl⟩
        have he := congrArg Prod.fst h2
        cases e₁ <;> simp only [exBlk] at he <;> first
          | exact ⟨he, rfl⟩
          | skip
        rename_i j
        show (if j = id then _ else _)
        split at he
        · rename_i hj; rw [if_pos hj]; exact ⟨he, rfl⟩
        · rename_i hj; rw [if_neg hj]; exact ⟨he, rfl⟩
      | loop c =>
        simp only [ex] at h
        rw [Option.bind_eq_some_iff] at h
        obtain ⟨⟨e1, s1⟩, h1, h2⟩ := h
        obtain ⟨k1, k2⟩ := ih _ _ _ _ _ h1
        by_cases he : e1 = .normal
        · subst he
          simp only [exSeq] at h2
          obtain ⟨k3, k4⟩ := ih _ _ _ _ _ h2
          have hal : ∀ G k, k ≤ s.H.length → AL P G k rd c (fun e1 s1 => e1 = e ∧ s1 = s') s := fun G k hk => al_round ((k2 G k hk).1.mono (by
            rintro _ _ ⟨rfl, rfl⟩
            exact (k4 G k (by omega)).2 c rfl))
          exact ⟨by omega, fun G k hk => ⟨aw_loop (hal G k hk), fun c' hc => by cases hc; exact hal G k hk⟩⟩
        · have : exSeq (ex call n) rd (.loop c) (e1, s1) = some (e1, s1) := by cases e1 <;> first | exact absurd rfl he | rfl
          rw [this] at h2; cases h2
          have hal : ∀ G k, k ≤ s.H.length → AL P G k rd c (fun e₁ s₁ => e₁ = e ∧ s₁ = s') s := fun G k hk => al_round ((k2 G k hk).1.mono (by
            rintro e₁ _ ⟨rfl, rfl⟩
            cases e₁ <;> first | exact absurd rfl he | exact ⟨rfl, rfl⟩))
          exact ⟨k1, fun G k hk => ⟨aw_loop (hal G k hk), fun c' hc => by cases hc; exact hal G k hk⟩⟩
      | rng g ps asg body =>
        simp only [ex, exRng] at h
        have fin : ∀ (rd : Option Nat) (l : Nat) (ms : List Nat) (H' : Heap), s.H.length ≤ H'.length → exRngEnd (ex call n) rd l s.ρ ms H' = some (e, s') →
            s.H.length ≤ s'.H.length ∧ ∀ G k, k ≤ s.H.length → RngEnd P G k rd l s.ρ ms (fun e1 s1 => e1 = e ∧ s1 = s') H' := by
          intro rd l ms H' hl h
          unfold exRngEnd at h
          split at h
          case isFalse => cases h
          rename_i hms
          split at h
          case h_2 => cases h
          rename_i ρ' ps' asg' body' d' st pend hrow
          split at h
          case isTrue => cases h
          rename_i hst
          cases pend with
          | none =>
            simp only [Option.some.injEq, Prod.mk.injEq] at h
            obtain ⟨rfl, rfl⟩ := h
            exact ⟨by simpa using hl, fun G k hk => ⟨fun q hq => isDfr_spec (List.all_eq_true.1 hms q hq), ρ', ps', asg', body', d', st, none, hrow, hst, rfl, rfl⟩⟩
          | some c =>
            simp only at h
            obtain ⟨k1, k2⟩ := ih _ _ _ _ _ h
            simp only [List.length_set] at k1
            exact ⟨by omega, fun G k hk => ⟨fun q hq => isDfr_spec (List.all_eq_true.1 hms q hq), ρ', ps', asg', body', d', st, some c, hrow, hst, (k2 G k (by simp only [List.length_set]; omega)).1⟩⟩
        split at h
        · rename_i f fs cs hf
          cases rd with
          | none =>
            simp only at h
            rw [Option.bind_eq_some_iff] at h
            obtain ⟨⟨deps, c⟩, h1, h2⟩ := h
            obtain ⟨k1, k2, _⟩ := exLoc_sound hcall h1
            have hle := Heap.le_puts c.Δ (s.H ++ [some .dfr] ++ [some (.loop s.ρ ps asg body s.H.length .ready none)])
            simp only [List.length_append, List.length_singleton] at hle
            obtain ⟨k3, k4⟩ := fin none _ _ _ (by simp only; omega) h2
            refine ⟨k3, fun G k hk => noloop (fun _ h => nomatch h) (aw_rng_outer hf ((k1.sub (onlyR_sub _ _)).callW fun r hr => (k2 r hr).1) hk ?_)⟩
            rintro v H' ⟨rfl, rfl⟩
            exact k4 G k hk
          | some r₀ =>
            simp only at h
            split at h
            · rename_i ρ₀ ps₀ asg₀ body₀ d₀ st₀ pend₀ h₀
              rw [Option.bind_eq_some_iff] at h
              obtain ⟨⟨deps, c⟩, h1, h2⟩ := h
              obtain ⟨k1, k2, _⟩ := exLoc_sound hcall h1
              have hle := Heap.le_puts c.Δ (s.H ++ [some (.loop s.ρ ps asg body d₀ .ready none)])
              simp only [List.length_append, List.length_singleton] at hle
              obtain ⟨k3, k4⟩ := fin (some r₀) _ _ _ (by simp only; omega) h2
              refine ⟨k3, fun G k hk => noloop (fun _ h => nomatch h) (aw_rng_inner h₀ hf ((k1.sub (onlyR_sub _ _)).callW fun r hr => (k2 r hr).1) hk ?_)⟩
              rintro v H' ⟨rfl, rfl⟩
              exact k4 G k hk
            · cases h
        · cases h

theorem exFn_sound (hm : P.follows .mixedOrders = true) {tab : Nat → Option AFun} {m : Nat} (hT : ∀ g af, tab g = some af → ∃ fn, P.funcs[g]? = some fn ∧ cfun P fn = af ∧ (fn.name != "runtime.NumGoroutine" && fn.body.isSome) = true) :
    ∀ n, CallerOK P (exFn tab m n) := by
  intro n
  induction n with
  | zero => intro g args H v H' h; simp [exFn] at h
  | succ n ih =>
    intro g args H v H' h G
    simp only [exFn] at h
    cases ht : tab g with
    | none => rw [ht] at h; cases h
    | some af =>
      rw [ht] at h
      simp only at h
      rw [Option.bind_eq_some_iff] at h
      obtain ⟨⟨e, s'⟩, h1, h2⟩ := h
      obtain ⟨fn, f1, f2, f3⟩ := hT g af ht
      refine call_of_afun f1 f2 f3 (((ex_sound hm ih m _ _ _ _ _ h1).2 G H.length (Nat.le_refl _)).1.mono ?_)
      rintro _ _ ⟨rfl, rfl⟩
      unfold retOf at h2
      split at h2
      case isFalse => cases h2
      rename_i hnd
      have hnd := nodupB_spec hnd
      simp only at h2
      split at h2
      case h_3 => cases h2
      all_goals
        rename_i he
        rw [Option.map_eq_some_iff] at h2
        obtain ⟨v', h3, h4⟩ := h2
        simp only [Prod.mk.injEq] at h4
        obtain ⟨rfl, rfl⟩ := h4
        exact ⟨by simp, hnd, v', h3, rfl, rfl⟩
end
end Go.Sx
