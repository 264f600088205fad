/- Straight pieces of code, reckoned at once; calls that leave the rows as they were. -/
import Derived.Test.YtnfnjolpojofcabSxFun
namespace Go.Sx
open Go

section
variable {P : Program} {G : Ctx} {k : Nat} {rd : Option Nat} {Q : Exit → St → Prop} {s : St}

/-- The operations up to the next call. -/
def evalTo : List AOper → List AVal → Heap → Option (List AOper × List AVal × Heap)
  | [], ρ, H => some ([], ρ, H)
  | ao :: l, ρ, H =>
    match gval ρ ao.guard with
    | some false => evalTo l (setD ρ ao.dst (.tup [])) H
    | some true =>
      match ao.op with
      | .call f xs => some (ao :: l, ρ, H)
      | op => match aev op ρ H H.length with
        | some (v, Δ) => evalTo l (setD ρ ao.dst v) (H.puts Δ)
        | none => none
    | none => none

theorem areg_ev {ops rest : List AOper} {ρ ρ' : List AVal} {H H' : Heap} {ms : List Nat} {K : St → Prop} (h : evalTo ops ρ H = some (rest, ρ', H')) (hK : Areg P G k rd rest ⟨ρ', H', ms⟩ K) : Areg P G k rd ops ⟨ρ, H, ms⟩ K := by
  induction ops generalizing ρ H with
  | nil => simp only [evalTo, Option.some.injEq, Prod.mk.injEq] at h; obtain ⟨rfl, rfl, rfl⟩ := h; exact hK
  | cons ao l ih =>
    unfold evalTo at h
    split at h
    · rename_i hg; exact op_skip hg (ih h)
    · rename_i hg
      split at h
      · simp only [Option.some.injEq, Prod.mk.injEq] at h; obtain ⟨rfl, rfl, rfl⟩ := h; exact hK
      · split at h
        · rename_i v Δ he; exact op_simple hg he (ih h)
        · cases h
    · cases h

theorem areg_nil {K : St → Prop} (h : K s) : Areg P G k rd [] s K := h
theorem areg_cons {ao : AOper} {l : List AOper} {K : St → Prop} (h : OpA P G k rd ao s fun s' => Areg P G k rd l s' K) : Areg P G k rd (ao :: l) s K := h

theorem call_of_afun {f : FuncId} {fn : Func} {af : AFun} {args : List AVal} {H : Heap} {R : AVal → Heap → Prop} (hf : P.funcs[f]? = some fn) (ha : cfun P fn = af) (hc : (fn.name != "runtime.NumGoroutine" && fn.body.isSome) = true)
    (h : AW P G H.length none af.body (RetPost af.res R) { ρ := args ++ List.replicate (af.ntmps - args.length) .any, H := H }) : CallW P G f args H R := by
  subst ha
  have hc0 : Callable P f = true := by unfold Callable; rw [hf]; exact hc
  simp only [Bool.and_eq_true] at hc
  obtain ⟨c, hb⟩ := Option.isSome_iff_exists.1 hc.2
  refine call_of_body hf hb hc0 ?_
  have h1 : (cfun P fn).body = ccode P c := by simp [cfun, hb]
  have h2 : (cfun P fn).res = cres P fn := by
    simp only [cfun, cres]
    exact List.map_congr_left fun x _ => by cases x <;> rfl
  have := h c h1.symm
  rw [h2] at this
  exact this

/-! ### Rows that are let go -/

/-- A value that refers only to rows in S. -/
inductive Bel (S : Nat → Prop) : AVal → Prop where
  | any : Bel S .any
  | bool (b : Bool) : Bel S (.bool b)
  | int (q : IntKind) (n : Int) : Bel S (.int q n)
  | str (l : List UInt8) : Bel S (.str l)
  | ptr (r i off L : Nat) (h : S r) : Bel S (.ptr r i off L)
  | rptr (e : AVal) (off : Nat) (hv : ∀ j, j < (acells e).length → Bel S ((acells e).getD j .any)) : Bel S (.rptr e off)
  | nilptr : Bel S .nilptr
  | sl (r off len : Nat) (h : S r) : Bel S (.sl r off len)
  | view (es : List AVal) (hv : ∀ i j, i < es.length → j < (acells (es.getD i .any)).length → Bel S ((acells (es.getD i .any)).getD j .any)) : Bel S (.view es)
  | nilsl : Bel S .nilsl
  | fn (f : Fn) (a b : List AVal) (va : ∀ i, i < a.length → Bel S (a.getD i .any)) (vb : ∀ i, i < b.length → Bel S (b.getD i .any)) : Bel S (.fn f a b)
  | yfn (r : Nat) (h : S r) : Bel S (.yfn r)
  | nilfn : Bel S .nilfn
  | iface (t : TypeId) (v : AVal) (h : Bel S v) : Bel S (.iface t v)
  | niliface : Bel S .niliface
  | agg (cs : List AVal) (hv : ∀ i, i < cs.length → Bel S (cs.getD i .any)) : Bel S (.agg cs)
  | tup (cs : List AVal) (hv : ∀ i, i < cs.length → Bel S (cs.getD i .any)) : Bel S (.tup cs)
  | mp (r : Nat) (h : S r) : Bel S (.mp r)
  | nilmap : Bel S .nilmap

theorem VR.bel {μ : Mu} {v : AVal} {c : Value} {S : Nat → Prop} (hd : ∀ r, (μ r).isSome = true → S r) (h : VR G μ v c) : Bel S v := by
  induction h with
  | any c => exact .any
  | bool b => exact .bool b
  | int q n => exact .int q n
  | str l s h => exact .str l
  | ptr r i off L p c hp hL ho hc => exact .ptr r i off L (hd r (by simp [hp]))
  | rptr e off b o f hb hf _ ih => exact .rptr e off ih
  | nilptr => exact .nilptr
  | sl r off len p c hp hvec hL ho hc => exact .sl r off len (hd r (by simp [hp]))
  | view es b o sz cap f hb hcap hs hf _ ih => exact .view es fun i j hi hj => ih i j hi (by rw [← hs i hi]; exact hj)
  | viewnil a cap => exact .view [] fun i j hi => by simp at hi
  | nilsl => exact .nilsl
  | fn f a b a' b' ha hb _ _ iha ihb => exact .fn f a b iha ihb
  | yfn r p hp hv => exact .yfn r (hd r (by simp [hp]))
  | nilfn => exact .nilfn
  | iface t v c _ ih => exact .iface t v ih
  | niliface => exact .niliface
  | agg cs vs hl _ ih => exact .agg cs ih
  | tup cs vs hl _ ih => exact .tup cs ih
  | mp r p hp hv => exact .mp r (hd r (by simp [hp]))
  | nilmap => exact .nilmap

theorem Bel.mono {S S' : Nat → Prop} {v : AVal} (h : Bel S v) (hs : ∀ r, S r → S' r) : Bel S' v := by
  induction h with
  | any => exact .any
  | bool b => exact .bool b
  | int q n => exact .int q n
  | str l => exact .str l
  | ptr r i off L h => exact .ptr r i off L (hs r h)
  | rptr e off _ ih => exact .rptr e off ih
  | nilptr => exact .nilptr
  | sl r off len h => exact .sl r off len (hs r h)
  | view es _ ih => exact .view es ih
  | nilsl => exact .nilsl
  | fn f a b _ _ iha ihb => exact .fn f a b iha ihb
  | yfn r h => exact .yfn r (hs r h)
  | nilfn => exact .nilfn
  | iface t v _ ih => exact .iface t v ih
  | niliface => exact .niliface
  | agg cs _ ih => exact .agg cs ih
  | tup cs _ ih => exact .tup cs ih
  | mp r h => exact .mp r (hs r h)
  | nilmap => exact .nilmap

/-- The rows in S alone. -/
def Mu.only (μ : Mu) (S : Nat → Prop) [DecidablePred S] : Mu := fun r => if S r then μ r else none

theorem VR.only {μ : Mu} {S : Nat → Prop} [DecidablePred S] {v : AVal} {c : Value} (h : VR G μ v c) (hb : Bel S v) : VR G (μ.only S) v c := by
  have hu : ∀ r p, μ r = some p → S r → μ.only S r = some p := fun r p hp hr => by simp [Mu.only, hr, hp]
  induction h with
  | any c => exact .any c
  | bool b => exact .bool b
  | int q n => exact .int q n
  | str l s h => exact .str l s h
  | ptr r i off L p c hp hL ho hc => cases hb with | ptr _ _ _ _ hr => exact .ptr r i off L p c (hu r p hp hr) hL ho hc
  | rptr e off b o f hb' hf _ ih => cases hb with | rptr _ _ hv => exact .rptr e off b o f hb' hf fun j hj => ih j hj (hv j hj)
  | nilptr => exact .nilptr
  | sl r off len p c hp hvec hL ho hc => cases hb with | sl _ _ _ hr => exact .sl r off len p c (hu r p hp hr) hvec hL ho hc
  | view es b o sz cap f hb' hcap hs hf _ ih => cases hb with | view _ hv => exact .view es b o sz cap f hb' hcap hs hf fun i j hi hj => ih i j hi hj (hv i j hi (by rw [hs i hi]; exact hj))
  | viewnil a cap => exact .viewnil a cap
  | nilsl => exact .nilsl
  | fn f a b a' b' ha hb' _ _ iha ihb => cases hb with | fn _ _ _ va vb => exact .fn f a b a' b' ha hb' (fun i hi => iha i hi (va i hi)) (fun i hi => ihb i hi (vb i hi))
  | yfn r p hp hv => cases hb with | yfn _ hr => exact .yfn r p (hu r p hp hr) hv
  | nilfn => exact .nilfn
  | iface t v c _ ih => cases hb with | iface _ _ h => exact .iface t v c (ih h)
  | niliface => exact .niliface
  | agg cs vs hl _ ih => cases hb with | agg _ hv => exact .agg cs vs hl fun i hi => ih i hi (hv i hi)
  | tup cs vs hl _ ih => cases hb with | tup _ hv => exact .tup cs vs hl fun i hi => ih i hi (hv i hi)
  | mp r p hp hv => cases hb with | mp _ hr => exact .mp r p (hu r p hp hr) hv
  | nilmap => exact .nilmap

/-- What a row's values refer to lies in S. -/
def Row.bel (S : Nat → Prop) : Row → Prop
  | .cells _ _ es => ∀ i j, i < es.length → j < (acells (es.getD i .any)).length → Bel S ((acells (es.getD i .any)).getD j .any)
  | .loop ρ _ _ _ d _ _ => S d ∧ ∀ t, t < ρ.length → Bel S (ρ.getD t .any)
  | .dfr => True
  | .siter _ _ => True

theorem RowIs.bel {μ : Mu} {p : Place} {hp : Array Obj} {x : Row} {S : Nat → Prop} (hd : ∀ r, (μ r).isSome = true → S r) (h : RowIs P G μ p hp x) : x.bel S := by
  cases x with
  | cells g sz es =>
    obtain ⟨_, _, _, C, ty, _, _, h5⟩ := h
    intro i j hi hj
    obtain ⟨c, _, hv⟩ := (h5 i hi).2 j (by rw [← (h5 i hi).1]; exact hj)
    exact hv.bel hd
  | loop ρ ps asg body d st pend =>
    obtain ⟨_, r, _, _, _, _, _, _, _, h8, pd, h9, _⟩ := h
    exact ⟨hd d (by simp [h9]), fun t ht => (h8 t ht).bel hd⟩
  | dfr => trivial
  | siter s pos => trivial

theorem RowIs.only {μ : Mu} {S : Nat → Prop} [DecidablePred S] {p : Place} {hp : Array Obj} {x : Row} (h : RowIs P G μ p hp x) (hb : x.bel S) : RowIs P G (μ.only S) p hp x := by
  cases x with
  | cells g sz es =>
    obtain ⟨h1, h2, hg, C, ty, h3, h4, h5⟩ := h
    refine ⟨h1, h2, hg, C, ty, h3, h4, fun i hi => ⟨(h5 i hi).1, fun j hj => ?_⟩⟩
    obtain ⟨c, hc, hv⟩ := (h5 i hi).2 j hj
    exact ⟨c, hc, hv.only (hb i j hi (by rw [(h5 i hi).1]; exact hj))⟩
  | loop ρ ps asg body d st pend =>
    obtain ⟨h0, r, h1, h2, h3, h4, h5, h6, h7, h8, pd, h9, h10, h11⟩ := h
    exact ⟨h0, r, h1, h2, h3, h4, h5, h6, h7, fun t ht => (h8 t ht).only (hb.2 t ht), pd, by simp [Mu.only, hb.1, h9], h10, h11⟩
  | dfr => exact h
  | siter s pos => exact h

theorem HR.only {μ : Mu} {S : Nat → Prop} [DecidablePred S] {H H' : Heap} {hp : World} (h : HR P G μ H' hp) (hb : ∀ (r : Nat) (x : Row), H[r]? = some (some x) → S r ∧ H'[r]? = some (some x) ∧ x.bel S) : HR P G (μ.only S) H hp := by
  constructor
  · intro r x hr
    obtain ⟨hs, hr', hx⟩ := hb r x hr
    obtain ⟨p, h1, h2, h3, h4⟩ := h.row r x hr'
    exact ⟨p, by simp [Mu.only, hs, h1], h2, h3, h4.only hx⟩
  · intro r r' x x' p p' hr hr' hp hp' hne
    obtain ⟨e1, f1, _⟩ := hb r x hr
    obtain ⟨e2, f2, _⟩ := hb r' x' hr'
    simp only [Mu.only, e1, e2, if_true] at hp hp'
    exact h.apart r r' x x' p p' f1 f2 hp hp' hne
  · exact h.kept
  · exact h.ro
  · exact h.calm

/-- A row that is there. -/
def Laid (H : Heap) (r : Nat) : Prop := ∃ x, H[r]? = some (some x)

/-- A call, of which it is said too that it lays no row in a gap. -/
def CallOK (P : Program) (G : Ctx) (f : FuncId) (args : List AVal) (H : Heap) (R : AVal → Heap → Prop) : Prop :=
  Callable P f = true ∧ ∀ μ (cargs : Array Value) w, args.length = cargs.size → (∀ i, i < args.length → VR G μ (args.getD i .any) (cargs.getD i undef)) → HR P G μ H w → Dom μ H →
    CallsIn (Fw none) 0 P f cargs w fun e w' => ∃ v cv μ' H', e = .returned cv ∧ R v H' ∧ VR G μ' v cv ∧ HR P G μ' H' w' ∧ Dom μ' H' ∧ Mu.leB H.length μ μ' ∧ ∀ r, r < H.length → μ r = none → μ' r = none

theorem CallOK.weak {f : FuncId} {args : List AVal} {H : Heap} {R : AVal → Heap → Prop} (h : CallOK P G f args H R) : CallW P G f args H R :=
  ⟨h.1, fun μ cargs w h1 h2 h3 h4 => (h.2 μ cargs w h1 h2 h3 h4).mono fun _ _ ⟨v, cv, μ', H', k1, k2, k3, k4, k5, k6, _⟩ => ⟨v, cv, μ', H', k1, k2, k3, k4, k5, k6⟩⟩

theorem CallOK.mono {f : FuncId} {args : List AVal} {H : Heap} {R R' : AVal → Heap → Prop} (h : CallOK P G f args H R) (hR : ∀ v H', R v H' → R' v H') : CallOK P G f args H R' :=
  ⟨h.1, fun μ cargs w h1 h2 h3 h4 => (h.2 μ cargs w h1 h2 h3 h4).mono fun _ _ ⟨v, cv, μ', H', k1, k2, k3⟩ => ⟨v, cv, μ', H', k1, hR _ _ k2, k3⟩⟩

/-- A call behind which the caller's rows are as they were; its own are let go. -/
theorem CallW.back {f : FuncId} {args : List AVal} {H : Heap} {R : AVal → Prop} (h : CallW P G f args H fun v H' => R v ∧ Bel (Laid H) v ∧ ∃ X, H' = H ++ X) : CallOK P G f args H fun v H' => R v ∧ H' = H := by
  refine ⟨h.1, fun μ cargs w h1 h2 h3 h4 => (h.2 μ cargs w h1 h2 h3 h4).mono ?_⟩
  rintro e w' ⟨v, cv, μ', H', rfl, ⟨hR, hb, X, rfl⟩, hv, hH, hd, hle⟩
  have hdom : ∀ r, Laid H r → (μ r).isSome = true := fun r ⟨x, hx⟩ => by obtain ⟨p, k1, _⟩ := h3.row r x hx; simp [k1]
  refine ⟨v, cv, μ'.only (fun r => (μ r).isSome = true), H, rfl, ⟨hR, rfl⟩, hv.only (hb.mono hdom), hH.only fun r x hr => ⟨hdom r ⟨x, hr⟩, ?_, ?_⟩, fun r hr => ?_, fun r p hr hp => ?_, fun r hr hn => ?_⟩
  · rw [List.getElem?_append_left (List.getElem?_eq_some_iff.1 hr).1]; exact hr
  · obtain ⟨p, k1, _, _, k4⟩ := h3.row r x hr
    exact k4.bel fun _ h => h
  · unfold Mu.only at hr
    split at hr
    · rename_i hs; exact h4 r hs
    · cases hr
  · obtain ⟨p', k1, k2⟩ := hle r p hr hp
    exact ⟨p', by simp [Mu.only, hp, k1], k2⟩
  · simp [Mu.only, hn]
end
end Go.Sx
