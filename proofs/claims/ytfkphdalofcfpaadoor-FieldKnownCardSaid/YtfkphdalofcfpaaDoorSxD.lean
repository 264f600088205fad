/- A part of the proof: the abstract semantics. -/
import Derived.Test.YtfkphdalofcfpaaDoorSxC
set_option linter.unusedSimpArgs false
set_option linter.unusedVariables false
/- Straight pieces of code, reckoned at once; calls that leave the rows as they were. -/
namespace Go.Sx
open Go

section
variable {P : Program} {G : Ctx} {k : Nat} {rd : Option Nat} {Q : Exit → St → Prop} {s : St}

def evalTo : List AOper → List AVal → Heap → Option (List AOper × List AVal × Heap)
  | [], ρ, H => some ([], ρ, H)
  | ao :: l, ρ, H =>
    match gval ρ ao.guard with
    | some false => evalTo l (setD ρ ao.dst (.tup [])) H
    | some true =>
      match ao.op with
      | .call f xs => some (ao :: l, ρ, H)
      | op => match aev op ρ H H.length with
        | some (v, Δ) => evalTo l (setD ρ ao.dst v) (H.puts Δ)
        | none => none
    | none => none

theorem areg_ev {ops rest : List AOper} {ρ ρ' : List AVal} {H H' : Heap} {ms : List Nat} {K : St → Prop} (h : evalTo ops ρ H = some (rest, ρ', H')) (hK : Areg P G k rd rest ⟨ρ', H', ms⟩ K) : Areg P G k rd ops ⟨ρ, H, ms⟩ K := by
  induction ops generalizing ρ H with
  | nil => simp only [evalTo, Option.some.injEq, Prod.mk.injEq] at h; obtain ⟨rfl, rfl, rfl⟩ := h; exact hK
  | cons ao l ih =>
    unfold evalTo at h
    split at h
    · rename_i hg; exact op_skip hg (ih h)
    · rename_i hg
      split at h
      · simp only [Option.some.injEq, Prod.mk.injEq] at h; obtain ⟨rfl, rfl, rfl⟩ := h; exact hK
      · split at h
        · rename_i v Δ he; exact op_simple hg he (ih h)
        · cases h
    · cases h

theorem areg_nil {K : St → Prop} (h : K s) : Areg P G k rd [] s K := h
theorem areg_cons {ao : AOper} {l : List AOper} {K : St → Prop} (h : OpA P G k rd ao s fun s' => Areg P G k rd l s' K) : Areg P G k rd (ao :: l) s K := h

theorem call_of_afun {f : FuncId} {fn : Func} {af : AFun} {args : List AVal} {H : Heap} {R : AVal → Heap → Prop} (hf : P.funcs[f]? = some fn) (ha : cfun P fn = af) (hc : (fn.name != "runtime.NumGoroutine" && fn.body.isSome) = true)
    (h : AW P G H.length none af.body (RetPost af.res R) { ρ := args ++ List.replicate (af.ntmps - args.length) .any, H := H }) : CallW P G f args H R := by
  subst ha
  have hc0 : Callable P f = true := by unfold Callable; rw [hf]; exact hc
  simp only [Bool.and_eq_true] at hc
  obtain ⟨c, hb⟩ := Option.isSome_iff_exists.1 hc.2
  refine call_of_body hf hb hc0 ?_
  have h1 : (cfun P fn).body = ccode P c := by simp [cfun, hb]
  have h2 : (cfun P fn).res = cres P fn := by
    simp only [cfun, cres]
    exact List.map_congr_left fun x _ => by cases x <;> rfl
  have := h c h1.symm
  rw [h2] at this
  exact this


inductive Bel (S : Nat → Prop) : AVal → Prop where
  | any : Bel S .any
  | bool (b : Bool) : Bel S (.bool b)
  | int (q : IntKind) (n : Int) : Bel S (.int q n)
  | str (l : List UInt8) : Bel S (.str l)
  | ptr (r i off L : Nat) (h : S r) : Bel S (.ptr r i off L)
  | rptr (e : AVal) (off : Nat) (hv : ∀ j, j < (acells e).length → Bel S ((acells e).getD j .any)) : Bel S (.rptr e off)
  | nilptr : Bel S .nilptr
  | sl (r off len : Nat) (h : S r) : Bel S (.sl r off len)
  | view (es : List AVal) (hv : ∀ i j, i < es.length → j < (acells (es.getD i .any)).length → Bel S ((acells (es.getD i .any)).getD j .any)) : Bel S (.view es)
  | nilsl : Bel S .nilsl
  | fn (f : Fn) (a b : List AVal) (va : ∀ i, i < a.length → Bel S (a.getD i .any)) (vb : ∀ i, i < b.length → Bel S (b.getD i .any)) : Bel S (.fn f a b)
  | yfn (r : Nat) (h : S r) : Bel S (.yfn r)
  | nilfn : Bel S .nilfn
  | iface (t : TypeId) (v : AVal) (h : Bel S v) : Bel S (.iface t v)
  | niliface : Bel S .niliface
  | agg (cs : List AVal) (hv : ∀ i, i < cs.length → Bel S (cs.getD i .any)) : Bel S (.agg cs)
  | tup (cs : List AVal) (hv : ∀ i, i < cs.length → Bel S (cs.getD i .any)) : Bel S (.tup cs)
  | mp (r : Nat) (h : S r) : Bel S (.mp r)
  | nilmap : Bel S .nilmap

theorem VR.bel {μ : Mu} {v : AVal} {c : Value} {S : Nat → Prop} (hd : ∀ r, (μ r).isSome = true → S r) (h : VR G μ v c) : Bel S v := by
  induction h with
  | any c => exact .any
  | bool b => exact .bool b
  | int q n => exact .int q n
  | str l s h => exact .str l
  | ptr r i off L p c hp hL ho hc => exact .ptr r i off L (hd r (by simp [hp]))
  | rptr e off b o f hb hf _ ih => exact .rptr e off ih
  | nilptr => exact .nilptr
  | sl r off len p c hp hvec hL ho hc => exact .sl r off len (hd r (by simp [hp]))
  | view es b o sz cap f hb hcap hs hf _ ih => exact .view es fun i j hi hj => ih i j hi (by rw [← hs i hi]; exact hj)
  | viewnil a cap => exact .view [] fun i j hi => by simp at hi
  | nilsl => exact .nilsl
  | fn f a b a' b' ha hb _ _ iha ihb => exact .fn f a b iha ihb
  | yfn r p hp hv => exact .yfn r (hd r (by simp [hp]))
  | nilfn => exact .nilfn
  | iface t v c _ ih => exact .iface t v ih
  | niliface => exact .niliface
  | agg cs vs hl _ ih => exact .agg cs ih
  | tup cs vs hl _ ih => exact .tup cs ih
  | mp r p hp hv => exact .mp r (hd r (by simp [hp]))
  | nilmap => exact .nilmap

theorem Bel.mono {S S' : Nat → Prop} {v : AVal} (h : Bel S v) (hs : ∀ r, S r → S' r) : Bel S' v := by
  induction h with
  | any => exact .any
  | bool b => exact .bool b
  | int q n => exact .int q n
  | str l => exact .str l
  | ptr r i off L h => exact .ptr r i off L (hs r h)
  | rptr e off _ ih => exact .rptr e off ih
  | nilptr => exact .nilptr
  | sl r off len h => exact .sl r off len (hs r h)
  | view es _ ih => exact .view es ih
  | nilsl => exact .nilsl
  | fn f a b _ _ iha ihb => exact .fn f a b iha ihb
  | yfn r h => exact .yfn r (hs r h)
  | nilfn => exact .nilfn
  | iface t v _ ih => exact .iface t v ih
  | niliface => exact .niliface
  | agg cs _ ih => exact .agg cs ih
  | tup cs _ ih => exact .tup cs ih
  | mp r h => exact .mp r (hs r h)
  | nilmap => exact .nilmap

def Mu.only (μ : Mu) (S : Nat → Prop) [DecidablePred S] : Mu := fun r => if S r then μ r else none

theorem VR.only {μ : Mu} {S : Nat → Prop} [DecidablePred S] {v : AVal} {c : Value} (h : VR G μ v c) (hb : Bel S v) : VR G (μ.only S) v c := by
  have hu : ∀ r p, μ r = some p → S r → μ.only S r = some p := fun r p hp hr => by simp [Mu.only, hr, hp]
  induction h with
  | any c => exact .any c
  | bool b => exact .bool b
  | int q n => exact .int q n
  | str l s h => exact .str l s h
  | ptr r i off L p c hp hL ho hc => cases hb with | ptr _ _ _ _ hr => exact .ptr r i off L p c (hu r p hp hr) hL ho hc
  | rptr e off b o f hb' hf _ ih => cases hb with | rptr _ _ hv => exact .rptr e off b o f hb' hf fun j hj => ih j hj (hv j hj)
  | nilptr => exact .nilptr
  | sl r off len p c hp hvec hL ho hc => cases hb with | sl _ _ _ hr => exact .sl r off len p c (hu r p hp hr) hvec hL ho hc
  | view es b o sz cap f hb' hcap hs hf _ ih => cases hb with | view _ hv => exact .view es b o sz cap f hb' hcap hs hf fun i j hi hj => ih i j hi hj (hv i j hi (by rw [hs i hi]; exact hj))
  | viewnil a cap => exact .viewnil a cap
  | nilsl => exact .nilsl
  | fn f a b a' b' ha hb' _ _ iha ihb => cases hb with | fn _ _ _ va vb => exact .fn f a b a' b' ha hb' (fun i hi => iha i hi (va i hi)) (fun i hi => ihb i hi (vb i hi))
  | yfn r p hp hv => cases hb with | yfn _ hr => exact .yfn r p (hu r p hp hr) hv
  | nilfn => exact .nilfn
  | iface t v c _ ih => cases hb with | iface _ _ h => exact .iface t v c (ih h)
  | niliface => exact .niliface
  | agg cs vs hl _ ih => cases hb with | agg _ hv => exact .agg cs vs hl fun i hi => ih i hi (hv i hi)
  | tup cs vs hl _ ih => cases hb with | tup _ hv => exact .tup cs vs hl fun i hi => ih i hi (hv i hi)
  | mp r p hp hv => cases hb with | mp _ hr => exact .mp r p (hu r p hp hr) hv
  | nilmap => exact .nilmap

def Row.bel (S : Nat → Prop) : Row → Prop
  | .cells _ _ es => ∀ i j, i < es.length → j < (acells (es.getD i .any)).length → Bel S ((acells (es.getD i .any)).getD j .any)
  | .loop ρ _ _ _ d _ _ => S d ∧ ∀ t, t < ρ.length → Bel S (ρ.getD t .any)
  | .dfr => True
  | .siter _ _ => True
  | .mapr _ _ vs => ∀ i, i < vs.length → Bel S (vs.getD i .any)
  | .dead => True

theorem RowIs.bel {μ : Mu} {p : Place} {hp : Array Obj} {x : Row} {S : Nat → Prop} (hd : ∀ r, (μ r).isSome = true → S r) (h : RowIs P G μ p hp x) : x.bel S := by
  cases x with
  | cells g sz es =>
    obtain ⟨_, _, _, C, ty, _, _, h5⟩ := h
    intro i j hi hj
    obtain ⟨c, _, hv⟩ := (h5 i hi).2 j (by rw [← (h5 i hi).1]; exact hj)
    exact hv.bel hd
  | loop ρ ps asg body d st pend =>
    obtain ⟨_, r, _, _, _, _, _, _, _, h8, pd, h9, _⟩ := h
    exact ⟨hd d (by simp [h9]), fun t ht => (h8 t ht).bel hd⟩
  | dfr => trivial
  | siter s pos => trivial
  | mapr kk ks vs =>
    obtain ⟨_, hl, es, ck, _, _, h3⟩ := h
    intro i hi
    obtain ⟨e, _, _, k3⟩ := h3 i (by omega)
    exact k3.bel hd
  | dead => trivial

theorem RowIs.only {μ : Mu} {S : Nat → Prop} [DecidablePred S] {p : Place} {hp : Array Obj} {x : Row} (h : RowIs P G μ p hp x) (hb : x.bel S) : RowIs P G (μ.only S) p hp x := by
  cases x with
  | cells g sz es =>
    obtain ⟨h1, h2, hg, C, ty, h3, h4, h5⟩ := h
    refine ⟨h1, h2, hg, C, ty, h3, h4, fun i hi => ⟨(h5 i hi).1, fun j hj => ?_⟩⟩
    obtain ⟨c, hc, hv⟩ := (h5 i hi).2 j hj
    exact ⟨c, hc, hv.only (hb i j hi (by rw [(h5 i hi).1]; exact hj))⟩
  | loop ρ ps asg body d st pend =>
    obtain ⟨h0, r, h1, h2, h3, h4, h5, h6, h7, h8, pd, h9, h10, h11⟩ := h
    exact ⟨h0, r, h1, h2, h3, h4, h5, h6, h7, fun t ht => (h8 t ht).only (hb.2 t ht), pd, by simp [Mu.only, hb.1, h9], h10, h11⟩
  | dfr => exact h
  | siter s pos => exact h
  | mapr kk ks vs =>
    obtain ⟨h0, hl, es, ck, h1, h2, h3⟩ := h
    exact ⟨h0, hl, es, ck, h1, h2, fun i hi => by obtain ⟨e, k1, k2, k3⟩ := h3 i hi; exact ⟨e, k1, k2, k3.only (hb i (by omega))⟩⟩
  | dead => trivial

theorem HR.only {μ : Mu} {S : Nat → Prop} [DecidablePred S] {H H' : Heap} {hp : World} (h : HR P G μ H' hp) (hb : ∀ (r : Nat) (x : Row), H[r]? = some (some x) → S r ∧ H'[r]? = some (some x) ∧ x.bel S) : HR P G (μ.only S) H hp := by
  constructor
  · intro r x hr hnd
    obtain ⟨hs, hr', hx⟩ := hb r x hr
    obtain ⟨p, h1, h2, h3, h4⟩ := h.row r x hr' hnd
    exact ⟨p, by simp [Mu.only, hs, h1], h2, h3, h4.only hx⟩
  · intro r r' x x' p p' hr hr' hp hp' hne n1 n2
    obtain ⟨e1, f1, _⟩ := hb r x hr
    obtain ⟨e2, f2, _⟩ := hb r' x' hr'
    simp only [Mu.only, e1, e2, if_true] at hp hp'
    exact h.apart r r' x x' p p' f1 f2 hp hp' hne n1 n2
  · exact h.kept
  · exact h.ro
  · exact h.calm
  · intro r hr
    obtain ⟨hs, hr', _⟩ := hb r _ hr
    have := h.named r hr'
    simpa [Mu.only, hs] using this
  · exact h.glob

def Laid (H : Heap) (r : Nat) : Prop := ∃ x, H[r]? = some (some x)

def CallOK (P : Program) (G : Ctx) (f : FuncId) (args : List AVal) (H : Heap) (R : AVal → Heap → Prop) : Prop :=
  Callable P f = true ∧ ∀ μ (cargs : Array Value) w, args.length = cargs.size → (∀ i, i < args.length → VR G μ (args.getD i .any) (cargs.getD i undef)) → HR P G μ H w → Dom μ H →
    CallsIn (Fw none) 0 P f cargs w fun e w' => ∃ v cv μ' H', e = .returned cv ∧ R v H' ∧ VR G μ' v cv ∧ HR P G μ' H' w' ∧ Dom μ' H' ∧ Mu.leB H.length μ μ' ∧ ∀ r, r < H.length → μ r = none → μ' r = none

theorem CallOK.weak {f : FuncId} {args : List AVal} {H : Heap} {R : AVal → Heap → Prop} (h : CallOK P G f args H R) : CallW P G f args H R :=
  ⟨h.1, fun μ cargs w h1 h2 h3 h4 => (h.2 μ cargs w h1 h2 h3 h4).mono fun _ _ ⟨v, cv, μ', H', k1, k2, k3, k4, k5, k6, _⟩ => ⟨v, cv, μ', H', k1, k2, k3, k4, k5, k6⟩⟩

theorem CallOK.mono {f : FuncId} {args : List AVal} {H : Heap} {R R' : AVal → Heap → Prop} (h : CallOK P G f args H R) (hR : ∀ v H', R v H' → R' v H') : CallOK P G f args H R' :=
  ⟨h.1, fun μ cargs w h1 h2 h3 h4 => (h.2 μ cargs w h1 h2 h3 h4).mono fun _ _ ⟨v, cv, μ', H', k1, k2, k3⟩ => ⟨v, cv, μ', H', k1, hR _ _ k2, k3⟩⟩

theorem CallW.back {f : FuncId} {args : List AVal} {H : Heap} {R : AVal → Prop} (h : CallW P G f args H fun v H' => R v ∧ Bel (Laid H) v ∧ ∃ X, H' = H ++ X) : CallOK P G f args H fun v H' => R v ∧ H' = H := by
  refine ⟨h.1, fun μ cargs w h1 h2 h3 h4 => (h.2 μ cargs w h1 h2 h3 h4).mono ?_⟩
  rintro e w' ⟨v, cv, μ', H', rfl, ⟨hR, hb, X, rfl⟩, hv, hH, hd, hle⟩
  have hdom : ∀ r, Laid H r → (μ r).isSome = true := fun r ⟨x, hx⟩ => h3.nm hx
  refine ⟨v, cv, μ'.only (fun r => (μ r).isSome = true), H, rfl, ⟨hR, rfl⟩, hv.only (hb.mono hdom), hH.only fun r x hr => ⟨hdom r ⟨x, hr⟩, ?_, ?_⟩, fun r hr => ?_, fun r p hr hp => ?_, fun r hr hn => ?_⟩
  · rw [List.getElem?_append_left (List.getElem?_eq_some_iff.1 hr).1]; exact hr
  · by_cases hnd : x = .dead
    · subst hnd; trivial
    obtain ⟨p, k1, _, _, k4⟩ := h3.row r x hr hnd
    exact k4.bel fun _ h => h
  · unfold Mu.only at hr
    split at hr
    · rename_i hs; exact h4 r hs
    · cases hr
  · obtain ⟨p', k1, k2⟩ := hle r p hr hp
    exact ⟨p', by simp [Mu.only, hp, k1], k2⟩
  · simp [Mu.only, hn]
end
end Go.Sx
/- Regions whose order is drawn: what is done when some of the operations are. -/
namespace Go.Sx
open Go

structure Oc where
  v : AVal
  Δ : List (Nat × Row)
  fs : List Nat := []

def Oc.rows (c : Oc) : List Nat := c.Δ.map (·.1)

def rAfter : List (AOper × Oc) → Nat → (Nat → Bool) → List AVal → List AVal
  | [], _, _, ρ => ρ
  | x :: l, i, D, ρ => rAfter l (i + 1) D (if D i = true then setD ρ x.1.dst x.2.v else ρ)

def hAfter : List (AOper × Oc) → Nat → (Nat → Bool) → Heap → Heap
  | [], _, _, H => H
  | x :: l, i, D, H => hAfter l (i + 1) D (if D i = true then H.puts x.2.Δ else H)

def upd (D : Nat → Bool) (n : Nat) : Nat → Bool := fun m => if m = n then true else D m

theorem setD_eq (ρ : List AVal) (d : Option Nat) (v : AVal) : setD ρ d v = match d with | some t => ρ.set t v | none => ρ := by
  cases d <;> simp [setD, tset_eq]

theorem setD_len (ρ : List AVal) (d : Option Nat) (v : AVal) : (setD ρ d v).length = ρ.length := by
  rw [setD_eq]; cases d <;> simp

theorem tget_setD_ne {ρ : List AVal} {d : Option Nat} {v : AVal} {t : Nat} (h : d ≠ some t) : tget (setD ρ d v) t = tget ρ t := by
  rw [setD_eq, tget_eq, tget_eq]
  cases d with
  | none => rfl
  | some u =>
    have : u ≠ t := fun e => h (by rw [e])
    simp [List.getD_eq_getElem?_getD, List.getElem?_set_ne this]

theorem tget_setD_same {ρ ρ' : List AVal} {v : AVal} {t : Nat} (hl : ρ.length = ρ'.length) : tget (setD ρ (some t) v) t = tget (setD ρ' (some t) v) t := by
  simp only [setD_eq, tget_eq, List.getD_eq_getElem?_getD]
  by_cases h : t < ρ.length
  · simp [List.getElem?_set_self h, List.getElem?_set_self (hl ▸ h)]
  · rw [List.getElem?_eq_none (by simp; omega), List.getElem?_eq_none (by simp; omega)]

theorem setD_comm (ρ : List AVal) {d e : Option Nat} (v u : AVal) (h : ∀ t, d = some t → e ≠ some t) : setD (setD ρ d v) e u = setD (setD ρ e u) d v := by
  simp only [setD_eq]
  cases d <;> cases e <;> try rfl
  rename_i a b
  have : a ≠ b := fun x => h a rfl (by rw [x])
  exact List.set_comm _ _ this

theorem rAfter_len (l : List (AOper × Oc)) : ∀ (i : Nat) (D : Nat → Bool) (ρ : List AVal), (rAfter l i D ρ).length = ρ.length := by
  induction l with
  | nil => intros; rfl
  | cons x l ih => intro i D ρ; simp only [rAfter]; rw [ih]; split <;> simp [setD_len]

theorem rAfter_tget (t : Nat) (l : List (AOper × Oc)) : ∀ (i : Nat) (D D' : Nat → Bool) (ρ ρ' : List AVal), ρ.length = ρ'.length → tget ρ t = tget ρ' t →
    (∀ j x, l[j]? = some x → x.1.dst = some t → D (i + j) = D' (i + j)) → tget (rAfter l i D ρ) t = tget (rAfter l i D' ρ') t := by
  induction l with
  | nil => intro i D D' ρ ρ' _ h _; exact h
  | cons x l ih =>
    intro i D D' ρ ρ' hl h hd
    simp only [rAfter]
    refine ih (i + 1) D D' _ _ ?_ ?_ fun j y hy hyd => by have := hd (j + 1) y (by simpa using hy) hyd; rwa [show i + (j + 1) = i + 1 + j by omega] at this
    · split <;> split <;> simp [setD_len, hl]
    · by_cases hx : x.1.dst = some t
      · have e := hd 0 x (by simp) hx
        simp only [Nat.add_zero] at e
        rw [e]
        split
        · rw [hx]; exact tget_setD_same hl
        · exact h
      · split <;> split <;> simp only [tget_setD_ne hx, h]

theorem rAfter_congr (l : List (AOper × Oc)) : ∀ (i : Nat) (D D' : Nat → Bool) (ρ : List AVal), (∀ m, i ≤ m → D m = D' m) → rAfter l i D ρ = rAfter l i D' ρ := by
  induction l with
  | nil => intros; rfl
  | cons x l ih =>
    intro i D D' ρ h
    simp only [rAfter, h i (Nat.le_refl _)]
    exact ih _ _ _ _ fun m hm => h m (by omega)

theorem hAfter_congr (l : List (AOper × Oc)) : ∀ (i : Nat) (D D' : Nat → Bool) (H : Heap), (∀ m, i ≤ m → D m = D' m) → hAfter l i D H = hAfter l i D' H := by
  induction l with
  | nil => intros; rfl
  | cons x l ih =>
    intro i D D' H h
    simp only [hAfter, h i (Nat.le_refl _)]
    exact ih _ _ _ _ fun m hm => h m (by omega)

theorem rAfter_setD {d : Option Nat} {v : AVal} (l : List (AOper × Oc)) : ∀ (i : Nat) (D : Nat → Bool) (ρ : List AVal), (∀ j x t, l[j]? = some x → D (i + j) = true → d = some t → x.1.dst ≠ some t) →
    rAfter l i D (setD ρ d v) = setD (rAfter l i D ρ) d v := by
  induction l with
  | nil => intros; rfl
  | cons x l ih =>
    intro i D ρ h
    simp only [rAfter]
    have h' : ∀ j y t, l[j]? = some y → D (i + 1 + j) = true → d = some t → y.1.dst ≠ some t := fun j y t hy hd ht => h (j + 1) y t (by simpa using hy) (by rwa [show i + (j + 1) = i + 1 + j by omega]) ht
    split
    · rename_i hD
      rw [setD_comm ρ v x.2.v fun t ht => h 0 x t (by simp) (by simpa using hD) ht, ih _ _ _ h']
    · exact ih _ _ _ h'

theorem rAfter_add {x : AOper × Oc} (l : List (AOper × Oc)) : ∀ (i j : Nat) (D : Nat → Bool) (ρ : List AVal), l[j]? = some x → D (i + j) = false →
    (∀ m y t, l[m]? = some y → j < m → D (i + m) = true → x.1.dst = some t → y.1.dst ≠ some t) →
    rAfter l i (upd D (i + j)) ρ = setD (rAfter l i D ρ) x.1.dst x.2.v := by
  induction l with
  | nil => intro i j D ρ h; simp at h
  | cons z l ih =>
    intro i j D ρ h hD hm
    cases j with
    | zero =>
      simp only [List.getElem?_cons_zero, Option.some.injEq] at h
      subst h
      simp only [Nat.add_zero] at hD ⊢
      have e : rAfter l (i + 1) (upd D i) = rAfter l (i + 1) D := by
        funext ρ
        exact rAfter_congr l _ _ _ ρ fun m hm => by simp [upd]; intro h; omega
      have e' : upd D i i = true := by simp [upd]
      simp only [rAfter, e', if_true, hD, Bool.false_eq_true, if_false]
      rw [e]
      exact rAfter_setD l (i + 1) D ρ fun j y t hy hd ht => hm (j + 1) y t (by simpa using hy) (by omega) (by rwa [show i + (j + 1) = i + 1 + j by omega]) ht
    | succ j =>
      simp only [List.getElem?_cons_succ] at h
      simp only [rAfter]
      have e : i + (j + 1) = i + 1 + j := by omega
      rw [e] at hD ⊢
      have hi : upd D (i + 1 + j) i = D i := by simp [upd]; intro h; omega
      rw [hi]
      exact ih (i + 1) j D _ h hD fun m y t hy hjm hd ht => hm (m + 1) y t (by simpa using hy) (by omega) (by rwa [show i + (m + 1) = i + 1 + m by omega]) ht

theorem Heap.put_get (H : Heap) (r s : Nat) (x : Row) : (H.put r x)[s]? = if s = r then some (some x) else if s < H.length then H[s]? else if s < r then some none else none := by
  by_cases h : s = r
  · rw [if_pos h, h]; exact Heap.put_same H r x
  · rw [if_neg h]
    unfold Heap.put
    split
    · rename_i hr
      rw [List.getElem?_set_ne (by omega)]
      split
      · rfl
      · rw [List.getElem?_eq_none (by omega)]
        rw [if_neg (by omega)]
    · rename_i hr
      split
      · rename_i hs; rw [List.getElem?_append_left hs]
      · rename_i hs
        rw [List.getElem?_append_right (by omega)]
        split
        · rw [List.getElem?_append_left (by simp; omega), List.getElem?_replicate, if_pos (by omega)]
        · rw [List.getElem?_eq_none (by simp; omega)]

theorem Heap.put_comm (H : Heap) {r s : Nat} (x y : Row) (h : r ≠ s) : (H.put r x).put s y = (H.put s y).put r x := by
  apply List.ext_getElem?
  intro n
  simp only [Heap.put_get, Heap.len_put]
  repeat' split
  all_goals first | rfl | omega

theorem Heap.puts_put (Δ : List (Nat × Row)) : ∀ (H : Heap) (r : Nat) (x : Row), r ∉ Δ.map (·.1) → (H.put r x).puts Δ = (H.puts Δ).put r x := by
  induction Δ with
  | nil => intros; rfl
  | cons p Δ ih =>
    intro H r x h
    simp only [List.map_cons, List.mem_cons, not_or] at h
    simp only [Heap.puts]
    rw [Heap.put_comm H x p.2 h.1, ih _ _ _ h.2]

theorem Heap.puts_comm (Δ Δ' : List (Nat × Row)) : ∀ (H : Heap), (∀ r ∈ Δ.map (·.1), r ∉ Δ'.map (·.1)) → (H.puts Δ).puts Δ' = (H.puts Δ').puts Δ := by
  induction Δ with
  | nil => intros; rfl
  | cons p Δ ih =>
    intro H h
    simp only [Heap.puts]
    rw [ih _ fun r hr => h r (by simp at hr ⊢; exact .inr hr), Heap.puts_put _ _ _ _ (h p.1 (by simp))]

theorem hAfter_puts {Δ : List (Nat × Row)} (l : List (AOper × Oc)) : ∀ (i : Nat) (D : Nat → Bool) (H : Heap), (∀ j x, l[j]? = some x → D (i + j) = true → ∀ r ∈ Δ.map (·.1), r ∉ x.2.rows) →
    hAfter l i D (H.puts Δ) = (hAfter l i D H).puts Δ := by
  induction l with
  | nil => intros; rfl
  | cons x l ih =>
    intro i D H h
    simp only [hAfter]
    have h' : ∀ j y, l[j]? = some y → D (i + 1 + j) = true → ∀ r ∈ Δ.map (·.1), r ∉ y.2.rows := fun j y hy hd => h (j + 1) y (by simpa using hy) (by rwa [show i + (j + 1) = i + 1 + j by omega])
    split
    · rename_i hD
      rw [Heap.puts_comm Δ x.2.Δ H (h 0 x (by simp) (by simpa using hD)), ih _ _ _ h']
    · exact ih _ _ _ h'

theorem hAfter_add {x : AOper × Oc} (l : List (AOper × Oc)) : ∀ (i j : Nat) (D : Nat → Bool) (H : Heap), l[j]? = some x → D (i + j) = false →
    (∀ m y, l[m]? = some y → j < m → D (i + m) = true → ∀ r ∈ x.2.rows, r ∉ y.2.rows) →
    hAfter l i (upd D (i + j)) H = (hAfter l i D H).puts x.2.Δ := by
  induction l with
  | nil => intro i j D H h; simp at h
  | cons z l ih =>
    intro i j D H h hD hm
    cases j with
    | zero =>
      simp only [List.getElem?_cons_zero, Option.some.injEq] at h
      subst h
      simp only [Nat.add_zero] at hD ⊢
      have e : hAfter l (i + 1) (upd D i) = hAfter l (i + 1) D := by
        funext H
        exact hAfter_congr l _ _ _ H fun m hm => by simp [upd]; intro h; omega
      have e' : upd D i i = true := by simp [upd]
      simp only [hAfter, e', if_true, hD, Bool.false_eq_true, if_false]
      rw [e]
      exact hAfter_puts l (i + 1) D H fun j y hy hd => hm (j + 1) y (by simpa using hy) (by omega) (by rwa [show i + (j + 1) = i + 1 + j by omega])
    | succ j =>
      simp only [List.getElem?_cons_succ] at h
      simp only [hAfter]
      have e : i + (j + 1) = i + 1 + j := by omega
      rw [e] at hD ⊢
      have hi : upd D (i + 1 + j) i = D i := by simp [upd]; intro h; omega
      rw [hi]
      exact ih (i + 1) j D _ h hD fun m y hy hjm hd => hm (m + 1) y (by simpa using hy) (by omega) (by rwa [show i + (m + 1) = i + 1 + m by omega])

def Same (r : Nat) (H H' : Heap) : Prop := ∀ y, H[r]? = some (some y) ↔ H'[r]? = some (some y)

theorem Same.refl (r : Nat) (H : Heap) : Same r H H := fun _ => Iff.rfl
theorem Same.put {r : Nat} {H H' : Heap} (h : Same r H H') (q : Nat) (x : Row) : Same r (H.put q x) (H'.put q x) := fun y => by
  by_cases hq : r = q
  · subst hq; rw [Heap.put_same, Heap.put_same]
  · rw [Heap.put_other H x hq, Heap.put_other H' x hq]; exact h y
theorem Same.puts {r : Nat} (Δ : List (Nat × Row)) : ∀ {H H' : Heap}, Same r H H' → Same r (H.puts Δ) (H'.puts Δ) := by
  induction Δ with
  | nil => intro H H' h; exact h
  | cons p Δ ih => intro H H' h; exact ih (h.put p.1 p.2)
theorem Same.off {r : Nat} (Δ : List (Nat × Row)) : ∀ {H : Heap}, r ∉ Δ.map (·.1) → Same r (H.puts Δ) H := by
  induction Δ with
  | nil => intro H _; exact .refl _ _
  | cons p Δ ih =>
    intro H h y
    simp only [List.map_cons, List.mem_cons, not_or] at h
    exact (ih h.2 y).trans (Heap.put_other H p.2 h.1 y)
theorem Same.symm {r : Nat} {H H' : Heap} (h : Same r H H') : Same r H' H := fun y => (h y).symm
theorem Same.trans {r : Nat} {H H' H'' : Heap} (h : Same r H H') (h' : Same r H' H'') : Same r H H'' := fun y => (h y).trans (h' y)

theorem hAfter_same (r : Nat) (l : List (AOper × Oc)) : ∀ (i : Nat) (D D' : Nat → Bool) (H H' : Heap), Same r H H' →
    (∀ j x, l[j]? = some x → r ∈ x.2.rows → D (i + j) = D' (i + j)) → Same r (hAfter l i D H) (hAfter l i D' H') := by
  induction l with
  | nil => intro i D D' H H' h _; exact h
  | cons x l ih =>
    intro i D D' H H' h hd
    simp only [hAfter]
    refine ih (i + 1) D D' _ _ ?_ fun j y hy hr => by have := hd (j + 1) y (by simpa using hy) hr; rwa [show i + (j + 1) = i + 1 + j by omega] at this
    by_cases hx : r ∈ x.2.rows
    · have e := hd 0 x (by simp) hx
      simp only [Nat.add_zero] at e
      rw [e]
      split
      · exact h.puts _
      · exact h
    · split <;> split
      · exact h.puts _
      · exact (Same.off _ hx).trans h
      · exact h.trans (Same.off _ hx).symm
      · exact h

def Heap.mask (H : Heap) (rs : List Nat) : Heap := H.zipIdx.map fun (x, i) => if i ∈ rs then none else x

theorem mask_get (H : Heap) (rs : List Nat) (r : Nat) (y : Row) : (H.mask rs)[r]? = some (some y) ↔ r ∉ rs ∧ H[r]? = some (some y) := by
  unfold Heap.mask
  rw [List.getElem?_map, List.getElem?_zipIdx]
  cases h : H[r]? with
  | none => simp
  | some x =>
    simp only [Option.map_some, Nat.zero_add, Option.some.injEq]
    by_cases hr : r ∈ rs
    · simp [hr]
    · simp [hr]

theorem cellsAt_get {H : Heap} {r : Nat} {x : Bool × Nat × List AVal} : H.cellsAt r = some x ↔ H[r]? = some (some (.cells x.1 x.2.1 x.2.2)) := by
  unfold Heap.cellsAt
  constructor
  · intro h
    split at h
    · rename_i g sz es he; cases h; exact he
    · cases h
  · intro h; rw [h]

theorem mask_le {H H' : Heap} {rs : List Nat} (h : ∀ r, r ∉ rs → Same r H H') : (H.mask rs).le H' := fun r x hx => by
  rw [cellsAt_get, mask_get] at hx
  rw [cellsAt_get]
  exact (h r hx.1 _).1 hx.2

theorem mapAt_get {H : Heap} {r : Nat} {x : IntKind × List Int × List AVal} : H.mapAt r = some x ↔ H[r]? = some (some (.mapr x.1 x.2.1 x.2.2)) := by
  unfold Heap.mapAt
  constructor
  · intro h
    split at h
    · rename_i g sz es he; cases h; exact he
    · cases h
  · intro h; rw [h]
theorem mask_leM {H H' : Heap} {rs : List Nat} (h : ∀ r, r ∉ rs → Same r H H') (r : Nat) (x : IntKind × List Int × List AVal) (hx : (H.mask rs).mapAt r = some x) : H'.mapAt r = some x := by
  rw [mapAt_get, mask_get] at hx
  rw [mapAt_get]
  exact (h r hx.1 _).1 hx.2
theorem mapAt_mask (H : Heap) (rs : List Nat) (r : Nat) : (H.mask rs).mapAt r = if r ∈ rs then none else H.mapAt r := by
  apply Option.ext
  intro x
  rw [mapAt_get, mask_get]
  split
  · rename_i h; simp [h]
  · rename_i h; rw [mapAt_get]; simp [h]

theorem cellsAt_mask (H : Heap) (rs : List Nat) (r : Nat) : (H.mask rs).cellsAt r = if r ∈ rs then none else H.cellsAt r := by
  apply Option.ext
  intro x
  rw [cellsAt_get, mask_get]
  split
  · rename_i h; simp [h]
  · rename_i h; rw [cellsAt_get]; simp [h]

section
variable {P : Program} {G : Ctx}

theorem aev_free {op : AOp} {ρ : List AVal} {H : Heap} {n n' : Nat} {v : AVal} {Δ : List (Nat × Row)} (h : aev op ρ H n = some (v, Δ)) (hn : n ∉ Δ.map (·.1)) : aev op ρ H n' = some (v, Δ) := by
  cases op <;> try exact h
  case box x =>
    simp only [aev] at h
    split at h
    · cases h
    · simp only [Option.some.injEq, Prod.mk.injEq] at h
      rw [← h.2] at hn; simp at hn
  case buildSlice sz xs =>
    simp only [aev] at h
    split at h
    · simp only [Option.some.injEq, Prod.mk.injEq] at h
      rw [← h.2] at hn; simp at hn
    · cases h
  case makeMap kk =>
    simp only [aev, Option.some.injEq, Prod.mk.injEq] at h
    rw [← h.2] at hn; simp at hn
  case appendStr s x =>
    simp only [aev] at h ⊢
    cases hx : opd ρ x <;> rw [hx] at h <;> try (cases h; done)
    dsimp only at h ⊢
    cases ho : opd ρ s <;> rw [ho] at h <;> try (cases h; done)
    all_goals try dsimp only at h ⊢
    · rename_i r off len
      cases off with
      | succ m => cases h
      | zero => exact h
    · split at h
      · rename_i hy; rw [if_pos hy]; exact h
      · split at h
        · simp only [Option.some.injEq, Prod.mk.injEq] at h
          rw [← h.2] at hn; simp at hn
        · cases h
  case strToBytes x =>
    simp only [aev] at h
    split at h
    · simp only [Option.some.injEq, Prod.mk.injEq] at h
      rw [← h.2] at hn; simp at hn
    · cases h
  case makeSlice z b l c =>
    simp only [aev] at h
    repeat' split at h
    all_goals first
      | (cases h; done)
      | (simp only [Option.some.injEq, Prod.mk.injEq] at h
         rw [← h.2] at hn; simp at hn)
  case appendN sz b z s x =>
    simp only [aev] at h
    repeat' split at h
    all_goals first
      | (cases h; done)
      | (simp only [Option.some.injEq, Prod.mk.injEq] at h
         rw [← h.2] at hn; simp at hn)
  case append sz b g s x =>
    simp only [aev] at h ⊢
    cases he : elemsOf H (opd ρ x) with
    | none => rw [he] at h; cases h
    | some ys =>
      rw [he] at h
      simp only at h ⊢
      split at h
      · cases h
      · rename_i hz
        rw [if_neg hz]
        cases hs : opd ρ s
        case nilsl =>
          rw [hs] at h
          simp only at h ⊢
          split at h
          · rename_i hy; rw [if_pos hy]; exact h
          · rename_i hy
            rw [if_neg hy]
            split at h
            · simp only [Option.some.injEq, Prod.mk.injEq] at h
              rw [← h.2] at hn; simp at hn
            · cases h
        case sl r off len => rw [hs] at h; cases off <;> exact h
        all_goals (rw [hs] at h; cases h)

theorem op_at {ao : AOper} {s : St} {n i : Nat} {v : AVal} {Δ : List (Nat × Row)} {ops : Array Oper} {draw : Bool} {o : Oper} {Q : Exit → Act → World → Prop} {μ : Mu} {ro : Option Nat} {a : Act} {w : World}
    (hi : ops[i]? = some o) (hc : coper P ops draw i o = ao) (hg : gval s.ρ ao.guard = some true) (he : aev ao.op s.ρ s.H n = some (v, Δ)) (hn : μ n = none) (h : Rel P G μ s a w) :
    wpOpIn (Fw ro) 0 P ops Q i (fun a' w' => ∃ μ', Rel P G μ' ⟨setD s.ρ ao.dst v, s.H.puts Δ, s.ms⟩ a' w' ∧ μ.le μ' ∧ ∀ r, (μ' r).isSome = true → (μ r).isSome = true ∨ (r = n ∧ r < (s.H.puts Δ).length)) a w := by
  have hnb : ao.op ≠ .bad := by rintro hb; rw [hb] at he; simp [aev] at he
  obtain ⟨h1, h2, h3⟩ := coper_parts hc hnb
  have hw := wanted_of h.tr ops o h1 hg
  simp only [wpOpIn, hi, if_pos hw]
  rw [← h2] at he
  obtain ⟨x, cv, w', μ', hrun, hx, hv, hle, hH, hdom⟩ := aev_sound h.tr h.hr hn o he
  have hnd : ∀ c, o.op ≠ .defer c := by
    intro c hd
    simp [cop, hd, aev] at he
  have hfree : s.H[n]? = none ∨ s.H[n]? = some none := by
    cases hq : s.H[n]? with
    | none => exact .inl rfl
    | some y => cases y with
      | none => exact .inr rfl
      | some y => have := h.hr.nm hq; rw [hn] at this; cases this
  have hrow : ∀ r, s.H[r]? = some (some Row.dfr) → (s.H.puts Δ)[r]? = some (some Row.dfr) := fun r hr => puts_dfr he hfree hr
  have hfin : ∃ μ', Rel P G μ' ⟨setD s.ρ ao.dst v, s.H.puts Δ, s.ms⟩ (a.put o.dst cv) w' ∧ μ.le μ' ∧ ∀ r, (μ' r).isSome = true → (μ r).isSome = true ∨ (r = n ∧ r < (s.H.puts Δ).length) := by
    refine ⟨μ', ?_, hle, fun r hr => ?_⟩
    · rw [← h3]
      refine ⟨(h.tr.mono hle).put hv _, hH, fun r hr => ?_, ?_, fun r hr => hrow r (h.mkr r hr)⟩
      · have hl := Heap.le_puts Δ s.H
        rcases hdom r hr with h5 | ⟨rfl, h5⟩
        · have := h.dom r h5; simp only; omega
        · exact h5
      · rw [put_defers, h.mk']; exact (h.same_marks hle).symm
    · rcases hdom r hr with h5 | ⟨h5, h6⟩
      · exact .inl h5
      · exact .inr ⟨h5, h5 ▸ h6⟩
  unfold Oper.wpIn
  refine ⟨fun _ _ => trivial, ?_⟩
  rw [Oper.semAt_eq _ _ _ hnd, hrun]
  rcases hx with rfl | ⟨rfl, rfl⟩
  · exact hfin
  · exact hfin

theorem op_off {ao : AOper} {s : St} {i : Nat} {ops : Array Oper} {draw : Bool} {o : Oper} {Q : Exit → Act → World → Prop} {μ : Mu} {ro : Option Nat} {a : Act} {w : World}
    (hi : ops[i]? = some o) (hc : coper P ops draw i o = ao) (hg : gval s.ρ ao.guard = some false) (h : Rel P G μ s a w) :
    wpOpIn (Fw ro) 0 P ops Q i (fun a' w' => Rel P G μ ⟨setD s.ρ ao.dst (.tup []), s.H, s.ms⟩ a' w') a w := by
  obtain ⟨h1, h2⟩ := coper_guard hc hg rfl
  have hw := wanted_of h.tr ops o h1 hg
  simp only [wpOpIn, hi, hw]
  refine ⟨fun _ _ => trivial, ?_⟩
  rw [h2]
  exact ⟨h.tr.put vr_undef _, h.hr, h.dom, by rw [put_defers]; exact h.mk', h.mkr⟩
end
end Go.Sx
/- What must come before an operation. -/
namespace Go.Sx
open Go

def closeOne (acc : List (List Nat)) (o : Oper) : List Nat := ((o.after.toList.filter (Region.binds .any)).flatMap fun e => e.on :: acc.getD e.on []).eraseDups

theorem closures_snoc (l : List Oper) (o : Oper) : closures (l ++ [o]) = closures l ++ [closeOne (closures l) o] := by
  simp [closures, List.foldl_append, closeOne]

theorem closes_len (l : List Oper) : ∀ acc : List (List Nat), (l.foldl (fun acc o => acc ++ [closeOne acc o]) acc).length = acc.length + l.length := by
  induction l with
  | nil => intro acc; rfl
  | cons o l ih => intro acc; rw [List.foldl_cons, ih]; simp; omega

theorem closures_len (l : List Oper) : (closures l).length = l.length := by
  have := closes_len l []
  simpa [closures, closeOne] using this

theorem closes_keep (l : List Oper) (i : Nat) : ∀ acc : List (List Nat), i < acc.length → (l.foldl (fun acc o => acc ++ [closeOne acc o]) acc).getD i [] = acc.getD i [] := by
  induction l with
  | nil => intro acc _; rfl
  | cons o l ih =>
    intro acc h
    rw [List.foldl_cons, ih _ (by simp; omega)]
    simp [List.getD_eq_getElem?_getD, List.getElem?_append_left h]

theorem closures_take (l l' : List Oper) (i : Nat) (h : i < l.length) : (closures (l ++ l')).getD i [] = (closures l).getD i [] := by
  have e : closures (l ++ l') = l'.foldl (fun acc o => acc ++ [closeOne acc o]) (closures l) := by simp [closures, closeOne, List.foldl_append]
  rw [e]
  exact closes_keep l' i _ (by rw [closures_len]; exact h)

theorem closures_at {l : List Oper} {j : Nat} (hj : j < l.length) : (closures l).getD j [] = closeOne (closures (l.take j)) l[j] := by
  have e : (l.take j ++ [l[j]]) ++ l.drop (j + 1) = l := by simp
  have hl : (l.take j).length = j := by simp; omega
  have h1 := closures_take (l.take j ++ [l[j]]) (l.drop (j + 1)) j (by simp; omega)
  rw [e] at h1
  rw [h1, closures_snoc, List.getD_eq_getElem?_getD, List.getElem?_append_right (by rw [closures_len]; omega), closures_len, hl]
  simp

theorem closures_low {l : List Oper} {j i : Nat} (hj : j < l.length) (hi : i < j) : (closures (l.take j)).getD i [] = (closures l).getD i [] := by
  have h1 := closures_take (l.take j) (l.drop j) i (by simp; omega)
  rw [List.take_append_drop] at h1
  exact h1.symm

theorem mem_closures {l : List Oper} {j i : Nat} {o : Oper} (ho : l[j]? = some o) (h : i ∈ (closures l).getD j []) :
    ∃ e ∈ o.after.toList, Region.binds .any e = true ∧ (i = e.on ∨ i ∈ (closures l).getD e.on []) := by
  obtain ⟨hj, rfl⟩ := List.getElem?_eq_some_iff.1 ho
  rw [closures_at hj] at h
  simp only [closeOne, List.mem_eraseDups, List.mem_flatMap, List.mem_filter, List.mem_cons] at h
  obtain ⟨e', ⟨he, hb⟩, h⟩ := h
  refine ⟨e', he, hb, ?_⟩
  rcases h with h | h
  · exact .inl h
  · refine .inr ?_
    by_cases hlt : e'.on < j
    · rw [← closures_low hj hlt]; exact h
    · rw [List.getD_eq_getElem?_getD, List.getElem?_eq_none (by rw [closures_len]; simp; omega)] at h
      simp at h

theorem closures_mem {l : List Oper} {j : Nat} {o : Oper} (ho : l[j]? = some o) {e : Edge} (he : e ∈ o.after.toList) (hb : Region.binds .any e = true) : e.on ∈ (closures l).getD j [] := by
  obtain ⟨hj, rfl⟩ := List.getElem?_eq_some_iff.1 ho
  rw [closures_at hj]
  simp only [closeOne, List.mem_eraseDups, List.mem_flatMap, List.mem_filter, List.mem_cons]
  exact ⟨e, ⟨he, hb⟩, .inl rfl⟩
end Go.Sx
/- Regions whose order is drawn. -/
namespace Go.Sx
open Go

def unord (x : AOper) (j : Nat) (y : AOper) (m : Nat) : Prop := (m < j ∧ m ∈ x.free) ∨ (j < m ∧ j ∈ y.free)

instance (x : AOper) (j : Nat) (y : AOper) (m : Nat) : Decidable (unord x j y m) := by unfold unord; infer_instance

def guardTmps : Option (Nat × Bool) → List Nat
  | some (t, _) => [t]
  | none => []

def loose (l : List (AOper × Oc)) (x : AOper) (j : Nat) : List Nat := l.zipIdx.flatMap fun y => if unord x j y.1.1 y.2 then y.1.2.rows else []

def before (j : Nat) : Nat → Bool := fun m => decide (m < j)

def Heap.sub (H H' : Heap) : Prop := ∀ (r : Nat) (x : Row), H[r]? = some (some x) → H'[r]? = some (some x)

def DCall (P : Program) (g : FuncId) (args : List AVal) (Hm : Heap) (c : Oc) : Prop :=
  Callable P g = true ∧ ∀ G (H : Heap) μ (cargs : Array Value) w, Hm.sub H → (∀ r ∈ c.fs, μ r = none) → args.length = cargs.size → (∀ i, i < args.length → VR G μ (args.getD i .any) (cargs.getD i undef)) → HR P G μ H w →
    CallsIn (Fw none) 0 P g cargs w fun e w' => ∃ cv μ', e = .returned cv ∧ VR G μ' c.v cv ∧ HR P G μ' (H.puts c.Δ) w' ∧ μ.le μ' ∧ ∀ r, (μ' r).isSome = true → (μ r).isSome = true ∨ (r ∈ c.fs ∧ r < (H.puts c.Δ).length)

def CallAs (ρ : List AVal) (op : AOp) (g : FuncId) (args : List AVal) : Prop :=
  (∃ f xs ys cs, op = .call f xs ∧ opd ρ f = .fn (.func g) ys cs ∧ args = ys ++ xs.map (opd ρ) ++ cs) ∨
  (∃ tab f xs t v, op = .callM tab f xs ∧ opd ρ f = .iface t v ∧ tabAt tab t = some g ∧ args = v :: xs.map (opd ρ))
theorem CallAs.congr {ρ ρ' : List AVal} {op : AOp} {g : FuncId} {args : List AVal} (h : CallAs ρ op g args) (ht : ∀ t ∈ op.tmps, tget ρ' t = tget ρ t) : CallAs ρ' op g args := by
  rcases h with ⟨f, xs, ys, cs, rfl, h1, rfl⟩ | ⟨tab, f, xs, t, v, rfl, h1, h2, rfl⟩
  · simp only [AOp.tmps, List.mem_append, or_imp, forall_and] at ht
    exact .inl ⟨f, xs, ys, cs, rfl, by rw [opd_congr ht.1]; exact h1, by rw [opds_congr ht.2]⟩
  · simp only [AOp.tmps, List.mem_append, or_imp, forall_and] at ht
    exact .inr ⟨tab, f, xs, t, v, rfl, by rw [opd_congr ht.1]; exact h1, h2, by rw [opds_congr ht.2]⟩

structure Chk (P : Program) (s : St) (l : List (AOper × Oc)) (j : Nat) (x : AOper × Oc) : Prop where
  free : j ∉ x.1.free
  apart : ∀ m y, l[m]? = some y → unord x.1 j y.1 m → (∀ t, y.1.dst = some t → t ∉ x.1.op.tmps ∧ t ∉ guardTmps x.1.guard ∧ x.1.dst ≠ some t) ∧ ∀ r ∈ x.2.rows, r ∉ y.2.rows
  old : ∀ r ∈ x.2.fs, s.H.length ≤ r
  own : ∀ m y, l[m]? = some y → m ≠ j → ∀ r ∈ x.2.fs, r ∉ y.2.fs
  does : (gval (rAfter l 0 (before j) s.ρ) x.1.guard = some false ∧ x.2.v = .tup [] ∧ x.2.Δ = []) ∨
    (gval (rAfter l 0 (before j) s.ρ) x.1.guard = some true ∧ ∃ n, aev x.1.op (rAfter l 0 (before j) s.ρ) ((hAfter l 0 (before j) s.H).mask (loose l x.1 j)) n = some (x.2.v, x.2.Δ) ∧ (n ∈ x.2.Δ.map (·.1) → n ∈ x.2.fs)) ∨
    (gval (rAfter l 0 (before j) s.ρ) x.1.guard = some true ∧ (∀ q ∈ s.ms, q ∉ x.2.rows) ∧ ∃ g xs, CallAs (rAfter l 0 (before j) s.ρ) x.1.op g xs ∧ DCall P g xs ((hAfter l 0 (before j) s.H).mask (loose l x.1 j)) x.2)

theorem mem_loose {l : List (AOper × Oc)} {x : AOper} {j m r : Nat} {y : AOper × Oc} (hy : l[m]? = some y) (hu : unord x j y.1 m) (hr : r ∈ y.2.rows) : r ∈ loose l x j := by
  unfold loose
  refine List.mem_flatMap.2 ⟨(y, m), ?_, ?_⟩
  · rw [List.mem_iff_getElem?]
    exact ⟨m, by rw [List.getElem?_zipIdx, hy]; simp⟩
  · simp only [if_pos hu]; exact hr

section
variable {P : Program} {G : Ctx} {k : Nat} {rd : Option Nat} {s : St}

def Closed (ops : Array Oper) (D : Nat → Bool) : Prop := ∀ i m, D i = true → m ∈ (closures ops.toList).getD i [] → D m = true

variable {ops : Array Oper} {l : List (AOper × Oc)}

theorem unord_of {D : Nat → Bool} {lo : Nat} (hl : ∀ j x, lo ≤ j → l[j]? = some x → ∃ o, ops[j]? = some o ∧ coper P ops true j o = x.1) (hc : Closed ops D) {j m : Nat} {x y : AOper × Oc} (hx : l[j]? = some x) (hy : l[m]? = some y) (hloj : lo ≤ j) (hlom : lo ≤ m)
    (hfx : j ∉ x.1.free) (hfy : m ∉ y.1.free) (hDj : D j = false) (hpre : ∀ i ∈ (closures ops.toList).getD j [], D i = true) (hne : m ≠ j) (hd : D m ≠ before j m) : unord x.1 j y.1 m := by
  have frees : ∀ {i : Nat} {z : AOper × Oc}, lo ≤ i → l[i]? = some z → i ∉ z.1.free → z.1.free = (List.range i).filter fun q => !((closures ops.toList).getD i []).contains q := by
    intro i z hi hz hf
    obtain ⟨o, ho, h1⟩ := hl i z hi hz
    rw [← h1] at hf ⊢
    simp only [coper, if_true] at hf ⊢
    split at hf
    · rename_i he; rw [if_pos he]
    · simp at hf
  unfold before at hd
  by_cases hlt : m < j
  · left
    refine ⟨hlt, ?_⟩
    rw [frees hloj hx hfx]
    simp only [hlt, decide_true] at hd
    simp only [List.mem_filter, List.mem_range, hlt, true_and, Bool.not_eq_true', List.contains_eq_mem, decide_eq_false_iff_not]
    exact fun hm => hd (hpre m hm)
  · right
    have hgt : j < m := by omega
    refine ⟨hgt, ?_⟩
    rw [frees hlom hy hfy]
    simp only [hlt, decide_false] at hd
    have hD : D m = true := by cases h : D m with | true => rfl | false => exact absurd h hd
    simp only [List.mem_filter, List.mem_range, hgt, true_and, Bool.not_eq_true', List.contains_eq_mem, decide_eq_false_iff_not]
    intro hm
    have := hc m j hD hm
    rw [hDj] at this; cases this

theorem gval_congr {ρ ρ' : List AVal} {g : Option (Nat × Bool)} (h : ∀ t ∈ guardTmps g, tget ρ' t = tget ρ t) : gval ρ' g = gval ρ g := by
  cases g with
  | none => rfl
  | some p => obtain ⟨t, b⟩ := p; simp only [gval, h t (by simp [guardTmps])]

theorem op_dcall {draw : Bool} {ao : AOper} {i : Nat} {o : Oper} {Q : Exit → Act → World → Prop} {μ : Mu} {ro : Option Nat} {a : Act} {w : World} {f : AOpd} {xs : List AOpd} {g : FuncId} {fs cs : List AVal} {Hm : Heap} {c : Oc}
    (hi : ops[i]? = some o) (hcc : coper P ops draw i o = ao) (hg : gval s.ρ ao.guard = some true) (hms : ∀ q ∈ s.ms, q ∉ c.rows) (ho : ao.op = .call f xs) (hf : opd s.ρ f = .fn (.func g) fs cs)
    (hc : DCall P g (fs ++ xs.map (opd s.ρ) ++ cs) Hm c) (hsub : Hm.sub s.H) (hn : ∀ r ∈ c.fs, μ r = none) (h : Rel P G μ s a w) :
    wpOpIn (Fw ro) 0 P ops Q i (fun a' w' => ∃ μ', Rel P G μ' ⟨setD s.ρ ao.dst c.v, s.H.puts c.Δ, s.ms⟩ a' w' ∧ μ.le μ' ∧ ∀ r, (μ' r).isSome = true → (μ r).isSome = true ∨ r ∈ c.fs) a w := by
  have hnb : ao.op ≠ .bad := by rw [ho]; simp
  obtain ⟨h1, h2, h3⟩ := coper_parts hcc hnb
  have hw := wanted_of h.tr ops o h1 hg
  simp only [wpOpIn, hi, if_pos hw]
  rw [ho] at h2
  obtain ⟨cc, x, hoc, hcal, hfx, hxs⟩ := cop_call h2
  have hx := opd_sound h.hr.glob h.tr x
  rw [hfx, hf] at hx
  obtain ⟨cf, hcf⟩ : ∃ cf, a.eval x = cf := ⟨_, rfl⟩
  rw [hcf] at hx
  cases hx with
  | fn _ _ _ a' b' ha hb va vb =>
    have hnd : ∀ c', o.op ≠ .defer c' := by intro c' hd; rw [hoc] at hd; cases hd
    have hrun : (execOp a.eval o).run P w = .ok (.enter g (a' ++ cc.args.map a.eval ++ b')) w := by
      simp [execOp, hoc, resolve, hcal, hcf, Deferred.ofValue, invoke, run_callFunc hc.1]
    unfold Oper.wpIn
    refine ⟨fun _ _ => trivial, ?_⟩
    rw [Oper.semAt_eq _ _ _ hnd, hrun]
    refine ⟨fun hd => by simp [Fw, Fence.wide] at hd, ?_⟩
    have hlen : xs.length = cc.args.size := by rw [← hxs]; simp
    have := hc.2 G s.H μ (a' ++ cc.args.map a.eval ++ b') w hsub hn (by simp [ha, hb, hlen]) (fun j hj => ?_) h.hr
    · refine (callsIn_fw (ro' := ro) this).mono ?_
      rintro e w' ⟨cv, μ', rfl, hv, hH, hle, hdom⟩
      refine ⟨μ', ?_, hle, fun r hr => (hdom r hr).imp id (·.1)⟩
      rw [← h3]
      refine ⟨(h.tr.mono hle).put hv _, hH, fun r hr => ?_, ?_, fun r hr => ?_⟩
      · have hl := Heap.le_puts c.Δ s.H
        rcases hdom r hr with h5 | ⟨_, h5⟩
        · have := h.dom r h5; simp only; omega
        · exact h5
      · rw [put_defers, h.mk']; exact (h.same_marks hle).symm
      · exact (Same.off c.Δ (hms r hr) _).2 (h.mkr r hr)
    · rw [List.getD_eq_getElem?_getD, Array.getD_eq_getD_getElem?]
      by_cases hj1 : j < fs.length
      · rw [List.append_assoc, List.getElem?_append_left hj1, Array.append_assoc, Array.getElem?_append_left (by omega)]
        have := va j hj1
        rwa [List.getD_eq_getElem?_getD, Array.getD_eq_getD_getElem?] at this
      · by_cases hj2 : j < fs.length + xs.length
        · rw [List.append_assoc, List.getElem?_append_right (by omega), List.getElem?_append_left (by simp; omega), Array.append_assoc, Array.getElem?_append_right (by omega), Array.getElem?_append_left (by simp; omega)]
          subst hxs
          have hjx : j - fs.length < cc.args.size := by simp at hj2; omega
          simp only [List.map_map, List.getElem?_map, Array.getElem?_map, ← ha, Array.getElem?_toList]
          simp [hjx]
          exact opd_sound h.hr.glob h.tr _
        · rw [List.getElem?_append_right (by simp; omega), Array.getElem?_append_right (by simp; omega)]
          have := vb (j - fs.length - xs.length) (by simp at hj; omega)
          rw [List.getD_eq_getElem?_getD, Array.getD_eq_getD_getElem?] at this
          have e1 : j - (fs ++ xs.map (opd s.ρ)).length = j - fs.length - xs.length := by simp; omega
          have e2 : j - (a' ++ cc.args.map a.eval).size = j - fs.length - xs.length := by simp; omega
          rw [e1, e2]; exact this

theorem op_dcallM {draw : Bool} {ao : AOper} {i : Nat} {o : Oper} {Q : Exit → Act → World → Prop} {μ : Mu} {ro : Option Nat} {a : Act} {w : World} {tab : List (Nat × Nat)} {f : AOpd} {xs : List AOpd} {g : FuncId} {t : TypeId} {v : AVal} {Hm : Heap} {c : Oc}
    (hi : ops[i]? = some o) (hcc : coper P ops draw i o = ao) (hg : gval s.ρ ao.guard = some true) (hms : ∀ q ∈ s.ms, q ∉ c.rows) (ho : ao.op = .callM tab f xs) (hf : opd s.ρ f = .iface t v) (ht : tabAt tab t = some g)
    (hc : DCall P g (v :: xs.map (opd s.ρ)) Hm c) (hsub : Hm.sub s.H) (hn : ∀ r ∈ c.fs, μ r = none) (h : Rel P G μ s a w) :
    wpOpIn (Fw ro) 0 P ops Q i (fun a' w' => ∃ μ', Rel P G μ' ⟨setD s.ρ ao.dst c.v, s.H.puts c.Δ, s.ms⟩ a' w' ∧ μ.le μ' ∧ ∀ r, (μ' r).isSome = true → (μ r).isSome = true ∨ r ∈ c.fs) a w := by
  have hnb : ao.op ≠ .bad := by rw [ho]; simp
  obtain ⟨h1, h2, h3⟩ := coper_parts hcc hnb
  have hw := wanted_of h.tr ops o h1 hg
  simp only [wpOpIn, hi, if_pos hw]
  rw [ho] at h2
  obtain ⟨cc, x, name, hoc, hcal, htab, hfx, hxs⟩ := cop_callM h2
  subst htab
  have hm := methTab_at ht
  have hx := opd_sound h.hr.glob h.tr x
  rw [hfx, hf] at hx
  obtain ⟨cf, hcf⟩ : ∃ cf, a.eval x = cf := ⟨_, rfl⟩
  rw [hcf] at hx
  cases hx with
  | iface _ _ cv hvv =>
    have hnd : ∀ c', o.op ≠ .defer c' := by intro c' hd; rw [hoc] at hd; cases hd
    have hrun : (execOp a.eval o).run P w = .ok (.enter g (#[cv] ++ cc.args.map a.eval)) w := by
      have hmr := run_method hm (P.types.size + Made.depth - 1) cv w
      have hd : P.types.size + Made.depth - 1 + 1 = P.types.size + Made.depth := by have : Made.depth = Made.depth := rfl; unfold Made.depth; omega
      rw [hd] at hmr
      have e0 : (#[Value.iface t cv] ++ cc.args.map a.eval)[0]? = some (.iface t cv) := by rw [Array.getElem?_append_left (by simp)]; rfl
      have e1 : (cc.args.map a.eval).extract 0 cc.args.size = cc.args.map a.eval := by simp
      simp [execOp, hoc, resolve, hcal, hcf, Deferred.ofValue, invoke, callMethod]
      rw [e0]
      simp [e1, hmr, Result.andThen, run_callFunc hc.1]
    unfold Oper.wpIn
    refine ⟨fun _ _ => trivial, ?_⟩
    rw [Oper.semAt_eq _ _ _ hnd, hrun]
    refine ⟨fun hd => by simp [Fw, Fence.wide] at hd, ?_⟩
    have hlen : xs.length = cc.args.size := by rw [← hxs]; simp
    have := hc.2 G s.H μ (#[cv] ++ cc.args.map a.eval) w hsub hn (by simp [hlen]; omega) (fun j hj => ?_) h.hr
    · refine (callsIn_fw (ro' := ro) this).mono ?_
      rintro e w' ⟨cv, μ', rfl, hv, hH, hle, hdom⟩
      refine ⟨μ', ?_, hle, fun r hr => (hdom r hr).imp id (·.1)⟩
      rw [← h3]
      refine ⟨(h.tr.mono hle).put hv _, hH, fun r hr => ?_, ?_, fun r hr => ?_⟩
      · have hl := Heap.le_puts c.Δ s.H
        rcases hdom r hr with h5 | ⟨_, h5⟩
        · have := h.dom r h5; simp only; omega
        · exact h5
      · rw [put_defers, h.mk']; exact (h.same_marks hle).symm
      · exact (Same.off c.Δ (hms r hr) _).2 (h.mkr r hr)
    · rw [List.getD_eq_getElem?_getD, Array.getD_eq_getD_getElem?]
      cases j with
      | zero =>
        have e : (#[cv] ++ cc.args.map a.eval)[0]? = some cv := by rw [Array.getElem?_append_left (by simp)]; rfl
        rw [e]; exact hvv
      | succ j =>
        subst hxs
        have hjx : j < cc.args.size := by simp at hj; omega
        rw [List.getElem?_cons_succ, Array.getElem?_append_right (by simp)]
        simp only [List.map_map, List.getElem?_map, Array.getElem?_map, Array.getElem?_toList]
        simp [hjx]
        exact opd_sound h.hr.glob h.tr _
theorem op_dcallA {draw : Bool} {ao : AOper} {i : Nat} {o : Oper} {Q : Exit → Act → World → Prop} {μ : Mu} {ro : Option Nat} {a : Act} {w : World} {g : FuncId} {args : List AVal} {Hm : Heap} {c : Oc}
    (hi : ops[i]? = some o) (hcc : coper P ops draw i o = ao) (hg : gval s.ρ ao.guard = some true) (hms : ∀ q ∈ s.ms, q ∉ c.rows) (ha : CallAs s.ρ ao.op g args)
    (hc : DCall P g args Hm c) (hsub : Hm.sub s.H) (hn : ∀ r ∈ c.fs, μ r = none) (h : Rel P G μ s a w) :
    wpOpIn (Fw ro) 0 P ops Q i (fun a' w' => ∃ μ', Rel P G μ' ⟨setD s.ρ ao.dst c.v, s.H.puts c.Δ, s.ms⟩ a' w' ∧ μ.le μ' ∧ ∀ r, (μ' r).isSome = true → (μ r).isSome = true ∨ r ∈ c.fs) a w := by
  rcases ha with ⟨f, xs, ys, cs, h1, h2, rfl⟩ | ⟨tab, f, xs, t, v, h1, h2, h3, rfl⟩
  · exact op_dcall hi hcc hg hms h1 h2 hc hsub hn h
  · exact op_dcallM hi hcc hg hms h1 h2 h3 hc hsub hn h

theorem op_dc {ao : AOper} {K : St → Prop} {f : AOpd} {xs : List AOpd} {g : FuncId} {fs cs : List AVal} {c : Oc} (hg : gval s.ρ ao.guard = some true) (hms : ∀ q ∈ s.ms, q ∉ c.rows) (ho : ao.op = .call f xs)
    (hf : opd s.ρ f = .fn (.func g) fs cs) (hc : DCall P g (fs ++ xs.map (opd s.ρ) ++ cs) s.H c) (hfs : ∀ r ∈ c.fs, s.H.length ≤ r) (hK : K ⟨setD s.ρ ao.dst c.v, s.H.puts c.Δ, s.ms⟩) : OpA P G k rd ao s K := by
  intro ops draw i o Q hi hcc μ ro a w hrd hR
  refine wpOpIn_mono ?_ (op_dcall hi hcc hg hms ho hf hc (fun _ _ h => h) (fun r hr => ?_) hR)
  · rintro a' w' ⟨μ', h1, h2, _⟩
    exact ⟨μ', _, hK, Mu.leB_of h2, h1⟩
  · cases h : μ r with
    | none => rfl
    | some p => have := hR.dom r (by rw [h]; rfl); have := hfs r hr; omega

theorem draw_step {D : Nat → Bool} {lo : Nat} (hl : ∀ j x, lo ≤ j → l[j]? = some x → ∃ o, ops[j]? = some o ∧ coper P ops true j o = x.1) (hchk : ∀ j x, lo ≤ j → l[j]? = some x → Chk P s l j x) (hD0 : ∀ m, m < lo → D m = true) (hc : Closed ops D) {j : Nat} {x : AOper × Oc} (hloj : lo ≤ j) (hx : l[j]? = some x)
    (hDj : D j = false) (hpre : ∀ i ∈ (closures ops.toList).getD j [], D i = true) {Q : Exit → Act → World → Prop} {μ : Mu} {ro : Option Nat} {a : Act} {w : World}
    (hR : Rel P G μ ⟨rAfter l 0 D s.ρ, hAfter l 0 D s.H, s.ms⟩ a w) (hn : ∀ r ∈ x.2.fs, μ r = none) :
    wpOpIn (Fw ro) 0 P ops Q j (fun a' w' => ∃ μ', Rel P G μ' ⟨rAfter l 0 (upd D j) s.ρ, hAfter l 0 (upd D j) s.H, s.ms⟩ a' w' ∧ μ.le μ' ∧ ∀ r, (μ' r).isSome = true → (μ r).isSome = true ∨ r ∈ x.2.fs) a w := by
  have hk := hchk j x hloj hx
  have hun : ∀ m y, l[m]? = some y → D m ≠ before j m → unord x.1 j y.1 m := fun m y hy hd => by
    have hlom : lo ≤ m := by
      refine Decidable.byContradiction fun h => hd ?_
      rw [hD0 m (by omega)]
      have : m < j := by omega
      simp [before, this]
    refine unord_of hl hc hx hy hloj hlom hk.free (hchk m y hlom hy).free hDj hpre ?_ hd
    rintro rfl
    exact hd (by rw [hDj]; simp [before])
  have ht : ∀ t, t ∈ x.1.op.tmps ∨ t ∈ guardTmps x.1.guard → tget (rAfter l 0 D s.ρ) t = tget (rAfter l 0 (before j) s.ρ) t := fun t ht => by
    refine rAfter_tget t l 0 D (before j) _ _ rfl rfl fun m y hy hyd => ?_
    simp only [Nat.zero_add]
    refine Decidable.byContradiction fun hd => ?_
    have := (hk.apart m y hy (hun m y hy hd)).1 t hyd
    rcases ht with ht | ht
    · exact this.1 ht
    · exact this.2.1 ht
  have hsame : ∀ r, r ∉ loose l x.1 j → Same r (hAfter l 0 (before j) s.H) (hAfter l 0 D s.H) := by
    refine fun r hr => hAfter_same r l 0 _ _ _ _ (Same.refl _ _) fun m y hy hyr => ?_
    simp only [Nat.zero_add]
    refine Decidable.byContradiction fun hd => hr (mem_loose hy (hun m y hy (Ne.symm hd)) hyr)
  have hle : ((hAfter l 0 (before j) s.H).mask (loose l x.1 j)).le (hAfter l 0 D s.H) := mask_le hsame
  have hsub : ((hAfter l 0 (before j) s.H).mask (loose l x.1 j)).sub (hAfter l 0 D s.H) := fun r y hy => by
    rw [mask_get] at hy
    exact (hsame r hy.1 y).1 hy.2
  have hg : gval (rAfter l 0 D s.ρ) x.1.guard = gval (rAfter l 0 (before j) s.ρ) x.1.guard := gval_congr fun t h => ht t (.inr h)
  have late : ∀ m y, l[m]? = some y → j < m → D (0 + m) = true → unord x.1 j y.1 m := fun m y hy hjm hd => hun m y hy (by
    rw [Nat.zero_add] at hd
    have h2 : before j m = false := by simp [before]; omega
    rw [hd, h2]; simp)
  have e1 : rAfter l 0 (upd D j) s.ρ = setD (rAfter l 0 D s.ρ) x.1.dst x.2.v := by
    have := rAfter_add l 0 j D s.ρ hx (by rw [Nat.zero_add]; exact hDj) fun m y t hy hjm hd hxt hyt => ((hk.apart m y hy (late m y hy hjm hd)).1 t hyt).2.2 hxt
    rwa [Nat.zero_add] at this
  have e2 : hAfter l 0 (upd D j) s.H = (hAfter l 0 D s.H).puts x.2.Δ := by
    have := hAfter_add l 0 j D s.H hx (by rw [Nat.zero_add]; exact hDj) fun m y hy hjm hd => (hk.apart m y hy (late m y hy hjm hd)).2
    rwa [Nat.zero_add] at this
  obtain ⟨o, ho, hco⟩ := hl j x hloj hx
  rw [e1, e2]
  rcases hk.does with ⟨h1, h2, h3⟩ | ⟨h1, n, h2, h2'⟩ | ⟨h1, h2, g, xs, h3, h5⟩
  · rw [h2, h3]
    refine wpOpIn_mono (fun a' w' h => ⟨μ, h, Mu.le_refl _, fun r hr => .inl hr⟩) (op_off (s := ⟨rAfter l 0 D s.ρ, hAfter l 0 D s.H, s.ms⟩) ho hco (by rw [hg]; exact h1) hR)
  · have he := aev_mono hle (mask_leM hsame) (by rw [aev_congr fun t h => ht t (.inl h)]; exact h2)
    by_cases hnd : n ∈ x.2.Δ.map (·.1)
    · exact wpOpIn_mono (fun a' w' ⟨μ', k1, k2, k3⟩ => ⟨μ', k1, k2, fun r hr => by
        rcases k3 r hr with h | ⟨rfl, _⟩
        · exact .inl h
        · exact .inr (h2' hnd)⟩) (op_at (s := ⟨rAfter l 0 D s.ρ, hAfter l 0 D s.H, s.ms⟩) ho hco (by rw [hg]; exact h1) he (hn n (h2' hnd)) hR)
    · have he' := aev_free (n' := max (hAfter l 0 D s.H).length ((hAfter l 0 D s.H).puts x.2.Δ).length) he hnd
      exact wpOpIn_mono (fun a' w' ⟨μ', k1, k2, k3⟩ => ⟨μ', k1, k2, fun r hr => by
        rcases k3 r hr with h | ⟨rfl, h⟩
        · exact .inl h
        · exact absurd h (by dsimp only; omega)⟩) (op_at (s := ⟨rAfter l 0 D s.ρ, hAfter l 0 D s.H, s.ms⟩) ho hco (by rw [hg]; exact h1) he' (by
          cases hq : μ (max (hAfter l 0 D s.H).length ((hAfter l 0 D s.H).puts x.2.Δ).length) with
          | none => rfl
          | some p => have := hR.dom _ (by rw [hq]; rfl); simp only at this; omega) hR)
  · exact op_dcallA (s := ⟨rAfter l 0 D s.ρ, hAfter l 0 D s.H, s.ms⟩) ho hco (by rw [hg]; exact h1) h2 (h3.congr fun t h => ht t (.inl h)) h5 hsub hn hR

def gone : AOper × Oc := (⟨none, .bad, none, []⟩, ⟨.any, [], []⟩)

theorem rAfter_upto (l : List (AOper × Oc)) : ∀ (i : Nat) (D D' : Nat → Bool) (ρ : List AVal), (∀ m, m < l.length → D (i + m) = D' (i + m)) → rAfter l i D ρ = rAfter l i D' ρ := by
  induction l with
  | nil => intros; rfl
  | cons x l ih =>
    intro i D D' ρ h
    have h0 := h 0 (by simp)
    simp only [Nat.add_zero] at h0
    simp only [rAfter, h0]
    exact ih _ _ _ _ fun j hj => by have := h (j + 1) (by simp; omega); rwa [show i + (j + 1) = i + 1 + j by omega] at this
theorem hAfter_upto (l : List (AOper × Oc)) : ∀ (i : Nat) (D D' : Nat → Bool) (H : Heap), (∀ m, m < l.length → D (i + m) = D' (i + m)) → hAfter l i D H = hAfter l i D' H := by
  induction l with
  | nil => intros; rfl
  | cons x l ih =>
    intro i D D' H h
    have h0 := h 0 (by simp)
    simp only [Nat.add_zero] at h0
    simp only [hAfter, h0]
    exact ih _ _ _ _ fun j hj => by have := h (j + 1) (by simp; omega); rwa [show i + (j + 1) = i + 1 + j by omega] at this
theorem rAfter_gone (l : List (AOper × Oc)) : ∀ (i : Nat) (D : Nat → Bool) (ρ : List AVal), (∀ j x, l[j]? = some x → D (i + j) = false ∨ x = gone) → rAfter l i D ρ = ρ := by
  induction l with
  | nil => intros; rfl
  | cons x l ih =>
    intro i D ρ h
    have e : (if D i = true then setD ρ x.1.dst x.2.v else ρ) = ρ := by
      rcases h 0 x (by simp) with h | h
      · simp only [Nat.add_zero] at h; simp [h]
      · subst h; simp [gone, setD]
    simp only [rAfter, e]
    exact ih _ _ _ fun j y hy => by have := h (j + 1) y (by simpa using hy); rwa [show i + (j + 1) = i + 1 + j by omega] at this
theorem hAfter_gone (l : List (AOper × Oc)) : ∀ (i : Nat) (D : Nat → Bool) (H : Heap), (∀ j x, l[j]? = some x → D (i + j) = false ∨ x = gone) → hAfter l i D H = H := by
  induction l with
  | nil => intros; rfl
  | cons x l ih =>
    intro i D H h
    have e : (if D i = true then H.puts x.2.Δ else H) = H := by
      rcases h 0 x (by simp) with h | h
      · simp only [Nat.add_zero] at h; simp [h]
      · subst h; simp [gone, Heap.puts]
    simp only [hAfter, e]
    exact ih _ _ _ fun j y hy => by have := h (j + 1) y (by simpa using hy); rwa [show i + (j + 1) = i + 1 + j by omega] at this

def DR (P : Program) (G : Ctx) (k : Nat) (rd : Option Nat) (ops : Array Oper) (lo : Nat) (s : St) (K : St → Prop) : Prop :=
  ∀ μ ro a w (L : Array Bool) (fuel : Nat) (Q : Exit → Act → World → Prop), RdOK k μ rd ro → Rel P G μ s a w → L.size = ops.size → (∀ m, m < ops.size → L.getD m true = decide (m < lo)) → L.toList.count false ≤ fuel →
    (∀ μ' s' a' w', K s' → Mu.leB k μ μ' → Rel P G μ' s' a' w' → Q .normal a' w') → wpAnyIn (Fw ro) 0 P .any ops Q fuel L a w

def Upward (ops : Array Oper) : Prop := ∀ (j : Nat) (o : Oper), ops[j]? = some o → edgesOk j o = true

theorem closures_lt (hu : Upward ops) : ∀ (i m : Nat), m ∈ (closures ops.toList).getD i [] → m < i := by
  intro i
  induction i using Nat.strongRecOn with
  | ind i ih =>
    intro m hm
    by_cases hi : i < ops.size
    · obtain ⟨e, he1, he2, he3⟩ := mem_closures (l := ops.toList) (j := i) (o := ops[i]) (by simp [hi]) hm
      have hlt : e.on < i := by
        have := List.all_eq_true.1 (hu i ops[i] (by simp [hi])) e (List.mem_filter.2 ⟨he1, he2⟩)
        simpa using this
      rcases he3 with rfl | he3
      · exact hlt
      · have := ih e.on hlt m he3; omega
    · rw [List.getD_eq_getElem?_getD, List.getElem?_eq_none (by rw [closures_len]; simp; omega)] at hm
      simp at hm

theorem lt_closed (hu : Upward ops) (lo : Nat) {D : Nat → Bool} (hD : ∀ m, m < ops.size → D m = decide (m < lo)) (hD' : ∀ m, ops.size ≤ m → D m = true) : Closed ops D := by
  intro i m hi hm
  have hlt := closures_lt hu i m hm
  by_cases hs : i < ops.size
  · rw [hD i hs] at hi
    rw [hD m (by omega)]
    simp at hi ⊢; omega
  · rw [List.getD_eq_getElem?_getD, List.getElem?_eq_none (by rw [closures_len]; simp; omega)] at hm
    simp at hm

theorem getD_big {L : Array Bool} {m : Nat} (h : L.size ≤ m) : L.getD m true = true := by simp [Array.getD, Nat.not_lt.2 h]

theorem upd_getD {L : Array Bool} {j : Nat} (hj : j < L.size) : (fun m => (L.setIfInBounds j true).getD m true) = upd (fun m => L.getD m true) j := by
  funext m
  unfold upd
  by_cases hmj : m = j
  · subst hmj
    rw [if_pos rfl]
    simp [Array.getD, hj]
  · rw [if_neg hmj]
    by_cases hs : m < L.size
    · simp [Array.getD, hs, Array.getElem_setIfInBounds, Ne.symm hmj]
    · simp [Array.getD, hs]

theorem count_upd {L : Array Bool} {j n : Nat} (hj : j < L.size) (h0 : L.getD j true = false) (h : L.toList.count false ≤ n + 1) : (L.setIfInBounds j true).toList.count false ≤ n := by
  have hjl : j < L.toList.length := by simpa using hj
  have h0 : L.toList[j] = false := by
    simp [Array.getD, hj] at h0
    simpa using h0
  have h1 : (L.toList.set j true).count false = L.toList.count false - 1 := by rw [List.count_set hjl, h0]; simp
  have h2 : 0 < L.toList.count false := List.count_pos_iff.2 (by rw [← h0]; exact List.getElem_mem hjl)
  rw [Array.toList_setIfInBounds, h1]
  omega

theorem first_ready (hu : Upward ops) {L : Array Bool} {j : Nat} (hsz : L.size = ops.size) (hj : L.getD j true = false) (hb : ∀ m, m < j → L.getD m true = true) : j ∈ Region.ready .any ops L := by
  have hjs : j < ops.size := by
    rw [← hsz]
    refine Decidable.byContradiction fun h => ?_
    rw [getD_big (by omega)] at hj; cases hj
  unfold Region.ready
  rw [List.mem_filter]
  refine ⟨List.mem_range.2 hjs, ?_⟩
  rw [hj, Array.getElem?_eq_getElem hjs]
  simp only [Bool.not_false, Bool.true_and, Option.map_some, Option.getD_some, Array.all_eq_true_iff_forall_mem, Bool.or_eq_true, Bool.not_eq_true']
  intro e hem
  by_cases hbd : Region.binds .any e = true
  · right
    have hlt : e.on < j := by
      have := List.all_eq_true.1 (hu j ops[j] (by simp [hjs])) e (List.mem_filter.2 ⟨by simpa using hem, hbd⟩)
      simpa using this
    have h3 := hb e.on hlt
    have hs : e.on < L.size := by omega
    simp [Array.getD, hs] at h3 ⊢
    exact h3
  · left; simpa using hbd

theorem ready_pre {L : Array Bool} {j : Nat} (hsz : L.size = ops.size) (hcl : Closed ops fun m => L.getD m true) (hj : j ∈ Region.ready .any ops L) :
    j < ops.size ∧ L.getD j true = false ∧ ∀ i ∈ (closures ops.toList).getD j [], L.getD i true = true := by
  unfold Region.ready at hj
  rw [List.mem_filter] at hj
  obtain ⟨hjs, hj2⟩ := hj
  have hjs := List.mem_range.1 hjs
  rw [Array.getElem?_eq_getElem hjs] at hj2
  simp only [Option.map_some, Option.getD_some, Bool.and_eq_true, Bool.not_eq_true', Array.all_eq_true_iff_forall_mem, Bool.or_eq_true] at hj2
  obtain ⟨hDj, hedges⟩ := hj2
  have hon : ∀ e ∈ ops[j].after.toList, Region.binds .any e = true → L.getD e.on true = true := by
    intro e hem hb
    rcases hedges e (by simpa using hem) with h | h
    · rw [hb] at h; cases h
    · by_cases hs : e.on < L.size
      · simp [Array.getD, hs] at h ⊢; exact h
      · simp [Array.getD, hs]
  refine ⟨hjs, hDj, fun i hi => ?_⟩
  obtain ⟨e, he1, he2, he3⟩ := mem_closures (l := ops.toList) (j := j) (o := ops[j]) (by simp [hjs]) hi
  rcases he3 with rfl | he3
  · exact hon e he1 he2
  · exact hcl e.on i (hon e he1 he2) he3

theorem dr_end {lo : Nat} {K : St → Prop} (hlo : ops.size ≤ lo) (h : K s) : DR P G k rd ops lo s K := by
  intro μ ro a w L fuel Q _ hR hsz hL _ hQ
  refine wpAnyIn_done ?_ (hQ μ s a w h (Mu.leB_refl _ _) hR) fuel
  unfold Region.ready
  rw [List.filter_eq_nil_iff]
  intro i hi
  have := hL i (List.mem_range.1 hi)
  rw [this]
  simp; intro h; have := List.mem_range.1 hi; omega

theorem dr_bar (hu : Upward ops) {lo : Nat} {o : Oper} {K : St → Prop} (ho : ops[lo]? = some o) (hafter : ∀ m, lo < m → m < ops.size → lo ∈ (closures ops.toList).getD m [])
    (h : OpA P G k rd (coper P ops true lo o) s fun s' => DR P G k rd ops (lo + 1) s' K) : DR P G k rd ops lo s K := by
  intro μ ro a w L fuel Q hrd hR hsz hL hcnt hQ
  have hlo : lo < ops.size := (Array.getElem?_eq_some_iff.1 ho).1
  have h0 : L.getD lo true = false := by rw [hL lo hlo]; simp
  have hcl : Closed ops fun m => L.getD m true := lt_closed hu lo hL fun m hm => getD_big (by omega)
  have hone : ∀ j ∈ Region.ready .any ops L, j = lo := by
    intro j hj
    obtain ⟨h1, h2, h3⟩ := ready_pre hsz hcl hj
    rw [hL j h1] at h2
    have h2 : lo ≤ j := by simpa using h2
    rcases Nat.lt_or_ge lo j with h4 | h4
    · have := h3 lo (hafter j h4 h1)
      rw [h0] at this; cases this
    · omega
  have hin : lo ∈ Region.ready .any ops L := first_ready hu hsz h0 fun m hm => by rw [hL m (by omega)]; simpa using hm
  cases fuel with
  | zero =>
    exfalso
    have h2 : 0 < L.toList.count false := List.count_pos_iff.2 (by
      have : lo < L.size := by omega
      simp [Array.getD, this] at h0
      rw [← h0]; simp)
    omega
  | succ fuel =>
    refine ⟨fun hn => absurd hin (by rw [hn]; exact List.not_mem_nil), fun j hj => ?_⟩
    obtain rfl := hone j hj
    refine wpOpIn_mono ?_ (h ops true j o Q ho rfl μ ro a w hrd hR)
    rintro a' w' ⟨μ', s', hs', hle, hR'⟩
    refine hs' μ' ro a' w' _ fuel Q (hrd.mono hle) hR' (by simpa using hsz) (fun m hm => ?_) (count_upd (by omega) h0 hcnt) fun μ₂ s₂ a₂ w₂ h1 h2 h3 => hQ μ₂ s₂ a₂ w₂ h1 (Mu.leB_trans hle h2) h3
    have := congrFun (upd_getD (L := L) (j := j) (by omega)) m
    rw [this]
    unfold upd
    by_cases hmj : m = j
    · subst hmj; simp
    · rw [if_neg hmj]
      show L.getD m true = _
      rw [hL m hm]
      simp only [decide_eq_decide]; omega

theorem dr_seg (hu : Upward ops) {l : List (AOper × Oc)} {lo : Nat} {K : St → Prop} (hlen : l.length ≤ ops.size) (hlo : lo ≤ l.length) (hl : ∀ j x, lo ≤ j → l[j]? = some x → ∃ o, ops[j]? = some o ∧ coper P ops true j o = x.1)
    (hgone : ∀ j x, j < lo → l[j]? = some x → x = gone) (hchk : ∀ j x, lo ≤ j → l[j]? = some x → Chk P s l j x) (hcut : ∀ m j, l.length ≤ m → m < ops.size → lo ≤ j → j < l.length → j ∈ (closures ops.toList).getD m [])
    (h : DR P G k rd ops l.length ⟨rAfter l 0 (fun _ => true) s.ρ, hAfter l 0 (fun _ => true) s.H, s.ms⟩ K) : DR P G k rd ops lo s K := by
  intro μ ro a w L fuel Q hrd hR hsz hL hcnt hQ
  have key : ∀ (fuel : Nat) (L : Array Bool) (μ' : Mu) (a : Act) (w : World), L.size = ops.size → L.toList.count false ≤ fuel → Closed ops (fun m => L.getD m true) → Mu.leB k μ μ' → (∀ m, m < lo → L.getD m true = true) →
      (∀ m, l.length ≤ m → m < ops.size → L.getD m true = false) →
      (∀ j x, l[j]? = some x → L.getD j true = false → ∀ r ∈ x.2.fs, μ' r = none) → Rel P G μ' ⟨rAfter l 0 (fun m => L.getD m true) s.ρ, hAfter l 0 (fun m => L.getD m true) s.H, s.ms⟩ a w →
      wpAnyIn (Fw ro) 0 P .any ops Q fuel L a w := by
    have fin : ∀ (fuel : Nat) (L : Array Bool) (μ' : Mu) (a : Act) (w : World), L.size = ops.size → L.toList.count false ≤ fuel → (∀ m, l.length ≤ m → m < ops.size → L.getD m true = false) → (∀ j, j < l.length → L.getD j true = true) → Mu.leB k μ μ' →
        Rel P G μ' ⟨rAfter l 0 (fun m => L.getD m true) s.ρ, hAfter l 0 (fun m => L.getD m true) s.H, s.ms⟩ a w → wpAnyIn (Fw ro) 0 P .any ops Q fuel L a w := by
      intro fuel L μ' a w hsz hcnt hhi hall hle hR'
      have e1 : rAfter l 0 (fun m => L.getD m true) s.ρ = rAfter l 0 (fun _ => true) s.ρ := by
        rw [rAfter_upto l 0 _ (fun _ => true) s.ρ]; intro m hm; simpa using hall m (by omega)
      have e2 : hAfter l 0 (fun m => L.getD m true) s.H = hAfter l 0 (fun _ => true) s.H := by
        rw [hAfter_upto l 0 _ (fun _ => true) s.H]; intro m hm; simpa using hall m (by omega)
      rw [e1, e2] at hR'
      refine h μ' ro a w L fuel Q (hrd.mono hle) hR' hsz (fun m hm => ?_) hcnt fun μ₂ s₂ a₂ w₂ h1 h2 h3 => hQ μ₂ s₂ a₂ w₂ h1 (Mu.leB_trans hle h2) h3
      by_cases hml : m < l.length
      · rw [hall m hml]; simp [hml]
      · rw [hhi m (by omega) hm]; simp [hml]
    intro fuel
    induction fuel with
    | zero =>
      intro L μ' a w hsz hcnt hcl hle hlo0 hhi hfr hR'
      refine fin 0 L μ' a w hsz hcnt hhi (fun j hj => ?_) hle hR'
      have : false ∉ L.toList := List.count_eq_zero.1 (by omega)
      cases h : L.getD j true with
      | true => rfl
      | false =>
        refine absurd ?_ this
        by_cases hj : j < L.size
        · simp [Array.getD, hj] at h; rw [← h]; simp
        · simp [Array.getD, hj] at h
    | succ fuel ih =>
      intro L μ' a w hsz hcnt hcl hle hlo0 hhi hfr hR'
      by_cases hall : ∀ j, j < l.length → L.getD j true = true
      · exact fin (fuel + 1) L μ' a w hsz hcnt hhi hall hle hR'
      · have hlast : ∀ m, (∀ j, j < m → j < l.length → L.getD j true = true) ∨ ∃ j, j < m ∧ j < l.length ∧ L.getD j true = false ∧ ∀ i, i < j → L.getD i true = true := by
          intro m
          induction m with
          | zero => exact .inl fun j hj => by omega
          | succ m ihm =>
            rcases ihm with h1 | ⟨j, h1, h2, h3⟩
            · by_cases hm : m < l.length
              · cases hv : L.getD m true with
                | true =>
                  left
                  intro j hj hjl
                  by_cases hjm : j = m
                  · subst hjm; exact hv
                  · exact h1 j (by omega) hjl
                | false => exact .inr ⟨m, by omega, hm, hv, fun i hi => h1 i hi (by omega)⟩
              · left
                intro j hj hjl
                exact h1 j (by omega) hjl
            · exact .inr ⟨j, by omega, h2, h3⟩
        obtain ⟨j0, _, hj0, hj0f, hj0b⟩ : ∃ j, j < l.length ∧ j < l.length ∧ L.getD j true = false ∧ ∀ i, i < j → L.getD i true = true := by
          rcases hlast l.length with h1 | h1
          · exact absurd (fun j hj => h1 j hj hj) hall
          · exact h1
        have hin : j0 ∈ Region.ready .any ops L := first_ready hu hsz hj0f hj0b
        refine ⟨fun hn => absurd hin (by rw [hn]; exact List.not_mem_nil), fun j hj => ?_⟩
        obtain ⟨hjs, hDj, hpre⟩ := ready_pre hsz hcl hj
        have hloj : lo ≤ j := by
          refine Decidable.byContradiction fun hc => ?_
          rw [hlo0 j (by omega)] at hDj; cases hDj
        have hjl : j < l.length := by
          refine Decidable.byContradiction fun hc => ?_
          have hj0lo : lo ≤ j0 := by
            refine Decidable.byContradiction fun hc => ?_
            rw [hlo0 j0 (by omega)] at hj0f; cases hj0f
          have := hpre j0 (hcut j j0 (by omega) hjs hj0lo hj0)
          rw [hj0f] at this; cases this
        have hx : l[j]? = some l[j] := List.getElem?_eq_getElem hjl
        have hupd := upd_getD (L := L) (j := j) (by omega)
        refine wpOpIn_mono ?_ (draw_step hl hchk hlo0 hcl hloj hx hDj hpre hR' (hfr j _ hx hDj))
        rintro a' w' ⟨μ'', hR'', hle', hnew⟩
        refine ih (L.setIfInBounds j true) μ'' a' w' (by simpa using hsz) (count_upd (by omega) hDj hcnt) ?_ (Mu.leB_trans hle (Mu.leB_of hle')) ?_ ?_ ?_ ?_
        · intro i m hi hmi
          rw [hupd] at hi ⊢
          unfold upd at hi ⊢
          by_cases hmj : m = j
          · rw [if_pos hmj]
          · rw [if_neg hmj]
            by_cases hij : i = j
            · subst hij; exact hpre m hmi
            · rw [if_neg hij] at hi; exact hcl i m hi hmi
        · intro m hm
          have := congrFun hupd m
          rw [this]
          unfold upd
          rw [if_neg (by omega)]; exact hlo0 m hm
        · intro m hm hms
          have := congrFun hupd m
          rw [this]
          unfold upd
          rw [if_neg (by omega)]; exact hhi m hm hms
        · intro i y hy hi r hr
          have := congrFun hupd i
          rw [this] at hi
          unfold upd at hi
          split at hi
          · cases hi
          · rename_i hij
            cases hq : μ'' r with
            | none => rfl
            | some p =>
              rcases hnew r (by rw [hq]; rfl) with h | h
              · rw [hfr i y hy hi r hr] at h; cases h
              · exact absurd hr ((hchk j _ hloj hx).own i y hy hij r h)
        · rw [hupd]; exact hR''
  refine key fuel L μ a w hsz hcnt (lt_closed hu lo hL fun m hm => getD_big (by omega)) (Mu.leB_refl _ _) (fun m hm => by rw [hL m (by omega)]; simpa using hm) (fun m h1 h2 => by rw [hL m h2]; simp; omega) ?_ ?_
  · intro j x hx hj r hr
    have hjl : j < l.length := (List.getElem?_eq_some_iff.1 hx).1
    have hloj : lo ≤ j := by
      rw [hL j (by omega)] at hj
      simpa using hj
    cases hq : μ r with
    | none => rfl
    | some p => have := hR.dom r (by rw [hq]; rfl); have := (hchk j x hloj hx).old r hr; omega
  · have e1 : rAfter l 0 (fun m => L.getD m true) s.ρ = s.ρ := rAfter_gone l 0 _ _ fun j x hx => by
      by_cases hj : j < lo
      · exact .inr (hgone j x hj hx)
      · left
        have hjl : j < l.length := (List.getElem?_eq_some_iff.1 hx).1
        rw [Nat.zero_add, hL j (by omega)]; simp; omega
    have e2 : hAfter l 0 (fun m => L.getD m true) s.H = s.H := hAfter_gone l 0 _ _ fun j x hx => by
      by_cases hj : j < lo
      · exact .inr (hgone j x hj hx)
      · left
        have hjl : j < l.length := (List.getElem?_eq_some_iff.1 hx).1
        rw [Nat.zero_add, hL j (by omega)]; simp; omega
    rw [e1, e2]
    exact ⟨hR.tr, hR.hr, hR.dom, hR.mk', hR.mkr⟩

theorem aw_reg_dr (hm : P.follows .mixedOrders = true) {aops : List AOper} {Q : Exit → St → Prop}
    (h : ∀ ops : Array Oper, aops = (ops.toList.zipIdx.map fun (o, i) => coper P ops true i o) → DR P G k rd ops 0 s (Q .normal)) : AW P G k rd (.reg aops true) Q s := fun code hc => by
  cases code <;> simp only [ccode] at hc <;> first | (cases hc; done) | skip
  rename_i id ops draw
  simp only [ACode.reg.injEq] at hc
  obtain ⟨hops, rfl⟩ := hc
  intro μ ro a w hrd hR
  refine wpIn_region_any hm ?_
  refine h ops hops.symm μ ro a _ _ _ _ hrd ⟨hR.tr, ⟨hR.hr.row, hR.hr.apart, hR.hr.kept, hR.hr.ro, hR.hr.calm, hR.hr.named, hR.hr.glob⟩, hR.dom, hR.mk', hR.mkr⟩ (by simp) (fun m hm => by simp [Array.getD, hm]) (by simp [List.count_replicate]) ?_
  intro μ' s' a' w' hK hle hR'
  exact ⟨μ', s', hK, hle, hR'⟩
end
end Go.Sx
/- Rows under other names; a call that sees only the rows that it is handed. -/
namespace Go.Sx
open Go

mutual
def ren (f : Nat → Nat) : AVal → AVal
  | .any => .any
  | .bool b => .bool b
  | .int k n => .int k n
  | .str s => .str s
  | .ptr r i off L => .ptr (f r) i off L
  | .rptr e off => .rptr (ren f e) off
  | .nilptr => .nilptr
  | .sl r off len => .sl (f r) off len
  | .view es => .view (rens f es)
  | .nilsl => .nilsl
  | .fn g a b => .fn g (rens f a) (rens f b)
  | .yfn r => .yfn (f r)
  | .nilfn => .nilfn
  | .iface t v => .iface t (ren f v)
  | .niliface => .niliface
  | .agg cs => .agg (rens f cs)
  | .tup vs => .tup (rens f vs)
  | .mp r => .mp (f r)
  | .nilmap => .nilmap
def rens (f : Nat → Nat) : List AVal → List AVal
  | [] => []
  | v :: vs => ren f v :: rens f vs
end

theorem rens_eq (f : Nat → Nat) : ∀ l : List AVal, rens f l = l.map (ren f)
  | [] => by simp [rens]
  | v :: vs => by simp [rens, rens_eq f vs]

theorem rens_len (f : Nat → Nat) (l : List AVal) : (rens f l).length = l.length := by simp [rens_eq]
theorem rens_getD (f : Nat → Nat) (l : List AVal) (i : Nat) : (rens f l).getD i .any = ren f (l.getD i .any) := by
  rw [rens_eq, List.getD_eq_getElem?_getD, List.getD_eq_getElem?_getD, List.getElem?_map]
  cases l[i]? <;> simp [ren]
theorem acells_ren (f : Nat → Nat) (v : AVal) : acells (ren f v) = rens f (acells v) := by
  cases v <;> simp [ren, acells, rens]

def Row.ren (f : Nat → Nat) : Row → Row
  | .cells g sz es => .cells g sz (rens f es)
  | .loop ρ ps asg body d st pend => .loop (rens f ρ) ps asg body (f d) st pend
  | .dfr => .dfr
  | .siter s pos => .siter s pos
  | .mapr kk ks vs => .mapr kk ks (rens f vs)
  | .dead => .dead

theorem ren_dead {f : Nat → Nat} {y : Row} (h : y.ren f = .dead) : y = .dead := by cases y <;> first | rfl | cases h

section
variable {P : Program} {G : Ctx} {μ μ' : Mu} {f : Nat → Nat} {S : Nat → Prop}

theorem VR.push {v : AVal} {c : Value} (h : VR G μ v c) (hb : Bel S v) (hu : ∀ r p, S r → μ r = some p → μ' (f r) = some p) : VR G μ' (ren f v) c := by
  induction h with
  | any c => exact .any c
  | bool b => exact .bool b
  | int k n => exact .int k n
  | str l s h => exact .str l s h
  | ptr r i off L p c hp hL ho hc => cases hb with | ptr _ _ _ _ hr => exact .ptr _ i off L p c (hu r p hr hp) hL ho hc
  | rptr e off b o f' hb' hf _ ih =>
    cases hb with | rptr _ _ hv =>
    simp only [ren]
    refine .rptr _ off b o f' hb' (fun j hj => hf j ?_) fun j hj => ?_
    · rwa [acells_ren, rens_len] at hj
    · rw [acells_ren, rens_len] at hj
      rw [acells_ren, rens_getD]; exact ih j hj (hv j hj)
  | nilptr => exact .nilptr
  | sl r off len p c hp hvec hL ho hc => cases hb with | sl _ _ _ hr => exact .sl _ off len p c (hu r p hr hp) hvec hL ho hc
  | view es b o sz cap f' hb' hcap hs hf _ ih =>
    cases hb with | view _ hv =>
    simp only [ren]
    have := VR.view (G := G) (μ := μ') (rens f es) b o sz cap f' hb' (by rw [rens_len]; exact hcap) (fun i hi => by rw [rens_getD, acells_ren, rens_len]; exact hs i (by rwa [rens_len] at hi)) (fun i j hi hj => hf i j (by rwa [rens_len] at hi) hj)
      (fun i j hi hj => by rw [rens_getD, acells_ren, rens_getD]; rw [rens_len] at hi; exact ih i j hi hj (hv i j hi (by rw [hs i hi]; exact hj)))
    rwa [rens_len] at this
  | viewnil a cap => simp only [ren, rens]; exact .viewnil a cap
  | nilsl => exact .nilsl
  | fn g a b a' b' ha hb' _ _ iha ihb =>
    cases hb with | fn _ _ _ va vb =>
    exact .fn g _ _ a' b' (by rw [rens_len]; exact ha) (by rw [rens_len]; exact hb') (fun i hi => by rw [rens_len] at hi; rw [rens_getD]; exact iha i hi (va i hi)) (fun i hi => by rw [rens_len] at hi; rw [rens_getD]; exact ihb i hi (vb i hi))
  | yfn r p hp hv => cases hb with | yfn _ hr => exact .yfn _ p (hu r p hr hp) hv
  | nilfn => exact .nilfn
  | iface t v c _ ih => cases hb with | iface _ _ h => exact .iface t _ c (ih h)
  | niliface => exact .niliface
  | agg cs vs hl _ ih => cases hb with | agg _ hv => exact .agg _ vs (by rw [rens_len]; exact hl) fun i hi => by rw [rens_len] at hi; rw [rens_getD]; exact ih i hi (hv i hi)
  | tup cs vs hl _ ih => cases hb with | tup _ hv => exact .tup _ vs (by rw [rens_len]; exact hl) fun i hi => by rw [rens_len] at hi; rw [rens_getD]; exact ih i hi (hv i hi)
  | mp r p hp hv => cases hb with | mp _ hr => exact .mp _ p (hu r p hr hp) hv
  | nilmap => exact .nilmap

theorem VR.pull {v : AVal} (hb : Bel S v) (hu : ∀ r, S r → μ' r = μ (f r)) : ∀ {c : Value}, VR G μ (ren f v) c → VR G μ' v c := by
  induction hb with
  | any => intro c h; exact .any c
  | bool b => intro c h; simp only [ren] at h; cases h; exact .bool b
  | int q n => intro c h; simp only [ren] at h; cases h; exact .int q n
  | str l => intro c h; simp only [ren] at h; cases h with | str l s h => exact .str l s h
  | ptr r i off L hr => intro c h; simp only [ren] at h; cases h with | ptr _ _ _ _ p c hp hL ho hc => exact .ptr r i off L p c (by rw [hu r hr]; exact hp) hL ho hc
  | rptr e off _ ih =>
    intro c h; simp only [ren] at h
    cases h with | rptr _ _ b o f' hb' hf hv =>
    rw [acells_ren, rens_len] at hf
    refine .rptr e off b o f' hb' hf fun j hj => ih j hj ?_
    have := hv j (by rw [acells_ren, rens_len]; exact hj)
    rwa [acells_ren, rens_getD] at this
  | nilptr => intro c h; simp only [ren] at h; cases h; exact .nilptr
  | sl r off len hr => intro c h; simp only [ren] at h; cases h with | sl _ _ _ p c hp hvec hL ho hc => exact .sl r off len p c (by rw [hu r hr]; exact hp) hvec hL ho hc
  | view es _ ih =>
    intro c h; simp only [ren] at h
    generalize hz : rens f es = zs at h
    cases h with
    | view _ b o sz cap f' hb' hcap hs hf hv =>
      subst hz
      rw [rens_len] at hcap hs hf hv ⊢
      have hs' : ∀ i, i < es.length → (acells (es.getD i .any)).length = sz := fun i hi => by
        have := hs i hi
        rwa [rens_getD, acells_ren, rens_len] at this
      refine .view es b o sz cap f' hb' hcap hs' hf fun i j hi hj => ih i j hi (by rw [hs' i hi]; exact hj) ?_
      have := hv i j hi hj
      rwa [rens_getD, acells_ren, rens_getD] at this
    | viewnil a cap =>
      have : es = [] := by
        have := congrArg List.length hz
        rw [rens_len] at this
        exact List.eq_nil_of_length_eq_zero (by simpa using this)
      subst this
      exact .viewnil a cap
  | nilsl => intro c h; simp only [ren] at h; cases h; exact .nilsl
  | fn g a b _ _ iha ihb =>
    intro c h; simp only [ren] at h
    cases h with | fn _ _ _ a' b' ha hb' va vb =>
    rw [rens_len] at ha hb' va vb
    refine .fn g a b a' b' ha hb' (fun i hi => iha i hi ?_) fun i hi => ihb i hi ?_
    · have := va i hi; rwa [rens_getD] at this
    · have := vb i hi; rwa [rens_getD] at this
  | yfn r hr => intro c h; simp only [ren] at h; cases h with | yfn _ p hp hv => exact .yfn r p (by rw [hu r hr]; exact hp) hv
  | nilfn => intro c h; simp only [ren] at h; cases h; exact .nilfn
  | iface t v _ ih => intro c h; simp only [ren] at h; cases h with | iface _ _ c h => exact .iface t v c (ih h)
  | niliface => intro c h; simp only [ren] at h; cases h; exact .niliface
  | agg cs _ ih =>
    intro c h; simp only [ren] at h
    cases h with | agg _ vs hl hv =>
    rw [rens_len] at hl hv
    exact .agg cs vs hl fun i hi => ih i hi (by have := hv i hi; rwa [rens_getD] at this)
  | tup cs _ ih =>
    intro c h; simp only [ren] at h
    cases h with | tup _ vs hl hv =>
    rw [rens_len] at hl hv
    exact .tup cs vs hl fun i hi => ih i hi (by have := hv i hi; rwa [rens_getD] at this)
  | mp r hr => intro c h; simp only [ren] at h; cases h with | mp _ p hp hv => exact .mp r p (by rw [hu r hr]; exact hp) hv
  | nilmap => intro c h; simp only [ren] at h; cases h; exact .nilmap

theorem RowIs.push {p : Place} {hp : Array Obj} {x : Row} (h : RowIs P G μ p hp x) (hb : x.bel S) (hu : ∀ r p, S r → μ r = some p → μ' (f r) = some p) : RowIs P G μ' p hp (x.ren f) := by
  cases x with
  | cells g sz es =>
    obtain ⟨h1, h2, hg, C, ty, h3, h4, h5⟩ := h
    refine ⟨h1, by rw [rens_len]; exact h2, hg, C, ty, h3, h4, fun i hi => ?_⟩
    rw [rens_len] at hi
    rw [rens_getD, acells_ren, rens_len]
    refine ⟨(h5 i hi).1, fun j hj => ?_⟩
    obtain ⟨c, hc, hv⟩ := (h5 i hi).2 j hj
    exact ⟨c, hc, by rw [rens_getD]; exact hv.push (hb i j hi (by rw [(h5 i hi).1]; exact hj)) hu⟩
  | loop ρ ps asg body d st pend =>
    obtain ⟨h0, r, h1, h2, h3, h4, h5, h6, h7, h8, pd, h9, h10, h11⟩ := h
    exact ⟨h0, r, h1, h2, h3, h4, h5, h6, by rw [rens_len]; exact h7, fun t ht => by rw [rens_len] at ht; rw [rens_getD]; exact (h8 t ht).push (hb.2 t ht) hu, pd, hu d pd hb.1 h9, h10, h11⟩
  | dfr => exact h
  | siter s pos => exact h
  | mapr kk ks vs =>
    obtain ⟨h0, hl, es, ck, h1, h2, h3⟩ := h
    exact ⟨h0, by rw [rens_len]; exact hl, es, ck, h1, h2, fun i hi => by obtain ⟨e, k1, k2, k3⟩ := h3 i hi; exact ⟨e, k1, k2, by rw [rens_getD]; exact k3.push (hb i (by omega)) hu⟩⟩
  | dead => trivial

theorem RowIs.pull {p : Place} {hp : Array Obj} {x : Row} (h : RowIs P G μ p hp (x.ren f)) (hb : x.bel S) (hu : ∀ r, S r → μ' r = μ (f r)) : RowIs P G μ' p hp x := by
  cases x with
  | cells g sz es =>
    obtain ⟨h1, h2, hg, C, ty, h3, h4, h5⟩ := h
    rw [rens_len] at h2 h5
    have hs : ∀ i, i < es.length → (acells (es.getD i .any)).length = sz := fun i hi => by
      have := (h5 i hi).1
      rwa [rens_getD, acells_ren, rens_len] at this
    refine ⟨h1, h2, hg, C, ty, h3, h4, fun i hi => ⟨hs i hi, fun j hj => ?_⟩⟩
    obtain ⟨c, hc, hv⟩ := (h5 i hi).2 j hj
    rw [rens_getD, acells_ren, rens_getD] at hv
    exact ⟨c, hc, hv.pull (hb i j hi (by rw [hs i hi]; exact hj)) hu⟩
  | loop ρ ps asg body d st pend =>
    obtain ⟨h0, r, h1, h2, h3, h4, h5, h6, h7, h8, pd, h9, h10, h11⟩ := h
    rw [rens_len] at h7 h8
    exact ⟨h0, r, h1, h2, h3, h4, h5, h6, h7, fun t ht => by have := h8 t ht; rw [rens_getD] at this; exact this.pull (hb.2 t ht) hu, pd, by rw [hu d hb.1]; exact h9, h10, h11⟩
  | dfr => exact h
  | siter s pos => exact h
  | mapr kk ks vs =>
    obtain ⟨h0, hl, es, ck, h1, h2, h3⟩ := h
    rw [rens_len] at hl
    exact ⟨h0, hl, es, ck, h1, h2, fun i hi => by obtain ⟨e, k1, k2, k3⟩ := h3 i hi; rw [rens_getD] at k3; exact ⟨e, k1, k2, k3.pull (hb i (by omega)) hu⟩⟩
  | dead => trivial
end
end Go.Sx
/- A call that sees only the rows that it is handed, by names of its own. -/
namespace Go.Sx
open Go

def nth (ι : List Nat) (i : Nat) : Nat := ι.getD i 0

def Fn (P : Program) (f : FuncId) (args : List AVal) (H : Heap) (R : AVal → Heap → Prop) : Prop := ∀ G, CallW P G f args H R

theorem Fn.mono {P : Program} {f : FuncId} {args : List AVal} {H : Heap} {R R' : AVal → Heap → Prop} (h : Fn P f args H R) (hR : ∀ v H', R v H' → R' v H') : Fn P f args H R' := fun G => (h G).mono hR

structure OutOK (ι : List Nat) (Fr : Heap → Nat → Prop) (H LH' H'' : Heap) (v : AVal) (σ : Nat → Nat) (S : Nat → Prop) : Prop where
  old : ∀ i, i < ι.length → S i ∧ σ i = nth ι i
  new : ∀ i, S i → i < ι.length ∨ Fr H'' (σ i)
  inj : ∀ i j, S i → S j → σ i = σ j → i = j
  val : Bel S v
  rows : ∀ r x, H''[r]? = some (some x) → (∃ i y, S i ∧ σ i = r ∧ LH'[i]? = some (some y) ∧ x = y.ren σ ∧ y.bel S) ∨ ((∀ i, S i → σ i ≠ r) ∧ H[r]? = some (some x))

section
variable {P : Program} {G G' : Ctx}

theorem RowIs.ctx {μ : Mu} {p : Place} {hp : Array Obj} {x : Row} (hc : ∀ b, G.ro b → G'.ro b ∧ G'.w0.heap[b]? = G.w0.heap[b]?) (h : RowIs P G μ p hp x) : RowIs P G' μ p hp x := by
  cases x with
  | cells g sz es =>
    obtain ⟨h1, h2, hg, C, ty, h3, h4, h5⟩ := h
    refine ⟨h1, h2, hg, C, ty, h3, h4, fun i hi => ⟨(h5 i hi).1, fun j hj => ?_⟩⟩
    obtain ⟨c, k1, k2⟩ := (h5 i hi).2 j hj
    exact ⟨c, k1, k2.ctx hc⟩
  | loop ρ ps asg body d st pend =>
    obtain ⟨h0, r, h1, h2, h3, h4, h5, h6, h7, h8, h9⟩ := h
    exact ⟨h0, r, h1, h2, h3, h4, h5, h6, h7, fun t ht => (h8 t ht).ctx hc, h9⟩
  | dfr => exact h
  | siter s pos => exact h
  | mapr kk ks vs =>
    obtain ⟨h0, hl, es, ck, h1, h2, h3⟩ := h
    exact ⟨h0, hl, es, ck, h1, h2, fun i hi => by obtain ⟨e, k1, k2, k3⟩ := h3 i hi; exact ⟨e, k1, k2, k3.ctx hc⟩⟩
  | dead => trivial

theorem nth_inj {ι : List Nat} (hn : ι.Nodup) {i j : Nat} (hi : i < ι.length) (hj : j < ι.length) (h : nth ι i = nth ι j) : i = j := by
  have e1 : nth ι i = ι[i] := by simp [nth, hi]
  have e2 : nth ι j = ι[j] := by simp [nth, hj]
  rw [e1, e2] at h
  exact (List.getElem?_inj hi hn).1 (by rw [List.getElem?_eq_getElem hi, List.getElem?_eq_getElem hj, h])

theorem call_local {f : FuncId} {largs args : List AVal} {LH H : Heap} {R R' : AVal → Heap → Prop} (hf : Fn P f largs LH R) {ι : List Nat} {Fr : Heap → Nat → Prop} (hn : ι.Nodup) (hlen : LH.length = ι.length) (hall : ∀ i, i < ι.length → ∃ x, LH[i]? = some (some x))
    (hargs : args = largs.map (ren (nth ι))) (hbel : ∀ v ∈ largs, Bel (· < ι.length) v)
    (hrows : ∀ i x, LH[i]? = some (some x) → H[nth ι i]? = some (some (x.ren (nth ι))) ∧ x.bel (· < ι.length))
    (hout : ∀ v LH', R v LH' → ∃ σ S H'', OutOK ι Fr H LH' H'' v σ S ∧ R' (ren σ v) H'')
    {μ : Mu} {cargs : Array Value} {w : World} (hl : args.length = cargs.size) (hv : ∀ i, i < args.length → VR G μ (args.getD i .any) (cargs.getD i undef)) (hH : HR P G μ H w) (hfree : ∀ H'' r, Fr H'' r → μ r = none) :
    CallsIn (Fw none) 0 P f cargs w fun e w' => ∃ v' cv μ'' H'', e = .returned cv ∧ R' v' H'' ∧ VR G μ'' v' cv ∧ HR P G μ'' H'' w' ∧ μ.le μ'' ∧ ∀ r, (μ'' r).isSome = true → (μ r).isSome = true ∨ Fr H'' r := by
  classical
  let G' : Ctx := { keep := fun b => G.keep b ∨ ∃ r x p, (∀ i, i < ι.length → nth ι i ≠ r) ∧ H[r]? = some (some x) ∧ x ≠ .dead ∧ μ r = some p ∧ p.blk = b, ro := G.ro, w0 := w }
  let μl : Mu := fun i => if i < ι.length then μ (nth ι i) else none
  have hroi : ∀ b, G.ro b → w.heap[b]? = G.w0.heap[b]? := fun b hb => (hH.kept b (hH.ro b hb)).2
  have hto : ∀ b, G.ro b → G'.ro b ∧ G'.w0.heap[b]? = G.w0.heap[b]? := fun b hb => ⟨hb, hroi b hb⟩
  have hfrom : ∀ b, G'.ro b → G.ro b ∧ G.w0.heap[b]? = G'.w0.heap[b]? := fun b hb => ⟨hb, (hroi b hb).symm⟩
  have hμl : ∀ r, r < ι.length → μl r = μ (nth ι r) := fun r hr => by simp [μl, hr]
  have hlH : HR P G' μl LH w := by
    constructor
    · intro i x hx hnd
      have hi : i < ι.length := by rw [← hlen]; exact (List.getElem?_eq_some_iff.1 hx).1
      obtain ⟨h1, h2⟩ := hrows i x hx
      have hnd' : x.ren (nth ι) ≠ .dead := fun e => hnd (ren_dead e)
      obtain ⟨p, k1, k2, k3, k4⟩ := hH.row _ _ h1 hnd'
      refine ⟨p, by rw [hμl i hi]; exact k1, ?_, k3, (k4.pull h2 hμl).ctx hto⟩
      rintro (hk | ⟨r, y, q, q1, q2, q2', q3, q4⟩)
      · exact k2 hk
      · exact hH.apart _ _ _ _ _ _ h1 q2 k1 q3 (q1 i hi) hnd' q2' q4.symm
    · intro i j x y p q hx hy hp hq hne n1 n2
      have hi : i < ι.length := by rw [← hlen]; exact (List.getElem?_eq_some_iff.1 hx).1
      have hj : j < ι.length := by rw [← hlen]; exact (List.getElem?_eq_some_iff.1 hy).1
      rw [hμl i hi] at hp
      rw [hμl j hj] at hq
      exact hH.apart _ _ _ _ _ _ (hrows i x hx).1 (hrows j y hy).1 hp hq (fun h => hne (nth_inj hn hi hj h)) (fun e => n1 (ren_dead e)) fun e => n2 (ren_dead e)
    · rintro b (hk | ⟨r, y, q, q1, q2, q2', q3, rfl⟩)
      · exact ⟨(hH.kept b hk).1, rfl⟩
      · obtain ⟨p, k1, k2, k3, k4⟩ := hH.row _ _ q2 q2'
        rw [k1] at q3; cases q3
        exact ⟨k3, rfl⟩
    · exact fun b hb => .inl (hH.ro b hb)
    · exact Calm.refl w
    · intro i hx
      have hi : i < ι.length := by rw [← hlen]; exact (List.getElem?_eq_some_iff.1 hx).1
      rw [hμl i hi]; exact hH.nm (hrows i _ hx).1
    · exact hH.glob.ctx hto
  subst hargs
  refine ((hf G').2 μl cargs w (by simpa using hl) (fun i hi => ?_) hlH (fun r hr => ?_)).mono ?_
  · have := hv i (by simpa using hi)
    have e : (largs.map (ren (nth ι))).getD i .any = ren (nth ι) (largs.getD i .any) := by rw [← rens_eq, rens_getD]
    rw [e] at this
    have hm : largs.getD i .any ∈ largs := by
      rw [List.getD_eq_getElem?_getD, List.getElem?_eq_getElem hi]; simp
    exact (this.pull (hbel _ hm) hμl).ctx hto
  · simp only [μl] at hr
    split at hr
    · rename_i h; rw [hlen]; exact h
    · cases hr
  · rintro e w' ⟨v, cv, μ', LH', rfl, hR, hvv, hH', hdom, hle⟩
    obtain ⟨σ, S, H'', ho, hR'⟩ := hout v LH' hR
    let μ'' : Mu := fun r => if h : ∃ i, S i ∧ σ i = r then μ' h.choose else μ r
    have hσ : ∀ i, S i → μ'' (σ i) = μ' i := by
      intro i hi
      have h : ∃ j, S j ∧ σ j = σ i := ⟨i, hi, rfl⟩
      have hc := h.choose_spec
      have : h.choose = i := ho.inj _ _ hc.1 hi hc.2
      simp only [μ'', dif_pos h, this]
    have hoff : ∀ r, (∀ i, S i → σ i ≠ r) → μ'' r = μ r := by
      intro r h
      have : ¬ ∃ i, S i ∧ σ i = r := fun ⟨i, h1, h2⟩ => h i h1 h2
      simp only [μ'', dif_neg this]
    have hμle : μ.le μ'' := by
      intro r p hp
      by_cases h : ∃ i, S i ∧ σ i = r
      · obtain ⟨i, hi, rfl⟩ := h
        rw [hσ i hi]
        rcases ho.new i hi with h1 | h1
        · refine hle i p (by rw [hlen]; exact h1) ?_
          rw [hμl i h1, ← (ho.old i h1).2]; exact hp
        · rw [hfree _ _ h1] at hp; cases hp
      · rw [hoff r fun i h1 h2 => h ⟨i, h1, h2⟩]; exact ⟨p, hp, .inl rfl⟩
    refine ⟨ren σ v, cv, μ'', H'', rfl, hR', ?_, ?_, hμle, ?_⟩
    · exact (hvv.push ho.val fun r p hr hp => by rw [hσ r hr]; exact hp).ctx hfrom
    · have src : ∀ r x, H''[r]? = some (some x) → x ≠ .dead → ∃ p, μ'' r = some p ∧ ¬ G.keep p.blk ∧ p.blk < w'.heap.size ∧ RowIs P G μ'' p w'.heap x ∧
          ((∃ i y, S i ∧ σ i = r ∧ LH'[i]? = some (some y) ∧ μ' i = some p ∧ ¬ G'.keep p.blk ∧ y ≠ .dead) ∨ ((∀ i, S i → σ i ≠ r) ∧ H[r]? = some (some x) ∧ μ r = some p ∧ G'.keep p.blk)) := by
        intro r x hx hnd
        rcases ho.rows r x hx with ⟨i, y, h1, rfl, h3, rfl, h5⟩ | ⟨h1, h2⟩
        · obtain ⟨p, k1, k2, k3, k4⟩ := hH'.row i y h3 (fun e => hnd (by rw [e]; rfl))
          refine ⟨p, by rw [hσ i h1]; exact k1, fun h => k2 (.inl h), k3, (k4.push h5 fun r p hr hp => by rw [hσ r hr]; exact hp).ctx hfrom, .inl ⟨i, y, h1, rfl, h3, k1, k2, fun e => hnd (by rw [e]; rfl)⟩⟩
        · obtain ⟨p, k1, k2, k3, k4⟩ := hH.row r x h2 hnd
          have hkeep : G'.keep p.blk := .inr ⟨r, x, p, fun i hi e => h1 i (ho.old i hi).1 ((ho.old i hi).2.trans e), h2, hnd, k1, rfl⟩
          obtain ⟨m1, m2⟩ := hH'.kept p.blk hkeep
          exact ⟨p, by rw [hoff r h1]; exact k1, k2, m1, k4.mono hμle m2, .inr ⟨h1, h2, k1, hkeep⟩⟩
      constructor
      · intro r x hx hnd
        obtain ⟨p, k1, k2, k3, k4, _⟩ := src r x hx hnd
        exact ⟨p, k1, k2, k3, k4⟩
      · intro r r' x x' p p' hx hx' hp hp' hne n1 n2
        obtain ⟨q, k1, _, _, _, k5⟩ := src r x hx n1
        obtain ⟨q', k1', _, _, _, k5'⟩ := src r' x' hx' n2
        rw [k1] at hp; cases hp
        rw [k1'] at hp'; cases hp'
        rcases k5 with ⟨i, y, a1, a2, a3, a4, a5, a6⟩ | ⟨a1, a2, a3, a4⟩ <;> rcases k5' with ⟨j, z, b1, b2, b3, b4, b5, b6⟩ | ⟨b1, b2, b3, b4⟩
        · exact hH'.apart i j y z _ _ a3 b3 a4 b4 (fun e => hne (by rw [← a2, ← b2, e])) a6 b6
        · exact fun e => a5 (by rw [e]; exact b4)
        · exact fun e => b5 (by rw [← e]; exact a4)
        · exact hH.apart r r' x x' _ _ a2 b2 a3 b3 hne n1 n2
      · intro b hb
        have : G'.keep b := .inl hb
        obtain ⟨m1, m2⟩ := hH'.kept b this
        exact ⟨m1, m2.trans (hH.kept b hb).2⟩
      · exact hH.ro
      · exact hH.calm.trans hH'.calm
      · intro r hr
        rcases ho.rows r _ hr with ⟨i, y, h1, rfl, h3, h4, h5⟩ | ⟨h1, h2⟩
        · have := ren_dead h4.symm; subst this
          rw [hσ i h1]; exact hH'.named i h3
        · rw [hoff r h1]; exact hH.named r h2
      · exact hH.glob
    · intro r hr
      by_cases h : ∃ i, S i ∧ σ i = r
      · obtain ⟨i, hi, rfl⟩ := h
        rcases ho.new i hi with h1 | h1
        · rw [hσ i hi] at hr
          left
          rw [(ho.old i h1).2, ← hμl i h1]
          obtain ⟨x, hx⟩ := hall i h1
          exact hlH.nm hx
        · exact .inr h1
      · rw [hoff r fun i h1 h2 => h ⟨i, h1, h2⟩] at hr; exact .inl hr

theorem callOK_local {f : FuncId} {largs args : List AVal} {LH H : Heap} {R R' : AVal → Heap → Prop} (hf : Fn P f largs LH R) (ι : List Nat) (hn : ι.Nodup) (hlen : LH.length = ι.length) (hall : ∀ i, i < ι.length → ∃ x, LH[i]? = some (some x))
    (hargs : args = largs.map (ren (nth ι))) (hbel : ∀ v ∈ largs, Bel (· < ι.length) v)
    (hrows : ∀ i x, LH[i]? = some (some x) → H[nth ι i]? = some (some (x.ren (nth ι))) ∧ x.bel (· < ι.length))
    (hout : ∀ v LH', R v LH' → ∃ σ S H'', OutOK ι (fun H'' r => H.length ≤ r ∧ r < H''.length) H LH' H'' v σ S ∧ H.length ≤ H''.length ∧ R' (ren σ v) H'') : CallOK P G f args H R' := by
  refine ⟨(hf G).1, fun μ cargs w hl hv hH hd => ?_⟩
  have hno : ∀ r, H.length ≤ r → μ r = none := fun r hr => by
    cases h : μ r with
    | none => rfl
    | some p => have := hd r (by rw [h]; rfl); omega
  refine (call_local (R' := fun v H'' => H.length ≤ H''.length ∧ R' v H'') hf hn hlen hall hargs hbel hrows hout hl hv hH (fun _ r hr => hno r hr.1)).mono ?_
  rintro e w' ⟨v', cv, μ'', H'', rfl, ⟨hlen', hR⟩, h1, h2, h3, h4⟩
  refine ⟨v', cv, μ'', H'', rfl, hR, h1, h2, fun r hr => ?_, Mu.leB_of h3, fun r hr hn => ?_⟩
  · rcases h4 r hr with h | h
    · have := hd r h; omega
    · exact h.2
  · cases h : μ'' r with
    | none => rfl
    | some p =>
      rcases h4 r (by rw [h]; rfl) with k | k
      · rw [hn] at k; cases k
      · omega
end
end Go.Sx
