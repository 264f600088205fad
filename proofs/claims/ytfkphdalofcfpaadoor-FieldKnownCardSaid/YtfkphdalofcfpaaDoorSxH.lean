/- A part of the proof: the abstract semantics. -/
import Derived.Test.YtfkphdalofcfpaaDoorSxG
import Derived.Below
set_option linter.unusedSimpArgs false
set_option linter.unusedVariables false
/- The interpreter, with answers that are known already. -/
namespace Go.Sx
open Go
section
variable {P : Program}
structure OEnt where
  g : Nat
  args : List AVal
  H : Heap
  r : AVal
  H' : Heap
def OEnt.ok (P : Program) (e : OEnt) : Prop := Fn P e.g e.args e.H fun v H' => v = e.r ∧ H' = e.H'
def rowEq : Row → Row → Bool
  | .cells g sz es, .cells g' sz' es' => g == g' && (decide (sz = sz') && veqs es es')
  | .mapr kk ks vs, .mapr kk' ks' vs' => decide (kk = kk') && (decide (ks = ks') && veqs vs vs')
  | _, _ => false
theorem rowEq_eq {x y : Row} (h : rowEq x y = true) : x = y := by
  unfold rowEq at h
  split at h
  · simp only [Bool.and_eq_true, beq_iff_eq, decide_eq_true_eq] at h
    rw [h.1, h.2.1, veqs_eq _ _ h.2.2]
  · simp only [Bool.and_eq_true, decide_eq_true_eq] at h
    rw [h.1, h.2.1, veqs_eq _ _ h.2.2]
  · cases h
def heapEq : Heap → Heap → Bool
  | [], [] => true
  | some x :: H, some y :: H' => rowEq x y && heapEq H H'
  | none :: H, none :: H' => heapEq H H'
  | _, _ => false
theorem heapEq_eq : ∀ {H H' : Heap}, heapEq H H' = true → H = H'
  | [], [], _ => rfl
  | [], none :: _, h => by simp [heapEq] at h
  | [], some _ :: _, h => by simp [heapEq] at h
  | none :: _, [], h => by simp [heapEq] at h
  | some _ :: _, [], h => by simp [heapEq] at h
  | none :: _, some _ :: _, h => by simp [heapEq] at h
  | some _ :: _, none :: _, h => by simp [heapEq] at h
  | some x :: H, some y :: H', h => by
    simp only [heapEq, Bool.and_eq_true] at h
    rw [rowEq_eq h.1, heapEq_eq h.2]
  | none :: H, none :: H', h => by
    simp only [heapEq] at h
    rw [heapEq_eq h]
def oget : List OEnt → Nat → List AVal → Heap → Option (AVal × Heap)
  | [], _, _, _ => none
  | e :: O, g, args, H => if Nat.beq e.g g = true then (if (veqs e.args args && heapEq e.H H) = true then some (e.r, e.H') else oget O g args H) else oget O g args H
theorem oget_ok : ∀ {O : List OEnt} {g : Nat} {args : List AVal} {H : Heap} {v : AVal} {H' : Heap}, (∀ e ∈ O, e.ok P) → oget O g args H = some (v, H') → Fn P g args H fun v' H'' => v' = v ∧ H'' = H'
  | [], _, _, _, _, _, _, h => by cases h
  | e :: O, g, args, H, v, H', hO, h => by
    simp only [oget] at h
    split at h
    · rename_i hg
      split at h
      · rename_i ha
        cases h
        simp only [Bool.and_eq_true] at ha
        have he := hO e (by simp)
        unfold OEnt.ok at he
        rw [Nat.eq_of_beq_eq_true hg, veqs_eq _ _ ha.1, heapEq_eq ha.2] at he
        exact he
      · exact oget_ok (fun e he => hO e (by simp [he])) h
    · exact oget_ok (fun e he => hO e (by simp [he])) h
def exFnO (O : List OEnt) (tab : Nat → Option AFun) (m : Nat) : Nat → Caller
  | 0, _, _, _ => none
  | n + 1, g, args, H =>
    match oget O g args H with
    | some r => some r
    | none => match tab g with
      | none => none
      | some af => (ex (exFnO O tab m n) m none (.code af.body) ⟨args ++ List.replicate (af.ntmps - args.length) .any, H, []⟩).bind (retOf af.res)
theorem exFnO_sound (hm : P.follows .mixedOrders = true) {O : List OEnt} (hO : ∀ e ∈ O, e.ok P) {tab : Nat → Option AFun} {m : Nat} (hT : ∀ g af, tab g = some af → EntryOK P g af) :
    ∀ n, CallerOK P (exFnO O tab m n) := by
  intro n
  induction n with
  | zero => intro g args H v H' h; simp [exFnO] at h
  | succ n ih =>
    intro g args H v H' h
    simp only [exFnO] at h
    split at h
    · rename_i r hr
      cases h
      exact oget_ok hO hr
    · intro G
      cases ht : tab g with
      | none => rw [ht] at h; cases h
      | some af =>
        rw [ht] at h
        simp only at h
        rw [Option.bind_eq_some_iff] at h
        obtain ⟨⟨e, s'⟩, h1, h2⟩ := h
        obtain ⟨fn, f1, f2, f3⟩ := hT g af ht
        refine call_of_afun f1 f2 f3 (((ex_sound hm ih m _ _ _ _ _ h1).2 G H.length (Nat.le_refl _)).1.mono ?_)
        rintro _ _ ⟨rfl, rfl⟩
        unfold retOf at h2
        split at h2
        case isFalse => cases h2
        rename_i hnd
        have hnd := nodupB_spec hnd
        simp only at h2
        split at h2
        case h_3 => cases h2
        all_goals
          rename_i he
          rw [Option.map_eq_some_iff] at h2
          obtain ⟨v', h3, h4⟩ := h2
          simp only [Prod.mk.injEq] at h4
          obtain ⟨rfl, rfl⟩ := h4
          exact ⟨by simp, hnd, v', h3, rfl, rfl⟩
theorem ent_ok (hm : P.follows .mixedOrders = true) {O : List OEnt} (hO : ∀ e ∈ O, e.ok P) {tab : Nat → Option AFun} (hT : ∀ g af, tab g = some af → EntryOK P g af) {m n : Nat} {e : OEnt}
    (h : exFnO O tab m n e.g e.args e.H = some (e.r, e.H')) : e.ok P := exFnO_sound hm hO hT n _ _ _ _ _ h
theorem spec_exO (hm : P.follows .mixedOrders = true) {O : List OEnt} (hO : ∀ e ∈ O, e.ok P) {tab : Nat → Option AFun} (hT : ∀ g af, tab g = some af → EntryOK P g af) {m n g : Nat} {args : List AVal} {H H' : Heap} {r : AVal}
    (h : exFnO O tab m n g args H = some (r, H')) : Ans P g args H r H' := (exFnO_sound hm hO hT n _ _ _ _ _ h).mono fun v H'' hv => ⟨hv.1, [], by rw [hv.2]; simp⟩
def yesO : Option (AVal × Heap) → Bool
  | some (.bool b, _) => b
  | _ => false
theorem yesO_ans (hm : P.follows .mixedOrders = true) {O : List OEnt} (hO : ∀ e ∈ O, e.ok P) {tab : Nat → Option AFun} (hT : ∀ g af, tab g = some af → EntryOK P g af) {m n g : Nat} {args : List AVal} {H : Heap} (h : yesO (exFnO O tab m n g args H) = true) :
    Fn P g args H fun v _ => v = .bool true := by
  match hx : exFnO O tab m n g args H with
  | none => rw [hx] at h; cases h
  | some (v, H') =>
    rw [hx] at h
    cases v <;> try (cases h; done)
    rename_i b
    have hb : b = true := h
    subst hb
    exact (exFnO_sound hm hO hT n _ _ _ _ _ hx).mono fun v H'' hv => hv.1

theorem ent_settle (hm : P.follows .mixedOrders = true) {O : List OEnt} (hO : ∀ e ∈ O, e.ok P) {tab : Nat → Option AFun} (hT : ∀ g af, tab g = some af → EntryOK P g af) {m n : Nat} {e : OEnt} (L : Heap)
    (h : exFnO O tab m n e.g e.args e.H = some (e.r, L)) (hL : e.H' = settleFrom e.H.length L) (h1 : e.H.length ≤ L.length) (h2 : Bel (· < L.length) e.r) (h3 : Full (· < L.length) L)
    (h4 : Ful (lenIn L) e.r) (h5 : ∀ (i : Nat) (x : Row), L[i]? = some (some x) → x.ful (lenIn L)) : e.ok P := by
  have k : AnsE P e.g e.args e.H (fun _ : Unit => True) (fun _ => e.r) (fun _ => L) :=
    (exFnO_sound hm hO hT n _ _ _ _ _ h).mono fun v H' hv => ⟨(), trivial, hv.1, [], by rw [hv.2, List.append_nil]⟩
  exact (k.settleX (fun _ _ => ⟨h1, h2, h3⟩) (fun _ _ => ⟨h4, h5⟩)).mono fun v H' ⟨_, _, a, b⟩ => ⟨a, by rw [b, hL]⟩
end
end Go.Sx
/- From what is known of a function to its walk from a world. -/
namespace Go.Sx
open Go Go.RowKit

def topG (w : World) : Ctx := { keep := fun b => b < w.heap.size, ro := fun b => b < w.heap.size, w0 := w }

theorem top_rel (P : Program) (w : World) (hg : GlobOK P (topG w)) : HR P (topG w) (fun _ => none) [] w :=
  ⟨fun r x h => by simp at h, fun r r' x x' p p' h => by simp at h, fun b hb => ⟨hb, rfl⟩, fun b hb => hb, Calm.refl w, fun r h => by simp at h, hg⟩

theorem Ans.walk {P : Program} {f : FuncId} {args : List AVal} {r : AVal} {LH' : Heap} {w : World} (hg : GlobOK P (topG w)) (hA : Ans P f args [] r LH') {cargs : Array Value} (hl : args.length = cargs.size)
    (hv : ∀ i, i < args.length → VR (topG w) (fun _ => none) (args.getD i .any) (cargs.getD i undef)) :
    Calls P f cargs w fun e w' => (∃ cv μ, e = .returned cv ∧ VR (topG w) μ r cv) ∧ Below w.heap.size w w' := by
  have h := (hA (topG w)).2 (fun _ => none) cargs w hl hv (top_rel P w hg) (fun r hr => by cases hr)
  have hF : Fw none = Fence.wide := rfl
  rw [hF] at h
  refine (callsIn_wide.1 h).mono fun e w' hp => ?_
  obtain ⟨v, cv, μ', H', rfl, ⟨rfl, _⟩, hvr, hH, _⟩ := hp
  refine ⟨⟨cv, μ', rfl, hvr⟩, hH.calm.1, hH.calm.2.1, hH.calm.2.2, ?_, fun k hk => (hH.kept k hk).2⟩
  by_cases h0 : w.heap.size = 0
  · omega
  · have := (hH.kept (w.heap.size - 1) (by show w.heap.size - 1 < w.heap.size; omega)).1
    omega

def noGlob (P : Program) : Bool := P.globals.toList.all fun x => (gtab x.name).isNone
theorem GlobOK.none {P : Program} {G : Ctx} (h : noGlob P = true) : GlobOK P G := fun g e he => by
  unfold gvOf at he
  cases hx : P.globals[g]? with
  | none => rw [hx] at he; cases he
  | some x =>
    rw [hx] at he
    have hm : x ∈ P.globals.toList := by
      have := Array.mem_of_getElem? hx
      simpa using this
    have := List.all_eq_true.1 h x hm
    simp only [Option.bind_some] at he
    rw [he] at this; cases this

theorem Ans.walk_bool {P : Program} {f : FuncId} {args : List AVal} {b : Bool} {LH' : Heap} {w : World} (hg : GlobOK P (topG w)) (hA : Ans P f args [] (.bool b) LH') {cargs : Array Value} (hl : args.length = cargs.size)
    (hv : ∀ i, i < args.length → VR (topG w) (fun _ => none) (args.getD i .any) (cargs.getD i undef)) :
    Calls P f cargs w fun e w' => e = .returned (.bool b) ∧ Below w.heap.size w w' :=
  (Ans.walk hg hA hl hv).mono fun e w' ⟨⟨cv, μ, he, hvr⟩, hb⟩ => by
    cases hvr; exact ⟨he, hb⟩

theorem top_ints {w : World} {μ : Mu} {k : IntKind} {a : Option Addr} {len cap : Nat} {zs : List Int}
    (h : (a = none ∧ len = 0 ∧ cap = 0 ∧ zs = []) ∨ ∃ x, a = some x ∧ len ≤ cap ∧ cap ≤ maxLen ∧ zs.length = cap ∧ (∀ i, i < zs.length → w.cell? (x.add i) = some (.int k (zs.getD i 0))) ∧ ∀ n ∈ zs, (Lit.int k n).wf = true) :
    VR (topG w) μ (.view ((zs.take len).map (.int k))) (.slice a len cap) := by
  rcases h with ⟨rfl, rfl, rfl, rfl⟩ | ⟨x, rfl, h1, h2, h3, h4, h5⟩
  · exact .viewnil none 0
  · by_cases h0 : len = 0
    · subst h0; exact .viewnil _ _
    · have hz : 0 < zs.length := by omega
      have hc := h4 0 hz
      obtain ⟨b, o, sp⟩ := x
      have hsp : sp = none ∧ b < w.heap.size := by
        simp only [World.cell?, Addr.add] at hc
        split at hc
        · rename_i c _ _ hh
          have := (Array.getElem?_eq_some_iff.1 hh).1
          cases sp <;> simp_all
        · cases hc
      obtain ⟨rfl, hb⟩ := hsp
      have hlen : ((zs.take len).map (AVal.int k)).length = len := by simp; omega
      have := VR.view (G := topG w) (μ := μ) ((zs.take len).map (.int k)) b o 1 cap (fun i _ => .int k (zs.getD i 0)) hb (by rw [hlen]; exact h1) (fun i hi => ?_) (fun i j hi hj => ?_) (fun i j hi hj => ?_)
      · rwa [hlen] at this
      · rw [hlen] at hi
        have : ((zs.take len).map (AVal.int k)).getD i .any = .int k (zs.getD i 0) := by
          simp [List.getD_eq_getElem?_getD, List.getElem?_map, List.getElem?_take, hi, show i < zs.length by omega]
        rw [this]; rfl
      · rw [hlen] at hi
        have := h4 i (by omega)
        obtain rfl : j = 0 := by omega
        show w.cell? _ = _
        by_cases hi0 : i = 0
        · subst hi0; simpa [Addr.add] using this
        · simpa [Addr.add, hi0] using this
      · rw [hlen] at hi
        have : ((zs.take len).map (AVal.int k)).getD i .any = .int k (zs.getD i 0) := by
          simp [List.getD_eq_getElem?_getD, List.getElem?_map, List.getElem?_take, hi, show i < zs.length by omega]
        rw [this, show j = 0 by omega]
        exact .int _ _
end Go.Sx
