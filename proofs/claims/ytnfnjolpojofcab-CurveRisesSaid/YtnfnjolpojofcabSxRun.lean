/- Code, reckoned step by step; all that a step speaks of is data. -/
import Derived.Test.YtnfnjolpojofcabSxEx
namespace Go.Sx
open Go

/-- What is still to do after a piece of code. -/
inductive Frame where
  | seq (c : ACode)
  | blk (id : Nat)
  | rnd (c : ACode)
  | sgs (lo : Nat) (ss : List (List AOper))

/-- What is to be done now. -/
inductive Cmd where
  | code (c : ACode)
  | ops (l : List AOper)
  | out (e : Exit)
  | segs (lo : Nat) (ss : List (List AOper))
  | grp (lo : Nat) (l : List AOper) (tr : List (List Nat × List Nat)) (hi : Nat) (ss : List (List AOper))

abbrev Goal := Exit → St → Prop
abbrev Runner := Cmd → List Frame → St → Goal → Prop

/-- A guard's temporary, its value known. -/
def known (ρ : List AVal) (b : Bool) : Option (Nat × Bool) → List AVal
  | none => ρ
  | some (t, want) => match tget ρ t with
    | .tup [] => ρ
    | _ => tset ρ t (.bool (if b = true then want else !want))

theorem known_eq {ρ : List AVal} {b : Bool} {g : Option (Nat × Bool)} (h : gval ρ g = some b) : known ρ b g = ρ := by
  cases g with
  | none => rfl
  | some p =>
    obtain ⟨t, want⟩ := p
    simp only [gval] at h
    unfold boolOf at h
    split at h
    · rename_i c hc
      cases h
      simp only [known, hc, tset_eq]
      rw [tget_eq] at hc
      have hlt : t < ρ.length := by
        rcases Nat.lt_or_ge t ρ.length with h | h
        · exact h
        · rw [List.getD_eq_getElem?_getD, List.getElem?_eq_none h] at hc; cases hc
      have e : (AVal.bool (if (c == want) = true then want else !want)) = ρ[t] := by
        rw [List.getD_eq_getElem?_getD, List.getElem?_eq_getElem hlt] at hc
        simp only [Option.getD_some] at hc
        rw [hc]; cases c <;> cases want <;> rfl
      rw [e, List.set_getElem_self]
    · rename_i hc
      simp only [known, hc]
    · cases h

section
variable (P : Program) (G : Ctx) (k : Nat) (rd : Option Nat)

/-- What stands after the frames. -/
def Fin : List Frame → Goal → Goal
  | [], Q => Q
  | .seq c :: fs, Q => andThen (AW P G k rd c (Fin fs Q)) (Fin fs Q)
  | .blk id :: fs, Q => inBlock id (Fin fs Q)
  | .rnd c :: fs, Q => andThen (AL P G k rd c (Fin fs Q)) (Fin fs Q)
  | .sgs lo ss :: fs, Q => andThen (fun s => ASegs P G k rd lo ss s (Fin fs Q .normal)) fun _ _ => False

/-- A loop at its head, and what follows. -/
def Loop (c : ACode) (fs : List Frame) (s : St) (Q : Goal) : Prop := AL P G k rd c (Fin P G k rd fs Q) s

/-- What is meant. -/
def Mean : Cmd → List Frame → St → Goal → Prop
  | .code c, fs, s, Q => AW P G k rd c (Fin P G k rd fs Q) s
  | .ops l, fs, s, Q => Areg P G k rd l s (Fin P G k rd fs Q .normal)
  | .out e, fs, s, Q => Fin P G k rd fs Q e s
  | .segs lo ss, fs, s, Q => ASegs P G k rd lo ss s (Fin P G k rd fs Q .normal)
  | .grp lo l tr hi ss, fs, s, Q => AGrp P lo l tr s fun s' => ASegs P G k rd hi ss s' (Fin P G k rd fs Q .normal)

/-- An operation's answer, and what follows. -/
def owe (R : Runner) (o : Option (AVal × List (Nat × Row))) (dst : Option Nat) (l : List AOper) (fs : List Frame) (ρ : List AVal) (H : Heap) (ms : List Nat) (Q : Goal) : Prop :=
  match o with
  | some r => R (.ops l) fs ⟨setD ρ dst r.1, H.puts r.2, ms⟩ Q
  | none => False

/-- A call, and what follows. -/
def CallR (R : Runner) (g : FuncId) (args : List AVal) (dst : Option Nat) (l : List AOper) (fs : List Frame) (ρ : List AVal) (H : Heap) (ms : List Nat) (Q : Goal) : Prop :=
  k ≤ H.length ∧ CallW P G g args H fun v H' => (∀ r ∈ ms, H'[r]? = some (some .dfr)) ∧ R (.ops l) fs ⟨setD ρ dst v, H', ms⟩ Q

def callee (R : Runner) (v : AVal) (o : AOper) (xs : List AVal) (l : List AOper) (fs : List Frame) (ρ : List AVal) (H : Heap) (ms : List Nat) (Q : Goal) : Prop :=
  match v with
  | .fn (.func g) ys cs => CallR P G k R g (ys ++ xs ++ cs) o.dst l fs ρ H ms Q
  | _ => Areg P G k rd (o :: l) ⟨ρ, H, ms⟩ (Fin P G k rd fs Q .normal)

/-- One operation, its guard true. -/
def stepOp (R : Runner) (o : AOper) (op : AOp) (l : List AOper) (fs : List Frame) (ρ : List AVal) (H : Heap) (ms : List Nat) (Q : Goal) : Prop :=
  match op with
  | .call f xs => callee P G k rd R (opd ρ f) o (xs.map (opd ρ)) l fs ρ H ms Q
  | op => owe R (aev op ρ H H.length) o.dst l fs ρ H ms Q

/-- One operation, by its guard. -/
def gd (R : Runner) (b : Option Bool) (o : AOper) (l : List AOper) (fs : List Frame) (ρ : List AVal) (H : Heap) (ms : List Nat) (Q : Goal) : Prop :=
  match b with
  | some true => stepOp P G k rd R o o.op l fs (known ρ true o.guard) H ms Q
  | some false => R (.ops l) fs ⟨setD (known ρ false o.guard) o.dst (.tup []), H, ms⟩ Q
  | none => False

/-- An operation's answer in a part of a drawn region, and what follows. -/
def oweG (R : Runner) (o : Option (AVal × List (Nat × Row))) (ao : AOper) (deps : List Nat) (lo : Nat) (l : List AOper) (tr : List (List Nat × List Nat)) (hi : Nat) (ss : List (List AOper)) (fs : List Frame) (ρ : List AVal) (H : Heap) (ms : List Nat) (Q : Goal) : Prop :=
  match o with
  | some r => dynOK ao.free deps (r.2.map (·.1)) tr lo = true ∧ R (.grp lo l (tr ++ [(deps, r.2.map (·.1))]) hi ss) fs ⟨setD ρ ao.dst r.1, H.puts r.2, ms⟩ Q
  | none => False

/-- A call there, and what follows. -/
def DCallR (R : Runner) (g : FuncId) (args : List AVal) (ao : AOper) (lo : Nat) (l : List AOper) (tr : List (List Nat × List Nat)) (hi : Nat) (ss : List (List AOper)) (fs : List Frame) (ρ : List AVal) (H : Heap) (ms : List Nat) (Q : Goal) : Prop :=
  ∃ c deps, (∀ q ∈ ms, q ∉ c.rows) ∧ DCall P g args (H.onlyR deps) c ∧ (∀ r ∈ c.fs, H.length ≤ r ∧ r < (H.puts c.Δ).length) ∧ dynOK ao.free deps (c.Δ.map (·.1)) tr lo = true ∧
    R (.grp lo l (tr ++ [(deps, c.Δ.map (·.1))]) hi ss) fs ⟨setD ρ ao.dst c.v, H.puts c.Δ, ms⟩ Q

def calleeG (R : Runner) (v : AVal) (ao : AOper) (xs : List AVal) (lo : Nat) (l : List AOper) (tr : List (List Nat × List Nat)) (hi : Nat) (ss : List (List AOper)) (fs : List Frame) (ρ : List AVal) (H : Heap) (ms : List Nat) (Q : Goal) : Prop :=
  match v with
  | .fn (.func g) ys cs => DCallR P R g (ys ++ xs ++ cs) ao lo l tr hi ss fs ρ H ms Q
  | _ => False

def stepG (R : Runner) (ao : AOper) (op : AOp) (lo : Nat) (l : List AOper) (tr : List (List Nat × List Nat)) (hi : Nat) (ss : List (List AOper)) (fs : List Frame) (ρ : List AVal) (H : Heap) (ms : List Nat) (Q : Goal) : Prop :=
  match op with
  | .call f xs => calleeG P R (opd ρ f) ao (xs.map (opd ρ)) lo l tr hi ss fs ρ H ms Q
  | op => oweG R (aev op ρ H H.length) ao (adeps op ρ) lo l tr hi ss fs ρ H ms Q

def gdG (R : Runner) (b : Option Bool) (ao : AOper) (lo : Nat) (l : List AOper) (tr : List (List Nat × List Nat)) (hi : Nat) (ss : List (List AOper)) (fs : List Frame) (ρ : List AVal) (H : Heap) (ms : List Nat) (Q : Goal) : Prop :=
  match b with
  | some true => stepG P R ao ao.op lo l tr hi ss fs (known ρ true ao.guard) H ms Q
  | some false => R (.grp lo l (tr ++ [([], [])]) hi ss) fs ⟨setD (known ρ false ao.guard) ao.dst (.tup []), H, ms⟩ Q
  | none => False

def outSgs (R : Runner) (e : Exit) (lo : Nat) (ss : List (List AOper)) (fs : List Frame) (s : St) (Q : Goal) : Prop :=
  match e with
  | .normal => R (.segs lo ss) fs s Q
  | _ => False

/-- One of two, by a test. -/
def br (R : Runner) (v : AVal) (x y : ACode) (fs : List Frame) (s : St) (Q : Goal) : Prop :=
  match v with
  | .bool true => R (.code x) fs s Q
  | .bool false => R (.code y) fs s Q
  | _ => False

def outSeq (R : Runner) (e : Exit) (c : ACode) (fs : List Frame) (s : St) (Q : Goal) : Prop :=
  match e with
  | .normal => R (.code c) fs s Q
  | e => R (.out e) fs s Q

def outBlk (R : Runner) (e : Exit) (id : Nat) (fs : List Frame) (s : St) (Q : Goal) : Prop :=
  match e with
  | .exit j => if j = id then R (.out .normal) fs s Q else R (.out (.exit j)) fs s Q
  | e => R (.out e) fs s Q

def outRnd (R : Runner) (e : Exit) (c : ACode) (fs : List Frame) (s : St) (Q : Goal) : Prop :=
  match e with
  | .normal => Loop P G k rd c fs s Q
  | e => R (.out e) fs s Q

def Run : Nat → Runner
  | 0, c, fs, s, Q => Mean P G k rd c fs s Q
  | n + 1, .ops [], fs, s, Q => Run n (.out .normal) fs s Q
  | n + 1, .ops (o :: l), fs, s, Q => gd P G k rd (Run n) (gval s.ρ o.guard) o l fs s.ρ s.H s.ms Q
  | n + 1, .code .skip, fs, s, Q => Run n (.out .normal) fs s Q
  | n + 1, .code (.reg l false), fs, s, Q => Run n (.ops l) fs s Q
  | n + 1, .code (.reg l true), fs, s, Q => P.follows .mixedOrders = true ∧ statOK l = true ∧ Run n (.segs 0 (segs l)) fs s Q
  | n + 1, .segs _ [], fs, s, Q => Run n (.out .normal) fs s Q
  | n + 1, .segs lo ([ao] :: ss), fs, s, Q => Run n (.ops [ao]) (.sgs (lo + 1) ss :: fs) s Q
  | n + 1, .segs lo (grp :: ss), fs, s, Q => Run n (.grp lo grp [] (lo + grp.length) ss) fs s Q
  | n + 1, .grp _ [] _ hi ss, fs, s, Q => Run n (.segs hi ss) fs s Q
  | n + 1, .grp lo (ao :: l) tr hi ss, fs, s, Q => gdG P (Run n) (gval s.ρ ao.guard) ao lo l tr hi ss fs s.ρ s.H s.ms Q
  | n + 1, .code (.seq a b), fs, s, Q => Run n (.code a) (.seq b :: fs) s Q
  | n + 1, .code (.cond c a b), fs, s, Q => br (Run n) (opd s.ρ c) a b fs s Q
  | n + 1, .code (.block id c), fs, s, Q => Run n (.code c) (.blk id :: fs) s Q
  | n + 1, .code (.exit id), fs, s, Q => Run n (.out (.exit id)) fs s Q
  | n + 1, .code (.label _), fs, s, Q => Run n (.out .normal) fs s Q
  | n + 1, .code (.goto l), fs, s, Q => Run n (.out (.goto l)) fs s Q
  | n + 1, .code .ret, fs, s, Q => Run n (.out .ret) fs s Q
  | _ + 1, .code (.loop c), fs, s, Q => Loop P G k rd c fs s Q
  | _ + 1, .code c, fs, s, Q => Mean P G k rd (.code c) fs s Q
  | _ + 1, .out e, [], s, Q => Q e s
  | n + 1, .out e, .seq c :: fs, s, Q => outSeq (Run n) e c fs s Q
  | n + 1, .out e, .blk id :: fs, s, Q => outBlk (Run n) e id fs s Q
  | n + 1, .out e, .rnd c :: fs, s, Q => outRnd P G k rd (Run n) e c fs s Q
  | n + 1, .out e, .sgs lo ss :: fs, s, Q => outSgs (Run n) e lo ss fs s Q
end
section
variable {P : Program} {G : Ctx} {k : Nat} {rd : Option Nat}

theorem run_mean (n : Nat) : ∀ (c : Cmd) (fs : List Frame) (s : St) (Q : Goal), Run P G k rd n c fs s Q → Mean P G k rd c fs s Q := by
  induction n with
  | zero => intro c fs s Q h; simpa only [Run] using h
  | succ n ih =>
    intro c fs s Q h
    cases c with
    | ops l =>
      cases l with
      | nil => exact areg_nil (P := P) (G := G) (k := k) (rd := rd) (K := Fin P G k rd fs Q .normal) (ih (.out .normal) fs s Q (by simpa only [Run] using h))
      | cons ao l =>
        simp only [Run] at h
        cases hg : gval s.ρ ao.guard with
        | none => rw [hg] at h; exact h.elim
        | some b =>
          rw [hg] at h
          have hk := known_eq hg
          cases b with
          | false =>
            simp only [gd, hk] at h
            exact op_skip hg (ih _ _ _ _ h)
          | true =>
            simp only [gd, hk] at h
            have simple : owe (Run P G k rd n) (aev ao.op s.ρ s.H s.H.length) ao.dst l fs s.ρ s.H s.ms Q → Mean P G k rd (.ops (ao :: l)) fs s Q := by
              intro h
              cases he : aev ao.op s.ρ s.H s.H.length with
              | none => rw [he] at h; exact h.elim
              | some r => rw [he] at h; exact op_simple hg he (ih _ _ _ _ h)
            by_cases hcall : ∃ f xs, ao.op = .call f xs
            · obtain ⟨f, xs, ho⟩ := hcall
              rw [ho] at h
              simp only [stepOp, callee] at h
              split at h
              · rename_i g ys cs hf
                exact op_call hg ho hf h.2 h.1 fun v H' hR => ⟨hR.1, ih _ _ _ _ hR.2⟩
              · exact h
            · refine simple ?_
              unfold stepOp at h
              split at h
              · rename_i f xs ho; exact absurd ⟨_, _, ho⟩ hcall
              · exact h
    | out e =>
      cases fs with
      | nil => simpa only [Run, Mean, Fin] using h
      | cons f fs =>
        cases f with
        | seq c =>
          simp only [Run] at h
          cases e with
          | normal => exact ih (.code c) fs s Q h
          | exit j => exact ih (.out (.exit j)) fs s Q h
          | goto j => exact ih (.out (.goto j)) fs s Q h
          | ret => exact ih (.out .ret) fs s Q h
          | panic ch => exact ih (.out (.panic ch)) fs s Q h
          | outgrown => exact ih (.out .outgrown) fs s Q h
        | rnd c =>
          simp only [Run] at h
          cases e with
          | normal => exact h
          | exit j => exact ih (.out (.exit j)) fs s Q h
          | goto j => exact ih (.out (.goto j)) fs s Q h
          | ret => exact ih (.out .ret) fs s Q h
          | panic ch => exact ih (.out (.panic ch)) fs s Q h
          | outgrown => exact ih (.out .outgrown) fs s Q h
        | sgs lo ss =>
          simp only [Run, outSgs] at h
          cases e with
          | normal => exact ih (.segs lo ss) fs s Q h
          | _ => exact h.elim
        | blk id =>
          simp only [Run] at h
          cases e with
          | normal => exact ih (.out .normal) fs s Q h
          | exit j =>
            show (if j = id then _ else _)
            simp only [outBlk] at h
            split at h <;> rename_i hj
            · rw [if_pos hj]; exact ih (.out .normal) fs s Q h
            · rw [if_neg hj]; exact ih (.out (.exit j)) fs s Q h
          | goto j => exact ih (.out (.goto j)) fs s Q h
          | ret => exact ih (.out .ret) fs s Q h
          | panic ch => exact ih (.out (.panic ch)) fs s Q h
          | outgrown => exact ih (.out .outgrown) fs s Q h
    | segs lo ss =>
      match ss, h with
      | [], h => exact ih (.out .normal) fs s Q (by simpa only [Run] using h)
      | [ao] :: ss, h => exact ih (.ops [ao]) (.sgs (lo + 1) ss :: fs) s Q (by simpa only [Run] using h)
      | [] :: ss, h => exact ih (.grp lo [] [] (lo + ([] : List AOper).length) ss) fs s Q (by simpa only [Run] using h)
      | (a :: b :: grp) :: ss, h => exact ih (.grp lo (a :: b :: grp) [] (lo + (a :: b :: grp).length) ss) fs s Q (by simpa only [Run] using h)
    | grp lo l tr hi ss =>
      cases l with
      | nil => exact ih (.segs hi ss) fs s Q (by simpa only [Run] using h)
      | cons ao l =>
        simp only [Run] at h
        simp only [Mean, AGrp]
        cases hg : gval s.ρ ao.guard with
        | none => rw [hg] at h; exact h.elim
        | some b =>
          rw [hg] at h
          have hk := known_eq hg
          cases b with
          | false =>
            simp only [gdG, hk] at h
            exact ih _ _ _ _ h
          | true =>
            simp only [gdG, hk] at h
            have simple : oweG (Run P G k rd n) (aev ao.op s.ρ s.H s.H.length) ao (adeps ao.op s.ρ) lo l tr hi ss fs s.ρ s.H s.ms Q → (match aev ao.op s.ρ s.H s.H.length with
                | none => False
                | some r => dynOK ao.free (adeps ao.op s.ρ) (r.2.map (·.1)) tr lo = true ∧ AGrp P lo l (tr ++ [(adeps ao.op s.ρ, r.2.map (·.1))]) { s with ρ := setD s.ρ ao.dst r.1, H := s.H.puts r.2 } fun s' => ASegs P G k rd hi ss s' (Fin P G k rd fs Q .normal)) := by
              intro h
              cases he : aev ao.op s.ρ s.H s.H.length with
              | none => rw [he] at h; exact h.elim
              | some r => rw [he] at h; exact ⟨h.1, ih _ _ _ _ h.2⟩
            cases hop : ao.op
            case call f xs =>
              rw [hop] at h
              simp only [stepG, calleeG] at h
              split at h
              · rename_i g ys cs hf
                obtain ⟨c, deps, h1, h2, h3, h4, h5⟩ := h
                exact ⟨g, ys, cs, c, deps, h1, hf, h2, h3, h4, ih _ _ _ _ h5⟩
              · exact h.elim
            all_goals (rw [hop] at h simple; exact simple h)
    | code c =>
      cases c with
      | skip => exact aw_skip (ih (.out .normal) fs s Q (by simpa only [Run] using h))
      | reg l draw =>
        cases draw with
        | false => exact aw_reg (ih (.ops l) fs s Q (by simpa only [Run] using h))
        | true =>
          simp only [Run] at h
          exact aw_reg_segs h.1 h.2.1 (ih (.segs 0 (segs l)) fs s Q h.2.2)
      | seq a b => exact aw_seq (ih (.code a) (.seq b :: fs) s Q (by simpa only [Run] using h))
      | cond c a b =>
        simp only [Run, br] at h
        split at h
        · rename_i ho; exact aw_cond ho (fun _ => ih (.code a) fs s Q h) (fun e => nomatch e)
        · rename_i ho; exact aw_cond ho (fun e => nomatch e) (fun _ => ih (.code b) fs s Q h)
        · exact h.elim
      | block id c => exact aw_block (ih (.code c) (.blk id :: fs) s Q (by simpa only [Run] using h))
      | exit id => exact aw_exit (ih (.out (.exit id)) fs s Q (by simpa only [Run] using h))
      | label l => exact aw_label (ih (.out .normal) fs s Q (by simpa only [Run] using h))
      | goto l => exact aw_goto (ih (.out (.goto l)) fs s Q (by simpa only [Run] using h))
      | loop c => exact aw_loop (by simpa only [Run, Loop] using h)
      | ret => exact aw_ret (ih (.out .ret) fs s Q (by simpa only [Run] using h))
      | _ => simpa only [Run] using h

/-- A loop's round. -/
theorem loop_round (n : Nat) {c : ACode} {fs : List Frame} {s : St} {Q : Goal} (h : Run P G k rd n (.code c) (.rnd c :: fs) s Q) : Loop P G k rd c fs s Q := al_round (run_mean n _ _ _ _ h)
theorem loop_less {c : ACode} {fs : List Frame} {s s' : St} {Q : Goal} (hl : Less P G k s s') (h : Loop P G k rd c fs s' Q) : Loop P G k rd c fs s Q := al_less hl h

/-- A function by its code. -/
theorem run_aw (n : Nat) {c : ACode} {s : St} {Q : Goal} (h : Run P G k rd n (.code c) [] s Q) : AW P G k rd c Q s := run_mean n _ _ _ _ h

theorem callR {R : Runner} {g : FuncId} {args : List AVal} {dst : Option Nat} {l : List AOper} {fs : List Frame} {ρ : List AVal} {H : Heap} {ms : List Nat} {Q : Goal} {T : AVal → Heap → Prop} (h : CallOK P G g args H T)
    (hk : k ≤ H.length) (hK : ∀ v H', T v H' → (∀ r ∈ ms, H'[r]? = some (some .dfr)) ∧ R (.ops l) fs ⟨setD ρ dst v, H', ms⟩ Q) : CallR P G k R g args dst l fs ρ H ms Q :=
  ⟨hk, (h.mono hK).weak⟩

theorem dcallR {R : Runner} {g : FuncId} {args : List AVal} {ao : AOper} {lo : Nat} {l : List AOper} {tr : List (List Nat × List Nat)} {hi : Nat} {ss : List (List AOper)} {fs : List Frame} {ρ : List AVal} {H : Heap} {ms : List Nat} {Q : Goal} {c : Oc} {deps : List Nat}
    (h : DCall P g args (H.onlyR deps) c) (hK : (∀ q ∈ ms, q ∉ c.rows) ∧ (∀ r ∈ c.fs, H.length ≤ r ∧ r < (H.puts c.Δ).length) ∧ dynOK ao.free deps (c.Δ.map (·.1)) tr lo = true ∧
    R (.grp lo l (tr ++ [(deps, c.Δ.map (·.1))]) hi ss) fs ⟨setD ρ ao.dst c.v, H.puts c.Δ, ms⟩ Q) : DCallR P R g args ao lo l tr hi ss fs ρ H ms Q :=
  ⟨c, deps, hK.1, h, hK.2.1, hK.2.2.1, hK.2.2.2⟩

/-! ### Rules -/
section
variable {R : Runner} {ao : AOper} {deps : List Nat} {lo hi : Nat} {l : List AOper} {tr : List (List Nat × List Nat)} {ss : List (List AOper)} {fs : List Frame} {ρ : List AVal} {H : Heap} {ms : List Nat} {Q : Goal}
theorem oweG_some (r : AVal × List (Nat × Row)) : oweG R (some r) ao deps lo l tr hi ss fs ρ H ms Q = (dynOK ao.free deps (r.2.map (·.1)) tr lo = true ∧ R (.grp lo l (tr ++ [(deps, r.2.map (·.1))]) hi ss) fs ⟨setD ρ ao.dst r.1, H.puts r.2, ms⟩ Q) := rfl
theorem oweG_none : oweG R none ao deps lo l tr hi ss fs ρ H ms Q = False := rfl
theorem oweG_if (c : Prop) [Decidable c] (o : Option (AVal × List (Nat × Row))) : oweG R (if c then o else none) ao deps lo l tr hi ss fs ρ H ms Q = (c ∧ oweG R o ao deps lo l tr hi ss fs ρ H ms Q) := by
  by_cases h : c <;> simp [h, oweG]
theorem oweG_if' (c : Prop) [Decidable c] (o : Option (AVal × List (Nat × Row))) : oweG R (if c then none else o) ao deps lo l tr hi ss fs ρ H ms Q = (¬ c ∧ oweG R o ao deps lo l tr hi ss fs ρ H ms Q) := by
  by_cases h : c <;> simp [h, oweG]
theorem oweG_ite (c : Prop) [Decidable c] (o o' : Option (AVal × List (Nat × Row))) : oweG R (if c then o else o') ao deps lo l tr hi ss fs ρ H ms Q = ((c → oweG R o ao deps lo l tr hi ss fs ρ H ms Q) ∧ (¬ c → oweG R o' ao deps lo l tr hi ss fs ρ H ms Q)) := by
  by_cases h : c <;> simp [h]
theorem gdG_true : gdG P R (some true) ao lo l tr hi ss fs ρ H ms Q = stepG P R ao ao.op lo l tr hi ss fs (known ρ true ao.guard) H ms Q := rfl
theorem gdG_false : gdG P R (some false) ao lo l tr hi ss fs ρ H ms Q = R (.grp lo l (tr ++ [([], [])]) hi ss) fs ⟨setD (known ρ false ao.guard) ao.dst (.tup []), H, ms⟩ Q := rfl
theorem gdG_some (b : Bool) : gdG P R (some b) ao lo l tr hi ss fs ρ H ms Q = ((b = true → gdG P R (some true) ao lo l tr hi ss fs ρ H ms Q) ∧ (b = false → gdG P R (some false) ao lo l tr hi ss fs ρ H ms Q)) := by cases b <;> simp
end
variable {R : Runner} {l : List AOper} {fs : List Frame} {ρ : List AVal} {H : Heap} {ms : List Nat} {Q : Goal} {dst : Option Nat}
theorem owe_some (r : AVal × List (Nat × Row)) : owe R (some r) dst l fs ρ H ms Q = R (.ops l) fs ⟨setD ρ dst r.1, H.puts r.2, ms⟩ Q := rfl
theorem owe_none : owe R none dst l fs ρ H ms Q = False := rfl
theorem owe_if (c : Prop) [Decidable c] (o : Option (AVal × List (Nat × Row))) : owe R (if c then o else none) dst l fs ρ H ms Q = (c ∧ owe R o dst l fs ρ H ms Q) := by
  by_cases h : c <;> simp [h, owe]
theorem owe_if' (c : Prop) [Decidable c] (o : Option (AVal × List (Nat × Row))) : owe R (if c then none else o) dst l fs ρ H ms Q = (¬ c ∧ owe R o dst l fs ρ H ms Q) := by
  by_cases h : c <;> simp [h, owe]
theorem owe_ite (c : Prop) [Decidable c] (o o' : Option (AVal × List (Nat × Row))) : owe R (if c then o else o') dst l fs ρ H ms Q = ((c → owe R o dst l fs ρ H ms Q) ∧ (¬ c → owe R o' dst l fs ρ H ms Q)) := by
  by_cases h : c <;> simp [h]
theorem gd_true (o : AOper) : gd P G k rd R (some true) o l fs ρ H ms Q = stepOp P G k rd R o o.op l fs (known ρ true o.guard) H ms Q := rfl
theorem gd_false (o : AOper) : gd P G k rd R (some false) o l fs ρ H ms Q = R (.ops l) fs ⟨setD (known ρ false o.guard) o.dst (.tup []), H, ms⟩ Q := rfl
theorem gd_some (b : Bool) (o : AOper) : gd P G k rd R (some b) o l fs ρ H ms Q = ((b = true → gd P G k rd R (some true) o l fs ρ H ms Q) ∧ (b = false → gd P G k rd R (some false) o l fs ρ H ms Q)) := by cases b <;> simp
theorem br_true (x y : ACode) (s : St) : br R (.bool true) x y fs s Q = R (.code x) fs s Q := rfl
theorem br_false (x y : ACode) (s : St) : br R (.bool false) x y fs s Q = R (.code y) fs s Q := rfl
theorem br_some (b : Bool) (x y : ACode) (s : St) : br R (.bool b) x y fs s Q = ((b = true → R (.code x) fs s Q) ∧ (b = false → R (.code y) fs s Q)) := by cases b <;> simp [br]
end

@[simp] theorem Heap.puts_nil (H : Heap) : H.puts [] = H := rfl
@[simp] theorem Heap.puts_cons (H : Heap) (r : Nat) (x : Row) (l : List (Nat × Row)) : H.puts ((r, x) :: l) = (H.put r x).puts l := rfl
@[simp] theorem Heap.put_end' (H : Heap) (x : Row) : Heap.put H (List.length H) x = H ++ [some x] := Heap.put_end H x
end Go.Sx
