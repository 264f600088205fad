/- The logic: states, what holds behind a piece of code, the rules of control. -/
import Derived.Test.YtnfnjolpojofcabSxAev
namespace Go.Sx
open Go

/-- A frame's temporaries, the rows, and the marks among the deferred calls. -/
structure St where
  ρ : List AVal
  H : Heap
  ms : List Nat := []

def Fw (ro : Option Nat) : Fence := { Fence.wide with round := ro }

def blkOf (μ : Mu) (r : Nat) : Nat := ((μ r).map (·.blk)).getD 0

def Dom (μ : Mu) (H : Heap) : Prop := ∀ r, (μ r).isSome = true → r < H.length

structure Rel (P : Program) (G : Ctx) (μ : Mu) (s : St) (a : Act) (w : World) : Prop where
  tr : TR G μ s.ρ a.tmps
  hr : HR P G μ s.H w
  dom : Dom μ s.H
  mk' : a.defers = s.ms.map fun r => { target := .collected (blkOf μ r), args := #[] }
  mkr : ∀ r ∈ s.ms, s.H[r]? = some (some .dfr)

/-- As 'Mu.le', for the first rows alone. -/
def Mu.leB (k : Nat) (μ μ' : Mu) : Prop := ∀ r p, r < k → μ r = some p → ∃ p', μ' r = some p' ∧ p.le p'

theorem Mu.leB_of {k : Nat} {μ μ' : Mu} (h : μ.le μ') : Mu.leB k μ μ' := fun r p _ hp => h r p hp
theorem Mu.leB_refl (k : Nat) (μ : Mu) : Mu.leB k μ μ := fun _ p _ hp => ⟨p, hp, .inl rfl⟩
theorem Mu.leB_trans {k : Nat} {a b c : Mu} (h : Mu.leB k a b) (h' : Mu.leB k b c) : Mu.leB k a c := fun r p hr hp => by
  obtain ⟨q, hq, hpq⟩ := h r p hr hp
  obtain ⟨s, hs, hqs⟩ := h' r q hr hq
  refine ⟨s, hs, ?_⟩
  rcases hpq with rfl | ⟨h1, h0, h2, h3⟩
  · exact hqs
  · rcases hqs with rfl | ⟨h4, h7, h5, h6⟩
    · exact .inr ⟨h1, h0, h2, h3⟩
    · exact .inr ⟨h1, h7, h5, by omega⟩
theorem Mu.leB_less {k k' : Nat} {μ μ' : Mu} (h : Mu.leB k μ μ') (hk : k' ≤ k) : Mu.leB k' μ μ' := fun r p hr hp => h r p (by omega) hp

/-- The round's record. -/
def RdOK (k : Nat) (μ : Mu) : Option Nat → Option Nat → Prop
  | none, ro => ro = none
  | some r, ro => r < k ∧ ∃ p, μ r = some p ∧ p.vec = false ∧ ro = some p.blk

theorem RdOK.mono {k : Nat} {μ μ' : Mu} {rd ro : Option Nat} (h : RdOK k μ rd ro) (hμ : Mu.leB k μ μ') : RdOK k μ' rd ro := by
  cases rd with
  | none => exact h
  | some r =>
    obtain ⟨h0, p, h1, h2, h3⟩ := h
    obtain ⟨p', h4, rfl | ⟨h5, _⟩⟩ := hμ r p h0 h1
    · exact ⟨h0, _, h4, h2, h3⟩
    · simp [h2] at h5

/-- What is said of where a piece of code is left. -/
def Post (P : Program) (G : Ctx) (k : Nat) (μ : Mu) (Q : Exit → St → Prop) (e : Exit) (a : Act) (w : World) : Prop :=
  ∃ μ' s, Q e s ∧ Mu.leB k μ μ' ∧ Rel P G μ' s a w

theorem Post.from {P : Program} {G : Ctx} {k : Nat} {μ μ' : Mu} {Q Q' : Exit → St → Prop} {e : Exit} {a : Act} {w : World} (h : Post P G k μ' Q e a w) (hμ : Mu.leB k μ μ') (hq : ∀ s, Q e s → Q' e s) : Post P G k μ Q' e a w :=
  let ⟨μ₂, s, h1, h2, h3⟩ := h; ⟨μ₂, s, hq s h1, Mu.leB_trans hμ h2, h3⟩

/-- From whatever holds of 's', the code is left as Q says. 'k': rows below it are not dropped. -/
def Awp (P : Program) (G : Ctx) (k : Nat) (rd : Option Nat) (c : Code) (Q : Exit → St → Prop) (s : St) : Prop :=
  ∀ μ ro a w, RdOK k μ rd ro → Rel P G μ s a w → c.wpIn (Fw ro) 0 P (Post P G k μ Q) a w

section rules
variable {P : Program} {G : Ctx} {k : Nat} {rd : Option Nat} {Q : Exit → St → Prop} {s : St}

theorem Awp.mono {c : Code} {Q' : Exit → St → Prop} (h : Awp P G k rd c Q s) (hq : ∀ e s, Q e s → Q' e s) : Awp P G k rd c Q' s :=
  fun μ ro a w h1 h2 => wpIn_mono (h μ ro a w h1 h2) fun _ _ _ hp => hp.from (Mu.leB_refl _ _) (hq _)

theorem awp_skip (h : Q .normal s) : Awp P G k rd .skip Q s := fun μ _ _ _ _ h2 => wpIn_skip ⟨μ, s, h, Mu.leB_refl _ _, h2⟩
theorem awp_exit {id : Nat} (h : Q (.exit id) s) : Awp P G k rd (.exit id) Q s := fun μ _ _ _ _ h2 => wpIn_exit ⟨μ, s, h, Mu.leB_refl _ _, h2⟩
theorem awp_goto {l : Nat} (h : Q (.goto l) s) : Awp P G k rd (.goto l) Q s := fun μ _ _ _ _ h2 => wpIn_goto ⟨μ, s, h, Mu.leB_refl _ _, h2⟩
theorem awp_label {l : Nat} (h : Q .normal s) : Awp P G k rd (.label l) Q s := fun μ _ _ _ _ h2 => wpIn_label ⟨μ, s, h, Mu.leB_refl _ _, h2⟩
theorem awp_ret (h : Q .ret s) : Awp P G k rd .ret Q s := fun μ _ _ _ _ h2 => wpIn_ret ⟨μ, s, h, Mu.leB_refl _ _, h2⟩

/-- Behind a first piece. -/
def andThen (K : St → Prop) (Q : Exit → St → Prop) : Exit → St → Prop
  | .normal, s => K s
  | e, s => Q e s

theorem post_then {F : Fence} {μ : Mu} {ro : Option Nat} {y : Code} (hF : F = Fw ro) (hr : RdOK k μ rd ro) (e : Exit) (a : Act) (w : World) (h : Post P G k μ (andThen (Awp P G k rd y Q) Q) e a w) :
    Exit.then (y.wpIn F 0 P (Post P G k μ Q)) (Post P G k μ Q) e a w := by
  subst hF
  obtain ⟨μ', s', h1, h2, h3⟩ := h
  cases e with
  | normal => exact wpIn_mono (h1 μ' ro a w (hr.mono h2) h3) fun _ _ _ hp => hp.from h2 fun _ h => h
  | _ => exact ⟨μ', s', h1, h2, h3⟩

theorem awp_seq {x y : Code} (h : Awp P G k rd x (andThen (Awp P G k rd y Q) Q) s) : Awp P G k rd (.seq x y) Q s :=
  fun μ ro a w h1 h2 => wpIn_seq (wpIn_mono (h μ ro a w h1 h2) fun e a w hp => post_then rfl h1 e a w hp)

theorem awp_cond {c : Operand} {x y : Code} {t : Bool} (hc : opd s.ρ (copd c) = .bool t) (h1 : t = true → Awp P G k rd x Q s) (h2 : t = false → Awp P G k rd y Q s) : Awp P G k rd (.cond c x y) Q s :=
  fun μ ro a w hr h => wpIn_cond_split ((hc ▸ opd_sound h.tr c).inv_bool) (fun ht => h1 ht μ ro a w hr h) (fun ht => h2 ht μ ro a w hr h)

def inBlock (id : Nat) (Q : Exit → St → Prop) : Exit → St → Prop
  | .exit id', s => if id' = id then Q .normal s else Q (.exit id') s
  | e, s => Q e s

theorem awp_block {id : Nat} {c : Code} (h : Awp P G k rd c (inBlock id Q) s) : Awp P G k rd (.block id c) Q s :=
  fun μ ro a w h1 h2 => wpIn_block (wpIn_mono (h μ ro a w h1 h2) fun e a w hp => by
    obtain ⟨μ', s', h3, h4, h5⟩ := hp
    cases e with
    | exit id' =>
      simp only [inBlock] at h3
      simp only [Exit.inBlock]
      split
      · rename_i hid; rw [if_pos hid] at h3; exact ⟨μ', s', h3, h4, h5⟩
      · rename_i hid; rw [if_neg hid] at h3; exact ⟨μ', s', h3, h4, h5⟩
    | _ => exact ⟨μ', s', h3, h4, h5⟩)

/-! ### Loops -/

/-- At a loop's head. -/
def LoopW (F : Fence) (P : Program) (c : Code) (Q : Exit → Act → World → Prop) (a : Act) (w : World) : Prop :=
  ∀ (b : Frame) (k : List Item) (cs : List Frame), b.roundOf = F.round → F.fn b.fn → F.room (cs.length + 1 + 0) →
    ∃ e a' w', Q e a' w' ∧ ArrivesIn (Machine.fenced P F) P (lone (b.atR a (.code c :: .inLoop c :: k)) cs w) b k cs e a' w'

theorem wpIn_loopW {F : Fence} {c : Code} {Q : Exit → Act → World → Prop} {a : Act} {w : World} (h : LoopW F P c Q a w) : (Code.loop c).wpIn F 0 P Q a w := by
  intro b k cs hro hb hr
  obtain ⟨e, a', w', hq, harr⟩ := h b k cs hro hb hr
  exact ⟨e, a', w', hq, .of_steps (.one (fenced_calm hb hr rfl) stepR_loop) harr⟩

theorem loopW_round {F : Fence} {c : Code} {Q : Exit → Act → World → Prop} {a : Act} {w : World} (h : c.wpIn F 0 P (Exit.then (LoopW F P c Q) Q) a w) : LoopW F P c Q a w := by
  intro b k cs hro hb hr
  obtain ⟨e, a₁, w₁, hq, harr⟩ := h b (.inLoop c :: k) cs hro hb hr
  cases e with
  | normal =>
    obtain ⟨e₂, a₂, w₂, hq₂, harr₂⟩ := hq b k cs hro hb hr
    exact ⟨e₂, a₂, w₂, hq₂, .of_steps (StepsIn.trans harr (.one (fenced_calm hb hr rfl) stepR_inLoop)) harr₂⟩
  | exit id => exact ⟨_, a₁, w₁, hq, .pass (x := .inLoop c) rfl (fun _ _ => .inl (by simp)) harr⟩
  | goto l => exact ⟨_, a₁, w₁, hq, .pass (x := .inLoop c) rfl (fun _ _ => .inl (by simp)) harr⟩
  | ret => exact ⟨_, a₁, w₁, hq, .pass (x := .inLoop c) rfl (fun _ _ => .inl (by simp)) harr⟩
  | panic ch => exact ⟨_, a₁, w₁, hq, .pass (x := .inLoop c) rfl (fun _ _ => .inl (by simp)) harr⟩
  | outgrown => exact ⟨_, a₁, w₁, hq, .pass (x := .inLoop c) rfl (fun _ _ => .inl (by simp)) harr⟩

theorem LoopW.mono {F : Fence} {c : Code} {Q Q' : Exit → Act → World → Prop} {a : Act} {w : World} (h : LoopW F P c Q a w) (hq : ∀ e a w, Q e a w → Q' e a w) : LoopW F P c Q' a w :=
  fun b k cs h1 h2 h3 => let ⟨e, a', w', h4, h5⟩ := h b k cs h1 h2 h3; ⟨e, a', w', hq _ _ _ h4, h5⟩

/-- At a loop's head, from s on. -/
def ALoop (P : Program) (G : Ctx) (k : Nat) (rd : Option Nat) (c : Code) (Q : Exit → St → Prop) (s : St) : Prop :=
  ∀ μ ro a w, RdOK k μ rd ro → Rel P G μ s a w → LoopW (Fw ro) P c (Post P G k μ Q) a w

theorem awp_loop {c : Code} (h : ALoop P G k rd c Q s) : Awp P G k rd (.loop c) Q s := fun μ ro a w h1 h2 => wpIn_loopW (h μ ro a w h1 h2)

/-- One round. -/
theorem aloop_round {c : Code} (h : Awp P G k rd c (andThen (ALoop P G k rd c Q) Q) s) : ALoop P G k rd c Q s :=
  fun μ ro a w h1 h2 => loopW_round (wpIn_mono (h μ ro a w h1 h2) fun e a w hp => by
    obtain ⟨μ', s', h3, h4, h5⟩ := hp
    cases e with
    | normal => exact (h3 μ' ro a w (h1.mono h4) h5).mono fun _ _ _ hp => hp.from h4 fun _ h => h
    | _ => exact ⟨μ', s', h3, h4, h5⟩)

/-! ### Saying less of a state -/

/-- Whatever fits s fits s', but for rows from k on. -/
def Less (P : Program) (G : Ctx) (k : Nat) (s s' : St) : Prop := ∀ μ a w, Rel P G μ s a w → ∃ μ', Rel P G μ' s' a w ∧ Mu.leB k μ μ'

theorem Less.refl : Less P G k s s := fun μ _ _ h => ⟨μ, h, Mu.leB_refl _ _⟩
theorem Less.trans {s' s'' : St} (h : Less P G k s s') (h' : Less P G k s' s'') : Less P G k s s'' := fun μ a w hr => by
  obtain ⟨μ', h1, h2⟩ := h μ a w hr
  obtain ⟨μ'', h3, h4⟩ := h' μ' a w h1
  exact ⟨μ'', h3, Mu.leB_trans h2 h4⟩

theorem awp_less {c : Code} {s' : St} (hl : Less P G k s s') (h : Awp P G k rd c Q s') : Awp P G k rd c Q s := fun μ ro a w h1 h2 => by
  obtain ⟨μ', h3, h4⟩ := hl μ a w h2
  exact wpIn_mono (h μ' ro a w (h1.mono h4) h3) fun _ _ _ hp => hp.from h4 fun _ h => h

theorem aloop_less {c : Code} {s' : St} (hl : Less P G k s s') (h : ALoop P G k rd c Q s') : ALoop P G k rd c Q s := fun μ ro a w h1 h2 => by
  obtain ⟨μ', h3, h4⟩ := hl μ a w h2
  exact (h μ' ro a w (h1.mono h4) h3).mono fun _ _ _ hp => hp.from h4 fun _ h => h
end rules
end Go.Sx
