/- Lives. -/
import Derived.Test.YtgikocfbedopmaaYcP
namespace Go.Proofs
open Go Go.Sx
attribute [local irreducible] Run

/-- As 'loop_ind', with fewer steps a round. -/
theorem loop_ind3 {P : Program} {G : Ctx} {k : Nat} {rd : Option Nat} {fs : List Sx.Frame} {ms : List Nat} {Q : Goal} {α : Type} {c c' : ACode} (hc : c = c') (Inv : α → Prop) (μ : α → Nat) (st : α → List AVal × Heap) {ρ : List AVal} {H : Heap} (a0 : α) (h0 : Inv a0) (hw : Wk ρ (st a0).1) (hH : H = (st a0).2)
    (step : ∀ a, Inv a → (∀ b, μ b < μ a → Inv b → ∀ ρ', Wk ρ' (st b).1 → Sx.Loop P G k rd c fs ⟨ρ', (st b).2, ms⟩ Q) → Run P G k rd 300 (.code c') (.rnd c :: fs) ⟨(st a).1, (st a).2, ms⟩ Q) : Sx.Loop P G k rd c fs ⟨ρ, H, ms⟩ Q := by
  have key : ∀ (n : Nat) (a : α), μ a = n → Inv a → ∀ ρ', Wk ρ' (st a).1 → Sx.Loop P G k rd c fs ⟨ρ', (st a).2, ms⟩ Q := by
    intro n
    induction n using Nat.strongRecOn with
    | ind n ih =>
      intro a ha hi ρ' hw
      exact loop_wk hw (loop_body 300 hc (step a hi fun b hb hib ρ'' hw'' => ih (μ b) (by omega) b rfl hib ρ'' hw''))
  subst hH
  exact key _ a0 rfl h0 ρ hw

structure LifeInv (fl fh : Nat → Int) (least : Int) (N LO HI : Nat) (a : Nat × Bool × Bool × Int × Int) : Prop where
  le : a.1 ≤ N
  lo : a.2.1 = true → a.2.2.2.1 = a.1 ∧ lifeN fl least (N - a.1) a.1 = LO
  lo' : a.2.1 = false → a.2.2.2.1 = LO
  hi : a.2.2.1 = true → a.2.2.2.2 = a.1 ∧ lifeN fh least (N - a.1) a.1 = HI
  hi' : a.2.2.1 = false → a.2.2.2.2 = HI
theorem LifeInv.start {fl fh : Nat → Int} {least : Int} {N LO HI : Nat} (hLO : lifeN fl least N 0 = LO) (hHI : lifeN fh least N 0 = HI) : LifeInv fl fh least N LO HI (0, true, true, 0, 0) :=
  ⟨Nat.zero_le _, fun _ => ⟨rfl, hLO⟩, fun h => (by cases h), fun _ => ⟨rfl, hHI⟩, fun h => (by cases h)⟩

set_option maxRecDepth 2000 in
set_option maxHeartbeats 4000000 in
theorem Life_run (c : Ct) (hc : CtOK c) (x : Cg) (K : Int) (hx : Good c x K) (hK : K ≤ 100000) (heat cur least : Int) (hh : 0 ≤ heat ∧ heat ≤ 2000) (hcur : 0 ≤ cur ∧ cur ≤ 1000) (hle : 0 ≤ least ∧ least ≤ c.amount) :
    Ans Try.prog n_cathode_Life [c.v (.view (c.bands.map Bd.v)), x.v, .int .i64 heat, .int .i64 cur, .int .i64 least] [] (.tup [Rg.v ⟨lifeLo c x heat cur least, lifeHi c x heat cur least⟩, .int .i64 0]) [] := by
  have hxb : ∀ k : Nat, k ≤ 5000 → CgB (tickN c heat cur k x) := fun k hk => (tickN_good hc hx hh hcur k (by omega)).ok.b hc.amount.2
  have hx0 : x = tickN c heat cur 0 x := rfl
  unfold lifeLo lifeHi
  generalize hfl : (fun j => (tickN c heat cur j x).ba.lo) = fl
  generalize hfh : (fun j => (tickN c heat cur j x).ba.hi) = fh
  have efl : ∀ j, (tickN c heat cur j x).ba.lo = fl j := fun j => by rw [← hfl]
  have efh : ∀ j, (tickN c heat cur j x).ba.hi = fh j := fun j => by rw [← hfh]
  obtain ⟨N, hN⟩ : ∃ N : Nat, N = 5000 := ⟨_, rfl⟩
  rw [← hN]
  generalize hLO : lifeN fl least N 0 = LO
  generalize hHI : lifeN fh least N 0 = HI
  refine spec_run e_cathode_Life fun G => ?_
  simp only [go_sem, Ct.v, Ct.cs, Cg.v, Cg.cs, Rg.v]
  refine cP (checkTick_run c hc x hx.ok heat cur hh hcur) ?_
  simp only [go_sem]
  refine cP (within_yes hle) ?_
  simp only [go_sem]
  refine loop_ind3 k_cathode_Life_r18.eq_1 (LifeInv fl fh least N LO HI) (fun a => N - a.1)
    (fun a => (tsets 70 [(2, .int .i64 heat), (3, .int .i64 cur), (4, .int .i64 least), (5, .ptr 0 0 0 1), (6, .ptr 1 0 0 1), (10, .ptr 2 0 0 1), (11, .int .i64 0), (13, .ptr 3 0 0 1), (14, .bool a.2.1), (15, .bool a.2.2.1), (16, .int .i64 ((a.1 : Int) + 1))],
      [some (.cells false 7 [c.v (.view (c.bands.map Bd.v))]), some (.cells false 13 [(tickN c heat cur a.1 x).v]), some (.cells false 2 [.agg [.int .i64 0, .int .i64 0]]), some (.cells false 2 [.agg [.int .i64 a.2.2.2.1, .int .i64 a.2.2.2.2]])]))
    (0, true, true, 0, 0) (LifeInv.start hLO hHI) (by simp [go_sem]) rfl ?_
  rintro ⟨k, s, m, lo, hi⟩ ⟨hk, i1, i2, i3, i4⟩ ih
  dsimp only at hk i1 i2 i3 i4 ⊢
  by_cases h1 : k < N
  · have h2 : (k : Int) + 1 ≤ 5000 := by omega
    have w1 : IntKind.i64.wrap ((k : Int) + 1 + 1) = ((k + 1 : Nat) : Int) + 1 := by rw [w64 (by omega)]; omega
    have ha := after_run c hc _ (hxb k (by omega)) heat cur hh hcur
    have het : after c (tickN c heat cur k x) heat cur = tickN c heat cur (k + 1) x := rfl
    rw [het] at ha
    have el := efl (k + 1)
    have eh := efh (k + 1)
    have hNk : N - k = (N - (k + 1)) + 1 := by omega
    have step1 : ∀ f : Nat → Int, lifeN f least (N - k) k = if least ≤ f (k + 1) then lifeN f least (N - (k + 1)) (k + 1) else k := fun f => by rw [hNk]; rfl
    by_cases hsm : s = false ∧ m = false
    · obtain ⟨rfl, rfl⟩ := hsm
      simp only [go_sem, h2]
      rw [i2 rfl, i4 rfl]
    · generalize hy : tickN c heat cur (k + 1) x = y at ha el eh
      have K : ∀ (s' m' : Bool) (lo' hi' : Int) ρ', LifeInv fl fh least N LO HI (k + 1, s', m', lo', hi') → Wk ρ' (tsets 70 [(2, .int .i64 heat), (3, .int .i64 cur), (4, .int .i64 least), (5, .ptr 0 0 0 1), (6, .ptr 1 0 0 1), (10, .ptr 2 0 0 1), (11, .int .i64 0), (13, .ptr 3 0 0 1), (14, .bool s'), (15, .bool m'), (16, .int .i64 (((k + 1 : Nat) : Int) + 1))]) →
          Sx.Loop Try.prog G 0 none k_cathode_Life_r18 _ ⟨ρ', [some (.cells false 7 [c.v (.view (c.bands.map Bd.v))]), some (.cells false 13 [y.v]), some (.cells false 2 [.agg [.int .i64 0, .int .i64 0]]), some (.cells false 2 [.agg [.int .i64 lo', .int .i64 hi']])], []⟩ _ := fun s' m' lo' hi' ρ' h hw => by
        rw [← hy]; exact ih (k + 1, s', m', lo', hi') (by dsimp only; omega) h ρ' hw
      clear ih
      cases s <;> cases m
      · exact absurd ⟨rfl, rfl⟩ hsm
      · obtain ⟨j3, j4⟩ := i3 rfl
        rw [step1] at j4
        have j2 := i2 rfl
        simp only [go_sem, h2, Ct.v, Ct.cs, Cg.v, Cg.cs]
        refine cP ha ?_ (hr := by simp only [go_sem, Cg.v, Cg.cs])
        by_cases c2 : least ≤ y.ba.hi
        · rw [if_pos (by omega)] at j4
          simp only [go_sem, Cg.v, Cg.cs, c2, w1]
          exact K false true lo _ _ ⟨h1, fun h => (by cases h), fun _ => j2, fun _ => ⟨by push_cast; rfl, j4⟩, fun h => (by cases h)⟩ (by simp [go_sem])
        · rw [if_neg (by omega)] at j4
          simp only [go_sem, Cg.v, Cg.cs, c2, w1]
          exact K false false lo hi _ ⟨h1, fun h => (by cases h), fun _ => j2, fun h => (by cases h), fun _ => by dsimp only; omega⟩ (by simp [go_sem])
      · obtain ⟨j1, j2⟩ := i1 rfl
        rw [step1] at j2
        have j4 := i4 rfl
        simp only [go_sem, h2, Ct.v, Ct.cs, Cg.v, Cg.cs]
        refine cP ha ?_ (hr := by simp only [go_sem, Cg.v, Cg.cs])
        by_cases c1 : least ≤ y.ba.lo
        · rw [if_pos (by omega)] at j2
          simp only [go_sem, Cg.v, Cg.cs, c1, w1]
          exact K true false _ hi _ ⟨h1, fun _ => ⟨by push_cast; rfl, j2⟩, fun h => (by cases h), fun h => (by cases h), fun _ => j4⟩ (by simp [go_sem])
        · rw [if_neg (by omega)] at j2
          simp only [go_sem, Cg.v, Cg.cs, c1, w1]
          exact K false false lo hi _ ⟨h1, fun h => (by cases h), fun _ => by dsimp only; omega, fun h => (by cases h), fun _ => j4⟩ (by simp [go_sem])
      · obtain ⟨j1, j2⟩ := i1 rfl
        obtain ⟨j3, j4⟩ := i3 rfl
        rw [step1] at j2 j4
        simp only [go_sem, h2, Ct.v, Ct.cs, Cg.v, Cg.cs]
        refine cP ha ?_ (hr := by simp only [go_sem, Cg.v, Cg.cs])
        by_cases c1 : least ≤ y.ba.lo <;> by_cases c2 : least ≤ y.ba.hi
        · rw [if_pos (by omega)] at j2 j4
          simp only [go_sem, Cg.v, Cg.cs, c1, c2, w1]
          exact K true true _ _ _ ⟨h1, fun _ => ⟨by push_cast; rfl, j2⟩, fun h => (by cases h), fun _ => ⟨by push_cast; rfl, j4⟩, fun h => (by cases h)⟩ (by simp [go_sem])
        · rw [if_pos (by omega)] at j2
          rw [if_neg (by omega)] at j4
          simp only [go_sem, Cg.v, Cg.cs, c1, c2, w1]
          exact K true false _ hi _ ⟨h1, fun _ => ⟨by push_cast; rfl, j2⟩, fun h => (by cases h), fun h => (by cases h), fun _ => by dsimp only; omega⟩ (by simp [go_sem])
        · rw [if_neg (by omega)] at j2
          rw [if_pos (by omega)] at j4
          simp only [go_sem, Cg.v, Cg.cs, c1, c2, w1]
          exact K false true lo _ _ ⟨h1, fun h => (by cases h), fun _ => by dsimp only; omega, fun _ => ⟨by push_cast; rfl, j4⟩, fun h => (by cases h)⟩ (by simp [go_sem])
        · rw [if_neg (by omega)] at j2 j4
          simp only [go_sem, Cg.v, Cg.cs, c1, c2, w1]
          exact K false false lo hi _ ⟨h1, fun h => (by cases h), fun _ => by dsimp only; omega, fun h => (by cases h), fun _ => by dsimp only; omega⟩ (by simp [go_sem])
  · have h2 : ¬ (k : Int) + 1 ≤ 5000 := by omega
    have hkN : k = N := by omega
    have e1 : lo = LO := by
      cases s
      · exact i2 rfl
      · obtain ⟨j1, j2⟩ := i1 rfl
        rw [hkN, Nat.sub_self] at j2
        rw [j1, ← j2, hkN]; rfl
    have e2 : hi = HI := by
      cases m
      · exact i4 rfl
      · obtain ⟨j1, j2⟩ := i3 rfl
        rw [hkN, Nat.sub_self] at j2
        rw [j1, ← j2, hkN]; rfl
    simp only [go_sem, h2, Ct.v, Ct.cs, Cg.v, Cg.cs, e1, e2]
end Go.Proofs
