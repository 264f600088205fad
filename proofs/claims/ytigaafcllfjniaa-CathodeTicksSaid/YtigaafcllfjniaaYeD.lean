/- What the check of a raw coat says. -/
import Derived.Test.YtigaafcllfjniaaYeC
namespace Go.Proofs
open Go Go.Sx

theorem chkR_zero {m : Int} : ∀ {rs : List Rg}, chkR m rs = 0 → ∀ r ∈ rs, (0 ≤ r.lo ∧ r.lo ≤ m) ∧ (0 ≤ r.hi ∧ r.hi ≤ m) ∧ r.lo ≤ r.hi
  | [], _, r, hr => by simp at hr
  | x :: rs, h, r, hr => by
    unfold chkR at h
    by_cases c1 : 0 ≤ x.lo ∧ x.lo ≤ m
    rotate_left
    · rw [if_neg c1] at h; simp at h
    rw [if_pos c1] at h
    by_cases c2 : 0 ≤ x.hi ∧ x.hi ≤ m
    rotate_left
    · rw [if_neg c2] at h; simp at h
    rw [if_pos c2] at h
    by_cases c3 : x.hi < x.lo
    · rw [if_pos c3] at h; simp at h
    rw [if_neg c3] at h
    rcases List.mem_cons.1 hr with rfl | hr
    · exact ⟨c1, c2, by omega⟩
    · exact chkR_zero h r hr
theorem chkB_zero : ∀ {bs : List Bd} {prev : Option Int}, chkB prev bs = 0 → (∀ b ∈ bs, (0 ≤ b.frm ∧ b.frm ≤ 2000) ∧ chkR 1000000 [b.conv, b.red, b.evap, b.sint] = 0) ∧ (∀ b, bs[0]? = some b → ordB prev b.frm = true) ∧ ∀ i b b', bs[i]? = some b → bs[i + 1]? = some b' → b.frm < b'.frm
  | [], _, _ => ⟨fun b hb => by simp at hb, fun b hb => by simp at hb, fun i b b' hb => by simp at hb⟩
  | x :: bs, prev, h => by
    unfold chkB at h
    by_cases c1 : 0 ≤ x.frm ∧ x.frm ≤ 2000
    rotate_left
    · rw [if_neg c1] at h; simp at h
    rw [if_pos c1] at h
    by_cases c2 : ordB prev x.frm = true
    rotate_left
    · rw [if_neg c2] at h; simp at h
    rw [if_pos c2] at h
    by_cases c3 : chkR 1000000 [x.conv, x.red, x.evap, x.sint] = 0
    rotate_left
    · rw [if_neg c3] at h; exact absurd h c3
    rw [if_pos c3] at h
    obtain ⟨h1, h2, h3⟩ := chkB_zero h
    refine ⟨fun b hb => ?_, fun b hb => ?_, fun i b b' hb hb' => ?_⟩
    · rcases List.mem_cons.1 hb with rfl | hb
      · exact ⟨c1, c3⟩
      · exact h1 b hb
    · simp only [List.getElem?_cons_zero, Option.some.injEq] at hb
      subst hb; exact c2
    · cases i with
      | zero =>
        simp only [List.getElem?_cons_zero, Option.some.injEq] at hb
        subst hb
        have := h2 b' hb'
        simpa [ordB] using this
      | succ i => exact h3 i b b' hb hb'

/-- A coat that the check lets by keeps the rules. -/
theorem chkC_ok {c : Ct} (h : chkC c = 0) : CtOK c := by
  unfold chkC at h
  by_cases c1 : 1 ≤ c.amount ∧ c.amount ≤ 1000000
  rotate_left
  · rw [if_neg c1] at h; simp at h
  rw [if_pos c1] at h
  by_cases c2 : 1 ≤ c.slew ∧ c.slew ≤ 2000
  rotate_left
  · rw [if_neg c2] at h; simp at h
  rw [if_pos c2] at h
  by_cases c3 : chkR 1000000 [c.aid, c.yld] = 0
  rotate_left
  · rw [if_neg c3] at h; exact absurd h c3
  rw [if_pos c3] at h
  by_cases c4 : c.bands.length = 0
  · rw [if_pos c4] at h; simp at h
  rw [if_neg c4] at h
  by_cases c5 : 16 < c.bands.length
  · rw [if_pos c5] at h; simp at h
  rw [if_neg c5] at h
  obtain ⟨h1, h2, h3⟩ := chkB_zero h
  have hr := chkR_zero c3
  have ha := hr c.aid (by simp)
  have hy := hr c.yld (by simp)
  have g : ∀ i, i < c.bands.length → c.bands[i]? = some (c.bands.getD i default) := fun i hi => by simp [hi]
  refine ⟨c1, c2, ⟨by omega, by omega, by omega⟩, ⟨by omega, by omega, by omega⟩, by omega, ?_, fun i hi => h3 i _ _ (g i (by omega)) (g (i + 1) hi), fun b hb => ?_⟩
  · have := h2 _ (g 0 (by omega))
    simpa [ordB] using this
  · obtain ⟨q1, q2⟩ := h1 b hb
    have q := chkR_zero q2
    have r1 := q b.conv (by simp)
    have r2 := q b.red (by simp)
    have r3 := q b.evap (by simp)
    have r4 := q b.sint (by simp)
    exact ⟨q1, ⟨by omega, by omega, by omega⟩, ⟨by omega, by omega, by omega⟩, ⟨by omega, by omega, by omega⟩, ⟨by omega, by omega, by omega⟩⟩
end Go.Proofs
