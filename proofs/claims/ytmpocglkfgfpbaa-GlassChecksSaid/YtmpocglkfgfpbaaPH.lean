/- A part of the proof. -/
import Derived.Test.YtmpocglkfgfpbaaPG
set_option linter.unusedSimpArgs false
set_option linter.unusedVariables false
namespace Go.Proofs
open Go Go.Sx

theorem at_struct {P : Program} {n : Nat} {t : TypeId} {fs : Array Field} (hu : P.underlying t = some (.struct fs)) {vs : List AVal} (h : AT P (n + 1) t vs) : ATs (AT P n) fs.toList vs := by
  unfold AT at h; rw [hu] at h; exact h
theorem at_int {P : Program} {n : Nat} {t : TypeId} {k : IntKind} (hu : P.underlying t = some (.int k)) {vs : List AVal} (h : AT P (n + 1) t vs) : ∃ m, vs = [.int k m] ∧ (Lit.int k m).wf = true := by
  unfold AT at h; rw [hu] at h; exact h
theorem at_slice {P : Program} {n : Nat} {t e : TypeId} (hu : P.underlying t = some (.slice e)) {vs : List AVal} (h : AT P (n + 1) t vs) : ∃ es, vs = [.view es] ∧ es.length ≤ maxLen ∧ ∀ x ∈ es, if aggT P e = true then ∃ ws, x = .agg ws ∧ AT P n e ws else AT P n e [x] := by
  unfold AT at h; rw [hu] at h; exact h
theorem list_mapQ {α β : Type} {f : α → β} {Q : α → Prop} : ∀ l : List β, (∀ x ∈ l, ∃ a, x = f a ∧ Q a) → ∃ l' : List α, l = l'.map f ∧ ∀ a ∈ l', Q a
  | [], _ => ⟨[], rfl, fun a ha => by simp at ha⟩
  | x :: l, h => by
    obtain ⟨a, rfl, ha⟩ := h x (by simp)
    obtain ⟨l', rfl, h'⟩ := list_mapQ l fun y hy => h y (by simp [hy])
    exact ⟨a :: l', rfl, fun b hb => by
      rcases List.mem_cons.1 hb with rfl | hb
      · exact ha
      · exact h' b hb⟩

attribute [local irreducible] AT
set_option maxRecDepth 100000
theorem atn_int {n : Nat} {vs : List AVal} (h : AT Try.prog (n + 1) 3 vs) : ∃ m, vs = [.int .i64 m] ∧ (Lit.int .i64 m).wf = true := at_int Try.underlying3 h
theorem at_ints {n : Nat} {x : AVal} (h : AT Try.prog (n + 2) 29 [x]) : ∃ l : List Int, x = .view (l.map (.int .i64)) ∧ l.length ≤ 9223372036854775807 := by
  obtain ⟨es, h1, hl, he⟩ := at_slice Try.underlying29 h
  obtain rfl : x = .view es := by simpa using h1
  have hg : ¬ aggT Try.prog 3 = true := by unfold aggT; rw [Try.underlying3]; decide
  obtain ⟨l, rfl, -⟩ := list_mapQ (f := AVal.int .i64) (Q := fun _ => True) es fun x hx => by
    have := he x hx
    rw [if_neg hg] at this
    obtain ⟨m, hm, -⟩ := atn_int this
    exact ⟨m, by simpa using hm, trivial⟩
  have hm : maxLen = 9223372036854775807 := rfl
  rw [hm] at hl
  exact ⟨l, rfl, by simpa using hl⟩
theorem at_rng {n : Nat} {ws : List AVal} (h : AT Try.prog (n + 2) 31 ws) : ∃ a b : Int, ws = [.int .i64 a, .int .i64 b] ∧ (Lit.int .i64 a).wf = true ∧ (Lit.int .i64 b).wf = true := by
  obtain ⟨a, _, rfl, ha, b, _, rfl, hb, rfl⟩ := at_struct Try.underlying31 h
  obtain ⟨x, rfl, hx⟩ := atn_int ha
  obtain ⟨y, rfl, hy⟩ := atn_int hb
  exact ⟨x, y, rfl, hx, hy⟩
theorem at_zone {n : Nat} {ws : List AVal} (h : AT Try.prog (n + 3) 33 ws) : ∃ z : Zn, ws = z.cs := by
  obtain ⟨a, _, rfl, ha, b, _, rfl, hb, c, _, rfl, hc, rfl⟩ := at_struct Try.underlying33 h
  obtain ⟨x, rfl, -⟩ := atn_int ha
  obtain ⟨b1, b2, rfl, -, -⟩ := at_rng hb
  obtain ⟨c1, c2, rfl, -, -⟩ := at_rng hc
  exact ⟨⟨x, b1, b2, c1, c2⟩, rfl⟩
theorem at_zones {n : Nat} {ws : List AVal} (h : AT Try.prog (n + 4) 22 ws) : ∃ zs : List Zn, ws = [.view (zs.map Zn.v)] ∧ zs.length ≤ 9223372036854775807 := by
  obtain ⟨es, rfl, hl, he⟩ := at_slice Try.underlying22 h
  have hg : aggT Try.prog 33 = true := by unfold aggT; rw [Try.underlying33]
  obtain ⟨zs, rfl, -⟩ := list_mapQ (f := Zn.v) (Q := fun _ => True) es fun x hx => by
    have := he x hx
    rw [if_pos hg] at this
    obtain ⟨ws, rfl, hw⟩ := this
    obtain ⟨z, rfl⟩ := at_zone hw
    exact ⟨z, rfl, trivial⟩
  have hm : maxLen = 9223372036854775807 := rfl
  rw [hm] at hl
  exact ⟨zs, rfl, by simpa using hl⟩
theorem at_stuff {n : Nat} {ws : List AVal} (h : AT Try.prog (n + 5) 24 ws) : ∃ (b : Int) (zs : List Zn), .agg ws = stV b zs ∧ zs.length ≤ 9223372036854775807 ∧ (Lit.int .i64 b).wf = true := by
  obtain ⟨a, _, rfl, ha, b, _, rfl, hb, rfl⟩ := at_struct Try.underlying24 h
  obtain ⟨x, rfl, hx⟩ := atn_int ha
  obtain ⟨zs, rfl, hz⟩ := at_zones hb
  exact ⟨x, zs, rfl, hz, hx⟩
theorem at_leg {n : Nat} {ws : List AVal} (h : AT Try.prog (n + 2) 35 ws) : ∃ l : Lg, .agg ws = l.v := by
  obtain ⟨a, _, rfl, ha, b, _, rfl, hb, rfl⟩ := at_struct Try.underlying35 h
  obtain ⟨x, rfl, -⟩ := atn_int ha
  obtain ⟨y, rfl, -⟩ := atn_int hb
  exact ⟨⟨x, y⟩, rfl⟩
theorem at_oven {n : Nat} {ws : List AVal} (h : AT Try.prog (n + 5) 27 ws) : ∃ (f : Int) (ls : List Lg), .agg ws = ovV f ls ∧ ls.length ≤ 9223372036854775807 := by
  obtain ⟨a, _, rfl, ha, b, _, rfl, hb, rfl⟩ := at_struct Try.underlying27 h
  obtain ⟨x, rfl, -⟩ := atn_int ha
  obtain ⟨es, rfl, hl, he⟩ := at_slice Try.underlying25 hb
  have hg : aggT Try.prog 35 = true := by unfold aggT; rw [Try.underlying35]
  obtain ⟨ls, rfl, -⟩ := list_mapQ (f := Lg.v) (Q := fun _ => True) es fun x hx => by
    have := he x hx
    rw [if_pos hg] at this
    obtain ⟨ws, rfl, hw⟩ := this
    obtain ⟨z, hz⟩ := at_leg hw
    exact ⟨z, hz, trivial⟩
  have hm : maxLen = 9223372036854775807 := rfl
  rw [hm] at hl
  exact ⟨x, ls, rfl, by simpa using hl⟩
end Go.Proofs

namespace Go.Proofs
open Go Go.Sx

set_option maxRecDepth 20000 in
theorem at_fire {n : Nat} {ws : List AVal} (h : AT Try.prog (n + 4) 104 ws) : ∃ r : Fr, .agg ws = r.v ∧ r.bf.length ≤ 9223372036854775807 := by
  obtain ⟨a, _, rfl, ha, b, _, rfl, hb, c, _, rfl, hc, rfl⟩ := at_struct Try.underlying104 h
  obtain ⟨x, rfl, -⟩ := atn_int ha
  obtain ⟨y, rfl, -⟩ := atn_int hb
  obtain ⟨es, rfl, hl, he⟩ := at_slice Try.underlying29 hc
  have hg : ¬ aggT Try.prog 3 = true := by unfold aggT; rw [Try.underlying3]; decide
  obtain ⟨l, rfl, -⟩ := list_mapQ (f := AVal.int .i64) (Q := fun _ => True) es fun x hx => by
    have := he x hx
    rw [if_neg hg] at this
    obtain ⟨m, e, -⟩ := atn_int this
    exact ⟨m, by simpa using e, trivial⟩
  have hm : maxLen = 9223372036854775807 := rfl
  rw [hm] at hl
  exact ⟨⟨x, y, l⟩, rfl, by simpa using hl⟩
set_option maxRecDepth 20000 in
theorem at_fires {n : Nat} {x : AVal} (h : AT Try.prog (n + 5) 28 [x]) : ∃ l : List Fr, x = .view (l.map Fr.v) ∧ l.length ≤ 9223372036854775807 ∧ ∀ r ∈ l, r.bf.length ≤ 9223372036854775807 := by
  obtain ⟨es, h1, hl, he⟩ := at_slice Try.underlying28 h
  obtain rfl : x = .view es := by simpa using h1
  have hg : aggT Try.prog 104 = true := by unfold aggT; rw [Try.underlying104]
  obtain ⟨l, rfl, hq⟩ := list_mapQ (f := Fr.v) (Q := fun r => r.bf.length ≤ 9223372036854775807) es fun y hy => by
    have := he y hy
    rw [if_pos hg] at this
    obtain ⟨ws, rfl, hw⟩ := this
    exact at_fire hw
  have hm : maxLen = 9223372036854775807 := rfl
  rw [hm] at hl
  exact ⟨l, rfl, by simpa using hl, hq⟩
end Go.Proofs


