/- Raw coats and coatings. -/
import Derived.Test.YtigaafcllfjniaaYcW
import Derived.Test.YtigaafcllfjniaaSxG
namespace Go.Proofs
open Go Go.Sx

theorem at_struct {P : Program} {n : Nat} {t : TypeId} {fs : Array Field} (hu : P.underlying t = some (.struct fs)) {vs : List AVal} (h : AT P (n + 1) t vs) : ATs (AT P n) fs.toList vs := by
  unfold AT at h; rw [hu] at h; exact h
theorem at_int {P : Program} {n : Nat} {t : TypeId} {k : IntKind} (hu : P.underlying t = some (.int k)) {vs : List AVal} (h : AT P (n + 1) t vs) : ∃ m, vs = [.int k m] ∧ (Lit.int k m).wf = true := by
  unfold AT at h; rw [hu] at h; exact h
theorem at_slice {P : Program} {n : Nat} {t e : TypeId} (hu : P.underlying t = some (.slice e)) {vs : List AVal} (h : AT P (n + 1) t vs) : ∃ es, vs = [.view es] ∧ es.length ≤ maxLen ∧ ∀ x ∈ es, if aggT P e = true then ∃ ws, x = .agg ws ∧ AT P n e ws else AT P n e [x] := by
  unfold AT at h; rw [hu] at h; exact h

attribute [local irreducible] AT
set_option maxRecDepth 100000
theorem atn_int {n : Nat} {vs : List AVal} (h : AT Try.prog (n + 1) 3 vs) : ∃ m, vs = [.int .i64 m] ∧ (Lit.int .i64 m).wf = true := at_int Try.underlying3 h
theorem at_rg {n : Nat} {vs : List AVal} (h : AT Try.prog (n + 2) 23 vs) : ∃ r : Rg, vs = [.int .i64 r.lo, .int .i64 r.hi] ∧ (Lit.int .i64 r.lo).wf = true ∧ (Lit.int .i64 r.hi).wf = true := by
  obtain ⟨a, b, rfl, ha, c, d, rfl, hc, rfl⟩ := at_struct Try.underlying23 h
  obtain ⟨x, rfl, hx⟩ := atn_int ha
  obtain ⟨y, rfl, hy⟩ := atn_int hc
  exact ⟨⟨x, y⟩, rfl, hx, hy⟩
def I64 (n : Int) : Prop := (Lit.int .i64 n).wf = true
def RgW (r : Rg) : Prop := I64 r.lo ∧ I64 r.hi
def BdW (b : Bd) : Prop := I64 b.frm ∧ RgW b.conv ∧ RgW b.red ∧ RgW b.evap ∧ RgW b.sint
structure CtW (c : Ct) : Prop where
  amount : I64 c.amount
  slew : I64 c.slew
  aid : RgW c.aid
  yld : RgW c.yld
  len : c.bands.length ≤ maxLen
  all : ∀ b ∈ c.bands, BdW b
theorem at_band {n : Nat} {vs : List AVal} (h : AT Try.prog (n + 3) 49 vs) : ∃ b : Bd, vs = b.cs ∧ BdW b := by
  obtain ⟨a, _, rfl, ha, b, _, rfl, hb, c, _, rfl, hc, d, _, rfl, hd, e, _, rfl, he, rfl⟩ := at_struct Try.underlying49 h
  obtain ⟨x, rfl, hx⟩ := atn_int ha
  obtain ⟨r1, rfl, h1⟩ := at_rg hb
  obtain ⟨r2, rfl, h2⟩ := at_rg hc
  obtain ⟨r3, rfl, h3⟩ := at_rg hd
  obtain ⟨r4, rfl, h4⟩ := at_rg he
  exact ⟨⟨x, r1, r2, r3, r4⟩, rfl, hx, h1, h2, h3, h4⟩
theorem list_map {α β : Type} {f : α → β} {Q : α → Prop} : ∀ l : List β, (∀ x ∈ l, ∃ a, x = f a ∧ Q a) → ∃ l' : List α, l = l'.map f ∧ ∀ a ∈ l', Q a
  | [], _ => ⟨[], rfl, fun a ha => by simp at ha⟩
  | x :: l, h => by
    obtain ⟨a, rfl, ha⟩ := h x (by simp)
    obtain ⟨l', rfl, h'⟩ := list_map l fun y hy => h y (by simp [hy])
    exact ⟨a :: l', rfl, fun b hb => by
      rcases List.mem_cons.1 hb with rfl | hb
      · exact ha
      · exact h' b hb⟩
theorem at_bands {n : Nat} {vs : List AVal} (h : AT Try.prog (n + 4) 24 vs) : ∃ bs : List Bd, vs = [.view (bs.map Bd.v)] ∧ bs.length ≤ maxLen ∧ ∀ b ∈ bs, BdW b := by
  obtain ⟨es, rfl, hl, he⟩ := at_slice Try.underlying24 h
  have hg : aggT Try.prog 49 = true := by unfold aggT; rw [Try.underlying49]
  obtain ⟨bs, rfl, hb⟩ := list_map (f := Bd.v) (Q := BdW) es fun x hx => by
    have := he x hx
    rw [if_pos hg] at this
    obtain ⟨ws, rfl, hw⟩ := this
    obtain ⟨b, rfl, hb⟩ := at_band hw
    exact ⟨b, rfl, hb⟩
  exact ⟨bs, rfl, by simpa using hl, hb⟩
theorem at_coat {n : Nat} {vs : List AVal} (h : AT Try.prog (n + 5) 26 vs) : ∃ c : Ct, vs = c.cs (.view (c.bands.map Bd.v)) ∧ CtW c := by
  obtain ⟨a, _, rfl, ha, b, _, rfl, hb, c, _, rfl, hc, d, _, rfl, hd, e, _, rfl, he, rfl⟩ := at_struct Try.underlying26 h
  obtain ⟨x, rfl, hx⟩ := atn_int ha
  obtain ⟨y, rfl, hy⟩ := atn_int hb
  obtain ⟨r1, rfl, h1⟩ := at_rg hc
  obtain ⟨r2, rfl, h2⟩ := at_rg hd
  obtain ⟨bs, rfl, h3, h4⟩ := at_bands he
  exact ⟨⟨x, y, r1, r2, bs⟩, rfl, hx, hy, h1, h2, h3, h4⟩
structure CgW (x : Cg) : Prop where
  carb : RgW x.carb
  ox : RgW x.ox
  ba : RgW x.ba
  lost : RgW x.lost
  gas : RgW x.gas
  wear : RgW x.wear
  heat : I64 x.heat
theorem at_coating {n : Nat} {vs : List AVal} (h : AT Try.prog (n + 5) 28 vs) : ∃ x : Cg, vs = x.cs ∧ CgW x := by
  obtain ⟨a, _, rfl, ha, b, _, rfl, hb, c, _, rfl, hc, d, _, rfl, hd, e, _, rfl, he, f, _, rfl, hf, g, _, rfl, hg, rfl⟩ := at_struct Try.underlying28 h
  obtain ⟨r1, rfl, h1⟩ := at_rg ha
  obtain ⟨r2, rfl, h2⟩ := at_rg hb
  obtain ⟨r3, rfl, h3⟩ := at_rg hc
  obtain ⟨r4, rfl, h4⟩ := at_rg hd
  obtain ⟨r5, rfl, h5⟩ := at_rg he
  obtain ⟨r6, rfl, h6⟩ := at_rg hf
  obtain ⟨x, rfl, hx⟩ := atn_int hg
  exact ⟨⟨r1, r2, r3, r4, r5, r6, x⟩, rfl, h1, h2, h3, h4, h5, h6, hx⟩
theorem at_ints {n : Nat} {x : AVal} (h : AT Try.prog (n + 2) 30 [x]) : ∃ l : List Int, x = .view (l.map (.int .i64)) ∧ l.length ≤ maxLen := by
  obtain ⟨es, h1, hl, he⟩ := at_slice Try.underlying30 h
  obtain rfl : x = .view es := by simpa using h1
  have hg : ¬ aggT Try.prog 3 = true := by unfold aggT; rw [Try.underlying3]; decide
  obtain ⟨l, rfl, -⟩ := list_map (f := AVal.int .i64) (Q := fun _ => True) es fun x hx => by
    have := he x hx
    rw [if_neg hg] at this
    obtain ⟨m, hm, -⟩ := atn_int this
    exact ⟨m, by simpa using hm, trivial⟩
  exact ⟨l, rfl, by simpa using hl⟩
end Go.Proofs
