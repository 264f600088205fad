/- A part of the proof. -/
import Derived.Test.YtmpocglkfgfpbaaPD
set_option linter.unusedSimpArgs false
set_option linter.unusedVariables false
namespace Go.Proofs
open Go Go.Sx

theorem at_struct {P : Program} {n : Nat} {t : TypeId} {fs : Array Field} (hu : P.underlying t = some (.struct fs)) {vs : List AVal} (h : AT P (n + 1) t vs) : ATs (AT P n) fs.toList vs := by
  unfold AT at h; rw [hu] at h; exact h
theorem at_int {P : Program} {n : Nat} {t : TypeId} {k : IntKind} (hu : P.underlying t = some (.int k)) {vs : List AVal} (h : AT P (n + 1) t vs) : ∃ m, vs = [.int k m] ∧ (Lit.int k m).wf = true := by
  unfold AT at h; rw [hu] at h; exact h
theorem at_slice {P : Program} {n : Nat} {t e : TypeId} (hu : P.underlying t = some (.slice e)) {vs : List AVal} (h : AT P (n + 1) t vs) : ∃ es, vs = [.view es] ∧ es.length ≤ maxLen ∧ ∀ x ∈ es, if aggT P e = true then ∃ ws, x = .agg ws ∧ AT P n e ws else AT P n e [x] := by
  unfold AT at h; rw [hu] at h; exact h
theorem list_mapQ {α β : Type} {f : α → β} {Q : α → Prop} : ∀ l : List β, (∀ x ∈ l, ∃ a, x = f a ∧ Q a) → ∃ l' : List α, l = l'.map f ∧ ∀ a ∈ l', Q a
  | [], _ => ⟨[], rfl, fun a ha => by simp at ha⟩
  | x :: l, h => by
    obtain ⟨a, rfl, ha⟩ := h x (by simp)
    obtain ⟨l', rfl, h'⟩ := list_mapQ l fun y hy => h y (by simp [hy])
    exact ⟨a :: l', rfl, fun b hb => by
      rcases List.mem_cons.1 hb with rfl | hb
      · exact ha
      · exact h' b hb⟩

attribute [local irreducible] AT
set_option maxRecDepth 100000
theorem atn_int {n : Nat} {vs : List AVal} (h : AT Try.prog (n + 1) 3 vs) : ∃ m, vs = [.int .i64 m] ∧ (Lit.int .i64 m).wf = true := at_int Try.underlying3 h
theorem at_ints {n : Nat} {x : AVal} (h : AT Try.prog (n + 2) 29 [x]) : ∃ l : List Int, x = .view (l.map (.int .i64)) ∧ l.length ≤ 9223372036854775807 := by
  obtain ⟨es, h1, hl, he⟩ := at_slice Try.underlying29 h
  obtain rfl : x = .view es := by simpa using h1
  have hg : ¬ aggT Try.prog 3 = true := by unfold aggT; rw [Try.underlying3]; decide
  obtain ⟨l, rfl, -⟩ := list_mapQ (f := AVal.int .i64) (Q := fun _ => True) es fun x hx => by
    have := he x hx
    rw [if_neg hg] at this
    obtain ⟨m, hm, -⟩ := atn_int this
    exact ⟨m, by simpa using hm, trivial⟩
  have hm : maxLen = 9223372036854775807 := rfl
  rw [hm] at hl
  exact ⟨l, rfl, by simpa using hl⟩
theorem at_rng {n : Nat} {ws : List AVal} (h : AT Try.prog (n + 2) 31 ws) : ∃ a b : Int, ws = [.int .i64 a, .int .i64 b] ∧ (Lit.int .i64 a).wf = true ∧ (Lit.int .i64 b).wf = true := by
  obtain ⟨a, _, rfl, ha, b, _, rfl, hb, rfl⟩ := at_struct Try.underlying31 h
  obtain ⟨x, rfl, hx⟩ := atn_int ha
  obtain ⟨y, rfl, hy⟩ := atn_int hb
  exact ⟨x, y, rfl, hx, hy⟩
theorem at_zone {n : Nat} {ws : List AVal} (h : AT Try.prog (n + 3) 33 ws) : ∃ z : Zn, ws = z.cs := by
  obtain ⟨a, _, rfl, ha, b, _, rfl, hb, c, _, rfl, hc, rfl⟩ := at_struct Try.underlying33 h
  obtain ⟨x, rfl, -⟩ := atn_int ha
  obtain ⟨b1, b2, rfl, -, -⟩ := at_rng hb
  obtain ⟨c1, c2, rfl, -, -⟩ := at_rng hc
  exact ⟨⟨x, b1, b2, c1, c2⟩, rfl⟩
theorem at_zones {n : Nat} {ws : List AVal} (h : AT Try.prog (n + 4) 22 ws) : ∃ zs : List Zn, ws = [.view (zs.map Zn.v)] ∧ zs.length ≤ 9223372036854775807 := by
  obtain ⟨es, rfl, hl, he⟩ := at_slice Try.underlying22 h
  have hg : aggT Try.prog 33 = true := by unfold aggT; rw [Try.underlying33]
  obtain ⟨zs, rfl, -⟩ := list_mapQ (f := Zn.v) (Q := fun _ => True) es fun x hx => by
    have := he x hx
    rw [if_pos hg] at this
    obtain ⟨ws, rfl, hw⟩ := this
    obtain ⟨z, rfl⟩ := at_zone hw
    exact ⟨z, rfl, trivial⟩
  have hm : maxLen = 9223372036854775807 := rfl
  rw [hm] at hl
  exact ⟨zs, rfl, by simpa using hl⟩
theorem at_stuff {n : Nat} {ws : List AVal} (h : AT Try.prog (n + 5) 24 ws) : ∃ (b : Int) (zs : List Zn), .agg ws = stV b zs ∧ zs.length ≤ 9223372036854775807 ∧ (Lit.int .i64 b).wf = true := by
  obtain ⟨a, _, rfl, ha, b, _, rfl, hb, rfl⟩ := at_struct Try.underlying24 h
  obtain ⟨x, rfl, hx⟩ := atn_int ha
  obtain ⟨zs, rfl, hz⟩ := at_zones hb
  exact ⟨x, zs, rfl, hz, hx⟩
end Go.Proofs

namespace Go.Proofs
open Go Go.Sx
attribute [local irreducible] Run

theorem slr_none {P : List AVal} (h : P = []) (gr : Bool) (sz j : Nat) : slv j P = .nilsl ∧ slrG gr sz P = [] := by subst h; exact ⟨rfl, rfl⟩
theorem slr_some {P : List AVal} (h : P ≠ []) (gr : Bool) (sz j : Nat) : slv j P = .sl j 0 P.length ∧ slrG gr sz P = [some (.cells gr sz P)] := by
  unfold slv slrG; rw [if_neg h, if_neg h]; exact ⟨rfl, rfl⟩
section
variable {P : Program} {G : Ctx} {g : FuncId} {largs args : List AVal} {H : Heap} {α : Type} {Φ : α → Prop} {r : α → AVal} {k : Nat} {R : Runner} {l : List AOper} {fs : List Sx.Frame} {ρ : List AVal} {ms : List Nat} {Q : Sx.Goal} {dst : Option Nat}
end
end Go.Proofs

namespace Go.Proofs
open Go Go.Sx
attribute [local irreducible] Run

structure TsOK (zs : List Zn) (th : Int) (ts : List Tk) (k : Nat) (l : List Int) : Prop where
  len : l.length = k + 1
  bd : ∀ j, j ≤ k → (stAt zs th ts j).1 ≤ l.getD j 0 ∧ l.getD j 0 ≤ (stAt zs th ts j).2
theorem TsOK.snoc {zs : List Zn} {th : Int} {ts : List Tk} {k : Nat} {l : List Int} (h : TsOK zs th ts k l) {v : Int} (hv : (stAt zs th ts (k + 1)).1 ≤ v ∧ v ≤ (stAt zs th ts (k + 1)).2) : TsOK zs th ts (k + 1) (l ++ [v]) := ⟨by rw [List.length_append, h.len]; rfl, fun j hj => by
  have hl := h.len
  rw [List.getD_eq_getElem?_getD]
  by_cases e : j = k + 1
  · subst e
    rw [List.getElem?_append_right (by omega), hl, Nat.sub_self]; exact hv
  · rw [List.getElem?_append_left (by omega), ← List.getD_eq_getElem?_getD]; exact h.bd j (by omega)⟩
section
variable {P : Program} {G : Ctx} {g : FuncId} {largs args : List AVal} {H : Heap} {α : Type} {Φ : α → Prop} {r : α → AVal} {k : Nat} {R : Runner} {l : List AOper} {fs : List Sx.Frame} {ρ : List AVal} {ms : List Nat} {Q : Sx.Goal} {dst : Option Nat}
end
end Go.Proofs

namespace Go.Proofs
open Go Go.Sx
attribute [local irreducible] Run

structure NarZ (y z : Zn) : Prop where
  f : y.f = z.f
  g : z.glo ≤ y.glo ∧ y.glo ≤ y.ghi ∧ y.ghi ≤ z.ghi
  r : z.rlo ≤ y.rlo ∧ y.rlo ≤ y.rhi ∧ y.rhi ≤ z.rhi
def NarL : List Zn → List Zn → Prop
  | [], [] => True
  | y :: a, z :: b => NarZ y z ∧ NarL a b
  | _, _ => False
theorem NarL.zAt : ∀ {a b : List Zn}, NarL a b → b ≠ [] → ∀ t, NarZ (Go.Proofs.zAt a t) (Go.Proofs.zAt b t)
  | [], [], _, h, _ => absurd rfl h
  | [y], [z], h, _, t => h.1
  | y :: y2 :: a, z :: z2 :: b, h, _, t => by
    show NarZ (if y2.f ≤ t then Go.Proofs.zAt (y2 :: a) t else y) (if z2.f ≤ t then Go.Proofs.zAt (z2 :: b) t else z)
    rw [h.2.1.f]
    split
    · exact NarL.zAt h.2 (by simp) t
    · exact h.1
  | [], _ :: _, h, _, _ => h.elim
  | _ :: _, [], h, _, _ => h.elim
  | [_], _ :: _ :: _, h, _, _ => h.2.elim
  | _ :: _ :: _, [_], h, _, _ => h.2.elim
theorem NarL.get : ∀ {a b : List Zn}, NarL a b → a.length = b.length ∧ ∀ (i : Nat) (y : Zn), a[i]? = some y → ∃ z, b[i]? = some z ∧ NarZ y z
  | [], [], _ => ⟨rfl, fun i y h => by simp at h⟩
  | y :: a, z :: b, h => by
    obtain ⟨h1, h2⟩ := NarL.get h.2
    refine ⟨by simp [h1], fun i x hx => ?_⟩
    cases i with
    | zero => simp at hx; subst hx; exact ⟨z, rfl, h.1⟩
    | succ i => simpa using h2 i x (by simpa using hx)
  | [], _ :: _, h => h.elim
  | _ :: _, [], h => h.elim
theorem NarL.ok {a b : List Zn} (h : NarL a b) (hb : ZsOK b) : ZsOK a := by
  obtain ⟨h1, h2⟩ := h.get
  refine ⟨by rw [h1]; exact hb.len, fun y hy => ?_, fun y hy => ?_, fun i y x hy hx => ?_⟩
  · obtain ⟨i, hi⟩ := List.getElem?_of_mem hy
    obtain ⟨z, hz, hn⟩ := h2 i y hi
    have ho := hb.all z (List.mem_of_getElem? hz)
    have hg := hn.g
    have hr := hn.r
    exact ⟨by rw [hn.f]; exact ho.f, by have := ho.g; omega, by have := ho.r; omega⟩
  · obtain ⟨z, hz, hn⟩ := h2 0 y hy
    rw [hn.f]; exact hb.zero z hz
  · obtain ⟨z, hz, hn⟩ := h2 i y hy
    obtain ⟨u, hu, hn2⟩ := h2 (i + 1) x hx
    rw [hn.f, hn2.f]; exact hb.asc i z u hz hu
section
variable {a b : List Zn} (h : NarL a b) (hb : ZsOK b)
include h hb
end
end Go.Proofs

namespace Go.Proofs
open Go Go.Sx

end Go.Proofs

namespace Go.Proofs
open Go Go.Sx
attribute [local irreducible] Run

def seE (b1 : Int) (z1 : List Zn) (b2 : Int) (z2 : List Zn) (s t : Int) : Int := if stE b1 z1 = 0 then (if stE b2 z2 = 0 then (if (0 ≤ s ∧ s ≤ 2000) ∧ (0 ≤ t ∧ t ≤ 2000) then 0 else 2) else stE b2 z2) else stE b1 z1
theorem seE_ok {b1 : Int} {z1 : List Zn} {b2 : Int} {z2 : List Zn} {s t : Int} (h : seE b1 z1 b2 z2 s t = 0) : StOK b1 z1 ∧ StOK b2 z2 ∧ (0 ≤ s ∧ s ≤ 2000) ∧ (0 ≤ t ∧ t ≤ 2000) := by
  unfold seE at h
  split at h
  · rename_i h1
    split at h
    · rename_i h2
      split at h
      · rename_i h3; exact ⟨stE_ok h1, stE_ok h2, h3⟩
      · simp at h
    · rename_i h2; exact absurd h h2
  · rename_i h1; exact absurd h h1
section
variable (b1 : Int) (z1 : List Zn) (hl1 : z1.length ≤ 1000) (b2 : Int) (z2 : List Zn) (hl2 : z2.length ≤ 1000) (s t : Int)
include hl1 hl2
theorem checkSeal_raw5 : Ans Try.prog n_glass_checkSeal [stV b1 z1, stV b2 z2, .int .i64 s, .int .i64 t] [] (.int .i64 (seE b1 z1 b2 z2 s t)) [] := by
  have k1 := Check_raw5 b1 z1 hl1
  have k2 := Check_raw5 b2 z2 hl2
  unfold seE
  generalize stE b1 z1 = E1 at *
  generalize stE b2 z2 = E2 at *
  refine spec_run e_glass_checkSeal fun G => ?_
  simp only [stV] at k1 k2
  simp only [go_sem, stV]
  refine cP k1 ?_
  by_cases h1 : E1 = 0
  · have e1 : (E1 != 0) = false := by rw [h1]; rfl
    rw [if_pos h1]
    simp only [go_sem, e1]
    refine cP k2 ?_
    by_cases h2 : E2 = 0
    · have e2 : (E2 != 0) = false := by rw [h2]; rfl
      rw [if_pos h2]
      simp only [go_sem, e2]
      by_cases hf : 0 ≤ s ∧ s ≤ 2000
      · refine cP (isHeat_yes hf) ?_
        simp only [go_sem]
        by_cases ht : 0 ≤ t ∧ t ≤ 2000
        · rw [if_pos ⟨hf, ht⟩]
          refine cP (isHeat_yes ht) ?_
          simp only [go_sem]
        · rw [if_neg fun hh => ht hh.2]
          refine cP (isHeat_no ht) ?_
          simp only [go_sem]
      · rw [if_neg fun hh => hf hh.1]
        refine cP (isHeat_no hf) ?_
        simp only [go_sem]
    · have e2 : (E2 != 0) = true := by simpa using h2
      rw [if_neg h2]
      simp only [go_sem, e2]
  · have e1 : (E1 != 0) = true := by simpa using h1
    rw [if_neg h1]
    simp only [go_sem, e1]
theorem rcheckSeal_raw5 : Ans Try.prog n_ref05_checkSeal [stV b1 z1, stV b2 z2, .int .i64 s, .int .i64 t] [] (.int .i64 (seE b1 z1 b2 z2 s t)) [] := by
  have k1 := rCheck_raw5 b1 z1 hl1
  have k2 := rCheck_raw5 b2 z2 hl2
  unfold seE
  generalize stE b1 z1 = E1 at *
  generalize stE b2 z2 = E2 at *
  refine spec_run e_ref05_checkSeal fun G => ?_
  simp only [stV] at k1 k2
  simp only [go_sem, stV]
  refine cP k1 ?_
  by_cases h1 : E1 = 0
  · have e1 : (E1 != 0) = false := by rw [h1]; rfl
    rw [if_pos h1]
    simp only [go_sem, e1]
    refine cP k2 ?_
    by_cases h2 : E2 = 0
    · have e2 : (E2 != 0) = false := by rw [h2]; rfl
      rw [if_pos h2]
      simp only [go_sem, e2]
      by_cases hf : 0 ≤ s ∧ s ≤ 2000
      · refine cP (rbeyond_no hf) ?_
        simp only [go_sem]
        by_cases ht : 0 ≤ t ∧ t ≤ 2000
        · rw [if_pos ⟨hf, ht⟩]
          refine cP (rbeyond_no ht) ?_
          simp only [go_sem]
        · rw [if_neg fun hh => ht hh.2]
          refine cP (rbeyond_yes ht) ?_
          simp only [go_sem]
      · rw [if_neg fun hh => hf hh.1]
        refine cP (rbeyond_yes hf) ?_
        simp only [go_sem]
    · have e2 : (E2 != 0) = true := by simpa using h2
      rw [if_neg h2]
      simp only [go_sem, e2]
  · have e1 : (E1 != 0) = true := by simpa using h1
    rw [if_neg h1]
    simp only [go_sem, e1]
end
end Go.Proofs

namespace Go.Proofs
open Go Go.Sx
attribute [local irreducible] Run

section
variable (brk : Int) (zs : List Zn) (hl : zs.length ≤ 1000) (th f : Int) (ls : List Lg)
include hl
end
end Go.Proofs

namespace Go.Proofs
open Go Go.Sx

end Go.Proofs

namespace Go.Proofs
open Go Go.Sx
attribute [local irreducible] Run

section
variable (brk : Int) (zs : List Zn) (hl : zs.length ≤ 1000) (th f : Int) (ls : List Lg)
include hl
variable (left : Int)
def i3 (p : Int × Int × Int) : AVal := .tup [.int .i64 p.1, .int .i64 p.2.1, .int .i64 p.2.2]
end
end Go.Proofs

namespace Go.Proofs
open Go Go.Sx
attribute [local irreducible] Run

end Go.Proofs

namespace Go.Proofs
open Go Go.Sx
attribute [local irreducible] Run

section
variable (brk : Int) (zs : List Zn) (hl : zs.length ≤ 1000) (lo hi t lim : Int)
include hl
end
end Go.Proofs

namespace Go.Proofs
open Go Go.Sx
attribute [local irreducible] Run

end Go.Proofs

namespace Go.Proofs
open Go Go.Sx

def k_law05_GlassSeals_r0 : List AOper := [
  ⟨some 6, .box (.tmp 0), none, []⟩,
 ⟨some 7, .box (.tmp 1), none, []⟩,
 ⟨some 12, .move (.const (.bool false)), none, []⟩]
def k_law05_GlassSeals_r1 : List AOper := [
  ⟨some 41, .fieldAddr 1 (.tmp 6), none, []⟩,
 ⟨some 42, .load none (.tmp 41), none, []⟩,
 ⟨some 43, .len false (.tmp 42), none, []⟩,
 ⟨some 44, .bin .plain .gtr (.tmp 43) (.const (.int .i64 30)), none, []⟩,
 ⟨some 45, .move (.tmp 44), none, []⟩,
 ⟨some 46, .fieldAddr 1 (.tmp 7), (some (45, false)), []⟩,
 ⟨some 47, .load none (.tmp 46), (some (45, false)), []⟩,
 ⟨some 48, .len false (.tmp 47), (some (45, false)), []⟩,
 ⟨some 49, .bin .plain .gtr (.tmp 48) (.const (.int .i64 30)), (some (45, false)), []⟩,
 ⟨some 50, .pick (.tmp 45) (.const (.bool true)) (.tmp 49), none, []⟩,
 ⟨some 51, .move (.tmp 50), none, []⟩,
 ⟨some 52, .move (.tmp 2), (some (51, false)), []⟩,
 ⟨some 53, .len false (.tmp 52), (some (51, false)), []⟩,
 ⟨some 54, .bin .plain .gtr (.tmp 53) (.const (.int .i64 14)), (some (51, false)), []⟩,
 ⟨some 55, .pick (.tmp 51) (.const (.bool true)) (.tmp 54), none, []⟩]
def k_law05_GlassSeals_r2 : List AOper := [
  ⟨some 56, .call (.const (.fn (.func 20) [] [])) [], none, []⟩,
 ⟨some 12, .move (.tmp 56), none, []⟩]
def k_law05_GlassSeals_r3 : List AOper := [
  ⟨some 13, .move (.const (.int .i64 0)), none, []⟩]
def k_law05_GlassSeals_r4 : List AOper := [
  ⟨some 57, .move (.tmp 13), none, []⟩,
 ⟨some 58, .move (.tmp 2), none, []⟩,
 ⟨some 59, .len false (.tmp 58), none, []⟩,
 ⟨some 60, .bin .plain .lss (.tmp 57) (.tmp 59), none, []⟩]
def k_law05_GlassSeals_r5 : List AOper := [
  ⟨some 63, .move (.tmp 2), none, []⟩,
 ⟨some 64, .move (.tmp 13), none, []⟩,
 ⟨some 65, .indexAddr 2 (.tmp 63) (.tmp 64), none, []⟩,
 ⟨some 66, .fieldAddr 1 (.tmp 65), none, []⟩,
 ⟨some 67, .load none (.tmp 66), none, []⟩,
 ⟨some 68, .len false (.tmp 67), none, []⟩,
 ⟨some 69, .bin .plain .gtr (.tmp 68) (.const (.int .i64 30)), none, []⟩]
def k_law05_GlassSeals_r6 : List AOper := [
  ⟨some 70, .call (.const (.fn (.func 20) [] [])) [], none, []⟩,
 ⟨some 12, .move (.tmp 70), none, []⟩]
def k_law05_GlassSeals_r7 : List AOper := [
  ⟨some 61, .move (.tmp 13), none, []⟩,
 ⟨some 62, .bin .plain .add (.tmp 61) (.const (.int .i64 1)), none, []⟩,
 ⟨some 13, .move (.tmp 62), none, []⟩]
def k_law05_GlassSeals_r8 : ACode := (.seq (.seq (.reg k_law05_GlassSeals_r4 false) (.cond (.tmp 60) .skip (.exit 0))) (.seq (.block 1 (.seq (.reg k_law05_GlassSeals_r5 false) (.cond (.tmp 69) (.seq (.reg k_law05_GlassSeals_r6 false) .ret) .skip))) (.reg k_law05_GlassSeals_r7 false)))
def k_law05_GlassSeals_r9 : List AOper := [
  ⟨some 71, .move (.tmp 5), none, []⟩,
 ⟨some 72, .call (.const (.fn (.func 21) [] [])) [.tmp 71], none, []⟩,
 ⟨some 14, .move (.tmp 72), none, []⟩]
def k_law05_GlassSeals_r10 : List AOper := [
  ⟨some 73, .move (.tmp 14), none, []⟩,
 ⟨some 74, .call (.const (.fn (.func 22) [] [])) [.tmp 73], none, []⟩,
 ⟨some 75, .move (.tmp 14), none, []⟩,
 ⟨some 76, .call (.const (.fn (.func 22) [] [])) [.tmp 75], none, []⟩,
 ⟨some 15, .box (.const (.agg [.int .i64 0, .nilsl])), none, []⟩,
 ⟨some 16, .box (.const (.agg [.int .i64 0, .nilsl])), none, []⟩,
 ⟨none, .store 2 (.tmp 15) (.tmp 74), none, []⟩,
 ⟨none, .store 2 (.tmp 16) (.tmp 76), none, []⟩]
def k_law05_GlassSeals_r11 : List AOper := [
  ⟨some 77, .move (.tmp 14), none, []⟩,
 ⟨some 78, .call (.const (.fn (.func 44) [] [])) [.tmp 77, .const (.int .i64 300), .const (.int .i64 1200)], none, []⟩,
 ⟨some 79, .move (.tmp 14), none, []⟩,
 ⟨some 80, .call (.const (.fn (.func 44) [] [])) [.tmp 79, .const (.int .i64 0), .const (.int .i64 300)], none, []⟩,
 ⟨some 17, .move (.tmp 78), none, []⟩,
 ⟨some 18, .move (.tmp 80), none, []⟩]
def k_law05_GlassSeals_r12 : List AOper := [
  ⟨some 82, .load (some (2)) (.tmp 15), none, []⟩,
 ⟨some 83, .load (some (2)) (.tmp 16), none, []⟩,
 ⟨some 84, .move (.tmp 17), none, []⟩,
 ⟨some 85, .move (.tmp 18), none, []⟩,
 ⟨some 86, .call (.const (.fn (.func 42) [] [])) [.tmp 82, .tmp 83, .tmp 84, .tmp 85], none, []⟩,
 ⟨some 81, .move (.tmp 86), none, []⟩,
 ⟨some 87, .extract (.tmp 81) 0, none, []⟩,
 ⟨some 88, .extract (.tmp 81) 1, none, []⟩,
 ⟨some 19, .box (.const (.agg [.int .i64 0, .int .i64 0])), none, []⟩,
 ⟨none, .store 2 (.tmp 19) (.tmp 87), none, []⟩,
 ⟨some 20, .move (.tmp 88), none, []⟩]
def k_law05_GlassSeals_r13 : List AOper := [
  ⟨some 89, .fieldAddr 1 (.tmp 19), none, []⟩,
 ⟨some 90, .load none (.tmp 89), none, []⟩,
 ⟨some 91, .fieldAddr 0 (.tmp 19), none, []⟩,
 ⟨some 92, .load none (.tmp 91), none, []⟩,
 ⟨some 93, .neg (.tmp 92), none, []⟩,
 ⟨some 94, .minmax true [.tmp 90, .tmp 93, .const (.int .i64 1)], none, []⟩,
 ⟨some 21, .move (.tmp 94), none, []⟩]
def k_law05_GlassSeals_r14 : List AOper := [
  ⟨some 95, .move (.tmp 21), none, []⟩,
 ⟨some 96, .bin .plain .leq (.tmp 95) (.const (.int .i64 1000000000)), none, []⟩,
 ⟨some 97, .move (.tmp 96), none, []⟩,
 ⟨some 98, .move (.tmp 14), (some (97, true)), []⟩,
 ⟨some 99, .call (.const (.fn (.func 25) [] [])) [.tmp 98, .const (.int .i64 2)], (some (97, true)), []⟩,
 ⟨some 100, .pick (.tmp 97) (.tmp 99) (.const (.bool false)), none, []⟩]
def k_law05_GlassSeals_r15 : List AOper := [
  ⟨some 101, .move (.tmp 21), none, []⟩,
 ⟨some 102, .move (.tmp 14), none, []⟩,
 ⟨some 103, .call (.const (.fn (.func 26) [] [])) [.tmp 102, .const (.int .i64 3)], none, []⟩,
 ⟨some 104, .bin .plain .sub (.tmp 101) (.tmp 103), none, []⟩,
 ⟨some 105, .minmax true [.const (.int .i64 1), .tmp 104], none, []⟩,
 ⟨some 106, .move (.tmp 21), none, []⟩,
 ⟨some 107, .fieldAddr 0 (.tmp 15), none, []⟩,
 ⟨none, .store 1 (.tmp 107) (.tmp 105), none, []⟩,
 ⟨some 108, .fieldAddr 0 (.tmp 16), none, []⟩,
 ⟨none, .store 1 (.tmp 108) (.tmp 106), none, []⟩]
def k_law05_GlassSeals_r16 : List AOper := [
  ⟨some 109, .load (some (2)) (.tmp 6), none, []⟩,
 ⟨some 110, .load (some (2)) (.tmp 15), none, [0]⟩,
 ⟨some 111, .load (some (2)) (.tmp 15), none, [0, 1]⟩,
 ⟨some 112, .buildSlice 2 [.tmp 109, .tmp 110, .tmp 111], none, []⟩,
 ⟨some 113, .load (some (2)) (.tmp 7), none, [0, 1, 2, 3]⟩,
 ⟨some 114, .load (some (2)) (.tmp 16), none, [0, 1, 2, 3, 4]⟩,
 ⟨some 115, .load (some (2)) (.tmp 16), none, [0, 1, 2, 3, 4, 5]⟩,
 ⟨some 116, .buildSlice 2 [.tmp 113, .tmp 114, .tmp 115], none, [0, 1, 2, 3]⟩,
 ⟨some 117, .move (.tmp 3), none, [0, 1, 2, 3, 4, 5, 6, 7]⟩,
 ⟨some 118, .move (.tmp 17), none, [0, 1, 2, 3, 4, 5, 6, 7, 8]⟩,
 ⟨some 119, .move (.tmp 3), none, [0, 1, 2, 3, 4, 5, 6, 7, 8, 9]⟩,
 ⟨some 120, .buildSlice 1 [.tmp 117, .tmp 118, .tmp 119], none, [0, 1, 2, 3, 4, 5, 6, 7]⟩,
 ⟨some 121, .move (.tmp 4), none, [0, 1, 2, 3, 4, 5, 6, 7, 8, 9, 10, 11]⟩,
 ⟨some 122, .move (.tmp 18), none, [0, 1, 2, 3, 4, 5, 6, 7, 8, 9, 10, 11, 12]⟩,
 ⟨some 123, .move (.tmp 4), none, [0, 1, 2, 3, 4, 5, 6, 7, 8, 9, 10, 11, 12, 13]⟩,
 ⟨some 124, .buildSlice 1 [.tmp 121, .tmp 122, .tmp 123], none, [0, 1, 2, 3, 4, 5, 6, 7, 8, 9, 10, 11]⟩,
 ⟨some 22, .move (.tmp 112), none, [4, 5, 6, 7, 8, 9, 10, 11, 12, 13, 14, 15]⟩,
 ⟨some 23, .move (.tmp 116), none, [8, 9, 10, 11, 12, 13, 14, 15]⟩,
 ⟨some 24, .move (.tmp 120), none, [12, 13, 14, 15]⟩,
 ⟨some 25, .move (.tmp 124), none, []⟩]
def k_law05_GlassSeals_r16s : List (List AOper) := [
  [
  ⟨some 109, .load (some (2)) (.tmp 6), none, []⟩,
 ⟨some 110, .load (some (2)) (.tmp 15), none, [0]⟩,
 ⟨some 111, .load (some (2)) (.tmp 15), none, [0, 1]⟩,
 ⟨some 112, .buildSlice 2 [.tmp 109, .tmp 110, .tmp 111], none, []⟩,
 ⟨some 113, .load (some (2)) (.tmp 7), none, [0, 1, 2, 3]⟩,
 ⟨some 114, .load (some (2)) (.tmp 16), none, [0, 1, 2, 3, 4]⟩,
 ⟨some 115, .load (some (2)) (.tmp 16), none, [0, 1, 2, 3, 4, 5]⟩,
 ⟨some 116, .buildSlice 2 [.tmp 113, .tmp 114, .tmp 115], none, [0, 1, 2, 3]⟩,
 ⟨some 117, .move (.tmp 3), none, [0, 1, 2, 3, 4, 5, 6, 7]⟩,
 ⟨some 118, .move (.tmp 17), none, [0, 1, 2, 3, 4, 5, 6, 7, 8]⟩,
 ⟨some 119, .move (.tmp 3), none, [0, 1, 2, 3, 4, 5, 6, 7, 8, 9]⟩,
 ⟨some 120, .buildSlice 1 [.tmp 117, .tmp 118, .tmp 119], none, [0, 1, 2, 3, 4, 5, 6, 7]⟩,
 ⟨some 121, .move (.tmp 4), none, [0, 1, 2, 3, 4, 5, 6, 7, 8, 9, 10, 11]⟩,
 ⟨some 122, .move (.tmp 18), none, [0, 1, 2, 3, 4, 5, 6, 7, 8, 9, 10, 11, 12]⟩,
 ⟨some 123, .move (.tmp 4), none, [0, 1, 2, 3, 4, 5, 6, 7, 8, 9, 10, 11, 12, 13]⟩,
 ⟨some 124, .buildSlice 1 [.tmp 121, .tmp 122, .tmp 123], none, [0, 1, 2, 3, 4, 5, 6, 7, 8, 9, 10, 11]⟩,
 ⟨some 22, .move (.tmp 112), none, [4, 5, 6, 7, 8, 9, 10, 11, 12, 13, 14, 15]⟩,
 ⟨some 23, .move (.tmp 116), none, [8, 9, 10, 11, 12, 13, 14, 15]⟩,
 ⟨some 24, .move (.tmp 120), none, [12, 13, 14, 15]⟩], 
  [
  ⟨some 25, .move (.tmp 124), none, []⟩]]
theorem k_law05_GlassSeals_r16_sg : segs k_law05_GlassSeals_r16 = k_law05_GlassSeals_r16s := by kernel_rfl
theorem k_law05_GlassSeals_r16_st : statOK k_law05_GlassSeals_r16 = true := by kernel_rfl
def k_law05_GlassSeals_r17 : List AOper := [
  ⟨some 26, .move (.const (.int .i64 0)), none, []⟩]
def k_law05_GlassSeals_r18 : List AOper := [
  ⟨some 125, .move (.tmp 26), none, []⟩,
 ⟨some 126, .move (.tmp 22), none, []⟩,
 ⟨some 127, .len false (.tmp 126), none, []⟩,
 ⟨some 128, .bin .plain .lss (.tmp 125) (.tmp 127), none, []⟩]
def k_law05_GlassSeals_r19 : List AOper := [
  ⟨some 132, .move (.tmp 22), none, []⟩,
 ⟨some 133, .move (.tmp 26), none, [0]⟩,
 ⟨some 134, .indexAddr 2 (.tmp 132) (.tmp 133), none, []⟩,
 ⟨some 135, .load (some (2)) (.tmp 134), none, []⟩,
 ⟨some 136, .move (.tmp 23), none, [0, 1, 2, 3]⟩,
 ⟨some 137, .move (.tmp 26), none, [0, 1, 2, 3, 4]⟩,
 ⟨some 138, .indexAddr 2 (.tmp 136) (.tmp 137), none, [0, 1, 2, 3]⟩,
 ⟨some 139, .load (some (2)) (.tmp 138), none, [0, 1, 2, 3]⟩,
 ⟨some 140, .move (.tmp 24), none, [0, 1, 2, 3, 4, 5, 6, 7]⟩,
 ⟨some 141, .move (.tmp 26), none, [0, 1, 2, 3, 4, 5, 6, 7, 8]⟩,
 ⟨some 142, .indexAddr 1 (.tmp 140) (.tmp 141), none, [0, 1, 2, 3, 4, 5, 6, 7]⟩,
 ⟨some 143, .load none (.tmp 142), none, [0, 1, 2, 3, 4, 5, 6, 7]⟩,
 ⟨some 144, .move (.tmp 25), none, [0, 1, 2, 3, 4, 5, 6, 7, 8, 9, 10, 11]⟩,
 ⟨some 145, .move (.tmp 26), none, [0, 1, 2, 3, 4, 5, 6, 7, 8, 9, 10, 11, 12]⟩,
 ⟨some 146, .indexAddr 1 (.tmp 144) (.tmp 145), none, [0, 1, 2, 3, 4, 5, 6, 7, 8, 9, 10, 11]⟩,
 ⟨some 147, .load none (.tmp 146), none, [0, 1, 2, 3, 4, 5, 6, 7, 8, 9, 10, 11]⟩,
 ⟨some 148, .call (.const (.fn (.func 45) [] [])) [.tmp 135, .tmp 139, .tmp 143, .tmp 147], none, []⟩,
 ⟨some 131, .move (.tmp 148), none, []⟩,
 ⟨some 149, .extract (.tmp 131) 0, none, []⟩,
 ⟨some 150, .extract (.tmp 131) 1, none, [18]⟩,
 ⟨some 151, .extract (.tmp 131) 2, none, [18, 19]⟩,
 ⟨some 27, .move (.tmp 149), none, [19, 20]⟩,
 ⟨some 28, .move (.tmp 150), none, [20]⟩,
 ⟨some 29, .move (.tmp 151), none, []⟩]
def k_law05_GlassSeals_r19s : List (List AOper) := [
  [
  ⟨some 132, .move (.tmp 22), none, []⟩,
 ⟨some 133, .move (.tmp 26), none, [0]⟩,
 ⟨some 134, .indexAddr 2 (.tmp 132) (.tmp 133), none, []⟩,
 ⟨some 135, .load (some (2)) (.tmp 134), none, []⟩,
 ⟨some 136, .move (.tmp 23), none, [0, 1, 2, 3]⟩,
 ⟨some 137, .move (.tmp 26), none, [0, 1, 2, 3, 4]⟩,
 ⟨some 138, .indexAddr 2 (.tmp 136) (.tmp 137), none, [0, 1, 2, 3]⟩,
 ⟨some 139, .load (some (2)) (.tmp 138), none, [0, 1, 2, 3]⟩,
 ⟨some 140, .move (.tmp 24), none, [0, 1, 2, 3, 4, 5, 6, 7]⟩,
 ⟨some 141, .move (.tmp 26), none, [0, 1, 2, 3, 4, 5, 6, 7, 8]⟩,
 ⟨some 142, .indexAddr 1 (.tmp 140) (.tmp 141), none, [0, 1, 2, 3, 4, 5, 6, 7]⟩,
 ⟨some 143, .load none (.tmp 142), none, [0, 1, 2, 3, 4, 5, 6, 7]⟩,
 ⟨some 144, .move (.tmp 25), none, [0, 1, 2, 3, 4, 5, 6, 7, 8, 9, 10, 11]⟩,
 ⟨some 145, .move (.tmp 26), none, [0, 1, 2, 3, 4, 5, 6, 7, 8, 9, 10, 11, 12]⟩,
 ⟨some 146, .indexAddr 1 (.tmp 144) (.tmp 145), none, [0, 1, 2, 3, 4, 5, 6, 7, 8, 9, 10, 11]⟩,
 ⟨some 147, .load none (.tmp 146), none, [0, 1, 2, 3, 4, 5, 6, 7, 8, 9, 10, 11]⟩], 
  [
  ⟨some 148, .call (.const (.fn (.func 45) [] [])) [.tmp 135, .tmp 139, .tmp 143, .tmp 147], none, []⟩], 
  [
  ⟨some 131, .move (.tmp 148), none, []⟩], 
  [
  ⟨some 149, .extract (.tmp 131) 0, none, []⟩,
 ⟨some 150, .extract (.tmp 131) 1, none, [18]⟩,
 ⟨some 151, .extract (.tmp 131) 2, none, [18, 19]⟩,
 ⟨some 27, .move (.tmp 149), none, [19, 20]⟩,
 ⟨some 28, .move (.tmp 150), none, [20]⟩], 
  [
  ⟨some 29, .move (.tmp 151), none, []⟩]]
theorem k_law05_GlassSeals_r19_sg : segs k_law05_GlassSeals_r19 = k_law05_GlassSeals_r19s := by kernel_rfl
theorem k_law05_GlassSeals_r19_st : statOK k_law05_GlassSeals_r19 = true := by kernel_rfl
def k_law05_GlassSeals_r20 : List AOper := [
  ⟨some 153, .move (.tmp 22), none, []⟩,
 ⟨some 154, .move (.tmp 26), none, [0]⟩,
 ⟨some 155, .indexAddr 2 (.tmp 153) (.tmp 154), none, []⟩,
 ⟨some 156, .load (some (2)) (.tmp 155), none, []⟩,
 ⟨some 157, .move (.tmp 23), none, [0, 1, 2, 3]⟩,
 ⟨some 158, .move (.tmp 26), none, [0, 1, 2, 3, 4]⟩,
 ⟨some 159, .indexAddr 2 (.tmp 157) (.tmp 158), none, [0, 1, 2, 3]⟩,
 ⟨some 160, .load (some (2)) (.tmp 159), none, [0, 1, 2, 3]⟩,
 ⟨some 161, .move (.tmp 24), none, [0, 1, 2, 3, 4, 5, 6, 7]⟩,
 ⟨some 162, .move (.tmp 26), none, [0, 1, 2, 3, 4, 5, 6, 7, 8]⟩,
 ⟨some 163, .indexAddr 1 (.tmp 161) (.tmp 162), none, [0, 1, 2, 3, 4, 5, 6, 7]⟩,
 ⟨some 164, .load none (.tmp 163), none, [0, 1, 2, 3, 4, 5, 6, 7]⟩,
 ⟨some 165, .move (.tmp 25), none, [0, 1, 2, 3, 4, 5, 6, 7, 8, 9, 10, 11]⟩,
 ⟨some 166, .move (.tmp 26), none, [0, 1, 2, 3, 4, 5, 6, 7, 8, 9, 10, 11, 12]⟩,
 ⟨some 167, .indexAddr 1 (.tmp 165) (.tmp 166), none, [0, 1, 2, 3, 4, 5, 6, 7, 8, 9, 10, 11]⟩,
 ⟨some 168, .load none (.tmp 167), none, [0, 1, 2, 3, 4, 5, 6, 7, 8, 9, 10, 11]⟩,
 ⟨some 169, .call (.const (.fn (.func 46) [] [])) [.tmp 156, .tmp 160, .tmp 164, .tmp 168], none, []⟩,
 ⟨some 152, .move (.tmp 169), none, []⟩,
 ⟨some 170, .extract (.tmp 152) 0, none, []⟩,
 ⟨some 171, .extract (.tmp 152) 1, none, [18]⟩,
 ⟨some 172, .extract (.tmp 152) 2, none, [18, 19]⟩,
 ⟨some 30, .move (.tmp 170), none, [19, 20]⟩,
 ⟨some 31, .move (.tmp 171), none, [20]⟩,
 ⟨some 32, .move (.tmp 172), none, []⟩]
def k_law05_GlassSeals_r20s : List (List AOper) := [
  [
  ⟨some 153, .move (.tmp 22), none, []⟩,
 ⟨some 154, .move (.tmp 26), none, [0]⟩,
 ⟨some 155, .indexAddr 2 (.tmp 153) (.tmp 154), none, []⟩,
 ⟨some 156, .load (some (2)) (.tmp 155), none, []⟩,
 ⟨some 157, .move (.tmp 23), none, [0, 1, 2, 3]⟩,
 ⟨some 158, .move (.tmp 26), none, [0, 1, 2, 3, 4]⟩,
 ⟨some 159, .indexAddr 2 (.tmp 157) (.tmp 158), none, [0, 1, 2, 3]⟩,
 ⟨some 160, .load (some (2)) (.tmp 159), none, [0, 1, 2, 3]⟩,
 ⟨some 161, .move (.tmp 24), none, [0, 1, 2, 3, 4, 5, 6, 7]⟩,
 ⟨some 162, .move (.tmp 26), none, [0, 1, 2, 3, 4, 5, 6, 7, 8]⟩,
 ⟨some 163, .indexAddr 1 (.tmp 161) (.tmp 162), none, [0, 1, 2, 3, 4, 5, 6, 7]⟩,
 ⟨some 164, .load none (.tmp 163), none, [0, 1, 2, 3, 4, 5, 6, 7]⟩,
 ⟨some 165, .move (.tmp 25), none, [0, 1, 2, 3, 4, 5, 6, 7, 8, 9, 10, 11]⟩,
 ⟨some 166, .move (.tmp 26), none, [0, 1, 2, 3, 4, 5, 6, 7, 8, 9, 10, 11, 12]⟩,
 ⟨some 167, .indexAddr 1 (.tmp 165) (.tmp 166), none, [0, 1, 2, 3, 4, 5, 6, 7, 8, 9, 10, 11]⟩,
 ⟨some 168, .load none (.tmp 167), none, [0, 1, 2, 3, 4, 5, 6, 7, 8, 9, 10, 11]⟩], 
  [
  ⟨some 169, .call (.const (.fn (.func 46) [] [])) [.tmp 156, .tmp 160, .tmp 164, .tmp 168], none, []⟩], 
  [
  ⟨some 152, .move (.tmp 169), none, []⟩], 
  [
  ⟨some 170, .extract (.tmp 152) 0, none, []⟩,
 ⟨some 171, .extract (.tmp 152) 1, none, [18]⟩,
 ⟨some 172, .extract (.tmp 152) 2, none, [18, 19]⟩,
 ⟨some 30, .move (.tmp 170), none, [19, 20]⟩,
 ⟨some 31, .move (.tmp 171), none, [20]⟩], 
  [
  ⟨some 32, .move (.tmp 172), none, []⟩]]
theorem k_law05_GlassSeals_r20_sg : segs k_law05_GlassSeals_r20 = k_law05_GlassSeals_r20s := by kernel_rfl
theorem k_law05_GlassSeals_r20_st : statOK k_law05_GlassSeals_r20 = true := by kernel_rfl
def k_law05_GlassSeals_r21 : List AOper := [
  ⟨some 173, .move (.tmp 27), none, []⟩,
 ⟨some 174, .move (.tmp 30), none, []⟩,
 ⟨some 175, .bin .plain .neq (.tmp 173) (.tmp 174), none, []⟩,
 ⟨some 176, .move (.tmp 175), none, []⟩,
 ⟨some 177, .move (.tmp 28), (some (176, false)), []⟩,
 ⟨some 178, .move (.tmp 31), (some (176, false)), []⟩,
 ⟨some 179, .bin .plain .neq (.tmp 177) (.tmp 178), (some (176, false)), []⟩,
 ⟨some 180, .pick (.tmp 176) (.const (.bool true)) (.tmp 179), none, []⟩,
 ⟨some 181, .move (.tmp 180), none, []⟩,
 ⟨some 182, .move (.tmp 29), (some (181, false)), []⟩,
 ⟨some 183, .move (.tmp 32), (some (181, false)), []⟩,
 ⟨some 184, .bin .plain .neq (.tmp 182) (.tmp 183), (some (181, false)), []⟩,
 ⟨some 185, .pick (.tmp 181) (.const (.bool true)) (.tmp 184), none, []⟩]
def k_law05_GlassSeals_r22 : List AOper := [
  ⟨some 12, .move (.const (.bool false)), none, []⟩]
def k_law05_GlassSeals_r23 : List AOper := [
  ⟨some 129, .move (.tmp 26), none, []⟩,
 ⟨some 130, .bin .plain .add (.tmp 129) (.const (.int .i64 1)), none, []⟩,
 ⟨some 26, .move (.tmp 130), none, []⟩]
def k_law05_GlassSeals_r24 : ACode := (.seq (.seq (.reg k_law05_GlassSeals_r18 false) (.cond (.tmp 128) .skip (.exit 2))) (.seq (.block 3 (.seq (.reg k_law05_GlassSeals_r19 true) (.seq (.reg k_law05_GlassSeals_r20 true) (.seq (.reg k_law05_GlassSeals_r21 false) (.cond (.tmp 185) (.seq (.reg k_law05_GlassSeals_r22 false) .ret) .skip))))) (.reg k_law05_GlassSeals_r23 false)))
def k_law05_GlassSeals_r25 : List AOper := [
  ⟨some 187, .move (.tmp 2), none, []⟩,
 ⟨some 188, .load (some (2)) (.tmp 7), none, []⟩,
 ⟨some 189, .move (.tmp 3), none, []⟩,
 ⟨some 190, .move (.tmp 4), none, []⟩,
 ⟨some 191, .call (.const (.fn (.func 47) [] [])) [.tmp 187, .tmp 188, .tmp 189, .tmp 190], none, []⟩,
 ⟨some 186, .move (.tmp 191), none, []⟩,
 ⟨some 192, .extract (.tmp 186) 0, none, []⟩,
 ⟨some 193, .extract (.tmp 186) 1, none, []⟩,
 ⟨some 33, .move (.tmp 192), none, []⟩,
 ⟨some 34, .move (.tmp 193), none, []⟩]
def k_law05_GlassSeals_r26 : List AOper := [
  ⟨some 195, .move (.tmp 2), none, []⟩,
 ⟨some 196, .load (some (2)) (.tmp 7), none, []⟩,
 ⟨some 197, .move (.tmp 3), none, []⟩,
 ⟨some 198, .move (.tmp 4), none, []⟩,
 ⟨some 199, .call (.const (.fn (.func 48) [] [])) [.tmp 195, .tmp 196, .tmp 197, .tmp 198], none, []⟩,
 ⟨some 194, .move (.tmp 199), none, []⟩,
 ⟨some 200, .extract (.tmp 194) 0, none, []⟩,
 ⟨some 201, .extract (.tmp 194) 1, none, []⟩,
 ⟨some 35, .move (.tmp 200), none, []⟩,
 ⟨some 36, .move (.tmp 201), none, []⟩]
def k_law05_GlassSeals_r27 : List AOper := [
  ⟨some 203, .load (some (2)) (.tmp 15), none, []⟩,
 ⟨some 204, .load (some (2)) (.tmp 16), none, []⟩,
 ⟨some 205, .load (some (2)) (.tmp 15), none, []⟩,
 ⟨some 206, .buildSlice 2 [.tmp 203, .tmp 204, .tmp 205], none, []⟩,
 ⟨some 207, .load (some (2)) (.tmp 16), none, []⟩,
 ⟨some 208, .move (.tmp 17), none, []⟩,
 ⟨some 209, .move (.tmp 18), none, []⟩,
 ⟨some 210, .call (.const (.fn (.func 47) [] [])) [.tmp 206, .tmp 207, .tmp 208, .tmp 209], none, []⟩,
 ⟨some 202, .move (.tmp 210), none, []⟩,
 ⟨some 211, .extract (.tmp 202) 0, none, []⟩,
 ⟨some 212, .extract (.tmp 202) 1, none, []⟩,
 ⟨some 37, .move (.tmp 211), none, []⟩,
 ⟨some 38, .move (.tmp 212), none, []⟩]
def k_law05_GlassSeals_r28 : List AOper := [
  ⟨some 214, .load (some (2)) (.tmp 15), none, []⟩,
 ⟨some 215, .load (some (2)) (.tmp 16), none, []⟩,
 ⟨some 216, .load (some (2)) (.tmp 15), none, []⟩,
 ⟨some 217, .buildSlice 2 [.tmp 214, .tmp 215, .tmp 216], none, []⟩,
 ⟨some 218, .load (some (2)) (.tmp 16), none, []⟩,
 ⟨some 219, .move (.tmp 17), none, []⟩,
 ⟨some 220, .move (.tmp 18), none, []⟩,
 ⟨some 221, .call (.const (.fn (.func 48) [] [])) [.tmp 217, .tmp 218, .tmp 219, .tmp 220], none, []⟩,
 ⟨some 213, .move (.tmp 221), none, []⟩,
 ⟨some 222, .extract (.tmp 213) 0, none, []⟩,
 ⟨some 223, .extract (.tmp 213) 1, none, []⟩,
 ⟨some 39, .move (.tmp 222), none, []⟩,
 ⟨some 40, .move (.tmp 223), none, []⟩]
def k_law05_GlassSeals_r29 : List AOper := [
  ⟨some 224, .move (.tmp 33), none, []⟩,
 ⟨some 225, .move (.tmp 35), none, []⟩,
 ⟨some 226, .call (.const (.fn (.func 49) [] [])) [.tmp 224, .tmp 225], none, []⟩,
 ⟨some 227, .move (.tmp 226), none, []⟩,
 ⟨some 228, .move (.tmp 34), (some (227, true)), []⟩,
 ⟨some 229, .move (.tmp 36), (some (227, true)), []⟩,
 ⟨some 230, .bin .plain .eql (.tmp 228) (.tmp 229), (some (227, true)), []⟩,
 ⟨some 231, .pick (.tmp 227) (.tmp 230) (.const (.bool false)), none, []⟩,
 ⟨some 232, .move (.tmp 231), none, []⟩,
 ⟨some 233, .move (.tmp 37), (some (232, true)), []⟩,
 ⟨some 234, .move (.tmp 39), (some (232, true)), []⟩,
 ⟨some 235, .call (.const (.fn (.func 49) [] [])) [.tmp 233, .tmp 234], (some (232, true)), []⟩,
 ⟨some 236, .pick (.tmp 232) (.tmp 235) (.const (.bool false)), none, []⟩,
 ⟨some 237, .move (.tmp 236), none, []⟩,
 ⟨some 238, .move (.tmp 38), (some (237, true)), []⟩,
 ⟨some 239, .move (.tmp 40), (some (237, true)), []⟩,
 ⟨some 240, .bin .plain .eql (.tmp 238) (.tmp 239), (some (237, true)), []⟩,
 ⟨some 241, .pick (.tmp 237) (.tmp 240) (.const (.bool false)), none, []⟩,
 ⟨some 242, .move (.tmp 241), none, []⟩,
 ⟨some 243, .call (.const (.fn (.func 20) [] [])) [], (some (242, true)), []⟩,
 ⟨some 244, .pick (.tmp 242) (.tmp 243) (.const (.bool false)), none, []⟩,
 ⟨some 12, .move (.tmp 244), none, []⟩]
def k_law05_GlassSeals : AFun := { params := 6, ntmps := 245, body := (.seq (.reg k_law05_GlassSeals_r0 false) (.seq (.seq (.reg k_law05_GlassSeals_r1 false) (.cond (.tmp 55) (.seq (.reg k_law05_GlassSeals_r2 false) .ret) .skip)) (.seq (.seq (.reg k_law05_GlassSeals_r3 false) (.block 0 (.loop k_law05_GlassSeals_r8))) (.seq (.reg k_law05_GlassSeals_r9 false) (.seq (.reg k_law05_GlassSeals_r10 false) (.seq (.reg k_law05_GlassSeals_r11 false) (.seq (.reg k_law05_GlassSeals_r12 false) (.seq (.seq (.reg k_law05_GlassSeals_r13 false) (.seq (.reg k_law05_GlassSeals_r14 false) (.cond (.tmp 100) (.reg k_law05_GlassSeals_r15 false) .skip))) (.seq (.reg k_law05_GlassSeals_r16 true) (.seq (.seq (.reg k_law05_GlassSeals_r17 false) (.block 2 (.loop k_law05_GlassSeals_r24))) (.seq (.reg k_law05_GlassSeals_r25 false) (.seq (.reg k_law05_GlassSeals_r26 false) (.seq (.reg k_law05_GlassSeals_r27 false) (.seq (.reg k_law05_GlassSeals_r28 false) (.seq (.reg k_law05_GlassSeals_r29 false) .ret))))))))))))))), res := [.tmp 12] }
theorem k_law05_GlassSeals_ok : cfun Try.prog Try.f5 = k_law05_GlassSeals := by kernel_rfl

def k_ref05_Seal_r0 : List AOper := [
  ⟨some 4, .box (.tmp 0), none, []⟩,
 ⟨some 5, .box (.tmp 1), none, []⟩,
 ⟨some 8, .move (.const (.int .i64 0)), none, []⟩,
 ⟨some 9, .move (.const (.int .i64 0)), none, []⟩,
 ⟨some 10, .move (.const (.int .i64 0)), none, []⟩]
def k_ref05_Seal_r1 : List AOper := [
  ⟨some 14, .load (some (2)) (.tmp 4), none, []⟩,
 ⟨some 15, .load (some (2)) (.tmp 5), none, []⟩,
 ⟨some 16, .move (.tmp 2), none, []⟩,
 ⟨some 17, .move (.tmp 3), none, []⟩,
 ⟨some 18, .call (.const (.fn (.func 98) [] [])) [.tmp 14, .tmp 15, .tmp 16, .tmp 17], none, []⟩,
 ⟨some 11, .move (.tmp 18), none, []⟩]
def k_ref05_Seal_r2 : List AOper := [
  ⟨some 19, .move (.tmp 11), none, []⟩,
 ⟨some 20, .bin .plain .neq (.tmp 19) (.const (.int .i64 0)), none, []⟩]
def k_ref05_Seal_r3 : List AOper := [
  ⟨some 21, .move (.tmp 11), none, []⟩,
 ⟨some 8, .move (.const (.int .i64 0)), none, []⟩,
 ⟨some 9, .move (.const (.int .i64 0)), none, []⟩,
 ⟨some 10, .move (.tmp 21), none, []⟩]
def k_ref05_Seal_r4 : List AOper := [
  ⟨some 23, .load (some (2)) (.tmp 4), none, []⟩,
 ⟨some 24, .load (some (2)) (.tmp 5), none, []⟩,
 ⟨some 25, .move (.tmp 2), none, []⟩,
 ⟨some 26, .move (.tmp 3), none, []⟩,
 ⟨some 27, .call (.const (.fn (.func 99) [] [])) [.tmp 23, .tmp 24, .tmp 25, .tmp 26], none, []⟩,
 ⟨some 22, .move (.tmp 27), none, []⟩,
 ⟨some 28, .extract (.tmp 22) 0, none, []⟩,
 ⟨some 29, .extract (.tmp 22) 1, none, []⟩,
 ⟨some 12, .move (.tmp 28), none, []⟩,
 ⟨some 13, .move (.tmp 29), none, []⟩]
def k_ref05_Seal_r5 : List AOper := [
  ⟨some 30, .move (.tmp 12), none, []⟩,
 ⟨some 31, .move (.tmp 13), none, []⟩,
 ⟨some 8, .move (.tmp 30), none, []⟩,
 ⟨some 9, .move (.tmp 31), none, []⟩,
 ⟨some 10, .move (.const (.int .i64 0)), none, []⟩]
def k_ref05_Seal : AFun := { params := 4, ntmps := 32, body := (.seq (.reg k_ref05_Seal_r0 false) (.seq (.seq (.reg k_ref05_Seal_r1 false) (.seq (.reg k_ref05_Seal_r2 false) (.cond (.tmp 20) (.seq (.reg k_ref05_Seal_r3 false) .ret) .skip))) (.seq (.reg k_ref05_Seal_r4 false) (.seq (.reg k_ref05_Seal_r5 false) .ret)))), res := [.tmp 8, .tmp 9, .tmp 10] }
theorem k_ref05_Seal_ok : cfun Try.prog Try.f46 = k_ref05_Seal := by kernel_rfl

def k_glass_Matches_r0 : List AOper := [
  ⟨some 5, .box (.tmp 1), none, []⟩,
 ⟨some 8, .move (.const (.nilsl)), none, []⟩,
 ⟨some 9, .move (.const (.int .i64 0)), none, []⟩]
def k_glass_Matches_r1 : List AOper := [
  ⟨some 16, .move (.tmp 0), none, []⟩,
 ⟨some 17, .len false (.tmp 16), none, []⟩,
 ⟨some 18, .bin .plain .gtr (.tmp 17) (.const (.int .i64 12)), none, []⟩]
def k_glass_Matches_r2 : List AOper := [
  ⟨some 8, .move (.const (.nilsl)), none, []⟩,
 ⟨some 9, .move (.const (.int .i64 8)), none, []⟩]
def k_glass_Matches_r3 : List AOper := [
  ⟨some 10, .move (.const (.nilsl)), none, []⟩]
def k_glass_Matches_r4 : List AOper := [
  ⟨some 19, .move (.tmp 0), none, []⟩,
 ⟨some 20, .len false (.tmp 19), none, []⟩,
 ⟨some 21, .move (.const (.int .i64 0)), none, []⟩]
def k_glass_Matches_r5 : List AOper := [
  ⟨some 22, .bin .plain .lss (.tmp 21) (.tmp 20), none, []⟩]
def k_glass_Matches_r6 : List AOper := [
  ⟨some 23, .move (.tmp 21), none, []⟩,
 ⟨some 24, .indexAddr 2 (.tmp 19) (.tmp 21), none, []⟩,
 ⟨some 25, .load (some (2)) (.tmp 24), none, []⟩,
 ⟨some 12, .box (.const (.agg [.int .i64 0, .nilsl])), none, []⟩,
 ⟨some 11, .move (.tmp 23), none, []⟩,
 ⟨none, .store 2 (.tmp 12) (.tmp 25), none, []⟩]
def k_glass_Matches_r7 : List AOper := [
  ⟨some 27, .load (some (2)) (.tmp 12), none, []⟩,
 ⟨some 28, .load (some (2)) (.tmp 5), none, []⟩,
 ⟨some 29, .move (.tmp 2), none, []⟩,
 ⟨some 30, .move (.tmp 3), none, []⟩,
 ⟨some 31, .call (.const (.fn (.func 45) [] [])) [.tmp 27, .tmp 28, .tmp 29, .tmp 30], none, []⟩,
 ⟨some 26, .move (.tmp 31), none, []⟩,
 ⟨some 32, .extract (.tmp 26) 0, none, []⟩,
 ⟨some 33, .extract (.tmp 26) 1, none, []⟩,
 ⟨some 34, .extract (.tmp 26) 2, none, []⟩,
 ⟨some 13, .move (.tmp 32), none, []⟩,
 ⟨some 14, .move (.tmp 33), none, []⟩,
 ⟨some 15, .move (.tmp 34), none, []⟩]
def k_glass_Matches_r8 : List AOper := [
  ⟨some 35, .move (.tmp 15), none, []⟩,
 ⟨some 36, .bin .plain .neq (.tmp 35) (.const (.int .i64 0)), none, []⟩]
def k_glass_Matches_r9 : List AOper := [
  ⟨some 37, .move (.tmp 15), none, []⟩,
 ⟨some 8, .move (.const (.nilsl)), none, []⟩,
 ⟨some 9, .move (.tmp 37), none, []⟩]
def k_glass_Matches_r10 : List AOper := [
  ⟨some 38, .move (.tmp 13), none, []⟩,
 ⟨some 39, .bin .plain .eql (.tmp 38) (.const (.int .i64 1)), none, []⟩]
def k_glass_Matches_r11 : List AOper := [
  ⟨some 40, .move (.tmp 10), none, []⟩,
 ⟨some 41, .move (.tmp 11), none, []⟩,
 ⟨some 42, .buildSlice 1 [.tmp 41], none, []⟩,
 ⟨some 43, .append 1 8 false (.tmp 40) (.tmp 42), none, []⟩,
 ⟨some 10, .move (.tmp 43), none, []⟩]
def k_glass_Matches_r12 : List AOper := [
  ⟨some 44, .bin .plain .add (.tmp 21) (.const (.int .i64 1)), none, []⟩,
 ⟨some 21, .move (.tmp 44), none, []⟩]
def k_glass_Matches_r13 : ACode := (.seq (.reg k_glass_Matches_r5 false) (.seq (.cond (.tmp 22) .skip (.exit 0)) (.seq (.block 1 (.seq (.reg k_glass_Matches_r6 false) (.seq (.reg k_glass_Matches_r7 false) (.seq (.seq (.reg k_glass_Matches_r8 false) (.cond (.tmp 36) (.seq (.reg k_glass_Matches_r9 false) .ret) .skip)) (.seq (.reg k_glass_Matches_r10 false) (.cond (.tmp 39) (.reg k_glass_Matches_r11 false) .skip)))))) (.reg k_glass_Matches_r12 false))))
def k_glass_Matches_r14 : List AOper := [
  ⟨some 45, .move (.tmp 10), none, []⟩,
 ⟨some 8, .move (.tmp 45), none, []⟩,
 ⟨some 9, .move (.const (.int .i64 0)), none, []⟩]
def k_glass_Matches : AFun := { params := 4, ntmps := 46, body := (.seq (.reg k_glass_Matches_r0 false) (.seq (.seq (.reg k_glass_Matches_r1 false) (.cond (.tmp 18) (.seq (.reg k_glass_Matches_r2 false) .ret) .skip)) (.seq (.reg k_glass_Matches_r3 false) (.seq (.seq (.reg k_glass_Matches_r4 false) (.block 0 (.loop k_glass_Matches_r13))) (.seq (.reg k_glass_Matches_r14 false) .ret))))), res := [.tmp 8, .tmp 9] }
theorem k_glass_Matches_ok : cfun Try.prog Try.f47 = k_glass_Matches := by kernel_rfl

def k_ref05_Matches_r0 : List AOper := [
  ⟨some 5, .box (.tmp 1), none, []⟩,
 ⟨some 8, .move (.const (.nilsl)), none, []⟩,
 ⟨some 9, .move (.const (.int .i64 0)), none, []⟩]
def k_ref05_Matches_r1 : List AOper := [
  ⟨some 16, .move (.tmp 0), none, []⟩,
 ⟨some 17, .len false (.tmp 16), none, []⟩,
 ⟨some 18, .bin .plain .gtr (.tmp 17) (.const (.int .i64 12)), none, []⟩]
def k_ref05_Matches_r2 : List AOper := [
  ⟨some 8, .move (.const (.nilsl)), none, []⟩,
 ⟨some 9, .move (.const (.int .i64 8)), none, []⟩]
def k_ref05_Matches_r3 : List AOper := [
  ⟨some 10, .move (.const (.int .i64 0)), none, []⟩]
def k_ref05_Matches_r4 : List AOper := [
  ⟨some 19, .move (.tmp 10), none, []⟩,
 ⟨some 20, .move (.tmp 0), none, []⟩,
 ⟨some 21, .len false (.tmp 20), none, []⟩,
 ⟨some 22, .bin .plain .lss (.tmp 19) (.tmp 21), none, []⟩]
def k_ref05_Matches_r5 : List AOper := [
  ⟨some 25, .move (.tmp 0), none, []⟩,
 ⟨some 26, .move (.tmp 10), none, [0]⟩,
 ⟨some 27, .indexAddr 2 (.tmp 25) (.tmp 26), none, []⟩,
 ⟨some 28, .load (some (2)) (.tmp 27), none, []⟩,
 ⟨some 29, .load (some (2)) (.tmp 5), none, [0, 1, 2, 3]⟩,
 ⟨some 30, .move (.tmp 2), none, [0, 1, 2, 3, 4]⟩,
 ⟨some 31, .move (.tmp 3), none, [0, 1, 2, 3, 4, 5]⟩,
 ⟨some 32, .call (.const (.fn (.func 98) [] [])) [.tmp 28, .tmp 29, .tmp 30, .tmp 31], none, []⟩,
 ⟨some 11, .move (.tmp 32), none, []⟩]
def k_ref05_Matches_r5s : List (List AOper) := [
  [
  ⟨some 25, .move (.tmp 0), none, []⟩,
 ⟨some 26, .move (.tmp 10), none, [0]⟩,
 ⟨some 27, .indexAddr 2 (.tmp 25) (.tmp 26), none, []⟩,
 ⟨some 28, .load (some (2)) (.tmp 27), none, []⟩,
 ⟨some 29, .load (some (2)) (.tmp 5), none, [0, 1, 2, 3]⟩,
 ⟨some 30, .move (.tmp 2), none, [0, 1, 2, 3, 4]⟩,
 ⟨some 31, .move (.tmp 3), none, [0, 1, 2, 3, 4, 5]⟩], 
  [
  ⟨some 32, .call (.const (.fn (.func 98) [] [])) [.tmp 28, .tmp 29, .tmp 30, .tmp 31], none, []⟩], 
  [
  ⟨some 11, .move (.tmp 32), none, []⟩]]
theorem k_ref05_Matches_r5_sg : segs k_ref05_Matches_r5 = k_ref05_Matches_r5s := by kernel_rfl
theorem k_ref05_Matches_r5_st : statOK k_ref05_Matches_r5 = true := by kernel_rfl
def k_ref05_Matches_r6 : List AOper := [
  ⟨some 33, .move (.tmp 11), none, []⟩,
 ⟨some 34, .bin .plain .neq (.tmp 33) (.const (.int .i64 0)), none, []⟩]
def k_ref05_Matches_r7 : List AOper := [
  ⟨some 35, .move (.tmp 11), none, []⟩,
 ⟨some 8, .move (.const (.nilsl)), none, []⟩,
 ⟨some 9, .move (.tmp 35), none, []⟩]
def k_ref05_Matches_r8 : List AOper := [
  ⟨some 23, .move (.tmp 10), none, []⟩,
 ⟨some 24, .bin .plain .add (.tmp 23) (.const (.int .i64 1)), none, []⟩,
 ⟨some 10, .move (.tmp 24), none, []⟩]
def k_ref05_Matches_r9 : ACode := (.seq (.seq (.reg k_ref05_Matches_r4 false) (.cond (.tmp 22) .skip (.exit 0))) (.seq (.block 1 (.seq (.reg k_ref05_Matches_r5 true) (.seq (.reg k_ref05_Matches_r6 false) (.cond (.tmp 34) (.seq (.reg k_ref05_Matches_r7 false) .ret) .skip)))) (.reg k_ref05_Matches_r8 false)))
def k_ref05_Matches_r10 : List AOper := [
  ⟨some 12, .move (.const (.nilsl)), none, []⟩]
def k_ref05_Matches_r11 : List AOper := [
  ⟨some 13, .move (.const (.int .i64 0)), none, []⟩]
def k_ref05_Matches_r12 : List AOper := [
  ⟨some 36, .move (.tmp 13), none, []⟩,
 ⟨some 37, .move (.tmp 0), none, []⟩,
 ⟨some 38, .len false (.tmp 37), none, []⟩,
 ⟨some 39, .bin .plain .lss (.tmp 36) (.tmp 38), none, []⟩]
def k_ref05_Matches_r13 : List AOper := [
  ⟨some 43, .move (.tmp 0), none, []⟩,
 ⟨some 44, .move (.tmp 13), none, [0]⟩,
 ⟨some 45, .indexAddr 2 (.tmp 43) (.tmp 44), none, []⟩,
 ⟨some 46, .load (some (2)) (.tmp 45), none, []⟩,
 ⟨some 47, .load (some (2)) (.tmp 5), none, [0, 1, 2, 3]⟩,
 ⟨some 48, .move (.tmp 2), none, [0, 1, 2, 3, 4]⟩,
 ⟨some 49, .move (.tmp 3), none, [0, 1, 2, 3, 4, 5]⟩,
 ⟨some 50, .call (.const (.fn (.func 99) [] [])) [.tmp 46, .tmp 47, .tmp 48, .tmp 49], none, []⟩,
 ⟨some 42, .move (.tmp 50), none, []⟩,
 ⟨some 51, .extract (.tmp 42) 0, none, []⟩,
 ⟨some 52, .extract (.tmp 42) 1, none, [9]⟩,
 ⟨some 14, .move (.tmp 51), none, [10]⟩,
 ⟨some 15, .move (.tmp 52), none, []⟩]
def k_ref05_Matches_r13s : List (List AOper) := [
  [
  ⟨some 43, .move (.tmp 0), none, []⟩,
 ⟨some 44, .move (.tmp 13), none, [0]⟩,
 ⟨some 45, .indexAddr 2 (.tmp 43) (.tmp 44), none, []⟩,
 ⟨some 46, .load (some (2)) (.tmp 45), none, []⟩,
 ⟨some 47, .load (some (2)) (.tmp 5), none, [0, 1, 2, 3]⟩,
 ⟨some 48, .move (.tmp 2), none, [0, 1, 2, 3, 4]⟩,
 ⟨some 49, .move (.tmp 3), none, [0, 1, 2, 3, 4, 5]⟩], 
  [
  ⟨some 50, .call (.const (.fn (.func 99) [] [])) [.tmp 46, .tmp 47, .tmp 48, .tmp 49], none, []⟩], 
  [
  ⟨some 42, .move (.tmp 50), none, []⟩], 
  [
  ⟨some 51, .extract (.tmp 42) 0, none, []⟩,
 ⟨some 52, .extract (.tmp 42) 1, none, [9]⟩,
 ⟨some 14, .move (.tmp 51), none, [10]⟩], 
  [
  ⟨some 15, .move (.tmp 52), none, []⟩]]
theorem k_ref05_Matches_r13_sg : segs k_ref05_Matches_r13 = k_ref05_Matches_r13s := by kernel_rfl
theorem k_ref05_Matches_r13_st : statOK k_ref05_Matches_r13 = true := by kernel_rfl
def k_ref05_Matches_r14 : List AOper := [
  ⟨some 53, .move (.tmp 14), none, []⟩,
 ⟨some 54, .bin .plain .eql (.tmp 53) (.const (.int .i64 1)), none, []⟩]
def k_ref05_Matches_r15 : List AOper := [
  ⟨some 55, .move (.tmp 12), none, []⟩,
 ⟨some 56, .move (.tmp 13), none, []⟩,
 ⟨some 57, .buildSlice 1 [.tmp 56], none, []⟩,
 ⟨some 58, .append 1 8 false (.tmp 55) (.tmp 57), none, []⟩,
 ⟨some 12, .move (.tmp 58), none, []⟩]
def k_ref05_Matches_r16 : List AOper := [
  ⟨some 40, .move (.tmp 13), none, []⟩,
 ⟨some 41, .bin .plain .add (.tmp 40) (.const (.int .i64 1)), none, []⟩,
 ⟨some 13, .move (.tmp 41), none, []⟩]
def k_ref05_Matches_r17 : ACode := (.seq (.seq (.reg k_ref05_Matches_r12 false) (.cond (.tmp 39) .skip (.exit 2))) (.seq (.block 3 (.seq (.reg k_ref05_Matches_r13 true) (.seq (.reg k_ref05_Matches_r14 false) (.cond (.tmp 54) (.reg k_ref05_Matches_r15 false) .skip)))) (.reg k_ref05_Matches_r16 false)))
def k_ref05_Matches_r18 : List AOper := [
  ⟨some 59, .move (.tmp 12), none, []⟩,
 ⟨some 8, .move (.tmp 59), none, []⟩,
 ⟨some 9, .move (.const (.int .i64 0)), none, []⟩]
def k_ref05_Matches : AFun := { params := 4, ntmps := 60, body := (.seq (.reg k_ref05_Matches_r0 false) (.seq (.seq (.reg k_ref05_Matches_r1 false) (.cond (.tmp 18) (.seq (.reg k_ref05_Matches_r2 false) .ret) .skip)) (.seq (.seq (.reg k_ref05_Matches_r3 false) (.block 0 (.loop k_ref05_Matches_r9))) (.seq (.reg k_ref05_Matches_r10 false) (.seq (.seq (.reg k_ref05_Matches_r11 false) (.block 2 (.loop k_ref05_Matches_r17))) (.seq (.reg k_ref05_Matches_r18 false) .ret)))))), res := [.tmp 8, .tmp 9] }
theorem k_ref05_Matches_ok : cfun Try.prog Try.f48 = k_ref05_Matches := by kernel_rfl

def k_ref05_checkFrom_r0 : List AOper := [
  ⟨some 4, .box (.tmp 0), none, []⟩,
 ⟨some 5, .box (.tmp 1), none, []⟩,
 ⟨some 8, .move (.const (.int .i64 0)), none, []⟩]
def k_ref05_checkFrom_r1 : List AOper := [
  ⟨some 10, .load (some (2)) (.tmp 4), none, []⟩,
 ⟨some 11, .load (some (2)) (.tmp 5), none, []⟩,
 ⟨some 12, .move (.tmp 2), none, []⟩,
 ⟨some 13, .move (.tmp 3), none, []⟩,
 ⟨some 14, .call (.const (.fn (.func 94) [] [])) [.tmp 10, .tmp 11, .tmp 12, .tmp 13], none, []⟩,
 ⟨some 9, .move (.tmp 14), none, []⟩]
def k_ref05_checkFrom_r2 : List AOper := [
  ⟨some 15, .move (.tmp 9), none, []⟩,
 ⟨some 16, .bin .plain .neq (.tmp 15) (.const (.int .i64 0)), none, []⟩]
def k_ref05_checkFrom_r3 : List AOper := [
  ⟨some 17, .move (.tmp 9), none, []⟩,
 ⟨some 8, .move (.tmp 17), none, []⟩]
def k_ref05_checkFrom_r4 : List AOper := [
  ⟨some 18, .move (.tmp 3), none, []⟩,
 ⟨some 19, .move (.tmp 2), none, []⟩,
 ⟨some 20, .bin .plain .gtr (.tmp 18) (.tmp 19), none, []⟩]
def k_ref05_checkFrom_r5 : List AOper := [
  ⟨some 8, .move (.const (.int .i64 2)), none, []⟩]
def k_ref05_checkFrom_r6 : List AOper := [
  ⟨some 8, .move (.const (.int .i64 0)), none, []⟩]
def k_ref05_checkFrom : AFun := { params := 4, ntmps := 21, body := (.seq (.reg k_ref05_checkFrom_r0 false) (.seq (.seq (.reg k_ref05_checkFrom_r1 false) (.seq (.reg k_ref05_checkFrom_r2 false) (.cond (.tmp 16) (.seq (.reg k_ref05_checkFrom_r3 false) .ret) .skip))) (.seq (.seq (.reg k_ref05_checkFrom_r4 false) (.cond (.tmp 20) (.seq (.reg k_ref05_checkFrom_r5 false) .ret) .skip)) (.seq (.reg k_ref05_checkFrom_r6 false) .ret)))), res := [.tmp 8] }
theorem k_ref05_checkFrom_ok : cfun Try.prog Try.f98 = k_ref05_checkFrom := by kernel_rfl

def k_ref05_seal_r0 : List AOper := [
  ⟨some 4, .box (.tmp 0), none, []⟩,
 ⟨some 5, .box (.tmp 1), none, []⟩,
 ⟨some 8, .move (.const (.int .i64 0)), none, []⟩,
 ⟨some 9, .move (.const (.int .i64 0)), none, []⟩]
def k_ref05_seal_r1 : List AOper := [
  ⟨some 17, .fieldAddr 0 (.tmp 4), none, []⟩,
 ⟨some 18, .load none (.tmp 17), none, []⟩,
 ⟨some 19, .fieldAddr 0 (.tmp 5), none, []⟩,
 ⟨some 20, .load none (.tmp 19), none, []⟩,
 ⟨some 21, .minmax false [.tmp 18, .tmp 20], none, []⟩,
 ⟨some 10, .move (.tmp 21), none, []⟩]
def k_ref05_seal_r2 : List AOper := [
  ⟨some 11, .box (.const (.agg [.int .i64 0, .int .i64 0])), none, []⟩]
def k_ref05_seal_r3 : List AOper := [
  ⟨some 12, .move (.const (.int .i64 (-1))), none, []⟩,
 ⟨some 13, .move (.const (.int .i64 (-1))), none, []⟩]
def k_ref05_seal_r4 : List AOper := [
  ⟨some 22, .move (.tmp 2), none, []⟩,
 ⟨some 14, .move (.tmp 22), none, []⟩]
def k_ref05_seal_r5 : List AOper := [
  ⟨some 23, .move (.tmp 14), none, []⟩,
 ⟨some 24, .move (.tmp 3), none, []⟩,
 ⟨some 25, .bin .plain .geq (.tmp 23) (.tmp 24), none, []⟩]
def k_ref05_seal_r6 : List AOper := [
  ⟨some 28, .move (.tmp 14), none, []⟩,
 ⟨some 29, .move (.tmp 2), none, []⟩,
 ⟨some 30, .bin .plain .lss (.tmp 28) (.tmp 29), none, []⟩]
def k_ref05_seal_r7 : List AOper := [
  ⟨some 31, .load (some (2)) (.tmp 4), none, []⟩,
 ⟨some 32, .move (.tmp 14), none, [0]⟩,
 ⟨some 33, .call (.const (.fn (.func 76) [] [])) [.tmp 31, .tmp 32], none, []⟩,
 ⟨some 34, .field (some (2)) 1 (.tmp 33), none, []⟩,
 ⟨some 35, .load (some (2)) (.tmp 5), none, [0, 1, 2, 3]⟩,
 ⟨some 36, .move (.tmp 14), none, [0, 1, 2, 3, 4]⟩,
 ⟨some 37, .call (.const (.fn (.func 76) [] [])) [.tmp 35, .tmp 36], none, [3]⟩,
 ⟨some 38, .field (some (2)) 1 (.tmp 37), none, [3]⟩,
 ⟨some 15, .box (.const (.agg [.int .i64 0, .int .i64 0])), none, [0, 1, 2, 3, 4, 5, 6, 7]⟩,
 ⟨some 16, .box (.const (.agg [.int .i64 0, .int .i64 0])), none, [0, 1, 2, 3, 4, 5, 6, 7, 8]⟩,
 ⟨none, .store 2 (.tmp 15) (.tmp 34), none, [7]⟩,
 ⟨none, .store 2 (.tmp 16) (.tmp 38), none, []⟩]
def k_ref05_seal_r7s : List (List AOper) := [
  [
  ⟨some 31, .load (some (2)) (.tmp 4), none, []⟩,
 ⟨some 32, .move (.tmp 14), none, [0]⟩,
 ⟨some 33, .call (.const (.fn (.func 76) [] [])) [.tmp 31, .tmp 32], none, []⟩,
 ⟨some 34, .field (some (2)) 1 (.tmp 33), none, []⟩,
 ⟨some 35, .load (some (2)) (.tmp 5), none, [0, 1, 2, 3]⟩,
 ⟨some 36, .move (.tmp 14), none, [0, 1, 2, 3, 4]⟩,
 ⟨some 37, .call (.const (.fn (.func 76) [] [])) [.tmp 35, .tmp 36], none, [3]⟩,
 ⟨some 38, .field (some (2)) 1 (.tmp 37), none, [3]⟩,
 ⟨some 15, .box (.const (.agg [.int .i64 0, .int .i64 0])), none, [0, 1, 2, 3, 4, 5, 6, 7]⟩,
 ⟨some 16, .box (.const (.agg [.int .i64 0, .int .i64 0])), none, [0, 1, 2, 3, 4, 5, 6, 7, 8]⟩,
 ⟨none, .store 2 (.tmp 15) (.tmp 34), none, [7]⟩], 
  [
  ⟨none, .store 2 (.tmp 16) (.tmp 38), none, []⟩]]
theorem k_ref05_seal_r7_sg : segs k_ref05_seal_r7 = k_ref05_seal_r7s := by kernel_rfl
theorem k_ref05_seal_r7_st : statOK k_ref05_seal_r7 = true := by kernel_rfl
def k_ref05_seal_r8 : List AOper := [
  ⟨some 39, .fieldAddr 0 (.tmp 11), none, []⟩,
 ⟨some 40, .load none (.tmp 39), none, []⟩,
 ⟨some 41, .fieldAddr 1 (.tmp 15), none, [0, 1]⟩,
 ⟨some 42, .load none (.tmp 41), none, [0, 1]⟩,
 ⟨some 43, .bin .plain .sub (.tmp 40) (.tmp 42), none, []⟩,
 ⟨some 44, .fieldAddr 0 (.tmp 16), none, [0, 1, 2, 3, 4]⟩,
 ⟨some 45, .load none (.tmp 44), none, [0, 1, 2, 3, 4]⟩,
 ⟨some 46, .bin .plain .add (.tmp 43) (.tmp 45), none, []⟩,
 ⟨some 47, .fieldAddr 1 (.tmp 11), none, [0, 1, 2, 3, 4, 5, 6, 7]⟩,
 ⟨some 48, .load none (.tmp 47), none, [0, 1, 2, 3, 4, 5, 6, 7]⟩,
 ⟨some 49, .fieldAddr 0 (.tmp 15), none, [0, 1, 2, 3, 4, 5, 6, 7, 8, 9]⟩,
 ⟨some 50, .load none (.tmp 49), none, [0, 1, 2, 3, 4, 5, 6, 7, 8, 9]⟩,
 ⟨some 51, .bin .plain .sub (.tmp 48) (.tmp 50), none, [0, 1, 2, 3, 4, 5, 6, 7]⟩,
 ⟨some 52, .fieldAddr 1 (.tmp 16), none, [0, 1, 2, 3, 4, 5, 6, 7, 8, 9, 10, 11, 12]⟩,
 ⟨some 53, .load none (.tmp 52), none, [0, 1, 2, 3, 4, 5, 6, 7, 8, 9, 10, 11, 12]⟩,
 ⟨some 54, .bin .plain .add (.tmp 51) (.tmp 53), none, [0, 1, 2, 3, 4, 5, 6, 7]⟩,
 ⟨some 55, .fieldAddr 0 (.tmp 11), none, [10, 11, 12, 13, 14, 15]⟩,
 ⟨none, .store 1 (.tmp 55) (.tmp 46), none, [10, 11, 12, 13, 14, 15]⟩,
 ⟨some 56, .fieldAddr 1 (.tmp 11), none, []⟩,
 ⟨none, .store 1 (.tmp 56) (.tmp 54), none, []⟩]
def k_ref05_seal_r8s : List (List AOper) := [
  [
  ⟨some 39, .fieldAddr 0 (.tmp 11), none, []⟩,
 ⟨some 40, .load none (.tmp 39), none, []⟩,
 ⟨some 41, .fieldAddr 1 (.tmp 15), none, [0, 1]⟩,
 ⟨some 42, .load none (.tmp 41), none, [0, 1]⟩,
 ⟨some 43, .bin .plain .sub (.tmp 40) (.tmp 42), none, []⟩,
 ⟨some 44, .fieldAddr 0 (.tmp 16), none, [0, 1, 2, 3, 4]⟩,
 ⟨some 45, .load none (.tmp 44), none, [0, 1, 2, 3, 4]⟩,
 ⟨some 46, .bin .plain .add (.tmp 43) (.tmp 45), none, []⟩,
 ⟨some 47, .fieldAddr 1 (.tmp 11), none, [0, 1, 2, 3, 4, 5, 6, 7]⟩,
 ⟨some 48, .load none (.tmp 47), none, [0, 1, 2, 3, 4, 5, 6, 7]⟩,
 ⟨some 49, .fieldAddr 0 (.tmp 15), none, [0, 1, 2, 3, 4, 5, 6, 7, 8, 9]⟩,
 ⟨some 50, .load none (.tmp 49), none, [0, 1, 2, 3, 4, 5, 6, 7, 8, 9]⟩,
 ⟨some 51, .bin .plain .sub (.tmp 48) (.tmp 50), none, [0, 1, 2, 3, 4, 5, 6, 7]⟩,
 ⟨some 52, .fieldAddr 1 (.tmp 16), none, [0, 1, 2, 3, 4, 5, 6, 7, 8, 9, 10, 11, 12]⟩,
 ⟨some 53, .load none (.tmp 52), none, [0, 1, 2, 3, 4, 5, 6, 7, 8, 9, 10, 11, 12]⟩,
 ⟨some 54, .bin .plain .add (.tmp 51) (.tmp 53), none, [0, 1, 2, 3, 4, 5, 6, 7]⟩,
 ⟨some 55, .fieldAddr 0 (.tmp 11), none, [10, 11, 12, 13, 14, 15]⟩,
 ⟨none, .store 1 (.tmp 55) (.tmp 46), none, [10, 11, 12, 13, 14, 15]⟩], 
  [
  ⟨some 56, .fieldAddr 1 (.tmp 11), none, []⟩], 
  [
  ⟨none, .store 1 (.tmp 56) (.tmp 54), none, []⟩]]
theorem k_ref05_seal_r8_sg : segs k_ref05_seal_r8 = k_ref05_seal_r8s := by kernel_rfl
theorem k_ref05_seal_r8_st : statOK k_ref05_seal_r8 = true := by kernel_rfl
def k_ref05_seal_r9 : List AOper := [
  ⟨some 57, .move (.tmp 12), none, []⟩,
 ⟨some 58, .bin .plain .lss (.tmp 57) (.const (.int .i64 0)), none, []⟩,
 ⟨some 59, .move (.tmp 58), none, []⟩,
 ⟨some 60, .fieldAddr 0 (.tmp 11), (some (59, true)), []⟩,
 ⟨some 61, .load none (.tmp 60), (some (59, true)), []⟩,
 ⟨some 62, .move (.tmp 10), (some (59, true)), []⟩,
 ⟨some 63, .bin .plain .gtr (.tmp 61) (.tmp 62), (some (59, true)), []⟩,
 ⟨some 64, .move (.tmp 63), (some (59, true)), []⟩,
 ⟨some 65, .fieldAddr 1 (.tmp 11), (some (64, false)), []⟩,
 ⟨some 66, .load none (.tmp 65), (some (64, false)), []⟩,
 ⟨some 67, .move (.tmp 10), (some (64, false)), []⟩,
 ⟨some 68, .neg (.tmp 67), (some (64, false)), []⟩,
 ⟨some 69, .bin .plain .lss (.tmp 66) (.tmp 68), (some (64, false)), []⟩,
 ⟨some 70, .pick (.tmp 64) (.const (.bool true)) (.tmp 69), (some (59, true)), []⟩,
 ⟨some 71, .pick (.tmp 59) (.tmp 70) (.const (.bool false)), none, []⟩]
def k_ref05_seal_r10 : List AOper := [
  ⟨some 72, .move (.tmp 14), none, []⟩,
 ⟨some 12, .move (.tmp 72), none, []⟩]
def k_ref05_seal_r11 : List AOper := [
  ⟨some 73, .move (.tmp 13), none, []⟩,
 ⟨some 74, .bin .plain .lss (.tmp 73) (.const (.int .i64 0)), none, []⟩,
 ⟨some 75, .move (.tmp 74), none, []⟩,
 ⟨some 76, .fieldAddr 0 (.tmp 11), (some (75, true)), []⟩,
 ⟨some 77, .load none (.tmp 76), (some (75, true)), []⟩,
 ⟨some 78, .move (.tmp 10), (some (75, true)), []⟩,
 ⟨some 79, .neg (.tmp 78), (some (75, true)), []⟩,
 ⟨some 80, .bin .plain .lss (.tmp 77) (.tmp 79), (some (75, true)), []⟩,
 ⟨some 81, .move (.tmp 80), (some (75, true)), []⟩,
 ⟨some 82, .fieldAddr 1 (.tmp 11), (some (81, false)), []⟩,
 ⟨some 83, .load none (.tmp 82), (some (81, false)), []⟩,
 ⟨some 84, .move (.tmp 10), (some (81, false)), []⟩,
 ⟨some 85, .bin .plain .gtr (.tmp 83) (.tmp 84), (some (81, false)), []⟩,
 ⟨some 86, .pick (.tmp 81) (.const (.bool true)) (.tmp 85), (some (75, true)), []⟩,
 ⟨some 87, .pick (.tmp 75) (.tmp 86) (.const (.bool false)), none, []⟩]
def k_ref05_seal_r12 : List AOper := [
  ⟨some 88, .move (.tmp 14), none, []⟩,
 ⟨some 13, .move (.tmp 88), none, []⟩]
def k_ref05_seal_r13 : List AOper := [
  ⟨some 26, .move (.tmp 14), none, []⟩,
 ⟨some 27, .bin .plain .sub (.tmp 26) (.const (.int .i64 1)), none, []⟩,
 ⟨some 14, .move (.tmp 27), none, []⟩]
def k_ref05_seal_r14 : ACode := (.seq (.seq (.reg k_ref05_seal_r5 false) (.cond (.tmp 25) .skip (.exit 0))) (.seq (.block 1 (.seq (.seq (.reg k_ref05_seal_r6 false) (.cond (.tmp 30) (.seq (.reg k_ref05_seal_r7 true) (.reg k_ref05_seal_r8 true)) .skip)) (.seq (.seq (.reg k_ref05_seal_r9 false) (.cond (.tmp 71) (.reg k_ref05_seal_r10 false) .skip)) (.seq (.reg k_ref05_seal_r11 false) (.cond (.tmp 87) (.reg k_ref05_seal_r12 false) .skip))))) (.reg k_ref05_seal_r13 false)))
def k_ref05_seal_r15 : List AOper := [
  ⟨some 90, .move (.tmp 12), none, []⟩,
 ⟨some 91, .bin .plain .geq (.tmp 90) (.const (.int .i64 0)), none, []⟩,
 ⟨some 89, .move (.tmp 91), none, []⟩]
def k_ref05_seal_r16 : List AOper := [
  ⟨some 92, .move (.tmp 12), none, []⟩,
 ⟨some 8, .move (.const (.int .i64 2)), none, []⟩,
 ⟨some 9, .move (.tmp 92), none, []⟩]
def k_ref05_seal_r17 : List AOper := [
  ⟨some 94, .move (.tmp 13), none, []⟩,
 ⟨some 95, .bin .plain .geq (.tmp 94) (.const (.int .i64 0)), none, []⟩,
 ⟨some 93, .move (.tmp 95), none, []⟩]
def k_ref05_seal_r18 : List AOper := [
  ⟨some 96, .move (.tmp 13), none, []⟩,
 ⟨some 8, .move (.const (.int .i64 3)), none, []⟩,
 ⟨some 9, .move (.tmp 96), none, []⟩]
def k_ref05_seal_r19 : List AOper := [
  ⟨some 8, .move (.const (.int .i64 1)), none, []⟩,
 ⟨some 9, .move (.const (.int .i64 0)), none, []⟩]
def k_ref05_seal : AFun := { params := 4, ntmps := 97, body := (.seq (.reg k_ref05_seal_r0 false) (.seq (.reg k_ref05_seal_r1 false) (.seq (.reg k_ref05_seal_r2 false) (.seq (.reg k_ref05_seal_r3 false) (.seq (.seq (.reg k_ref05_seal_r4 false) (.block 0 (.loop k_ref05_seal_r14))) (.seq (.block 2 (.seq (.reg k_ref05_seal_r15 false) (.cond (.tmp 89) (.seq (.reg k_ref05_seal_r16 false) .ret) (.seq (.reg k_ref05_seal_r17 false) (.cond (.tmp 93) (.seq (.reg k_ref05_seal_r18 false) .ret) .skip))))) (.seq (.reg k_ref05_seal_r19 false) .ret))))))), res := [.tmp 8, .tmp 9] }
theorem k_ref05_seal_ok : cfun Try.prog Try.f99 = k_ref05_seal := by kernel_rfl


abbrev n_law05_GlassSeals : Nat := 5
theorem e_law05_GlassSeals : EntryOK Try.prog n_law05_GlassSeals k_law05_GlassSeals := ⟨Try.f5, Try.func5, k_law05_GlassSeals_ok, by kernel_rfl⟩
abbrev n_ref05_Seal : Nat := 46
theorem e_ref05_Seal : EntryOK Try.prog n_ref05_Seal k_ref05_Seal := ⟨Try.f46, Try.func46, k_ref05_Seal_ok, by kernel_rfl⟩
abbrev n_glass_Matches : Nat := 47
theorem e_glass_Matches : EntryOK Try.prog n_glass_Matches k_glass_Matches := ⟨Try.f47, Try.func47, k_glass_Matches_ok, by kernel_rfl⟩
abbrev n_ref05_Matches : Nat := 48
theorem e_ref05_Matches : EntryOK Try.prog n_ref05_Matches k_ref05_Matches := ⟨Try.f48, Try.func48, k_ref05_Matches_ok, by kernel_rfl⟩
abbrev n_ref05_checkFrom : Nat := 98
theorem e_ref05_checkFrom : EntryOK Try.prog n_ref05_checkFrom k_ref05_checkFrom := ⟨Try.f98, Try.func98, k_ref05_checkFrom_ok, by kernel_rfl⟩
abbrev n_ref05_seal : Nat := 99
theorem e_ref05_seal : EntryOK Try.prog n_ref05_seal k_ref05_seal := ⟨Try.f99, Try.func99, k_ref05_seal_ok, by kernel_rfl⟩

attribute [go_sem] k_law05_GlassSeals_r0 k_law05_GlassSeals_r1 k_law05_GlassSeals_r2 k_law05_GlassSeals_r3 k_law05_GlassSeals_r4 k_law05_GlassSeals_r5 k_law05_GlassSeals_r6 k_law05_GlassSeals_r7 k_law05_GlassSeals_r9 k_law05_GlassSeals_r10 k_law05_GlassSeals_r11 k_law05_GlassSeals_r12
attribute [go_sem] k_law05_GlassSeals_r13 k_law05_GlassSeals_r14 k_law05_GlassSeals_r15 k_law05_GlassSeals_r16s k_law05_GlassSeals_r17 k_law05_GlassSeals_r18 k_law05_GlassSeals_r19s k_law05_GlassSeals_r20s k_law05_GlassSeals_r21 k_law05_GlassSeals_r22 k_law05_GlassSeals_r23 k_law05_GlassSeals_r25
attribute [go_sem] k_law05_GlassSeals_r26 k_law05_GlassSeals_r27 k_law05_GlassSeals_r28 k_law05_GlassSeals_r29 k_ref05_Seal_r0 k_ref05_Seal_r1 k_ref05_Seal_r2 k_ref05_Seal_r3 k_ref05_Seal_r4 k_ref05_Seal_r5 k_glass_Matches_r0 k_glass_Matches_r1
attribute [go_sem] k_glass_Matches_r2 k_glass_Matches_r3 k_glass_Matches_r4 k_glass_Matches_r5 k_glass_Matches_r6 k_glass_Matches_r7 k_glass_Matches_r8 k_glass_Matches_r9 k_glass_Matches_r10 k_glass_Matches_r11 k_glass_Matches_r12 k_glass_Matches_r14
attribute [go_sem] k_ref05_Matches_r0 k_ref05_Matches_r1 k_ref05_Matches_r2 k_ref05_Matches_r3 k_ref05_Matches_r4 k_ref05_Matches_r5s k_ref05_Matches_r6 k_ref05_Matches_r7 k_ref05_Matches_r8 k_ref05_Matches_r10 k_ref05_Matches_r11 k_ref05_Matches_r12
attribute [go_sem] k_ref05_Matches_r13s k_ref05_Matches_r14 k_ref05_Matches_r15 k_ref05_Matches_r16 k_ref05_Matches_r18 k_ref05_checkFrom_r0 k_ref05_checkFrom_r1 k_ref05_checkFrom_r2 k_ref05_checkFrom_r3 k_ref05_checkFrom_r4 k_ref05_checkFrom_r5 k_ref05_checkFrom_r6
attribute [go_sem] k_ref05_seal_r0 k_ref05_seal_r1 k_ref05_seal_r2 k_ref05_seal_r3 k_ref05_seal_r4 k_ref05_seal_r5 k_ref05_seal_r6 k_ref05_seal_r7s k_ref05_seal_r8s k_ref05_seal_r8_sg k_ref05_seal_r8_st k_ref05_seal_r9 k_ref05_seal_r10 k_ref05_seal_r11
attribute [go_sem] k_ref05_seal_r12 k_ref05_seal_r13 k_ref05_seal_r15 k_ref05_seal_r16 k_ref05_seal_r17 k_ref05_seal_r18 k_ref05_seal_r19 k_law05_GlassSeals_r16_sg k_ref05_Matches_r13_sg k_law05_GlassSeals_r20_sg k_ref05_Matches_r5_sg k_law05_GlassSeals_r19_sg
attribute [go_sem] k_ref05_seal_r7_sg k_law05_GlassSeals_r16_st k_ref05_Matches_r13_st k_law05_GlassSeals_r20_st k_ref05_Matches_r5_st k_law05_GlassSeals_r19_st k_ref05_seal_r7_st k_law05_GlassSeals k_ref05_Seal k_glass_Matches k_ref05_Matches k_ref05_checkFrom
attribute [go_sem] k_ref05_seal
end Go.Proofs

namespace Go.Proofs
open Go Go.Sx
attribute [local irreducible] Run

section
variable (z1 z2 : List Zn) (sE lim : Int)
def nvK : Nat → Int
  | 0 => -1
  | k + 1 => if nvK k < 0 ∧ brkA z1 z2 sE lim k = true then sE - k else nvK k
def dbK : Nat → Int
  | 0 => -1
  | k + 1 => if dbK k < 0 ∧ holA z1 z2 sE lim k = false then sE - k else dbK k
def finK (n d : Int) : Int × Int := if n ≥ 0 then (2, n) else if d ≥ 0 then (3, d) else (1, 0)
end
theorem nvK_stay {z1 z2 : List Zn} {sE lim : Int} (k : Nat) (h : 0 ≤ nvK z1 z2 sE lim k) : ∀ m, nvK z1 z2 sE lim (k + m) = nvK z1 z2 sE lim k
  | 0 => rfl
  | m + 1 => by
    have ih := nvK_stay k h m
    rw [← Nat.add_assoc, nvK, if_neg (by rw [ih]; omega)]; exact ih
theorem jV_db {z1 z2 : List Zn} {sE lim : Int} : ∀ k : Nat, (∀ i : Nat, i < k → 0 ≤ sE - i) → (jV z1 z2 sE lim k = (1, 0) ∧ dbK z1 z2 sE lim k = -1) ∨ (jV z1 z2 sE lim k = (3, dbK z1 z2 sE lim k) ∧ 0 ≤ dbK z1 z2 sE lim k)
  | 0, _ => .inl ⟨rfl, rfl⟩
  | k + 1, hp => by
    have h0 := hp k (by omega)
    rw [jV, dbK]
    rcases jV_db (z1 := z1) (z2 := z2) (lim := lim) k (fun i hi => hp i (by omega)) with ⟨h1, h2⟩ | ⟨h1, h2⟩
    · by_cases c : holA z1 z2 sE lim k = false
      · rw [if_pos ⟨by rw [h1], c⟩, if_pos ⟨by omega, c⟩]; exact .inr ⟨rfl, h0⟩
      · rw [if_neg fun h => c h.2, if_neg fun h => c h.2]; exact .inl ⟨h1, h2⟩
    · rw [if_neg fun h => by rw [h1] at h; exact absurd h.1 (by show ¬ (3 : Int) = 1; decide), if_neg fun h => by omega]; exact .inr ⟨h1, h2⟩
theorem nvK_none {z1 z2 : List Zn} {sE lim : Int} : ∀ k : Nat, (∀ i, i < k → brkA z1 z2 sE lim i = false) → nvK z1 z2 sE lim k = -1
  | 0, _ => rfl
  | k + 1, h => by rw [nvK, if_neg (by rw [h k (by omega)]; simp)]; exact nvK_none k fun i hi => h i (by omega)
theorem jFrom_fin {z1 z2 : List Zn} {sE lim : Int} : ∀ n k : Nat, (∀ i, i < k → brkA z1 z2 sE lim i = false) → (∀ i : Nat, i < k + n → 0 ≤ sE - i) → jFrom z1 z2 sE lim n k = finK (nvK z1 z2 sE lim (k + n)) (dbK z1 z2 sE lim (k + n))
  | 0, k, hb, hp => by
    rw [jFrom, Nat.add_zero, nvK_none k hb]
    unfold finK
    rw [if_neg (by omega)]
    rcases jV_db (z1 := z1) (z2 := z2) (lim := lim) k (fun i hi => hp i (by omega)) with ⟨h1, h2⟩ | ⟨h1, h2⟩
    · rw [h1, h2, if_neg (by omega)]
    · rw [h1, if_pos (by omega)]
  | n + 1, k, hb, hp => by
    rw [jFrom]
    by_cases c : brkA z1 z2 sE lim k = true
    · have h0 := hp k (by omega)
      have e : nvK z1 z2 sE lim (k + 1) = sE - k := by rw [nvK, nvK_none k hb, if_pos ⟨by omega, c⟩]
      have e2 := nvK_stay (k + 1) (by rw [e]; exact h0) n
      rw [if_pos c, show k + (n + 1) = k + 1 + n by omega, e2, e]
      unfold finK
      rw [if_pos (by omega)]
    · rw [if_neg c, show k + (n + 1) = k + 1 + n by omega]
      exact jFrom_fin n (k + 1) (fun i hi => by
        by_cases e : i = k
        · rw [e]; simpa using c
        · exact hb i (by omega)) fun i hi => hp i (by omega)
set_option maxHeartbeats 16000000 in
set_option maxRecDepth 20000 in
theorem rseal_run {b1 b2 : Int} {z1 z2 : List Zn} (h1 : StOK b1 z1) (h2 : StOK b2 z2) {sE fr : Int} (hf : 0 ≤ fr ∧ fr ≤ sE) (hs : sE ≤ 2000) :
    Ans Try.prog n_ref05_seal [stV b1 z1, stV b2 z2, .int .i64 sE, .int .i64 fr] [] (.tup [.int .i64 (sealR b1 b2 z1 z2 sE fr).1, .int .i64 (sealR b1 b2 z1 z2 sE fr).2]) [] := by
  have hb1 := h1.brk
  have hb2 := h2.brk
  unfold sealR
  obtain ⟨n, hn⟩ : ∃ n : Nat, (sE - fr).toNat = n := ⟨_, rfl⟩
  have hsf : sE - fr = n := by omega
  rw [hn, jFrom_fin (n + 1) 0 (fun i hi => absurd hi (Nat.not_lt_zero _)) fun i hi => by omega, Nat.zero_add]
  have y1 : (if b2 < b1 then b2 else b1) = min b1 b2 := by split <;> omega
  obtain ⟨lim, hlm⟩ : ∃ l, min b1 b2 = l := ⟨_, rfl⟩
  have hlim : 1 ≤ lim ∧ lim ≤ 1000000000 := by omega
  rw [hlm] at y1
  rw [hlm]
  have wl : IntKind.i64.wrap (0 - lim) = -lim := by rw [w64 (by omega)]; omega
  have bp := fun i => sumD_bd (mLo_in h1.zs h2.zs) sE i
  have bq := fun i => sumD_bd (mHi_in h1.zs h2.zs) sE i
  have zo1 := fun (t : Int) (ht : 0 ≤ t ∧ t ≤ 2000) => rZoneOf_run b1 h1.zs ht
  have zo2 := fun (t : Int) (ht : 0 ≤ t ∧ t ≤ 2000) => rZoneOf_run b2 h2.zs ht
  refine spec_run e_ref05_seal fun G => ?_
  simp only [stV] at zo1 zo2
  simp only [go_sem, stV, y1]
  refine loop_ind k_ref05_seal_r14.eq_1 (fun s : Nat × Heap => s.1 ≤ n + 1) (fun s => n + 1 - s.1)
    (fun s => (tsets 97 [(2, .int .i64 sE), (3, .int .i64 fr), (4, .ptr 0 0 0 1), (5, .ptr 1 0 0 1), (8, .int .i64 0), (9, .int .i64 0), (10, .int .i64 lim), (11, .ptr 2 0 0 1), (12, .int .i64 (nvK z1 z2 sE lim s.1)), (13, .int .i64 (dbK z1 z2 sE lim s.1)), (14, .int .i64 (sE - s.1))],
      some (.cells false 2 [.agg [.int .i64 b1, .view (z1.map Zn.v)]]) :: some (.cells false 2 [.agg [.int .i64 b2, .view (z2.map Zn.v)]]) :: some (.cells false 2 [.agg [.int .i64 (sumD (mLo z1 z2) sE (s.1 - 1)), .int .i64 (sumD (mHi z1 z2) sE (s.1 - 1))]]) :: s.2)) (0, []) (Nat.zero_le _) (by simp [go_sem, nvK, dbK]) rfl ?_
  rintro ⟨i, X⟩ hi ih
  dsimp only at hi ih ⊢
  by_cases i1 : i ≤ n
  · have c1 : sE - i ≥ fr := by omega
    have hnv : nvK z1 z2 sE lim (i + 1) = if nvK z1 z2 sE lim i < 0 ∧ brkA z1 z2 sE lim i = true then sE - i else nvK z1 z2 sE lim i := rfl
    have hdb : dbK z1 z2 sE lim (i + 1) = if dbK z1 z2 sE lim i < 0 ∧ holA z1 z2 sE lim i = false then sE - i else dbK z1 z2 sE lim i := rfl
    have hbk : brkA z1 z2 sE lim i = (decide (sumD (mLo z1 z2) sE i > lim) || decide (sumD (mHi z1 z2) sE i < -lim)) := rfl
    have hho : holA z1 z2 sE lim i = (decide (sumD (mLo z1 z2) sE i ≥ -lim) && decide (sumD (mHi z1 z2) sE i ≤ lim)) := rfl
    have w3 : IntKind.i64.wrap (sE - i - 1) = sE - ((i + 1 : Nat) : Int) := by rw [w64 (by omega)]; omega
    have ihn := fun Y => ih (i + 1, Y) (by dsimp only; omega) (by dsimp only; omega)
    clear ih
    dsimp only at ihn
    rw [Nat.add_sub_cancel] at ihn
    have bpi := bp i
    have bqi := bq i
    by_cases i0 : i = 0
    · subst i0
      have p0 : ∀ f, sumD f sE 0 = 0 := fun f => rfl
      have e1 : nvK z1 z2 sE lim (0 + 1) = -1 := by
        rw [hnv, hbk, if_neg fun h => by
          have h2 := h.2
          rw [Bool.or_eq_true, decide_eq_true_iff, decide_eq_true_iff, p0, p0] at h2
          omega]
        rfl
      have e2 : dbK z1 z2 sE lim (0 + 1) = -1 := by
        rw [hdb, hho, if_neg fun h => by
          have h2 := h.2
          rw [Bool.and_eq_false_iff, decide_eq_false_iff_not, decide_eq_false_iff_not, p0, p0] at h2
          omega]
        rfl
      have e3 : nvK z1 z2 sE lim 0 = -1 := rfl
      have e4 : dbK z1 z2 sE lim 0 = -1 := rfl
      have p1 : ∀ f, sumD f sE (0 - 1) = 0 := fun f => rfl
      rw [e1, e2] at ihn
      rw [e3, e4]
      simp only [p0] at ihn
      simp only [p1]
      have n1 : ¬ sE - ((0 : Nat) : Int) < sE := by omega
      have n1' : ¬ sE < sE := by omega
      have q1 : ¬ (0 : Int) > lim := by omega
      have q2 : ¬ (0 : Int) < -lim := by omega
      have z0 : sE - ((0 : Nat) : Int) = sE := by omega
      have w4 : IntKind.i64.wrap (sE - 1) = sE - ((0 + 1 : Nat) : Int) := by rw [w64 (by omega)]; omega
      rw [z0] at c1
      rw [z0]
      simp only [go_sem, c1, n1', q1, q2, wl, w4]
      refine ihn _ _ ?_
      simp [go_sem]
    · obtain ⟨k, rfl⟩ : ∃ k, i = k + 1 := ⟨i - 1, by omega⟩
      have n1 : sE - ((k + 1 : Nat) : Int) < sE := by omega
      have bpk := bp k
      have bqk := bq k
      have t0 : 0 ≤ sE - ((k + 1 : Nat) : Int) ∧ sE - ((k + 1 : Nat) : Int) ≤ 2000 := by omega
      have k1 := zo1 _ t0
      have k2 := zo2 _ t0
      have sp : sumD (mLo z1 z2) sE (k + 1) = sumD (mLo z1 z2) sE k + ((zAt z2 (sE - ((k + 1 : Nat) : Int))).glo - (zAt z1 (sE - ((k + 1 : Nat) : Int))).ghi) := by
        rw [sumD, show sE - 1 - (k : Int) = sE - ((k + 1 : Nat) : Int) by omega]; rfl
      have sq : sumD (mHi z1 z2) sE (k + 1) = sumD (mHi z1 z2) sE k + ((zAt z2 (sE - ((k + 1 : Nat) : Int))).ghi - (zAt z1 (sE - ((k + 1 : Nat) : Int))).glo) := by
        rw [sumD, show sE - 1 - (k : Int) = sE - ((k + 1 : Nat) : Int) by omega]; rfl
      have g1 := g_in h1.zs (sE - ((k + 1 : Nat) : Int))
      have g2' := g_in h2.zs (sE - ((k + 1 : Nat) : Int))
      unfold gLo gHi at g1 g2'
      rw [Nat.add_sub_cancel]
      obtain ⟨t, ht⟩ : ∃ t, sE - ((k + 1 : Nat) : Int) = t := ⟨_, rfl⟩
      rw [ht] at k1 k2 sp sq g1 g2' c1 n1 w3 hnv hdb
      rw [ht]
      obtain ⟨za, hza⟩ : ∃ z, zAt z1 t = z := ⟨_, rfl⟩
      obtain ⟨zb, hzb⟩ : ∃ z, zAt z2 t = z := ⟨_, rfl⟩
      rw [hza] at k1 sp sq g1
      rw [hzb] at k2 sp sq g2'
      obtain ⟨p0, hp0⟩ : ∃ p, sumD (mLo z1 z2) sE k = p := ⟨_, rfl⟩
      obtain ⟨q0, hq0⟩ : ∃ p, sumD (mHi z1 z2) sE k = p := ⟨_, rfl⟩
      obtain ⟨p, hp⟩ : ∃ p, sumD (mLo z1 z2) sE (k + 1) = p := ⟨_, rfl⟩
      obtain ⟨q, hq⟩ : ∃ p, sumD (mHi z1 z2) sE (k + 1) = p := ⟨_, rfl⟩
      rw [hp0] at sp bpk
      rw [hq0] at sq bqk
      rw [hp] at sp bpi hbk hho ihn
      rw [hq] at sq bqi hbk hho ihn
      rw [hp0, hq0]
      obtain ⟨nv, hnv0⟩ : ∃ v, nvK z1 z2 sE lim (k + 1) = v := ⟨_, rfl⟩
      obtain ⟨db, hdb0⟩ : ∃ v, dbK z1 z2 sE lim (k + 1) = v := ⟨_, rfl⟩
      rw [hnv0] at hnv
      rw [hdb0] at hdb
      rw [hnv0, hdb0]
      obtain ⟨nv', hnv1⟩ : ∃ v, nvK z1 z2 sE lim (k + 1 + 1) = v := ⟨_, rfl⟩
      obtain ⟨db', hdb1⟩ : ∃ v, dbK z1 z2 sE lim (k + 1 + 1) = v := ⟨_, rfl⟩
      rw [hnv1] at hnv ihn
      rw [hdb1] at hdb ihn
      have wp1 : IntKind.i64.wrap (p0 - za.ghi) = p0 - za.ghi := w64 (by omega)
      have wp2 : IntKind.i64.wrap (p0 - za.ghi + zb.glo) = p := by rw [w64 (by omega)]; omega
      have wq1 : IntKind.i64.wrap (q0 - za.glo) = q0 - za.glo := w64 (by omega)
      have wq2 : IntKind.i64.wrap (q0 - za.glo + zb.ghi) = q := by rw [w64 (by omega)]; omega
      rw [hbk] at hnv
      rw [hho] at hdb
      simp only [Zn.v, Zn.cs] at k1 k2
      simp only [go_sem, c1, n1]
      refine dP k1 ?_
      simp only [go_sem]
      refine dP k2 ?_
      simp only [go_sem, wp1, wp2, wq1, wq2]
      refine ⟨by simp <;> omega, by simp <;> omega, by simp <;> omega, ?_⟩
      by_cases cn : nv < 0
      · by_cases cL : p > lim
        · skip
          by_cases dn : db < 0
          · by_cases dL : p < -lim
            · skip
              have e1 : nv' = t := by rw [hnv, if_pos ⟨cn, by simp [cL]⟩]
              have e2 : db' = t := by rw [hdb, if_pos ⟨dn, by rw [Bool.and_eq_false_iff, decide_eq_false_iff_not, decide_eq_false_iff_not]; omega⟩]
              rw [e1, e2] at ihn
              simp only [go_sem, wl, cn, cL, dn, dL, w3]
              refine ihn _ _ ?_
              simp [go_sem]
            · by_cases dH : q > lim
              · skip
                have e1 : nv' = t := by rw [hnv, if_pos ⟨cn, by simp [cL]⟩]
                have e2 : db' = t := by rw [hdb, if_pos ⟨dn, by rw [Bool.and_eq_false_iff, decide_eq_false_iff_not, decide_eq_false_iff_not]; omega⟩]
                rw [e1, e2] at ihn
                simp only [go_sem, wl, cn, cL, dn, dL, dH, w3]
                refine ihn _ _ ?_
                simp [go_sem]
              · skip
                have e1 : nv' = t := by rw [hnv, if_pos ⟨cn, by simp [cL]⟩]
                have e2 : db' = db := by rw [hdb, if_neg fun h => by rw [Bool.and_eq_false_iff, decide_eq_false_iff_not, decide_eq_false_iff_not] at h; omega]
                rw [e1, e2] at ihn
                simp only [go_sem, wl, cn, cL, dn, dL, dH, w3]
                refine ihn _ _ ?_
                simp [go_sem]
          · skip
            have e1 : nv' = t := by rw [hnv, if_pos ⟨cn, by simp [cL]⟩]
            have e2 : db' = db := by rw [hdb, if_neg fun h => dn h.1]
            rw [e1, e2] at ihn
            simp only [go_sem, wl, cn, cL, dn, w3]
            refine ihn _ _ ?_
            simp [go_sem]
        · by_cases cH : q < -lim
          · skip
            by_cases dn : db < 0
            · by_cases dL : p < -lim
              · skip
                have e1 : nv' = t := by rw [hnv, if_pos ⟨cn, by simp [cH]⟩]
                have e2 : db' = t := by rw [hdb, if_pos ⟨dn, by rw [Bool.and_eq_false_iff, decide_eq_false_iff_not, decide_eq_false_iff_not]; omega⟩]
                rw [e1, e2] at ihn
                simp only [go_sem, wl, cn, cL, cH, dn, dL, w3]
                refine ihn _ _ ?_
                simp [go_sem]
              · by_cases dH : q > lim
                · skip
                  have e1 : nv' = t := by rw [hnv, if_pos ⟨cn, by simp [cH]⟩]
                  have e2 : db' = t := by rw [hdb, if_pos ⟨dn, by rw [Bool.and_eq_false_iff, decide_eq_false_iff_not, decide_eq_false_iff_not]; omega⟩]
                  rw [e1, e2] at ihn
                  simp only [go_sem, wl, cn, cL, cH, dn, dL, dH, w3]
                  refine ihn _ _ ?_
                  simp [go_sem]
                · skip
                  have e1 : nv' = t := by rw [hnv, if_pos ⟨cn, by simp [cH]⟩]
                  have e2 : db' = db := by rw [hdb, if_neg fun h => by rw [Bool.and_eq_false_iff, decide_eq_false_iff_not, decide_eq_false_iff_not] at h; omega]
                  rw [e1, e2] at ihn
                  simp only [go_sem, wl, cn, cL, cH, dn, dL, dH, w3]
                  refine ihn _ _ ?_
                  simp [go_sem]
            · skip
              have e1 : nv' = t := by rw [hnv, if_pos ⟨cn, by simp [cH]⟩]
              have e2 : db' = db := by rw [hdb, if_neg fun h => dn h.1]
              rw [e1, e2] at ihn
              simp only [go_sem, wl, cn, cL, cH, dn, w3]
              refine ihn _ _ ?_
              simp [go_sem]
          · skip
            by_cases dn : db < 0
            · by_cases dL : p < -lim
              · skip
                have e1 : nv' = nv := by rw [hnv, if_neg fun h => by simp [cL, cH] at h]
                have e2 : db' = t := by rw [hdb, if_pos ⟨dn, by rw [Bool.and_eq_false_iff, decide_eq_false_iff_not, decide_eq_false_iff_not]; omega⟩]
                rw [e1, e2] at ihn
                simp only [go_sem, wl, cn, cL, cH, dn, dL, w3]
                refine ihn _ _ ?_
                simp [go_sem]
              · by_cases dH : q > lim
                · skip
                  have e1 : nv' = nv := by rw [hnv, if_neg fun h => by simp [cL, cH] at h]
                  have e2 : db' = t := by rw [hdb, if_pos ⟨dn, by rw [Bool.and_eq_false_iff, decide_eq_false_iff_not, decide_eq_false_iff_not]; omega⟩]
                  rw [e1, e2] at ihn
                  simp only [go_sem, wl, cn, cL, cH, dn, dL, dH, w3]
                  refine ihn _ _ ?_
                  simp [go_sem]
                · skip
                  have e1 : nv' = nv := by rw [hnv, if_neg fun h => by simp [cL, cH] at h]
                  have e2 : db' = db := by rw [hdb, if_neg fun h => by rw [Bool.and_eq_false_iff, decide_eq_false_iff_not, decide_eq_false_iff_not] at h; omega]
                  rw [e1, e2] at ihn
                  simp only [go_sem, wl, cn, cL, cH, dn, dL, dH, w3]
                  refine ihn _ _ ?_
                  simp [go_sem]
            · skip
              have e1 : nv' = nv := by rw [hnv, if_neg fun h => by simp [cL, cH] at h]
              have e2 : db' = db := by rw [hdb, if_neg fun h => dn h.1]
              rw [e1, e2] at ihn
              simp only [go_sem, wl, cn, cL, cH, dn, w3]
              refine ihn _ _ ?_
              simp [go_sem]
      · skip
        by_cases dn : db < 0
        · by_cases dL : p < -lim
          · skip
            have e1 : nv' = nv := by rw [hnv, if_neg fun h => cn h.1]
            have e2 : db' = t := by rw [hdb, if_pos ⟨dn, by rw [Bool.and_eq_false_iff, decide_eq_false_iff_not, decide_eq_false_iff_not]; omega⟩]
            rw [e1, e2] at ihn
            simp only [go_sem, wl, cn, dn, dL, w3]
            refine ihn _ _ ?_
            simp [go_sem]
          · by_cases dH : q > lim
            · skip
              have e1 : nv' = nv := by rw [hnv, if_neg fun h => cn h.1]
              have e2 : db' = t := by rw [hdb, if_pos ⟨dn, by rw [Bool.and_eq_false_iff, decide_eq_false_iff_not, decide_eq_false_iff_not]; omega⟩]
              rw [e1, e2] at ihn
              simp only [go_sem, wl, cn, dn, dL, dH, w3]
              refine ihn _ _ ?_
              simp [go_sem]
            · skip
              have e1 : nv' = nv := by rw [hnv, if_neg fun h => cn h.1]
              have e2 : db' = db := by rw [hdb, if_neg fun h => by rw [Bool.and_eq_false_iff, decide_eq_false_iff_not, decide_eq_false_iff_not] at h; omega]
              rw [e1, e2] at ihn
              simp only [go_sem, wl, cn, dn, dL, dH, w3]
              refine ihn _ _ ?_
              simp [go_sem]
        · skip
          have e1 : nv' = nv := by rw [hnv, if_neg fun h => cn h.1]
          have e2 : db' = db := by rw [hdb, if_neg fun h => dn h.1]
          rw [e1, e2] at ihn
          simp only [go_sem, wl, cn, dn, w3]
          refine ihn _ _ ?_
          simp [go_sem]
  · have c1 : ¬ sE - i ≥ fr := by omega
    obtain rfl : i = n + 1 := by omega
    clear ih
    generalize nvK z1 z2 sE lim (n + 1) = nv at *
    generalize dbK z1 z2 sE lim (n + 1) = db at *
    unfold finK
    by_cases a : nv ≥ 0
    · rw [if_pos a]
      simp only [go_sem, c1, a]
    · rw [if_neg a]
      by_cases b : db ≥ 0
      · rw [if_pos b]
        simp only [go_sem, c1, a, b]
      · rw [if_neg b]
        simp only [go_sem, c1, a, b]
section
variable (b1 : Int) (z1 : List Zn) (hl1 : z1.length ≤ 1000) (b2 : Int) (z2 : List Zn) (hl2 : z2.length ≤ 1000) (s f : Int)
def sfE (b1 : Int) (z1 : List Zn) (b2 : Int) (z2 : List Zn) (s f : Int) : Int := if seE b1 z1 b2 z2 s f = 0 then (if f > s then 2 else 0) else seE b1 z1 b2 z2 s f
def seT (b1 : Int) (z1 : List Zn) (b2 : Int) (z2 : List Zn) (s f : Int) : Int × Int × Int := if sfE b1 z1 b2 z2 s f = 0 then ((sealR b1 b2 z1 z2 s f).1, (sealR b1 b2 z1 z2 s f).2, 0) else (0, 0, sfE b1 z1 b2 z2 s f)
theorem sfE_ok {b1 : Int} {z1 : List Zn} {b2 : Int} {z2 : List Zn} {s f : Int} (h : sfE b1 z1 b2 z2 s f = 0) : StOK b1 z1 ∧ StOK b2 z2 ∧ (0 ≤ f ∧ f ≤ s) ∧ s ≤ 2000 := by
  unfold sfE at h
  split at h
  · rename_i h1
    split at h
    · simp at h
    · obtain ⟨o1, o2, o3, o4⟩ := seE_ok h1; exact ⟨o1, o2, by omega, by omega⟩
  · rename_i h1; exact absurd h h1
include hl1 hl2
theorem rcheckFrom_raw : Ans Try.prog n_ref05_checkFrom [stV b1 z1, stV b2 z2, .int .i64 s, .int .i64 f] [] (.int .i64 (sfE b1 z1 b2 z2 s f)) [] := by
  have k1 := rcheckSeal_raw5 b1 z1 hl1 b2 z2 hl2 s f
  unfold sfE
  generalize seE b1 z1 b2 z2 s f = E at *
  refine spec_run e_ref05_checkFrom fun G => ?_
  simp only [stV] at k1
  simp only [go_sem, stV]
  refine cP k1 ?_
  by_cases h : E = 0
  · have e : (E != 0) = false := by rw [h]; rfl
    rw [if_pos h]
    by_cases c : f > s
    · simp only [go_sem, e, c]
    · simp only [go_sem, e, c]
  · have e : (E != 0) = true := by simpa using h
    rw [if_neg h]
    simp only [go_sem, e]
theorem Seal_raw : Ans Try.prog n_glass_Seal [stV b1 z1, stV b2 z2, .int .i64 s, .int .i64 f] [] (i3 (seT b1 z1 b2 z2 s f)) [] := by
  unfold seT
  by_cases h : sfE b1 z1 b2 z2 s f = 0
  · rw [if_pos h]
    obtain ⟨o1, o2, o3, o4⟩ := sfE_ok h
    exact Seal_run o1 o2 o3 o4
  rw [if_neg h]
  have k1 := checkSeal_raw5 b1 z1 hl1 b2 z2 hl2 s f
  unfold sfE at h ⊢
  generalize seE b1 z1 b2 z2 s f = E at *
  refine spec_run e_glass_Seal fun G => ?_
  simp only [stV] at k1
  simp only [go_sem, stV, i3]
  refine cP k1 ?_
  by_cases h0 : E = 0
  · have e : (E != 0) = false := by rw [h0]; rfl
    rw [if_pos h0] at h
    by_cases c : f > s
    · simp only [go_sem, e, c, h0]
    · rw [if_neg c] at h; exact absurd rfl h
  · have e : (E != 0) = true := by simpa using h0
    rw [if_neg h0]
    simp only [go_sem, e]
theorem rSeal_raw : Ans Try.prog n_ref05_Seal [stV b1 z1, stV b2 z2, .int .i64 s, .int .i64 f] [] (i3 (seT b1 z1 b2 z2 s f)) [] := by
  have k1 := rcheckFrom_raw b1 z1 hl1 b2 z2 hl2 s f
  unfold seT
  by_cases h : sfE b1 z1 b2 z2 s f = 0
  · rw [if_pos h]
    obtain ⟨o1, o2, o3, o4⟩ := sfE_ok h
    have k2 := rseal_run o1 o2 o3 o4
    rw [h] at k1
    generalize sealR b1 b2 z1 z2 s f = R at *
    refine spec_run e_ref05_Seal fun G => ?_
    simp only [stV] at k1 k2
    simp only [go_sem, stV, i3]
    refine cP k1 ?_
    simp only [go_sem]
    refine cP k2 ?_
    simp only [go_sem]
  · rw [if_neg h]
    have e : (sfE b1 z1 b2 z2 s f != 0) = true := by simpa using h
    generalize sfE b1 z1 b2 z2 s f = E at *
    refine spec_run e_ref05_Seal fun G => ?_
    simp only [stV] at k1
    simp only [go_sem, stV, i3]
    refine cP k1 ?_
    simp only [go_sem, e]
end
end Go.Proofs

