/- A part of the proof. -/
import Derived.Test.YtigaafcllfjniaaPD
set_option linter.unusedSimpArgs false
set_option linter.unusedVariables false
namespace Go.Proofs
open Go Go.Sx

structure Mx where
  carb : Int
  ox : Int
  ba : Int
  lost : Int
  deriving Inhabited, DecidableEq
def Mx.cs (m : Mx) : List AVal := [.int .i64 m.carb, .int .i64 m.ox, .int .i64 m.ba, .int .i64 m.lost]
def Mx.v (m : Mx) : AVal := .agg m.cs
@[go_sem] theorem mx_bel (x : Mx) (S : Nat → Prop) : Bel S x.v = True := by unfold Mx.v Mx.cs; simp only [go_sem]
@[go_sem] theorem mx_nv (x : Mx) : NV x.v = True := by unfold Mx.v Mx.cs; simp only [go_sem]
@[go_sem] theorem mxs_bel (l : List Mx) (S : Nat → Prop) : Bels S (l.map Mx.v) = True := eq_true (bels_map _ _ fun b => by simp only [go_sem])

def flat : List Ht → List Ht
  | [] => []
  | h :: l => List.replicate h.ticks.toNat h ++ flat l
theorem flat_app : ∀ a b : List Ht, flat (a ++ b) = flat a ++ flat b
  | [], b => rfl
  | h :: a, b => by simp [flat, flat_app a b]
theorem flat_succ {l : List Ht} {i : Nat} {h : Ht} (hi : l[i]? = some h) : flat (l.take (i + 1)) = flat (l.take i) ++ List.replicate h.ticks.toNat h := by
  rw [List.take_add_one, hi, flat_app]; simp [flat]
theorem flat_len : ∀ {l : List Ht}, (∀ x ∈ l, HtOK x) → ((flat l).length : Int) = lenOfL l
  | [], _ => rfl
  | h :: l, hl => by
    have h1 := (hl h (by simp)).ticks
    have h2 := flat_len (l := l) fun x hx => hl x (by simp [hx])
    simp only [flat, lenOfL, List.length_append, List.length_replicate]; omega
theorem flat_mem : ∀ {l : List Ht} {z : Ht}, z ∈ flat l → z ∈ l
  | [], _, h => by simp [flat] at h
  | h :: l, z, hz => by
    simp only [flat, List.mem_append, List.mem_replicate] at hz
    rcases hz with ⟨_, rfl⟩ | hz
    · simp
    · simp [flat_mem hz]
theorem flat_at {l : List Ht} {i t : Nat} {h : Ht} (hi : l[i]? = some h) (ht : t < h.ticks.toNat) : (flat l)[(flat (l.take i)).length + t]? = some h ∧ (flat l).take ((flat (l.take i)).length + t) = flat (l.take i) ++ List.replicate t h := by
  have e : l = l.take i ++ h :: l.drop (i + 1) := by
    obtain ⟨h1, h2⟩ := List.getElem?_eq_some_iff.1 hi
    conv => lhs; rw [← List.take_append_drop i l, List.drop_eq_getElem_cons h1, h2]
  have e2 : flat l = flat (l.take i) ++ (List.replicate h.ticks.toNat h ++ flat (l.drop (i + 1))) := by
    conv => lhs; rw [e]
    rw [flat_app]; rfl
  constructor
  · rw [e2, List.getElem?_append_right (by omega), Nat.add_sub_cancel_left, List.getElem?_append_left (by simpa using ht)]
    simp [ht]
  · rw [e2, List.take_length_add_append, List.take_append_of_le_length (by simpa using Nat.le_of_lt ht), List.take_replicate, Nat.min_eq_left (Nat.le_of_lt ht)]

def heatOf (c : Ct) (a : List Ht) : Int := a.foldl (fun h z => moved h z.heat c.slew) 300
theorem heatOf_snoc (c : Ct) (a : List Ht) (z : Ht) : heatOf c (a ++ [z]) = moved (heatOf c a) z.heat c.slew := by simp [heatOf]
def coatOf (c : Ct) (a : List Ht) : Cg := a.foldl (fun x z => after c x z.heat z.cur) (fresh c)
theorem coatOf_snoc (c : Ct) (a : List Ht) (z : Ht) : coatOf c (a ++ [z]) = after c (coatOf c a) z.heat z.cur := by simp [coatOf]
theorem heatOf_in {c : Ct} (hc : CtOK c) {a : List Ht} (ha : ∀ z ∈ a, HtOK z) : 0 ≤ heatOf c a ∧ heatOf c a ≤ 2000 := by
  unfold heatOf
  suffices h : ∀ (a : List Ht) (h0 : Int), (0 ≤ h0 ∧ h0 ≤ 2000) → (∀ z ∈ a, HtOK z) → 0 ≤ a.foldl (fun h z => moved h z.heat c.slew) h0 ∧ a.foldl (fun h z => moved h z.heat c.slew) h0 ≤ 2000 from h a 300 (by decide) ha
  intro a
  induction a with
  | nil => intro h0 h _; exact h
  | cons z a ih =>
    intro h0 h ha
    exact ih _ (moved_in h (ha z (by simp)).heat hc.slew.1) fun y hy => ha y (by simp [hy])
theorem coatOf_heat (c : Ct) (a : List Ht) : (coatOf c a).heat = heatOf c a := by
  suffices h : ∀ b : List Ht, (coatOf c b.reverse).heat = heatOf c b.reverse by simpa using h a.reverse
  intro b
  induction b with
  | nil => rfl
  | cons z b ih =>
    rw [List.reverse_cons, coatOf_snoc, heatOf_snoc, ← ih]; rfl

structure Fol (a b : Mx) (x : Bd) : Prop where
  conv : dn a.carb x.conv.lo ≤ a.carb - b.carb ∧ a.carb - b.carb ≤ up a.carb x.conv.hi
  red : dn a.ox x.red.lo ≤ a.ox + (a.carb - b.carb) - b.ox ∧ a.ox + (a.carb - b.carb) - b.ox ≤ up a.ox x.red.hi
  evap : dn a.ba x.evap.lo ≤ a.ba + (a.ox + (a.carb - b.carb) - b.ox) - b.ba ∧ a.ba + (a.ox + (a.carb - b.carb) - b.ox) - b.ba ≤ up a.ba x.evap.hi
  lost : b.lost = a.lost + (a.ba + (a.ox + (a.carb - b.carb) - b.ox) - b.ba)
structure MxOK (c : Ct) (m : Mx) : Prop where
  carb : 0 ≤ m.carb
  ox : 0 ≤ m.ox
  ba : 0 ≤ m.ba
  lost : 0 ≤ m.lost
  sum : m.carb + m.ox + m.ba + m.lost = c.amount
def start (c : Ct) : Mx := ⟨c.amount, 0, 0, 0⟩
structure Holds (x : Cg) (m : Mx) : Prop where
  carb : x.carb.lo ≤ m.carb ∧ m.carb ≤ x.carb.hi
  ox : x.ox.lo ≤ m.ox ∧ m.ox ≤ x.ox.hi
  ba : x.ba.lo ≤ m.ba ∧ m.ba ≤ x.ba.hi
  lost : x.lost.lo ≤ m.lost ∧ m.lost ≤ x.lost.hi

theorem Fol.ok {c : Ct} {a b : Mx} {x : Bd} (hx : BdOK x) (ha : MxOK c a) (h : Fol a b x) : MxOK c b := by
  obtain ⟨a1, a2, a3, a4, a5⟩ := ha
  obtain ⟨f1, f2, f3, f4⟩ := h
  have b1 := hx.conv.all; have b2 := hx.red.all; have b3 := hx.evap.all
  have c1 := dn_in a1 b1.1 (by omega); have c2 := up_in (r := x.conv.hi) a1 (by omega) (by omega)
  have d1 := dn_in a2 b2.1 (by omega); have d2 := up_in (r := x.red.hi) a2 (by omega) (by omega)
  have e1 := dn_in a3 b3.1 (by omega); have e2 := up_in (r := x.evap.hi) a3 (by omega) (by omega)
  exact ⟨by omega, by omega, by omega, by omega, by omega⟩

theorem cut_hi {r : Rg} {m n : Int} (h : n ≤ r.hi) (h' : n ≤ m) : n ≤ (cut r m).hi := by
  show n ≤ mi r.hi m
  unfold mi; split <;> omega

theorem Fol.holds {c : Ct} {x : Cg} {a b : Mx} {z : Bd} {h : Int} (hz : BdOK z) (hx : CgOK c x) (ha : MxOK c a) (hh : Holds x a) (f : Fol a b z) :
    Holds (afterB c.amount z x h) b ∧ (afterB c.amount z x h).gas.lo ≤ a.carb - b.carb ∧ a.carb - b.carb ≤ (afterB c.amount z x h).gas.hi := by
  have hb := f.ok hz ha
  obtain ⟨a1, a2, a3, a4, a5⟩ := ha
  obtain ⟨q1, q2, q3, q4, q5⟩ := hb
  obtain ⟨f1, f2, f3, f4⟩ := f
  obtain ⟨h1, h2, h3, h4⟩ := hh
  have x1 := hx.carb.all; have x2 := hx.ox.all; have x3 := hx.ba.all; have x4 := hx.lost.all
  have b1 := hz.conv.all; have b2 := hz.red.all; have b3 := hz.evap.all
  -- the parts that are given away
  have p1 : dn x.carb.lo z.conv.lo ≤ dn a.carb z.conv.lo := dn_mono x1.1 h1.1 b1.1 (Int.le_refl _)
  have p2 : up a.carb z.conv.hi ≤ up x.carb.hi z.conv.hi := up_mono a1 h1.2 (by omega) (Int.le_refl _)
  have p3 : dn x.ox.lo z.red.lo ≤ dn a.ox z.red.lo := dn_mono x2.1 h2.1 b2.1 (Int.le_refl _)
  have p4 : up a.ox z.red.hi ≤ up x.ox.hi z.red.hi := up_mono a2 h2.2 (by omega) (Int.le_refl _)
  have p5 : dn x.ba.lo z.evap.lo ≤ dn a.ba z.evap.lo := dn_mono x3.1 h3.1 b3.1 (Int.le_refl _)
  have p6 : up a.ba z.evap.hi ≤ up x.ba.hi z.evap.hi := up_mono a3 h3.2 (by omega) (Int.le_refl _)
  have k1 := keepUp_mono (r := z.conv.hi) x1.1 h1.1 (by omega) (by omega)
  have k2 := keepDn_mono (r := z.conv.lo) a1 h1.2 (by omega) (by omega)
  have k3 := keepUp_mono (r := z.red.hi) x2.1 h2.1 (by omega) (by omega)
  have k4 := keepDn_mono (r := z.red.lo) a2 h2.2 (by omega) (by omega)
  have k5 := keepUp_mono (r := z.evap.hi) x3.1 h3.1 (by omega) (by omega)
  have k6 := keepDn_mono (r := z.evap.lo) a3 h3.2 (by omega) (by omega)
  have d1 := dn_in a1 b1.1 (by omega)
  have u1 := up_in (r := z.conv.hi) a1 (by omega) (by omega)
  refine ⟨⟨⟨?_, cut_hi ?_ (by omega)⟩, ⟨?_, cut_hi ?_ (by omega)⟩, ⟨?_, cut_hi ?_ (by omega)⟩, ⟨?_, cut_hi ?_ (by omega)⟩⟩, ?_, cut_hi ?_ (by omega)⟩ <;>
    simp only [afterB, cut, remains, sumR, parts] <;> omega

inductive Crs (c : Ct) : List Ht → List Mx → Mx → Prop
  | nil : Crs c [] [start c] (start c)
  | snoc {a : List Ht} {w : List Mx} {m m' : Mx} {z : Ht} (h : Crs c a w m) (f : Fol m m' (ratesAt c (heatOf c (a ++ [z])) z.cur)) : Crs c (a ++ [z]) (w ++ [m']) m'

theorem Crs.len {c : Ct} {a : List Ht} {w : List Mx} {m : Mx} (h : Crs c a w m) : w.length = a.length + 1 := by
  induction h with
  | nil => rfl
  | snoc _ _ ih => simp [ih]
theorem Crs.last {c : Ct} {a : List Ht} {w : List Mx} {m : Mx} (h : Crs c a w m) : w[a.length]? = some m := by
  cases h with
  | nil => rfl
  | snoc h f => rw [List.length_append, List.length_singleton, ← h.len]; simp
theorem Crs.ok {c : Ct} (hc : CtOK c) {a : List Ht} {w : List Mx} {m : Mx} (ha : ∀ z ∈ a, HtOK z) (h : Crs c a w m) : MxOK c m := by
  induction h with
  | nil => have := hc.amount; exact ⟨by simp [start]; omega, by simp [start], by simp [start], by simp [start], by simp [start]⟩
  | snoc h f ih =>
    rename_i a w m m' z
    have hz := ha z (by simp)
    exact f.ok (ratesAt_ok hc (heatOf_in hc ha).1 hz.cur) (ih fun y hy => ha y (by simp [hy]))
theorem Crs.part {c : Ct} {a : List Ht} {w : List Mx} {m : Mx} (h : Crs c a w m) : ∀ p, p < a.length → ∃ (z : Ht) (m1 m2 : Mx), a[p]? = some z ∧ Crs c (a.take p) (w.take (p + 1)) m1 ∧ w[p]? = some m1 ∧ w[p + 1]? = some m2 ∧ Fol m1 m2 (ratesAt c (heatOf c (a.take p ++ [z])) z.cur) := by
  induction h with
  | nil => intro p hp; simp at hp
  | snoc h f ih =>
    rename_i a w m m' z
    intro p hp
    have hl := h.len
    by_cases h1 : p < a.length
    · obtain ⟨y, m1, m2, e1, e2, e3, e4, e5⟩ := ih p h1
      refine ⟨y, m1, m2, ?_, ?_, ?_, ?_, ?_⟩
      · rw [List.getElem?_append_left h1]; exact e1
      · rw [List.take_append_of_le_length (by omega), List.take_append_of_le_length (by omega)]; exact e2
      · rw [List.getElem?_append_left (by omega)]; exact e3
      · rw [List.getElem?_append_left (by omega)]; exact e4
      · rw [List.take_append_of_le_length (by omega)]; exact e5
    · have hp' : p = a.length := by simp at hp; omega
      subst hp'
      refine ⟨z, m, m', by simp, ?_, ?_, ?_, ?_⟩
      · rw [List.take_left, ← hl, List.take_left]; exact h
      · rw [List.getElem?_append_left (by omega)]; exact h.last
      · rw [← hl]; simp
      · rw [List.take_left]; exact f

theorem Crs.one {c : Ct} {a : List Ht} {w : List Mx} {m : Mx} (h : Crs c a w m) : a = [] → w = [start c] := by
  cases h with
  | nil => intro _; rfl
  | snoc h f => intro h0; simp at h0
theorem Crs.first {c : Ct} {a : List Ht} {w : List Mx} {m : Mx} (h : Crs c a w m) : w[0]? = some (start c) := by
  by_cases h0 : a = []
  · rw [h.one h0]; rfl
  · obtain ⟨z, m1, m2, _, e2, e3, _, _⟩ := h.part 0 (List.length_pos_iff.2 h0)
    have := e2.one rfl
    have e4 : w[0]? = (w.take (0 + 1))[0]? := by rw [List.getElem?_take]; simp
    rw [e4, this]; rfl

theorem coatOf_good {c : Ct} (hc : CtOK c) {a : List Ht} (ha : ∀ z ∈ a, HtOK z) (hl : a.length ≤ 1000000) : Good c (coatOf c a) a.length := by
  suffices h : ∀ b : List Ht, (∀ z ∈ b, HtOK z) → b.length ≤ 1000000 → Good c (coatOf c b.reverse) b.length by
    have := h a.reverse (fun z hz => ha z (by simpa using hz)) (by simpa using hl)
    simpa using this
  intro b
  induction b with
  | nil => intro _ _; exact fresh_good hc
  | cons z b ih =>
    intro hb hbl
    have hz := hb z (by simp)
    have := after_good hc (ih (fun y hy => hb y (by simp [hy])) (by simp at hbl; omega)) (by simp at hbl; omega) hz.heat hz.cur
    rw [List.reverse_cons, coatOf_snoc]
    simpa using this
theorem Crs.holds {c : Ct} (hc : CtOK c) {a : List Ht} {w : List Mx} {m : Mx} (ha : ∀ z ∈ a, HtOK z) (hl : a.length ≤ 1000000) (h : Crs c a w m) : Holds (coatOf c a) m := by
  induction h with
  | nil => exact ⟨by simp [coatOf, fresh, start], by simp [coatOf, fresh, start], by simp [coatOf, fresh, start], by simp [coatOf, fresh, start]⟩
  | snoc h f ih =>
    rename_i a w m m' z
    have hz := ha z (by simp)
    have ha' : ∀ y ∈ a, HtOK y := fun y hy => ha y (by simp [hy])
    have hl' : a.length ≤ 1000000 := by simp at hl; omega
    have hb := ratesAt_ok hc (heatOf_in hc ha).1 hz.cur
    rw [coatOf_snoc]
    unfold after
    rw [coatOf_heat, ← heatOf_snoc]
    exact (f.holds hb (coatOf_good hc ha' hl').ok (h.ok hc ha') (ih ha' hl')).1
theorem Crs.gas {c : Ct} (hc : CtOK c) {a : List Ht} {w : List Mx} {m m' : Mx} {z : Ht} (ha : ∀ z ∈ a, HtOK z) (hz : HtOK z) (hl : a.length ≤ 1000000) (h : Crs c a w m) (f : Fol m m' (ratesAt c (heatOf c (a ++ [z])) z.cur)) :
    (after c (coatOf c a) z.heat z.cur).gas.lo ≤ m.carb - m'.carb ∧ m.carb - m'.carb ≤ (after c (coatOf c a) z.heat z.cur).gas.hi := by
  have ha' : ∀ y ∈ a ++ [z], HtOK y := fun y hy => by
    rcases List.mem_append.1 hy with hy | hy
    · exact ha y hy
    · simp at hy; subst hy; exact hz
  have hb := ratesAt_ok hc (heatOf_in hc ha').1 hz.cur
  unfold after
  rw [coatOf_heat, ← heatOf_snoc]
  exact (f.holds hb (coatOf_good hc ha hl).ok (h.ok hc ha) (h.holds hc ha hl)).2

theorem tickN_flat (c : Ct) (z : Ht) (a : List Ht) : ∀ t : Nat, coatOf c (a ++ List.replicate t z) = tickN c z.heat z.cur t (coatOf c a)
  | 0 => by simp [tickN]
  | t + 1 => by rw [List.replicate_succ', ← List.append_assoc, coatOf_snoc, tickN_flat c z a t]; rfl
theorem endX_flat (c : Ct) (l : List Ht) : endX c (fresh c) l = coatOf c (flat l) := by
  suffices h : ∀ (l a : List Ht), endX c (coatOf c a) l = coatOf c (a ++ flat l) from h l []
  intro l
  induction l with
  | nil => intro a; simp [endX, flat]
  | cons z l ih =>
    intro a
    have e : heatN c z (coatOf c a) = coatOf c (a ++ List.replicate z.ticks.toNat z) := (tickN_flat c z a _).symm
    rw [endX, e, ih, flat, List.append_assoc]
end Go.Proofs

namespace Go.Proofs
open Go Go.Sx
attribute [local irreducible] Run

theorem rDown_run (x r : Int) (hx : 0 ≤ x ∧ x ≤ 1000000) (hr : 0 ≤ r ∧ r ≤ 1000000) : Ans Try.prog n_ref03_Down [.int .i64 x, .int .i64 r] [] (.int .i64 (dn x r)) [] := by
  have h1 := mul_rng hx.1 hx.2 hr.1 hr.2
  have h2 : IntKind.i64.wrap (x * r) = x * r := w64 (by omega)
  have h3 : (x * r).tdiv 1000000 = dn x r := Int.tdiv_eq_ediv_of_nonneg h1.1
  have h4 : IntKind.i64.wrap (dn x r) = dn x r := w64 (by have := dn_in hx.1 hr.1 hr.2; omega)
  refine spec_run e_ref03_Down fun G => ?_
  simp only [go_sem, h2, h3, h4]
theorem rUp_run (x r : Int) (hx : 0 ≤ x ∧ x ≤ 1000000) (hr : 0 ≤ r ∧ r ≤ 1000000) : Ans Try.prog n_ref03_Up [.int .i64 x, .int .i64 r] [] (.int .i64 (up x r)) [] := by
  have h1 := mul_rng hx.1 hx.2 hr.1 hr.2
  have h2 : IntKind.i64.wrap (x * r) = x * r := w64 (by omega)
  have h5 : IntKind.i64.wrap (x * r + 1000000) = x * r + 1000000 := w64 (by omega)
  have h6 : IntKind.i64.wrap (x * r + 1000000 - 1) = x * r + 999999 := by rw [w64 (by omega)]; omega
  have h3 : (x * r + 999999).tdiv 1000000 = up x r := Int.tdiv_eq_ediv_of_nonneg (by omega)
  have h4 : IntKind.i64.wrap (up x r) = up x r := w64 (by have := up_in hx.1 hr.1 hr.2; omega)
  refine spec_run e_ref03_Up fun G => ?_
  simp only [go_sem, h2, h5, h6, h3, h4]

theorem rHeat_run (c : Ct) (hc : CtOK c) (h a : Int) (hh : 0 ≤ h ∧ h ≤ 2000) (ha : 0 ≤ a ∧ a ≤ 2000) : Ans Try.prog n_ref03_Heat [c.v (.view (c.bands.map Bd.v)), .int .i64 h, .int .i64 a] [] (.int .i64 (moved h a c.slew)) [] := by
  have hs := hc.slew
  have e1 : IntKind.i64.wrap (h - c.slew) = h - c.slew := w64 (by omega)
  have e2 : IntKind.i64.wrap (h + c.slew) = h + c.slew := w64 (by omega)
  refine spec_run e_ref03_Heat fun G => ?_
  simp only [go_sem, Ct.v, Ct.cs, e1, e2]
  unfold moved mi mx
  refine ⟨fun _ => ?_, fun _ => ?_⟩ <;> (repeat' split) <;> omega

theorem rBand_run (c : Ct) (hc : CtOK c) (h cur : Int) (hh : 0 ≤ h) (hcur : 0 ≤ cur ∧ cur ≤ 1000) : Ans Try.prog n_ref03_BandOf [c.v (.view (c.bands.map Bd.v)), .int .i64 h, .int .i64 cur] [] (ratesAt c h cur).v [] := by
  have hl := hc.len
  have p1 := aboveN_pos hc.len.1 hc.first hh
  have p2 := aboveN_le c.bands h
  have hx0 : c.bands[0]? = some (c.bands.getD 0 default) := by rw [List.getD_eq_getElem?_getD, List.getElem?_eq_getElem (by omega)]; rfl
  have hfin : c.bands.getD (min c.bands.length (aboveN c.bands h) - 1) default = bandAt c.bands h := by rw [Nat.min_eq_right p2]; rfl
  have hb := (bandAt_ok hc hh).red
  have a1 := mul_rng hcur.1 hcur.2 hc.aid.lo (Int.le_trans hc.aid.le hc.aid.hi)
  have a2 := mul_rng hcur.1 hcur.2 (Int.le_trans hc.aid.lo hc.aid.le) hc.aid.hi
  obtain ⟨b1, b2, b3⟩ := hb
  have e1 : IntKind.i64.wrap (cur * c.aid.lo) = cur * c.aid.lo := w64 (by omega)
  have e2 : IntKind.i64.wrap (cur * c.aid.hi) = cur * c.aid.hi := w64 (by omega)
  have e3 : IntKind.i64.wrap ((bandAt c.bands h).red.lo + cur * c.aid.lo) = (bandAt c.bands h).red.lo + cur * c.aid.lo := w64 (by omega)
  have e4 : IntKind.i64.wrap ((bandAt c.bands h).red.hi + cur * c.aid.hi) = (bandAt c.bands h).red.hi + cur * c.aid.hi := w64 (by omega)
  refine spec_run e_ref03_BandOf fun G => ?_
  have hg0 : (0 : Int) < c.bands.length := by omega
  simp only [go_sem, Ct.v, Ct.cs, hx0, hg0, Bd.v, Bd.cs]
  refine loop_ind k_ref03_BandOf_r7.eq_1 (fun a : Nat × Bd => a.1 ≤ c.bands.length ∧ a.2 = c.bands.getD (min a.1 (aboveN c.bands h) - 1) default) (fun a => c.bands.length - a.1)
    (fun a => (tsets 58 [(1, .int .i64 h), (2, .int .i64 cur), (3, .ptr 0 0 0 1), (6, .ptr 1 0 0 1), (7, .ptr 2 0 0 1), (8, .int .i64 a.1)],
      [some (.cells false 7 [c.v (.view (c.bands.map Bd.v))]), some (.cells false 9 [.agg [.int .i64 0, .int .i64 0, .int .i64 0, .int .i64 0, .int .i64 0, .int .i64 0, .int .i64 0, .int .i64 0, .int .i64 0]]), some (.cells false 9 [a.2.v])]))
    (0, c.bands.getD 0 default) ⟨Nat.zero_le _, by simp⟩ (by simp [go_sem]) rfl ?_
  rintro ⟨i, b⟩ ⟨hi, hbe⟩ ih
  dsimp only at hi hbe ih ⊢
  by_cases h1 : i < c.bands.length
  · have h2 : (i : Int) < c.bands.length := by omega
    have hx : c.bands[i]? = some (c.bands.getD i default) := by rw [List.getD_eq_getElem?_getD, List.getElem?_eq_getElem h1]; rfl
    have hs := aboveN_spec (h := h) hc.asc i h1
    have h3 := idx_next h1 (by omega)
    have n0 : ¬ (i : Int) < 0 := by omega
    by_cases h4 : (c.bands.getD i default).frm ≤ h
    · have h5 := hs.1 h4
      have hne : c.bands.getD (min (i + 1) (aboveN c.bands h) - 1) default = c.bands.getD i default := by rw [Nat.min_eq_left (by omega), Nat.add_sub_cancel]
      generalize c.bands.getD i default = z at *
      simp only [go_sem, hx, h2, n0, h4, h3, Ct.v, Ct.cs, Bd.v, Bd.cs]
      exact ih (i + 1, z) (by dsimp only; omega) ⟨h1, hne.symm⟩ _ (by simp [go_sem])
    · have h5 : ¬ i < aboveN c.bands h := fun h => h4 (hs.2 h)
      have hne : c.bands.getD (min (i + 1) (aboveN c.bands h) - 1) default = b := by
        rw [hbe, Nat.min_eq_right (by omega), Nat.min_eq_right (by omega)]
      generalize c.bands.getD i default = z at *
      simp only [go_sem, hx, h2, n0, h4, h3, Ct.v, Ct.cs, Bd.v, Bd.cs]
      exact ih (i + 1, b) (by dsimp only; omega) ⟨h1, hne.symm⟩ _ (by simp [go_sem])
  · have h2 : ¬ (i : Int) < c.bands.length := by omega
    have hie : i = c.bands.length := by omega
    rw [hie, hfin] at hbe
    unfold ratesAt
    rw [← hbe] at e3 e4 b1 b2 b3 ⊢
    have m1 : ∀ y : Int, (if y < 1000000 then y else 1000000) = mi y 1000000 := fun y => by unfold mi; split <;> split <;> omega
    simp only [go_sem, h2, Ct.v, Ct.cs, Bd.v, Bd.cs, e1, e2, e3, e4, m1]
end Go.Proofs

namespace Go.Proofs
open Go Go.Sx
attribute [local irreducible] Run

theorem beyond_no {n a b : Int} (h : a ≤ n ∧ n ≤ b) : Ans Try.prog n_ref03_beyond [.int .i64 n, .int .i64 a, .int .i64 b] [] (.bool false) [] := by
  have h1 : ¬ n < a := by omega
  have h2 : ¬ b < n := by omega
  refine spec_run e_ref03_beyond fun G => ?_
  simp only [go_sem, h1, h2]

theorem rcheckRange_run {r : Rg} {m : Int} (h : RgIn r m) : Ans Try.prog n_ref03_checkRange [r.v, .int .i64 m] [] (.int .i64 0) [] := by
  obtain ⟨r1, r2, r3⟩ := h
  have r4 : ¬ r.hi < r.lo := by omega
  refine spec_run e_ref03_checkRange fun G => ?_
  simp only [go_sem, Rg.v]
  refine cP (beyond_no ⟨r1, by omega⟩) ?_
  simp only [go_sem]
  refine cP (beyond_no ⟨by omega, r3⟩) ?_
  simp only [go_sem, r4]

theorem rcheckRanges_run (m : Int) (rs : List Rg) (h : ∀ r ∈ rs, RgIn r m) (hl : rs.length ≤ 1000) : Ans Try.prog n_ref03_checkRanges [.view (rs.map Rg.v), .int .i64 m] [] (.int .i64 0) [] := by
  refine spec_run e_ref03_checkRanges fun G => ?_
  simp only [go_sem]
  refine loop_ind k_ref03_checkRanges_r7.eq_1 (fun a : Nat × Heap => a.1 ≤ rs.length) (fun a => rs.length - a.1)
    (fun a => (tsets 22 [(0, .view (rs.map Rg.v)), (1, .int .i64 m), (5, .int .i64 a.1)], a.2)) (0, []) (Nat.zero_le _) (by simp [go_sem]) rfl ?_
  rintro ⟨i, X⟩ hi ih
  dsimp only at hi ih ⊢
  by_cases h1 : i < rs.length
  · have h2 : (i : Int) < rs.length := by omega
    have n0 : ¬ (i : Int) < 0 := by omega
    have hr := rcheckRange_run (h _ (List.getElem_mem h1))
    have hx : rs[i]? = some rs[i] := List.getElem?_eq_getElem h1
    have h3 := idx_next h1 (by omega)
    generalize rs[i] = z at *
    simp only [go_sem, hx, h2, n0, Rg.v, List.length_map]
    refine cP hr ?_
    simp only [go_sem, h3]
    exact ih (i + 1, _) (by dsimp only; omega) h1 _ (by simp [go_sem])
  · have h2 : ¬ (i : Int) < rs.length := by omega
    simp only [go_sem, h2, List.length_map]

set_option maxHeartbeats 1000000 in
theorem rCheck_run (c : Ct) (hc : CtOK c) : Ans Try.prog n_ref03_Check [c.v (.view (c.bands.map Bd.v))] [] (.int .i64 0) [] := by
  have h1 := hc.amount; have h2 := hc.slew; have h3 := hc.aid; have h4 := hc.yld; have h5 := hc.len
  have g1 := rcheckRanges_run 1000000 [c.aid, c.yld] (by simp [h3, h4]) (by simp)
  have k1 : ¬ ((c.bands.length : Int) = 0) := by omega
  have k2 : ¬ ((16 : Int) < c.bands.length) := by omega
  refine spec_run e_ref03_Check fun G => ?_
  simp only [go_sem, Ct.v, Ct.cs]
  refine cP (beyond_no h1) ?_
  simp only [go_sem]
  refine cP (beyond_no h2) ?_
  simp only [go_sem]
  refine cF g1 6 (by simp only [go_sem, frz, Rg.v]) ?_
  simp only [go_sem, k1, k2, List.length_map]
  refine loop_ind k_ref03_Check_r21.eq_1 (fun a : Nat × Heap => a.1 ≤ c.bands.length) (fun a => c.bands.length - a.1)
    (fun a => (tsets 83 [(1, .ptr 0 0 0 1), (2, .int .i64 0), (4, .int .i64 a.1)], some (.cells false 7 [c.v (.view (c.bands.map Bd.v))]) :: a.2)) (0, [_]) (Nat.zero_le _) (by simp [go_sem]) rfl ?_
  rintro ⟨i, X⟩ hi ih
  dsimp only at hi ih ⊢
  by_cases h1 : i < c.bands.length
  · have h2 : (i : Int) < c.bands.length := by omega
    have n0 : ¬ (i : Int) < 0 := by omega
    obtain ⟨f1, f2, f3, f4, f5⟩ := hc.bands _ (List.getElem_mem h1)
    have hx : c.bands[i]? = some c.bands[i] := List.getElem?_eq_getElem h1
    have h3 := idx_next h1 (by omega)
    have hf : i = 0 → c.bands[i].frm = 0 := by
      rintro rfl
      have := hc.first
      rwa [List.getD_eq_getElem?_getD, hx] at this
    have hg : 0 < i → ∃ b : Bd, c.bands[i - 1]? = some b ∧ b.frm < c.bands[i].frm := by
      intro h0
      have := hc.asc (i - 1) (by omega)
      rw [show i - 1 + 1 = i by omega, List.getD_eq_getElem?_getD, List.getD_eq_getElem?_getD, hx, List.getElem?_eq_getElem (by omega)] at this
      exact ⟨_, List.getElem?_eq_getElem (by omega), this⟩
    generalize c.bands[i] = b at *
    have g2 := rcheckRanges_run 1000000 [b.conv, b.red, b.evap, b.sint] (by simp [f2, f3, f4, f5]) (by simp)
    simp only [go_sem, hx, h2, n0, Bd.v, Bd.cs, Ct.v, Ct.cs, List.length_map]
    refine cP (beyond_no f1) ?_
    by_cases h0 : i = 0
    · have hf := hf h0
      have hb : ((i : Int) == 0) = true := by simp [h0]
      have hg2 : ¬ (0 : Int) < i := by omega
      simp only [go_sem, hf, hb, hg2]
      refine cF g2 6 (by simp only [go_sem, frz, Rg.v]) ?_
      simp only [go_sem, h3]
      exact ih (i + 1, _) (by dsimp only; omega) h1 _ (by simp [go_sem])
    · obtain ⟨b', hb1, hb2⟩ := hg (by omega)
      have hb : ((i : Int) == 0) = false := by simp [h0]
      have hg2 : (0 : Int) < i := by omega
      have hg3 : IntKind.i64.wrap ((i : Int) - 1) = ((i - 1 : Nat) : Int) := by rw [w64 (by omega)]; omega
      have hg4 : ¬ b.frm ≤ b'.frm := by omega
      have hg5 : ¬ ((i - 1 : Nat) : Int) < 0 := by omega
      have hg6 : ((i - 1 : Nat) : Int) < c.bands.length := by omega
      simp only [go_sem, hb, hg2, hg3, hb1, hg4, hg5, hg6, Bd.v, Bd.cs, List.length_map]
      refine cF g2 6 (by simp only [go_sem, frz, Rg.v]) ?_
      simp only [go_sem, h3]
      exact ih (i + 1, _) (by dsimp only; omega) h1 _ (by simp [go_sem])
  · have h2 : ¬ (i : Int) < c.bands.length := by omega
    simp only [go_sem, h2, Ct.v, Ct.cs, List.length_map]

theorem rCheckSchedule_run (l : List Ht) (hl : LsOK l) : Ans Try.prog n_ref03_CheckSchedule [.view (l.map Ht.v)] [] (.int .i64 0) [] := by
  have hlen := hl.len
  have hsum := hl.sum
  have k1 : ¬ (40 : Int) < l.length := by omega
  have k2 : ¬ (20000 : Int) < lenOfL l := by omega
  refine spec_run e_ref03_CheckSchedule fun G => ?_
  simp only [go_sem, k1, List.length_map]
  refine loop_ind k_ref03_CheckSchedule_r10.eq_1 (fun a : Nat × Heap => a.1 ≤ l.length) (fun a => l.length - a.1)
    (fun a => (tsets 45 [(0, .view (l.map Ht.v)), (2, .int .i64 0), (3, .int .i64 (lenOfL (l.take a.1))), (4, .int .i64 a.1)], a.2)) (0, []) (Nat.zero_le _) (by simp [go_sem, lenOfL]) rfl ?_
  rintro ⟨i, X⟩ hi ih
  dsimp only at hi ih ⊢
  by_cases h1 : i < l.length
  · have h2 : (i : Int) < l.length := by omega
    have n0 : ¬ (i : Int) < 0 := by omega
    have hx : l[i]? = some l[i] := List.getElem?_eq_getElem h1
    have h3 := idx_next h1 (by omega)
    have hz := hl.all _ (List.getElem_mem h1)
    have hs := lenOfL_succ hx
    have hr := lenOfL_take hl.all (i + 1)
    have hr0 := lenOfL_take hl.all i
    generalize l[i] = z at *
    have h4 : IntKind.i64.wrap (lenOfL (l.take i) + z.ticks) = lenOfL (l.take (i + 1)) := by rw [w64 (by omega)]; omega
    simp only [go_sem, hx, h2, n0, Ht.v, Ht.cs, List.length_map]
    refine cP (beyond_no hz.ticks) ?_
    simp only [go_sem, hx, h2, n0, Ht.v, Ht.cs, List.length_map]
    refine cP (beyond_no hz.heat) ?_
    simp only [go_sem, hx, h2, n0, Ht.v, Ht.cs, List.length_map]
    refine cP (beyond_no hz.cur) ?_
    simp only [go_sem, hx, h2, n0, Ht.v, Ht.cs, List.length_map, h4]
    simp only [h3]
    exact ih (i + 1, _) (by dsimp only; omega) h1 _ (by simp [go_sem])
  · have h2 : ¬ (i : Int) < l.length := by omega
    rw [List.take_of_length_le (by omega)]
    simp only [go_sem, h2, k2, List.length_map]

theorem rfresh_run (c : Ct) : Ans Try.prog n_ref03_fresh [c.v (.view (c.bands.map Bd.v))] [] (fresh c).v [] := by
  refine spec_run e_ref03_fresh fun G => ?_
  simp only [go_sem, Ct.v, Ct.cs, Cg.v, Cg.cs, fresh]

set_option maxRecDepth 4000 in
set_option maxHeartbeats 4000000 in
theorem rtick_run (c : Ct) (hc : CtOK c) (x : Cg) (hx : CgB x) (heat cur : Int) (hh : 0 ≤ heat ∧ heat ≤ 2000) (hcur : 0 ≤ cur ∧ cur ≤ 1000) :
    Ans Try.prog n_ref03_tick [c.v (.view (c.bands.map Bd.v)), x.v, .int .i64 heat, .int .i64 cur] [] (after c x heat cur).v [] := by
  have hm := rHeat_run c hc x.heat heat hx.heat hh
  have hmi := moved_in hx.heat hh hc.slew.1
  have hr := rBand_run c hc (moved x.heat heat c.slew) cur hmi.1 hcur
  have hb := ratesAt_ok hc hmi.1 hcur
  unfold after
  generalize moved x.heat heat c.slew = h at *
  generalize ratesAt c h cur = b at *
  have b1 := hb.conv.b (by decide); have b2 := hb.red.b (by decide); have b3 := hb.evap.b (by decide); have b4 := hb.sint.b (by decide)
  have x1 := hx.carb; have x2 := hx.ox; have x3 := hx.ba; have x4 := hx.lost; have x5 := hx.wear
  have d1 := rDown_run x.carb.lo b.conv.lo x1.lo b1.lo
  have u1 := rUp_run x.carb.hi b.conv.hi x1.hi b1.hi
  have u2 := rUp_run x.carb.lo b.conv.hi x1.lo b1.hi
  have d2 := rDown_run x.carb.hi b.conv.lo x1.hi b1.lo
  have u3 := rUp_run x.ox.lo b.red.hi x2.lo b2.hi
  have d3 := rDown_run x.ox.hi b.red.lo x2.hi b2.lo
  have u4 := rUp_run x.ba.lo b.evap.hi x3.lo b3.hi
  have d4 := rDown_run x.ox.lo b.red.lo x2.lo b2.lo
  have d5 := rDown_run x.ba.hi b.evap.lo x3.hi b3.lo
  have u5 := rUp_run x.ox.hi b.red.hi x2.hi b2.hi
  have d6 := rDown_run x.ba.lo b.evap.lo x3.lo b3.lo
  have u6 := rUp_run x.ba.hi b.evap.hi x3.hi b3.hi
  have i1 := dn_in x1.lo.1 b1.lo.1 b1.lo.2
  have i2 := up_in x1.hi.1 b1.hi.1 b1.hi.2
  have i3 := up_in x1.lo.1 b1.hi.1 b1.hi.2
  have i4 := dn_in x1.hi.1 b1.lo.1 b1.lo.2
  have i5 := up_in x2.lo.1 b2.hi.1 b2.hi.2
  have i6 := dn_in x2.hi.1 b2.lo.1 b2.lo.2
  have i7 := up_in x3.lo.1 b3.hi.1 b3.hi.2
  have i8 := dn_in x2.lo.1 b2.lo.1 b2.lo.2
  have i9 := dn_in x3.hi.1 b3.lo.1 b3.lo.2
  have i10 := up_in x2.hi.1 b2.hi.1 b2.hi.2
  have i11 := dn_in x3.lo.1 b3.lo.1 b3.lo.2
  have i12 := up_in x3.hi.1 b3.hi.1 b3.hi.2
  have q1 := x1.lo; have q2 := x1.hi; have q3 := x2.lo; have q4 := x2.hi; have q5 := x3.lo; have q6 := x3.hi; have q7 := x4.lo; have q8 := x4.hi; have q9 := b4.lo; have q10 := b4.hi
  have e1 : IntKind.i64.wrap (x.carb.lo - up x.carb.lo b.conv.hi) = x.carb.lo - up x.carb.lo b.conv.hi := w64 (by omega)
  have e2 : IntKind.i64.wrap (x.carb.hi - dn x.carb.hi b.conv.lo) = x.carb.hi - dn x.carb.hi b.conv.lo := w64 (by omega)
  have e3 : IntKind.i64.wrap (x.ox.lo - up x.ox.lo b.red.hi) = x.ox.lo - up x.ox.lo b.red.hi := w64 (by omega)
  have e4 : IntKind.i64.wrap (x.ox.lo - up x.ox.lo b.red.hi + dn x.carb.lo b.conv.lo) = x.ox.lo - up x.ox.lo b.red.hi + dn x.carb.lo b.conv.lo := w64 (by omega)
  have e5 : IntKind.i64.wrap (x.ox.hi - dn x.ox.hi b.red.lo) = x.ox.hi - dn x.ox.hi b.red.lo := w64 (by omega)
  have e6 : IntKind.i64.wrap (x.ox.hi - dn x.ox.hi b.red.lo + up x.carb.hi b.conv.hi) = x.ox.hi - dn x.ox.hi b.red.lo + up x.carb.hi b.conv.hi := w64 (by omega)
  have e7 : IntKind.i64.wrap (x.ba.lo - up x.ba.lo b.evap.hi) = x.ba.lo - up x.ba.lo b.evap.hi := w64 (by omega)
  have e8 : IntKind.i64.wrap (x.ba.lo - up x.ba.lo b.evap.hi + dn x.ox.lo b.red.lo) = x.ba.lo - up x.ba.lo b.evap.hi + dn x.ox.lo b.red.lo := w64 (by omega)
  have e9 : IntKind.i64.wrap (x.ba.hi - dn x.ba.hi b.evap.lo) = x.ba.hi - dn x.ba.hi b.evap.lo := w64 (by omega)
  have e10 : IntKind.i64.wrap (x.ba.hi - dn x.ba.hi b.evap.lo + up x.ox.hi b.red.hi) = x.ba.hi - dn x.ba.hi b.evap.lo + up x.ox.hi b.red.hi := w64 (by omega)
  have e11 : IntKind.i64.wrap (x.lost.lo + dn x.ba.lo b.evap.lo) = x.lost.lo + dn x.ba.lo b.evap.lo := w64 (by omega)
  have e12 : IntKind.i64.wrap (x.lost.hi + up x.ba.hi b.evap.hi) = x.lost.hi + up x.ba.hi b.evap.hi := w64 (by omega)
  have e13 : IntKind.i64.wrap (x.wear.lo + b.sint.lo) = x.wear.lo + b.sint.lo := w64 (by omega)
  have e14 : IntKind.i64.wrap (x.wear.hi + b.sint.hi) = x.wear.hi + b.sint.hi := w64 (by omega)
  refine spec_run e_ref03_tick fun G => ?_
  simp only [go_sem, Ct.v, Ct.cs, Cg.v, Cg.cs]
  refine cP hm ?_
  simp only [go_sem]
  refine cP hr ?_ (hr := by simp only [go_sem, Bd.v, Bd.cs])
  simp only [go_sem, Bd.v, Bd.cs]
  refine cP d1 ?_
  simp only [go_sem]
  refine cP u1 ?_
  simp only [go_sem]
  refine dP u2 ?_
  simp only [go_sem, e1]
  refine dP d2 ?_
  simp only [go_sem, e2]
  refine dP u3 ?_
  simp only [go_sem, e3, e4]
  refine dP d3 ?_
  simp only [go_sem, e5, e6]
  refine dP u4 ?_
  simp only [go_sem, e7]
  refine dP d4 ?_
  simp only [go_sem, e8]
  refine dP d5 ?_
  simp only [go_sem, e9]
  refine dP u5 ?_
  simp only [go_sem, e10]
  refine dP d6 ?_
  simp only [go_sem, e11]
  refine dP u6 ?_
  simp only [go_sem, e12, e13, e14]
  simp only [afterB, cut, mi, remains, sumR, parts]
  rfl
end Go.Proofs

namespace Go.Proofs
open Go Go.Sx
attribute [local irreducible] Run

def coatsX (c : Ct) : Cg → List Ht → List Cg
  | x, [] => [x]
  | x, z :: a => x :: coatsX c (after c x z.heat z.cur) a
def coats (c : Ct) (a : List Ht) : List Cg := coatsX c (fresh c) a
theorem coatsX_len (c : Ct) : ∀ (a : List Ht) (x : Cg), (coatsX c x a).length = a.length + 1
  | [], _ => rfl
  | z :: a, x => by simp [coatsX, coatsX_len c a]
theorem coatsX_get (c : Ct) : ∀ (a : List Ht) (x : Cg) (p : Nat), p ≤ a.length → (coatsX c x a)[p]? = some ((a.take p).foldl (fun x z => after c x z.heat z.cur) x)
  | [], x, p, hp => by obtain rfl : p = 0 := by simpa using hp
                       rfl
  | z :: a, x, 0, _ => rfl
  | z :: a, x, p + 1, hp => by
    simp only [coatsX, List.getElem?_cons_succ, List.take_succ_cons, List.foldl_cons]
    exact coatsX_get c a _ p (by simpa using hp)
theorem coats_len (c : Ct) (a : List Ht) : (coats c a).length = a.length + 1 := coatsX_len c a _
theorem coats_get {c : Ct} {a : List Ht} {p : Nat} (hp : p ≤ a.length) : (coats c a)[p]? = some (coatOf c (a.take p)) := coatsX_get c a _ p hp
theorem coatsX_snoc (c : Ct) : ∀ (a : List Ht) (x : Cg) (z : Ht), coatsX c x (a ++ [z]) = coatsX c x a ++ [after c (a.foldl (fun x z => after c x z.heat z.cur) x) z.heat z.cur]
  | [], _, _ => rfl
  | y :: a, x, z => by simp [coatsX, coatsX_snoc c a]
theorem coats_snoc (c : Ct) (a : List Ht) (z : Ht) : coats c (a ++ [z]) = coats c a ++ [coatOf c (a ++ [z])] := by
  rw [coatOf_snoc]; exact coatsX_snoc c a _ z
theorem follow_get {c : Ct} : ∀ {l : List Ht} {i : Nat}, i < l.length → (follow c l)[i]? = some (coatOf c (flat (l.take (i + 1)))) := by
  intro l i hi
  have hx : l[i]? = some l[i] := List.getElem?_eq_getElem hi
  have e : l = l.take (i + 1) ++ l.drop (i + 1) := (List.take_append_drop _ _).symm
  unfold follow
  rw [e, followX_app, followX_succ hx]
  rw [List.getElem?_append_left (by simp [followX_len]; omega), List.getElem?_append_right (by rw [followX_len, List.length_take]; omega)]
  rw [followX_len, List.length_take, Nat.min_eq_left (by omega), Nat.sub_self]
  have he := endX_succ (c := c) hx (fresh c)
  rw [← he, endX_flat, ← e]; rfl

def tksT (i : Int) (k : Nat) (l : List Ht) : List (Nat × AVal) := [(1, .view (l.map Ht.v)), (2, .ptr 0 0 0 1), (4, .nilsl), (5, .sl 1 0 k), (6, .int .i64 i)]
def tksH (c : Ct) (b : Bool) (xs : List Cg) (X : Heap) : Heap := some (.cells false 7 [c.v (.view (c.bands.map Bd.v))]) :: some (.cells b 13 (xs.map Cg.v)) :: X

set_option maxHeartbeats 4000000 in
theorem rticks_run (c : Ct) (hc : CtOK c) (l : List Ht) (hl : LsOK l) : AnsE Try.prog n_ref03_ticks [c.v (.view (c.bands.map Bd.v)), .view (l.map Ht.v)] [] (fun _ : Bool => True) (fun _ => .sl 0 0 (coats c (flat l)).length) (fun b => [some (.cells b 13 ((coats c (flat l)).map Cg.v))]) := by
  have hlen := hl.len
  have hsum := hl.sum
  have hfl := flat_len hl.all
  refine AnsE.keep (run_fn e_ref03_ticks fun G => ?_) (fun a ha => ⟨by simp, by simp [go_sem], by rw [row_bel_cells]; simp only [go_sem], trivial⟩)
  simp only [go_sem, Ct.v, Ct.cs]
  refine cP (rfresh_run c) ?_ (hr := by simp only [go_sem, Cg.v, Cg.cs])
  simp only [go_sem, Cg.v, Cg.cs]
  refine loop_ind k_ref03_ticks_r10.eq_1 (fun a : Nat × Bool × Heap => a.1 ≤ l.length) (fun a => l.length - a.1)
    (fun a => (tsets 48 (tksT a.1 (coats c (flat (l.take a.1))).length l), tksH c a.2.1 (coats c (flat (l.take a.1))) a.2.2)) (0, false, []) (Nat.zero_le _) (by simp [go_sem, tksT, flat, coats, coatsX]) rfl ?_
  rintro ⟨i, b, X⟩ hi ih
  dsimp only at hi ih ⊢
  by_cases h1 : i < l.length
  · have h2 : (i : Int) < l.length := by omega
    have n0 : ¬ (i : Int) < 0 := by omega
    have hx : l[i]? = some l[i] := List.getElem?_eq_getElem h1
    have hz := hl.all _ (List.getElem_mem h1)
    have hs := flat_succ hx
    have h3 := idx_next h1 (by omega)
    have hfi := flat_len (l := l.take i) fun x hx => hl.all x (List.mem_of_mem_take hx)
    have hr0 := lenOfL_take hl.all i
    generalize l[i] = z at *
    have hzt := hz.ticks
    simp only [go_sem, tksT, tksH, h2, List.length_map]
    refine loop_ind k_ref03_ticks_r8.eq_1 (fun a : Nat × Bool × Heap => a.1 ≤ z.ticks.toNat) (fun a => z.ticks.toNat - a.1)
      (fun a => (tsets 48 (tksT i (coats c (flat (l.take i) ++ List.replicate a.1 z)).length l ++ [(7, .int .i64 a.1)]), tksH c a.2.1 (coats c (flat (l.take i) ++ List.replicate a.1 z)) a.2.2)) (0, b, X) (Nat.zero_le _) (by simp [go_sem, tksT]) (by simp [tksH]) ?_
    rintro ⟨t, b', Y⟩ ht ih2
    dsimp only at ht ih2 ⊢
    by_cases h4 : t < z.ticks.toNat
    · have h5 : (t : Int) < z.ticks := by omega
      have h6 := idx_next h4 (by omega)
      have hall0 : ∀ y ∈ flat (l.take i) ++ List.replicate t z, HtOK y := fun y hy => by
        rcases List.mem_append.1 hy with hy | hy
        · exact hl.all _ (List.mem_of_mem_take (flat_mem hy))
        · rw [List.mem_replicate] at hy; rw [hy.2]; exact hz
      have hal : (flat (l.take i) ++ List.replicate t z).length = (flat (l.take i)).length + t := by simp
      have hg := coatOf_good hc hall0 (by omega)
      have htk := rtick_run c hc _ (hg.ok.b hc.amount.2) z.heat z.cur hz.heat hz.cur
      have hsn : coats c (flat (l.take i) ++ List.replicate (t + 1) z) = coats c (flat (l.take i) ++ List.replicate t z) ++ [after c (coatOf c (flat (l.take i) ++ List.replicate t z)) z.heat z.cur] := by
        rw [List.replicate_succ', ← List.append_assoc, coats_snoc, coatOf_snoc]
      have hget := coats_get (c := c) (Nat.le_refl (flat (l.take i) ++ List.replicate t z).length)
      have hcl := coats_len c (flat (l.take i) ++ List.replicate t z)
      rw [List.take_length] at hget
      have hih := fun b hb hib ρ' => ih2 (t + 1, b) hb hib ρ'
      simp only [hsn] at hih
      clear ih2
      generalize after c (coatOf c (flat (l.take i) ++ List.replicate t z)) z.heat z.cur = n at *
      generalize coatOf c (flat (l.take i) ++ List.replicate t z) = y at *
      generalize (flat (l.take i) ++ List.replicate t z).length = p at *
      generalize coats c (flat (l.take i) ++ List.replicate t z) = xs at *
      have g1 : IntKind.i64.wrap ((xs.length : Int) - 1) = (p : Int) := by rw [w64 (by omega)]; omega
      have g2 : ¬ (p : Int) < 0 := by omega
      have g3 : (p : Int) < xs.length := by omega
      have g4 : (xs.length + 1) * 104 ≤ 2 ^ 44 := by omega
      have esn := cg_snoc xs n
      simp only [go_sem, tksT, tksH, hx, h2, n0, h5, Ht.v, Ht.cs, Ct.v, Ct.cs, List.length_map, g1, g2, g3, hget, Cg.v, Cg.cs]
      refine dP htk ?_ (hr := by simp only [go_sem, Cg.v, Cg.cs])
      simp only [go_sem, Cg.v, Cg.cs, g4, List.length_map]
      simp only [h6, esn]
      refine hih (true, _) (by omega) h4 _ ?_
      simp [go_sem, tksT]
    · have h5 : ¬ (t : Int) < z.ticks := by omega
      have hte : t = z.ticks.toNat := by omega
      simp only [go_sem, tksT, tksH, hx, h2, n0, h5, Ht.v, Ht.cs, h3, List.length_map]
      rw [hte, ← hs]
      exact ih (i + 1, b', Y) (by dsimp only; omega) h1 _ (by simp [go_sem, tksT])
  · have h2 : ¬ (i : Int) < l.length := by omega
    rw [List.take_of_length_le (by omega)]
    simp only [go_sem, tksT, tksH, h2, List.length_map]
    exact ⟨b, kept_one 1 rfl (by rw [row_bel_cells]; simp only [go_sem]) rfl⟩

theorem flat_take (l : List Ht) (i : Nat) : (flat l).take (flat (l.take i)).length = flat (l.take i) := by
  conv => lhs; rw [← List.take_append_drop i l]
  rw [flat_app]
  have e : (List.take i l ++ List.drop i l).take i = l.take i := by rw [List.take_append_drop]
  rw [e, List.take_left]
theorem flat_len_le (l : List Ht) (i : Nat) : (flat (l.take i)).length ≤ (flat l).length := by
  conv => rhs; rw [← List.take_append_drop i l, flat_app, List.length_append]
  exact Nat.le_add_right _ _
theorem follow_snoc {c : Ct} {l : List Ht} {i : Nat} (hi : i < l.length) : follow c (l.take (i + 1)) = follow c (l.take i) ++ [coatOf c (flat (l.take (i + 1)))] := by
  have hx : l[i]? = some l[i] := List.getElem?_eq_getElem hi
  unfold follow
  rw [followX_succ hx, ← endX_succ hx, endX_flat]

set_option maxHeartbeats 4000000 in
theorem rFollow_run (c : Ct) (hc : CtOK c) (l : List Ht) (hl : LsOK l) (h0 : l ≠ []) : Ans Try.prog n_ref03_Follow [c.v (.view (c.bands.map Bd.v)), .view (l.map Ht.v)] [] (.tup [.sl 0 0 l.length, .int .i64 0]) [some (CgR (follow c l))] := by
  have hlen := hl.len
  have hsum := hl.sum
  have hlp : 0 < l.length := List.length_pos_iff.2 h0
  have hfl := flat_len hl.all
  have hcl := coats_len c (flat l)
  have hgo : ∀ i, i < l.length → (coats c (flat l))[(flat (l.take (i + 1))).length]? = some (coatOf c (flat (l.take (i + 1)))) := fun i hi => by
    have := coats_get (c := c) (a := flat l) (flat_len_le l (i + 1))
    rwa [flat_take] at this
  have hat : ∀ i, i ≤ l.length → ((flat (l.take i)).length : Int) = lenOfL (l.take i) := fun i hi => flat_len fun x hx => hl.all x (List.mem_of_mem_take hx)
  refine Ans.keep (run_fn e_ref03_Follow fun G => ?_) (Nat.zero_le _) (by simp [go_sem]) ⟨by simp only [go_sem], trivial⟩
  simp only [go_sem, Ct.v, Ct.cs]
  refine cP (rCheck_run c hc) ?_
  simp only [go_sem]
  refine cP (rCheckSchedule_run l hl) ?_
  simp only [go_sem, Ct.v, Ct.cs]
  refine cN1E (rticks_run c hc l hl) (fun a ha => ⟨by rw [bel_sl], by rw [row_bel_cells]; simp only [go_sem]⟩) ?_
  rintro b -
  simp only [go_sem, ren, rens]
  -- the first heating
  have hx : l[0]? = some l[0] := List.getElem?_eq_getElem hlp
  have hz := hl.all _ (List.getElem_mem hlp)
  have hs := lenOfL_succ hx
  have hr := lenOfL_take hl.all 1
  have hg := hgo 0 hlp
  have ha := hat 1 hlp
  have hfs := follow_snoc (c := c) hlp
  generalize l[0] = z at *
  have h2 : (0 : Int) < l.length := by omega
  have hzt := hz.ticks
  have p44 : 104 ≤ 2 ^ 44 := by decide
  have w1 : IntKind.i64.wrap 1 = 1 := rfl
  simp only [Nat.zero_add] at hg ha hfs hs
  rw [show lenOfL (l.take 0) = 0 from rfl] at hs
  have e1 : IntKind.i64.wrap (0 + z.ticks) = ((flat (l.take 1)).length : Int) := by rw [w64 (by omega)]; omega
  have l1 := flat_len_le l 1
  have n1 : ¬ ((flat (l.take 1)).length : Int) < 0 := by omega
  have n2 : ((flat (l.take 1)).length : Int) < (coats c (flat l)).length := by omega
  have q44 : ∀ n : Nat, n ≤ 40 → (n + 1) * 104 ≤ 2 ^ 44 := fun n hn => by omega
  generalize hy : coatOf c (flat (l.take 1)) = y at *
  generalize coats c (flat l) = xs at *
  refine loop_body 200 k_ref03_Follow_r15.eq_1 ?_
  simp only [go_sem, hx, h2, Ht.v, Ht.cs, List.length_map, e1, n1, n2, hg, Int.toNat_natCast, Cg.v, Cg.cs, p44, w1]
  simp only [cg_single]
  refine loop_ind k_ref03_Follow_r15.eq_1 (fun a : Nat × Heap => 1 ≤ a.1 ∧ a.1 ≤ l.length) (fun a => l.length - a.1)
    (fun a => (tsets 46 [(1, .view (l.map Ht.v)), (2, .ptr 0 0 0 1), (4, .nilsl), (5, .int .i64 0), (8, .sl 1 0 xs.length), (9, .sl 3 0 a.1), (10, .int .i64 (flat (l.take a.1)).length), (11, .int .i64 a.1)],
      some (.cells false 7 [c.v (.view (c.bands.map Bd.v))]) :: some (.cells b 13 (xs.map Cg.v)) :: some (.cells false 13 ([y].map Cg.v)) :: some (.cells true 13 ((follow c (l.take a.1)).map Cg.v)) :: a.2))
    (1, []) ⟨Nat.le_refl 1, hlp⟩ (by simp [go_sem]) (by simp [hfs, Ct.v, Ct.cs, show follow c ([] : List Ht) = [] from rfl]) ?_
  rintro ⟨i, X⟩ ⟨hi1, hi⟩ ih
  dsimp only at hi1 hi ih ⊢
  have hfx : (follow c (l.take i)).length = i := by unfold follow; rw [followX_len, List.length_take]; omega
  by_cases h1 : i < l.length
  · have h2' : (i : Int) < l.length := by omega
    have n0 : ¬ (i : Int) < 0 := by omega
    have hx' : l[i]? = some l[i] := List.getElem?_eq_getElem h1
    have hz' := hl.all _ (List.getElem_mem h1)
    have hs' := lenOfL_succ hx'
    have hr' := lenOfL_take hl.all (i + 1)
    have hg' := hgo i h1
    have ha' := hat (i + 1) h1
    have ha0 := hat i (by omega)
    have hfs' := follow_snoc (c := c) h1
    have l1' := flat_len_le l (i + 1)
    generalize l[i] = z' at *
    have hzt' := hz'.ticks
    have h3 := idx_next h1 (by omega)
    have e1' : IntKind.i64.wrap ((flat (l.take i)).length + z'.ticks) = ((flat (l.take (i + 1))).length : Int) := by rw [w64 (by omega)]; omega
    have n1' : ¬ ((flat (l.take (i + 1))).length : Int) < 0 := by omega
    have n2' : ((flat (l.take (i + 1))).length : Int) < xs.length := by omega
    have q := q44 i (by omega)
    generalize coatOf c (flat (l.take (i + 1))) = y' at *
    have esn := cg_snoc (follow c (l.take i)) y'
    simp only [go_sem, hx', h2', n0, Ht.v, Ht.cs, List.length_map, e1', n1', n2', hg', hfx, Int.toNat_natCast, Cg.v, Cg.cs, q]
    simp only [h3, esn, ← hfs']
    exact ih (i + 1, _) (by dsimp only; omega) ⟨by dsimp only; omega, h1⟩ _ (by simp [go_sem])
  · have h2' : ¬ (i : Int) < l.length := by omega
    have hil : i = l.length := by omega
    simp only [go_sem, h2', List.length_map]
    rw [hil, List.take_length]
    exact kept_one 3 rfl (by simp only [go_sem]) rfl
end Go.Proofs

namespace Go.Proofs
open Go Go.Sx
attribute [local irreducible] Run

structure Dm where
  gas : Int
  wear : Int
  lost : Int
  rest : Int
  ba : Int
  deriving Inhabited, DecidableEq
def Dm.cs (d : Dm) : List AVal := [.int .i64 d.gas, .int .i64 d.wear, .int .i64 d.lost, .int .i64 d.rest, .int .i64 d.ba]
def Dm.v (d : Dm) : AVal := .agg d.cs
@[go_sem] theorem dm_bel (x : Dm) (S : Nat → Prop) : Bel S x.v = True := by unfold Dm.v Dm.cs; simp only [go_sem]
@[go_sem] theorem dm_nv (x : Dm) : NV x.v = True := by unfold Dm.v Dm.cs; simp only [go_sem]
structure DmOK (d : Dm) : Prop where
  gas : 0 ≤ d.gas ∧ d.gas ≤ 1099511627776
  wear : 0 ≤ d.wear ∧ d.wear ≤ 1099511627776
  lost : 0 ≤ d.lost ∧ d.lost ≤ 1099511627776
  rest : 0 ≤ d.rest ∧ d.rest ≤ 1099511627776
  ba : 0 ≤ d.ba ∧ d.ba ≤ 1000000000

theorem in_run (w : Int) (r : Rg) {m : Int} (h : RgIn r m) (hm : m ≤ 1099511627776) : Ans Try.prog n_kit_Dice_In [.ptr 0 0 0 1, r.v] [some (Dr w)] (.int .i64 (btw w r.lo r.hi)) [some (Dr (dstep w))] := by
  obtain ⟨a, b, c⟩ := h
  have hb := between_ok w r.lo r.hi (by omega) b (by omega)
  refine spec_run e_kit_Dice_In fun G => ?_
  simp only [go_sem, Rg.v]
  by_cases h1 : r.lo < r.hi
  · simp only [h1, if_true]
    refine cD hb ?_
    simp only [go_sem]
    exact ⟨_, rfl⟩
  · have e : r.hi = r.lo := by omega
    rw [e] at hb ⊢
    simp only [h1, if_false, Int.lt_irrefl]
    refine cD hb ?_
    simp only [go_sem]
    exact ⟨_, rfl⟩

def sel5v (q a b c d e : Int) : Int := if q = 0 then a else if q = 1 then b else if q = 2 then c else if q = 3 then d else e
theorem sel5v_ok (q a b c d e : Int) (h : 0 ≤ q ∧ q < 5) : [AVal.int .i64 a, .int .i64 b, .int .i64 c, .int .i64 d, .int .i64 e][q.toNat]? = some (.int .i64 (sel5v q a b c d e)) := by
  obtain rfl | rfl | rfl | rfl | rfl : q = 0 ∨ q = 1 ∨ q = 2 ∨ q = 3 ∨ q = 4 := by omega
  all_goals rfl
def sel4v (q a b c d : Int) : Int := if q = 0 then a else if q = 1 then b else if q = 2 then c else d
theorem sel4v_ok (q a b c d : Int) (h : 0 ≤ q ∧ q < 4) : [AVal.int .i64 a, .int .i64 b, .int .i64 c, .int .i64 d][q.toNat]? = some (.int .i64 (sel4v q a b c d)) := by
  obtain rfl | rfl | rfl | rfl : q = 0 ∨ q = 1 ∨ q = 2 ∨ q = 3 := by omega
  all_goals rfl

def mxv (a b : Int) : Int := if b > a then b else a
def nearV (w : Int) (r : Rg) : Int := sel5v (upto (dstep w) 5) r.lo r.hi (btw w r.lo r.hi) (mxv 0 (r.lo - 1)) 1099511627776
theorem nearV_in {w : Int} {r : Rg} {m : Int} (h : RgIn r m) (hm : m ≤ 1099511627776) : 0 ≤ nearV w r ∧ nearV w r ≤ 1099511627776 := by
  obtain ⟨a, b, c⟩ := h
  have hb := btw_in (w := w) b
  unfold nearV sel5v mxv
  generalize btw w r.lo r.hi = q at *
  constructor <;> (repeat' split) <;> omega
theorem near_run (w : Int) (r : Rg) {m : Int} (h : RgIn r m) (hm : m ≤ 1099511627776) : Ans Try.prog n_kit_near [.ptr 0 0 0 1, r.v] [some (Dr w)] (.int .i64 (nearV w r)) [some (Dr (dstep (dstep w)))] := by
  have hi := in_run w r h hm
  obtain ⟨a, b, c⟩ := h
  have hq := upto_in (w := dstep w) (n := 5) (by decide)
  have e1 : IntKind.i64.wrap (r.lo - 1) = r.lo - 1 := w64 (by omega)
  have hs := sel5v_ok (upto (dstep w) 5) r.lo r.hi (btw w r.lo r.hi) (mxv 0 (r.lo - 1)) 1099511627776 hq
  have n1 : ¬ upto (dstep w) 5 < 0 := by omega
  have n2 : upto (dstep w) 5 < 5 := hq.2
  have hu := upto_ok (dstep w) 5 (by decide)
  unfold nearV
  have hmx : (if r.lo - 1 > 0 then r.lo - 1 else 0) = mxv 0 (r.lo - 1) := rfl
  generalize mxv 0 (r.lo - 1) = y at *
  generalize upto (dstep w) 5 = q at *
  refine spec_run e_kit_near fun G => ?_
  simp only [go_sem, Rg.v]
  refine dD hi ?_
  simp only [go_sem, e1, hmx]
  refine dD hu ?_
  simp only [go_sem, n1, n2, hs]
  exact ⟨_, rfl⟩

theorem rFollow_nil (c : Ct) (hc : CtOK c) : Ans Try.prog n_ref03_Follow [c.v (.view (c.bands.map Bd.v)), .view []] [] (.tup [.nilsl, .int .i64 0]) [] := by
  have hl : LsOK [] := ⟨by simp, fun h hh => by simp at hh, by simp [lenOfL]⟩
  have hcs : Ans Try.prog n_ref03_CheckSchedule [.view []] [] (.int .i64 0) [] := rCheckSchedule_run [] hl
  have ht := rticks_run c hc [] hl
  refine spec_run e_ref03_Follow fun G => ?_
  simp only [go_sem, Ct.v, Ct.cs]
  refine cP (rCheck_run c hc) ?_
  simp only [go_sem]
  refine cP hcs ?_
  simp only [go_sem, Ct.v, Ct.cs]
  refine cN1E ht (fun a ha => ⟨by rw [bel_sl], by rw [row_bel_cells]; simp only [go_sem]⟩) ?_
  rintro b -
  simp only [go_sem, ren, rens]
  refine loop_body 200 k_ref03_Follow_r15.eq_1 ?_
  simp only [go_sem]
end Go.Proofs

namespace Go.Proofs
open Go Go.Sx
attribute [local irreducible] Run

def amV (r : Rg) (m : Int) : Int := if r.hi ≤ m then 1 else if m < r.lo then 2 else 3
def alV (r : Rg) (m : Int) : Int := if m ≤ r.lo then 1 else if r.hi < m then 2 else 3
theorem atMost_run (r : Rg) (m : Int) : Ans Try.prog n_cathode_atMost [r.v, .int .i64 m] [] (.int .i64 (amV r m)) [] := by
  unfold amV
  refine spec_run e_cathode_atMost fun G => ?_
  by_cases h1 : r.hi ≤ m
  · simp only [go_sem, Rg.v, h1]
  · by_cases h2 : m < r.lo
    · simp only [go_sem, Rg.v, h1, h2]
    · simp only [go_sem, Rg.v, h1, h2]
theorem atLeast_run (r : Rg) (m : Int) : Ans Try.prog n_cathode_atLeast [r.v, .int .i64 m] [] (.int .i64 (alV r m)) [] := by
  unfold alV
  refine spec_run e_cathode_atLeast fun G => ?_
  by_cases h1 : m ≤ r.lo
  · simp only [go_sem, Rg.v, h1]
  · by_cases h2 : r.hi < m
    · simp only [go_sem, Rg.v, h1, h2]
    · simp only [go_sem, Rg.v, h1, h2]

theorem look1_run (x : Cg) (d : Dm) : Ans Try.prog n_cathode_looksOf_1 [x.v, .rptr d.v 0] [] (.int .i64 (amV x.gas d.gas)) [] := by
  refine spec_run e_cathode_looksOf_1 fun G => ?_
  simp only [go_sem, Cg.v, Cg.cs, Dm.v, Dm.cs]
  refine cP (atMost_run x.gas d.gas) ?_
  simp only [go_sem]
theorem look2_run (x : Cg) (d : Dm) : Ans Try.prog n_cathode_looksOf_2 [x.v, .rptr d.v 0] [] (.int .i64 (amV x.wear d.wear)) [] := by
  refine spec_run e_cathode_looksOf_2 fun G => ?_
  simp only [go_sem, Cg.v, Cg.cs, Dm.v, Dm.cs]
  refine cP (atMost_run x.wear d.wear) ?_
  simp only [go_sem]
theorem look3_run (x : Cg) (d : Dm) : Ans Try.prog n_cathode_looksOf_3 [x.v, .rptr d.v 0] [] (.int .i64 (amV x.lost d.lost)) [] := by
  refine spec_run e_cathode_looksOf_3 fun G => ?_
  simp only [go_sem, Cg.v, Cg.cs, Dm.v, Dm.cs]
  refine cP (atMost_run x.lost d.lost) ?_
  simp only [go_sem]
theorem look4_run (x : Cg) (d : Dm) : Ans Try.prog n_cathode_looksOf_4 [x.v, .rptr d.v 0] [] (.int .i64 (amV x.carb d.rest)) [] := by
  refine spec_run e_cathode_looksOf_4 fun G => ?_
  simp only [go_sem, Cg.v, Cg.cs, Dm.v, Dm.cs]
  refine cP (atMost_run x.carb d.rest) ?_
  simp only [go_sem]
theorem look5_run (x : Cg) (d : Dm) : Ans Try.prog n_cathode_looksOf_5 [x.v, .rptr d.v 0] [] (.int .i64 (alV x.ba d.ba)) [] := by
  refine spec_run e_cathode_looksOf_5 fun G => ?_
  simp only [go_sem, Cg.v, Cg.cs, Dm.v, Dm.cs]
  refine cP (atLeast_run x.ba d.ba) ?_
  simp only [go_sem]

def worst : Int → List Int → Int
  | a, [] => a
  | a, v :: vs => if v = 2 then 2 else worst (if v = 3 then 3 else a) vs
def fnv (p : Nat × List AVal × Int) : AVal := .fn (.func p.1) [] p.2.1

theorem looksAll_run (x : Cg) (ps : List (Nat × List AVal × Int)) (hl : ps.length ≤ 100) (hps : ∀ p ∈ ps, Ans Try.prog p.1 (x.v :: p.2.1) [] (.int .i64 p.2.2) [] ∧ Bels (fun _ => False) p.2.1) :
    Ans Try.prog n_cathode_looks_all [.view (ps.map fnv), x.v] [] (.int .i64 (worst 1 (ps.map (·.2.2)))) [] := by
  generalize hW : worst 1 (ps.map (·.2.2)) = W
  refine spec_run e_cathode_looks_all fun G => ?_
  simp only [go_sem, Cg.v, Cg.cs, List.length_map]
  refine loop_ind k_cathode_looks_all_r11.eq_1 (fun a : Nat × Int × Heap => a.1 ≤ ps.length ∧ worst a.2.1 ((ps.drop a.1).map (·.2.2)) = W) (fun a => ps.length - a.1)
    (fun a => (tsets 23 [(3, .ptr 0 0 0 1), (5, .int .i64 a.2.1), (8, .view (ps.map fnv)), (9, .int .i64 ps.length), (10, .int .i64 a.1)], some (.cells false 13 [x.v]) :: a.2.2)) (0, 1, []) ⟨Nat.zero_le _, hW⟩ (by simp [go_sem]) rfl ?_
  rintro ⟨i, a, X⟩ ⟨hi, hw⟩ ih
  dsimp only at hi hw ih ⊢
  by_cases h1 : i < ps.length
  · have h2 : (i : Int) < ps.length := by omega
    have n0 : ¬ (i : Int) < 0 := by omega
    have hx : ps[i]? = some ps[i] := List.getElem?_eq_getElem h1
    have hd : ps.drop i = ps[i] :: ps.drop (i + 1) := List.drop_eq_getElem_cons h1
    have h3 := idx_next h1 (by omega)
    obtain ⟨hp, hb⟩ := hps _ (List.getElem_mem h1)
    rw [hd] at hw
    generalize ps[i] = p at *
    obtain ⟨g, cs, v⟩ := p
    simp only [List.map_cons, worst] at hw
    dsimp only at hp hb
    simp only [go_sem, hx, h2, n0, fnv, Cg.v, Cg.cs, List.length_map]
    refine cP hp ?_ ⟨by simp only [go_sem], hb⟩
    by_cases v2 : v = 2
    · subst v2
      simp only [if_true] at hw
      simp only [go_sem, hw]
    · by_cases v3 : v = 3
      · subst v3
        simp only [if_true, if_neg (show ¬ (3 : Int) = 2 by decide)] at hw
        simp only [go_sem, h3]
        exact ih (i + 1, 3, _) (by dsimp only; omega) ⟨h1, hw⟩ _ (by simp [go_sem])
      · have b2 : (v == 2) = false := by simp [v2]
        have b3 : (v == 3) = false := by simp [v3]
        rw [if_neg v2, if_neg v3] at hw
        simp only [go_sem, b2, b3, h3]
        exact ih (i + 1, a, _) (by dsimp only; omega) ⟨h1, hw⟩ _ (by simp [go_sem])
  · have h2 : ¬ (i : Int) < ps.length := by omega
    rw [List.drop_of_length_le (by omega)] at hw
    simp only [List.map_nil, worst] at hw
    simp only [go_sem, h2, List.length_map, hw]

def eachV (d : Dm) (x : Cg) : Int := worst 1 [amV x.gas d.gas, amV x.wear d.wear, amV x.lost d.lost]
def lastV (d : Dm) (x : Cg) : Int := worst 1 [amV x.carb d.rest, alV x.ba d.ba]
def eachF (c : AVal) : List AVal := [.fn (.func n_cathode_looksOf_1) [] [c], .fn (.func n_cathode_looksOf_2) [] [c], .fn (.func n_cathode_looksOf_3) [] [c]]
def lastF (c : AVal) : List AVal := [.fn (.func n_cathode_looksOf_4) [] [c], .fn (.func n_cathode_looksOf_5) [] [c]]
theorem each_run (d : Dm) (x : Cg) : Ans Try.prog n_cathode_looks_all [.view (eachF (.rptr d.v 0)), x.v] [] (.int .i64 (eachV d x)) [] := by
  refine looksAll_run x [(n_cathode_looksOf_1, [.rptr d.v 0], amV x.gas d.gas), (n_cathode_looksOf_2, [.rptr d.v 0], amV x.wear d.wear), (n_cathode_looksOf_3, [.rptr d.v 0], amV x.lost d.lost)] (by simp) ?_
  intro p hp
  simp only [List.mem_cons, List.not_mem_nil, or_false] at hp
  rcases hp with rfl | rfl | rfl
  · exact ⟨look1_run x d, by simp only [go_sem]⟩
  · exact ⟨look2_run x d, by simp only [go_sem]⟩
  · exact ⟨look3_run x d, by simp only [go_sem]⟩
theorem last_run (d : Dm) (x : Cg) : Ans Try.prog n_cathode_looks_all [.view (lastF (.rptr d.v 0)), x.v] [] (.int .i64 (lastV d x)) [] := by
  refine looksAll_run x [(n_cathode_looksOf_4, [.rptr d.v 0], amV x.carb d.rest), (n_cathode_looksOf_5, [.rptr d.v 0], alV x.ba d.ba)] (by simp) ?_
  intro p hp
  simp only [List.mem_cons, List.not_mem_nil, or_false] at hp
  rcases hp with rfl | rfl
  · exact ⟨look4_run x d, by simp only [go_sem]⟩
  · exact ⟨look5_run x d, by simp only [go_sem]⟩

theorem amV_in (r : Rg) (m : Int) : amV r m = 1 ∨ amV r m = 2 ∨ amV r m = 3 := by unfold amV; split <;> (try split) <;> simp
theorem alV_in (r : Rg) (m : Int) : alV r m = 1 ∨ alV r m = 2 ∨ alV r m = 3 := by unfold alV; split <;> (try split) <;> simp
theorem worst_in : ∀ (l : List Int) (a : Int), (a = 1 ∨ a = 2 ∨ a = 3) → worst a l = 1 ∨ worst a l = 2 ∨ worst a l = 3
  | [], a, h => h
  | v :: l, a, h => by
    unfold worst
    have h' : (if v = 3 then 3 else a) = 1 ∨ (if v = 3 then 3 else a) = 2 ∨ (if v = 3 then 3 else a) = 3 := by split <;> omega
    split
    · simp
    · exact worst_in l _ h'
end Go.Proofs

namespace Go.Proofs
open Go Go.Sx
attribute [local irreducible] Run

theorem ticks_run (l : List Ht) : Ans Try.prog n_cathode_ticks [.view (l.map Ht.v)] [] (.fn (.func n_cathode_ticks_1) [] [.ptr 0 0 0 1]) [some (.cells false 1 [.view (l.map Ht.v)])] := by
  refine spec_run e_cathode_ticks fun G => ?_
  simp only [go_sem]
  exact ⟨_, rfl⟩

structure TickBody (G : Ctx) (l : List Ht) (r j N : Nat) (Pre : Nat → Heap → Prop) (Stop : Heap → Prop) : Prop where
  row : ∀ i H, Pre i H → N ≤ H.length ∧ H[j]? = some (some (.cells false 1 [.view (l.map Ht.v)]))
  grow : ∀ i H x, Pre i H → Pre i (H ++ [x])
  round : ∀ i z H, (flat l)[i]? = some z → Pre i H → RoundW Try.prog G r [.int .i64 ((i : Int) + 1), z.v] H fun v H' =>
    (H.length ≤ H'.length ∧ ∀ q, N ≤ q → q < H.length → H'[q]? = H[q]?) ∧ ((v = .bool true ∧ Pre (i + 1) H') ∨ (v = .bool false ∧ Stop H'))

set_option maxHeartbeats 1000000 in
theorem ticks1_iter {G : Ctx} {l : List Ht} (hl : LsOK l) {r j N : Nat} {Pre : Nat → Heap → Prop} {Stop : Heap → Prop} (hB : TickBody G l r j N Pre Stop) {H0 : Heap} (h0 : Pre 0 H0) :
    CallW Try.prog G n_cathode_ticks_1 [.yfn r, .ptr j 0 0 1] H0 fun v H' => v = .tup [] ∧ (Pre (flat l).length H' ∨ Stop H') := by
  have hlen := hl.len
  have hsum := hl.sum
  obtain ⟨hN0, hj0⟩ := hB.row 0 H0 h0
  have hfl := flat_len hl.all
  refine callW_run 3000 e_cathode_ticks_1 ?_
  simp only [go_sem, cells_at hj0]
  refine loop_ind k_cathode_ticks_1_r11.eq_1 (fun a : Nat × Heap => a.1 ≤ l.length ∧ H0.length ≤ a.2.length ∧ Pre (flat (l.take a.1)).length a.2) (fun a => l.length - a.1)
    (fun a => (tsets 25 [(0, .yfn r), (1, .ptr j 0 0 1), (3, .int .i64 (flat (l.take a.1)).length), (6, .view (l.map Ht.v)), (7, .int .i64 l.length), (8, .int .i64 a.1)], a.2)) (0, H0) ⟨Nat.zero_le _, Nat.le_refl _, h0⟩ (by simp [go_sem, flat]) rfl ?_
  rintro ⟨i, H⟩ ⟨hi, hH0, hp⟩ ih
  dsimp only at hi hH0 hp ih ⊢
  by_cases h1 : i < l.length
  · have h2 : (i : Int) < l.length := by omega
    have n0 : ¬ (i : Int) < 0 := by omega
    have hx : l[i]? = some l[i] := List.getElem?_eq_getElem h1
    have hz := hl.all _ (List.getElem_mem h1)
    have hs := flat_succ hx
    have hlt := fun t => flat_at (t := t) hx
    have h3 := idx_next h1 (by omega)
    have hfi := flat_len (l := l.take i) fun x hx => hl.all x (List.mem_of_mem_take hx)
    have hr0 := lenOfL_take hl.all i
    have hr1 := lenOfL_take hl.all (i + 1)
    have hls := lenOfL_succ hx
    generalize l[i] = z at *
    have hzt := hz.ticks
    simp only [go_sem, h2, n0, hx, cells_end, get_end, put_at_end, Ht.v, Ht.cs]
    refine loop_ind k_cathode_ticks_1_r9.eq_1 (fun a : Nat × Heap => a.1 ≤ z.ticks.toNat ∧ H0.length ≤ a.2.length ∧ a.2[H.length]? = some (some (.cells false 3 [z.v])) ∧ Pre ((flat (l.take i)).length + a.1) a.2) (fun a => z.ticks.toNat - a.1)
      (fun a => (tsets 25 [(0, .yfn r), (1, .ptr j 0 0 1), (3, .int .i64 ((flat (l.take i)).length + a.1)), (5, .ptr H.length 0 0 1), (6, .view (l.map Ht.v)), (7, .int .i64 l.length), (8, .int .i64 i), (13, .int .i64 z.ticks), (14, .int .i64 a.1)], a.2))
      (0, _) ⟨Nat.zero_le _, by simp; omega, get_end _ _, hB.grow _ _ _ hp⟩ (by simp [go_sem]) rfl ?_
    rintro ⟨t, J⟩ ⟨ht, hJ0, hJz, hpj⟩ ih2
    dsimp only at ht hJ0 hJz hpj ih2 ⊢
    by_cases h4 : t < z.ticks.toNat
    · have h5 : (t : Int) < z.ticks := by omega
      have h6 := idx_next h4 (by omega)
      obtain ⟨f1, f2⟩ := hlt t h4
      have w1 : IntKind.i64.wrap ((flat (l.take i)).length + (t : Int) + 1) = (flat (l.take i)).length + (t : Int) + 1 := w64 (by omega)
      have hrd := hB.round _ z J f1 hpj
      have hNj := (hB.row _ J hpj).1
      simp only [go_sem, h5, w1, cells_at hJz, Ht.v, Ht.cs]
      refine yieldR _ rfl rfl (by simp [go_sem]) (by simp [go_sem]) hJ0 ?_
      simp only [Ht.v, Ht.cs] at hrd
      push_cast at hrd
      refine hrd.mono ?_
      rintro v J' ⟨⟨q1, q2⟩, ⟨rfl, q3⟩ | ⟨rfl, q3⟩⟩
      · refine ⟨fun q hq => by simp at hq, ?_⟩
        simp only [go_sem, h6]
        refine ih2 (t + 1, J') (by dsimp only; omega) ⟨h4, by dsimp only; omega, ?_, q3⟩ _ (by simp [go_sem]; omega)
        dsimp only
        rw [q2 H.length (hB.row _ H hp).1 (List.getElem?_eq_some_iff.1 hJz).1]; exact hJz
      · refine ⟨fun q hq => by simp at hq, ?_⟩
        simp only [go_sem]
        exact .inr q3
    · have h5 : ¬ (t : Int) < z.ticks := by omega
      have hte : t = z.ticks.toNat := by omega
      simp only [go_sem, h5, h3]
      refine ih (i + 1, J) (by dsimp only; omega) ⟨h1, hJ0, by dsimp only; rw [hs]; simpa [hte] using hpj⟩ _ ?_
      rw [hs]
      simp [go_sem, hte]
  · have h2 : ¬ (i : Int) < l.length := by omega
    simp only [go_sem, h2]
    rw [List.take_of_length_le (by omega)] at hp
    exact .inl hp
end Go.Proofs

namespace Go.Proofs
open Go Go.Sx
attribute [local irreducible] Run

end Go.Proofs

namespace Go.Proofs
open Go Go.Sx
attribute [local irreducible] Run

end Go.Proofs

namespace Go.Proofs
open Go Go.Sx
attribute [local irreducible] Run

def noted (st : Int × Int) (s n : Int) : Int × Int := if s = 2 then (s, n) else if s = 3 ∧ st.1 = 1 then (s, n) else st
theorem note_run (s n v t : Int) : Ans Try.prog n_cathode_judge_1 [.int .i64 s, .int .i64 n, .ptr 0 0 0 1, .ptr 1 0 0 1] [some (.cells false 1 [.int .i64 v]), some (.cells false 1 [.int .i64 t])] (.bool (s == 2))
    [some (.cells false 1 [.int .i64 (noted (v, t) s n).1]), some (.cells false 1 [.int .i64 (noted (v, t) s n).2])] := by
  unfold noted
  refine spec_run e_cathode_judge_1 fun G => ?_
  by_cases h2 : s = 2
  · subst h2
    simp only [go_sem]
    exact ⟨_, rfl⟩
  · have b2 : (s == 2) = false := by simp [h2]
    by_cases h3 : s = 3
    · subst h3
      by_cases h1 : v = 1
      · subst h1
        simp only [go_sem]
        exact ⟨_, rfl⟩
      · have b1 : (v == 1) = false := by simp [h1]
        simp only [go_sem, b1, h1]
        exact ⟨_, rfl⟩
    · have b3 : (s == 3) = false := by simp [h3]
      simp only [go_sem, b2, b3, h2, h3]
      exact ⟨_, rfl⟩

def jgo (last : Int) : Nat → Int × Int → List Int → Int × Int
  | n, st, [] => noted st last n
  | n, st, e :: es => if e = 2 then noted st e ((n + 1 : Nat) : Int) else jgo last (n + 1) (noted st e ((n + 1 : Nat) : Int)) es
def saids (c : Ct) (d : Dm) (a : List Ht) : List Int := (List.range a.length).map fun p => eachV d (coatOf c (a.take (p + 1)))
def judgeV (c : Ct) (d : Dm) (l : List Ht) : Int × Int := jgo (lastV d (coatOf c (flat l))) 0 (1, 0) (saids c d (flat l))

theorem looksOf_run (d : Dm) : Ans Try.prog n_cathode_looksOf [d.v] [] (.tup [.sl 1 0 3, .sl 2 0 2]) [some (.cells false 5 [d.v]), some (.cells false 1 (eachF (.ptr 0 0 0 1))), some (.cells false 1 (lastF (.ptr 0 0 0 1)))] := by
  refine spec_run e_cathode_looksOf fun G => ?_
  simp only [go_sem, Dm.v, Dm.cs, eachF, lastF]
  exact ⟨_, rfl⟩


theorem saids_len (c : Ct) (d : Dm) (a : List Ht) : (saids c d a).length = a.length := by simp [saids]
theorem saids_drop {c : Ct} {d : Dm} {a : List Ht} {i : Nat} (hi : i < a.length) : (saids c d a).drop i = eachV d (coatOf c (a.take (i + 1))) :: (saids c d a).drop (i + 1) := by
  rw [List.drop_eq_getElem_cons (by rw [saids_len]; exact hi)]
  simp [saids]

def jT : List (Nat × AVal) := [(3, .ptr 0 0 0 1), (4, .ptr 1 0 0 1), (6, .ptr 2 0 0 1), (7, .ptr 3 0 0 1), (8, .ptr 7 0 0 1), (9, .sl 6 0 2), (10, .ptr 8 0 0 1), (11, .ptr 9 0 0 1), (12, .ptr 10 0 0 1), (24, .fn (.func n_cathode_ticks_1) [] [.ptr 11 0 0 1])]
def jL (st : LoopState) (pe : Option ACode) : Row := .loop (tsets 51 jT) [25, 26] k_cathode_judge_r11 k_cathode_judge_r12 12 st pe
def jH (c : Ct) (d : Dm) (l : List Ht) (v t : Int) (x : Cg) (n : Int) (lr : Row) (X : Heap) : Heap :=
  [some (.cells false 7 [c.v (.view (c.bands.map Bd.v))]), some (.cells false 5 [d.v]), some (.cells false 1 [.int .i64 v]), some (.cells false 1 [.int .i64 t]), some (.cells false 5 [d.v]), some (.cells false 1 (eachF (.ptr 4 0 0 1))), some (.cells false 1 (lastF (.ptr 4 0 0 1))), some (.cells false 1 [.sl 5 0 3]),
    some (.cells false 1 [.fn (.func n_cathode_judge_1) [] [.ptr 2 0 0 1, .ptr 3 0 0 1]]), some (.cells false 13 [x.v]), some (.cells false 1 [.int .i64 n]), some (.cells false 1 [.view (l.map Ht.v)]), some .dfr, some lr] ++ X

set_option maxHeartbeats 4000000 in
set_option maxRecDepth 4000 in
theorem judge_run (c : Ct) (hc : CtOK c) (d : Dm) (l : List Ht) (hl : LsOK l) : Ans Try.prog n_cathode_judge [c.v (.view (c.bands.map Bd.v)), d.v, .view (l.map Ht.v)] [] (.tup [.int .i64 (judgeV c d l).1, .int .i64 (judgeV c d l).2]) [] := by
  unfold judgeV
  have hlen := hl.len
  have hsum := hl.sum
  have hfl := flat_len hl.all
  have hlo := looksOf_run d
  generalize hRES : jgo (lastV d (coatOf c (flat l))) 0 (1, 0) (saids c d (flat l)) = RES
  refine spec_run e_cathode_judge fun G => ?_
  simp only [go_sem, Ct.v, Ct.cs, Dm.v, Dm.cs]
  refine callS hlo [] (by simp) trivial (by simp [Dm.v, Dm.cs, ren, rens]) (by simp only [go_sem]) trivial (by simp) (by simp [go_sem]) ⟨by rw [row_bel_cells]; simp only [go_sem], by rw [row_bel_cells]; simp [go_sem, eachF], by rw [row_bel_cells]; simp [go_sem, lastF], trivial⟩ (by simp) (by simp) (by simp) ?_
  simp only [go_sem, outΔ, outσ, ren, rens, Row.ren, eachF, lastF, Dm.v, Dm.cs]
  refine cP (fresh_run c) ?_ (hr := by simp only [go_sem, Cg.v, Cg.cs])
  simp only [go_sem, Cg.v, Cg.cs]
  refine cN1 (ticks_run l) ?_
  simp only [go_sem, ren, rens]
  refine rangeF 2000 (ρ := tsets 51 jT) (by simp [go_sem, jT]) (by simp only [go_sem, jT]; rfl)
    (ticks1_iter (r := 13) (j := 11) (N := 14) hl (Pre := fun i H => ∃ v t X, (v = 1 ∨ v = 3) ∧ jgo (lastV d (coatOf c (flat l))) i (v, t) ((saids c d (flat l)).drop i) = RES ∧ H = jH c d l v t (coatOf c ((flat l).take i)) i (jL .ready none) X)
      (Stop := fun H => ∃ x n X, H = jH c d l RES.1 RES.2 x n (jL .done (some .ret)) X)
      ⟨?_, ?_, ?_⟩ ⟨1, 0, [], .inl rfl, hRES, rfl⟩) (by simp) ?_
  · rintro i H ⟨v, t, X, hv, hj, rfl⟩
    exact ⟨by simp [jH], rfl⟩
  · rintro i H x ⟨v, t, X, hv, hj, rfl⟩
    exact ⟨v, t, X ++ [x], hv, hj, by simp [jH]⟩
  · rintro i z H hz ⟨v, t, X, hv, hj, rfl⟩
    have hil := (List.getElem?_eq_some_iff.1 hz).1
    have htk : (flat l).take (i + 1) = (flat l).take i ++ [z] := by rw [List.take_add_one, hz]; rfl
    have hzz := hl.all _ (flat_mem (List.mem_of_getElem? hz))
    have hall0 : ∀ y ∈ (flat l).take i, HtOK y := fun y hy => hl.all _ (flat_mem (List.mem_of_mem_take hy))
    have hg := coatOf_good hc hall0 (by simp; omega)
    have ha := after_run c hc _ (hg.ok.b hc.amount.2) z.heat z.cur hzz.heat hzz.cur
    rw [saids_drop hil] at hj
    rw [htk, coatOf_snoc] at hj ⊢
    generalize hcn : after c (coatOf c ((flat l).take i)) z.heat z.cur = y at *
    generalize coatOf c ((flat l).take i) = x at *
    have hE := each_run d y
    have hev : eachV d y = 1 ∨ eachV d y = 2 ∨ eachV d y = 3 := worst_in _ _ (by simp)
    generalize eachV d y = s at *
    have hN := note_run s ((i : Int) + 1) v t
    have hfz : frz 6 (Heap.onlyR (jH c d l v t y ((i : Int) + 1) (jL .busy none) (X ++ [some (.cells false 3 [z.v])])) [5, 4]) (.sl 5 0 3) = .view (eachF (.rptr d.v 0)) := by
      rfl
    generalize hnv : noted (v, t) s ((i : Int) + 1) = nt at *
    refine RoundW.mono (R := fun v' H' => ∃ Y, v' = .bool (!(s == 2)) ∧ H' = jH c d l nt.1 nt.2 y ((i : Int) + 1) (if s = 2 then jL .done (some .ret) else jL .ready none) (X ++ Y)) ?_ ?_
    rotate_left
    · rintro v' H' ⟨Y, rfl, rfl⟩
      refine ⟨tail_kept rfl rfl, ?_⟩
      by_cases hs : s = 2
      · right
        rw [hs] at hj hnv
        simp only [jgo, if_true] at hj
        rw [← hnv]
        refine ⟨by simp [hs], y, ((i : Int) + 1), X ++ Y, ?_⟩
        rw [← hj, if_pos hs]; rfl
      · left
        simp only [jgo, if_neg hs] at hj
        push_cast at hj
        rw [hnv] at hj
        refine ⟨by simp [hs], nt.1, nt.2, X ++ Y, ?_, hj, by rw [if_neg hs]; rfl⟩
        rw [← hnv]
        unfold noted
        rw [if_neg hs]
        split
        · rename_i h; right; exact h.1
        · exact hv
    generalize hR : (fun (v' : AVal) (H' : Heap) => ∃ Y, v' = .bool (!(s == 2)) ∧ H' = jH c d l nt.1 nt.2 y ((i : Int) + 1) (if s = 2 then jL .done (some .ret) else jL .ready none) (X ++ Y)) = R
    have hfin : ∀ Y, R (.bool (!(s == 2))) (jH c d l nt.1 nt.2 y ((i : Int) + 1) (if s = 2 then jL .done (some .ret) else jL .ready none) (X ++ Y)) := fun Y => by rw [← hR]; exact ⟨Y, rfl, rfl⟩
    clear hR hj
    refine roundW_run 500 k_cathode_judge_r11.eq_1 rfl rfl (ρ' := tsets 51 (jT ++ [(25, .int .i64 ((i : Int) + 1)), (26, z.v)])) rfl ?_
    simp only [go_sem, jT, jH, Ht.v, Ht.cs]
    refine roundMid_run 500 k_cathode_judge_r12.eq_1 rfl rfl ?_
    simp only [go_sem, Ct.v, Ct.cs, Cg.v, Cg.cs]
    refine cP ha ?_ (hr := by simp only [go_sem, Cg.v, Cg.cs])
    simp only [go_sem, Cg.v, Cg.cs]
    refine dF hE 6 [5, 4] ⟨.inl rfl, .inl rfl, trivial⟩ ?_
    simp only [go_sem]
    refine cS2 hN (j0 := 2) (j1 := 3) rfl ⟨.int _ _, .int _ _, by rw [bel_ptr]; decide, by rw [bel_ptr]; decide, trivial⟩ rfl rfl (by rw [row_bel_cells]; simp only [go_sem]) (by rw [row_bel_cells]; simp only [go_sem]) (by rw [row_bel_cells]; simp only [go_sem]) (by rw [row_bel_cells]; simp only [go_sem]) (by decide) (.bool _) (by simp) (by simp) ?_
    simp only [go_sem, hnv]
    refine ⟨fun hs => ?_, fun hs => ?_⟩
    · have b2 : (s == 2) = true := by simp [hs]
      have hfin' := fun Y => hfin Y
      simp only [b2, if_pos hs] at hfin'
      refine roundEnd_ret rfl ?_
      simp only [go_sem]
      exact hfin' [_]
    · have b2 : (s == 2) = false := by simp [hs]
      have hfin' := fun Y => hfin Y
      simp only [b2, if_neg hs] at hfin'
      refine roundEnd_on rfl ?_
      simp only [go_sem]
      exact hfin' [_]
  · rintro v' H' ⟨rfl, ⟨v, t, X, hv, hj, rfl⟩ | ⟨x, n, X, rfl⟩⟩
    · refine ⟨fun q hq => by simp at hq; subst hq; rfl, _, _, _, _, _, _, _, rfl, by decide, ?_⟩
      rw [List.drop_of_length_le (by rw [saids_len]; exact Nat.le_refl _)] at hj
      rw [List.take_length]
      generalize coatOf c (flat l) = x at *
      have hE := last_run d x
      generalize lastV d x = s at *
      have hN := note_run s (flat l).length v t
      simp only [jgo] at hj
      rw [hj] at hN
      simp only [go_sem, jH, jT, tsets, Cg.v, Cg.cs]
      refine dF hE 6 [6, 4] ⟨.inl rfl, .inl rfl, trivial⟩ ?_
      simp only [go_sem]
      refine cS2 hN (j0 := 2) (j1 := 3) rfl ⟨.int _ _, .int _ _, by rw [bel_ptr]; decide, by rw [bel_ptr]; decide, trivial⟩ rfl rfl (by rw [row_bel_cells]; simp only [go_sem]) (by rw [row_bel_cells]; simp only [go_sem]) (by rw [row_bel_cells]; simp only [go_sem]) (by rw [row_bel_cells]; simp only [go_sem]) (by decide) (.bool _) (by simp) (by simp) ?_
      simp only [go_sem]
      simp
    · refine ⟨fun q hq => by simp at hq; subst hq; rfl, _, _, _, _, _, _, _, rfl, by decide, ?_⟩
      simp only [go_sem, jH, jT, tsets]
      simp

theorem checkDemand_run (c : Ct) (hc : CtOK c) (d : Dm) (hd : DmOK d) : Ans Try.prog n_cathode_checkDemand [c.v (.view (c.bands.map Bd.v)), d.v] [] (.int .i64 0) [] := by
  have h1 := hd.gas; have h2 := hd.wear; have h3 := hd.lost; have h4 := hd.rest; have h5 := hd.ba
  have u1 : IntKind.i64.wrap 1 = 1 := rfl
  have u2 : IntKind.i64.wrap 2 = 2 := rfl
  have u3 : IntKind.i64.wrap 3 = 3 := rfl
  have u4 : IntKind.i64.wrap 4 = 4 := rfl
  have u5 : IntKind.i64.wrap 5 = 5 := rfl
  refine spec_run e_cathode_checkDemand fun G => ?_
  simp only [go_sem, Ct.v, Ct.cs, Dm.v, Dm.cs]
  refine cP (Check_run c hc) ?_
  simp only [go_sem]
  refine loop_body 200 k_cathode_checkDemand_r10.eq_1 ?_
  simp only [go_sem]
  refine cP (within_yes h1) ?_
  simp only [go_sem, u1]
  refine loop_body 200 k_cathode_checkDemand_r10.eq_1 ?_
  simp only [go_sem]
  refine cP (within_yes h2) ?_
  simp only [go_sem, u2]
  refine loop_body 200 k_cathode_checkDemand_r10.eq_1 ?_
  simp only [go_sem]
  refine cP (within_yes h3) ?_
  simp only [go_sem, u3]
  refine loop_body 200 k_cathode_checkDemand_r10.eq_1 ?_
  simp only [go_sem]
  refine cP (within_yes h4) ?_
  simp only [go_sem, u4]
  refine loop_body 200 k_cathode_checkDemand_r10.eq_1 ?_
  simp only [go_sem]
  refine cP (within_yes ⟨h5.1, by omega⟩) ?_
  simp only [go_sem, u5]
  refine loop_body 200 k_cathode_checkDemand_r10.eq_1 ?_
  simp only [go_sem]

end Go.Proofs

namespace Go.Proofs
open Go Go.Sx
attribute [local irreducible] Run

def ivs (l : List Int) : List AVal := l.map fun n => .int .i64 n
theorem ivs_len (l : List Int) : (ivs l).length = l.length := List.length_map _

theorem Backward_run (g : Bool) (sz : Nat) (es : List AVal) (n : Nat) (hb : (Row.cells g sz es).bel (fun _ => False)) : Ans Try.prog n_slices_Backward_int_int [.sl 0 0 n] [some (.cells g sz es)] (.fn (.func n_slices_Backward_int_int_1) [] [.ptr 1 0 0 1]) [some (.cells g sz es), some (.cells false 1 [.sl 0 0 n])] := by
  refine spec_run e_slices_Backward_int_int fun G => ?_
  simp only [go_sem]
  exact ⟨_, rfl⟩

structure BackBody (G : Ctx) (n r j q : Nat) (val : Nat → Int) (Pre : Nat → Heap → Prop) (Stop : Heap → Prop) : Prop where
  row : ∀ i H, Pre i H → H[j]? = some (some (.cells false 1 [.sl q 0 n])) ∧ ∃ es, H[q]? = some (some (.cells false 1 es)) ∧ (i < n → es[n - 1 - i]? = some (.int .i64 (val i)))
  round : ∀ i H, i < n → Pre i H → RoundW Try.prog G r [.int .i64 ((n : Int) - 1 - i), .int .i64 (val i)] H fun v H' =>
    H.length ≤ H'.length ∧ ((v = .bool true ∧ Pre (i + 1) H') ∨ (v = .bool false ∧ Stop H'))

set_option maxHeartbeats 1000000 in
theorem back_iter {G : Ctx} {n r j q : Nat} {val : Nat → Int} {Pre : Nat → Heap → Prop} {Stop : Heap → Prop} (hn : 0 < n) (hn2 : n ≤ 1000) (hB : BackBody G n r j q val Pre Stop) {H0 : Heap} (h0 : Pre 0 H0) :
    CallW Try.prog G n_slices_Backward_int_int_1 [.yfn r, .ptr j 0 0 1] H0 fun v H' => v = .tup [] ∧ (Pre n H' ∨ Stop H') := by
  obtain ⟨hj0, es0, hq0, -⟩ := hB.row 0 H0 h0
  have w1 : IntKind.i64.wrap ((n : Int) - 1) = (n : Int) - 1 := w64 (by omega)
  refine callW_run 3000 e_slices_Backward_int_int_1 ?_
  simp only [go_sem, cells_at hj0, cells_at hq0, w1]
  refine loop_ind k_slices_Backward_int_int_1_r4.eq_1 (fun a : Nat × Heap => a.1 ≤ n ∧ H0.length ≤ a.2.length ∧ Pre a.1 a.2) (fun a => n - a.1)
    (fun a => (tsets 19 [(0, .yfn r), (1, .ptr j 0 0 1), (3, .int .i64 ((n : Int) - 1 - a.1))], a.2)) (0, H0) ⟨Nat.zero_le _, Nat.le_refl _, h0⟩ (by simp [go_sem]) rfl ?_
  rintro ⟨i, H⟩ ⟨hi, hH0, hp⟩ ih
  dsimp only at hi hH0 hp ih ⊢
  obtain ⟨hj, es, hq, he⟩ := hB.row i H hp
  by_cases h1 : i < n
  · have h2 : (n : Int) - 1 - i ≥ 0 := by omega
    have h3 : ¬ (n : Int) - 1 - i < 0 := by omega
    have h4 : (n : Int) - 1 - i < n := by omega
    have h5 : ((n : Int) - 1 - i).toNat = n - 1 - i := by omega
    have h6 : IntKind.i64.wrap ((n : Int) - 1 - i - 1) = (n : Int) - 1 - (i + 1 : Nat) := by rw [w64 (by omega)]; omega
    have he' := he h1
    have hrd := hB.round i H h1 hp
    simp only [go_sem, cells_at hj, cells_at hq, h2, h3, h4, h5, he']
    refine yieldR _ rfl rfl (by simp [go_sem]) (by simp [go_sem]) hH0 ?_
    refine hrd.mono ?_
    rintro v H' ⟨q1, ⟨rfl, q3⟩ | ⟨rfl, q3⟩⟩
    · refine ⟨fun q hq => by simp at hq, ?_⟩
      simp only [go_sem, h6]
      exact ih (i + 1, H') (by dsimp only; omega) ⟨h1, by dsimp only; omega, q3⟩ _ (by simp [go_sem])
    · refine ⟨fun q hq => by simp at hq, ?_⟩
      simp only [go_sem]
      exact .inr q3
  · have h2 : ¬ (n : Int) - 1 - i ≥ 0 := by omega
    have h3 : i = n := by omega
    simp only [go_sem, h2]
    exact .inl (h3 ▸ hp)

def advR (c : Int) : List Int → List Int × Bool
  | [] => ([], false)
  | d :: r => if d + 1 < c then ((d + 1) :: r, true) else (0 :: (advR c r).1, (advR c r).2)
def advT (n : Nat) : List (Nat × AVal) := [(0, .sl 0 0 n), (2, .ptr 1 0 0 1), (3, .ptr 2 0 0 1), (4, .ptr 3 0 0 1), (8, .fn (.func n_slices_Backward_int_int_1) [] [.ptr 4 0 0 1])]
def advL (n : Nat) (st : LoopState) (pe : Option ACode) : Row := .loop (tsets 24 (advT n)) [9, 10] k_cathode_advance_r8 k_cathode_advance_r9 5 st pe
def advH (c : Int) (n : Nat) (l : List Int) (b : Bool) (lr : Row) : Heap :=
  [some (.cells false 1 (ivs l)), some (.cells false 1 [.sl 0 0 n]), some (.cells false 1 [.int .i64 c]), some (.cells false 1 [.bool b]), some (.cells false 1 [.sl 0 0 n]), some .dfr, some lr]

theorem ivs_get {l : List Int} {i : Nat} {x : Int} (h : l[i]? = some x) : (ivs l)[i]? = some (.int .i64 x) := by simp [ivs, h]
theorem ivs_set (l : List Int) (i : Nat) (x : Int) : (ivs l).set i (.int .i64 x) = ivs (l.set i x) := by simp [ivs, List.map_set]
theorem back_get {ds : List Int} {i : Nat} {x : Int} (h : ds[i]? = some x) (k : Nat) : ((ds.drop i).reverse ++ List.replicate k 0)[ds.length - 1 - i]? = some x := by
  obtain ⟨h1, h2⟩ := List.getElem?_eq_some_iff.1 h
  rw [List.getElem?_append_left (by simp; omega), List.getElem?_reverse (by simp; omega)]
  simp only [List.length_drop, List.getElem?_drop]
  rw [show i + (ds.length - i - 1 - (ds.length - 1 - i)) = i by omega]
  exact h
theorem back_set {ds : List Int} {i : Nat} {x : Int} (h : ds[i]? = some x) (k : Nat) (y : Int) : ((ds.drop i).reverse ++ List.replicate k 0).set (ds.length - 1 - i) y = (y :: ds.drop (i + 1)).reverse ++ List.replicate k 0 := by
  obtain ⟨h1, h2⟩ := List.getElem?_eq_some_iff.1 h
  rw [List.drop_eq_getElem_cons h1]
  simp only [List.reverse_cons, List.append_assoc, List.singleton_append]
  rw [List.set_append_right _ _ (by simp; omega)]
  rw [show ds.length - 1 - i - (ds.drop (i + 1)).reverse.length = 0 by simp; omega]
  rfl

theorem ivs_bel {S : Nat → Prop} (l : List Int) : Bels S (ivs l) := bels_map _ _ fun _ => .int _ _
theorem ivs_row {S : Nat → Prop} (g : Bool) (sz : Nat) (l : List Int) : (Row.cells g sz (ivs l)).bel S := by rw [row_bel_cells]; exact ivs_bel l

theorem rens_ivs (σ : Nat → Nat) : ∀ l : List Int, rens σ (ivs l) = ivs l
  | [] => rfl
  | x :: l => by
    have := rens_ivs σ l
    simp only [ivs, List.map_cons, rens, ren] at *
    rw [this]

set_option maxHeartbeats 1000000 in
theorem advance_run (c : Int) (hc : 0 < c ∧ c < 1000) (ds : List Int) (hds : ∀ d ∈ ds, 0 ≤ d ∧ d < 1000) (h0 : 0 < ds.length) (hl : ds.length ≤ 1000) :
    Ans Try.prog n_cathode_advance [.sl 0 0 ds.length, .int .i64 c] [some (.cells false 1 (ivs ds.reverse))] (.bool (advR c ds).2) [some (.cells false 1 (ivs (advR c ds).1.reverse))] := by
  generalize hRES : advR c ds = RES
  have hB := Backward_run false 1 (ivs ds.reverse) ds.length (ivs_row _ _ _)
  refine spec_run e_cathode_advance fun G => ?_
  simp only [go_sem]
  refine callS hB [0] (by simp) ⟨by rw [Row.ren_same (ivs_row _ _ _)]; rfl, trivial⟩ rfl ⟨by simp [go_sem], trivial⟩ ⟨ivs_row _ _ _, trivial⟩ (by simp) (by simp [go_sem]) ⟨ivs_row _ _ _, by rw [row_bel_cells]; simp [go_sem], trivial⟩ (by simp) (by simp) (by simp) ?_
  have en : nth [0] 0 = 0 := rfl
  simp only [go_sem, outΔ, outσ, ren, rens, Row.ren, rens_ivs, en]
  refine rangeF 2000 (ρ := tsets 24 (advT ds.length)) (by simp [go_sem, advT]) (by simp only [go_sem, advT]; rfl)
    (back_iter (r := 6) (j := 4) (q := 0) (val := fun i => ds.getD i 0) h0 hl (Pre := fun i H => i ≤ ds.length ∧ H = advH c ds.length ((ds.drop i).reverse ++ List.replicate i 0) false (advL ds.length .ready none) ∧ RES = (List.replicate i 0 ++ (advR c (ds.drop i)).1, (advR c (ds.drop i)).2))
      (Stop := fun H => H = advH c ds.length RES.1.reverse true (advL ds.length .done (some .ret)) ∧ RES.2 = true) ⟨?_, ?_⟩ ⟨Nat.zero_le _, by simp [advH]; rfl, by simp [hRES]⟩) (by simp) ?_
  · rintro i H ⟨hi, rfl, hR⟩
    refine ⟨rfl, _, rfl, fun h => ?_⟩
    have hx : ds[i]? = some ds[i] := List.getElem?_eq_getElem h
    rw [ivs_get (back_get hx i)]
    simp [hx]
  · rintro i H hi ⟨-, rfl, hR⟩
    have hx : ds[i]? = some ds[i] := List.getElem?_eq_getElem hi
    have hd := hds _ (List.getElem_mem hi)
    have hg : ds.getD i 0 = ds[i] := by simp [hx]
    rw [hg]
    have hdr : ds.drop i = ds[i] :: ds.drop (i + 1) := List.drop_eq_getElem_cons hi
    have hget := ivs_get (back_get hx i)
    have hset := fun y => ivs_set ((ds.drop i).reverse ++ List.replicate i 0) (ds.length - 1 - i) y
    have hset' := fun y => back_set hx i y
    have hb : ((ds.drop i).reverse ++ List.replicate i 0).length = ds.length := by simp; omega
    have w1 : IntKind.i64.wrap (ds[i] + 1) = ds[i] + 1 := w64 (by omega)
    have n1 : ¬ (ds.length : Int) - 1 - i < 0 := by omega
    have n2 : (ds.length : Int) - 1 - i < ds.length := by omega
    have n3 : ((ds.length : Int) - 1 - i).toNat = ds.length - 1 - i := by omega
    have hRx := hR
    rw [hdr] at hRx
    unfold advR at hRx
    generalize hL : (ds.drop i).reverse ++ List.replicate i 0 = L at *
    generalize ds[i] = x at *
    generalize hR' : (fun (v : AVal) (H' : Heap) => _) = R
    have hon : ¬ x + 1 < c → R (.bool true) (advH c ds.length (L.set (ds.length - 1 - i) 0) false (advL ds.length .ready none)) := fun h => by
      rw [← hR']
      refine ⟨by simp [advH], .inl ⟨rfl, hi, ?_, ?_⟩⟩
      · rw [hset']
        simp [List.replicate_succ]
      · rw [if_neg h] at hRx
        rw [hRx]
        simp [List.replicate_succ']
    have hst : x + 1 < c → R (.bool false) (advH c ds.length (L.set (ds.length - 1 - i) (x + 1)) true (advL ds.length .done (some .ret))) := fun h => by
      rw [← hR']
      rw [if_pos h] at hRx
      refine ⟨by simp [advH], .inr ⟨rfl, ?_, by rw [hRx]⟩⟩
      rw [hset', hRx]
      simp
    clear hR' hRx hR hset'
    refine roundW_run 500 k_cathode_advance_r8.eq_1 rfl rfl (ρ' := tsets 24 (advT ds.length ++ [(9, .int .i64 ((ds.length : Int) - 1 - i)), (10, .int .i64 x)])) rfl ?_
    simp only [go_sem, advT, advH]
    refine roundMid_run 500 k_cathode_advance_r9.eq_1 rfl rfl ?_
    simp only [go_sem, w1, n1, n2, n3, hget, hset]
    refine ⟨fun h => ?_, fun h => ?_⟩
    · refine roundEnd_ret rfl ?_
      simp only [go_sem]
      exact hst h
    · refine roundEnd_on rfl ?_
      simp only [go_sem]
      exact hon h
  · rintro v H' ⟨rfl, ⟨-, rfl, hR⟩ | ⟨rfl, hR⟩⟩
    · refine ⟨fun q hq => by simp at hq; subst hq; rfl, _, _, _, _, _, _, _, rfl, by decide, ?_⟩
      rw [List.drop_length, advR, List.append_nil] at hR
      simp only [go_sem, advH, advT, tsets, hR]
      simp
    · refine ⟨fun q hq => by simp at hq; subst hq; rfl, _, _, _, _, _, _, _, rfl, by decide, ?_⟩
      simp only [go_sem, advH, advT, tsets, hR]
      simp
end Go.Proofs

