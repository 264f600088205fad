/- Mixes: courses that are possible, and the bounds in which they lie. -/
import Derived.Test.YtigaafcllfjniaaYkCath
namespace Go.Proofs
open Go Go.Sx

structure Mx where
  carb : Int
  ox : Int
  ba : Int
  lost : Int
  deriving Inhabited, DecidableEq
def Mx.cs (m : Mx) : List AVal := [.int .i64 m.carb, .int .i64 m.ox, .int .i64 m.ba, .int .i64 m.lost]
def Mx.v (m : Mx) : AVal := .agg m.cs
@[go_sem] theorem mx_bel (x : Mx) (S : Nat → Prop) : Bel S x.v = True := by unfold Mx.v Mx.cs; simp only [go_sem]
@[go_sem] theorem mx_nv (x : Mx) : NV x.v = True := by unfold Mx.v Mx.cs; simp only [go_sem]
@[go_sem] theorem mxs_bel (l : List Mx) (S : Nat → Prop) : Bels S (l.map Mx.v) = True := eq_true (bels_map _ _ fun b => by simp only [go_sem])

/-- The ticks of a schedule, one by one. -/
def flat : List Ht → List Ht
  | [] => []
  | h :: l => List.replicate h.ticks.toNat h ++ flat l
theorem flat_app : ∀ a b : List Ht, flat (a ++ b) = flat a ++ flat b
  | [], b => rfl
  | h :: a, b => by simp [flat, flat_app a b]
theorem flat_succ {l : List Ht} {i : Nat} {h : Ht} (hi : l[i]? = some h) : flat (l.take (i + 1)) = flat (l.take i) ++ List.replicate h.ticks.toNat h := by
  rw [List.take_add_one, hi, flat_app]; simp [flat]
theorem flat_len : ∀ {l : List Ht}, (∀ x ∈ l, HtOK x) → ((flat l).length : Int) = lenOfL l
  | [], _ => rfl
  | h :: l, hl => by
    have h1 := (hl h (by simp)).ticks
    have h2 := flat_len (l := l) fun x hx => hl x (by simp [hx])
    simp only [flat, lenOfL, List.length_append, List.length_replicate]; omega
theorem flat_mem : ∀ {l : List Ht} {z : Ht}, z ∈ flat l → z ∈ l
  | [], _, h => by simp [flat] at h
  | h :: l, z, hz => by
    simp only [flat, List.mem_append, List.mem_replicate] at hz
    rcases hz with ⟨_, rfl⟩ | hz
    · simp
    · simp [flat_mem hz]
/-- A tick within a schedule. -/
theorem flat_at {l : List Ht} {i t : Nat} {h : Ht} (hi : l[i]? = some h) (ht : t < h.ticks.toNat) : (flat l)[(flat (l.take i)).length + t]? = some h ∧ (flat l).take ((flat (l.take i)).length + t) = flat (l.take i) ++ List.replicate t h := by
  have e : l = l.take i ++ h :: l.drop (i + 1) := by
    obtain ⟨h1, h2⟩ := List.getElem?_eq_some_iff.1 hi
    conv => lhs; rw [← List.take_append_drop i l, List.drop_eq_getElem_cons h1, h2]
  have e2 : flat l = flat (l.take i) ++ (List.replicate h.ticks.toNat h ++ flat (l.drop (i + 1))) := by
    conv => lhs; rw [e]
    rw [flat_app]; rfl
  constructor
  · rw [e2, List.getElem?_append_right (by omega), Nat.add_sub_cancel_left, List.getElem?_append_left (by simpa using ht)]
    simp [ht]
  · rw [e2, List.take_length_add_append, List.take_append_of_le_length (by simpa using Nat.le_of_lt ht), List.take_replicate, Nat.min_eq_left (Nat.le_of_lt ht)]

def heatOf (c : Ct) (a : List Ht) : Int := a.foldl (fun h z => moved h z.heat c.slew) 300
theorem heatOf_snoc (c : Ct) (a : List Ht) (z : Ht) : heatOf c (a ++ [z]) = moved (heatOf c a) z.heat c.slew := by simp [heatOf]
def coatOf (c : Ct) (a : List Ht) : Cg := a.foldl (fun x z => after c x z.heat z.cur) (fresh c)
theorem coatOf_snoc (c : Ct) (a : List Ht) (z : Ht) : coatOf c (a ++ [z]) = after c (coatOf c a) z.heat z.cur := by simp [coatOf]
theorem heatOf_in {c : Ct} (hc : CtOK c) {a : List Ht} (ha : ∀ z ∈ a, HtOK z) : 0 ≤ heatOf c a ∧ heatOf c a ≤ 2000 := by
  unfold heatOf
  suffices h : ∀ (a : List Ht) (h0 : Int), (0 ≤ h0 ∧ h0 ≤ 2000) → (∀ z ∈ a, HtOK z) → 0 ≤ a.foldl (fun h z => moved h z.heat c.slew) h0 ∧ a.foldl (fun h z => moved h z.heat c.slew) h0 ≤ 2000 from h a 300 (by decide) ha
  intro a
  induction a with
  | nil => intro h0 h _; exact h
  | cons z a ih =>
    intro h0 h ha
    exact ih _ (moved_in h (ha z (by simp)).heat hc.slew.1) fun y hy => ha y (by simp [hy])
theorem coatOf_heat (c : Ct) (a : List Ht) : (coatOf c a).heat = heatOf c a := by
  suffices h : ∀ b : List Ht, (coatOf c b.reverse).heat = heatOf c b.reverse by simpa using h a.reverse
  intro b
  induction b with
  | nil => rfl
  | cons z b ih =>
    rw [List.reverse_cons, coatOf_snoc, heatOf_snoc, ← ih]; rfl

/-- What a mix may become in a tick. -/
structure Fol (a b : Mx) (x : Bd) : Prop where
  conv : dn a.carb x.conv.lo ≤ a.carb - b.carb ∧ a.carb - b.carb ≤ up a.carb x.conv.hi
  red : dn a.ox x.red.lo ≤ a.ox + (a.carb - b.carb) - b.ox ∧ a.ox + (a.carb - b.carb) - b.ox ≤ up a.ox x.red.hi
  evap : dn a.ba x.evap.lo ≤ a.ba + (a.ox + (a.carb - b.carb) - b.ox) - b.ba ∧ a.ba + (a.ox + (a.carb - b.carb) - b.ox) - b.ba ≤ up a.ba x.evap.hi
  lost : b.lost = a.lost + (a.ba + (a.ox + (a.carb - b.carb) - b.ox) - b.ba)
structure MxOK (c : Ct) (m : Mx) : Prop where
  carb : 0 ≤ m.carb
  ox : 0 ≤ m.ox
  ba : 0 ≤ m.ba
  lost : 0 ≤ m.lost
  sum : m.carb + m.ox + m.ba + m.lost = c.amount
def start (c : Ct) : Mx := ⟨c.amount, 0, 0, 0⟩
structure Holds (x : Cg) (m : Mx) : Prop where
  carb : x.carb.lo ≤ m.carb ∧ m.carb ≤ x.carb.hi
  ox : x.ox.lo ≤ m.ox ∧ m.ox ≤ x.ox.hi
  ba : x.ba.lo ≤ m.ba ∧ m.ba ≤ x.ba.hi
  lost : x.lost.lo ≤ m.lost ∧ m.lost ≤ x.lost.hi

theorem Fol.ok {c : Ct} {a b : Mx} {x : Bd} (hx : BdOK x) (ha : MxOK c a) (h : Fol a b x) : MxOK c b := by
  obtain ⟨a1, a2, a3, a4, a5⟩ := ha
  obtain ⟨f1, f2, f3, f4⟩ := h
  have b1 := hx.conv.all; have b2 := hx.red.all; have b3 := hx.evap.all
  have c1 := dn_in a1 b1.1 (by omega); have c2 := up_in (r := x.conv.hi) a1 (by omega) (by omega)
  have d1 := dn_in a2 b2.1 (by omega); have d2 := up_in (r := x.red.hi) a2 (by omega) (by omega)
  have e1 := dn_in a3 b3.1 (by omega); have e2 := up_in (r := x.evap.hi) a3 (by omega) (by omega)
  exact ⟨by omega, by omega, by omega, by omega, by omega⟩

theorem cut_hi {r : Rg} {m n : Int} (h : n ≤ r.hi) (h' : n ≤ m) : n ≤ (cut r m).hi := by
  show n ≤ mi r.hi m
  unfold mi; split <;> omega

/-- A tick: what is true stays within the bounds. -/
theorem Fol.holds {c : Ct} {x : Cg} {a b : Mx} {z : Bd} {h : Int} (hz : BdOK z) (hx : CgOK c x) (ha : MxOK c a) (hh : Holds x a) (f : Fol a b z) :
    Holds (afterB c.amount z x h) b ∧ (afterB c.amount z x h).gas.lo ≤ a.carb - b.carb ∧ a.carb - b.carb ≤ (afterB c.amount z x h).gas.hi := by
  have hb := f.ok hz ha
  obtain ⟨a1, a2, a3, a4, a5⟩ := ha
  obtain ⟨q1, q2, q3, q4, q5⟩ := hb
  obtain ⟨f1, f2, f3, f4⟩ := f
  obtain ⟨h1, h2, h3, h4⟩ := hh
  have x1 := hx.carb.all; have x2 := hx.ox.all; have x3 := hx.ba.all; have x4 := hx.lost.all
  have b1 := hz.conv.all; have b2 := hz.red.all; have b3 := hz.evap.all
  -- the parts that are given away
  have p1 : dn x.carb.lo z.conv.lo ≤ dn a.carb z.conv.lo := dn_mono x1.1 h1.1 b1.1 (Int.le_refl _)
  have p2 : up a.carb z.conv.hi ≤ up x.carb.hi z.conv.hi := up_mono a1 h1.2 (by omega) (Int.le_refl _)
  have p3 : dn x.ox.lo z.red.lo ≤ dn a.ox z.red.lo := dn_mono x2.1 h2.1 b2.1 (Int.le_refl _)
  have p4 : up a.ox z.red.hi ≤ up x.ox.hi z.red.hi := up_mono a2 h2.2 (by omega) (Int.le_refl _)
  have p5 : dn x.ba.lo z.evap.lo ≤ dn a.ba z.evap.lo := dn_mono x3.1 h3.1 b3.1 (Int.le_refl _)
  have p6 : up a.ba z.evap.hi ≤ up x.ba.hi z.evap.hi := up_mono a3 h3.2 (by omega) (Int.le_refl _)
  have k1 := keepUp_mono (r := z.conv.hi) x1.1 h1.1 (by omega) (by omega)
  have k2 := keepDn_mono (r := z.conv.lo) a1 h1.2 (by omega) (by omega)
  have k3 := keepUp_mono (r := z.red.hi) x2.1 h2.1 (by omega) (by omega)
  have k4 := keepDn_mono (r := z.red.lo) a2 h2.2 (by omega) (by omega)
  have k5 := keepUp_mono (r := z.evap.hi) x3.1 h3.1 (by omega) (by omega)
  have k6 := keepDn_mono (r := z.evap.lo) a3 h3.2 (by omega) (by omega)
  have d1 := dn_in a1 b1.1 (by omega)
  have u1 := up_in (r := z.conv.hi) a1 (by omega) (by omega)
  refine ⟨⟨⟨?_, cut_hi ?_ (by omega)⟩, ⟨?_, cut_hi ?_ (by omega)⟩, ⟨?_, cut_hi ?_ (by omega)⟩, ⟨?_, cut_hi ?_ (by omega)⟩⟩, ?_, cut_hi ?_ (by omega)⟩ <;>
    simp only [afterB, cut, remains, sumR, parts] <;> omega

/-- A course: of the ticks so far, with the last mix. -/
inductive Crs (c : Ct) : List Ht → List Mx → Mx → Prop
  | nil : Crs c [] [start c] (start c)
  | snoc {a : List Ht} {w : List Mx} {m m' : Mx} {z : Ht} (h : Crs c a w m) (f : Fol m m' (ratesAt c (heatOf c (a ++ [z])) z.cur)) : Crs c (a ++ [z]) (w ++ [m']) m'

theorem Crs.len {c : Ct} {a : List Ht} {w : List Mx} {m : Mx} (h : Crs c a w m) : w.length = a.length + 1 := by
  induction h with
  | nil => rfl
  | snoc _ _ ih => simp [ih]
theorem Crs.last {c : Ct} {a : List Ht} {w : List Mx} {m : Mx} (h : Crs c a w m) : w[a.length]? = some m := by
  cases h with
  | nil => rfl
  | snoc h f => rw [List.length_append, List.length_singleton, ← h.len]; simp
theorem Crs.ok {c : Ct} (hc : CtOK c) {a : List Ht} {w : List Mx} {m : Mx} (ha : ∀ z ∈ a, HtOK z) (h : Crs c a w m) : MxOK c m := by
  induction h with
  | nil => have := hc.amount; exact ⟨by simp [start]; omega, by simp [start], by simp [start], by simp [start], by simp [start]⟩
  | snoc h f ih =>
    rename_i a w m m' z
    have hz := ha z (by simp)
    exact f.ok (ratesAt_ok hc (heatOf_in hc ha).1 hz.cur) (ih fun y hy => ha y (by simp [hy]))
/-- A part of a course. -/
theorem Crs.part {c : Ct} {a : List Ht} {w : List Mx} {m : Mx} (h : Crs c a w m) : ∀ p, p < a.length → ∃ (z : Ht) (m1 m2 : Mx), a[p]? = some z ∧ Crs c (a.take p) (w.take (p + 1)) m1 ∧ w[p]? = some m1 ∧ w[p + 1]? = some m2 ∧ Fol m1 m2 (ratesAt c (heatOf c (a.take p ++ [z])) z.cur) := by
  induction h with
  | nil => intro p hp; simp at hp
  | snoc h f ih =>
    rename_i a w m m' z
    intro p hp
    have hl := h.len
    by_cases h1 : p < a.length
    · obtain ⟨y, m1, m2, e1, e2, e3, e4, e5⟩ := ih p h1
      refine ⟨y, m1, m2, ?_, ?_, ?_, ?_, ?_⟩
      · rw [List.getElem?_append_left h1]; exact e1
      · rw [List.take_append_of_le_length (by omega), List.take_append_of_le_length (by omega)]; exact e2
      · rw [List.getElem?_append_left (by omega)]; exact e3
      · rw [List.getElem?_append_left (by omega)]; exact e4
      · rw [List.take_append_of_le_length (by omega)]; exact e5
    · have hp' : p = a.length := by simp at hp; omega
      subst hp'
      refine ⟨z, m, m', by simp, ?_, ?_, ?_, ?_⟩
      · rw [List.take_left, ← hl, List.take_left]; exact h
      · rw [List.getElem?_append_left (by omega)]; exact h.last
      · rw [← hl]; simp
      · rw [List.take_left]; exact f

theorem Crs.one {c : Ct} {a : List Ht} {w : List Mx} {m : Mx} (h : Crs c a w m) : a = [] → w = [start c] := by
  cases h with
  | nil => intro _; rfl
  | snoc h f => intro h0; simp at h0
theorem Crs.first {c : Ct} {a : List Ht} {w : List Mx} {m : Mx} (h : Crs c a w m) : w[0]? = some (start c) := by
  by_cases h0 : a = []
  · rw [h.one h0]; rfl
  · obtain ⟨z, m1, m2, _, e2, e3, _, _⟩ := h.part 0 (List.length_pos_iff.2 h0)
    have := e2.one rfl
    have e4 : w[0]? = (w.take (0 + 1))[0]? := by rw [List.getElem?_take]; simp
    rw [e4, this]; rfl

/-- After the ticks so far, the mix lies within the coating. -/
theorem coatOf_good {c : Ct} (hc : CtOK c) {a : List Ht} (ha : ∀ z ∈ a, HtOK z) (hl : a.length ≤ 1000000) : Good c (coatOf c a) a.length := by
  suffices h : ∀ b : List Ht, (∀ z ∈ b, HtOK z) → b.length ≤ 1000000 → Good c (coatOf c b.reverse) b.length by
    have := h a.reverse (fun z hz => ha z (by simpa using hz)) (by simpa using hl)
    simpa using this
  intro b
  induction b with
  | nil => intro _ _; exact fresh_good hc
  | cons z b ih =>
    intro hb hbl
    have hz := hb z (by simp)
    have := after_good hc (ih (fun y hy => hb y (by simp [hy])) (by simp at hbl; omega)) (by simp at hbl; omega) hz.heat hz.cur
    rw [List.reverse_cons, coatOf_snoc]
    simpa using this
theorem Crs.holds {c : Ct} (hc : CtOK c) {a : List Ht} {w : List Mx} {m : Mx} (ha : ∀ z ∈ a, HtOK z) (hl : a.length ≤ 1000000) (h : Crs c a w m) : Holds (coatOf c a) m := by
  induction h with
  | nil => exact ⟨by simp [coatOf, fresh, start], by simp [coatOf, fresh, start], by simp [coatOf, fresh, start], by simp [coatOf, fresh, start]⟩
  | snoc h f ih =>
    rename_i a w m m' z
    have hz := ha z (by simp)
    have ha' : ∀ y ∈ a, HtOK y := fun y hy => ha y (by simp [hy])
    have hl' : a.length ≤ 1000000 := by simp at hl; omega
    have hb := ratesAt_ok hc (heatOf_in hc ha).1 hz.cur
    rw [coatOf_snoc]
    unfold after
    rw [coatOf_heat, ← heatOf_snoc]
    exact (f.holds hb (coatOf_good hc ha' hl').ok (h.ok hc ha') (ih ha' hl')).1
/-- What became oxide in a tick. -/
theorem Crs.gas {c : Ct} (hc : CtOK c) {a : List Ht} {w : List Mx} {m m' : Mx} {z : Ht} (ha : ∀ z ∈ a, HtOK z) (hz : HtOK z) (hl : a.length ≤ 1000000) (h : Crs c a w m) (f : Fol m m' (ratesAt c (heatOf c (a ++ [z])) z.cur)) :
    (after c (coatOf c a) z.heat z.cur).gas.lo ≤ m.carb - m'.carb ∧ m.carb - m'.carb ≤ (after c (coatOf c a) z.heat z.cur).gas.hi := by
  have ha' : ∀ y ∈ a ++ [z], HtOK y := fun y hy => by
    rcases List.mem_append.1 hy with hy | hy
    · exact ha y hy
    · simp at hy; subst hy; exact hz
  have hb := ratesAt_ok hc (heatOf_in hc ha').1 hz.cur
  unfold after
  rw [coatOf_heat, ← heatOf_snoc]
  exact (f.holds hb (coatOf_good hc ha hl).ok (h.ok hc ha) (h.holds hc ha hl)).2

theorem tickN_flat (c : Ct) (z : Ht) (a : List Ht) : ∀ t : Nat, coatOf c (a ++ List.replicate t z) = tickN c z.heat z.cur t (coatOf c a)
  | 0 => by simp [tickN]
  | t + 1 => by rw [List.replicate_succ', ← List.append_assoc, coatOf_snoc, tickN_flat c z a t]; rfl
theorem endX_flat (c : Ct) (l : List Ht) : endX c (fresh c) l = coatOf c (flat l) := by
  suffices h : ∀ (l a : List Ht), endX c (coatOf c a) l = coatOf c (a ++ flat l) from h l []
  intro l
  induction l with
  | nil => intro a; simp [endX, flat]
  | cons z l ih =>
    intro a
    have e : heatN c z (coatOf c a) = coatOf c (a ++ List.replicate z.ticks.toNat z) := (tickN_flat c z a _).symm
    rw [endX, e, ih, flat, List.append_assoc]
end Go.Proofs
