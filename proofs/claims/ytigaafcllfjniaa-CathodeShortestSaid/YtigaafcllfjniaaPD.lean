/- A part of the proof. -/
import Derived.Test.YtigaafcllfjniaaPC
set_option linter.unusedSimpArgs false
set_option linter.unusedVariables false
namespace Go.Proofs
open Go Go.Sx

structure Bd where
  frm : Int
  conv : Rg
  red : Rg
  evap : Rg
  sint : Rg
  deriving Inhabited, DecidableEq
def Bd.cs (b : Bd) : List AVal := [.int .i64 b.frm, .int .i64 b.conv.lo, .int .i64 b.conv.hi, .int .i64 b.red.lo, .int .i64 b.red.hi, .int .i64 b.evap.lo, .int .i64 b.evap.hi, .int .i64 b.sint.lo, .int .i64 b.sint.hi]
def Bd.v (b : Bd) : AVal := .agg b.cs

structure Ct where
  amount : Int
  slew : Int
  aid : Rg
  yld : Rg
  bands : List Bd
  deriving Inhabited, DecidableEq
def Ct.cs (c : Ct) (s : AVal) : List AVal := [.int .i64 c.amount, .int .i64 c.slew, .int .i64 c.aid.lo, .int .i64 c.aid.hi, .int .i64 c.yld.lo, .int .i64 c.yld.hi, s]
def Ct.v (c : Ct) (s : AVal) : AVal := .agg (c.cs s)

structure Cg where
  carb : Rg
  ox : Rg
  ba : Rg
  lost : Rg
  gas : Rg
  wear : Rg
  heat : Int
  deriving Inhabited, DecidableEq
def Cg.cs (x : Cg) : List AVal := [.int .i64 x.carb.lo, .int .i64 x.carb.hi, .int .i64 x.ox.lo, .int .i64 x.ox.hi, .int .i64 x.ba.lo, .int .i64 x.ba.hi, .int .i64 x.lost.lo, .int .i64 x.lost.hi, .int .i64 x.gas.lo, .int .i64 x.gas.hi, .int .i64 x.wear.lo, .int .i64 x.wear.hi, .int .i64 x.heat]
def Cg.v (x : Cg) : AVal := .agg x.cs

structure Ht where
  ticks : Int
  heat : Int
  cur : Int
  deriving Inhabited, DecidableEq
def Ht.cs (h : Ht) : List AVal := [.int .i64 h.ticks, .int .i64 h.heat, .int .i64 h.cur]
def Ht.v (h : Ht) : AVal := .agg h.cs

def dn (a r : Int) : Int := a * r / 1000000
def up (a r : Int) : Int := (a * r + 999999) / 1000000
def mx (a b : Int) : Int := if b > a then b else a
def mi (a b : Int) : Int := if b < a then b else a

theorem mul_mono {a b c d : Int} (h0 : 0 ≤ a) (h1 : a ≤ b) (h2 : 0 ≤ c) (h3 : c ≤ d) : a * c ≤ b * d := Int.mul_le_mul h1 h3 h2 (by omega)
theorem mul_rng {a b A B : Int} (h0 : 0 ≤ a) (h1 : a ≤ A) (h2 : 0 ≤ b) (h3 : b ≤ B) : 0 ≤ a * b ∧ a * b ≤ A * B := ⟨Int.mul_nonneg h0 h2, mul_mono h0 h1 h2 h3⟩

theorem dn_in {a r : Int} (ha : 0 ≤ a) (hr : 0 ≤ r) (hr' : r ≤ 1000000) : 0 ≤ dn a r ∧ dn a r ≤ a := by
  have h1 := Int.mul_nonneg ha hr
  have h2 : a * r ≤ a * 1000000 := Int.mul_le_mul_of_nonneg_left hr' ha
  unfold dn; omega
theorem up_in {a r : Int} (ha : 0 ≤ a) (hr : 0 ≤ r) (hr' : r ≤ 1000000) : 0 ≤ up a r ∧ up a r ≤ a := by
  have h1 := Int.mul_nonneg ha hr
  have h2 : a * r ≤ a * 1000000 := Int.mul_le_mul_of_nonneg_left hr' ha
  unfold up; omega
theorem dn_mono {a b r s : Int} (ha : 0 ≤ a) (hab : a ≤ b) (hr : 0 ≤ r) (hrs : r ≤ s) : dn a r ≤ dn b s :=
  Int.ediv_le_ediv (by decide) (mul_mono ha hab hr hrs)
theorem up_mono {a b r s : Int} (ha : 0 ≤ a) (hab : a ≤ b) (hr : 0 ≤ r) (hrs : r ≤ s) : up a r ≤ up b s := by
  have := mul_mono ha hab hr hrs
  exact Int.ediv_le_ediv (by decide) (by omega)
theorem dn_up {a r : Int} : dn a r ≤ up a r := Int.ediv_le_ediv (by decide) (by omega)
theorem dn_le_up {a b r s : Int} (ha : 0 ≤ a) (hab : a ≤ b) (hr : 0 ≤ r) (hrs : r ≤ s) : dn a r ≤ up b s := Int.le_trans (dn_mono ha hab hr hrs) dn_up
theorem keepUp_mono {a b r : Int} (_ : 0 ≤ a) (hab : a ≤ b) (_ : 0 ≤ r) (hr' : r ≤ 1000000) : a - up a r ≤ b - up b r := by
  have h : (b - a) * r ≤ (b - a) * 1000000 := Int.mul_le_mul_of_nonneg_left hr' (by omega)
  have e : (b - a) * r = b * r - a * r := Int.sub_mul ..
  unfold up; omega
theorem keepDn_mono {a b r : Int} (_ : 0 ≤ a) (hab : a ≤ b) (_ : 0 ≤ r) (hr' : r ≤ 1000000) : a - dn a r ≤ b - dn b r := by
  have h : (b - a) * r ≤ (b - a) * 1000000 := Int.mul_le_mul_of_nonneg_left hr' (by omega)
  have e : (b - a) * r = b * r - a * r := Int.sub_mul ..
  unfold dn; omega

def parts (a r : Rg) : Rg := ⟨dn a.lo r.lo, up a.hi r.hi⟩
def remains (a r : Rg) : Rg := ⟨a.lo - up a.lo r.hi, a.hi - dn a.hi r.lo⟩
def sumR (a b : Rg) : Rg := ⟨a.lo + b.lo, a.hi + b.hi⟩
def moved (heat asked slew : Int) : Int := mi (mx asked (heat - slew)) (heat + slew)
def cut (r : Rg) (m : Int) : Rg := ⟨r.lo, mi r.hi m⟩
def aboveN (bs : List Bd) (heat : Int) : Nat := (bs.takeWhile fun b => decide (b.frm ≤ heat)).length
def bandAt (bs : List Bd) (heat : Int) : Bd := bs.getD (aboveN bs heat - 1) default
def ratesAt (c : Ct) (heat cur : Int) : Bd :=
  let b := bandAt c.bands heat
  { b with red := ⟨mi (b.red.lo + cur * c.aid.lo) 1000000, mi (b.red.hi + cur * c.aid.hi) 1000000⟩ }
def afterB (m : Int) (b : Bd) (x : Cg) (heat : Int) : Cg :=
  { carb := cut (remains x.carb b.conv) m, ox := cut (sumR (remains x.ox b.red) (parts x.carb b.conv)) m,
    ba := cut (sumR (remains x.ba b.evap) (parts x.ox b.red)) m, lost := cut (sumR x.lost (parts x.ba b.evap)) m,
    gas := cut (parts x.carb b.conv) m, wear := sumR x.wear b.sint, heat := heat }
def after (c : Ct) (x : Cg) (heat cur : Int) : Cg := afterB c.amount (ratesAt c (moved x.heat heat c.slew) cur) x (moved x.heat heat c.slew)
def fresh (c : Ct) : Cg := ⟨⟨c.amount, c.amount⟩, ⟨0, 0⟩, ⟨0, 0⟩, ⟨0, 0⟩, ⟨0, 0⟩, ⟨0, 0⟩, 300⟩

structure RgIn (r : Rg) (m : Int) : Prop where
  lo : 0 ≤ r.lo
  le : r.lo ≤ r.hi
  hi : r.hi ≤ m
structure BdOK (b : Bd) : Prop where
  frm : 0 ≤ b.frm ∧ b.frm ≤ 2000
  conv : RgIn b.conv 1000000
  red : RgIn b.red 1000000
  evap : RgIn b.evap 1000000
  sint : RgIn b.sint 1000000
structure CtOK (c : Ct) : Prop where
  amount : 1 ≤ c.amount ∧ c.amount ≤ 1000000
  slew : 1 ≤ c.slew ∧ c.slew ≤ 2000
  aid : RgIn c.aid 1000000
  yld : RgIn c.yld 1000000
  len : 1 ≤ c.bands.length ∧ c.bands.length ≤ 16
  first : (c.bands.getD 0 default).frm = 0
  asc : ∀ i, i + 1 < c.bands.length → (c.bands.getD i default).frm < (c.bands.getD (i + 1) default).frm
  bands : ∀ b ∈ c.bands, BdOK b
structure CgOK (c : Ct) (x : Cg) : Prop where
  carb : RgIn x.carb c.amount
  ox : RgIn x.ox c.amount
  ba : RgIn x.ba c.amount
  lost : RgIn x.lost c.amount
  gas : RgIn x.gas c.amount
  wear : RgIn x.wear 1099511627776
  heat : 0 ≤ x.heat ∧ x.heat ≤ 2000
structure CgSum (c : Ct) (x : Cg) : Prop where
  sum : x.carb.lo + x.ox.lo + x.ba.lo + x.lost.lo ≤ c.amount

theorem mi_le {a b : Int} : mi a b ≤ a ∧ mi a b ≤ b := by unfold mi; split <;> omega
theorem moved_in {h a s : Int} (hh : 0 ≤ h ∧ h ≤ 2000) (ha : 0 ≤ a ∧ a ≤ 2000) (hs : 1 ≤ s) : 0 ≤ moved h a s ∧ moved h a s ≤ 2000 := by
  unfold moved mi mx; constructor <;> (repeat' split) <;> omega
theorem aboveN_le (bs : List Bd) (h : Int) : aboveN bs h ≤ bs.length := by
  unfold aboveN; induction bs with
  | nil => simp
  | cons b l ih => rw [List.takeWhile_cons]; split <;> simp <;> omega
theorem aboveN_pos {bs : List Bd} {h : Int} (hl : 1 ≤ bs.length) (h0 : (bs.getD 0 default).frm = 0) (hh : 0 ≤ h) : 1 ≤ aboveN bs h := by
  cases bs with
  | nil => simp at hl
  | cons b l =>
    simp only [List.getD_cons_zero] at h0
    unfold aboveN
    rw [List.takeWhile_cons, if_pos (by simp; omega)]
    simp
theorem asc_lt {bs : List Bd} (asc : ∀ i, i + 1 < bs.length → (bs.getD i default).frm < (bs.getD (i + 1) default).frm) : ∀ (j i : Nat), i < j → j < bs.length → (bs.getD i default).frm < (bs.getD j default).frm := by
  intro j
  induction j with
  | zero => intro i h; omega
  | succ j ih =>
    intro i h hl
    have h1 := asc j hl
    by_cases e : i = j
    · subst e; exact h1
    · have := ih i (by omega) (by omega); omega
theorem aboveN_spec : ∀ {bs : List Bd} {h : Int}, (∀ i, i + 1 < bs.length → (bs.getD i default).frm < (bs.getD (i + 1) default).frm) → ∀ i, i < bs.length → ((bs.getD i default).frm ≤ h ↔ i < aboveN bs h)
  | [], h, _, i, hi => by simp at hi
  | b :: l, h, asc, i, hi => by
    have asc' : ∀ i, i + 1 < l.length → (l.getD i default).frm < (l.getD (i + 1) default).frm := fun i hi => by
      have := asc (i + 1) (by simp; omega); simpa using this
    unfold aboveN
    rw [List.takeWhile_cons]
    by_cases hb : b.frm ≤ h
    · rw [if_pos (by simpa using hb)]
      cases i with
      | zero => simpa using hb
      | succ i =>
        have := aboveN_spec (h := h) asc' i (by simpa using hi)
        unfold aboveN at this
        simpa using this
    · rw [if_neg (by simpa using hb)]
      simp only [List.length_nil, Nat.not_lt_zero, iff_false]
      cases i with
      | zero => simpa using hb
      | succ i =>
        have := asc_lt asc (i + 1) 0 (by omega) hi
        simp only [List.getD_cons_zero] at this
        omega

theorem bandAt_ok {c : Ct} (hc : CtOK c) {h : Int} (hh : 0 ≤ h) : BdOK (bandAt c.bands h) := by
  have h1 := aboveN_pos hc.len.1 hc.first hh
  have h2 := aboveN_le c.bands h
  have h3 : aboveN c.bands h - 1 < c.bands.length := by omega
  unfold bandAt
  rw [List.getD_eq_getElem?_getD, List.getElem?_eq_getElem h3]
  exact hc.bands _ (List.getElem_mem h3)

theorem ratesAt_ok {c : Ct} (hc : CtOK c) {h cur : Int} (hh : 0 ≤ h) (hcur : 0 ≤ cur ∧ cur ≤ 1000) : BdOK (ratesAt c h cur) := by
  have hb := bandAt_ok hc hh
  have a1 := mul_rng hcur.1 hcur.2 hc.aid.lo (Int.le_trans hc.aid.le hc.aid.hi)
  have a2 := mul_mono hcur.1 (Int.le_refl cur) hc.aid.lo hc.aid.le
  have b1 := hb.red.lo; have b2 := hb.red.le; have b3 := hb.red.hi
  refine ⟨hb.frm, hb.conv, ⟨?_, ?_, ?_⟩, hb.evap, hb.sint⟩
  · show 0 ≤ mi _ _
    unfold mi; split <;> omega
  · show mi _ _ ≤ mi _ _
    unfold mi; split <;> split <;> omega
  · exact mi_le.2

theorem RgIn.all {r : Rg} {m : Int} (h : RgIn r m) : 0 ≤ r.lo ∧ r.lo ≤ r.hi ∧ r.hi ≤ m := ⟨h.lo, h.le, h.hi⟩

theorem afterB_ok {c : Ct} {x : Cg} {b : Bd} {h : Int} (hm : 1 ≤ c.amount ∧ c.amount ≤ 1000000) (hb : BdOK b) (hx : CgOK c x) (hs : CgSum c x) (hh : 0 ≤ h ∧ h ≤ 2000) (hw : x.wear.hi + 1000000 ≤ 1099511627776) :
    CgOK c (afterB c.amount b x h) ∧ CgSum c (afterB c.amount b x h) := by
  obtain ⟨⟨c1, c2, c3⟩, ⟨o1, o2, o3⟩, ⟨n1, n2, n3⟩, ⟨l1, l2, l3⟩, ⟨g1, g2, g3⟩, ⟨w1, w2, w3⟩, hh0⟩ := hx
  obtain ⟨f0, ⟨v1, v2, v3⟩, ⟨r1, r2, r3⟩, ⟨e1, e2, e3⟩, ⟨s1, s2, s3⟩⟩ := hb
  have hs := hs.sum
  have cu := up_in c1 (Int.le_trans v1 v2) v3
  have cd := dn_in c1 v1 (Int.le_trans v2 v3)
  have cu' := up_in (Int.le_trans c1 c2) (Int.le_trans v1 v2) v3
  have cd' := dn_in (Int.le_trans c1 c2) v1 (Int.le_trans v2 v3)
  have cc := dn_le_up c1 (Int.le_refl _) v1 v2
  have cc' := dn_le_up c1 c2 v1 v2
  have ck : x.carb.lo - up x.carb.lo b.conv.hi ≤ x.carb.hi - dn x.carb.hi b.conv.lo := Int.le_trans (keepUp_mono c1 c2 (Int.le_trans v1 v2) v3) (by have := dn_le_up (Int.le_trans c1 c2) (Int.le_refl x.carb.hi) v1 v2; omega)
  have ou := up_in o1 (Int.le_trans r1 r2) r3
  have od := dn_in o1 r1 (Int.le_trans r2 r3)
  have oc := dn_le_up o1 (Int.le_refl _) r1 r2
  have oc' := dn_le_up o1 o2 r1 r2
  have ok : x.ox.lo - up x.ox.lo b.red.hi ≤ x.ox.hi - dn x.ox.hi b.red.lo := Int.le_trans (keepUp_mono o1 o2 (Int.le_trans r1 r2) r3) (by have := dn_le_up (Int.le_trans o1 o2) (Int.le_refl x.ox.hi) r1 r2; omega)
  have nu := up_in n1 (Int.le_trans e1 e2) e3
  have nd := dn_in n1 e1 (Int.le_trans e2 e3)
  have nc := dn_le_up n1 (Int.le_refl _) e1 e2
  have nc' := dn_le_up n1 n2 e1 e2
  have nk : x.ba.lo - up x.ba.lo b.evap.hi ≤ x.ba.hi - dn x.ba.hi b.evap.lo := Int.le_trans (keepUp_mono n1 n2 (Int.le_trans e1 e2) e3) (by have := dn_le_up (Int.le_trans n1 n2) (Int.le_refl x.ba.hi) e1 e2; omega)
  refine ⟨⟨⟨?_, ?_, ?_⟩, ⟨?_, ?_, ?_⟩, ⟨?_, ?_, ?_⟩, ⟨?_, ?_, ?_⟩, ⟨?_, ?_, ?_⟩, ⟨?_, ?_, ?_⟩, hh⟩, ⟨?_⟩⟩ <;>
    simp only [afterB, cut, remains, sumR, parts, mi] <;> (try split) <;> omega

theorem after_ok {c : Ct} {x : Cg} {heat cur : Int} (hc : CtOK c) (hx : CgOK c x) (hs : CgSum c x) (hh : 0 ≤ heat ∧ heat ≤ 2000) (hcur : 0 ≤ cur ∧ cur ≤ 1000) (hw : x.wear.hi + 1000000 ≤ 1099511627776) :
    CgOK c (after c x heat cur) ∧ CgSum c (after c x heat cur) := by
  have hm := moved_in hx.heat hh hc.slew.1
  exact afterB_ok hc.amount (ratesAt_ok hc hm.1 hcur) hx hs hm hw

theorem fresh_ok {c : Ct} (hc : CtOK c) : CgOK c (fresh c) ∧ CgSum c (fresh c) := by
  have := hc.amount
  refine ⟨⟨⟨?_, ?_, ?_⟩, ⟨?_, ?_, ?_⟩, ⟨?_, ?_, ?_⟩, ⟨?_, ?_, ?_⟩, ⟨?_, ?_, ?_⟩, ⟨?_, ?_, ?_⟩, ⟨by simp [fresh], by simp [fresh]⟩⟩, ⟨?_⟩⟩ <;> simp only [fresh] <;> omega

theorem after_falls {c : Ct} {x : Cg} {heat cur : Int} (hc : CtOK c) (hx : CgOK c x) (hh : 0 ≤ heat ∧ heat ≤ 2000) (hcur : 0 ≤ cur ∧ cur ≤ 1000) :
    (after c x heat cur).carb.lo ≤ x.carb.lo ∧ (after c x heat cur).carb.hi ≤ x.carb.hi ∧ x.lost.lo ≤ (after c x heat cur).lost.lo ∧ x.lost.hi ≤ (after c x heat cur).lost.hi ∧
    x.wear.lo ≤ (after c x heat cur).wear.lo ∧ x.wear.hi ≤ (after c x heat cur).wear.hi ∧ (after c x heat cur).wear.hi ≤ x.wear.hi + 1000000 := by
  have hm := moved_in hx.heat hh hc.slew.1
  have hb := ratesAt_ok hc hm.1 hcur
  unfold after
  generalize ratesAt c (moved x.heat heat c.slew) cur = b at *
  obtain ⟨⟨c1, c2, c3⟩, ⟨o1, o2, o3⟩, ⟨n1, n2, n3⟩, ⟨l1, l2, l3⟩, ⟨g1, g2, g3⟩, ⟨w1, w2, w3⟩, hh0⟩ := hx
  obtain ⟨f0, ⟨v1, v2, v3⟩, ⟨r1, r2, r3⟩, ⟨e1, e2, e3⟩, ⟨s1, s2, s3⟩⟩ := hb
  have cu := up_in c1 (Int.le_trans v1 v2) v3
  have cd' := dn_in (Int.le_trans c1 c2) v1 (Int.le_trans v2 v3)
  have nd := dn_in n1 e1 (Int.le_trans e2 e3)
  have nu := up_in (Int.le_trans n1 n2) (Int.le_trans e1 e2) e3
  refine ⟨?_, ?_, ?_, ?_, ?_, ?_, ?_⟩ <;> simp only [afterB, cut, remains, sumR, parts, mi] <;> (try split) <;> omega

structure RgSub (a b : Rg) : Prop where
  lo : b.lo ≤ a.lo
  hi : a.hi ≤ b.hi
structure BdSub (a b : Bd) : Prop where
  frm : a.frm = b.frm
  conv : RgSub a.conv b.conv
  red : RgSub a.red b.red
  evap : RgSub a.evap b.evap
  sint : RgSub a.sint b.sint
structure HtOK (h : Ht) : Prop where
  ticks : 1 ≤ h.ticks ∧ h.ticks ≤ 2000
  heat : 0 ≤ h.heat ∧ h.heat ≤ 2000
  cur : 0 ≤ h.cur ∧ h.cur ≤ 1000
def lenOfL : List Ht → Int
  | [] => 0
  | h :: l => h.ticks + lenOfL l
structure LsOK (l : List Ht) : Prop where
  len : l.length ≤ 40
  all : ∀ h ∈ l, HtOK h
  sum : lenOfL l ≤ 20000
theorem lenOfL_app (a b : List Ht) : lenOfL (a ++ b) = lenOfL a + lenOfL b := by
  induction a with
  | nil => simp [lenOfL]
  | cons h l ih => simp only [List.cons_append, lenOfL, ih]; omega
theorem lenOfL_nonneg {l : List Ht} (h : ∀ x ∈ l, HtOK x) : 0 ≤ lenOfL l := by
  induction l with
  | nil => simp [lenOfL]
  | cons a l ih =>
    have h1 := (h a (by simp)).ticks
    have h2 := ih fun x hx => h x (by simp [hx])
    simp only [lenOfL]; omega
theorem lenOfL_take {l : List Ht} (h : ∀ x ∈ l, HtOK x) (i : Nat) : 0 ≤ lenOfL (l.take i) ∧ lenOfL (l.take i) ≤ lenOfL l := by
  have e := lenOfL_app (l.take i) (l.drop i)
  rw [List.take_append_drop] at e
  have h1 := lenOfL_nonneg (l := l.drop i) fun x hx => h x (List.mem_of_mem_drop hx)
  have h2 := lenOfL_nonneg (l := l.take i) fun x hx => h x (List.mem_of_mem_take hx)
  omega
theorem lenOfL_succ {l : List Ht} {i : Nat} {h : Ht} (hi : l[i]? = some h) : lenOfL (l.take (i + 1)) = lenOfL (l.take i) + h.ticks := by
  have hlt := (List.getElem?_eq_some_iff.1 hi)
  obtain ⟨h1, h2⟩ := hlt
  rw [List.take_add_one, hi, lenOfL_app]; simp [lenOfL]

def tickN (c : Ct) (heat cur : Int) : Nat → Cg → Cg
  | 0, x => x
  | n + 1, x => after c (tickN c heat cur n x) heat cur
def heatN (c : Ct) (h : Ht) (x : Cg) : Cg := tickN c h.heat h.cur h.ticks.toNat x
def followX (c : Ct) : Cg → List Ht → List Cg
  | _, [] => []
  | x, h :: l => heatN c h x :: followX c (heatN c h x) l
def follow (c : Ct) (l : List Ht) : List Cg := followX c (fresh c) l
def endX (c : Ct) : Cg → List Ht → Cg
  | x, [] => x
  | x, h :: l => endX c (heatN c h x) l

theorem followX_len (c : Ct) : ∀ (l : List Ht) (x : Cg), (followX c x l).length = l.length
  | [], _ => rfl
  | h :: l, x => by simp [followX, followX_len c l]
theorem followX_app (c : Ct) : ∀ (a b : List Ht) (x : Cg), followX c x (a ++ b) = followX c x a ++ followX c (endX c x a) b
  | [], b, x => by simp [followX, endX]
  | h :: a, b, x => by simp [followX, endX, followX_app c a]
theorem endX_app (c : Ct) : ∀ (a b : List Ht) (x : Cg), endX c x (a ++ b) = endX c (endX c x a) b
  | [], b, x => by simp [endX]
  | h :: a, b, x => by simp [endX, endX_app c a]
theorem endX_succ {c : Ct} {l : List Ht} {i : Nat} {h : Ht} (hi : l[i]? = some h) (x : Cg) : endX c x (l.take (i + 1)) = heatN c h (endX c x (l.take i)) := by
  rw [List.take_add_one, hi, endX_app]; simp [endX]
theorem followX_succ {c : Ct} {l : List Ht} {i : Nat} {h : Ht} (hi : l[i]? = some h) (x : Cg) : followX c x (l.take (i + 1)) = followX c x (l.take i) ++ [heatN c h (endX c x (l.take i))] := by
  rw [List.take_add_one, hi, followX_app]; simp [followX]

structure Good (c : Ct) (x : Cg) (n : Int) : Prop where
  ok : CgOK c x
  sum : CgSum c x
  wear : x.wear.hi ≤ 1000000 * n
theorem after_good {c : Ct} {x : Cg} {heat cur n : Int} (hc : CtOK c) (h : Good c x n) (hn : n ≤ 1000000) (hh : 0 ≤ heat ∧ heat ≤ 2000) (hcur : 0 ≤ cur ∧ cur ≤ 1000) : Good c (after c x heat cur) (n + 1) := by
  have hw := h.wear
  obtain ⟨h1, h2⟩ := after_ok hc h.ok h.sum hh hcur (by omega)
  obtain ⟨_, _, _, _, _, _, h3⟩ := after_falls hc h.ok hh hcur
  exact ⟨h1, h2, by omega⟩
theorem fresh_good {c : Ct} (hc : CtOK c) : Good c (fresh c) 0 := ⟨(fresh_ok hc).1, (fresh_ok hc).2, by simp [fresh]⟩
structure Bands (bs : List Bd) (frm : Int) : Prop where
  len : 1 ≤ bs.length
  first : (bs.getD 0 default).frm = 0
  asc : ∀ i, i + 1 < bs.length → (bs.getD i default).frm < (bs.getD (i + 1) default).frm
  all : ∀ b ∈ bs, BdOK b
  last : (bs.getD (bs.length - 1) default).frm < frm
theorem Bands.one {b : Bd} {frm : Int} (hb : BdOK b) (h0 : b.frm = 0) (h : 0 < frm) : Bands [b] frm :=
  ⟨by simp, by simpa using h0, fun i hi => by simp at hi, fun x hx => by simp at hx; subst hx; exact hb, by simpa [h0] using h⟩
theorem Bands.snoc {bs : List Bd} {frm frm' : Int} {b : Bd} (h : Bands bs frm) (hb : BdOK b) (hf : b.frm = frm) (hlt : frm < frm') : Bands (bs ++ [b]) frm' := by
  have hl := h.len
  refine ⟨by simp, ?_, fun i hi => ?_, fun x hx => ?_, ?_⟩
  · rw [List.getD_eq_getElem?_getD, List.getElem?_append_left (by omega), ← List.getD_eq_getElem?_getD]; exact h.first
  · simp only [List.length_append, List.length_singleton] at hi
    rw [List.getD_eq_getElem?_getD, List.getD_eq_getElem?_getD, List.getElem?_append_left (by omega)]
    by_cases h1 : i + 1 < bs.length
    · rw [List.getElem?_append_left h1, ← List.getD_eq_getElem?_getD, ← List.getD_eq_getElem?_getD]; exact h.asc i h1
    · rw [List.getElem?_append_right (by omega), show i + 1 - bs.length = 0 by omega, ← List.getD_eq_getElem?_getD]
      have := h.last
      rw [show bs.length - 1 = i by omega] at this
      simpa [hf] using this
  · rcases List.mem_append.1 hx with hx | hx
    · exact h.all x hx
    · simp at hx; subst hx; exact hb
  · rw [List.length_append, List.length_singleton, show bs.length + 1 - 1 = bs.length by omega, List.getD_eq_getElem?_getD, List.getElem?_append_right (Nat.le_refl _), Nat.sub_self]
    simpa [hf] using hlt

structure Sch (l : List Ht) (most ticks : Int) : Prop where
  len : l.length ≤ most
  all : ∀ h ∈ l, HtOK h ∧ h.ticks ≤ ticks
theorem Sch.sum {l : List Ht} {most ticks : Int} (h : ∀ x ∈ l, HtOK x ∧ x.ticks ≤ ticks) : lenOfL l ≤ l.length * ticks := by
  induction l with
  | nil => simp [lenOfL]
  | cons a l ih =>
    have h1 := (h a (by simp)).2
    have h2 := ih fun x hx => h x (by simp [hx])
    simp only [lenOfL, List.length_cons]
    rw [show ((l.length + 1 : Nat) : Int) * ticks = l.length * ticks + ticks by push_cast; rw [Int.add_mul, Int.one_mul]]
    omega
theorem Sch.ok {l : List Ht} {most ticks : Int} (h : Sch l most ticks) (h1 : most ≤ 40) (h2 : 1 ≤ ticks) (h3 : most * ticks ≤ 20000) : LsOK l := by
  have hl := h.len
  refine ⟨by omega, fun x hx => (h.all x hx).1, Int.le_trans (Sch.sum (most := most) h.all) (Int.le_trans (Int.mul_le_mul_of_nonneg_right hl (by omega)) h3)⟩
theorem Sch.snoc {l : List Ht} {most ticks : Int} {x : Ht} (h : Sch l most ticks) (hx : HtOK x ∧ x.ticks ≤ ticks) (hl : l.length + 1 ≤ most) : Sch (l ++ [x]) most ticks := by
  refine ⟨by simp; omega, fun y hy => ?_⟩
  rcases List.mem_append.1 hy with hy | hy
  · exact h.all y hy
  · simp at hy; subst hy; exact hx

structure CtSub (n c : Ct) : Prop where
  amount : n.amount = c.amount
  slew : n.slew = c.slew
  aid : RgSub n.aid c.aid
  len : n.bands.length = c.bands.length
  bands : ∀ i, i < c.bands.length → BdSub (n.bands.getD i default) (c.bands.getD i default)
theorem CgOK.of {n c : Ct} (h : n.amount = c.amount) {x : Cg} (hx : CgOK n x) : CgOK c x := ⟨h ▸ hx.carb, h ▸ hx.ox, h ▸ hx.ba, h ▸ hx.lost, h ▸ hx.gas, hx.wear, hx.heat⟩

structure Part (c : Ct) (bs : List Bd) (i : Nat) : Prop where
  len : bs.length = c.bands.length
  done : ∀ k, k < i → k < c.bands.length → BdSub (bs.getD k default) (c.bands.getD k default) ∧ BdOK (bs.getD k default)
  rest : ∀ k, i ≤ k → bs.getD k default = c.bands.getD k default
theorem Part.zero (c : Ct) : Part c c.bands 0 := ⟨rfl, fun k hk => by omega, fun k _ => rfl⟩
theorem Part.coat {c : Ct} {bs : List Bd} {aid : Rg} (h : Part c bs c.bands.length) (hc : CtOK c) (ha : RgIn aid 1000000) (hs : RgSub aid c.aid) :
    CtOK ⟨c.amount, c.slew, aid, c.yld, bs⟩ ∧ CtSub ⟨c.amount, c.slew, aid, c.yld, bs⟩ c := by
  have hl := h.len
  have hcl := hc.len
  have hd : ∀ i, i < c.bands.length → BdSub (bs.getD i default) (c.bands.getD i default) := fun i hi => (h.done i hi hi).1
  refine ⟨⟨hc.amount, hc.slew, ha, hc.yld, ?_, ?_, ?_, ?_⟩, ⟨rfl, rfl, hs, hl, hd⟩⟩
  · dsimp only; omega
  · dsimp only; rw [(hd 0 (by omega)).frm]; exact hc.first
  · intro i hi
    dsimp only at hi ⊢
    rw [(hd i (by omega)).frm, (hd (i + 1) (by omega)).frm]
    exact hc.asc i (by omega)
  · intro b hb
    obtain ⟨i, hi, rfl⟩ := List.getElem_of_mem hb
    dsimp only at hi
    have := (h.done i (by omega) (by omega)).2
    rwa [List.getD_eq_getElem?_getD, List.getElem?_eq_getElem hi] at this

theorem LsOK.snoc {l : List Ht} {z : Ht} (hl : ∀ x ∈ l, HtOK x) (hz : HtOK z) (h1 : l.length + 1 ≤ 40) (h2 : lenOfL l + z.ticks ≤ 20000) : LsOK (l ++ [z]) := by
  refine ⟨by simp; omega, fun x hx => ?_, by rw [lenOfL_app]; simpa [lenOfL] using h2⟩
  rcases List.mem_append.1 hx with hx | hx
  · exact hl x hx
  · simp at hx; subst hx; exact hz

def zeroB (b : Bd) : Bd := ⟨b.frm, ⟨0, 0⟩, ⟨0, 0⟩, ⟨0, 0⟩, ⟨0, 0⟩⟩
structure Zer (c : Ct) (bs : List Bd) (i : Nat) : Prop where
  len : bs.length = c.bands.length
  done : ∀ k, k < i → k < c.bands.length → bs.getD k default = zeroB (c.bands.getD k default)
  rest : ∀ k, i ≤ k → bs.getD k default = c.bands.getD k default
theorem Zer.zero (c : Ct) : Zer c c.bands 0 := ⟨rfl, fun k hk => by omega, fun k _ => rfl⟩
theorem Zer.coat {c : Ct} {bs : List Bd} (h : Zer c bs c.bands.length) (hc : CtOK c) : CtOK ⟨c.amount, c.slew, ⟨0, 0⟩, c.yld, bs⟩ := by
  have hl := h.len
  have hcl := hc.len
  have hd : ∀ i, i < c.bands.length → bs.getD i default = zeroB (c.bands.getD i default) := fun i hi => h.done i hi hi
  refine ⟨hc.amount, hc.slew, ⟨by simp, by simp, by simp⟩, hc.yld, ?_, ?_, ?_, ?_⟩
  · dsimp only; omega
  · dsimp only; rw [hd 0 (by omega)]; exact hc.first
  · intro i hi
    dsimp only at hi ⊢
    rw [hd i (by omega), hd (i + 1) (by omega)]
    exact hc.asc i (by omega)
  · intro b hb
    obtain ⟨i, hi, rfl⟩ := List.getElem_of_mem hb
    dsimp only at hi
    have e := hd i (by omega)
    rw [List.getD_eq_getElem?_getD, List.getElem?_eq_getElem hi] at e
    have e2 : bs[i] = zeroB (c.bands.getD i default) := e
    show BdOK bs[i]
    rw [e2]
    have := hc.bands (c.bands.getD i default) (by rw [List.getD_eq_getElem?_getD, List.getElem?_eq_getElem (by omega)]; exact List.getElem_mem (by omega))
    exact ⟨this.frm, ⟨by simp [zeroB], by simp [zeroB], by simp [zeroB]⟩, ⟨by simp [zeroB], by simp [zeroB], by simp [zeroB]⟩, ⟨by simp [zeroB], by simp [zeroB], by simp [zeroB]⟩, ⟨by simp [zeroB], by simp [zeroB], by simp [zeroB]⟩⟩
theorem up_zero (a : Int) : up a 0 = 0 := by unfold up; rw [Int.mul_zero]; rfl
theorem dn_zero (a : Int) : dn a 0 = 0 := by unfold dn; rw [Int.mul_zero]; rfl
theorem Zer.after {c : Ct} {bs : List Bd} (h : Zer c bs c.bands.length) (hc : CtOK c) {x : Cg} (hx : CgOK c x) {heat cur : Int} (hh : 0 ≤ heat ∧ heat ≤ 2000) :
    after ⟨c.amount, c.slew, ⟨0, 0⟩, c.yld, bs⟩ x heat cur = { x with gas := ⟨0, 0⟩, heat := moved x.heat heat c.slew } := by
  have hm := moved_in hx.heat hh hc.slew.1
  have hn := h.coat hc
  have h1 := aboveN_pos hn.len.1 hn.first hm.1
  have h2 := aboveN_le bs (moved x.heat heat c.slew)
  have hl := h.len
  dsimp only at h1
  have hb : bandAt bs (moved x.heat heat c.slew) = zeroB (c.bands.getD (aboveN bs (moved x.heat heat c.slew) - 1) default) := h.done _ (by omega) (by omega)
  unfold Go.Proofs.after
  dsimp only
  have hr : ratesAt ⟨c.amount, c.slew, ⟨0, 0⟩, c.yld, bs⟩ (moved x.heat heat c.slew) cur = zeroB (c.bands.getD (aboveN bs (moved x.heat heat c.slew) - 1) default) := by
    unfold ratesAt
    dsimp only
    rw [hb]
    simp [zeroB, mi]
  rw [hr]
  have c1 := hx.carb.hi; have c2 := hx.ox.hi; have c3 := hx.ba.hi; have c4 := hx.lost.hi
  have m0 : ∀ a : Int, a ≤ c.amount → mi a c.amount = a := fun a ha => by unfold mi; split <;> omega
  have m1 : mi 0 c.amount = 0 := m0 0 (by have := hc.amount; omega)
  unfold afterB
  simp only [zeroB, remains, parts, sumR, cut, up_zero, dn_zero, Int.sub_zero, Int.add_zero, m0 _ c1, m0 _ c2, m0 _ c3, m0 _ c4, m1]
end Go.Proofs

namespace Go.Proofs
open Go Go.Sx

theorem within_ok (n a b : Int) : Ans Try.prog n_cathode_within [.int .i64 n, .int .i64 a, .int .i64 b] [] (.bool (decide (a ≤ n) && decide (n ≤ b))) [] := by
  refine spec_run e_cathode_within fun G => ?_
  simp only [go_sem]
  refine ⟨fun h => ?_, fun h => ?_⟩ <;> simp [h]
theorem within_yes {n a b : Int} (h : a ≤ n ∧ n ≤ b) : Ans Try.prog n_cathode_within [.int .i64 n, .int .i64 a, .int .i64 b] [] (.bool true) [] := by
  have := within_ok n a b
  rwa [show (decide (a ≤ n) && decide (n ≤ b)) = true by simp [h]] at this

theorem idx_next {i n : Nat} (h : i < n) (hn : n ≤ 9223372036854775807) : IntKind.i64.wrap ((i : Int) + 1) = ((i + 1 : Nat) : Int) := by rw [IntWalk.i64_in _ (by omega)]; rfl

theorem checkRanges_ok (m : Int) (rs : List Rg) (h : ∀ r ∈ rs, RgIn r m) (hl : rs.length ≤ 1000) : Ans Try.prog n_cathode_checkRanges [.int .i64 m, .view (rs.map Rg.v)] [] (.int .i64 0) [] := by
  refine spec_run e_cathode_checkRanges fun G => ?_
  simp only [go_sem]
  refine loop_ind k_cathode_checkRanges_r9.eq_1 (fun a : Nat × Heap => a.1 ≤ rs.length) (fun a => rs.length - a.1)
    (fun a => ([.int .i64 m, .view (rs.map Rg.v), .any, .any, .int .i64 0, .any, .any, .view (rs.map Rg.v), .int .i64 rs.length, .int .i64 a.1] ++ List.replicate 21 .any, a.2)) (0, []) (Nat.zero_le _) (by simp [Wk]) rfl ?_
  rintro ⟨i, X⟩ hi ih
  dsimp only at hi ih ⊢
  by_cases h1 : i < rs.length
  · have h2 : (i : Int) < rs.length := by omega
    obtain ⟨r1, r2, r3⟩ := h _ (List.getElem_mem h1)
    have hx : rs[i]? = some rs[i] := List.getElem?_eq_getElem h1
    have h3 := idx_next h1 (by omega)
    generalize rs[i] = z at *
    have r4 : ¬ z.hi < z.lo := by omega
    simp only [go_sem, hx, h2, Rg.v]
    refine cP (within_yes ⟨r1, by omega⟩) ?_
    simp only [go_sem]
    refine cP (within_yes ⟨by omega, r3⟩) ?_
    simp only [go_sem, r4, h3]
    exact ih (i + 1, _) (by dsimp only; omega) h1 _ (by simp [Wk])
  · have h2 : ¬ (i : Int) < rs.length := by omega
    simp only [go_sem, h2]

theorem partDown_ok (a r : Int) (ha : 0 ≤ a ∧ a ≤ 1000000) (hr : 0 ≤ r ∧ r ≤ 1000000) : Ans Try.prog n_cathode_partDown [.int .i64 a, .int .i64 r] [] (.int .i64 (dn a r)) [] := by
  have h1 := mul_rng ha.1 ha.2 hr.1 hr.2
  have h2 : IntKind.i64.wrap (a * r) = a * r := w64 (by omega)
  have h3 : (a * r).tdiv 1000000 = dn a r := Int.tdiv_eq_ediv_of_nonneg h1.1
  have h4 : IntKind.i64.wrap (dn a r) = dn a r := w64 (by have := dn_in ha.1 hr.1 hr.2; omega)
  refine spec_run e_cathode_partDown fun G => ?_
  simp only [go_sem, h2, h3, h4]
theorem partUp_ok (a r : Int) (ha : 0 ≤ a ∧ a ≤ 1000000) (hr : 0 ≤ r ∧ r ≤ 1000000) : Ans Try.prog n_cathode_partUp [.int .i64 a, .int .i64 r] [] (.int .i64 (up a r)) [] := by
  have h1 := mul_rng ha.1 ha.2 hr.1 hr.2
  have h2 : IntKind.i64.wrap (a * r) = a * r := w64 (by omega)
  have h5 : IntKind.i64.wrap (a * r + 1000000) = a * r + 1000000 := w64 (by omega)
  have h6 : IntKind.i64.wrap (a * r + 1000000 - 1) = a * r + 999999 := by rw [w64 (by omega)]; omega
  have h3 : (a * r + 999999).tdiv 1000000 = up a r := Int.tdiv_eq_ediv_of_nonneg (by omega)
  have h4 : IntKind.i64.wrap (up a r) = up a r := w64 (by have := up_in ha.1 hr.1 hr.2; omega)
  refine spec_run e_cathode_partUp fun G => ?_
  simp only [go_sem, h2, h5, h6, h3, h4]

structure RgB (r : Rg) : Prop where
  lo : 0 ≤ r.lo ∧ r.lo ≤ 1000000
  hi : 0 ≤ r.hi ∧ r.hi ≤ 1000000
theorem RgIn.b {r : Rg} {m : Int} (h : RgIn r m) (hm : m ≤ 1000000) : RgB r := by
  obtain ⟨a, b, c⟩ := h
  exact ⟨⟨a, by omega⟩, ⟨by omega, by omega⟩⟩

theorem parts_ok (a r : Rg) (ha : RgB a) (hr : RgB r) : Ans Try.prog n_cathode_parts [a.v, r.v] [] (parts a r).v [] := by
  refine spec_run e_cathode_parts fun G => ?_
  simp only [go_sem, Rg.v]
  refine dP (partDown_ok _ _ ha.lo hr.lo) ?_
  simp only [go_sem]
  refine cP (partUp_ok _ _ ha.hi hr.hi) ?_
  simp only [go_sem, parts]

theorem remains_ok (a r : Rg) (ha : RgB a) (hr : RgB r) : Ans Try.prog n_cathode_remains [a.v, r.v] [] (remains a r).v [] := by
  have u := up_in ha.lo.1 hr.hi.1 hr.hi.2
  have d := dn_in ha.hi.1 hr.lo.1 hr.lo.2
  have h1 := ha.lo; have h2 := ha.hi
  have e1 : IntKind.i64.wrap (a.lo - up a.lo r.hi) = a.lo - up a.lo r.hi := w64 (by omega)
  have e2 : IntKind.i64.wrap (a.hi - dn a.hi r.lo) = a.hi - dn a.hi r.lo := w64 (by omega)
  refine spec_run e_cathode_remains fun G => ?_
  simp only [go_sem, Rg.v]
  refine dP (partUp_ok _ _ ha.lo hr.hi) ?_
  simp only [go_sem, e1]
  refine dP (partDown_ok _ _ ha.hi hr.lo) ?_
  simp only [go_sem, e2, remains]

theorem sum_ok (a b : Rg) (h : -1000000000000000 ≤ a.lo ∧ a.lo ≤ 1000000000000000) (h2 : -1000000000000000 ≤ a.hi ∧ a.hi ≤ 1000000000000000) (h3 : -1000000000000000 ≤ b.lo ∧ b.lo ≤ 1000000000000000) (h4 : -1000000000000000 ≤ b.hi ∧ b.hi ≤ 1000000000000000) :
    Ans Try.prog n_cathode_sum [a.v, b.v] [] (sumR a b).v [] := by
  have e1 : IntKind.i64.wrap (a.lo + b.lo) = a.lo + b.lo := w64 (by omega)
  have e2 : IntKind.i64.wrap (a.hi + b.hi) = a.hi + b.hi := w64 (by omega)
  refine spec_run e_cathode_sum fun G => ?_
  simp only [go_sem, Rg.v, e1, e2, sumR]

theorem moved_ok (h a s : Int) (hh : 0 ≤ h ∧ h ≤ 2000) (ha : 0 ≤ a ∧ a ≤ 2000) (hs : 1 ≤ s ∧ s ≤ 2000) : Ans Try.prog n_cathode_moved [.int .i64 h, .int .i64 a, .int .i64 s] [] (.int .i64 (moved h a s)) [] := by
  have e1 : IntKind.i64.wrap (h - s) = h - s := w64 (by omega)
  have e2 : IntKind.i64.wrap (h + s) = h + s := w64 (by omega)
  refine spec_run e_cathode_moved fun G => ?_
  simp only [go_sem, e1, e2, moved, mi, mx]
  rfl
end Go.Proofs

namespace Go.Proofs
open Go Go.Sx

def Tk (b : Bd) (x y : Cg) : Row := .cells false 35 [.agg (b.cs ++ x.cs ++ y.cs)]
@[go_sem] theorem tk_bel (b : Bd) (x y : Cg) (S : Nat → Prop) : (Tk b x y).bel S = True := by
  unfold Tk; rw [row_bel_cells]; simp only [go_sem, Bd.cs, Cg.cs]

structure TkOK (b : Bd) (x : Cg) : Prop where
  conv : RgB b.conv
  red : RgB b.red
  evap : RgB b.evap
  sint : RgB b.sint
  carb : RgB x.carb
  ox : RgB x.ox
  ba : RgB x.ba
  lost : RgB x.lost
  wear : 0 ≤ x.wear.lo ∧ x.wear.lo ≤ 100000000000000 ∧ 0 ≤ x.wear.hi ∧ x.wear.hi ≤ 100000000000000

theorem parts_b {a r : Rg} (ha : RgB a) (hr : RgB r) : 0 ≤ (parts a r).lo ∧ (parts a r).lo ≤ 1000000 ∧ 0 ≤ (parts a r).hi ∧ (parts a r).hi ≤ 1000000 := by
  have u := up_in ha.hi.1 hr.hi.1 hr.hi.2
  have d := dn_in ha.lo.1 hr.lo.1 hr.lo.2
  have h1 := ha.lo; have h2 := ha.hi
  simp only [parts]; omega
theorem remains_b {a r : Rg} (ha : RgB a) (hr : RgB r) : 0 ≤ (remains a r).lo ∧ (remains a r).lo ≤ 1000000 ∧ 0 ≤ (remains a r).hi ∧ (remains a r).hi ≤ 1000000 := by
  have u := up_in ha.lo.1 hr.hi.1 hr.hi.2
  have d := dn_in ha.hi.1 hr.lo.1 hr.lo.2
  have h1 := ha.lo; have h2 := ha.hi
  simp only [remains]; omega

theorem gas_ok (b : Bd) (x y : Cg) (h : TkOK b x) : Ans Try.prog n_cathode_tick_gas [.ptr 0 0 0 1] [some (Tk b x y)] (.tup []) [some (Tk b x { y with gas := parts x.carb b.conv })] := by
  refine spec_run e_cathode_tick_gas fun G => ?_
  simp only [go_sem, Tk, Bd.cs, Cg.cs]
  refine dP (parts_ok _ _ h.carb h.conv) ?_
  simp only [go_sem, Rg.v]
  exact ⟨_, rfl⟩

theorem carbonate_ok (b : Bd) (x y : Cg) (h : TkOK b x) : Ans Try.prog n_cathode_tick_carbonate [.ptr 0 0 0 1] [some (Tk b x y)] (.tup []) [some (Tk b x { y with carb := remains x.carb b.conv })] := by
  refine spec_run e_cathode_tick_carbonate fun G => ?_
  simp only [go_sem, Tk, Bd.cs, Cg.cs]
  refine dP (remains_ok _ _ h.carb h.conv) ?_
  simp only [go_sem, Rg.v]
  exact ⟨_, rfl⟩

theorem oxide_ok (b : Bd) (x y : Cg) (h : TkOK b x) (hg : 0 ≤ y.gas.lo ∧ y.gas.lo ≤ 1000000 ∧ 0 ≤ y.gas.hi ∧ y.gas.hi ≤ 1000000) :
    Ans Try.prog n_cathode_tick_oxide [.ptr 0 0 0 1] [some (Tk b x y)] (.tup []) [some (Tk b x { y with ox := sumR (remains x.ox b.red) y.gas })] := by
  have hr := remains_b h.ox h.red
  refine spec_run e_cathode_tick_oxide fun G => ?_
  simp only [go_sem, Tk, Bd.cs, Cg.cs]
  refine dP (remains_ok _ _ h.ox h.red) ?_
  simp only [go_sem, Rg.v]
  refine dP (sum_ok _ y.gas (by omega) (by omega) (by omega) (by omega)) ?_
  simp only [go_sem, Rg.v]
  exact ⟨_, rfl⟩

theorem barium_ok (b : Bd) (x y : Cg) (h : TkOK b x) :
    Ans Try.prog n_cathode_tick_barium [.ptr 0 0 0 1] [some (Tk b x y)] (.tup []) [some (Tk b x { y with ba := sumR (remains x.ba b.evap) (parts x.ox b.red) })] := by
  have hr := remains_b h.ba h.evap
  have hp := parts_b h.ox h.red
  refine spec_run e_cathode_tick_barium fun G => ?_
  simp only [go_sem, Tk, Bd.cs, Cg.cs]
  refine dP (remains_ok _ _ h.ba h.evap) ?_
  simp only [go_sem, Rg.v]
  refine dP (parts_ok _ _ h.ox h.red) ?_
  simp only [go_sem, Rg.v]
  refine dP (sum_ok (remains x.ba b.evap) (parts x.ox b.red) (by omega) (by omega) (by omega) (by omega)) ?_
  simp only [go_sem, Rg.v]
  exact ⟨_, rfl⟩

theorem lost_ok (b : Bd) (x y : Cg) (h : TkOK b x) :
    Ans Try.prog n_cathode_tick_lost [.ptr 0 0 0 1] [some (Tk b x y)] (.tup []) [some (Tk b x { y with lost := sumR x.lost (parts x.ba b.evap) })] := by
  have hp := parts_b h.ba h.evap
  have h1 := h.lost.lo; have h2 := h.lost.hi
  refine spec_run e_cathode_tick_lost fun G => ?_
  simp only [go_sem, Tk, Bd.cs, Cg.cs]
  refine dP (parts_ok _ _ h.ba h.evap) ?_
  simp only [go_sem, Rg.v]
  refine dP (sum_ok x.lost (parts x.ba b.evap) (by omega) (by omega) (by omega) (by omega)) ?_
  simp only [go_sem, Rg.v]
  exact ⟨_, rfl⟩

theorem wear_ok (b : Bd) (x y : Cg) (h : TkOK b x) :
    Ans Try.prog n_cathode_tick_wear [.ptr 0 0 0 1] [some (Tk b x y)] (.tup []) [some (Tk b x { y with wear := sumR x.wear b.sint })] := by
  have h0 := h.wear
  have h1 := h.sint.lo; have h2 := h.sint.hi
  refine spec_run e_cathode_tick_wear fun G => ?_
  simp only [go_sem, Tk, Bd.cs, Cg.cs]
  refine dP (sum_ok x.wear b.sint (by omega) (by omega) (by omega) (by omega)) ?_
  simp only [go_sem, Rg.v]
  exact ⟨_, rfl⟩

theorem ratesAt1_ok (c : Ct) (bs : List Bd) (h : Int) (i : Nat) (hi : i < bs.length) :
    Ans Try.prog n_cathode_ratesAt_1 [.int .i64 i, .rptr (c.v (.view (bs.map Bd.v))) 0, .rptr (.int .i64 h) 0] [] (.bool (decide (h < (bs.getD i default).frm))) [] := by
  have hx : bs[i]? = some bs[i] := List.getElem?_eq_getElem hi
  refine spec_run e_cathode_ratesAt_1 fun G => ?_
  simp only [go_sem, Ct.v, Ct.cs, hx, Bd.v, Bd.cs, List.getD_eq_getElem?_getD, Option.getD_some]
end Go.Proofs

namespace Go.Proofs
open Go Go.Sx

theorem shr_u64 (x n : Int) : shrW .u64 x n = x / 2 ^ (min n.toNat 64) := by
  unfold shrW; rw [Int.fdiv_eq_ediv_of_nonneg _ (by exact Int.pow_nonneg (by decide))]; rfl
theorem s1 (x : Int) : shrW .u64 x 1 = x / 2 := by rw [shr_u64]; rfl

theorem search_ok (n : Nat) (hn : n ≤ 1000000000) (g : Nat) (cs : List AVal) (hcs : Bels (fun _ => False) cs) (m : Nat) (hm : m ≤ n)
    (hp : ∀ i : Nat, i < n → Ans Try.prog g (.int .i64 i :: cs) [] (.bool (decide (m ≤ i))) []) : Ans Try.prog n_sort_Search [.int .i64 n, .fn (.func g) [] cs] [] (.int .i64 m) [] := by
  refine spec_run e_sort_Search fun G => ?_
  simp only [go_sem]
  refine loop_ind k_sort_Search_r7.eq_1 (fun a : Nat × Nat => a.1 ≤ m ∧ m ≤ a.2 ∧ a.2 ≤ n) (fun a => a.2 - a.1)
    (fun a => ([.int .i64 n, .fn (.func g) [] cs, .any, .any, .int .i64 0, .int .i64 a.1, .int .i64 a.2] ++ List.replicate 19 .any, [])) (0, n) ⟨Nat.zero_le _, hm, Nat.le_refl _⟩ (by simp [Wk]) rfl ?_
  rintro ⟨i, j⟩ ⟨hi, hj, hjn⟩ ih
  dsimp only at hi hj hjn ih ⊢
  by_cases h1 : i < j
  · have h2 : (i : Int) < j := by omega
    have e1 : IntKind.i64.wrap ((i : Int) + j) = i + j := w64 (by omega)
    have e2 : IntKind.u64.wrap ((i : Int) + j) = i + j := IntWalk.u64_in _ (by omega)
    have e3 : IntKind.i64.wrap (((i : Int) + j) / 2) = (((i + j) / 2 : Nat) : Int) := by rw [w64 (by omega)]; omega
    have e4 := idx_next (i := (i + j) / 2) (n := n) (by omega) (by omega)
    have hq := hp ((i + j) / 2) (by omega)
    simp only [go_sem, h2, e1, e2, s1, e3]
    refine cP hq ?_ ⟨.int _ _, hcs⟩
    by_cases h3 : m ≤ (i + j) / 2
    · simp only [go_sem, h3]
      exact ih (i, (i + j) / 2) (by dsimp only; omega) ⟨hi, h3, by omega⟩ _ (by simp [Wk])
    · simp only [go_sem, h3, e4]
      exact ih ((i + j) / 2 + 1, j) (by dsimp only; omega) ⟨by dsimp only; omega, hj, hjn⟩ _ (by simp [Wk])
  · have h2 : ¬ (i : Int) < j := by omega
    simp only [go_sem, h2]
    omega

@[go_sem] theorem bd_frz (b : Bd) (d : Nat) (H : Heap) : frz (d + 2) H b.v = b.v := rfl
@[go_sem] theorem bd_bel (b : Bd) (S : Nat → Prop) : Bel S b.v = True := by unfold Bd.v Bd.cs; simp only [go_sem]
@[go_sem] theorem bds_bel (bs : List Bd) (S : Nat → Prop) : Bels S (bs.map Bd.v) = True := eq_true (bels_map _ _ fun b => by simp only [go_sem])
@[go_sem] theorem bd_nv (b : Bd) : NV b.v = True := by unfold Bd.v Bd.cs; simp only [go_sem]
theorem bds_frz (bs : List Bd) (d : Nat) (H : Heap) : (bs.map Bd.v).map (frz (d + 2) H) = bs.map Bd.v := by rw [List.map_map]; rfl

theorem ratesAt_run (c : Ct) (hc : CtOK c) (h cur : Int) (hh : 0 ≤ h) (hcur : 0 ≤ cur ∧ cur ≤ 1000) :
    Ans Try.prog n_cathode_ratesAt [c.v (.view (c.bands.map Bd.v)), .int .i64 h, .int .i64 cur] [] (ratesAt c h cur).v [] := by
  have p1 := aboveN_pos hc.len.1 hc.first hh
  have p2 := aboveN_le c.bands h
  have p3 := hc.len.2
  have hs := search_ok c.bands.length (by omega) n_cathode_ratesAt_1 [.rptr (c.v (.view (c.bands.map Bd.v))) 0, .rptr (.int .i64 h) 0] (by simp only [go_sem, Ct.v, Ct.cs]) (aboveN c.bands h) p2 (fun i hi => by
    have := ratesAt1_ok c c.bands h i hi
    have e := aboveN_spec (h := h) hc.asc i hi
    rwa [show decide (h < (c.bands.getD i default).frm) = decide (aboveN c.bands h ≤ i) from decide_eq_decide.2 (by omega)] at this)
  have hx : c.bands[aboveN c.bands h - 1]? = some (bandAt c.bands h) := by
    unfold bandAt
    rw [List.getD_eq_getElem?_getD, List.getElem?_eq_getElem (by omega)]; rfl
  have hb := (bandAt_ok hc hh).red
  have a1 := mul_rng hcur.1 hcur.2 hc.aid.lo (Int.le_trans hc.aid.le hc.aid.hi)
  have a2 := mul_rng hcur.1 hcur.2 (Int.le_trans hc.aid.lo hc.aid.le) hc.aid.hi
  obtain ⟨b1, b2, b3⟩ := hb
  have e0 : IntKind.i64.wrap ((aboveN c.bands h : Int) - 1) = ((aboveN c.bands h - 1 : Nat) : Int) := by rw [w64 (by omega)]; omega
  have e1 : IntKind.i64.wrap (cur * c.aid.lo) = cur * c.aid.lo := w64 (by omega)
  have e2 : IntKind.i64.wrap (cur * c.aid.hi) = cur * c.aid.hi := w64 (by omega)
  unfold ratesAt
  generalize bandAt c.bands h = b at *
  have e3 : IntKind.i64.wrap (b.red.lo + cur * c.aid.lo) = b.red.lo + cur * c.aid.lo := w64 (by omega)
  have e4 : IntKind.i64.wrap (b.red.hi + cur * c.aid.hi) = b.red.hi + cur * c.aid.hi := w64 (by omega)
  have n0 : ¬ ((aboveN c.bands h - 1 : Nat) : Int) < 0 := by omega
  refine spec_run e_cathode_ratesAt fun G => ?_
  simp only [go_sem, Ct.v, Ct.cs]
  refine callF0 hs 6 (by simp only [go_sem, frz, bds_frz, Ct.v, Ct.cs]) ?_
  simp only [go_sem, e0, hx, n0, Bd.v, Bd.cs, e1, e2, e3, e4, mi]
end Go.Proofs

namespace Go.Proofs
open Go Go.Sx

structure CgB (x : Cg) : Prop where
  carb : RgB x.carb
  ox : RgB x.ox
  ba : RgB x.ba
  lost : RgB x.lost
  wear : 0 ≤ x.wear.lo ∧ x.wear.lo ≤ 100000000000000 ∧ 0 ≤ x.wear.hi ∧ x.wear.hi ≤ 100000000000000
  heat : 0 ≤ x.heat ∧ x.heat ≤ 2000

theorem CgOK.b {c : Ct} {x : Cg} (hm : c.amount ≤ 1000000) (h : CgOK c x) : CgB x := by
  have hw := h.wear.all
  exact ⟨h.carb.b hm, h.ox.b hm, h.ba.b hm, h.lost.b hm, by omega, h.heat⟩

set_option maxRecDepth 4000 in
theorem after_run (c : Ct) (hc : CtOK c) (x : Cg) (hx : CgB x) (heat cur : Int) (hh : 0 ≤ heat ∧ heat ≤ 2000) (hcur : 0 ≤ cur ∧ cur ≤ 1000) :
    Ans Try.prog n_cathode_after [c.v (.view (c.bands.map Bd.v)), x.v, .int .i64 heat, .int .i64 cur] [] (after c x heat cur).v [] := by
  have hm := moved_ok x.heat heat c.slew hx.heat hh hc.slew
  have hmi := moved_in hx.heat hh hc.slew.1
  have hr := ratesAt_run c hc (moved x.heat heat c.slew) cur hmi.1 hcur
  have hb := ratesAt_ok hc hmi.1 hcur
  unfold after
  generalize moved x.heat heat c.slew = h at *
  generalize ratesAt c h cur = b at *
  have tk : TkOK b x := ⟨hb.conv.b (by decide), hb.red.b (by decide), hb.evap.b (by decide), hb.sint.b (by decide), hx.carb, hx.ox, hx.ba, hx.lost, hx.wear⟩
  have u1 : IntKind.i64.wrap 1 = 1 := rfl
  have u2 : IntKind.i64.wrap 2 = 2 := rfl
  have u3 : IntKind.i64.wrap 3 = 3 := rfl
  have u4 : IntKind.i64.wrap 4 = 4 := rfl
  have u5 : IntKind.i64.wrap 5 = 5 := rfl
  have u6 : IntKind.i64.wrap 6 = 6 := rfl
  refine spec_run e_cathode_after fun G => ?_
  simp only [go_sem, Ct.v, Ct.cs, Cg.v, Cg.cs]
  refine cP hm ?_
  simp only [go_sem]
  refine cP hr ?_
  simp only [go_sem, Bd.v, Bd.cs]
  refine loop_body 200 k_cathode_after_r9.eq_1 ?_
  simp only [go_sem]
  refine cD (gas_ok b x ⟨⟨0, 0⟩, ⟨0, 0⟩, ⟨0, 0⟩, ⟨0, 0⟩, ⟨0, 0⟩, ⟨0, 0⟩, h⟩ tk) ?_
  simp only [go_sem, u1]
  refine loop_body 200 k_cathode_after_r9.eq_1 ?_
  simp only [go_sem]
  refine cD (carbonate_ok b x ⟨⟨0, 0⟩, ⟨0, 0⟩, ⟨0, 0⟩, ⟨0, 0⟩, parts x.carb b.conv, ⟨0, 0⟩, h⟩ tk) ?_
  simp only [go_sem, u2]
  refine loop_body 200 k_cathode_after_r9.eq_1 ?_
  simp only [go_sem]
  refine cD (oxide_ok b x ⟨remains x.carb b.conv, ⟨0, 0⟩, ⟨0, 0⟩, ⟨0, 0⟩, parts x.carb b.conv, ⟨0, 0⟩, h⟩ tk (parts_b tk.carb tk.conv)) ?_
  simp only [go_sem, u3]
  refine loop_body 200 k_cathode_after_r9.eq_1 ?_
  simp only [go_sem]
  refine cD (barium_ok b x ⟨remains x.carb b.conv, sumR (remains x.ox b.red) (parts x.carb b.conv), ⟨0, 0⟩, ⟨0, 0⟩, parts x.carb b.conv, ⟨0, 0⟩, h⟩ tk) ?_
  simp only [go_sem, u4]
  refine loop_body 200 k_cathode_after_r9.eq_1 ?_
  simp only [go_sem]
  refine cD (lost_ok b x ⟨remains x.carb b.conv, sumR (remains x.ox b.red) (parts x.carb b.conv), sumR (remains x.ba b.evap) (parts x.ox b.red), ⟨0, 0⟩, parts x.carb b.conv, ⟨0, 0⟩, h⟩ tk) ?_
  simp only [go_sem, u5]
  refine loop_body 200 k_cathode_after_r9.eq_1 ?_
  simp only [go_sem]
  refine cD (wear_ok b x ⟨remains x.carb b.conv, sumR (remains x.ox b.red) (parts x.carb b.conv), sumR (remains x.ba b.evap) (parts x.ox b.red), sumR x.lost (parts x.ba b.evap), parts x.carb b.conv, ⟨0, 0⟩, h⟩ tk) ?_
  simp only [go_sem, u6]
  refine loop_body 200 k_cathode_after_r9.eq_1 ?_
  simp only [go_sem, Tk, Bd.cs, Cg.cs]
  refine loop_body 200 k_cathode_after_r15.eq_1 ?_
  simp only [go_sem, u1]
  refine loop_body 200 k_cathode_after_r15.eq_1 ?_
  simp only [go_sem, u2]
  refine loop_body 200 k_cathode_after_r15.eq_1 ?_
  simp only [go_sem, u3]
  refine loop_body 200 k_cathode_after_r15.eq_1 ?_
  simp only [go_sem, u4]
  refine loop_body 200 k_cathode_after_r15.eq_1 ?_
  simp only [go_sem, u5]
  refine loop_body 200 k_cathode_after_r15.eq_1 ?_
  simp only [go_sem]
  simp only [afterB, cut, mi]
end Go.Proofs

namespace Go.Proofs
open Go Go.Sx

theorem Check_run (c : Ct) (hc : CtOK c) : Ans Try.prog n_cathode_Check [c.v (.view (c.bands.map Bd.v))] [] (.int .i64 0) [] := by
  have h1 := hc.amount; have h2 := hc.slew; have h3 := hc.aid; have h4 := hc.yld; have h5 := hc.len
  have g1 := checkRanges_ok 1000000 [c.aid, c.yld] (by simp [h3, h4]) (by simp)
  have k1 : ¬ ((c.bands.length : Int) = 0) := by omega
  have k2 : ¬ ((16 : Int) < c.bands.length) := by omega
  refine spec_run e_cathode_Check fun G => ?_
  simp only [go_sem, Ct.v, Ct.cs]
  refine cP (within_yes h1) ?_
  simp only [go_sem]
  refine cP (within_yes h2) ?_
  simp only [go_sem]
  refine callF0 g1 6 (by simp only [go_sem, frz, Rg.v]) ?_
  simp only [go_sem, k1, k2]
  refine loop_ind k_cathode_Check_r21.eq_1 (fun a : Nat × Heap => a.1 ≤ c.bands.length) (fun a => c.bands.length - a.1)
    (fun a => (tsets 83 [(1, .ptr 0 0 0 1), (2, .int .i64 0), (35, .view (c.bands.map Bd.v)), (36, .int .i64 c.bands.length), (37, .int .i64 a.1)], some (.cells false 7 [c.v (.view (c.bands.map Bd.v))]) :: a.2)) (0, [_]) (Nat.zero_le _) (by simp [go_sem]) rfl ?_
  rintro ⟨i, X⟩ hi ih
  dsimp only at hi ih ⊢
  by_cases h1 : i < c.bands.length
  · have h2 : (i : Int) < c.bands.length := by omega
    obtain ⟨f1, f2, f3, f4, f5⟩ := hc.bands _ (List.getElem_mem h1)
    have hx : c.bands[i]? = some c.bands[i] := List.getElem?_eq_getElem h1
    have h3 := idx_next h1 (by omega)
    have hf : i = 0 → c.bands[i].frm = 0 := by
      rintro rfl
      have := hc.first
      rwa [List.getD_eq_getElem?_getD, hx] at this
    have hg : 0 < i → ∃ b : Bd, c.bands[i - 1]? = some b ∧ b.frm < c.bands[i].frm := by
      intro h0
      have := hc.asc (i - 1) (by omega)
      rw [show i - 1 + 1 = i by omega, List.getD_eq_getElem?_getD, List.getD_eq_getElem?_getD, hx, List.getElem?_eq_getElem (by omega)] at this
      exact ⟨_, List.getElem?_eq_getElem (by omega), this⟩
    generalize c.bands[i] = b at *
    have g2 := checkRanges_ok 1000000 [b.conv, b.red, b.evap, b.sint] (by simp [f2, f3, f4, f5]) (by simp)
    simp only [go_sem, hx, h2, Bd.v, Bd.cs, Ct.v, Ct.cs]
    refine cP (within_yes f1) ?_
    by_cases h0 : i = 0
    · have hf := hf h0
      have hb : ((i : Int) == 0) = true := by simp [h0]
      have hg2 : ¬ (0 : Int) < i := by omega
      simp only [go_sem, hf, hb, hg2]
      refine callF0 g2 6 (by simp only [go_sem, frz, Rg.v]) ?_
      simp only [go_sem, h3]
      exact ih (i + 1, _) (by dsimp only; omega) h1 _ (by simp [go_sem])
    · obtain ⟨b', hb1, hb2⟩ := hg (by omega)
      have hb : ((i : Int) == 0) = false := by simp [h0]
      have hg2 : (0 : Int) < i := by omega
      have hg3 : IntKind.i64.wrap ((i : Int) - 1) = ((i - 1 : Nat) : Int) := by rw [w64 (by omega)]; omega
      have hg4 : ¬ b.frm ≤ b'.frm := by omega
      simp only [go_sem, hb, hg2, hg3, hb1, hg4, Bd.v, Bd.cs]
      refine callF0 g2 6 (by simp only [go_sem, frz, Rg.v]) ?_
      simp only [go_sem, h3]
      exact ih (i + 1, _) (by dsimp only; omega) h1 _ (by simp [go_sem])
  · have h2 : ¬ (i : Int) < c.bands.length := by omega
    simp only [go_sem, h2]
end Go.Proofs

namespace Go.Proofs
open Go Go.Sx

theorem rightHeat_ok {h : Int} (hh : 0 ≤ h ∧ h ≤ 2000) : Ans Try.prog n_cathode_rightHeat [.int .i64 h] [] (.bool true) [] := by
  refine spec_run e_cathode_rightHeat fun G => ?_
  simp only [go_sem]
  refine cP (within_yes hh) ?_
  simp only [go_sem]
theorem rightCurrent_ok {h : Int} (hh : 0 ≤ h ∧ h ≤ 1000) : Ans Try.prog n_cathode_rightCurrent [.int .i64 h] [] (.bool true) [] := by
  refine spec_run e_cathode_rightCurrent fun G => ?_
  simp only [go_sem]
  refine cP (within_yes hh) ?_
  simp only [go_sem]

theorem fresh_run (c : Ct) : Ans Try.prog n_cathode_fresh [c.v (.view (c.bands.map Bd.v))] [] (fresh c).v [] := by
  refine spec_run e_cathode_fresh fun G => ?_
  simp only [go_sem, Ct.v, Ct.cs, Cg.v, Cg.cs, fresh]

theorem length_run (l : List Ht) (hl : LsOK l) : Ans Try.prog n_cathode_length [.view (l.map Ht.v)] [] (.int .i64 (lenOfL l)) [] := by
  have hlen := hl.len
  have hsum := hl.sum
  refine spec_run e_cathode_length fun G => ?_
  simp only [go_sem]
  refine loop_ind k_cathode_length_r7.eq_1 (fun a : Nat × Heap => a.1 ≤ l.length) (fun a => l.length - a.1)
    (fun a => (tsets 18 [(3, .int .i64 (lenOfL (l.take a.1))), (6, .view (l.map Ht.v)), (7, .int .i64 l.length), (8, .int .i64 a.1)], a.2)) (0, []) (Nat.zero_le _) (by simp [go_sem, lenOfL]) rfl ?_
  rintro ⟨i, X⟩ hi ih
  dsimp only at hi ih ⊢
  by_cases h1 : i < l.length
  · have h2 : (i : Int) < l.length := by omega
    have hx : l[i]? = some l[i] := List.getElem?_eq_getElem h1
    have h3 := idx_next h1 (by omega)
    have hs := lenOfL_succ hx
    have hr := lenOfL_take hl.all (i + 1)
    have hr0 := lenOfL_take hl.all i
    generalize l[i] = z at *
    have h4 : IntKind.i64.wrap (lenOfL (l.take i) + z.ticks) = lenOfL (l.take (i + 1)) := by rw [w64 (by omega)]; omega
    simp only [go_sem, hx, h2, Ht.v, Ht.cs, h4, h3]
    exact ih (i + 1, _) (by dsimp only; omega) h1 _ (by simp [go_sem])
  · have h2 : ¬ (i : Int) < l.length := by omega
    simp only [go_sem, h2]
    rw [List.take_of_length_le (by omega)]

theorem CheckSchedule_run (l : List Ht) (hl : LsOK l) : Ans Try.prog n_cathode_CheckSchedule [.view (l.map Ht.v)] [] (.int .i64 0) [] := by
  have hlen := hl.len
  have hsum := hl.sum
  have k1 : ¬ (40 : Int) < l.length := by omega
  have k2 : ¬ (20000 : Int) < lenOfL l := by omega
  refine spec_run e_cathode_CheckSchedule fun G => ?_
  simp only [go_sem, k1]
  refine loop_ind k_cathode_CheckSchedule_r9.eq_1 (fun a : Nat × Heap => a.1 ≤ l.length) (fun a => l.length - a.1)
    (fun a => (tsets 34 [(0, .view (l.map Ht.v)), (2, .int .i64 0), (8, .view (l.map Ht.v)), (9, .int .i64 l.length), (10, .int .i64 a.1)], a.2)) (0, []) (Nat.zero_le _) (by simp [go_sem]) rfl ?_
  rintro ⟨i, X⟩ hi ih
  dsimp only at hi ih ⊢
  by_cases h1 : i < l.length
  · have h2 : (i : Int) < l.length := by omega
    have hx : l[i]? = some l[i] := List.getElem?_eq_getElem h1
    have h3 := idx_next h1 (by omega)
    have hz := hl.all _ (List.getElem_mem h1)
    generalize l[i] = z at *
    simp only [go_sem, hx, h2, Ht.v, Ht.cs]
    refine cP (within_yes hz.ticks) ?_
    simp only [go_sem]
    refine cP (rightHeat_ok hz.heat) ?_
    simp only [go_sem]
    refine cP (rightCurrent_ok hz.cur) ?_
    simp only [go_sem, h3]
    exact ih (i + 1, _) (by dsimp only; omega) h1 _ (by simp [go_sem])
  · have h2 : ¬ (i : Int) < l.length := by omega
    simp only [go_sem, h2]
    refine cP (length_run l hl) ?_ ⟨by rw [bel_view]; exact bels_map _ _ fun h => by simp only [go_sem, Ht.v, Ht.cs], trivial⟩
    simp only [go_sem, k2]
end Go.Proofs

namespace Go.Proofs
open Go Go.Sx

@[go_sem] theorem cg_bel (x : Cg) (S : Nat → Prop) : Bel S x.v = True := by unfold Cg.v Cg.cs; simp only [go_sem]
@[go_sem] theorem cg_nv (x : Cg) : NV x.v = True := by unfold Cg.v Cg.cs; simp only [go_sem]
def CgR (xs : List Cg) : Row := .cells true 13 (xs.map Cg.v)
@[go_sem] theorem cgs_bel (xs : List Cg) (S : Nat → Prop) : Bels S (xs.map Cg.v) = True := eq_true (bels_map _ _ fun b => by simp only [go_sem])
@[go_sem] theorem cgr_bel (xs : List Cg) (S : Nat → Prop) : (CgR xs).bel S = True := by unfold CgR; rw [row_bel_cells]; simp only [go_sem]
@[go_sem] theorem hts_bel (l : List Ht) (S : Nat → Prop) : Bels S (l.map Ht.v) = True := eq_true (bels_map _ _ fun b => by simp only [go_sem, Ht.v, Ht.cs])
theorem cg_snoc (xs : List Cg) (y : Cg) : List.map Cg.v xs ++ [.agg [.int .i64 y.carb.lo, .int .i64 y.carb.hi, .int .i64 y.ox.lo, .int .i64 y.ox.hi, .int .i64 y.ba.lo, .int .i64 y.ba.hi, .int .i64 y.lost.lo, .int .i64 y.lost.hi, .int .i64 y.gas.lo, .int .i64 y.gas.hi, .int .i64 y.wear.lo, .int .i64 y.wear.hi, .int .i64 y.heat]] = List.map Cg.v (xs ++ [y]) := by
  rw [List.map_append]; rfl
theorem cg_single (y : Cg) : [AVal.agg [.int .i64 y.carb.lo, .int .i64 y.carb.hi, .int .i64 y.ox.lo, .int .i64 y.ox.hi, .int .i64 y.ba.lo, .int .i64 y.ba.hi, .int .i64 y.lost.lo, .int .i64 y.lost.hi, .int .i64 y.gas.lo, .int .i64 y.gas.hi, .int .i64 y.wear.lo, .int .i64 y.wear.hi, .int .i64 y.heat]] = List.map Cg.v [y] := rfl

end Go.Proofs

namespace Go.Proofs
open Go Go.Sx

theorem rate_run (w m : Int) (hm : 0 ≤ m ∧ m ≤ 1000000) : ∃ r w', RgIn r m ∧ Ans Try.prog n_kit_rate [.ptr 0 0 0 1, .int .i64 m] [some (Dr w)] (Rg.v r) [some (Dr w')] := by
  have h0 := upto_in (w := w) (n := 5) (by decide)
  have hb1 := between_ok (dstep w) 0 m (by decide) hm.1 (by omega)
  have hb2 := btw_in (w := dstep w) hm.1
  have hu := upto_in (w := dstep (dstep w)) (n := m / 4 + 1) (by omega)
  have t1 : m.tdiv 4 = m / 4 := Int.tdiv_eq_ediv_of_nonneg hm.1
  have t2 : IntKind.i64.wrap (m / 4) = m / 4 := w64 (by omega)
  have t3 : IntKind.i64.wrap (m / 4 + 1) = m / 4 + 1 := w64 (by omega)
  have t4 : IntKind.i64.wrap (btw (dstep w) 0 m + upto (dstep (dstep w)) (m / 4 + 1)) = btw (dstep w) 0 m + upto (dstep (dstep w)) (m / 4 + 1) := w64 (by omega)
  have hu5 := upto_ok w 5 (by decide)
  have hu6 := upto_ok (dstep (dstep w)) (m / 4 + 1) (by omega)
  generalize btw (dstep w) 0 m = n at *
  generalize upto (dstep (dstep w)) (m / 4 + 1) = y at *
  generalize upto w 5 = q at *
  by_cases q0 : q = 0
  · subst q0
    refine ⟨⟨0, 0⟩, dstep w, ⟨by simp, by simp, hm.1⟩, spec_run e_kit_rate fun G => ?_⟩
    simp only [go_sem]
    refine cD hu5 ?_
    simp only [go_sem, Rg.v]
    exact ⟨_, rfl⟩
  by_cases q1 : q = 1
  · subst q1
    refine ⟨⟨n, n⟩, dstep (dstep w), ⟨hb2.1, by simp, hb2.2⟩, spec_run e_kit_rate fun G => ?_⟩
    simp only [go_sem]
    refine cD hu5 ?_
    simp only [go_sem, q0]
    refine cD hb1 ?_
    simp only [go_sem, Rg.v]
    exact ⟨_, rfl⟩
  · refine ⟨⟨n, if n + y < m then n + y else m⟩, dstep (dstep (dstep w)), ⟨hb2.1, ?_, ?_⟩, spec_run e_kit_rate fun G => ?_⟩
    · dsimp only; split <;> omega
    · dsimp only; split <;> omega
    simp only [go_sem]
    refine cD hu5 ?_
    have b0 : (q == 0) = false := by simp [q0]
    have b1 : (q == 1) = false := by simp [q1]
    simp only [go_sem, b0, b1]
    refine cD hb1 ?_
    simp only [go_sem, t1, t2, t3]
    refine cD hu6 ?_
    simp only [go_sem, Rg.v, t4]
    exact ⟨_, rfl⟩

def BdR (bs : List Bd) : Row := .cells true 9 (bs.map Bd.v)
@[go_sem] theorem bdr_bel (bs : List Bd) (S : Nat → Prop) : (BdR bs).bel S = True := by unfold BdR; rw [row_bel_cells]; simp only [go_sem]

theorem sel3 (q a b c : Int) (h : 0 ≤ q ∧ q < 3) : ∃ v, (v = a ∨ v = b ∨ v = c) ∧ [AVal.int .i64 a, .int .i64 b, .int .i64 c][q.toNat]? = some (.int .i64 v) := by
  obtain rfl | rfl | rfl : q = 0 ∨ q = 1 ∨ q = 2 := by omega
  · exact ⟨a, .inl rfl, rfl⟩
  · exact ⟨b, .inr (.inl rfl), rfl⟩
  · exact ⟨c, .inr (.inr rfl), rfl⟩
theorem sel2 (q a b : Int) (h : 0 ≤ q ∧ q < 2) : ∃ v, (v = a ∨ v = b) ∧ [AVal.int .i64 a, .int .i64 b][q.toNat]? = some (.int .i64 v) := by
  obtain rfl | rfl : q = 0 ∨ q = 1 := by omega
  · exact ⟨a, .inl rfl, rfl⟩
  · exact ⟨b, .inr rfl, rfl⟩
theorem bd_snoc (xs : List Bd) (y : Bd) : List.map Bd.v xs ++ [.agg [.int .i64 y.frm, .int .i64 y.conv.lo, .int .i64 y.conv.hi, .int .i64 y.red.lo, .int .i64 y.red.hi, .int .i64 y.evap.lo, .int .i64 y.evap.hi, .int .i64 y.sint.lo, .int .i64 y.sint.hi]] = List.map Bd.v (xs ++ [y]) := by
  rw [List.map_append]; rfl

theorem RgIn.up {r : Rg} {m n : Int} (h : RgIn r m) (hmn : m ≤ n) : RgIn r n := ⟨h.lo, h.le, Int.le_trans h.hi hmn⟩

theorem band_run (w from' : Int) (hf : 0 ≤ from' ∧ from' ≤ 2000) : ∃ (b : Bd) (m st w1 w2 w3 w4 w5 : Int), BdOK b ∧ b.frm = from' ∧ 1 ≤ st ∧ st ≤ 700 ∧ (m = 1000 ∨ m = 100000 ∨ m = 1000000) ∧
    (0 ≤ upto w 3 ∧ upto w 3 < 3) ∧ [AVal.int .i64 1000, .int .i64 100000, .int .i64 1000000][(upto w 3).toNat]? = some (.int .i64 m) ∧
    Ans Try.prog n_kit_rate [.ptr 0 0 0 1, .int .i64 m] [some (Dr (dstep w))] b.conv.v [some (Dr w1)] ∧
    Ans Try.prog n_kit_rate [.ptr 0 0 0 1, .int .i64 m] [some (Dr w1)] b.red.v [some (Dr w2)] ∧
    Ans Try.prog n_kit_rate [.ptr 0 0 0 1, .int .i64 (m / 4)] [some (Dr w2)] b.evap.v [some (Dr w3)] ∧
    Ans Try.prog n_kit_rate [.ptr 0 0 0 1, .int .i64 9] [some (Dr w3)] b.sint.v [some (Dr w4)] ∧
    Ans Try.prog n_kit_Dice_Between [.ptr 0 0 0 1, .int .i64 1, .int .i64 700] [some (Dr w4)] (.int .i64 st) [some (Dr w5)] := by
  have hq := upto_in (w := w) (n := 3) (by decide)
  obtain ⟨m, hm, hsel⟩ := sel3 (upto w 3) 1000 100000 1000000 hq
  have hm2 : 0 ≤ m ∧ m ≤ 1000000 := by omega
  obtain ⟨r1, w1, a1, b1⟩ := rate_run (dstep w) m hm2
  obtain ⟨r2, w2, a2, b2⟩ := rate_run w1 m hm2
  obtain ⟨r3, w3, a3, b3⟩ := rate_run w2 (m / 4) (by omega)
  obtain ⟨r4, w4, a4, b4⟩ := rate_run w3 9 (by decide)
  have hb := btw_in (w := w4) (lo := 1) (hi := 700) (by decide)
  exact ⟨⟨from', r1, r2, r3, r4⟩, m, btw w4 1 700, w1, w2, w3, w4, dstep w4, ⟨hf, a1.up hm2.2, a2.up hm2.2, a3.up (by omega), a4.up (by decide)⟩, rfl, hb.1, hb.2, hm, hq, hsel, b1, b2, b3, b4, between_ok w4 1 700 (by decide) (by decide) (by decide)⟩

set_option maxHeartbeats 2000000 in
theorem coatOf_run (w : Int) : AnsE Try.prog n_kit_CoatOf [.ptr 0 0 0 1] [some (Dr w)] (fun a : Ct × Int => CtOK a.1) (fun a => a.1.v (.sl 1 0 a.1.bands.length)) (fun a => [some (Dr a.2), some (BdR a.1.bands)]) := by
  refine AnsE.keep (run_fn e_kit_CoatOf fun G => ?_) (fun a ha => ⟨by simp, by simp [go_sem, Ct.v, Ct.cs], by simp only [go_sem], by simp only [go_sem], trivial⟩)
  have g1 := btw_in (w := w) (lo := 1) (hi := 20) (by decide)
  have g2 := btw_in (w := dstep w) (lo := 1) (hi := 2000) (by decide)
  have g3 := btw_in (w := dstep (dstep w)) (lo := 1) (hi := 1000000) (by decide)
  have q1 := upto_in (w := dstep (dstep (dstep w))) (n := 3) (by decide)
  obtain ⟨am, ham, hs1⟩ := sel3 _ (btw w 1 20) (btw (dstep w) 1 2000) (btw (dstep (dstep w)) 1 1000000) q1
  have hu1 := upto_ok (dstep (dstep (dstep w))) 3 (by decide)
  have g4 := btw_in (w := dstep (dstep (dstep (dstep w)))) (lo := 1) (hi := 300) (by decide)
  have q2 := upto_in (w := dstep (dstep (dstep (dstep (dstep w))))) (n := 2) (by decide)
  obtain ⟨sl, hsl, hs2⟩ := sel2 _ (btw (dstep (dstep (dstep (dstep w)))) 1 300) 2000 q2
  have hu2 := upto_ok (dstep (dstep (dstep (dstep (dstep w))))) 2 (by decide)
  obtain ⟨aid, w7, haid, raid⟩ := rate_run (dstep (dstep (dstep (dstep (dstep (dstep w)))))) 500 (by decide)
  obtain ⟨yl, w8, hyl, ryl⟩ := rate_run w7 1000000 (by decide)
  have g5 := btw_in (w := w8) (lo := 1) (hi := 4) (by decide)
  have bt5 := between_ok w8 1 4 (by decide) (by decide) (by decide)
  have n1 : ¬ upto (dstep (dstep (dstep w))) 3 < 0 := by omega
  have n2 : upto (dstep (dstep (dstep w))) 3 < 3 := q1.2
  have n3 : ¬ upto (dstep (dstep (dstep (dstep (dstep w))))) 2 < 0 := by omega
  have n4 : upto (dstep (dstep (dstep (dstep (dstep w))))) 2 < 2 := q2.2
  generalize btw w8 1 4 = cnt at *
  have p44 : 72 ≤ 2 ^ 44 := by decide
  obtain ⟨b, mb, stb, wab, wbb, wcb, wdb, web, hbkb, hbfb, hstb, hst2b, hmb, hqab, hselb, e1b, e2b, e3b, e4b, e5b⟩ := band_run (dstep w8) 0 (by decide)
  have hub := upto_ok (dstep w8) 3 (by decide)
  have t1b : mb.tdiv 4 = mb / 4 := Int.tdiv_eq_ediv_of_nonneg (by omega)
  have t2b : IntKind.i64.wrap (mb / 4) = mb / 4 := w64 (by omega)
  have hq1b : ¬ upto (dstep w8) 3 < 0 := by omega
  have hq2b : upto (dstep w8) 3 < 3 := hqab.2
  have hcnt : 0 < cnt := by omega
  have u1 : IntKind.i64.wrap (cnt - 1) = cnt - 1 := w64 (by omega)
  have u2 : IntKind.i64.wrap (0 + stb) = stb := by rw [w64 (by omega)]; omega
  simp only [go_sem]
  refine dD (between_ok w 1 20 (by decide) (by decide) (by decide)) ?_
  simp only [go_sem]
  refine dD (between_ok _ 1 2000 (by decide) (by decide) (by decide)) ?_
  simp only [go_sem]
  refine dD (between_ok _ 1 1000000 (by decide) (by decide) (by decide)) ?_
  simp only [go_sem]
  refine dD hu1 ?_
  simp only [go_sem, n1, n2, hs1]
  refine dD (between_ok _ 1 300 (by decide) (by decide) (by decide)) ?_
  simp only [go_sem]
  refine dD hu2 ?_
  simp only [go_sem, n3, n4, hs2]
  refine dD raid ?_
  simp only [go_sem]
  refine dD ryl ?_
  simp only [go_sem, Rg.v]
  refine cD bt5 ?_
  simp only [go_sem]
  refine loop_body 200 k_kit_CoatOf_r9.eq_1 ?_
  simp only [go_sem, hcnt]
  refine cD hub ?_
  simp only [go_sem, hq1b, hq2b, hselb]
  refine dD e1b ?_
  simp only [go_sem]
  refine dD e2b ?_
  simp only [go_sem, t1b, t2b]
  refine dD e3b ?_
  simp only [go_sem]
  refine dD e4b ?_
  simp only [go_sem, Rg.v, p44]
  refine cD e5b ?_
  simp only [go_sem, u1, u2]
  generalize some (Row.cells false 1 [.int .i64 (btw w 1 20), .int .i64 (btw (dstep w) 1 2000), .int .i64 (btw (dstep (dstep w)) 1 1000000)]) = Y2
  generalize some (Row.cells false 1 [.int .i64 (btw (dstep (dstep (dstep (dstep w)))) 1 300), .int .i64 2000]) = Y3
  generalize some (Row.cells false 1 [.int .i64 1000, .int .i64 100000, .int .i64 1000000]) = Y5
  have e0 : [AVal.agg [.int .i64 0, .int .i64 b.conv.lo, .int .i64 b.conv.hi, .int .i64 b.red.lo, .int .i64 b.red.hi, .int .i64 b.evap.lo, .int .i64 b.evap.hi, .int .i64 b.sint.lo, .int .i64 b.sint.hi]] = List.map Bd.v [b] := by rw [← hbfb]; rfl
  rw [e0]
  refine loop_ind k_kit_CoatOf_r9.eq_1 (fun a : Int × Int × Int × List Bd × Heap => 0 ≤ a.1 ∧ a.2.2.2.1.length + a.1 ≤ 4 ∧ 0 ≤ a.2.1 ∧ a.2.1 ≤ 3000 ∧ Bands a.2.2.2.1 a.2.1) (fun a => a.1.toNat)
    (fun a => (tsets 69 [(0, .ptr 0 0 0 1), (2, .ptr 1 0 0 1), (3, .ptr 4 0 0 1), (4, .int .i64 a.2.1), (5, .int .i64 a.1)],
      some (Dr a.2.2.1) :: some (.cells false 7 [.agg [.int .i64 0, .int .i64 0, .int .i64 0, .int .i64 0, .int .i64 0, .int .i64 0, .nilsl]]) :: Y2 :: Y3 ::
        some (.cells false 7 [.agg [.int .i64 am, .int .i64 sl, .int .i64 aid.lo, .int .i64 aid.hi, .int .i64 yl.lo, .int .i64 yl.hi, .sl 7 0 a.2.2.2.1.length]]) :: Y5 :: some (.cells false 9 (List.map Bd.v [b])) :: some (.cells true 9 (a.2.2.2.1.map Bd.v)) :: a.2.2.2.2))
    (cnt - 1, stb, web, [b], []) ⟨by dsimp only; omega, by simp; omega, by dsimp only; omega, by dsimp only; omega, Bands.one hbkb hbfb (show 0 < stb by omega)⟩ (by simp [go_sem]) rfl ?_
  rintro ⟨i, frm, w', bs, X⟩ ⟨hi0, hil, hf0, hf1, hbs⟩ ih
  dsimp only at hi0 hil hf0 hf1 hbs ih ⊢
  by_cases c1 : 0 < i
  · by_cases c2 : frm ≤ 2000
    · obtain ⟨z, mz, stz, waz, wbz, wcz, wdz, wez, hbkz, hbfz, hstz, hst2z, hmz, hqaz, hselz, e1z, e2z, e3z, e4z, e5z⟩ := band_run w' frm ⟨hf0, c2⟩
      have huz := upto_ok w' 3 (by decide)
      have t1z : mz.tdiv 4 = mz / 4 := Int.tdiv_eq_ediv_of_nonneg (by omega)
      have t2z : IntKind.i64.wrap (mz / 4) = mz / 4 := w64 (by omega)
      have hq1z : ¬ upto w' 3 < 0 := by omega
      have hq2z : upto w' 3 < 3 := hqaz.2
      have v1 : IntKind.i64.wrap (i - 1) = i - 1 := w64 (by omega)
      have v2 : IntKind.i64.wrap (frm + stz) = frm + stz := w64 (by omega)
      have q44 : (bs.length + 1) * 72 ≤ 2 ^ 44 := by omega
      have e1 : ∀ xs : List Bd, List.map Bd.v xs ++ [AVal.agg [.int .i64 frm, .int .i64 z.conv.lo, .int .i64 z.conv.hi, .int .i64 z.red.lo, .int .i64 z.red.hi, .int .i64 z.evap.lo, .int .i64 z.evap.hi, .int .i64 z.sint.lo, .int .i64 z.sint.hi]] = List.map Bd.v (xs ++ [z]) := fun xs => by rw [← hbfz]; exact bd_snoc xs z
      simp only [go_sem, c1, c2]
      refine cD huz ?_
      simp only [go_sem, hq1z, hq2z, hselz]
      refine dD e1z ?_
      simp only [go_sem]
      refine dD e2z ?_
      simp only [go_sem, t1z, t2z]
      refine dD e3z ?_
      simp only [go_sem]
      refine dD e4z ?_
      simp only [go_sem, Rg.v, q44]
      refine ⟨by simp <;> omega, ?_⟩
      refine cD e5z ?_
      simp only [go_sem, v1, v2, e1]
      rw [show bs.length + 1 = (bs ++ [z]).length by simp]
      exact ih (i - 1, frm + stz, wez, bs ++ [z], _) (by dsimp only; omega) ⟨by dsimp only; omega, by simp; omega, by dsimp only; omega, by dsimp only; omega, hbs.snoc hbkz hbfz (show frm < frm + stz by omega)⟩ _ (by simp [go_sem])
    · simp only [go_sem, c1, c2]
      refine ⟨(⟨am, sl, aid, yl, bs⟩, w'), ⟨⟨?_, ?_⟩, ⟨?_, ?_⟩, haid.up (by decide), hyl, ⟨hbs.len, ?_⟩, hbs.first, hbs.asc, hbs.all⟩, kept_two 7 (by decide) ?_ (by simp only [go_sem]) (by simp only [go_sem]) ?_ ?_⟩
      all_goals first | (dsimp only; omega) | rfl
  · simp only [go_sem, c1]
    refine ⟨(⟨am, sl, aid, yl, bs⟩, w'), ⟨⟨?_, ?_⟩, ⟨?_, ?_⟩, haid.up (by decide), hyl, ⟨hbs.len, ?_⟩, hbs.first, hbs.asc, hbs.all⟩, kept_two 7 (by decide) ?_ (by simp only [go_sem]) (by simp only [go_sem]) ?_ ?_⟩
    all_goals first | (dsimp only; omega) | rfl
end Go.Proofs

namespace Go.Proofs
open Go Go.Sx

@[go_sem] theorem ht_bel (x : Ht) (S : Nat → Prop) : Bel S x.v = True := by unfold Ht.v Ht.cs; simp only [go_sem]
theorem ht_snoc (xs : List Ht) (y : Ht) : List.map Ht.v xs ++ [.agg [.int .i64 y.ticks, .int .i64 y.heat, .int .i64 y.cur]] = List.map Ht.v (xs ++ [y]) := by
  rw [List.map_append]; rfl

theorem heating_run (w ticks : Int) (ht : 1 ≤ ticks ∧ ticks ≤ 2000) : ∃ (h : Ht), HtOK h ∧ h.ticks ≤ ticks ∧ h.ticks = btw w 1 ticks ∧
    [AVal.int .i64 (btw (dstep w) 0 800), .int .i64 (btw (dstep (dstep w)) 600 2000), .int .i64 300][(upto (dstep (dstep (dstep w))) 3).toNat]? = some (.int .i64 h.heat) ∧ 0 ≤ upto (dstep (dstep (dstep w))) 3 ∧ upto (dstep (dstep (dstep w))) 3 < 3 ∧
    [AVal.int .i64 0, .int .i64 (upto (dstep (dstep (dstep (dstep w)))) 50), .int .i64 (upto (dstep (dstep (dstep (dstep (dstep w))))) 1001)][(upto (dstep (dstep (dstep (dstep (dstep (dstep w)))))) 3).toNat]? = some (.int .i64 h.cur) ∧ 0 ≤ upto (dstep (dstep (dstep (dstep (dstep (dstep w)))))) 3 ∧ upto (dstep (dstep (dstep (dstep (dstep (dstep w)))))) 3 < 3 := by
  have a1 := btw_in (w := w) (lo := 1) (hi := ticks) ht.1
  have a2 := btw_in (w := (dstep w)) (lo := 0) (hi := 800) (by decide)
  have a3 := btw_in (w := (dstep (dstep w))) (lo := 600) (hi := 2000) (by decide)
  have q1 := upto_in (w := (dstep (dstep (dstep w)))) (n := 3) (by decide)
  have a4 := upto_in (w := (dstep (dstep (dstep (dstep w))))) (n := 50) (by decide)
  have a5 := upto_in (w := (dstep (dstep (dstep (dstep (dstep w)))))) (n := 1001) (by decide)
  have q2 := upto_in (w := (dstep (dstep (dstep (dstep (dstep (dstep w))))))) (n := 3) (by decide)
  obtain ⟨v1, hv1, s1⟩ := sel3 _ (btw (dstep w) 0 800) (btw (dstep (dstep w)) 600 2000) 300 q1
  obtain ⟨v2, hv2, s2⟩ := sel3 _ 0 (upto (dstep (dstep (dstep (dstep w)))) 50) (upto (dstep (dstep (dstep (dstep (dstep w))))) 1001) q2
  exact ⟨⟨btw w 1 ticks, v1, v2⟩, ⟨by dsimp only; omega, by dsimp only; omega, by dsimp only; omega⟩, a1.2, rfl, s1, q1.1, q1.2, s2, q2.1, q2.2⟩

set_option maxHeartbeats 2000000 in
theorem scheduleOf_run (w most ticks : Int) (hm : 0 ≤ most ∧ most ≤ 40) (ht : 1 ≤ ticks ∧ ticks ≤ 2000) :
    AnsE Try.prog n_kit_ScheduleOf [.ptr 0 0 0 1, .int .i64 most, .int .i64 ticks] [some (Dr w)] (fun a : List Ht × Int => Sch a.1 most ticks) (fun a => slv 1 (a.1.map Ht.v)) (fun a => some (Dr a.2) :: slr 3 (a.1.map Ht.v)) := by
  have hu := upto_ok w (most + 1) (by omega)
  have hq := upto_in (w := w) (n := most + 1) (by omega)
  have u0 : IntKind.i64.wrap (most + 1) = most + 1 := w64 (by omega)
  generalize upto w (most + 1) = n at *
  refine AnsE.keep (run_fn e_kit_ScheduleOf fun G => ?_) (fun a ha => ⟨by simp, ?_, by simp only [go_sem], ?_⟩)
  rotate_left
  · unfold slv slr slrG
    split
    · exact .nilsl
    · rw [bel_sl]; simp
  · unfold slr slrG
    split
    · trivial
    · exact ⟨by rw [row_bel_cells]; simp only [go_sem], trivial⟩
  obtain ⟨z, zok, zt, ze, zs1, zq1, zn2, zs2, zq3, zn4⟩ := heating_run (dstep w) ticks ht
  have zn1 : ¬ upto (dstep (dstep (dstep (dstep w)))) 3 < 0 := by omega
  have zn3 : ¬ upto (dstep (dstep (dstep (dstep (dstep (dstep (dstep w))))))) 3 < 0 := by omega
  have p44 : 24 ≤ 2 ^ 44 := by decide
  have u1 : IntKind.i64.wrap (n - 1) = n - 1 := w64 (by omega)
  by_cases hn : 0 < n
  · simp only [go_sem, u0]
    refine cD hu ?_
    simp only [go_sem]
    refine loop_body 200 k_kit_ScheduleOf_r6.eq_1 ?_
    simp only [go_sem, hn]
    refine dD (between_ok _ 1 ticks (by decide) ht.1 (by omega)) ?_
    simp only [go_sem]
    refine dD (between_ok _ 0 800 (by decide) (by decide) (by decide)) ?_
    simp only [go_sem]
    refine dD (between_ok _ 600 2000 (by decide) (by decide) (by decide)) ?_
    simp only [go_sem]
    refine dD (upto_ok _ 3 (by decide)) ?_
    simp only [go_sem, zn1, zn2, zs1]
    refine dD (upto_ok _ 50 (by decide)) ?_
    simp only [go_sem]
    refine dD (upto_ok _ 1001 (by decide)) ?_
    simp only [go_sem]
    refine dD (upto_ok _ 3 (by decide)) ?_
    simp only [go_sem, zn3, zn4, zs2, p44]
    simp only [u1]
    generalize some (Row.cells false 1 [.int .i64 (btw (dstep (dstep w)) 0 800), .int .i64 (btw (dstep (dstep (dstep w))) 600 2000), .int .i64 300]) = Y1
    generalize some (Row.cells false 1 [.int .i64 0, .int .i64 (upto (dstep (dstep (dstep (dstep (dstep w))))) 50), .int .i64 (upto (dstep (dstep (dstep (dstep (dstep (dstep w)))))) 1001)]) = Y2
    have e0 : [AVal.agg [.int .i64 (btw (dstep w) 1 ticks), .int .i64 z.heat, .int .i64 z.cur]] = List.map Ht.v [z] := by rw [← ze]; rfl
    rw [e0]
    refine loop_ind k_kit_ScheduleOf_r6.eq_1 (fun a : Int × Int × List Ht × Heap => 0 ≤ a.1 ∧ a.2.2.1.length + a.1 ≤ most ∧ 1 ≤ a.2.2.1.length ∧ Sch a.2.2.1 most ticks) (fun a => a.1.toNat)
      (fun a => (tsets 43 [(0, .ptr 0 0 0 1), (1, .int .i64 most), (2, .int .i64 ticks), (6, .nilsl), (7, .sl 4 0 a.2.2.1.length), (8, .int .i64 a.1)],
        some (Dr a.2.1) :: Y1 :: Y2 :: some (.cells false 3 (List.map Ht.v [z])) :: some (.cells true 3 (a.2.2.1.map Ht.v)) :: a.2.2.2))
      (n - 1, _, [z], []) ⟨by dsimp only; omega, by simp; omega, by simp, ⟨by simp; omega, fun x hx => by simp at hx; subst hx; exact ⟨zok, zt⟩⟩⟩ (by simp [go_sem]) rfl ?_
    rintro ⟨i, w', l, X⟩ ⟨hi0, hil, hl1, hl⟩ ih
    dsimp only at hi0 hil hl1 hl ih ⊢
    by_cases c1 : 0 < i
    · obtain ⟨y, yok, yt, ye, ys1, yq1, yn2, ys2, yq3, yn4⟩ := heating_run w' ticks ht
      have yn1 : ¬ upto (dstep (dstep (dstep w'))) 3 < 0 := by omega
      have yn3 : ¬ upto (dstep (dstep (dstep (dstep (dstep (dstep w')))))) 3 < 0 := by omega
      have v1 : IntKind.i64.wrap (i - 1) = i - 1 := w64 (by omega)
      have q44 : (l.length + 1) * 24 ≤ 2 ^ 44 := by omega
      have e1 : ∀ xs : List Ht, List.map Ht.v xs ++ [AVal.agg [.int .i64 (btw w' 1 ticks), .int .i64 y.heat, .int .i64 y.cur]] = List.map Ht.v (xs ++ [y]) := fun xs => by rw [← ye]; exact ht_snoc xs y
      simp only [go_sem, c1]
      refine dD (between_ok _ 1 ticks (by decide) ht.1 (by omega)) ?_
      simp only [go_sem]
      repeat refine ⟨by first | omega | (simp; done) | (simp; omega), ?_⟩
      refine dD (between_ok _ 0 800 (by decide) (by decide) (by decide)) ?_
      simp only [go_sem]
      repeat refine ⟨by first | omega | (simp; done) | (simp; omega), ?_⟩
      refine dD (between_ok _ 600 2000 (by decide) (by decide) (by decide)) ?_
      simp only [go_sem]
      repeat refine ⟨by first | omega | (simp; done) | (simp; omega), ?_⟩
      refine dD (upto_ok _ 3 (by decide)) ?_
      simp only [go_sem, yn1, yn2, ys1]
      repeat refine ⟨by first | omega | (simp; done) | (simp; omega), ?_⟩
      refine dD (upto_ok _ 50 (by decide)) ?_
      simp only [go_sem]
      repeat refine ⟨by first | omega | (simp; done) | (simp; omega), ?_⟩
      refine dD (upto_ok _ 1001 (by decide)) ?_
      simp only [go_sem]
      repeat refine ⟨by first | omega | (simp; done) | (simp; omega), ?_⟩
      refine dD (upto_ok _ 3 (by decide)) ?_
      simp only [go_sem, yn3, yn4, ys2, q44]
      repeat refine ⟨by first | omega | (simp; done) | (simp; omega), ?_⟩
      simp only [e1, v1]
      rw [show l.length + 1 = (l ++ [y]).length by simp]
      exact ih (i - 1, _, l ++ [y], _) (by dsimp only; omega) ⟨by dsimp only; omega, by simp; omega, by simp, hl.snoc ⟨yok, yt⟩ (by omega)⟩ _ (by simp [go_sem])
    · simp only [go_sem, c1]
      refine ⟨(l, w'), hl, ?_⟩
      have hne : List.map Ht.v l ≠ [] := fun h => by
        have : l.length = 0 := by simpa using congrArg List.length h
        omega
      simp only [slv, slr, slrG, hne, if_false]
      exact kept_two 4 (by decide) (by simp [ren]) (by simp only [go_sem]) (by rw [row_bel_cells]; simp only [go_sem]) rfl rfl
  · simp only [go_sem, u0]
    refine cD hu ?_
    simp only [go_sem]
    refine loop_body 200 k_kit_ScheduleOf_r6.eq_1 ?_
    simp only [go_sem, hn]
    exact ⟨([], dstep w), ⟨by simp; omega, fun x hx => by simp at hx⟩, fun i => i, ⟨fun i hi => rfl, fun i j _ _ h => h, rfl, fun i x hx => by
      match i, hx with
      | 0, hx => simp [slr, slrG] at hx; subst hx; rfl
      | i + 1, hx => simp [slr, slrG] at hx⟩⟩
end Go.Proofs

namespace Go.Proofs
open Go Go.Sx
def yes : Option (AVal × Heap) → Bool
  | some (.bool b, _) => b
  | _ => false
theorem yes_ans {P : Program} (hm : P.follows .mixedOrders = true) {tab : Nat → Option AFun} (hT : ∀ g af, tab g = some af → EntryOK P g af) {m n g : Nat} (h : yes (exFn tab m n g [] []) = true) : Ans P g [] [] (.bool true) [] := by
  match hx : exFn tab m n g [] [] with
  | none => rw [hx] at h; cases h
  | some (v, H') =>
    rw [hx] at h
    cases v <;> try (cases h; done)
    rename_i b
    have hb : b = true := h
    subst hb
    exact (spec_ex hm hT hx).mono fun v H'' hv => ⟨hv.1, H'', rfl⟩
theorem awake_yes : yes (exFn tab 3000 40 n_law03_awake [] []) = true := by kernel_rfl
theorem awake_ok : Ans Try.prog n_law03_awake [] [] (.bool true) [] := yes_ans mixed tab_ok awake_yes
end Go.Proofs

namespace Go.Proofs
open Go Go.Sx

@[go_sem] theorem ct_bel (x : Ct) (t : AVal) (S : Nat → Prop) : Bel S (x.v t) = Bel S t := by unfold Ct.v Ct.cs; simp only [go_sem]
theorem hts_frz (l : List Ht) (d : Nat) (H : Heap) : (l.map Ht.v).map (frz (d + 2) H) = l.map Ht.v := by rw [List.map_map]; rfl
theorem ct_frz {c : Ct} {H : Heap} {j : Nat} (h : H[j]? = some (some (BdR c.bands))) : frz 6 H (c.v (.sl j 0 c.bands.length)) = c.v (.view (c.bands.map Bd.v)) := by
  have h1 : frz 5 H (.sl j 0 c.bands.length) = .view (c.bands.map Bd.v) := by
    rw [frz_sl (d := 4) h (by simp), bds_frz]
  show AVal.agg [_, _, _, _, _, _, frz 5 H (.sl j 0 c.bands.length)] = _
  rw [h1]; rfl

theorem sch_frz {l : List Ht} {H : Heap} {j n : Nat} {gr : Bool} (h : H[j]? = some (some (.cells gr 3 (l.map Ht.v)))) (hn : n = l.length) : frz 6 H (.sl j 0 n) = .view (l.map Ht.v) := by
  rw [frz_sl (d := 5) h (by simpa using hn), hts_frz]
@[go_sem] theorem cgr_nv (xs : List Cg) : (CgR xs).nv = True := eq_true (row_nv_cells _ _ (nvs_map _ _ fun x => by simp only [go_sem]))
theorem hts_sized (l : List Ht) : sizedAll 3 (l.map Ht.v) = true := by
  unfold sizedAll
  rw [List.all_eq_true]
  intro e he
  obtain ⟨h, _, rfl⟩ := List.mem_map.1 he; rfl
theorem sized_sub {n : Nat} {l l' : List AVal} (h : sizedAll n l = true) (hs : ∀ v ∈ l', v ∈ l) : sizedAll n l' = true := by
  unfold sizedAll at h ⊢
  rw [List.all_eq_true] at h ⊢
  exact fun v hv => h v (hs v hv)
@[go_sem high] theorem sized_t (l : List Ht) (m : Nat) : sizedAll 3 (List.take m (List.map Ht.v l)) = true := sized_sub (hts_sized l) fun v hv => List.mem_of_mem_take hv
@[go_sem high] theorem sized_d (l : List Ht) (m : Nat) : sizedAll 3 (List.drop m (List.map Ht.v l)) = true := sized_sub (hts_sized l) fun v hv => List.mem_of_mem_drop hv
@[go_sem high] theorem sized_td (l : List Ht) (m k : Nat) : sizedAll 3 (List.take m (List.drop k (List.map Ht.v l))) = true := sized_sub (hts_sized l) fun v hv => List.mem_of_mem_drop (List.mem_of_mem_take hv)
end Go.Proofs

namespace Go.Proofs
open Go Go.Sx

@[go_sem] theorem nat_beq_s0 (n : Nat) : (n + 1 == 0) = false := by simp
@[go_sem] theorem nat_beq_0s (n : Nat) : (0 == n + 1) = false := by simp
@[go_sem] theorem nat_beq_ss (a b : Nat) : (a + 1 == b + 1) = (a == b) := by simp
@[go_sem] theorem ct_nv (x : Ct) (t : AVal) : NV (x.v t) = NV t := by unfold Ct.v Ct.cs; simp only [go_sem]
@[go_sem] theorem bdr_nv (bs : List Bd) : (BdR bs).nv = True := eq_true (row_nv_cells _ _ (nvs_map _ _ fun x => by simp only [go_sem]))
end Go.Proofs

