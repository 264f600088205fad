/- A part of the proof. -/
import Derived.Test.YtnnbkoipalaanaaDoorPA
import Derived.IntWalk
set_option linter.unusedSimpArgs false
set_option linter.unusedVariables false
namespace Go.Proofs
open Go Go.Sx

def Dr (w : Int) : Row := .cells false 1 [.agg [.int .u64 w]]
def dstep (w : Int) : Int := IntKind.u64.wrap (w + 11400714819323198485)
def dmix (w : Int) : Int :=
  let z := IntKind.u64.wrap (bitW .xor .u64 w (shrW .u64 w 30) * 13787848793156543929)
  let z := IntKind.u64.wrap (bitW .xor .u64 z (shrW .u64 z 27) * 10723151780598845931)
  bitW .xor .u64 z (shrW .u64 z 31)

theorem dr_bel (w : Int) (S : Nat → Prop) : (Dr w).bel S := by unfold Dr; rw [row_bel_cells]; simp only [go_sem]

theorem bitW_u64 (op : BinOp) (a b : Int) : 0 ≤ bitW op .u64 a b ∧ bitW op .u64 a b ≤ 18446744073709551615 := by
  have hw : ∀ n : Int, 0 ≤ IntKind.u64.wrap n ∧ IntKind.u64.wrap n ≤ 18446744073709551615 := fun n => by simp only [IntKind.wrap, IntKind.bits, IntKind.signed, Bool.false_and, Bool.false_eq_true, if_false]; omega
  unfold bitW bitsOf
  cases op <;> simp only [Option.getD_some, Option.getD_none] <;> first
    | exact hw _
    | omega

def upto (w n : Int) : Int := if n < 1 then 0 else (dmix (dstep w)) % n
theorem upto_in {w n : Int} (h : 1 ≤ n) : 0 ≤ upto w n ∧ upto w n < n := by
  unfold upto
  rw [if_neg (by omega)]
  exact ⟨Int.emod_nonneg _ (by omega), Int.emod_lt_of_pos _ (by omega)⟩
def btw (w lo hi : Int) : Int := lo + upto w (hi - lo + 1)
theorem btw_in {w lo hi : Int} (h : lo ≤ hi) : lo ≤ btw w lo hi ∧ btw w lo hi ≤ hi := by
  have := upto_in (w := w) (n := hi - lo + 1) (by omega)
  unfold btw; omega

def feed (w : Int) : List Int → Int
  | [] => w
  | x :: xs => feed (dstep (bitW .xor .u64 w (IntKind.u64.wrap x))) xs
def seedW (xs : List Int) : Int := feed (IntKind.u64.wrap (IntKind.u64.wrap xs.length + 1374496523)) xs

structure Rg where
  lo : Int
  hi : Int
  deriving Inhabited, DecidableEq

def Rg.v (r : Rg) : AVal := .agg [.int .i64 r.lo, .int .i64 r.hi]
@[go_sem] theorem rg_bel_eq (r : Rg) (S : Nat → Prop) : Bel S r.v = True := by unfold Rg.v; simp only [go_sem]
@[go_sem] theorem rg_nv (r : Rg) : NV r.v = True := by unfold Rg.v; simp only [go_sem]
@[go_sem] theorem dr_bel_eq (w : Int) (S : Nat → Prop) : (Dr w).bel S = True := eq_true (dr_bel w S)
def hullR (a b : Int) : Rg := ⟨if b < a then b else a, if b > a then b else a⟩
def rngR (w lo hi : Int) : Rg := hullR (btw w lo hi) (btw (dstep w) lo hi)
theorem rngR_in {w lo hi : Int} (h : lo ≤ hi) : lo ≤ (rngR w lo hi).lo ∧ (rngR w lo hi).lo ≤ (rngR w lo hi).hi ∧ (rngR w lo hi).hi ≤ hi := by
  have := btw_in (w := w) h
  have := btw_in (w := dstep w) h
  unfold rngR hullR; simp only; constructor
  · split <;> (try dsimp only) <;> omega
  · constructor <;> (repeat' split) <;> omega

theorem w64 {n : Int} (h : -9223372036854775808 ≤ n ∧ n ≤ 9223372036854775807) : IntKind.i64.wrap n = n := IntWalk.i64_in _ h
end Go.Proofs

namespace Go.Gauge

structure Mt where
  glo : Int
  ghi : Int
  olo : Int
  ohi : Int
  step : Int
  cmp : Int
  due : Int
  deriving Inhabited

structure MtOK (m : Mt) : Prop where
  g : 500000 ≤ m.glo ∧ m.glo ≤ m.ghi ∧ m.ghi ≤ 2000000
  o : -1000000 ≤ m.olo ∧ m.olo ≤ m.ohi ∧ m.ohi ≤ 1000000
  s : 1 ≤ m.step ∧ m.step ≤ 1000000
  d : 0 ≤ m.due ∧ m.due ≤ 1000000000

theorem floor_key (a b : Int) (hb : 1 ≤ b) : (if a.tmod b < 0 then a.tdiv b - 1 else a.tdiv b) = a / b := by
  have hb0 : b ≠ 0 := by omega
  have e1 := Int.tmod_add_mul_tdiv a b
  have e2 := Int.emod_add_mul_ediv a b
  have m1 := Int.emod_nonneg a hb0
  have m2 := Int.emod_lt_of_pos a (show 0 < b by omega)
  have m3 := Int.tmod_lt_of_pos a (show 0 < b by omega)
  have m4 := Int.lt_tmod_of_pos a (show 0 < b by omega)
  generalize a.tmod b = x at *
  generalize a % b = y at *
  generalize a.tdiv b = p at *
  generalize a / b = q at *
  have hpq : b * (p - q) = y - x := by rw [Int.mul_sub]; omega
  by_cases hx : x < 0
  · rw [if_pos hx]
    have h1 : 0 < p - q := by
      rcases Int.lt_or_le 0 (p - q) with h | h
      · exact h
      · have := Int.mul_nonpos_of_nonneg_of_nonpos (show 0 ≤ b by omega) h; omega
    have h2 : p - q < 2 := by
      rcases Int.lt_or_le (p - q) 2 with h | h
      · exact h
      · have := Int.mul_le_mul_of_nonneg_left h (show 0 ≤ b by omega); omega
    omega
  · rw [if_neg hx]
    have h1 : -1 < p - q := by
      rcases Int.lt_or_le (-1) (p - q) with h | h
      · exact h
      · have := Int.mul_le_mul_of_nonneg_left h (show 0 ≤ b by omega); omega
    have h2 : p - q < 1 := by
      rcases Int.lt_or_le (p - q) 1 with h | h
      · exact h
      · have := Int.mul_le_mul_of_nonneg_left h (show 0 ≤ b by omega); omega
    omega

def pl (a b x : Int) : Int := x * (if x < 0 then a else b)
theorem pl_mono {a b x y : Int} (ha : 0 ≤ a) (hb : 0 ≤ b) (h : x ≤ y) : pl a b x ≤ pl a b y := by
  unfold pl
  split
  · rename_i hx
    split
    · exact Int.mul_le_mul_of_nonneg_right h ha
    · have h1 := Int.mul_nonpos_of_nonpos_of_nonneg (show x ≤ 0 by omega) ha
      have h2 := Int.mul_nonneg (show 0 ≤ y by omega) hb
      omega
  · rename_i hx
    rw [if_neg (by omega)]
    exact Int.mul_le_mul_of_nonneg_right h hb
theorem pl_bd {a b x B : Int} (ha : 0 ≤ a ∧ a ≤ 2000000) (hb : 0 ≤ b ∧ b ≤ 2000000) (h : -B ≤ x ∧ x ≤ B) : -(B * 2000000) ≤ pl a b x ∧ pl a b x ≤ B * 2000000 := by
  unfold pl
  have hB : 0 ≤ B := by omega
  have key : ∀ c : Int, 0 ≤ c ∧ c ≤ 2000000 → -(B * 2000000) ≤ x * c ∧ x * c ≤ B * 2000000 := fun c hc => by
    have h1 := Int.mul_le_mul_of_nonneg_right h.1 hc.1
    have h2 := Int.mul_le_mul_of_nonneg_right h.2 hc.1
    have h3 := Int.mul_le_mul_of_nonneg_left hc.2 hB
    rw [Int.neg_mul] at h1
    omega
  split
  · exact key a ha
  · exact key b hb
theorem pl_le {a b x : Int} (h : a ≤ b) : pl b a x ≤ pl a b x := by
  unfold pl
  split
  · rename_i hx
    exact Int.mul_le_mul_of_nonpos_left (by omega) h
  · exact Int.mul_le_mul_of_nonneg_left h (by omega)

def mkLo (m : Mt) (x : Int) : Int := pl m.ghi m.glo x / 1000000 + m.olo
def mkHi (m : Mt) (x : Int) : Int := -(-(pl m.glo m.ghi x) / 1000000) + m.ohi
theorem mkLo_mono {m : Mt} (h : MtOK m) {x y : Int} (hxy : x ≤ y) : mkLo m x ≤ mkLo m y := by
  have := pl_mono (a := m.ghi) (b := m.glo) (by have := h.g; omega) (by have := h.g; omega) hxy
  unfold mkLo; omega
theorem mkHi_mono {m : Mt} (h : MtOK m) {x y : Int} (hxy : x ≤ y) : mkHi m x ≤ mkHi m y := by
  have := pl_mono (a := m.glo) (b := m.ghi) (by have := h.g; omega) (by have := h.g; omega) hxy
  unfold mkHi; omega
theorem mk_le {m : Mt} (h : MtOK m) (x : Int) : mkLo m x ≤ mkHi m x := by
  have := pl_le (x := x) h.g.2.1
  have := h.o
  unfold mkLo mkHi; omega
theorem mk_bd {m : Mt} (h : MtOK m) {x B : Int} (hx : -B ≤ x ∧ x ≤ B) : -(2 * B + 1000000) ≤ mkLo m x ∧ mkHi m x ≤ 2 * B + 1000000 := by
  have hg := h.g
  have ho := h.o
  have h1 := pl_bd (a := m.ghi) (b := m.glo) (by omega) (by omega) hx
  have h2 := pl_bd (a := m.glo) (b := m.ghi) (by omega) (by omega) hx
  unfold mkLo mkHi; omega

abbrev rch : Int := 4398046511104

theorem begins (p : Int → Prop) (a : Int) : ∀ n : Nat, (∀ x y, x ≤ y → p x → p y) → ∃ L, a ≤ L ∧ L ≤ a + n ∧ ∀ x, a ≤ x → x < a + n → (p x ↔ L ≤ x)
  | 0, _ => ⟨a, Int.le_refl _, by omega, fun x h1 h2 => by omega⟩
  | n + 1, hm => by
    obtain ⟨L, h1, h2, h3⟩ := begins p a n hm
    by_cases hp : p (a + n)
    · refine ⟨L, h1, by omega, fun x hx hx' => ?_⟩
      by_cases e : x = a + n
      · subst e; exact ⟨fun _ => by omega, fun _ => hp⟩
      · exact h3 x hx (by omega)
    · refine ⟨a + (n + 1 : Nat), by omega, by omega, fun x hx hx' => ⟨fun h => ?_, fun h => by omega⟩⟩
      exact absurd (hm x (a + n) (by omega) h) hp

theorem lf_ex (m : Mt) (h : MtOK m) (y : Int) : ∃ L, -rch ≤ L ∧ L ≤ rch + 1 ∧ ∀ x, -rch ≤ x → x ≤ rch → (y ≤ mkHi m x ↔ L ≤ x) := by
  obtain ⟨L, h1, h2, h3⟩ := begins (fun x => y ≤ mkHi m x) (-rch) 8796093022209 fun a b hab ha => Int.le_trans ha (mkHi_mono h hab)
  exact ⟨L, h1, by simp only [rch] at *; omega, fun x hx hx' => h3 x hx (by simp only [rch] at *; omega)⟩
theorem mf_ex (m : Mt) (h : MtOK m) (y : Int) : ∃ M, -rch - 1 ≤ M ∧ M ≤ rch ∧ ∀ x, -rch ≤ x → x ≤ rch → (mkLo m x ≤ y ↔ x ≤ M) := by
  obtain ⟨L, h1, h2, h3⟩ := begins (fun x => y < mkLo m x) (-rch) 8796093022209 fun a b hab ha => Int.lt_of_lt_of_le ha (mkLo_mono h hab)
  refine ⟨L - 1, by omega, by simp only [rch] at *; omega, fun x hx hx' => ?_⟩
  have := h3 x hx (by simp only [rch] at *; omega)
  omega
open Classical in
noncomputable def lf (m : Mt) (y : Int) : Int := if h : MtOK m then (lf_ex m h y).choose else 0
open Classical in
noncomputable def mf (m : Mt) (y : Int) : Int := if h : MtOK m then (mf_ex m h y).choose else 0
theorem lf_in {m : Mt} (h : MtOK m) (y : Int) : -rch ≤ lf m y ∧ lf m y ≤ rch + 1 := by
  unfold lf; rw [dif_pos h]; exact ⟨(lf_ex m h y).choose_spec.1, (lf_ex m h y).choose_spec.2.1⟩
theorem lf_iff {m : Mt} (h : MtOK m) {y x : Int} (h1 : -rch ≤ x) (h2 : x ≤ rch) : y ≤ mkHi m x ↔ lf m y ≤ x := by
  unfold lf; rw [dif_pos h]; exact (lf_ex m h y).choose_spec.2.2 x h1 h2
theorem mf_in {m : Mt} (h : MtOK m) (y : Int) : -rch - 1 ≤ mf m y ∧ mf m y ≤ rch := by
  unfold mf; rw [dif_pos h]; exact ⟨(mf_ex m h y).choose_spec.1, (mf_ex m h y).choose_spec.2.1⟩
theorem mf_iff {m : Mt} (h : MtOK m) {y x : Int} (h1 : -rch ≤ x) (h2 : x ≤ rch) : mkLo m x ≤ y ↔ x ≤ mf m y := by
  unfold mf; rw [dif_pos h]; exact (mf_ex m h y).choose_spec.2.2 x h1 h2


def mt (bs : List Mt) (m : Int) : Mt := bs.getD m.toNat default
def chL (bs : List Mt) : Nat → Int → List Int
  | 0, _ => []
  | n + 1, m => if m = -1 then [] else m :: chL bs n (mt bs m).cmp
theorem chL_end (bs : List Mt) (n : Nat) : chL bs n (-1) = [] := by cases n <;> simp [chL]
theorem chL_len (bs : List Mt) : ∀ (n : Nat) (m : Int), (chL bs n m).length ≤ n
  | 0, _ => Nat.le_refl _
  | n + 1, m => by
    unfold chL
    split
    · simp
    · have := chL_len bs n (mt bs m).cmp; simp; omega
theorem chL_stop (bs : List Mt) : ∀ (n : Nat) (m : Int), (chL bs n m).length < n → chL bs (n + 1) m = chL bs n m
  | 0, _, h => by omega
  | n + 1, m, h => by
    by_cases hm : m = -1
    · simp [chL, hm]
    · have e1 : chL bs (n + 1) m = m :: chL bs n (mt bs m).cmp := by rw [chL, if_neg hm]
      have e2 : chL bs (n + 2) m = m :: chL bs (n + 1) (mt bs m).cmp := by rw [chL, if_neg hm]
      rw [e1] at h
      rw [e1, e2, chL_stop bs n _ (by simpa using h)]

structure VB (bs : List Mt) : Prop where
  len : bs.length ≤ 12
  all : ∀ x ∈ bs, MtOK x
  cmp : ∀ x ∈ bs, -1 ≤ x.cmp ∧ x.cmp < bs.length
  ends : ∀ m : Int, 0 ≤ m → m < bs.length → (chL bs (bs.length + 1) m).length ≤ bs.length
def ch (bs : List Mt) (m : Int) : List Int := chL bs (bs.length + 1) m
theorem mt_mem {bs : List Mt} {m : Int} (h0 : 0 ≤ m) (h1 : m < bs.length) : mt bs m ∈ bs := by
  unfold mt
  rw [List.getD_eq_getElem?_getD, List.getElem?_eq_getElem (by omega)]
  exact List.getElem_mem _
theorem mt_get {bs : List Mt} {m : Int} (h0 : 0 ≤ m) (h1 : m < bs.length) : bs[m.toNat]? = some (mt bs m) := by
  unfold mt
  rw [List.getD_eq_getElem?_getD, List.getElem?_eq_getElem (by omega)]; rfl
theorem ch_end (bs : List Mt) : ch bs (-1) = [] := chL_end _ _
theorem ch_step {bs : List Mt} (h : VB bs) {m : Int} (h0 : 0 ≤ m) (h1 : m < bs.length) : ch bs m = m :: ch bs (mt bs m).cmp := by
  have e : ch bs m = m :: chL bs bs.length (mt bs m).cmp := by unfold ch; rw [chL, if_neg (by omega)]
  have hl : (ch bs m).length ≤ bs.length := h.ends m h0 h1
  rw [e] at hl ⊢
  simp only [List.length_cons] at hl
  unfold ch
  rw [chL_stop bs _ _ (by omega)]
theorem ch_len {bs : List Mt} (h : VB bs) {m : Int} (h0 : -1 ≤ m) (h1 : m < bs.length) : (ch bs m).length ≤ bs.length := by
  by_cases hm : m = -1
  · subst hm; rw [ch_end]; simp
  · exact h.ends m (by omega) h1
theorem ch_mem {bs : List Mt} (h : VB bs) : ∀ (n : Nat) (m : Int), (ch bs m).length = n → -1 ≤ m → m < bs.length → ∀ k ∈ ch bs m, 0 ≤ k ∧ k < bs.length := by
  intro n
  induction n with
  | zero => intro m hn _ _ k hk; rw [List.length_eq_zero_iff.1 hn] at hk; cases hk
  | succ n ih =>
    intro m hn h0 h1 k hk
    by_cases hm : m = -1
    · subst hm; rw [ch_end] at hk; cases hk
    · have e := ch_step h (show 0 ≤ m by omega) h1
      rw [e] at hk hn
      rcases List.mem_cons.1 hk with rfl | hk
      · omega
      · have hc := h.cmp _ (mt_mem (show 0 ≤ m by omega) h1)
        exact ih _ (by simpa using hn) hc.1 hc.2 k hk

theorem VB.made {bs : List Mt} (h12 : bs.length ≤ 12) (ha : ∀ x ∈ bs, MtOK x) (hc : ∀ (i : Nat) (x : Mt), bs[i]? = some x → -1 ≤ x.cmp ∧ x.cmp < i) : VB bs := by
  refine ⟨h12, ha, fun x hx => ?_, fun m h0 h1 => ?_⟩
  · obtain ⟨i, hi, rfl⟩ := List.mem_iff_getElem.1 hx
    have := hc i _ (List.getElem?_eq_getElem hi); omega
  · have key : ∀ (n k : Nat) (m : Int), -1 ≤ m → m < k → m < bs.length → (chL bs n m).length ≤ k := by
      intro n
      induction n with
      | zero => intro k m _ _ _; simp [chL]
      | succ n ih =>
        intro k m h0 h1 h2
        unfold chL
        split
        · simp
        · rename_i hm
          have h4 := hc m.toNat _ (mt_get (show 0 ≤ m by omega) h2)
          have := ih (k - 1) (mt bs m).cmp h4.1 (by omega) (by omega)
          simp only [List.length_cons]; omega
    exact key _ _ m (by omega) h1 h1


noncomputable def tfr (bs : List Mt) : List Int → Int → Int → Option (Int × Int)
  | [], a, b => some (a, b)
  | m :: ms, a, b => if lf (mt bs m) a > mf (mt bs m) b then none else tfr bs ms (lf (mt bs m) a) (mf (mt bs m) b)
noncomputable def tru (bs : List Mt) (m n : Int) : Option (Int × Int) :=
  match tfr bs (ch bs m) (n - (mt bs m).step / 2) (n + (mt bs m).step / 2) with
  | none => none
  | some (a, b) => if max a (-1000000000) > min b 1000000000 then none else some (max a (-1000000000), min b 1000000000)

def Rd (bs : List Mt) : List Int → Int → Int → Prop
  | [], x, v => x = v
  | m :: ms, x, v => ∃ u, Rd bs ms x u ∧ mkLo (mt bs m) u ≤ v ∧ v ≤ mkHi (mt bs m) u

def bnd : Nat → Int
  | 0 => 1000000000
  | n + 1 => 2 * bnd n + 1000000
theorem bnd_mono {a b : Nat} (h : a ≤ b) : bnd a ≤ bnd b := by
  have h1 : ∀ n, 0 ≤ bnd n := fun n => by induction n with | zero => decide | succ n ih => unfold bnd; omega
  induction h with
  | refl => exact Int.le_refl _
  | step _ ih =>
    rename_i m _
    have := h1 m
    have e : bnd m.succ = 2 * bnd m + 1000000 := rfl
    omega
theorem bnd_rch {n : Nat} (h : n ≤ 12) : bnd n ≤ 4200000000000 := Int.le_trans (bnd_mono h) (by decide)
theorem Rd.bd {bs : List Mt} : ∀ {l : List Int} {x v : Int}, (∀ m ∈ l, MtOK (mt bs m)) → -1000000000 ≤ x ∧ x ≤ 1000000000 → Rd bs l x v → -bnd l.length ≤ v ∧ v ≤ bnd l.length
  | [], x, v, _, hx, h => by cases h; exact hx
  | m :: ms, x, v, hm, hx, ⟨u, h1, h2, h3⟩ => by
    have := Rd.bd (fun k hk => hm k (List.mem_cons_of_mem _ hk)) hx h1
    have h4 := mk_bd (hm m List.mem_cons_self) this
    simp only [List.length_cons, bnd]; omega
theorem Rd.tfr {bs : List Mt} : ∀ {l : List Int} {x v a b : Int}, (∀ m ∈ l, MtOK (mt bs m)) → l.length ≤ 12 → -1000000000 ≤ x ∧ x ≤ 1000000000 → Rd bs l x v → a ≤ v → v ≤ b →
    ∃ c d, tfr bs l a b = some (c, d) ∧ c ≤ x ∧ x ≤ d
  | [], x, v, a, b, _, _, _, h, h1, h2 => by cases h; exact ⟨a, b, rfl, h1, h2⟩
  | m :: ms, x, v, a, b, hm, hl, hx, ⟨u, h1, h2, h3⟩, ha, hb => by
    have hk := fun k hk => hm k (List.mem_cons_of_mem _ hk)
    have hmk := hm m List.mem_cons_self
    have hbd := Rd.bd hk hx h1
    have hb2 := bnd_rch (n := ms.length) (by simp at hl; omega)
    have e1 := (lf_iff hmk (y := a) (x := u) (by simp only [rch]; omega) (by simp only [rch]; omega)).1 (by omega)
    have e2 := (mf_iff hmk (y := b) (x := u) (by simp only [rch]; omega) (by simp only [rch]; omega)).1 (by omega)
    have ih := Rd.tfr hk (by simp at hl; omega) hx h1 e1 e2
    unfold Gauge.tfr
    rw [if_neg (by omega)]
    exact ih
end Go.Gauge

namespace Go.Gauge

structure Nar (m m' : Mt) : Prop where
  g : m.glo ≤ m'.glo ∧ m'.ghi ≤ m.ghi
  o : m.olo ≤ m'.olo ∧ m'.ohi ≤ m.ohi
theorem pl_nar {a b a' b' x : Int} (ha : a ≤ a') (hb : b' ≤ b) : pl a' b' x ≤ pl a b x := by
  unfold pl
  split
  · exact Int.mul_le_mul_of_nonpos_left (by omega) ha
  · exact Int.mul_le_mul_of_nonneg_left hb (by omega)
theorem Nar.hi {m m' : Mt} (h : Nar m m') (x : Int) : mkHi m' x ≤ mkHi m x := by
  have := pl_nar (x := x) h.g.1 h.g.2
  have := h.o
  unfold mkHi; omega
theorem Nar.lo {m m' : Mt} (h : Nar m m') (x : Int) : mkLo m x ≤ mkLo m' x := by
  have := pl_nar (x := x) h.g.2 h.g.1
  have := h.o
  unfold mkLo
  have h2 : pl m.ghi m.glo x ≤ pl m'.ghi m'.glo x := by
    unfold pl
    split
    · exact Int.mul_le_mul_of_nonpos_left (by omega) h.g.2
    · exact Int.mul_le_mul_of_nonneg_left h.g.1 (by omega)
  omega

end Go.Gauge

namespace Go.Proofs
open Go Go.Sx Go.Gauge

def r2 (a b : Int) : AVal := .agg [.int .i64 a, .int .i64 b]
theorem next_ok (w : Int) : Ans Tryd.prog n_kit_Dice_next [.ptr 0 0 0 1] [some (Dr w)] (.int .u64 (dmix (dstep w))) [some (Dr (dstep w))] := by
  refine spec_run e_kit_Dice_next fun G => ?_
  simp only [go_sem, Dr, dmix, dstep]
  exact ⟨_, rfl⟩

theorem upto_ok (w n : Int) (hn : n ≤ 9223372036854775807) : Ans Tryd.prog n_kit_Dice_Upto [.ptr 0 0 0 1, .int .i64 n] [some (Dr w)] (.int .i64 (upto w n)) [some (Dr (dstep w))] := by
  refine spec_run e_kit_Dice_Upto fun G => ?_
  simp only [go_sem]
  refine callD (next_ok w) rfl trivial (.int _ _) (dr_bel _ _) (dr_bel _ _) (by simp) (by simp) ?_
  simp only [go_sem]
  refine ⟨fun h => ⟨by simp [upto, h], by simp⟩, fun h => ?_⟩
  have hm : 0 ≤ dmix (dstep w) := (bitW_u64 _ _ _).1
  have h1 : IntKind.u64.wrap n = n := IntWalk.u64_in n (by omega)
  have h2 : (dmix (dstep w)).tmod n = dmix (dstep w) % n := Int.tmod_eq_emod_of_nonneg hm
  have h3 := Int.emod_nonneg (dmix (dstep w)) (show n ≠ 0 by omega)
  have h4 := Int.emod_lt_of_pos (dmix (dstep w)) (show 0 < n by omega)
  rw [h1, h2, IntWalk.i64_in _ (by omega)]
  refine ⟨by omega, by rw [upto, if_neg h], _, rfl⟩

theorem between_ok (w lo hi : Int) (h1 : -1152921504606846976 ≤ lo) (h2 : lo ≤ hi) (h3 : hi ≤ 1152921504606846976) : Ans Tryd.prog n_kit_Dice_Between [.ptr 0 0 0 1, .int .i64 lo, .int .i64 hi] [some (Dr w)] (.int .i64 (btw w lo hi)) [some (Dr (dstep w))] := by
  refine spec_run e_kit_Dice_Between fun G => ?_
  simp only [go_sem]
  rw [IntWalk.i64_in (hi - lo) (by omega), IntWalk.i64_in (hi - lo + 1) (by omega)]
  refine callD (upto_ok w _ (by omega)) rfl ⟨.int _ _, trivial⟩ (.int _ _) (dr_bel _ _) (dr_bel _ _) (by simp) (by simp) ?_
  have := btw_in (w := w) h2
  unfold btw at this
  simp only [go_sem]
  rw [IntWalk.i64_in _ (by omega)]
  exact ⟨rfl, _, rfl⟩

theorem newdice_ok (xs : List Int) (hl : xs.length ≤ 9223372036854775807) : Ans Tryd.prog n_kit_NewDice [.view (xs.map (.int .i64))] [] (.ptr 0 0 0 1) [some (Dr (seedW xs))] := by
  unfold seedW
  refine spec_run e_kit_NewDice fun G => ?_
  simp only [go_sem]
  have key : ∀ (zs : List Int) (i : Nat) (w : Int), xs.drop i = zs → i ≤ xs.length →
      Sx.Loop Tryd.prog G 0 none k_kit_NewDice_r7 [.blk 0, .seq (.seq (.reg k_kit_NewDice_r8 false) .ret)] ⟨[.view (xs.map (.int .i64)), .any, .nilptr, .ptr 0 0 0 1, .int .i64 i] ++ List.replicate 28 .any, [some (Dr w)], []⟩
        (RetPost [ARes.tmp 2] fun v H' => v = .ptr 0 0 0 1 ∧ ∃ X, H' = some (Dr (feed w zs)) :: X) := by
    intro zs
    induction zs with
    | nil =>
      intro i w hd hi
      have : xs.length ≤ i := by simpa using hd
      have h1 : ¬ (i : Int) < xs.length := by omega
      refine loop_body 200 k_kit_NewDice_r7.eq_1 ?_
      simp only [go_sem, h1, feed]
      exact ⟨_, rfl⟩
    | cons z zs ih =>
      intro i w hd hi
      have hx : xs[i]? = some z := by have := congrArg (·[0]?) hd; simpa using this
      have h1 : i < xs.length := (List.getElem?_eq_some_iff.1 hx).1
      have h2 : (i : Int) < xs.length := by omega
      have h3 : IntKind.i64.wrap ((i : Int) + 1) = ((i + 1 : Nat) : Int) := by rw [IntWalk.i64_in _ (by omega)]; rfl
      have hd' : xs.drop (i + 1) = zs := by have := congrArg (List.drop 1) hd; simpa [Nat.add_comm] using this
      refine loop_body 200 k_kit_NewDice_r7.eq_1 ?_
      simp only [go_sem, hx, h2, Dr]
      refine callD (next_ok _) rfl trivial (.int _ _) (dr_bel _ _) (dr_bel _ _) (by simp) (by simp) ?_
      simp only [go_sem, h3]
      refine loop_wk ?_ (ih (i + 1) _ hd' h1)
      simp [Wk]
  refine loop_wk ?_ (key xs 0 _ rfl (Nat.zero_le _))
  simp [Wk]

theorem mod_ok (a b : Int) (hb : b ≤ 9223372036854775807) : Ans Tryd.prog n_kit_Mod [.int .i64 a, .int .i64 b] [] (.int .i64 (if b < 1 then 0 else a % b)) [] := by
  refine spec_run e_kit_Mod fun G => ?_
  simp only [go_sem]
  refine ⟨fun h => by simp [h], fun h => ?_⟩
  have e := Int.tmod_eq_emod (a := a) (b := b)
  have h1 := Int.emod_nonneg a (show b ≠ 0 by omega)
  have h2 := Int.emod_lt_of_pos a (show 0 < b by omega)
  rw [if_neg h]
  generalize a % b = m at *
  generalize a.tmod b = t at *
  refine ⟨by omega, fun h3 => ?_, fun h3 => ?_⟩
  · rw [IntWalk.i64_in _ (by split at e <;> omega)]
    split at e <;> omega
  · split at e <;> omega

theorem mod_pos (a b : Int) (hb : 1 ≤ b ∧ b ≤ 9223372036854775807) : Ans Tryd.prog n_kit_Mod [.int .i64 a, .int .i64 b] [] (.int .i64 (a % b)) [] := by
  have h := mod_ok a b hb.2
  rwa [if_neg (by omega)] at h
attribute [local irreducible] Run
theorem one_ok (w n : Int) (hn : n ≤ 9223372036854775807) : Ans Tryd.prog n_kit_Dice_One [.ptr 0 0 0 1, .int .i64 n] [some (Dr w)] (.bool (upto w n == 0)) [some (Dr (dstep w))] := by
  refine spec_run e_kit_Dice_One fun G => ?_
  simp only [go_sem]
  refine cD (upto_ok w n hn) ?_
  simp only [go_sem]
  exact ⟨_, rfl⟩
theorem range_run (w lo hi : Int) (h1 : -1152921504606846976 ≤ lo) (h2 : lo ≤ hi) (h3 : hi ≤ 1152921504606846976) : Ans Tryd.prog n_kit_Dice_Range [.ptr 0 0 0 1, .int .i64 lo, .int .i64 hi] [some (Dr w)] (rngR w lo hi).v [some (Dr (dstep (dstep w)))] := by
  refine spec_run e_kit_Dice_Range fun G => ?_
  simp only [go_sem]
  refine cD (between_ok w lo hi h1 h2 h3) ?_
  simp only [go_sem]
  refine cD (between_ok (dstep w) lo hi h1 h2 h3) ?_
  simp only [go_sem]
  exact ⟨rfl, _, rfl⟩
theorem in_run (w a b : Int) (h1 : -1152921504606846976 ≤ a) (h2 : a ≤ b) (h3 : b ≤ 1152921504606846976) : Ans Tryd.prog n_kit_Dice_In [.ptr 0 0 0 1, r2 a b] [some (Dr w)] (.int .i64 (btw w a b)) [some (Dr (dstep w))] := by
  have hb := between_ok w a b h1 h2 h3
  refine spec_run e_kit_Dice_In fun G => ?_
  simp only [go_sem, r2]
  by_cases c1 : a < b
  · simp only [c1, if_true]
    refine cD hb ?_
    simp only [go_sem]
    exact ⟨_, rfl⟩
  · have e : b = a := by omega
    rw [e] at hb ⊢
    simp only [Int.lt_irrefl, if_false]
    refine cD hb ?_
    simp only [go_sem]
    exact ⟨_, rfl⟩

theorem quo_bd {a b : Int} (ha : -9223372036854775807 ≤ a ∧ a ≤ 9223372036854775807) (hb : 1 ≤ b) : -9223372036854775807 ≤ a.tdiv b ∧ a.tdiv b ≤ 9223372036854775807 := by
  have h : (a.tdiv b).natAbs ≤ a.natAbs := by
    rw [Int.natAbs_tdiv]; exact Nat.div_le_self _ _
  omega
theorem roundDown_run (a b : Int) (ha : -9223372036854775807 ≤ a ∧ a ≤ 9223372036854775807) (hb : 1 ≤ b ∧ b ≤ 9223372036854775807) : Ans Tryd.prog n_gauge_roundDown [.int .i64 a, .int .i64 b] [] (.int .i64 (a / b)) [] := by
  have hb0 : b ≠ 0 := by omega
  have bd := quo_bd ha hb.1
  have key := floor_key a b hb.1
  have w1 : IntKind.i64.wrap (a.tdiv b) = a.tdiv b := w64 (by omega)
  have w2 : IntKind.i64.wrap (a.tdiv b - 1) = a.tdiv b - 1 := w64 (by omega)
  refine spec_run e_gauge_roundDown fun G => ?_
  by_cases h : a.tmod b < 0
  · rw [if_pos h] at key
    simp only [go_sem, hb0, h, w1, w2]
    exact key
  · rw [if_neg h] at key
    simp only [go_sem, hb0, h, w1]
    exact key
theorem refDown_run (a b : Int) (ha : -9223372036854775807 ≤ a ∧ a ≤ 9223372036854775807) (hb : 1 ≤ b ∧ b ≤ 9223372036854775807) : Ans Tryd.prog n_ref07_Down [.int .i64 a, .int .i64 b] [] (.int .i64 (a / b)) [] := by
  have hb0 : b ≠ 0 := by omega
  have bd := quo_bd ha hb.1
  have key := floor_key a b hb.1
  have w1 : IntKind.i64.wrap (a.tdiv b) = a.tdiv b := w64 (by omega)
  have w2 : IntKind.i64.wrap (a.tdiv b - 1) = a.tdiv b - 1 := w64 (by omega)
  refine spec_run e_ref07_Down fun G => ?_
  by_cases h : a.tmod b < 0
  · rw [if_pos h] at key
    simp only [go_sem, hb0, h, w1, w2]
    exact key
  · rw [if_neg h] at key
    simp only [go_sem, hb0, h, w1]
    exact key
theorem fl_bd {a b : Int} (ha : -9223372036854775807 ≤ a ∧ a ≤ 9223372036854775807) (hb : 1 ≤ b) : -9223372036854775807 ≤ a / b ∧ a / b ≤ 9223372036854775807 := by
  have h1 : a / b ≤ 9223372036854775807 := Int.le_trans (Int.ediv_le_ediv (by omega) ha.2) (Int.ediv_le_self b (by omega))
  have h2 : -9223372036854775807 ≤ a / b := by
    rw [Int.le_ediv_iff_mul_le (by omega)]
    have := Int.mul_le_mul_of_nonneg_left hb (show (0 : Int) ≤ 9223372036854775807 by omega)
    rw [Int.neg_mul]; omega
  omega
theorem roundUp_run (a b : Int) (ha : -9223372036854775807 ≤ a ∧ a ≤ 9223372036854775807) (hb : 1 ≤ b ∧ b ≤ 9223372036854775807) : Ans Tryd.prog n_gauge_roundUp [.int .i64 a, .int .i64 b] [] (.int .i64 (-(-a / b))) [] := by
  have bd := fl_bd (a := -a) (b := b) (by omega) hb.1
  have w1 : IntKind.i64.wrap (0 - a) = -a := by rw [w64 (by omega)]; omega
  have w2 : IntKind.i64.wrap (0 - -a / b) = -(-a / b) := by rw [w64 (by omega)]; omega
  refine spec_run e_gauge_roundUp fun G => ?_
  simp only [go_sem, w1]
  refine cP (roundDown_run (-a) b (by omega) hb) ?_
  simp only [go_sem, w2]
theorem refUp_run (a b : Int) (ha : -9223372036854775807 ≤ a ∧ a ≤ 9223372036854775807) (hb : 1 ≤ b ∧ b ≤ 9223372036854775807) : Ans Tryd.prog n_ref07_Up [.int .i64 a, .int .i64 b] [] (.int .i64 (-(-a / b))) [] := by
  have bd := fl_bd (a := -a) (b := b) (by omega) hb.1
  have w1 : IntKind.i64.wrap (0 - a) = -a := by rw [w64 (by omega)]; omega
  have w2 : IntKind.i64.wrap (0 - -a / b) = -(-a / b) := by rw [w64 (by omega)]; omega
  refine spec_run e_ref07_Up fun G => ?_
  simp only [go_sem, w1]
  refine cP (refDown_run (-a) b (by omega) hb) ?_
  simp only [go_sem, w2]

def Mc (m : Mt) : List AVal := [.int .i64 m.glo, .int .i64 m.ghi, .int .i64 m.olo, .int .i64 m.ohi, .int .i64 m.step, .int .i64 m.cmp, .int .i64 m.due]
def Mv (m : Mt) : AVal := .agg (Mc m)
@[go_sem] theorem mv_bel (m : Mt) (S : Nat → Prop) : Bel S (Mv m) = True := by unfold Mv Mc; simp only [go_sem]
@[go_sem] theorem mvs_bel (ms : List Mt) (S : Nat → Prop) : Bels S (ms.map Mv) = True := eq_true (bels_map _ _ fun m => by simp only [go_sem])
@[go_sem] theorem mv_nv (m : Mt) : NV (Mv m) = True := by unfold Mv Mc; simp only [go_sem]
@[go_sem] theorem mvs_nv (ms : List Mt) : NVs (ms.map Mv) = True := eq_true (nvs_map _ _ fun m => by simp only [go_sem])
@[go_sem] theorem r2_bel (a b : Int) (S : Nat → Prop) : Bel S (r2 a b) = True := by unfold r2; simp only [go_sem]
@[go_sem] theorem r2_nv (a b : Int) : NV (r2 a b) = True := by unfold r2; simp only [go_sem]

theorem makes_run {m : Mt} (h : MtOK m) {x : Int} (hx : -rch ≤ x ∧ x ≤ rch) : Ans Tryd.prog n_gauge_makes [Mv m, .int .i64 x] [] (r2 (mkLo m x) (mkHi m x)) [] := by
  have hg := h.g
  have ho := h.o
  have b1 := pl_bd (a := m.ghi) (b := m.glo) (x := x) (B := rch) (by omega) (by omega) hx
  have b2 := pl_bd (a := m.glo) (b := m.ghi) (x := x) (B := rch) (by omega) (by omega) hx
  have b3 := mk_bd h hx
  have b4 := mk_le h x
  simp only [rch] at hx b1 b2 b3
  refine spec_run e_gauge_makes fun G => ?_
  simp only [go_sem, Mv, Mc]
  unfold mkLo mkHi at *
  by_cases c : x < 0
  · simp only [pl, if_pos c] at b1 b2 b3 b4 ⊢
    have w1 : IntKind.i64.wrap (x * m.ghi) = x * m.ghi := w64 (by omega)
    have w2 : IntKind.i64.wrap (x * m.glo) = x * m.glo := w64 (by omega)
    have w3 : IntKind.i64.wrap (x * m.ghi / 1000000 + m.olo) = x * m.ghi / 1000000 + m.olo := w64 (by omega)
    have w4 : IntKind.i64.wrap (-(-(x * m.glo) / 1000000) + m.ohi) = -(-(x * m.glo) / 1000000) + m.ohi := w64 (by omega)
    simp only [go_sem, c, w1, w2]
    refine dP (roundDown_run (x * m.ghi) 1000000 (by omega) (by omega)) ?_
    simp only [go_sem, w2, w3]
    refine dP (roundUp_run (x * m.glo) 1000000 (by omega) (by omega)) ?_
    simp only [go_sem, w4, r2]
  · simp only [pl, if_neg c] at b1 b2 b3 b4 ⊢
    have w1 : IntKind.i64.wrap (x * m.glo) = x * m.glo := w64 (by omega)
    have w2 : IntKind.i64.wrap (x * m.ghi) = x * m.ghi := w64 (by omega)
    have w3 : IntKind.i64.wrap (x * m.glo / 1000000 + m.olo) = x * m.glo / 1000000 + m.olo := w64 (by omega)
    have w4 : IntKind.i64.wrap (-(-(x * m.ghi) / 1000000) + m.ohi) = -(-(x * m.ghi) / 1000000) + m.ohi := w64 (by omega)
    simp only [go_sem, c, w1, w2]
    refine dP (roundDown_run (x * m.glo) 1000000 (by omega) (by omega)) ?_
    simp only [go_sem, w2, w3]
    refine dP (roundUp_run (x * m.ghi) 1000000 (by omega) (by omega)) ?_
    simp only [go_sem, w4, r2]
theorem Made_run {m : Mt} (h : MtOK m) {x : Int} (hx : -rch ≤ x ∧ x ≤ rch) : Ans Tryd.prog n_ref07_Made [Mv m, .int .i64 x] [] (r2 (mkLo m x) (mkHi m x)) [] := by
  have hg := h.g
  have ho := h.o
  have b1 := pl_bd (a := m.ghi) (b := m.glo) (x := x) (B := rch) (by omega) (by omega) hx
  have b2 := pl_bd (a := m.glo) (b := m.ghi) (x := x) (B := rch) (by omega) (by omega) hx
  have b3 := mk_bd h hx
  have b4 := mk_le h x
  simp only [rch] at hx b1 b2 b3
  refine spec_run e_ref07_Made fun G => ?_
  simp only [go_sem, Mv, Mc]
  unfold mkLo mkHi at *
  by_cases c : x < 0
  · simp only [pl, if_pos c] at b1 b2 b3 b4 ⊢
    have w1 : IntKind.i64.wrap (x * m.ghi) = x * m.ghi := w64 (by omega)
    have w2 : IntKind.i64.wrap (x * m.glo) = x * m.glo := w64 (by omega)
    have w3 : IntKind.i64.wrap (x * m.ghi / 1000000 + m.olo) = x * m.ghi / 1000000 + m.olo := w64 (by omega)
    have w4 : IntKind.i64.wrap (-(-(x * m.glo) / 1000000) + m.ohi) = -(-(x * m.glo) / 1000000) + m.ohi := w64 (by omega)
    simp only [go_sem, c, w1, w2]
    refine dP (refDown_run (x * m.ghi) 1000000 (by omega) (by omega)) ?_
    simp only [go_sem, w2, w3]
    refine dP (refUp_run (x * m.glo) 1000000 (by omega) (by omega)) ?_
    simp only [go_sem, w4, r2]
  · simp only [pl, if_neg c] at b1 b2 b3 b4 ⊢
    have w1 : IntKind.i64.wrap (x * m.glo) = x * m.glo := w64 (by omega)
    have w2 : IntKind.i64.wrap (x * m.ghi) = x * m.ghi := w64 (by omega)
    have w3 : IntKind.i64.wrap (x * m.glo / 1000000 + m.olo) = x * m.glo / 1000000 + m.olo := w64 (by omega)
    have w4 : IntKind.i64.wrap (-(-(x * m.ghi) / 1000000) + m.ohi) = -(-(x * m.ghi) / 1000000) + m.ohi := w64 (by omega)
    simp only [go_sem, c, w1, w2]
    refine dP (refDown_run (x * m.glo) 1000000 (by omega) (by omega)) ?_
    simp only [go_sem, w2, w3]
    refine dP (refUp_run (x * m.ghi) 1000000 (by omega) (by omega)) ?_
    simp only [go_sem, w4, r2]
end Go.Proofs

namespace Go.Proofs
open Go Go.Sx Go.Gauge
attribute [local irreducible] Run

section
variable {P : Program} {G : Ctx} {k : Nat} {rd : Option Nat} {R : Runner} {l : List AOper} {fs : List Sx.Frame} {ρ : List AVal} {H : Heap} {ms : List Nat} {Q : Sx.Goal} {dst : Option Nat} {x y : Row} {g : FuncId} {args : List AVal} {r : AVal}
theorem cN2 (h : Ans P g args [] r [some x, some y]) (hK : R (.ops l) fs ⟨setD ρ dst (ren (fun i => H.length + i) r), H ++ [some x, some y], ms⟩ Q)
    (hb : Bels (fun _ => False) args := by simp only [go_sem]) (hr : Bel (· < 2) r := by simp [go_sem]) (hx : x.bel (fun _ => False) := by first | (simp only [go_sem]; done) | (rw [row_bel_cells]; simp only [go_sem])) (hy : y.bel (fun _ => False) := by first | (simp only [go_sem]; done) | (rw [row_bel_cells]; simp only [go_sem])) (hk : k ≤ H.length := by simp) (hms : ∀ q ∈ ms, H[q]? = some (some .dfr) := by simp) : CallR P G k R g args dst l fs ρ H ms Q := by
  have e : outΔ (outσ [] H.length) 0 [some x, some y] = [(H.length, x), (H.length + 1, y)] := by
    simp only [outΔ, Row.ren_same hx, Row.ren_same hy]
    rfl
  have eσ : outσ [] H.length = fun i => H.length + i := by funext i; simp [outσ]
  refine callS h [] (by simp) trivial (by
    conv => lhs; rw [← List.map_id args]
    exact List.map_congr_left fun v hv => (ren_same (bels_mem hb v hv)).symm) (bels_of fun v hv => (bels_mem hb v hv).mono fun _ h => h.elim) trivial (by simp) (by simpa using hr)
    ⟨bel_mono_row hx fun _ h => h.elim, bel_mono_row hy fun _ h => h.elim, trivial⟩ (fun q hq => by simp at hq) hk (fun q hq => ?_) ?_
  · refine ⟨?_, hms q hq⟩
    rw [e]
    have := (List.getElem?_eq_some_iff.1 (hms q hq)).1
    simp; omega
  · rw [e, eσ]
    have e3 : Heap.put (H ++ [some x]) (H.length + 1) y = H ++ [some x, some y] := by
      have := Heap.put_end (H ++ [some x]) y
      simpa using this
    simp only [Heap.puts, Heap.put_end, e3]
    exact hK
end

theorem shr_u64 (x n : Int) : shrW .u64 x n = x / 2 ^ (min n.toNat 64) := by
  unfold shrW; rw [Int.fdiv_eq_ediv_of_nonneg _ (by exact Int.pow_nonneg (by decide))]; rfl
theorem s1 (x : Int) : shrW .u64 x 1 = x / 2 := by rw [shr_u64]; rfl

theorem search_ok (n : Nat) (hn : n ≤ 1000000000000000000) (g : Nat) (cs : List AVal) (hcs : Bels (fun _ => False) cs) (m : Nat) (hm : m ≤ n)
    (hp : ∀ i : Nat, i < n → Ans Tryd.prog g (.int .i64 i :: cs) [] (.bool (decide (m ≤ i))) []) : Ans Tryd.prog n_sort_Search [.int .i64 n, .fn (.func g) [] cs] [] (.int .i64 m) [] := by
  refine spec_run e_sort_Search fun G => ?_
  simp only [go_sem]
  refine loop_ind k_sort_Search_r7.eq_1 (fun a : Nat × Nat => a.1 ≤ m ∧ m ≤ a.2 ∧ a.2 ≤ n) (fun a => a.2 - a.1)
    (fun a => ([.int .i64 n, .fn (.func g) [] cs, .any, .any, .int .i64 0, .int .i64 a.1, .int .i64 a.2] ++ List.replicate 19 .any, [])) (0, n) ⟨Nat.zero_le _, hm, Nat.le_refl _⟩ (by simp [Wk]) rfl ?_
  rintro ⟨i, j⟩ ⟨hi, hj, hjn⟩ ih
  dsimp only at hi hj hjn ih ⊢
  by_cases h1 : i < j
  · have h2 : (i : Int) < j := by omega
    have e1 : IntKind.i64.wrap ((i : Int) + j) = i + j := w64 (by omega)
    have e2 : IntKind.u64.wrap ((i : Int) + j) = i + j := IntWalk.u64_in _ (by omega)
    have e3 : IntKind.i64.wrap (((i : Int) + j) / 2) = (((i + j) / 2 : Nat) : Int) := by rw [w64 (by omega)]; omega
    have e4 : IntKind.i64.wrap ((((i + j) / 2 : Nat) : Int) + 1) = (((i + j) / 2 + 1 : Nat) : Int) := by rw [w64 (by omega)]; omega
    have hq := hp ((i + j) / 2) (by omega)
    simp only [go_sem, h2, e1, e2, s1, e3]
    refine cP hq ?_ ⟨.int _ _, hcs⟩
    by_cases h3 : m ≤ (i + j) / 2
    · simp only [go_sem, h3]
      exact ih (i, (i + j) / 2) (by dsimp only; omega) ⟨hi, h3, by omega⟩ _ (by simp [Wk])
    · simp only [go_sem, h3, e4]
      exact ih ((i + j) / 2 + 1, j) (by dsimp only; omega) ⟨by dsimp only; omega, hj, hjn⟩ _ (by simp [Wk])
  · have h2 : ¬ (i : Int) < j := by omega
    simp only [go_sem, h2]
    omega

theorem least1_ok {m : Mt} (h : MtOK m) (y : Int) {i : Int} (hi : 0 ≤ i ∧ i < 8796093022209) :
    Ans Tryd.prog n_gauge_leastFor_1 [.int .i64 i, .rptr (Mv m) 0, .rptr (.int .i64 y) 0] [] (.bool (decide (lf m y + rch ≤ i))) [] := by
  have w1 : IntKind.i64.wrap (i - 4398046511104) = i - 4398046511104 := w64 (by omega)
  have hk := makes_run h (x := i - 4398046511104) (by simp only [rch]; omega)
  have e : decide (y ≤ mkHi m (i - 4398046511104)) = decide (lf m y + rch ≤ i) := by
    refine decide_eq_decide.2 ?_
    rw [lf_iff h (by simp only [rch]; omega) (by simp only [rch]; omega)]
    simp only [rch]; omega
  refine spec_run e_gauge_leastFor_1 fun G => ?_
  simp only [go_sem, Mv, Mc, w1]
  simp only [Mv, Mc] at hk
  refine dP hk ?_
  simp only [go_sem, r2]
  exact e
theorem most1_ok {m : Mt} (h : MtOK m) (y : Int) {i : Int} (hi : 0 ≤ i ∧ i < 8796093022209) :
    Ans Tryd.prog n_gauge_mostFor_1 [.int .i64 i, .rptr (Mv m) 0, .rptr (.int .i64 y) 0] [] (.bool (decide (mf m y + 1 + rch ≤ i))) [] := by
  have w1 : IntKind.i64.wrap (i - 4398046511104) = i - 4398046511104 := w64 (by omega)
  have hk := makes_run h (x := i - 4398046511104) (by simp only [rch]; omega)
  have e : decide (y < mkLo m (i - 4398046511104)) = decide (mf m y + 1 + rch ≤ i) := by
    refine decide_eq_decide.2 ?_
    have := mf_iff h (y := y) (x := i - 4398046511104) (by simp only [rch]; omega) (by simp only [rch]; omega)
    simp only [rch]; omega
  refine spec_run e_gauge_mostFor_1 fun G => ?_
  simp only [go_sem, Mv, Mc, w1]
  simp only [Mv, Mc] at hk
  refine dP hk ?_
  simp only [go_sem, r2]
  exact e
theorem leastFor_run {m : Mt} (h : MtOK m) (y : Int) : Ans Tryd.prog n_gauge_leastFor [Mv m, .int .i64 y] [] (.int .i64 (lf m y)) [] := by
  have hl := lf_in h y
  simp only [rch] at hl
  have hs := search_ok 8796093022209 (by omega) n_gauge_leastFor_1 [.rptr (Mv m) 0, .rptr (.int .i64 y) 0] (by simp only [go_sem]) (lf m y + rch).toNat (by simp only [rch]; omega) (fun i hi => by
    have := least1_ok h y (i := i) (by omega)
    rwa [show decide (lf m y + rch ≤ (i : Int)) = decide ((lf m y + rch).toNat ≤ i) from decide_eq_decide.2 (by simp only [rch]; omega)] at this)
  have e : ((lf m y + rch).toNat : Int) = lf m y + 4398046511104 := by simp only [rch]; omega
  have w1 : IntKind.i64.wrap (lf m y + 4398046511104 - 4398046511104) = lf m y := by rw [w64 (by omega)]; omega
  rw [e] at hs
  refine spec_run e_gauge_leastFor fun G => ?_
  simp only [go_sem, Mv, Mc]
  refine callF0 hs 6 (by simp only [go_sem, frz, Mv, Mc]) ?_
  simp only [go_sem, w1]
theorem mostFor_run {m : Mt} (h : MtOK m) (y : Int) : Ans Tryd.prog n_gauge_mostFor [Mv m, .int .i64 y] [] (.int .i64 (mf m y)) [] := by
  have hl := mf_in h y
  simp only [rch] at hl
  have hs := search_ok 8796093022209 (by omega) n_gauge_mostFor_1 [.rptr (Mv m) 0, .rptr (.int .i64 y) 0] (by simp only [go_sem]) (mf m y + 1 + rch).toNat (by simp only [rch]; omega) (fun i hi => by
    have := most1_ok h y (i := i) (by omega)
    rwa [show decide (mf m y + 1 + rch ≤ (i : Int)) = decide ((mf m y + 1 + rch).toNat ≤ i) from decide_eq_decide.2 (by simp only [rch]; omega)] at this)
  have e : ((mf m y + 1 + rch).toNat : Int) = mf m y + 1 + 4398046511104 := by simp only [rch]; omega
  have w1 : IntKind.i64.wrap (mf m y + 1 + 4398046511104 - 4398046511104) = mf m y + 1 := by rw [w64 (by omega)]; omega
  have w2 : IntKind.i64.wrap (mf m y + 1 - 1) = mf m y := by rw [w64 (by omega)]; omega
  rw [e] at hs
  refine spec_run e_gauge_mostFor fun G => ?_
  simp only [go_sem, Mv, Mc]
  refine callF0 hs 6 (by simp only [go_sem, frz, Mv, Mc]) ?_
  simp only [go_sem, w1, w2]


theorem within_run (n a b : Int) : Ans Tryd.prog n_gauge_within [.int .i64 n, .int .i64 a, .int .i64 b] [] (.bool (decide (a ≤ n ∧ n ≤ b))) [] := by
  refine spec_run e_gauge_within fun G => ?_
  by_cases h1 : a ≤ n
  · by_cases h2 : n ≤ b <;> simp only [go_sem, h1, h2]
  · simp only [go_sem, h1]
theorem isEmpty_run (a b : Int) : Ans Tryd.prog n_gauge_isEmpty [r2 a b] [] (.bool (decide (b < a))) [] := by
  refine spec_run e_gauge_isEmpty fun G => ?_
  simp only [go_sem, r2]
theorem common_run (a b c d : Int) : Ans Tryd.prog n_gauge_common [r2 a b, r2 c d] [] (r2 (max a c) (min b d)) [] := by
  refine spec_run e_gauge_common fun G => ?_
  have e1 : (if a < c then c else a) = max a c := by split <;> omega
  have e2 : (if d < b then d else b) = min b d := by split <;> omega
  simp only [go_sem, r2, e1, e2]
theorem isIn_run (n a b : Int) : Ans Tryd.prog n_gauge_isIn [.int .i64 n, r2 a b] [] (.bool (decide (a ≤ n ∧ n ≤ b))) [] := by
  refine spec_run e_gauge_isIn fun G => ?_
  simp only [go_sem, r2]
  refine cP (within_run n a b) ?_
  simp only [go_sem]
theorem half_run (m : Mt) (h : 1 ≤ m.step ∧ m.step ≤ 1000000) : Ans Tryd.prog n_gauge_half [Mv m] [] (.int .i64 (m.step / 2)) [] := by
  have e : m.step.tdiv 2 = m.step / 2 := Int.tdiv_eq_ediv_of_nonneg (by omega)
  have w1 : IntKind.i64.wrap (m.step / 2) = m.step / 2 := w64 (by omega)
  refine spec_run e_gauge_half fun G => ?_
  simp only [go_sem, Mv, Mc, e, w1]
theorem isMeter_run (bs : List Mt) (m : Int) (hl : bs.length ≤ 1000000) : Ans Tryd.prog n_gauge_isMeter [.view (bs.map Mv), .int .i64 m] [] (.bool (decide (0 ≤ m ∧ m < bs.length))) [] := by
  have w1 : IntKind.i64.wrap ((bs.length : Int) - 1) = (bs.length : Int) - 1 := w64 (by omega)
  have e : decide (0 ≤ m ∧ m < (bs.length : Int)) = decide (0 ≤ m ∧ m ≤ (bs.length : Int) - 1) := decide_eq_decide.2 (by omega)
  rw [e]
  refine spec_run e_gauge_isMeter fun G => ?_
  simp only [go_sem, w1]
  refine cP (within_run m 0 _) ?_
  simp only [go_sem]
theorem bothWithin_run (a b c d : Int) : Ans Tryd.prog n_gauge_bothWithin [r2 a b, .int .i64 c, .int .i64 d] [] (.bool (decide ((c ≤ a ∧ a ≤ d) ∧ (c ≤ b ∧ b ≤ d)))) [] := by
  have k1 := within_run a c d
  have k2 := within_run b c d
  by_cases h1 : c ≤ a ∧ a ≤ d
  · have e : decide ((c ≤ a ∧ a ≤ d) ∧ (c ≤ b ∧ b ≤ d)) = decide (c ≤ b ∧ b ≤ d) := decide_eq_decide.2 ⟨fun h => h.2, fun h => ⟨h1, h⟩⟩
    rw [e]
    rw [decide_eq_true h1] at k1
    clear h1 e
    generalize decide (c ≤ b ∧ b ≤ d) = t at *
    refine spec_run e_gauge_bothWithin fun G => ?_
    simp only [go_sem, r2]
    refine cP k1 ?_
    simp only [go_sem]
    refine cP k2 ?_
    simp only [go_sem]
  · have e : decide ((c ≤ a ∧ a ≤ d) ∧ (c ≤ b ∧ b ≤ d)) = false := decide_eq_false fun h => h1 h.1
    rw [e]
    rw [decide_eq_false h1] at k1
    refine spec_run e_gauge_bothWithin fun G => ?_
    simp only [go_sem, r2]
    refine cP k1 ?_
    simp only [go_sem]
theorem checkRange_yes {a b c d : Int} (h : c ≤ a ∧ a ≤ b ∧ b ≤ d) : Ans Tryd.prog n_gauge_checkRange [r2 a b, .int .i64 c, .int .i64 d] [] (.int .i64 0) [] := by
  have e : decide ((c ≤ a ∧ a ≤ d) ∧ (c ≤ b ∧ b ≤ d)) = true := decide_eq_true (by omega)
  have e2 : decide (b < a) = false := decide_eq_false (by omega)
  have k := bothWithin_run a b c d
  have k2 := isEmpty_run a b
  rw [e] at k
  rw [e2] at k2
  simp only [r2] at k k2
  refine spec_run e_gauge_checkRange fun G => ?_
  simp only [go_sem, r2]
  refine cP k ?_
  simp only [go_sem]
  refine cP k2 ?_
  simp only [go_sem]
theorem checkMaking_yes {m : Mt} (h : MtOK m) : Ans Tryd.prog n_gauge_checkMaking [Mv m] [] (.int .i64 0) [] := by
  have k1 := checkRange_yes (a := m.glo) (b := m.ghi) (c := 500000) (d := 2000000) (by have := h.g; omega)
  have k2 := checkRange_yes (a := m.olo) (b := m.ohi) (c := -1000000) (d := 1000000) (by have := h.o; omega)
  simp only [r2] at k1 k2
  refine spec_run e_gauge_checkMaking fun G => ?_
  simp only [go_sem, Mv, Mc]
  refine cP k1 ?_
  simp only [go_sem]
  refine cP k2 ?_
  simp only [go_sem]
theorem checkMeter_yes {m : Mt} (h : MtOK m) {n : Int} (hc : -1 ≤ m.cmp ∧ m.cmp < n) (hn : n ≤ 1000000) : Ans Tryd.prog n_gauge_checkMeter [Mv m, .int .i64 n] [] (.int .i64 0) [] := by
  have hs := h.s
  have hd := h.d
  have k := checkMaking_yes h
  simp only [Mv, Mc] at k
  have w1 : IntKind.i64.wrap (n - 1) = n - 1 := w64 (by omega)
  have c1 := within_run m.step 1 1000000
  rw [decide_eq_true (by omega)] at c1
  have c2 := within_run m.due 0 1000000000
  rw [decide_eq_true (by omega)] at c2
  have c3 := within_run m.cmp (-1) (n - 1)
  rw [decide_eq_true (by omega)] at c3
  refine spec_run e_gauge_checkMeter fun G => ?_
  simp only [go_sem, Mv, Mc]
  refine cP k ?_
  simp only [go_sem]
  refine cP c1 ?_
  simp only [go_sem]
  refine cP c2 ?_
  simp only [go_sem, w1]
  refine cP c3 ?_
  simp only [go_sem]

theorem chain_run (bs : List Mt) (m : Int) : Ans Tryd.prog n_gauge_chain [.view (bs.map Mv), .int .i64 m] [] (.fn (.func n_gauge_chain_1) [] [.ptr 1 0 0 1, .ptr 0 0 0 1])
    [some (.cells false 1 [.view (bs.map Mv)]), some (.cells false 1 [.int .i64 m])] := by
  refine spec_run e_gauge_chain fun G => ?_
  simp only [go_sem]
  exact ⟨_, rfl⟩
end Go.Proofs

namespace Go.Proofs
open Go Go.Sx Go.Gauge
attribute [local irreducible] Run

theorem cells_more {H : Heap} {j : Nat} {r : Bool × Nat × List AVal} (h : H.cellsAt j = some r) (Y : Heap) : (H ++ Y).cellsAt j = some r := by
  unfold Heap.cellsAt at *
  rcases hj : H[j]? with _ | _ | x
  · rw [hj] at h; simp at h
  · rw [hj] at h; simp at h
  · rw [List.getElem?_append_left (List.getElem?_eq_some_iff.1 hj).1, hj]
    rw [hj] at h
    exact h
theorem put_more {H : Heap} {j : Nat} (h : j < H.length) (Y : Heap) (x : Row) : Heap.put (H ++ Y) j x = H.set j (some x) ++ Y := by
  rw [put_lt (by simp; omega), List.set_append_left _ _ h]
def iR (m : Int) : Option Row := some (.cells false 1 [.int .i64 m])
def bR (bs : List Mt) : Option Row := some (.cells false 1 [.view (bs.map Mv)])

structure CBody (G : Ctx) (bs : List Mt) (r jm jb K : Nat) (Pre : Nat → Int → Heap → Prop) (Stop : Heap → Prop) : Prop where
  row : ∀ k m H, Pre k m H → k ≤ K ∧ -1 ≤ m ∧ m < bs.length ∧ H[jb]? = some (bR bs)
  setm : ∀ k m H v, Pre k m H → Pre k m (H.set jm (iR v))
  round : ∀ k m H, m ≠ -1 → Pre k m H → H[jm]? = some (iR m) → RoundW Tryd.prog G r [.int .i64 m, Mv (mt bs m)] H fun v H' =>
    (H.length ≤ H'.length ∧ H'[jm]? = H[jm]?) ∧ ((v = .bool true ∧ k < K ∧ Pre (k + 1) (mt bs m).cmp H') ∨ (v = .bool false ∧ Stop H'))

set_option maxHeartbeats 4000000 in
set_option maxRecDepth 10000 in
theorem chain_iter {G : Ctx} {bs : List Mt} {r jm jb K : Nat} {Pre : Nat → Int → Heap → Prop} {Stop : Heap → Prop} (hB : CBody G bs r jm jb K Pre Stop) {m0 : Int} {H0 : Heap} (h0 : Pre 0 m0 H0) (hm0 : H0[jm]? = some (iR m0)) :
    CallW Tryd.prog G n_gauge_chain_1 [.yfn r, .ptr jm 0 0 1, .ptr jb 0 0 1] H0 fun v H' => v = .tup [] ∧ ((∃ k, Pre k (-1) H') ∨ Stop H') := by
  refine callW_run 3000 e_gauge_chain_1 ?_
  simp only [go_sem]
  refine loop_ind k_gauge_chain_1_r3.eq_1 (fun a : Nat × Int × Heap => Pre a.1 a.2.1 a.2.2 ∧ H0.length ≤ a.2.2.length ∧ a.2.2[jm]? = some (iR a.2.1)) (fun a => K - a.1)
    (fun a => (tsets 19 [(0, .yfn r), (1, .ptr jm 0 0 1), (2, .ptr jb 0 0 1)], a.2.2)) (0, m0, H0) ⟨h0, Nat.le_refl _, hm0⟩ (by simp [go_sem]) rfl ?_
  rintro ⟨k, m, H⟩ ⟨hp, hl, hm⟩ ih
  dsimp only at hp hl hm ih ⊢
  obtain ⟨hk, hm1, hm2, hb⟩ := hB.row _ _ _ hp
  have cm := cells_at hm
  have cb := cells_at hb
  by_cases h1 : m = -1
  · have h2 : (m != -1) = false := by rw [h1]; rfl
    subst h1
    simp only [go_sem, cm]
    exact .inl ⟨k, hp⟩
  · have h2 : (m != -1) = true := by simp [h1]
    have hm0' : 0 ≤ m := by omega
    have n0 : ¬ m < 0 := by omega
    have hx := mt_get hm0' hm2
    have hrd := hB.round k m H h1 hp hm
    simp only [Mv, Mc] at hrd
    simp only [go_sem, cm, cb, h2, n0, hx, Mv, Mc]
    refine yieldR _ rfl rfl (by simp [go_sem]) (by simp [go_sem]) (by omega) ?_
    refine hrd.mono ?_
    rintro v J ⟨⟨q1, q2⟩, ⟨rfl, q4, q3⟩ | ⟨rfl, q3⟩⟩
    · refine ⟨fun q hq => by simp at hq, ?_⟩
      obtain ⟨_, _, _, jb1⟩ := hB.row _ _ _ q3
      have dm := cells_at (q2.trans hm)
      have db := cells_at jb1
      have hlt : jm < J.length := (List.getElem?_eq_some_iff.1 (q2.trans hm)).1
      have pu := fun x => put_lt (H := J) (x := x) hlt
      simp only [go_sem, dm, db, n0, hx, Mv, Mc, pu]
      exact ih (k + 1, (mt bs m).cmp, J.set jm (iR (mt bs m).cmp)) (by dsimp only; omega) ⟨hB.setm _ _ _ _ q3, by dsimp only; rw [List.length_set]; omega, by dsimp only; rw [List.getElem?_set_self hlt]⟩ _ (by simp [go_sem])
    · refine ⟨fun q hq => by simp at hq, ?_⟩
      simp only [go_sem]
      exact .inr q3
end Go.Proofs

namespace Go.Proofs
open Go Go.Sx Go.Gauge
attribute [local irreducible] Run

def loT : List (Nat × AVal) := [(2, .ptr 0 0 0 1), (4, .ptr 1 0 0 1), (5, .ptr 2 0 0 1), (8, .fn (.func n_gauge_chain_1) [] [.ptr 4 0 0 1, .ptr 3 0 0 1])]
def loL (st : LoopState) (pe : Option ACode) : Row := .loop (tsets 17 loT) [9, 10] k_gauge_isLoose_r6 k_gauge_isLoose_r7 5 st pe
def loH (bs : List Mt) (k v : Int) (x : Row) (X : Heap) : Heap := [some (.cells false 1 [.view (bs.map Mv)]), some (.cells false 1 [.bool false]), some (.cells false 1 [.int .i64 k]), some (.cells false 1 [.view (bs.map Mv)]), some (.cells false 1 [.int .i64 v]), some .dfr, some x] ++ X

set_option maxHeartbeats 4000000 in
set_option maxRecDepth 10000 in
theorem isLoose_no {bs : List Mt} (h : VB bs) {m0 : Int} (h0 : 0 ≤ m0) (h1 : m0 < bs.length) : Ans Tryd.prog n_gauge_isLoose [.view (bs.map Mv), .int .i64 m0] [] (.bool false) [] := by
  have hlen := h.len
  have hc0 := ch_len h (show -1 ≤ m0 by omega) h1
  refine spec_run e_gauge_isLoose fun G => ?_
  simp only [go_sem]
  refine cN2 (chain_run bs m0) ?_
  simp only [go_sem, ren, rens]
  have hit := fun G H0 => chain_iter (G := G) (H0 := H0) (r := 6) (jm := 4) (jb := 3) (K := bs.length) (bs := bs) (m0 := m0)
    (Pre := fun k m H => (∃ v X, H = loH bs k v (loL .ready none) X) ∧ k + (ch bs m).length = (ch bs m0).length ∧ -1 ≤ m ∧ m < bs.length) (Stop := fun _ => False)
  refine rangeF 2000 (ρ := tsets 17 loT) (by simp [go_sem, loT]) (by simp only [go_sem, loT]; rfl)
    (hit _ _ ⟨?_, ?_, ?_⟩ ⟨⟨m0, [], rfl⟩, by omega, by omega, h1⟩ rfl) (by simp) ?_
  · rintro k m H ⟨⟨v, X, rfl⟩, hk, q1, q2⟩
    exact ⟨by omega, q1, q2, rfl⟩
  · rintro k m H u ⟨⟨v, X, rfl⟩, hk, q1, q2⟩
    exact ⟨⟨u, X, rfl⟩, hk, q1, q2⟩
  · rintro k m H hm ⟨⟨v, X, rfl⟩, hk, q1, q2⟩ hv
    have hv' : v = m := by simpa [loH, iR] using hv
    subst hv'
    have hst := ch_step h (show 0 ≤ v by omega) q2
    have hcm := h.cmp _ (mt_mem (show 0 ≤ v by omega) q2)
    have hl2 : (ch bs v).length = (ch bs (mt bs v).cmp).length + 1 := by rw [hst]; rfl
    refine RoundW.mono (R := fun w H' => w = .bool true ∧ H' = loH bs ((k : Int) + 1) v (loL .ready none) X) ?_ ?_
    rotate_left
    · rintro w H' ⟨rfl, rfl⟩
      exact ⟨⟨by simp [loH], rfl⟩, .inl ⟨rfl, by omega, ⟨v, X, by push_cast; rfl⟩, by omega, hcm.1, hcm.2⟩⟩
    generalize hR : (fun (w : AVal) (H' : Heap) => w = .bool true ∧ H' = loH bs ((k : Int) + 1) v (loL .ready none) X) = R
    have hfin : R (.bool true) (loH bs ((k : Int) + 1) v (loL .ready none) X) := by rw [← hR]; exact ⟨rfl, rfl⟩
    clear hR
    have w1 : IntKind.i64.wrap ((k : Int) + 1) = (k : Int) + 1 := w64 (by omega)
    have c1 : ¬ (bs.length : Int) < (k : Int) + 1 := by omega
    refine roundW_run 500 k_gauge_isLoose_r6.eq_1 rfl rfl (ρ' := tsets 17 (loT ++ [(9, .int .i64 v), (10, Mv (mt bs v))])) rfl ?_
    simp only [go_sem, loT, loH]
    refine roundMid_run 500 k_gauge_isLoose_r7.eq_1 rfl rfl ?_
    simp only [go_sem, w1, c1, List.length_map]
    refine roundEnd_on rfl ?_
    simp only [go_sem]
    simp only [loH, loL, loT] at hfin
    exact hfin
  · rintro v H' ⟨rfl, ⟨k, ⟨u, X, rfl⟩, _⟩ | h⟩
    · refine ⟨fun q hq => by simp at hq; subst hq; rfl, _, _, _, _, _, _, _, rfl, by decide, ?_⟩
      simp only [go_sem, loH, loT]
      simp
    · exact h.elim

set_option maxHeartbeats 4000000 in
set_option maxRecDepth 10000 in
theorem Check_yes {bs : List Mt} (h : VB bs) : Ans Tryd.prog n_gauge_Check [.view (bs.map Mv)] [] (.int .i64 0) [] := by
  have hlen := h.len
  have c0 : ¬ (12 : Int) < bs.length := by omega
  refine spec_run e_gauge_Check fun G => ?_
  simp only [go_sem, c0]
  refine loop_ind k_gauge_Check_r10.eq_1 (fun a : Nat × Heap => a.1 ≤ bs.length) (fun a => bs.length - a.1)
    (fun a => (tsets 33 [(0, .view (bs.map Mv)), (10, .view (bs.map Mv)), (11, .int .i64 bs.length), (12, .int .i64 a.1)], a.2)) (0, []) (Nat.zero_le _) (by simp [go_sem]) rfl ?_
  rintro ⟨i, H⟩ hi ih
  dsimp only at hi ih ⊢
  by_cases c1 : i < bs.length
  · have c2 : (i : Int) < bs.length := by omega
    have n0 : ¬ (i : Int) < 0 := by omega
    have w1 : IntKind.i64.wrap ((i : Int) + 1) = ((i + 1 : Nat) : Int) := by rw [w64 (by omega)]; rfl
    obtain ⟨z, hz⟩ : ∃ z, bs[i]? = some z := ⟨_, List.getElem?_eq_getElem c1⟩
    have hm := List.mem_of_getElem? hz
    have k := checkMeter_yes (h.all z hm) (n := bs.length) (h.cmp z hm) (by omega)
    simp only [Mv, Mc] at k
    simp only [go_sem, c2, n0, hz, Mv, Mc, cells_end, get_end, put_at_end]
    refine cP k ?_
    simp only [go_sem, w1]
    exact ih (i + 1, _) (by dsimp only; omega) c1 _ (by simp [go_sem])
  · have c2 : ¬ (i : Int) < bs.length := by omega
    simp only [go_sem, c2]
    refine loop_ind k_gauge_Check_r17.eq_1 (fun a : Nat × Heap => a.1 ≤ bs.length) (fun a => bs.length - a.1)
      (fun a => (tsets 33 [(0, .view (bs.map Mv)), (25, .int .i64 bs.length), (26, .int .i64 a.1)], a.2)) (0, H) (Nat.zero_le _) (by simp [go_sem]) rfl ?_
    clear ih
    rintro ⟨i, H⟩ hi ih
    dsimp only at hi ih ⊢
    by_cases c1 : i < bs.length
    · have c2 : (i : Int) < bs.length := by omega
      have w1 : IntKind.i64.wrap ((i : Int) + 1) = ((i + 1 : Nat) : Int) := by rw [w64 (by omega)]; rfl
      have k := isLoose_no h (m0 := i) (by omega) c2
      simp only [go_sem, c2]
      refine cP k ?_
      simp only [go_sem, w1]
      exact ih (i + 1, _) (by dsimp only; omega) c1 _ (by simp [go_sem])
    · have c2 : ¬ (i : Int) < bs.length := by omega
      simp only [go_sem, c2]
theorem Check_full {es : List AVal} (h : 12 < es.length) (hb : Bels (fun _ => False) es) : Ans Tryd.prog n_gauge_Check [.view es] [] (.int .i64 8) [] := by
  have c0 : (12 : Int) < es.length := by omega
  refine spec_run e_gauge_Check fun G => ?_
  simp only [go_sem, c0]
theorem checkOne_yes {bs : List Mt} (h : VB bs) {m : Int} (h0 : 0 ≤ m) (h1 : m < bs.length) : Ans Tryd.prog n_gauge_checkOne [.view (bs.map Mv), .int .i64 m] [] (.int .i64 0) [] := by
  have k := isMeter_run bs m (by have := h.len; omega)
  rw [decide_eq_true ⟨h0, h1⟩] at k
  refine spec_run e_gauge_checkOne fun G => ?_
  simp only [go_sem]
  refine cP (Check_yes h) ?_
  simp only [go_sem]
  refine cP k ?_
  simp only [go_sem]
end Go.Proofs

namespace Go.Proofs
open Go Go.Sx Go.Gauge
attribute [local irreducible] Run

def rR (a b : Int) : Option Row := some (.cells false 2 [r2 a b])
structure TrH (bs : List Mt) (p q e a b v : Int) (lr : Row) (J : Heap) : Prop where
  len : 7 ≤ J.length
  r0 : J[0]? = some (rR p q)
  r1 : J[1]? = some (iR e)
  r2 : J[2]? = some (rR a b)
  rb : J[3]? = some (bR bs)
  rm : J[4]? = some (iR v)
  rd : J[5]? = some (some .dfr)
  rl : J[6]? = some (some lr)
section
variable {bs : List Mt} {p q e a b v : Int} {lr : Row} {J : Heap}
theorem TrH.app (h : TrH bs p q e a b v lr J) (Y : Heap) : TrH bs p q e a b v lr (J ++ Y) := by
  have hl := h.len
  refine ⟨by simp; omega, ?_, ?_, ?_, ?_, ?_, ?_, ?_⟩ <;> rw [List.getElem?_append_left (by omega)]
  · exact h.r0
  · exact h.r1
  · exact h.r2
  · exact h.rb
  · exact h.rm
  · exact h.rd
  · exact h.rl
theorem TrH.setL (h : TrH bs p q e a b v lr J) (x : Row) : TrH bs p q e a b v x (J.set 6 (some x)) := by
  have hl := h.len
  refine ⟨by rw [List.length_set]; exact h.len, ?_, ?_, ?_, ?_, ?_, ?_, List.getElem?_set_self (by omega)⟩ <;> rw [List.getElem?_set_ne (by omega)]
  · exact h.r0
  · exact h.r1
  · exact h.r2
  · exact h.rb
  · exact h.rm
  · exact h.rd
theorem TrH.setM (h : TrH bs p q e a b v lr J) (u : Int) : TrH bs p q e a b u lr (J.set 4 (iR u)) := by
  have hl := h.len
  refine ⟨by rw [List.length_set]; exact h.len, ?_, ?_, ?_, ?_, List.getElem?_set_self (by omega), ?_, ?_⟩ <;> rw [List.getElem?_set_ne (by omega)]
  · exact h.r0
  · exact h.r1
  · exact h.r2
  · exact h.rb
  · exact h.rd
  · exact h.rl
theorem TrH.setR (h : TrH bs p q e a b v lr J) (c d : Int) : TrH bs p q e c d v lr (J.set 2 (rR c d)) := by
  have hl := h.len
  refine ⟨by rw [List.length_set]; exact h.len, ?_, ?_, List.getElem?_set_self (by omega), ?_, ?_, ?_, ?_⟩ <;> rw [List.getElem?_set_ne (by omega)]
  · exact h.r0
  · exact h.r1
  · exact h.rb
  · exact h.rm
  · exact h.rd
  · exact h.rl
theorem TrH.set0 (h : TrH bs p q e a b v lr J) (c d : Int) : TrH bs c d e a b v lr (J.set 0 (rR c d)) := by
  have hl := h.len
  refine ⟨by rw [List.length_set]; exact h.len, List.getElem?_set_self (by omega), ?_, ?_, ?_, ?_, ?_, ?_⟩ <;> rw [List.getElem?_set_ne (by omega)]
  · exact h.r1
  · exact h.r2
  · exact h.rb
  · exact h.rm
  · exact h.rd
  · exact h.rl
theorem TrH.set1 (h : TrH bs p q e a b v lr J) (c : Int) : TrH bs p q c a b v lr (J.set 1 (iR c)) := by
  have hl := h.len
  refine ⟨by rw [List.length_set]; exact h.len, ?_, List.getElem?_set_self (by omega), ?_, ?_, ?_, ?_, ?_⟩ <;> rw [List.getElem?_set_ne (by omega)]
  · exact h.r0
  · exact h.r2
  · exact h.rb
  · exact h.rm
  · exact h.rd
  · exact h.rl
end

def trT : List (Nat × AVal) := [(6, .ptr 0 0 0 1), (7, .ptr 1 0 0 1), (8, .ptr 2 0 0 1), (28, .fn (.func n_gauge_chain_1) [] [.ptr 4 0 0 1, .ptr 3 0 0 1])]
def trL (st : LoopState) (pe : Option ACode) : Row := .loop (tsets 50 trT) [29, 30] k_gauge_trueFor_r7 k_gauge_trueFor_r8 5 st pe
def truV : Option (Int × Int) → AVal
  | some (a, b) => .tup [.agg [.int .i64 a, .int .i64 b], .int .i64 0]
  | none => .tup [.agg [.int .i64 0, .int .i64 0], .int .i64 12]

set_option maxHeartbeats 8000000 in
set_option maxRecDepth 10000 in
theorem trueFor_run {bs : List Mt} (h : VB bs) {m0 n : Int} (h0 : 0 ≤ m0) (h1 : m0 < bs.length) (hn : -1000000000 ≤ n ∧ n ≤ 1000000000) :
    Ans Tryd.prog n_gauge_trueFor [.view (bs.map Mv), .int .i64 m0, .int .i64 n] [] (truV (tru bs m0 n)) [] := by
  have hlen := h.len
  have hc0 := ch_len h (show -1 ≤ m0 by omega) h1
  have hx0 := mt_get h0 h1
  have hm0 := h.all _ (mt_mem h0 h1)
  have hs0 := hm0.s
  have n0 : ¬ m0 < 0 := by omega
  have w1 : IntKind.i64.wrap (n - (mt bs m0).step / 2) = n - (mt bs m0).step / 2 := w64 (by omega)
  have w2 : IntKind.i64.wrap (n + (mt bs m0).step / 2) = n + (mt bs m0).step / 2 := w64 (by omega)
  have kh := half_run (mt bs m0) hs0
  simp only [Mv, Mc] at kh
  have htru : tru bs m0 n = match tfr bs (ch bs m0) (n - (mt bs m0).step / 2) (n + (mt bs m0).step / 2) with
    | none => none
    | some (a, b) => if max a (-1000000000) > min b 1000000000 then none else some (max a (-1000000000), min b 1000000000) := rfl
  rw [htru]
  obtain ⟨a0, ha0⟩ : ∃ a0, n - (mt bs m0).step / 2 = a0 := ⟨_, rfl⟩
  obtain ⟨b0, hb0⟩ : ∃ b0, n + (mt bs m0).step / 2 = b0 := ⟨_, rfl⟩
  obtain ⟨T, hT⟩ : ∃ T, tfr bs (ch bs m0) a0 b0 = T := ⟨_, rfl⟩
  rw [ha0] at w1
  rw [hb0] at w2
  rw [ha0, hb0, hT]
  refine spec_run e_gauge_trueFor fun G => ?_
  simp only [go_sem, n0, hx0, Mv, Mc]
  refine dP kh ?_
  simp only [go_sem, ha0, w1, n0, hx0, Mv, Mc]
  refine dP kh ?_
  simp only [go_sem, hb0, w2]
  refine cN2 (chain_run bs m0) ?_
  simp only [go_sem, ren, rens]
  have hit := fun G H0 => chain_iter (G := G) (H0 := H0) (r := 6) (jm := 4) (jb := 3) (K := bs.length) (bs := bs) (m0 := m0)
    (Pre := fun k m H => (∃ a b v, TrH bs 0 0 0 a b v (trL .ready none) H ∧ tfr bs (ch bs m) a b = T) ∧ k + (ch bs m).length = (ch bs m0).length ∧ -1 ≤ m ∧ m < bs.length)
    (Stop := fun H => T = none ∧ ∃ a b v, TrH bs 0 0 12 a b v (trL .done (some .ret)) H)
  refine rangeF 2000 (ρ := tsets 50 trT) (by simp [go_sem, trT]) (by simp only [go_sem, trT]; rfl)
    (hit _ _ ⟨?_, ?_, ?_⟩ ?_ rfl) (by simp) ?_
  · rintro k m H ⟨⟨a, b, v, ht, _⟩, hk, q1, q2⟩
    exact ⟨by omega, q1, q2, ht.rb⟩
  · rintro k m H u ⟨⟨a, b, v, ht, hT'⟩, hk, q1, q2⟩
    exact ⟨⟨a, b, u, ht.setM u, hT'⟩, hk, q1, q2⟩
  · rintro k m H hm ⟨⟨a, b, v, ht, hT'⟩, hk, q1, q2⟩ hv
    have hv' : v = m := by
      have := ht.rm.symm.trans hv
      simpa [iR] using this
    subst hv'
    have hv0 : 0 ≤ v := by omega
    have hst := ch_step h hv0 q2
    have hcm := h.cmp _ (mt_mem hv0 q2)
    have hmk := h.all _ (mt_mem hv0 q2)
    have hl2 : (ch bs v).length = (ch bs (mt bs v).cmp).length + 1 := by rw [hst]; rfl
    rw [hst] at hT'
    unfold tfr at hT'
    have kl := leastFor_run hmk a
    have km := mostFor_run hmk b
    have ke := isEmpty_run (lf (mt bs v) a) (mf (mt bs v) b)
    simp only [Mv, Mc] at kl km
    simp only [r2] at ke
    obtain ⟨c, hc⟩ : ∃ c, lf (mt bs v) a = c := ⟨_, rfl⟩
    obtain ⟨d, hd⟩ : ∃ d, mf (mt bs v) b = d := ⟨_, rfl⟩
    rw [hc, hd] at hT' ke
    rw [hc] at kl
    rw [hd] at km
    refine RoundW.mono (R := fun w H' => ((d < c ∧ w = .bool false ∧ TrH bs 0 0 12 c d v (trL .done (some .ret)) H') ∨ (¬ d < c ∧ w = .bool true ∧ TrH bs 0 0 0 c d v (trL .ready none) H')) ∧ H.length ≤ H'.length) ?_ ?_
    rotate_left
    · rintro w H' ⟨⟨g1, rfl, g2⟩ | ⟨g1, rfl, g2⟩, g3⟩
      · rw [if_pos g1] at hT'
        exact ⟨⟨g3, g2.rm.trans ht.rm.symm⟩, .inr ⟨rfl, hT'.symm, c, d, v, g2⟩⟩
      · rw [if_neg g1] at hT'
        exact ⟨⟨g3, g2.rm.trans ht.rm.symm⟩, .inl ⟨rfl, by omega, ⟨c, d, v, g2, hT'⟩, by omega, hcm.1, hcm.2⟩⟩
    generalize hR : (fun (w : AVal) (H' : Heap) => ((d < c ∧ w = .bool false ∧ TrH bs 0 0 12 c d v (trL .done (some .ret)) H') ∨ (¬ d < c ∧ w = .bool true ∧ TrH bs 0 0 0 c d v (trL .ready none) H')) ∧ H.length ≤ H'.length) = R
    have hf1 : d < c → ∀ J, TrH bs 0 0 12 c d v (trL .done (some .ret)) J → H.length ≤ J.length → R (.bool false) J := fun g J g2 g3 => by rw [← hR]; exact ⟨.inl ⟨g, rfl, g2⟩, g3⟩
    have hf2 : ¬ d < c → ∀ J, TrH bs 0 0 0 c d v (trL .ready none) J → H.length ≤ J.length → R (.bool true) J := fun g J g2 g3 => by rw [← hR]; exact ⟨.inr ⟨g, rfl, g2⟩, g3⟩
    clear hR
    refine roundW_run 500 k_gauge_trueFor_r7.eq_1 ht.rl rfl (ρ' := tsets 50 (trT ++ [(29, .int .i64 v), (30, Mv (mt bs v))])) rfl ?_
    simp only [go_sem, trT, Mv, Mc, put_at_end]
    have hp1 := ht.app [some (Row.cells false 7 [AVal.agg [.int .i64 (mt bs v).glo, .int .i64 (mt bs v).ghi, .int .i64 (mt bs v).olo, .int .i64 (mt bs v).ohi, .int .i64 (mt bs v).step, .int .i64 (mt bs v).cmp, .int .i64 (mt bs v).due]])]
    have hb1 := get_end H (some (Row.cells false 7 [AVal.agg [.int .i64 (mt bs v).glo, .int .i64 (mt bs v).ghi, .int .i64 (mt bs v).olo, .int .i64 (mt bs v).ohi, .int .i64 (mt bs v).step, .int .i64 (mt bs v).cmp, .int .i64 (mt bs v).due]]))
    have hl1 : (H ++ [some (Row.cells false 7 [AVal.agg [.int .i64 (mt bs v).glo, .int .i64 (mt bs v).ghi, .int .i64 (mt bs v).olo, .int .i64 (mt bs v).ohi, .int .i64 (mt bs v).step, .int .i64 (mt bs v).cmp, .int .i64 (mt bs v).due]])]).length = H.length + 1 := by simp
    have h7 := ht.len
    generalize (H ++ [some (Row.cells false 7 [AVal.agg [.int .i64 (mt bs v).glo, .int .i64 (mt bs v).ghi, .int .i64 (mt bs v).olo, .int .i64 (mt bs v).ohi, .int .i64 (mt bs v).step, .int .i64 (mt bs v).cmp, .int .i64 (mt bs v).due]])] : Heap) = L at *
    generalize hjl : H.length = q at *
    refine roundMid_run 500 k_gauge_trueFor_r8.eq_1 hp1.rl (put_lt (show 6 < L.length by omega)) ?_
    have hp2 := hp1.setL (trL .busy none)
    have hb2 : (L.set 6 (some (trL .busy none)))[q]? = some (some (Row.cells false 7 [AVal.agg [.int .i64 (mt bs v).glo, .int .i64 (mt bs v).ghi, .int .i64 (mt bs v).olo, .int .i64 (mt bs v).ohi, .int .i64 (mt bs v).step, .int .i64 (mt bs v).cmp, .int .i64 (mt bs v).due]])) := by
      rw [List.getElem?_set_ne (by omega)]; exact hb1
    have hl2' : (L.set 6 (some (trL .busy none))).length = q + 1 := by rw [List.length_set]; exact hl1
    simp only [trL, trT] at hp2 hb2 hl2' ⊢
    generalize hM : (L.set 6 _ : Heap) = M at hp2 hb2 hl2' ⊢
    clear hM hp1 hb1 hl1
    have cr := cells_at hp2.r2
    have cq := cells_at hb2
    simp only [r2] at cr
    have l2 : 2 < M.length := by omega
    have pu := fun x => put_lt (H := M) (x := x) l2
    simp only [go_sem, cr, cq]
    refine dP kl ?_
    simp only [go_sem, cr, cq]
    refine cP km ?_ (hk := by omega)
    have hp3 := hp2.setR c d
    have cg := cells_at hp3.r2
    simp only [rR, r2] at hp3 cg
    have hl3 : (M.set 2 (some (Row.cells false 2 [AVal.agg [.int .i64 c, .int .i64 d]]))).length = q + 1 := by rw [List.length_set]; exact hl2'
    simp only [go_sem, cr, pu]
    generalize hN : (M.set 2 _ : Heap) = N at hp3 cg hl3 ⊢
    clear pu hN
    simp only [go_sem, cg]
    refine cP ke ?_ (hk := by omega)
    by_cases c1 : d < c
    · have c0 := cells_at hp3.r0
      have hp4 := hp3.set0 0 0
      simp only [rR, r2] at c0 hp4
      have pu0 := fun x => put_lt (H := N) (x := x) (j := 0) (by omega)
      have hl4 : (N.set 0 (some (Row.cells false 2 [AVal.agg [.int .i64 0, .int .i64 0]]))).length = q + 1 := by rw [List.length_set]; exact hl3
      simp only [go_sem, c1, c0, pu0]
      generalize hN2 : (N.set 0 _ : Heap) = N2 at hp4 hl4 ⊢
      have ce := cells_at hp4.r1
      have pu1 := fun x => put_lt (H := N2) (x := x) (j := 1) (by omega)
      have hp5 := hp4.set1 12
      simp only [go_sem, ce, pu1]
      refine roundEnd_ret hp5.rl ?_
      rw [put_lt (show 6 < (N2.set 1 _).length by rw [List.length_set]; omega)]
      exact hf1 c1 _ (hp5.setL _) (by simp only [List.length_set]; omega)
    · simp only [go_sem, c1]
      refine roundEnd_on hp3.rl ?_
      rw [put_lt (show 6 < N.length by omega)]
      exact hf2 c1 _ (hp3.setL _) (by simp only [List.length_set]; omega)
  · exact ⟨⟨a0, b0, m0, ⟨by simp, rfl, rfl, rfl, rfl, rfl, rfl, rfl⟩, hT⟩, by omega, by omega, h1⟩
  · rintro v H' ⟨rfl, ⟨k, ⟨a, b, u, ht, hT'⟩, _⟩ | ⟨hn', a, b, u, ht⟩⟩
    · refine ⟨fun q hq => by simp at hq; subst hq; exact ht.rd, _, _, _, _, _, _, _, ht.rl, by decide, ?_⟩
      rw [ch_end] at hT'
      have hT2 : T = some (a, b) := hT'.symm
      subst hT2
      have hl := ht.len
      have kc := common_run a b (-1000000000) 1000000000
      have ke := isEmpty_run (max a (-1000000000)) (min b 1000000000)
      simp only [r2] at kc ke
      obtain ⟨c, hc⟩ : ∃ c, max a (-1000000000) = c := ⟨_, rfl⟩
      obtain ⟨d, hd⟩ : ∃ d, min b 1000000000 = d := ⟨_, rfl⟩
      rw [hc, hd] at kc ke
      have x0 : (H'.set 6 none)[0]? = some (some (.cells false 2 [.agg [.int .i64 0, .int .i64 0]])) := by rw [List.getElem?_set_ne (by omega)]; exact ht.r0
      have x1 : (H'.set 6 none)[1]? = some (some (.cells false 1 [.int .i64 0])) := by rw [List.getElem?_set_ne (by omega)]; exact ht.r1
      have x2 : (H'.set 6 none)[2]? = some (some (.cells false 2 [.agg [.int .i64 a, .int .i64 b]])) := by rw [List.getElem?_set_ne (by omega)]; exact ht.r2
      have x5 : (H'.set 6 none)[5]? = some (some .dfr) := by rw [List.getElem?_set_ne (by omega)]; exact ht.rd
      have xl : (H'.set 6 none).length = H'.length := List.length_set
      show Run Tryd.prog G 0 none 2000 (.out .normal) _ ⟨tsets 50 trT, H'.set 6 none, [5]⟩ _
      dsimp only
      rw [hc, hd]
      generalize (H'.set 6 none : Heap) = K at *
      have e2 := cells_at x2
      have p2 := fun x => put_lt (H := K) (x := x) (show 2 < K.length by omega)
      simp only [go_sem, e2, p2, trT]
      refine cP kc ?_ (hms := by simp [x5])
      simp only [go_sem, e2, p2]
      have y0 : (K.set 2 (some (.cells false 2 [.agg [.int .i64 c, .int .i64 d]])))[0]? = some (some (.cells false 2 [.agg [.int .i64 0, .int .i64 0]])) := by rw [List.getElem?_set_ne (by omega)]; exact x0
      have y1 : (K.set 2 (some (.cells false 2 [.agg [.int .i64 c, .int .i64 d]])))[1]? = some (some (.cells false 1 [.int .i64 0])) := by rw [List.getElem?_set_ne (by omega)]; exact x1
      have y2 : (K.set 2 (some (.cells false 2 [.agg [.int .i64 c, .int .i64 d]])))[2]? = some (some (.cells false 2 [.agg [.int .i64 c, .int .i64 d]])) := List.getElem?_set_self (by omega)
      have y5 : (K.set 2 (some (.cells false 2 [.agg [.int .i64 c, .int .i64 d]])))[5]? = some (some .dfr) := by rw [List.getElem?_set_ne (by omega)]; exact x5
      have yl : (K.set 2 (some (.cells false 2 [.agg [.int .i64 c, .int .i64 d]]))).length = K.length := List.length_set
      generalize (K.set 2 _ : Heap) = L at *
      have f2 := cells_at y2
      have f0 := cells_at y0
      have p0 := fun x => put_lt (H := L) (x := x) (show 0 < L.length by omega)
      simp only [go_sem, f2]
      refine cP ke ?_ (hms := by simp [y5])
      -- the end: the result's two rows
      have fin : ∀ (u w t : Int), Heap.cellsAt (((L.set 0 (some (.cells false 2 [.agg [.int .i64 u, .int .i64 w]]))).set 1 (some (.cells false 1 [.int .i64 t]))).set 5 none) 0 = some (false, 2, [.agg [.int .i64 u, .int .i64 w]]) ∧
          Heap.cellsAt (((L.set 0 (some (.cells false 2 [.agg [.int .i64 u, .int .i64 w]]))).set 1 (some (.cells false 1 [.int .i64 t]))).set 5 none) 1 = some (false, 1, [.int .i64 t]) := fun u w t => by
        refine ⟨cells_at ?_, cells_at ?_⟩
        · rw [List.getElem?_set_ne (by omega), List.getElem?_set_ne (by omega), List.getElem?_set_self (by omega)]
        · rw [List.getElem?_set_ne (by omega), List.getElem?_set_self (by rw [List.length_set]; omega)]
      have g1 : ∀ u w : Int, Heap.cellsAt (L.set 0 (some (.cells false 2 [.agg [.int .i64 u, .int .i64 w]]))) 1 = some (false, 1, [.int .i64 0]) := fun u w => by
        refine cells_at ?_
        rw [List.getElem?_set_ne (by omega)]; exact y1
      have p1 := fun (u w : Int) x => put_lt (H := L.set 0 (some (.cells false 2 [.agg [.int .i64 u, .int .i64 w]]))) (x := x) (show 1 < (L.set 0 _).length by rw [List.length_set]; omega)
      by_cases c1 : d < c
      · simp only [go_sem, c1, f0, p0, g1, p1, (fin 0 0 12).1, (fin 0 0 12).2, truV, gt_iff_lt]
        simp
      · simp only [go_sem, c1, f2, f0, p0, g1, p1, (fin c d 0).1, (fin c d 0).2, truV, gt_iff_lt]
        simp
    · refine ⟨fun q hq => by simp at hq; subst hq; exact ht.rd, _, _, _, _, _, _, _, ht.rl, by decide, ?_⟩
      subst hn'
      have hl := ht.len
      have x0 : ((H'.set 6 none).set 5 none)[0]? = some (some (.cells false 2 [.agg [.int .i64 0, .int .i64 0]])) := by rw [List.getElem?_set_ne (by omega), List.getElem?_set_ne (by omega)]; exact ht.r0
      have x1 : ((H'.set 6 none).set 5 none)[1]? = some (some (.cells false 1 [.int .i64 12])) := by rw [List.getElem?_set_ne (by omega), List.getElem?_set_ne (by omega)]; exact ht.r1
      have e0 := cells_at x0
      have e1 := cells_at x1
      show Run Tryd.prog G 0 none 2000 (.code .ret) _ ⟨tsets 50 trT, H'.set 6 none, [5]⟩ _
      simp only [go_sem, trT, e0, e1, truV]
      simp

theorem True_run {bs : List Mt} (h : VB bs) {m0 n : Int} (h0 : 0 ≤ m0) (h1 : m0 < bs.length) (hn : -1000000000 ≤ n ∧ n ≤ 1000000000) (hs : n % (mt bs m0).step = 0) :
    Ans Tryd.prog n_gauge_True [.view (bs.map Mv), .int .i64 m0, .int .i64 n] [] (truV (tru bs m0 n)) [] := by
  have hm0 := (h.all _ (mt_mem h0 h1)).s
  have hx0 := mt_get h0 h1
  have n0 : ¬ m0 < 0 := by omega
  have s0 : (mt bs m0).step ≠ 0 := by omega
  have e : n.tmod (mt bs m0).step = 0 := by
    have := Int.dvd_of_emod_eq_zero hs
    exact Int.tmod_eq_zero_of_dvd this
  have k1 := isIn_run n (-1000000000) 1000000000
  rw [decide_eq_true hn] at k1
  simp only [r2] at k1
  have k2 := trueFor_run h h0 h1 hn
  have k3 := checkOne_yes h h0 h1
  have kv : ∃ a b c, truV (tru bs m0 n) = .tup [.agg [.int .i64 a, .int .i64 b], .int .i64 c] := by
    rcases tru bs m0 n with _ | ⟨a, b⟩
    · exact ⟨0, 0, 12, rfl⟩
    · exact ⟨a, b, 0, rfl⟩
  obtain ⟨a, b, c, hv⟩ := kv
  rw [hv] at k2 ⊢
  refine spec_run e_gauge_True fun G => ?_
  simp only [go_sem]
  refine cP k3 ?_
  simp only [go_sem]
  refine cP k1 ?_
  simp only [go_sem, n0, hx0, Mv, Mc, s0, e]
  refine cP k2 ?_
  simp only [go_sem]
end Go.Proofs

namespace Go.Proofs
open Go Go.Sx Go.Gauge
attribute [local irreducible] Run

theorem sel3i (i a b c : Int) (hi : 0 ≤ i ∧ i < 3) : ∃ v, (v = a ∨ v = b ∨ v = c) ∧ [AVal.int .i64 a, .int .i64 b, .int .i64 c][i.toNat]? = some (.int .i64 v) := by
  obtain rfl | rfl | rfl : i = 0 ∨ i = 1 ∨ i = 2 := by omega
  · exact ⟨a, .inl rfl, rfl⟩
  · exact ⟨b, .inr (.inl rfl), rfl⟩
  · exact ⟨c, .inr (.inr rfl), rfl⟩
structure BkOK (bs : List Mt) : Prop where
  all : ∀ x ∈ bs, MtOK x ∧ x.step ≤ 1000
  cmp : ∀ (i : Nat) (x : Mt), bs[i]? = some x → -1 ≤ x.cmp ∧ x.cmp < i
theorem BkOK.vb {bs : List Mt} (h : BkOK bs) (hl : bs.length ≤ 12) : VB bs := VB.made hl (fun x hx => (h.all x hx).1) h.cmp
theorem BkOK.snoc {bs : List Mt} (h : BkOK bs) {y : Mt} (hy : MtOK y ∧ y.step ≤ 1000) (hc : -1 ≤ y.cmp ∧ y.cmp < bs.length) : BkOK (bs ++ [y]) := by
  refine ⟨fun x hx => ?_, fun i x hx => ?_⟩
  · rcases List.mem_append.1 hx with h1 | h1
    · exact h.all x h1
    · simp at h1; subst h1; exact hy
  · by_cases hi : i < bs.length
    · rw [List.getElem?_append_left hi] at hx; exact h.cmp i x hx
    · rw [List.getElem?_append_right (by omega)] at hx
      have : i - bs.length = 0 := by have := (List.getElem?_eq_some_iff.1 hx).1; simp at this; omega
      rw [this] at hx
      simp at hx; subst hx
      exact ⟨hc.1, by omega⟩

set_option maxHeartbeats 8000000 in
set_option maxRecDepth 10000 in
theorem bench_loop {G : Ctx} {N : Nat} (hN : N ≤ 12) {R : AVal → Heap → Prop}
    (hR : ∀ (bs : List Mt) (w' : Int) (q : Nat) (X : Heap), BkOK bs → 1 ≤ bs.length → bs.length ≤ N → X[q]? = some (some (.cells true 7 (bs.map Mv))) → R (.sl (q + 1) 0 bs.length) (some (Dr w') :: X))
    {bs : List Mt} {w i : Int} {q : Nat} {X : Heap} (hz : BkOK bs) (hl : 1 ≤ bs.length ∧ (bs.length : Int) + i ≤ N) (hi : 0 ≤ i) (hX : X[q]? = some (some (.cells true 7 (bs.map Mv)))) :
    Sx.Loop Tryd.prog G 1 none k_kit_BenchOf_r8 [.blk 0, .seq (.seq (.reg k_kit_BenchOf_r9 false) .ret)]
      ⟨tsets 70 [(0, .ptr 0 0 0 1), (5, .sl (q + 1) 0 bs.length), (6, .int .i64 i)], some (Dr w) :: X, []⟩ (RetPost [.tmp 4] R) := by
  refine loop_ind k_kit_BenchOf_r8.eq_1 (fun a : List Mt × Int × Int × Heap => BkOK a.1 ∧ (1 ≤ a.1.length ∧ (a.1.length : Int) + a.2.2.1 ≤ N) ∧ 0 ≤ a.2.2.1 ∧ a.2.2.2[q]? = some (some (.cells true 7 (a.1.map Mv)))) (fun a => a.2.2.1.toNat)
    (fun a => (tsets 70 [(0, .ptr 0 0 0 1), (5, .sl (q + 1) 0 a.1.length), (6, .int .i64 a.2.2.1)], some (Dr a.2.1) :: a.2.2.2))
    (bs, w, i, X) ⟨hz, hl, hi, hX⟩ (by simp [go_sem]) rfl ?_
  clear hz hl hi hX
  clear bs w i X
  rintro ⟨bs, w, i, X⟩ ⟨hz, hl, hi, hX⟩ ih
  dsimp only at hz hl hi hX ih ⊢
  by_cases c1 : 0 < i
  · have hlt : q < X.length := (List.getElem?_eq_some_iff.1 hX).1
    have cX := fun Y => cells_more (cells_at hX) Y
    have pX := fun Y x => put_more (H := X) hlt Y x
    have hq : (bs.length + 1) * 56 ≤ 2 ^ 44 := by omega
    obtain ⟨g, hg, sg⟩ := sel3i (upto (dstep (dstep w)) 3) 1000000 (btw w 900000 1100000) (btw (dstep w) 500000 2000000) (upto_in (by decide))
    have b0 := btw_in (w := w) (lo := 900000) (hi := 1100000) (by decide)
    have b1 := btw_in (w := (dstep w)) (lo := 500000) (hi := 2000000) (by decide)
    have hg' : 500000 ≤ g ∧ g ≤ 2000000 := by omega
    obtain ⟨x, hx, sx⟩ := sel3i (upto (dstep (dstep (dstep (dstep (dstep w))))) 3) 0 (upto (dstep (dstep (dstep w))) 20000) (upto (dstep (dstep (dstep (dstep w)))) 300000) (upto_in (by decide))
    have b3 := upto_in (w := (dstep (dstep (dstep w)))) (n := 20000) (by decide)
    have b4 := upto_in (w := (dstep (dstep (dstep (dstep w))))) (n := 300000) (by decide)
    have hx' : 0 ≤ x ∧ x ≤ 300000 := by omega
    obtain ⟨f, hf, sf⟩ := sel3i (upto (dstep (dstep (dstep (dstep (dstep (dstep w)))))) 3) 0 9 1000 (upto_in (by decide))
    have hf' : 0 ≤ f ∧ f ≤ 1000 := by omega
    have b7 := rngR_in (w := (dstep (dstep (dstep (dstep (dstep (dstep (dstep w)))))))) (lo := -f) (hi := 9) (by omega)
    have b9 := btw_in (w := (dstep (dstep (dstep (dstep (dstep (dstep (dstep (dstep (dstep w)))))))))) (lo := 1) (hi := 12) (by decide)
    have b10 := btw_in (w := (dstep (dstep (dstep (dstep (dstep (dstep (dstep (dstep (dstep (dstep w))))))))))) (lo := 1) (hi := 1000) (by decide)
    obtain ⟨s, hs, ss⟩ := sel3i (upto (dstep (dstep (dstep (dstep (dstep (dstep (dstep (dstep (dstep (dstep (dstep w))))))))))) 3) 1 (btw (dstep (dstep (dstep (dstep (dstep (dstep (dstep (dstep (dstep w))))))))) 1 12) (btw (dstep (dstep (dstep (dstep (dstep (dstep (dstep (dstep (dstep (dstep w)))))))))) 1 1000) (upto_in (by decide))
    have hs' : 1 ≤ s ∧ s ≤ 1000 := by omega
    have b13 := upto_in (w := (dstep (dstep (dstep (dstep (dstep (dstep (dstep (dstep (dstep (dstep (dstep (dstep (dstep w)))))))))))))) (n := 1000) (by decide)
    have b12 := btw_in (w := (dstep (dstep (dstep (dstep (dstep (dstep (dstep (dstep (dstep (dstep (dstep (dstep w))))))))))))) (lo := -1) (hi := (bs.length : Int) - 1) (by omega)
    have z2 := (upto_in (w := (dstep (dstep w))) (n := 3) (by decide))
    have z5 := (upto_in (w := (dstep (dstep (dstep (dstep (dstep w)))))) (n := 3) (by decide))
    have z6 := (upto_in (w := (dstep (dstep (dstep (dstep (dstep (dstep w))))))) (n := 3) (by decide))
    have z11 := (upto_in (w := (dstep (dstep (dstep (dstep (dstep (dstep (dstep (dstep (dstep (dstep (dstep w)))))))))))) (n := 3) (by decide))
    have n2 : ¬ upto (dstep (dstep w)) 3 < 0 := by omega
    have n5 : ¬ upto (dstep (dstep (dstep (dstep (dstep w))))) 3 < 0 := by omega
    have n6 : ¬ upto (dstep (dstep (dstep (dstep (dstep (dstep w)))))) 3 < 0 := by omega
    have n11 : ¬ upto (dstep (dstep (dstep (dstep (dstep (dstep (dstep (dstep (dstep (dstep (dstep w))))))))))) 3 < 0 := by omega
    have w1 : IntKind.i64.wrap (g + x) = g + x := w64 (by omega)
    have w2 : IntKind.i64.wrap (0 - f) = -f := by rw [w64 (by omega)]; omega
    have w3 : IntKind.i64.wrap ((bs.length : Int) - 1) = (bs.length : Int) - 1 := w64 (by omega)
    have w4 : IntKind.i64.wrap (1000 + upto (dstep (dstep (dstep (dstep (dstep (dstep (dstep (dstep (dstep (dstep (dstep (dstep (dstep w))))))))))))) 1000) = 1000 + upto (dstep (dstep (dstep (dstep (dstep (dstep (dstep (dstep (dstep (dstep (dstep (dstep (dstep w))))))))))))) 1000 := w64 (by omega)
    have w5 : IntKind.i64.wrap (i - 1) = i - 1 := w64 (by omega)
    obtain ⟨gh, hgh⟩ : ∃ gh, (if g + x < 2000000 then g + x else 2000000) = gh := ⟨_, rfl⟩
    have hgh' : g ≤ gh ∧ gh ≤ 2000000 := by rw [← hgh]; split <;> omega
    have rr := range_run (dstep (dstep (dstep (dstep (dstep (dstep (dstep w))))))) (-f) 9 (by omega) (by omega) (by omega)
    obtain ⟨rg, hrg⟩ : ∃ rg, rngR (dstep (dstep (dstep (dstep (dstep (dstep (dstep w))))))) (-f) 9 = rg := ⟨_, rfl⟩
    rw [hrg] at b7 rr
    simp only [Rg.v] at rr
    obtain ⟨c, hc⟩ : ∃ c, btw (dstep (dstep (dstep (dstep (dstep (dstep (dstep (dstep (dstep (dstep (dstep (dstep w)))))))))))) (-1) ((bs.length : Int) - 1) = c := ⟨_, rfl⟩
    obtain ⟨d, hd⟩ : ∃ d, upto (dstep (dstep (dstep (dstep (dstep (dstep (dstep (dstep (dstep (dstep (dstep (dstep (dstep w))))))))))))) 1000 = d := ⟨_, rfl⟩
    rw [hc] at b12
    rw [hd] at b13 w4
    have hy : MtOK ⟨g, gh, rg.lo, rg.hi, s, c, 1000 + d⟩ ∧ (⟨g, gh, rg.lo, rg.hi, s, c, 1000 + d⟩ : Mt).step ≤ 1000 := ⟨⟨by dsimp only; omega, by dsimp only; omega, by dsimp only; omega, by dsimp only; omega⟩, by dsimp only; omega⟩
    simp only [go_sem, c1]
    refine cD (between_ok _ 900000 1100000 (by decide) (by decide) (by decide)) ?_
    simp only [go_sem]
    refine cD (between_ok _ 500000 2000000 (by decide) (by decide) (by decide)) ?_
    simp only [go_sem]
    refine cD (upto_ok _ 3 (by decide)) ?_
    simp only [go_sem, n2, sg]
    refine ⟨z2.2, ?_⟩
    refine dD (upto_ok _ 20000 (by decide)) ?_
    simp only [go_sem]
    refine dD (upto_ok _ 300000 (by decide)) ?_
    simp only [go_sem]
    refine dD (upto_ok _ 3 (by decide)) ?_
    simp only [go_sem, n5, sx, w1, hgh]
    refine ⟨z5.2, by simp <;> omega, ?_⟩
    refine dD (upto_ok _ 3 (by decide)) ?_
    simp only [go_sem, n6, sf, w2]
    refine ⟨z6.2, ?_⟩
    refine ⟨by omega, by omega, ?_⟩
    refine dD rr ?_
    simp only [go_sem]
    refine dD (between_ok _ 1 12 (by decide) (by decide) (by decide)) ?_
    simp only [go_sem]
    refine dD (between_ok _ 1 1000 (by decide) (by decide) (by decide)) ?_
    simp only [go_sem]
    refine ⟨by simp <;> omega, ?_⟩
    refine dD (upto_ok _ 3 (by decide)) ?_
    simp only [go_sem, n11, ss, w3, cX, List.length_map]
    refine ⟨z11.2, by omega, by omega, by simp <;> omega, ?_⟩
    refine dD (between_ok _ (-1) ((bs.length : Int) - 1) (by omega) (by omega) (by omega)) ?_
    simp only [go_sem]
    refine dD (upto_ok _ 1000 (by decide)) ?_
    simp only [go_sem, hc, hd, w4, w5, cX, pX, hq, List.length_map]
    refine ⟨by simp <;> omega, ?_⟩
    have ez : bs.map Mv ++ [AVal.agg [.int .i64 g, .int .i64 gh, .int .i64 rg.lo, .int .i64 rg.hi, .int .i64 s, .int .i64 c, .int .i64 (1000 + d)]] = (bs ++ [Mt.mk g gh rg.lo rg.hi s c (1000 + d)]).map Mv := by rw [List.map_append]; rfl
    have el : bs.length + 1 = (bs ++ [Mt.mk g gh rg.lo rg.hi s c (1000 + d)]).length := by simp
    rw [ez, el]
    refine ih (bs ++ [Mt.mk g gh rg.lo rg.hi s c (1000 + d)], _, i - 1, _) (by dsimp only; omega) ⟨hz.snoc hy ⟨b12.1, by dsimp only; omega⟩, by dsimp only; rw [← el]; omega, by dsimp only; omega, ?_⟩ _ (by simp [go_sem])
    dsimp only
    rw [List.getElem?_append_left (by rw [List.length_set]; exact hlt)]
    exact List.getElem?_set_self hlt
  · simp only [go_sem, c1]
    exact hR bs w q X hz hl.1 (by omega) hX

set_option maxHeartbeats 8000000 in
set_option maxRecDepth 10000 in
theorem benchOf_run (w0 : Int) {N : Nat} (hN : 1 ≤ N ∧ N ≤ 12) : AnsE Tryd.prog n_kit_BenchOf [.ptr 0 0 0 1, .int .i64 N] [some (Dr w0)] (fun a : List Mt × Int => BkOK a.1 ∧ 1 ≤ a.1.length ∧ a.1.length ≤ N) (fun a => .sl 1 0 a.1.length) (fun a => [some (Dr a.2), some (.cells true 7 (a.1.map Mv))]) := by
  refine AnsE.keep (run_fn e_kit_BenchOf fun G => ?_) (fun a ha => ⟨by simp, by simp [go_sem], by simp only [go_sem], by rw [row_bel_cells]; simp only [go_sem], trivial⟩)
  have hR : ∀ (bs : List Mt) (w' : Int) (q : Nat) (X : Heap), BkOK bs → 1 ≤ bs.length → bs.length ≤ N → X[q]? = some (some (.cells true 7 (bs.map Mv))) →
      ∃ a : List Mt × Int, (BkOK a.1 ∧ 1 ≤ a.1.length ∧ a.1.length ≤ N) ∧ ∃ σ, Kept [some (Dr w0)] [some (Dr a.2), some (Row.cells true 7 (List.map Mv a.1))] (AVal.sl 1 0 a.1.length) (.sl (q + 1) 0 bs.length) (some (Dr w') :: X) σ := by
    intro bs w' q X hz h1 h2 hX
    refine ⟨(bs, w'), ⟨hz, h1, h2⟩, kept_two (q + 1) (by omega) (by simp [ren]) (by simp only [go_sem]) (by rw [row_bel_cells]; simp only [go_sem]) rfl ?_⟩
    simpa using hX
  have h56 : 56 ≤ 2 ^ 44 := by decide
  have bi := btw_in (w := w0) (lo := 1) (hi := N) (by omega)
  simp only [go_sem]
  refine cD (between_ok _ 1 N (by decide) (by omega) (by omega)) ?_
  simp only [go_sem]
  obtain ⟨i, hi⟩ : ∃ i, btw w0 1 N = i := ⟨_, rfl⟩
  obtain ⟨w, hw⟩ : ∃ w, dstep w0 = w := ⟨_, rfl⟩
  rw [hi] at bi ⊢
  rw [hw]
  have c1 : 0 < i := by omega
  have hz : BkOK [] := ⟨fun x hx => by simp at hx, fun i x hx => by simp at hx⟩
  refine loop_body 400 k_kit_BenchOf_r8.eq_1 ?_
  obtain ⟨g, hg, sg⟩ := sel3i (upto (dstep (dstep w)) 3) 1000000 (btw w 900000 1100000) (btw (dstep w) 500000 2000000) (upto_in (by decide))
  have b0 := btw_in (w := w) (lo := 900000) (hi := 1100000) (by decide)
  have b1 := btw_in (w := (dstep w)) (lo := 500000) (hi := 2000000) (by decide)
  have hg' : 500000 ≤ g ∧ g ≤ 2000000 := by omega
  obtain ⟨x, hx, sx⟩ := sel3i (upto (dstep (dstep (dstep (dstep (dstep w))))) 3) 0 (upto (dstep (dstep (dstep w))) 20000) (upto (dstep (dstep (dstep (dstep w)))) 300000) (upto_in (by decide))
  have b3 := upto_in (w := (dstep (dstep (dstep w)))) (n := 20000) (by decide)
  have b4 := upto_in (w := (dstep (dstep (dstep (dstep w))))) (n := 300000) (by decide)
  have hx' : 0 ≤ x ∧ x ≤ 300000 := by omega
  obtain ⟨f, hf, sf⟩ := sel3i (upto (dstep (dstep (dstep (dstep (dstep (dstep w)))))) 3) 0 9 1000 (upto_in (by decide))
  have hf' : 0 ≤ f ∧ f ≤ 1000 := by omega
  have b7 := rngR_in (w := (dstep (dstep (dstep (dstep (dstep (dstep (dstep w)))))))) (lo := -f) (hi := 9) (by omega)
  have b9 := btw_in (w := (dstep (dstep (dstep (dstep (dstep (dstep (dstep (dstep (dstep w)))))))))) (lo := 1) (hi := 12) (by decide)
  have b10 := btw_in (w := (dstep (dstep (dstep (dstep (dstep (dstep (dstep (dstep (dstep (dstep w))))))))))) (lo := 1) (hi := 1000) (by decide)
  obtain ⟨s, hs, ss⟩ := sel3i (upto (dstep (dstep (dstep (dstep (dstep (dstep (dstep (dstep (dstep (dstep (dstep w))))))))))) 3) 1 (btw (dstep (dstep (dstep (dstep (dstep (dstep (dstep (dstep (dstep w))))))))) 1 12) (btw (dstep (dstep (dstep (dstep (dstep (dstep (dstep (dstep (dstep (dstep w)))))))))) 1 1000) (upto_in (by decide))
  have hs' : 1 ≤ s ∧ s ≤ 1000 := by omega
  have b13 := upto_in (w := (dstep (dstep (dstep (dstep (dstep (dstep (dstep (dstep (dstep (dstep (dstep (dstep (dstep w)))))))))))))) (n := 1000) (by decide)
  have b12 := btw_in (w := (dstep (dstep (dstep (dstep (dstep (dstep (dstep (dstep (dstep (dstep (dstep (dstep w))))))))))))) (lo := -1) (hi := -1) (by omega)
  have z2 := (upto_in (w := (dstep (dstep w))) (n := 3) (by decide))
  have z5 := (upto_in (w := (dstep (dstep (dstep (dstep (dstep w)))))) (n := 3) (by decide))
  have z6 := (upto_in (w := (dstep (dstep (dstep (dstep (dstep (dstep w))))))) (n := 3) (by decide))
  have z11 := (upto_in (w := (dstep (dstep (dstep (dstep (dstep (dstep (dstep (dstep (dstep (dstep (dstep w)))))))))))) (n := 3) (by decide))
  have n2 : ¬ upto (dstep (dstep w)) 3 < 0 := by omega
  have n5 : ¬ upto (dstep (dstep (dstep (dstep (dstep w))))) 3 < 0 := by omega
  have n6 : ¬ upto (dstep (dstep (dstep (dstep (dstep (dstep w)))))) 3 < 0 := by omega
  have n11 : ¬ upto (dstep (dstep (dstep (dstep (dstep (dstep (dstep (dstep (dstep (dstep (dstep w))))))))))) 3 < 0 := by omega
  have w1 : IntKind.i64.wrap (g + x) = g + x := w64 (by omega)
  have w2 : IntKind.i64.wrap (0 - f) = -f := by rw [w64 (by omega)]; omega
  have w3 : IntKind.i64.wrap (-1) = -1 := w64 (by omega)
  have w4 : IntKind.i64.wrap (1000 + upto (dstep (dstep (dstep (dstep (dstep (dstep (dstep (dstep (dstep (dstep (dstep (dstep (dstep w))))))))))))) 1000) = 1000 + upto (dstep (dstep (dstep (dstep (dstep (dstep (dstep (dstep (dstep (dstep (dstep (dstep (dstep w))))))))))))) 1000 := w64 (by omega)
  have w5 : IntKind.i64.wrap (i - 1) = i - 1 := w64 (by omega)
  obtain ⟨gh, hgh⟩ : ∃ gh, (if g + x < 2000000 then g + x else 2000000) = gh := ⟨_, rfl⟩
  have hgh' : g ≤ gh ∧ gh ≤ 2000000 := by rw [← hgh]; split <;> omega
  have rr := range_run (dstep (dstep (dstep (dstep (dstep (dstep (dstep w))))))) (-f) 9 (by omega) (by omega) (by omega)
  obtain ⟨rg, hrg⟩ : ∃ rg, rngR (dstep (dstep (dstep (dstep (dstep (dstep (dstep w))))))) (-f) 9 = rg := ⟨_, rfl⟩
  rw [hrg] at b7 rr
  simp only [Rg.v] at rr
  obtain ⟨c, hc⟩ : ∃ c, btw (dstep (dstep (dstep (dstep (dstep (dstep (dstep (dstep (dstep (dstep (dstep (dstep w)))))))))))) (-1) (-1) = c := ⟨_, rfl⟩
  obtain ⟨d, hd⟩ : ∃ d, upto (dstep (dstep (dstep (dstep (dstep (dstep (dstep (dstep (dstep (dstep (dstep (dstep (dstep w))))))))))))) 1000 = d := ⟨_, rfl⟩
  rw [hc] at b12
  rw [hd] at b13 w4
  have hy : MtOK ⟨g, gh, rg.lo, rg.hi, s, c, 1000 + d⟩ ∧ (⟨g, gh, rg.lo, rg.hi, s, c, 1000 + d⟩ : Mt).step ≤ 1000 := ⟨⟨by dsimp only; omega, by dsimp only; omega, by dsimp only; omega, by dsimp only; omega⟩, by dsimp only; omega⟩
  simp only [go_sem, c1]
  refine cD (between_ok _ 900000 1100000 (by decide) (by decide) (by decide)) ?_
  simp only [go_sem]
  refine cD (between_ok _ 500000 2000000 (by decide) (by decide) (by decide)) ?_
  simp only [go_sem]
  refine cD (upto_ok _ 3 (by decide)) ?_
  simp only [go_sem, n2, sg]
  refine ⟨z2.2, ?_⟩
  refine dD (upto_ok _ 20000 (by decide)) ?_
  simp only [go_sem]
  refine dD (upto_ok _ 300000 (by decide)) ?_
  simp only [go_sem]
  refine dD (upto_ok _ 3 (by decide)) ?_
  simp only [go_sem, n5, sx, w1, hgh]
  refine ⟨z5.2, ?_⟩
  refine dD (upto_ok _ 3 (by decide)) ?_
  simp only [go_sem, n6, sf, w2]
  refine ⟨z6.2, ?_⟩

  refine dD rr ?_
  simp only [go_sem]
  refine dD (between_ok _ 1 12 (by decide) (by decide) (by decide)) ?_
  simp only [go_sem]
  refine dD (between_ok _ 1 1000 (by decide) (by decide) (by decide)) ?_
  simp only [go_sem]

  refine dD (upto_ok _ 3 (by decide)) ?_
  simp only [go_sem, n11, ss, w3, List.length_map]
  refine ⟨z11.2, ?_⟩
  refine dD (between_ok _ (-1) (-1) (by omega) (by omega) (by omega)) ?_
  simp only [go_sem]
  refine dD (upto_ok _ 1000 (by decide)) ?_
  simp only [go_sem, hc, hd, w4, w5, h56, List.length_map]
  have hz1 : BkOK [Mt.mk g gh rg.lo rg.hi s c (1000 + d)] := hz.snoc hy ⟨b12.1, by show c < 0; omega⟩
  refine loop_wk ?_ (bench_loop hN.2 hR (q := 6) (bs := [Mt.mk g gh rg.lo rg.hi s c (1000 + d)]) (i := i - 1) hz1 ⟨by simp, by simp; omega⟩ (by omega) rfl)
  simp [go_sem]
end Go.Proofs

