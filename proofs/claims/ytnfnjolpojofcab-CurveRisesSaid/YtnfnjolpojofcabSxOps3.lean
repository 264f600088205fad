/- 'aev' is sound: arithmetic, comparisons, parts of values. -/
import Derived.Test.YtnfnjolpojofcabSxOps2
import Derived.Lib.Strings
namespace Go.Sx
open Go

variable {P : Program} {G : Ctx} {μ : Mu} {H : Heap} {n : Nat} {w : World} {ρ : List AVal} {a : Act} {v : AVal} {Δ : List (Nat × Row)}

theorem run_eqGuard (op : BinOp) (t : TypeId) (x y : Operand) (c d : Value) (h1 : ∀ vs, c ≠ .agg vs) (h2 : c ≠ .nilIface) : (eqGuard op t x y c d).run P w = .ok () w := by
  unfold eqGuard
  cases op <;> simp <;> (split <;> first | (exfalso; simp_all; done) | simp)

/-- Where a value is compared with nil. -/
theorem isNil_run (hH : HR P G μ H w) {x : AVal} {c : Value} {b : Bool} (h : isNilIn H x = some b) (hx : VR G μ x c) :
    (c = .pointer none ∧ b = true ∨ (∃ a, c = .pointer (some a)) ∧ b = false) ∨ (c = .slice none 0 0 ∧ b = true ∨ (∃ a n m, c = .slice (some a) n m) ∧ b = false) ∨
    (c = .nilFunc ∧ b = true ∨ (∃ f p q, c = .func f p q) ∧ b = false) ∨ (c = .map none ∧ b = true ∨ (∃ r, c = .map (some r)) ∧ b = false) ∨
    (c = .nilIface ∧ b = true ∨ (∃ t v, c = .iface t v) ∧ b = false) := by
  cases hx <;> simp only [isNilIn, isNil] at h <;> first
    | (cases h; done)
    | (cases h; simp; done)
    | skip
  · rename_i r i off L p hp hL ho hc
    split at h
    · rename_i g sz es hca
      split at h
      · rename_i hg
        cases h
        obtain ⟨p', C, ty, h1, h2, h3, h4, h5, h6, h7, h8, h9⟩ := hH.own hca
        rw [hp] at h1; cases h1
        rw [hc (live_of h6 h5 hg)]
        simp
      · cases h
    · cases h
  · rename_i r off len p hp hvec hL ho hc
    split at h
    · rename_i g sz es hca
      split at h
      · rename_i hg
        cases h
        obtain ⟨p', C, ty, h1, h2, h3, h4, h5, h6, h7, h8, h9⟩ := hH.own hca
        rw [hp] at h1; cases h1
        obtain ⟨cap, hcs, _⟩ := hc (live_of h6 h5 hg)
        rw [hcs]
        simp
      · cases h
    · cases h

def tkOk (P : Program) (tk : TK) (t : TypeId) : Prop :=
  match tk with
  | .bool => P.underlying t = some .bool
  | .plain => True
  | .slice => ∃ e, P.underlying t = some (.slice e)
  | .ptr => ∃ e, P.underlying t = some (.pointer e)
  | .map => ∃ k e, P.underlying t = some (.map k e)
  | .func => ∃ p q r, P.underlying t = some (.func p q r)

theorem isNil_ptr (hH : HR P G μ H w) {r i off L : Nat} {c : Value} {b : Bool} (h : isNilIn H (.ptr r i off L) = some b) (hx : VR G μ (.ptr r i off L) c) : (∃ a, c = .pointer (some a)) ∧ b = false := by
  obtain ⟨p, hp, hL, hc⟩ := hx.inv_ptr
  simp only [isNilIn] at h
  split at h
  · rename_i g sz es hca
    split at h
    · rename_i hg
      cases h
      obtain ⟨p', C, ty, h1, h2, h3, h4, h5, h6, h7, h8, h9⟩ := hH.own hca
      rw [hp] at h1; cases h1
      exact ⟨⟨_, hc (live_of h6 h5 hg)⟩, rfl⟩
    · cases h
  · cases h

theorem isNil_sl (hH : HR P G μ H w) {r off len : Nat} {c : Value} {b : Bool} (h : isNilIn H (.sl r off len) = some b) (hx : VR G μ (.sl r off len) c) : (∃ a n m, c = .slice (some a) n m) ∧ b = false := by
  obtain ⟨p, hp, hvec, hL, hc⟩ := hx.inv_sl
  simp only [isNilIn] at h
  split at h
  · rename_i g sz es hca
    split at h
    · rename_i hg
      cases h
      obtain ⟨p', C, ty, h1, h2, h3, h4, h5, h6, h7, h8, h9⟩ := hH.own hca
      rw [hp] at h1; cases h1
      obtain ⟨cap, hcs, _⟩ := hc (live_of h6 h5 hg)
      exact ⟨⟨_, _, _, hcs⟩, rfl⟩
    · cases h
  · cases h

theorem isNil_ne (hH : HR P G μ H w) {x : AVal} {c : Value} {b : Bool} {tk : TK} (h : isNilK H tk x = some b) (hx : VR G μ x c) :
    match tk with
    | .slice => c = .slice none 0 0 ∧ b = true ∨ (∃ a n m, c = .slice (some a) n m) ∧ b = false
    | .ptr => c = .pointer none ∧ b = true ∨ (∃ a, c = .pointer (some a)) ∧ b = false
    | .func => c = .nilFunc ∧ b = true ∨ (∃ f p q, c = .func f p q) ∧ b = false
    | .map => c = .map none ∧ b = true ∨ (∃ r, c = .map (some r)) ∧ b = false
    | _ => True := by
  unfold isNilK at h
  split at h
  · rename_i ht
    subst ht
    have hx0 := hx
    cases hx with
    | ptr r i off L p c hp hL ho hc => exact .inr (isNil_ptr hH h hx0)
    | sl r off len p c hp hvec hL ho hc => exact .inr (isNil_sl hH h hx0)
    | _ => simp only [tkOf, isNilIn, isNil] at h ⊢ <;> first
      | trivial
      | (cases h; done)
      | (cases h; simp; done)
  · cases h

theorem eqIn_bool {t : TypeId} (hu : P.underlying t = some .bool) (d : Nat) (x y : Bool) : (Op.equalIn (d + 1) t (.bool x) (.bool y)).run P w = .ok (x == y) w := by
  simp [Op.equalIn, run_underlying hu]
theorem eqIn_slice {t e : TypeId} (hu : P.underlying t = some (.slice e)) (d : Nat) (a : Option Addr) (k m : Nat) : (Op.equalIn (d + 1) t (.slice a k m) (.slice none 0 0)).run P w = .ok a.isNone w := by
  cases a <;> simp [Op.equalIn, run_underlying hu]
theorem eqIn_ptr {t e : TypeId} (hu : P.underlying t = some (.pointer e)) (d : Nat) (a : Option Addr) : (Op.equalIn (d + 1) t (.pointer a) (.pointer none)).run P w = .ok a.isNone w := by
  cases a <;> simp [Op.equalIn, run_underlying hu]
theorem eqIn_map {t k e : TypeId} (hu : P.underlying t = some (.map k e)) (d : Nat) (a : Option Nat) : (Op.equalIn (d + 1) t (.map a) (.map none)).run P w = .ok a.isNone w := by
  cases a <;> simp [Op.equalIn, run_underlying hu]
theorem eqIn_func {t : TypeId} {p q : Array TypeId} {r : Bool} (hu : P.underlying t = some (.func p q r)) (d : Nat) (f : Fn) (x y : Array Value) : (Op.equalIn (d + 1) t (.func f x y) .nilFunc).run P w = .ok false w := by
  simp [Op.equalIn, run_underlying hu]
theorem eqIn_func0 {t : TypeId} {p q : Array TypeId} {r : Bool} (hu : P.underlying t = some (.func p q r)) (d : Nat) : (Op.equalIn (d + 1) t .nilFunc .nilFunc).run P w = .ok true w := by
  simp [Op.equalIn, run_underlying hu]

/-- A comparison with nil. -/
theorem equal_nil (hH : HR P G μ H w) {t : TypeId} {x y : AVal} {c d : Value} {b : Bool} {tk : TK} (hy : VR G μ y d) (hyt : tk = .slice ∧ y = .nilsl ∨ tk = .ptr ∧ y = .nilptr ∨ tk = .func ∧ y = .nilfn ∨ tk = .map ∧ y = .nilmap)
    (ht : tkOk P tk t) (h : isNilK H tk x = some b) (hx : VR G μ x c) : (∀ vs, c ≠ .agg vs) ∧ c ≠ .nilIface ∧
      (binOp .eql t c d).run P w = .ok (.bool b) w ∧ (binOp .neq t c d).run P w = .ok (.bool (!b)) w := by
  have hn := isNil_ne hH h hx
  rcases hyt with ⟨rfl, rfl⟩ | ⟨rfl, rfl⟩ | ⟨rfl, rfl⟩ | ⟨rfl, rfl⟩ <;> cases hy <;> simp only [tkOk] at ht hn
  · obtain ⟨e, hu⟩ := ht
    have he := fun a k m => eqIn_slice (w := w) hu 9999 a k m
    rcases hn with ⟨rfl, rfl⟩ | ⟨⟨a, n, m, rfl⟩, rfl⟩ <;> exact ⟨by simp, by simp, by simp [binOp, Op.equal, Op.maxDepth, he], by simp [binOp, Op.equal, Op.maxDepth, he]⟩
  · obtain ⟨e, hu⟩ := ht
    have he := fun a => eqIn_ptr (w := w) hu 9999 a
    rcases hn with ⟨rfl, rfl⟩ | ⟨⟨a, rfl⟩, rfl⟩ <;> exact ⟨by simp, by simp, by simp [binOp, Op.equal, Op.maxDepth, he], by simp [binOp, Op.equal, Op.maxDepth, he]⟩
  · obtain ⟨p, q, r, hu⟩ := ht
    have he := fun a k m => eqIn_func (w := w) hu 9999 a k m
    have he0 := eqIn_func0 (w := w) hu 9999
    rcases hn with ⟨rfl, rfl⟩ | ⟨⟨f, p', q', rfl⟩, rfl⟩
    · exact ⟨by simp, by simp, by simp [binOp, Op.equal, Op.maxDepth, he0], by simp [binOp, Op.equal, Op.maxDepth, he0]⟩
    · exact ⟨by simp, by simp, by simp [binOp, Op.equal, Op.maxDepth, he], by simp [binOp, Op.equal, Op.maxDepth, he]⟩
  · obtain ⟨k, e, hu⟩ := ht
    have he := fun a => eqIn_map (w := w) hu 9999 a
    rcases hn with ⟨rfl, rfl⟩ | ⟨⟨r, rfl⟩, rfl⟩ <;> exact ⟨by simp, by simp, by simp [binOp, Op.equal, Op.maxDepth, he], by simp [binOp, Op.equal, Op.maxDepth, he]⟩

theorem abin_int {k k' : IntKind} {x y : Int} {t : TypeId} {op : BinOp} (h : abinInt op k x k' y = some v) :
    ∃ cv, (binOp op t (.int k x) (.int k' y)).run P w = .ok cv w ∧ VR G μ v cv := by
  cases op <;> simp [abinInt, bitsOf] at h
  case shl => obtain ⟨hy, rfl⟩ := h; exact ⟨.int k _, by simp [binOp, Op.shift, Int.not_lt.2 hy], .int _ _⟩
  case shr => obtain ⟨hy, rfl⟩ := h; exact ⟨.int k _, by simp [binOp, Op.shift, Int.not_lt.2 hy], .int _ _⟩
  case quo => obtain ⟨⟨rfl, hz⟩, rfl⟩ := h; exact ⟨.int k _, by simp [binOp, Op.intDiv, hz], .int _ _⟩
  case rem => obtain ⟨⟨rfl, hz⟩, rfl⟩ := h; exact ⟨.int k _, by simp [binOp, Op.intDiv, hz], .int _ _⟩
  all_goals obtain ⟨rfl, rfl⟩ := h
  case eql => exact ⟨.bool _, by simp [binOp, Op.intCmp], .bool _⟩
  case neq => exact ⟨.bool _, by simp [binOp, Op.intCmp], .bool _⟩
  case lss => exact ⟨.bool _, by simp [binOp, Op.intCmp], .bool _⟩
  case leq => exact ⟨.bool _, by simp [binOp, Op.intCmp], .bool _⟩
  case gtr => exact ⟨.bool _, by simp [binOp, Op.intCmp], .bool _⟩
  case geq => exact ⟨.bool _, by simp [binOp, Op.intCmp], .bool _⟩
  case add => exact ⟨.int k _, by simp [binOp, Op.intArith], .int _ _⟩
  case sub => exact ⟨.int k _, by simp [binOp, Op.intArith], .int _ _⟩
  case mul => exact ⟨.int k _, by simp [binOp, Op.intArith], .int _ _⟩
  case and => exact ⟨.int k _, by simp [binOp, Op.intBits], .int _ _⟩
  case or => exact ⟨.int k _, by simp [binOp, Op.intBits], .int _ _⟩
  case xor => exact ⟨.int k _, by simp [binOp, Op.intBits], .int _ _⟩
  case andNot => exact ⟨.int k _, by simp [binOp, Op.intBits], .int _ _⟩

theorem abin_str {x y : ByteArray} {t : TypeId} {op : BinOp} (h : abinStr op x.data.toList y.data.toList = some v) :
    ∃ cv, (binOp op t (.string x) (.string y)).run P w = .ok cv w ∧ VR G μ v cv := by
  have e1 : ∀ z : ByteArray, z.toList = z.data.toList := Lib.toList_data
  cases op <;> simp only [abinStr] at h
  case add =>
    split at h
    · rename_i hle
      cases h
      refine ⟨.string (x ++ y), ?_, .str _ _ (by simp)⟩
      have hx : x.size = x.data.toList.length := Array.length_toList.symm
      have hy : y.size = y.data.toList.length := Array.length_toList.symm
      have : ¬ (((x.size + y.size : Nat) : Int) > IntKind.i64.max) := by
        have : IntKind.i64.max = 9223372036854775807 := rfl
        rw [this, hx, hy]; omega
      simp only [binOp, Op.stringOp, if_neg this, Sem.run_pure]
    · cases h
  all_goals first
    | (cases h; done)
    | (cases h; exact ⟨.bool _, by simp [binOp, Op.stringOp, e1], .bool _⟩)
end Go.Sx
