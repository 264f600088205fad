/- What one operation makes of abstract values, rows and a heap. -/
import Derived.Test.YtnfnjolpojofcabSxBase
namespace Go.Sx

/-- A temporary. -/
def tget : List AVal → Nat → AVal
  | [], _ => .any
  | v :: _, 0 => v
  | _ :: ρ, n + 1 => tget ρ n

theorem tget_eq : ∀ (ρ : List AVal) (t : Nat), tget ρ t = ρ.getD t .any
  | [], _ => rfl
  | _ :: _, 0 => rfl
  | _ :: ρ, n + 1 => by rw [List.getD_cons_succ]; exact tget_eq ρ n

def opd (ρ : List AVal) : AOpd → AVal
  | .tmp t => tget ρ t
  | .const v => v

def Heap.cellsAt (H : Heap) (r : Nat) : Option (Bool × Nat × List AVal) :=
  match H[r]? with
  | some (some (.cells g sz es)) => some (g, sz, es)
  | _ => none

/-- n cells from 'off' on as a value ('none': the one cell itself). -/
def partOf (cs : List AVal) (off : Nat) : Option Nat → Option AVal
  | none => cs[off]?
  | some n => if off + n ≤ cs.length then some (.agg ((cs.drop off).take n)) else none

def setPart (e : AVal) (off : Nat) (vs : List AVal) : Option AVal :=
  match e with
  | .agg cs => if off + vs.length ≤ cs.length then some (.agg (cs.take off ++ vs ++ cs.drop (off + vs.length))) else none
  | _ => match off, vs with | 0, [v] => some v | _, _ => none

/-- The elements of a slice. -/
def elemsOf (H : Heap) : AVal → Option (List AVal)
  | .sl r off len => match H.cellsAt r with
    | some (g, _, es) => if (g = false ∨ off + len = es.length) ∧ off + len ≤ es.length then some ((es.drop off).take len) else none
    | none => none
  | .view es => some es
  | .nilsl => some []
  | _ => none

def lenOf : AVal → Option Nat
  | .sl _ _ len => some len
  | .view es => some es.length
  | .nilsl => some 0
  | .str s => some s.length
  | _ => none

def isStr : AVal → Bool
  | .str _ => true
  | _ => false

def lenOfIn (H : Heap) : AVal → Option Nat
  | .sl r off len => match H.cellsAt r with | some (g, _, es) => if g = false ∨ off + len = es.length then some len else none | none => none
  | .view es => some es.length
  | .nilsl => some 0
  | .str s => some s.length
  | _ => none

def intOf : AVal → Option Int
  | .int _ n => some n
  | _ => none

/-- nil or not; none: not known. -/
def isNil : AVal → Option Bool
  | .nilptr | .nilsl | .nilfn | .niliface | .nilmap => some true
  | .rptr .. | .fn .. | .yfn .. | .iface .. | .mp .. => some false
  | _ => none

def isNilIn (H : Heap) : AVal → Option Bool
  | .sl r off len => match H.cellsAt r with | some (g, _, es) => if g = false ∨ off + len = es.length then some false else none | none => none
  | .ptr r _ _ L => match H.cellsAt r with | some (g, _, es) => if g = false ∨ L = es.length then some false else none | none => none
  | v => isNil v

/-- Of which make a value is that is compared with nil. -/
def tkOf : AVal → TK
  | .sl .. | .nilsl => .slice
  | .ptr .. | .rptr .. | .nilptr => .ptr
  | .fn .. | .yfn .. | .nilfn => .func
  | .mp .. | .nilmap => .map
  | _ => .plain

def isNilK (H : Heap) (tk : TK) (x : AVal) : Option Bool := if tkOf x = tk then isNilIn H x else none

def bitsOf (op : BinOp) (k : IntKind) (x y : Int) : Option Int :=
  let a := BitVec.ofInt k.bits x
  let b := BitVec.ofInt k.bits y
  match op with
  | .and => some (k.wrap (a &&& b).toNat)
  | .or => some (k.wrap (a ||| b).toNat)
  | .xor => some (k.wrap (a ^^^ b).toNat)
  | .andNot => some (k.wrap (a &&& ~~~b).toNat)
  | _ => none

def abinInt (op : BinOp) (k : IntKind) (a : Int) (k' : IntKind) (b : Int) : Option AVal :=
  match op with
  | .shl => if b < 0 then none else some (.int k (k.wrap (a * 2 ^ (min b.toNat k.bits))))
  | .shr => if b < 0 then none else some (.int k (a.fdiv (2 ^ (min b.toNat k.bits))))
  | .add => if k = k' then some (.int k (k.wrap (a + b))) else none
  | .sub => if k = k' then some (.int k (k.wrap (a - b))) else none
  | .mul => if k = k' then some (.int k (k.wrap (a * b))) else none
  | .quo => if k = k' ∧ b ≠ 0 then some (.int k (k.wrap (a.tdiv b))) else none
  | .rem => if k = k' ∧ b ≠ 0 then some (.int k (a.tmod b)) else none
  | .eql => if k = k' then some (.bool (a == b)) else none
  | .neq => if k = k' then some (.bool (a != b)) else none
  | .lss => if k = k' then some (.bool (decide (a < b))) else none
  | .leq => if k = k' then some (.bool (decide (a ≤ b))) else none
  | .gtr => if k = k' then some (.bool (decide (a > b))) else none
  | .geq => if k = k' then some (.bool (decide (a ≥ b))) else none
  | .and | .or | .xor | .andNot => if k = k' then (bitsOf op k a b).map (.int k ·) else none

def abinStr (op : BinOp) (a b : List UInt8) : Option AVal :=
  match op with
  | .add => if a.length + b.length ≤ 2 ^ 40 then some (.str (a ++ b)) else none
  | .eql => some (.bool (a == b))
  | .neq => some (.bool (!(a == b)))
  | .lss => some (.bool (Op.bytesLess a b))
  | .leq => some (.bool (Op.bytesLess a b || a == b))
  | .gtr => some (.bool (!(Op.bytesLess a b || a == b)))
  | .geq => some (.bool (!(Op.bytesLess a b)))
  | _ => none

def nilTk : AVal → Option TK
  | .nilsl => some .slice
  | .nilptr => some .ptr
  | .nilfn => some .func
  | .nilmap => some .map
  | _ => none

def abin (H : Heap) (tk : TK) (op : BinOp) (x y : AVal) : Option AVal :=
  match x, y with
  | .int k a, .int k' b => abinInt op k a k' b
  | .str a, .str b => abinStr op a b
  | .bool a, .bool b => match tk, op with
    | .bool, .eql => some (.bool (a == b))
    | .bool, .neq => some (.bool (!(a == b)))
    | _, _ => none
  | x, y => match nilTk y with
    | some t => if tk = t then (match op with
      | .eql => (isNilK H t x).map .bool
      | .neq => (isNilK H t x).map fun b => .bool (!b)
      | _ => none) else none
    | none => none

def eqCell : ECell → AVal → AVal → Option Bool
  | .int, .int k a, .int k' b => if k = k' then some (a == b) else none
  | .bool, .bool a, .bool b => some (a == b)
  | .str, .str a, .str b => some (a == b)
  | _, _, _ => none

def eqCells : List ECell → List AVal → List AVal → Option Bool
  | [], [], [] => some true
  | k :: ks, a :: x, b :: y => match eqCell k a b, eqCells ks x y with | some p, some q => some (p && q) | _, _ => none
  | _, _, _ => none

def setParts (cs : List AVal) : List (Nat × Nat × AVal) → Option (List AVal)
  | [] => some cs
  | (off, n, v) :: rest => if (acells v).length = n ∧ v.isAny = false ∧ off + n ≤ cs.length then setParts (cs.take off ++ acells v ++ cs.drop (off + n)) rest else none

def minmaxs (mx : Bool) : Int → List AVal → Option Int
  | a, [] => some a
  | a, .int .i64 b :: rest => minmaxs mx (if mx then (if b > a then b else a) else (if b < a then b else a)) rest
  | _, _ => none

def sizedAll (sz : Nat) (vs : List AVal) : Bool := vs.all fun v => (acells v).length == sz && (acells v).all AVal.one

/-- A load, at whatever address the operand holds. -/
def ldv (H : Heap) (k : Option Nat) : AVal → Option AVal
  | .ptr r i off L => match H.cellsAt r with
    | some (g, _, es) => if g = false ∨ L = es.length then (match es[i]? with | some e => partOf (acells e) off k | none => none) else none
    | none => none
  | .rptr e off => partOf (acells e) off k
  | _ => none

/-- What one operation yields, and which rows it lays or writes; 'n' is where a new row would go. -/
def aev (op : AOp) (ρ : List AVal) (H : Heap) (n : Nat) : Option (AVal × List (Nat × Row)) :=
  match op with
  | .move x => some (opd ρ x, [])
  | .pick c a b => match opd ρ c with | .bool t => some (if t then opd ρ a else opd ρ b, []) | _ => none
  | .box x => match opd ρ x with | .any => none | v => some (.ptr n 0 0 1, [(n, .cells false (acells v).length [v])])
  | .build zero parts => match setParts zero (parts.map fun (o, m, x) => (o, m, opd ρ x)) with | some cs => some (.agg cs, []) | none => none
  | .buildSlice sz xs =>
    let vs := xs.map (opd ρ)
    if sizedAll sz vs ∧ 0 < sz then some (.sl n 0 vs.length, [(n, .cells false sz vs)]) else none
  | .load k a => (ldv H k (opd ρ a)).map fun v => (v, [])
  | .store m a x => match opd ρ a with
    | .ptr r i off L => match H.cellsAt r with
      | some (g, sz, es) => if (g = false ∨ L = es.length) ∧ 0 < m ∧ (acells (opd ρ x)).length = m ∧ (acells (opd ρ x)).all AVal.one = true then
          (match es[i]? with
           | some e => match setPart e off (acells (opd ρ x)) with | some e' => some (.any, [(r, .cells g sz (es.set i e'))]) | none => none
           | none => none) else none
      | none => none
    | _ => none
  | .nilCheck x => match isNilIn H (opd ρ x) with | some false => (match opd ρ x with | .fn (.func f) a b => some (.fn (.func f) a b, []) | .fn .. => none | v => some (v, [])) | _ => none
  | .bin tk op x y => (abin H tk op (opd ρ x) (opd ρ y)).map fun v => (v, [])
  | .eqAgg neg ks x y => match opd ρ x, opd ρ y with
    | .agg a, .agg b => ((eqCells ks a b).map fun t => AVal.bool (if neg then !t else t)).map fun v => (v, [])
    | _, _ => none
  | .neg x => match opd ρ x with | .int k a => some (.int k (k.wrap (0 - a)), []) | _ => none
  | .not x => match opd ρ x with | .bool b => some (.bool (!b), []) | _ => none
  | .toInt k x => match opd ρ x with | .int _ a => some (.int k (k.wrap a), []) | _ => none
  | .makeFunc f a b => some (.fn f (a.map (opd ρ)) (b.map (opd ρ)), [])
  | .makeSlice z bytes l c => match opd ρ l, opd ρ c with
    | .int .i64 a, .int .i64 b => if 0 ≤ a ∧ a ≤ b ∧ b ≤ 2 ^ 44 ∧ b * bytes ≤ 2 ^ 44 ∧ z.isAny = false then some (.sl n 0 a.toNat, [(n, .cells false (acells z).length (List.replicate a.toNat z))]) else none
    | _, _ => none
  | .slice str sz x lo hi =>
    match lenOfIn H (opd ρ x) with
    | none => none
    | some len =>
      match (match lo with | some l => intOf (opd ρ l) | none => some 0), (match hi with | some h => intOf (opd ρ h) | none => some (len : Int)) with
      | some l, some h =>
        if 0 ≤ l ∧ l ≤ h ∧ h ≤ len then
          (match opd ρ x with
           | .str s => if str = true then some (.str ((s.drop l.toNat).take (h.toNat - l.toNat)), []) else none
           | .sl r off len => match H.cellsAt r with
             | some (g, sz', es) => if str = false ∧ sz = sz' ∧ 0 < sz ∧ (g = false ∨ off + len = es.length) then
                some (if l = h then .view [] else .sl r (off + l.toNat) (h.toNat - l.toNat), []) else none
             | none => none
           | .view es => if str = false ∧ (es.all fun e => (acells e).length == sz) = true then some (.view ((es.drop l.toNat).take (h.toNat - l.toNat)), []) else none
           | .nilsl => if str = false then some (.nilsl, []) else none
           | _ => none) else none
      | _, _ => none
  | .fieldAddr o x => match opd ρ x with
    | .ptr r i off L => match H.cellsAt r with | some (g, _, es) => if g = false ∨ L = es.length then some (.ptr r i (off + o) L, []) else none | none => none
    | .rptr e off => some (.rptr e (off + o), [])
    | _ => none
  | .field k o x => match opd ρ x with | .agg cs => (partOf cs o k).map fun v => (v, []) | _ => none
  | .indexAddr sz x i => match opd ρ i with
    | .int _ i =>
      if i < 0 then none else
      (match opd ρ x with
       | .sl r off len => match H.cellsAt r with
         | some (g, sz', es) => if sz = sz' ∧ (g = false ∨ off + len = es.length) ∧ i < len then some (.ptr r (off + i.toNat) 0 es.length, []) else none
         | none => none
       | .view es => match es[i.toNat]? with | some e => if (acells e).length = sz then some (.rptr e 0, []) else none | none => none
       | _ => none)
    | _ => none
  | .indexArr m sz x i => match opd ρ i with
    | .int _ i => if 0 ≤ i ∧ i < m then
      (match opd ρ x with
       | .ptr r k off L => match H.cellsAt r with | some (g, _, es) => if g = false ∨ L = es.length then some (.ptr r k (off + i.toNat * sz) L, []) else none | none => none
       | .rptr e off => some (.rptr e (off + i.toNat * sz), [])
       | _ => none) else none
    | _ => none
  | .indexAgg m sz ag x i => match opd ρ i, opd ρ x with
    | .int _ i, .agg cs => if 0 ≤ i ∧ i < m then (partOf cs (i.toNat * sz) (if ag then some sz else none)).map fun v => (v, []) else none
    | _, _ => none
  | .indexStr x i => match opd ρ x, opd ρ i with
    | .str s, .int _ i => if i < 0 then none else (match s[i.toNat]? with | some b => some (.int .u8 b.toNat, []) | none => none)
    | _, _ => none
  | .extract x i => match opd ρ x with | .tup vs => (vs[i]?).map fun v => (v, []) | _ => none
  | .len str x => match lenOfIn H (opd ρ x) with
    | some m => if isStr (opd ρ x) = str then some (.int .i64 m, []) else none
    | none => none
  | .strStr x => if isStr (opd ρ x) = true then some (opd ρ x, []) else none
  | .makeIface t x => some (.iface t (opd ρ x), [])
  | .lenArr m => some (.int .i64 m, [])
  | .minmax mx xs => match xs.map (opd ρ) with
    | .int .i64 a :: rest => (minmaxs mx a rest).map fun v => (.int .i64 v, [])
    | _ => none
  | .append sz bytes _ s x =>
    match elemsOf H (opd ρ x) with
    | none => none
    | some ys =>
      if sizedAll sz ys = false then none else
      (match opd ρ s with
       | .nilsl => if ys = [] then some (.nilsl, []) else if ys.length * bytes ≤ 2 ^ 44 then some (.sl n 0 ys.length, [(n, .cells true sz ys)]) else none
       | .sl r 0 len => match H.cellsAt r with
         | some (_, sz', es) => if sz = sz' ∧ len = es.length ∧ (len + ys.length) * bytes ≤ 2 ^ 44 then
             some (.sl r 0 (len + ys.length), [(r, .cells true sz (es ++ ys))]) else none
         | none => none
       | _ => none)
  | _ => none

def Heap.puts (H : Heap) : List (Nat × Row) → Heap
  | [] => H
  | (r, x) :: rest => (H.put r x).puts rest
end Go.Sx
