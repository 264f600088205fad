/- The abstract values and the code that they run: operations whose types have been looked up. -/
import Derived.RangeFuncLeaves
namespace Go.Sx

/-- An abstract value. 'any': nothing is known. 'ptr', 'sl': into a row of one's own. 'view', 'rptr': memory that is only read, by value. -/
inductive AVal where
  | any
  | bool (b : Bool)
  | int (k : IntKind) (n : Int)
  | str (s : List UInt8)
  | ptr (r i off L : Nat)
  | rptr (e : AVal) (off : Nat)
  | nilptr
  | sl (r off len : Nat)
  | view (es : List AVal)
  | nilsl
  | fn (f : Fn) (first captured : List AVal)
  | yfn (r : Nat)
  | nilfn
  | iface (t : TypeId) (v : AVal)
  | niliface
  | agg (cs : List AVal)
  | tup (vs : List AVal)
  | mp (r : Nat)
  | nilmap
  deriving Inhabited

def acells : AVal → List AVal
  | .agg cs => cs
  | v => [v]

def AVal.isAgg : AVal → Bool
  | .agg _ => true
  | _ => false

def AVal.isAny : AVal → Bool
  | .any => true
  | _ => false

inductive AOpd where
  | tmp (t : Nat)
  | const (v : AVal)
  deriving Inhabited

inductive ECell where
  | bool | int | str
  deriving DecidableEq, Inhabited

/-- What a comparison compares. -/
inductive TK where
  | bool | plain | slice | ptr | map | func
  deriving DecidableEq, Inhabited

inductive AOp where
  | move (x : AOpd)
  | pick (c a b : AOpd)
  | box (x : AOpd)
  | build (zero : List AVal) (parts : List (Nat × Nat × AOpd))
  | buildSlice (size : Nat) (elems : List AOpd)
  | load (n : Option Nat) (a : AOpd)
  | store (n : Nat) (a x : AOpd)
  | nilCheck (x : AOpd)
  | bin (tk : TK) (op : BinOp) (x y : AOpd)
  | eqAgg (neg : Bool) (ks : List ECell) (x y : AOpd)
  | neg (x : AOpd)
  | not (x : AOpd)
  | toInt (k : IntKind) (x : AOpd)
  | strStr (x : AOpd)
  | bytesToStr (x : AOpd)
  | strToBytes (x : AOpd)
  | makeFunc (f : Fn) (first captured : List AOpd)
  | makeIface (t : TypeId) (x : AOpd)
  | makeSlice (zero : AVal) (bytes : Nat) (len cap : AOpd)
  | slice (str : Bool) (size : Nat) (x : AOpd) (lo hi : Option AOpd)
  | sliceArr (n size : Nat) (x : AOpd) (lo hi : Option AOpd)
  | fieldAddr (off : Nat) (x : AOpd)
  | field (n : Option Nat) (off : Nat) (x : AOpd)
  | indexAddr (size : Nat) (x i : AOpd)
  | indexArr (n size : Nat) (x i : AOpd)
  | indexAgg (n size : Nat) (ag : Bool) (x i : AOpd)
  | indexStr (x i : AOpd)
  | extract (x : AOpd) (i : Nat)
  | len (str : Bool) (x : AOpd)
  | lenArr (n : Nat)
  | minmax (mx : Bool) (xs : List AOpd)
  | append (size bytes : Nat) (ag : Bool) (s x : AOpd)
  | appendStr (s x : AOpd)
  | copy (size : Nat) (d s : AOpd)
  | range (x : AOpd)
  | nextStr (x : AOpd)
  | call (f : AOpd) (args : List AOpd)
  | bad
  deriving Inhabited

/-- 'free': the earlier operations of a region that draws which may also come later. -/
structure AOper where
  dst : Option Nat
  op : AOp
  guard : Option (Nat × Bool)
  free : List Nat
  deriving Inhabited

inductive ACode where
  | skip
  | reg (ops : List AOper) (draw : Bool)
  | seq (a b : ACode)
  | cond (c : AOpd) (a b : ACode)
  | block (id : Nat) (c : ACode)
  | loop (c : ACode)
  | rng (g : AOpd) (ps : List Nat) (asg body : ACode)
  | exit (id : Nat)
  | scope (c : ACode)
  | label (l : Nat)
  | goto (l : Nat)
  | ret
  | bad
  deriving Inhabited

inductive ARes where
  | tmp (t : Nat)
  | cell (a : Nat) (n : Option (Option Nat))
  deriving Inhabited

structure AFun where
  params : Nat
  ntmps : Nat
  body : ACode
  res : List ARes
  deriving Inhabited

/-! ### From the program's own code -/

def cval : Nat → Value → AVal
  | _, .bool b => .bool b
  | _, .int k n => .int k n
  | _, .string s => .str s.data.toList
  | _, .pointer none => .nilptr
  | _, .slice none n c => if n = 0 ∧ c = 0 then .nilsl else .any
  | _, .nilFunc => .nilfn
  | _, .nilIface => .niliface
  | _, .map none => .nilmap
  | _, .func f a b => match f with | .func g => if a.size = 0 ∧ b.size = 0 then .fn (.func g) [] [] else .any | _ => .any
  | d + 1, .agg cs => .agg (cs.toList.map (cval d))
  | d + 1, .iface t v => .iface t (cval d v)
  | _, _ => .any

def copd : Operand → AOpd
  | .tmp t => .tmp t
  | .const v => .const (cval 3 v)
  | .func f => .const (.fn (.func f) [] [])
  | .global _ => .const .any

section
variable (P : Program)

def isAggT (t : TypeId) : Option Bool :=
  match P.underlying t with
  | some (.struct _) => some true
  | some (.array _ _) => some true
  | some _ => some false
  | none => none

def sizeT (t : TypeId) : Option Nat := (P.info? t).map (·.size)
def bytesT (t : TypeId) : Option Nat := (P.info? t).map (·.bytes)
def zeroT (t : TypeId) : Option AVal := ((P.info? t).bind (·.zero)).map (cval 3)

/-- The cells that a type's comparison looks at, where all of them are plain. -/
def fieldsT (g : TypeId → Option (List ECell)) : Nat → List Field → Option (List ECell)
  | _, [] => some []
  | off, f :: fs => if f.offset = off ∧ f.name ≠ "_" then (match g f.type with
    | some m => if sizeT P f.type = some m.length then (fieldsT g (off + m.length) fs).map (m ++ ·) else none
    | none => none) else none

def eqCellsT : Nat → TypeId → Option (List ECell)
  | 0, _ => none
  | d + 1, t =>
    match P.underlying t with
    | some .bool => some [.bool]
    | some (.int _) => some [.int]
    | some .string => some [.str]
    | some (.struct fs) => if P.stoodInHeld t then none else fieldsT P (eqCellsT d) 0 fs.toList
    | _ => none

def lkind (t : TypeId) : Option (Option Nat) :=
  match isAggT P t with
  | some true => (sizeT P t).map some
  | some false => some none
  | none => none

def cbin (op : BinOp) (t : TypeId) (x y : Operand) : AOp :=
  match P.underlying t, op with
  | some (.struct _), .eql => match eqCellsT P 4 t with | some l => if P.eqGuardType P.depth t then .bad else .eqAgg false l (copd x) (copd y) | none => .bad
  | some (.struct _), .neq => match eqCellsT P 4 t with | some l => if P.eqGuardType P.depth t then .bad else .eqAgg true l (copd x) (copd y) | none => .bad
  | some .bool, _ => .bin .bool op (copd x) (copd y)
  | some (.int _), _ | some .string, _ => .bin .plain op (copd x) (copd y)
  | some (.slice _), _ => .bin .slice op (copd x) (copd y)
  | some (.pointer _), _ => .bin .ptr op (copd x) (copd y)
  | some (.map ..), _ => .bin .map op (copd x) (copd y)
  | some (.func ..), _ => .bin .func op (copd x) (copd y)
  | _, _ => .bad

def cop (o : Oper) : AOp :=
  match o.op with
  | .move x | .assign x => .move (copd x)
  | .pick c a b => .pick (copd c) (copd a) (copd b)
  | .alloc t => match zeroT P t with | some z => .box (.const z) | none => .bad
  | .box _ x => .box (copd x)
  | .build t parts =>
    match P.underlying t, zeroT P t with
    | some (.struct fs), some z =>
      match fs.toList.mapM (fun f => (P.info? f.type).map fun i => (f.offset, i.size)) with
      | some places => if z.isAgg && parts.toList.all (fun p => (places.toArray[p.1]?).isSome) then
          .build (acells z) (parts.toList.map fun p => (((places.toArray[p.1]?).getD (0, 0)).1, ((places.toArray[p.1]?).getD (0, 0)).2, copd p.2)) else .bad
      | none => .bad
    | some (.array _ e), some z =>
      match sizeT P e with
      | some n => if z.isAgg then .build (acells z) (parts.toList.map fun p => (p.1 * n, n, copd p.2)) else .bad
      | none => .bad
    | _, _ => .bad
  | .buildSlice t len parts =>
    match P.underlying t with
    | some (.slice e) => match sizeT P e, zeroT P e with
      | some sz, some z => if 0 < sz && (len * sz ≤ 2 ^ 20) && parts.toList.map (·.1) == List.range len && (acells z).length == sz then
        .buildSlice sz (parts.toList.map fun p => copd p.2) else .bad
      | _, _ => .bad
    | _ => .bad
  | .load t a => match lkind P t with | some k => .load k (copd a) | none => .bad
  | .store t a x => match sizeT P t with | some n => .store n (copd a) (copd x) | none => .bad
  | .nilCheck x => .nilCheck (copd x)
  | .binOp op t x y _ => cbin P op t x y
  | .unOp .neg _ x => .neg (copd x)
  | .unOp .not _ x => .not (copd x)
  | .convert src dst x =>
    match P.underlying src, P.underlying dst with
    | some (.int _), some (.int k) => .toInt k (copd x)
    | some .string, some .string => .strStr (copd x)
    | some .string, some (.slice e) => match P.underlying e with | some (.int .u8) => .strToBytes (copd x) | _ => .bad
    | some (.slice e), some .string => match P.underlying e with | some (.int .u8) => .bytesToStr (copd x) | _ => .bad
    | _, _ => .bad
  | .makeFunc f a b => .makeFunc f (a.toList.map copd) (b.toList.map copd)
  | .makeInterface t x => match P.underlying t with | none => .bad | some (.interface _) => .bad | some _ => .makeIface t (copd x)
  | .makeSlice t l c =>
    match P.underlying t with
    | some (.slice e) => match zeroT P e, bytesT P e, sizeT P e with
      | some z, some b, some n => if n = (acells z).length && 0 < n then .makeSlice z b (copd l) (copd c) else .bad
      | _, _, _ => .bad
    | _ => .bad
  | .slice t x lo hi mx =>
    match mx, P.underlying t with
    | none, some .string => .slice true 1 (copd x) (lo.map copd) (hi.map copd)
    | none, some (.slice e) => match sizeT P e with | some n => .slice false n (copd x) (lo.map copd) (hi.map copd) | none => .bad
    | none, some (.array n e) => match sizeT P e with | some m => .sliceArr n m (copd x) (lo.map copd) (hi.map copd) | none => .bad
    | _, _ => .bad
  | .fieldAddr t x i =>
    match P.underlying t with
    | some (.struct fs) => match fs[i]? with
      | some f => match sizeT P f.type with | some n => if n = 0 then .bad else .fieldAddr f.offset (copd x) | none => .bad
      | none => .bad
    | _ => .bad
  | .field t x i =>
    match P.underlying t with
    | some (.struct fs) => match fs[i]? with
      | some f => match lkind P f.type with | some k => .field k f.offset (copd x) | none => .bad
      | none => .bad
    | _ => .bad
  | .indexAddr t x i =>
    match P.underlying t with
    | some (.slice e) => match sizeT P e with | some n => .indexAddr n (copd x) (copd i) | none => .bad
    | some (.array n e) => match sizeT P e with | some m => .indexArr n m (copd x) (copd i) | none => .bad
    | _ => .bad
  | .index t x i =>
    match P.underlying t with
    | some .string => .indexStr (copd x) (copd i)
    | some (.array n e) => match sizeT P e, isAggT P e with | some m, some g => .indexAgg n m g (copd x) (copd i) | _, _ => .bad
    | _ => .bad
  | .extract x i => .extract (copd x) i
  | .range t x => match P.underlying t with | some .string => .range (copd x) | _ => .bad
  | .next x true => .nextStr (copd x)
  | .call c =>
    match c.callee with
    | .value f => .call (copd f) (c.args.toList.map copd)
    | .builtin .len =>
      match (c.argTypes[0]?).bind P.underlying, c.args.toList with
      | some .string, [x] => .len true (copd x)
      | some (.slice _), [x] => .len false (copd x)
      | some (.array n _), [_] => .lenArr n
      | some (.pointer t), [_] => match P.underlying t with | some (.array n _) => .lenArr n | _ => .bad
      | _, _ => .bad
    | .builtin .min => .minmax false (c.args.toList.map copd)
    | .builtin .max => .minmax true (c.args.toList.map copd)
    | .builtin .append =>
      match (c.argTypes[0]?).bind P.underlying, (c.argTypes[1]?).bind P.underlying, c.args.toList with
      | some (.slice e), some (.slice _), [s, x] => match sizeT P e, bytesT P e, isAggT P e with
        | some n, some b, some g => if 0 < n && 0 < b && (match zeroT P e with | some z => (acells z).length == n && !z.isAny | none => false) then .append n b g (copd s) (copd x) else .bad
        | _, _, _ => .bad
      | some (.slice e), some .string, [s, x] => match P.underlying e, bytesT P e, sizeT P e with | some (.int .u8), some 1, some 1 => .appendStr (copd s) (copd x) | _, _, _ => .bad
      | _, _, _ => .bad
    | .builtin .copy =>
      match (c.argTypes[0]?).bind P.underlying, c.args.toList with
      | some (.slice e), [d, s] => match sizeT P e with | some n => .copy n (copd d) (copd s) | _ => .bad
      | _, _ => .bad
    | _ => .bad
  | _ => .bad

/-- Of each operation, all that must come before it. -/
def closures (ops : List Oper) : List (List Nat) :=
  ops.foldl (fun acc o => acc ++ [((o.after.toList.filter (Region.binds .any)).flatMap fun e => e.on :: acc.getD e.on []).eraseDups]) []

/-- All that must come before the i-th operation stands before it. -/
def edgesOk (i : Nat) (o : Oper) : Bool := (o.after.toList.filter (Region.binds .any)).all fun e => decide (e.on < i)

def cguard (ops : Array Oper) (o : Oper) : Option (Option (Nat × Bool)) :=
  match o.guard with
  | none => some none
  | some (j, b) => match (ops[j]?).bind (·.dst) with
    | some t => some (some (t, b))
    | none => none

def coper (ops : Array Oper) (draw : Bool) (i : Nat) (o : Oper) : AOper :=
  { dst := o.dst, op := if (cguard ops o).isSome then cop P o else .bad, guard := (cguard ops o).getD none,
    free := if draw then (if edgesOk i o then (let cl := (closures ops.toList).getD i []; (List.range i).filter fun j => !cl.contains j) else [i]) else [] }

def ccode : Code → ACode
  | .skip => .skip
  | .region _ ops draw => .reg (ops.toList.zipIdx.map fun (o, i) => coper P ops draw i o) draw
  | .seq a b => .seq (ccode a) (ccode b)
  | .cond c a b => .cond (copd c) (ccode a) (ccode b)
  | .block id c => .block id (ccode c)
  | .loop c => .loop (ccode c)
  | .rangeFunc g ps a b => .rng (copd g) ps.toList (ccode a) (ccode b)
  | .exit id => .exit id
  | .scope c => .scope (ccode c)
  | .label l => .label l
  | .goto l => .goto l
  | .ret => .ret
  | .refuse _ => .bad

def cfun (f : Func) : AFun :=
  { params := f.params.size + f.nfree, ntmps := f.ntmps,
    body := match f.body with | some c => ccode P c | none => .bad,
    res := f.results.toList.map fun | .tmp t => .tmp t | .cell a t => .cell a (lkind P t) }
end
end Go.Sx
