/- A part of the proof: the abstract semantics. -/
import Derived.RangeFuncLeaves
import Derived.Laws.CopyRow
import Derived.Laws.Cells
import Derived.Laws.Tables
import Derived.Laws.Entries
set_option linter.unusedSimpArgs false
set_option linter.unusedVariables false
/- The abstract values and the code that they run: operations whose types have been looked up. -/
namespace Go.Sx

inductive AVal where
  | any
  | bool (b : Bool)
  | int (k : IntKind) (n : Int)
  | str (s : List UInt8)
  | ptr (r i off L : Nat)
  | rptr (e : AVal) (off : Nat)
  | nilptr
  | sl (r off len : Nat)
  | view (es : List AVal)
  | nilsl
  | fn (f : Fn) (first captured : List AVal)
  | yfn (r : Nat)
  | nilfn
  | iface (t : TypeId) (v : AVal)
  | niliface
  | agg (cs : List AVal)
  | tup (vs : List AVal)
  | mp (r : Nat)
  | nilmap
  deriving Inhabited

def acells : AVal → List AVal
  | .agg cs => cs
  | v => [v]

def AVal.isAgg : AVal → Bool
  | .agg _ => true
  | _ => false

def AVal.isAny : AVal → Bool
  | .any => true
  | _ => false

inductive AOpd where
  | tmp (t : Nat)
  | const (v : AVal)
  deriving Inhabited

inductive ECell where
  | bool | int | str
  deriving DecidableEq, Inhabited

inductive XK where
  | count | index
  deriving DecidableEq, Inhabited

inductive TK where
  | bool | plain | slice | ptr | map | func
  deriving DecidableEq, Inhabited

inductive AOp where
  | move (x : AOpd)
  | pick (c a b : AOpd)
  | box (x : AOpd)
  | build (zero : List AVal) (parts : List (Nat × Nat × AOpd))
  | buildSlice (size : Nat) (elems : List AOpd)
  | load (n : Option Nat) (a : AOpd)
  | store (n : Nat) (a x : AOpd)
  | nilCheck (x : AOpd)
  | bin (tk : TK) (op : BinOp) (x y : AOpd)
  | eqAgg (neg : Bool) (ks : List ECell) (x y : AOpd)
  | neg (x : AOpd)
  | not (x : AOpd)
  | toInt (k : IntKind) (x : AOpd)
  | strStr (x : AOpd)
  | bytesToStr (x : AOpd)
  | strToBytes (x : AOpd)
  | isNilI (neg : Bool) (x : AOpd)
  | slice3 (size : Nat) (x : AOpd) (lo : Option AOpd) (hi mx : AOpd)
  | markStr (x : AOpd)
  | ext (k : XK) (x y : AOpd)
  | allocArr (cs : List AVal)
  | indexArrB (n : Nat) (x i : AOpd)
  | sliceArrB (n : Nat) (x : AOpd) (lo hi : Option AOpd)
  | makeFunc (f : Fn) (first captured : List AOpd)
  | makeIface (t : TypeId) (x : AOpd)
  | makeSlice (zero : AVal) (bytes : Nat) (len cap : AOpd)
  | slice (str : Bool) (size : Nat) (x : AOpd) (lo hi : Option AOpd)
  | sliceArr (n size : Nat) (x : AOpd) (lo hi : Option AOpd)
  | fieldAddr (off : Nat) (x : AOpd)
  | field (n : Option Nat) (off : Nat) (x : AOpd)
  | indexAddr (size : Nat) (x i : AOpd)
  | indexArr (n size : Nat) (x i : AOpd)
  | indexAgg (n size : Nat) (ag : Bool) (x i : AOpd)
  | indexStr (x i : AOpd)
  | extract (x : AOpd) (i : Nat)
  | len (str : Bool) (x : AOpd)
  | lenArr (n : Nat)
  | minmax (mx : Bool) (xs : List AOpd)
  | cap (x : AOpd)
  | appendN (sz bytes : Nat) (zero : AVal) (s n : AOpd)
  | append (size bytes : Nat) (ag : Bool) (s x : AOpd)
  | appendStr (s x : AOpd)
  | copy (size : Nat) (d s : AOpd)
  | makeMap (kk : IntKind)
  | lookup (kk : IntKind) (zero : AVal) (ok : Bool) (x i : AOpd)
  | mapUpdate (kk : IntKind) (x i y : AOpd)
  | range (x : AOpd)
  | nextStr (x : AOpd)
  | call (f : AOpd) (args : List AOpd)
  | callM (tab : List (Nat × Nat)) (x : AOpd) (args : List AOpd)
  | bad
  deriving Inhabited

structure AOper where
  dst : Option Nat
  op : AOp
  guard : Option (Nat × Bool)
  free : List Nat
  deriving Inhabited

inductive ACode where
  | skip
  | reg (ops : List AOper) (draw : Bool)
  | seq (a b : ACode)
  | cond (c : AOpd) (a b : ACode)
  | block (id : Nat) (c : ACode)
  | loop (c : ACode)
  | rng (g : AOpd) (ps : List Nat) (asg body : ACode)
  | exit (id : Nat)
  | scope (c : ACode)
  | label (l : Nat)
  | goto (l : Nat)
  | ret
  | bad
  deriving Inhabited

inductive ARes where
  | tmp (t : Nat)
  | cell (a : Nat) (n : Option (Option Nat))
  deriving Inhabited

structure AFun where
  params : Nat
  ntmps : Nat
  body : ACode
  res : List ARes
  deriving Inhabited


def cval : Nat → Value → AVal
  | _, .bool b => .bool b
  | _, .int k n => .int k n
  | _, .string s => .str s.data.toList
  | _, .pointer none => .nilptr
  | _, .slice none n c => if n = 0 ∧ c = 0 then .nilsl else .any
  | _, .nilFunc => .nilfn
  | _, .nilIface => .niliface
  | _, .map none => .nilmap
  | _, .func f a b => match f with | .func g => if a.size = 0 ∧ b.size = 0 then .fn (.func g) [] [] else .any | _ => .any
  | d + 1, .agg cs => .agg (cs.toList.map (cval d))
  | d + 1, .iface t v => .iface t (cval d v)
  | _, _ => .any

def gtab (s : String) : Option AVal :=
  if s == "thermion/gauge.values" then some (.agg [.int .i64 (-1000000000), .int .i64 1000000000])
  else if s == "thermion/curve.nothing" then some (.agg [.int .i64 1, .int .i64 0])
  else if s == "internal/strconv.uint64pow10" then some (.agg ((List.range 20).map fun i => .int .u64 (10 ^ i)))
  else if s == "thermion/gauge.binomials" then some (.agg (List.replicate 2601 .any))
  else none

def gvOf (P : Program) (g : Nat) : Option AVal := (P.globals[g]?).bind fun x => gtab x.name

def copd (P : Program) : Operand → AOpd
  | .tmp t => .tmp t
  | .const v => .const (cval 3 v)
  | .func f => .const (.fn (.func f) [] [])
  | .global g => .const (match gvOf P g with | some e => .rptr e 0 | none => .any)

section
variable (P : Program)

def isAggT (t : TypeId) : Option Bool :=
  match P.underlying t with
  | some (.struct _) => some true
  | some (.array _ _) => some true
  | some _ => some false
  | none => none

def sizeT (t : TypeId) : Option Nat := (P.info? t).map (·.size)
def bytesT (t : TypeId) : Option Nat := (P.info? t).map (·.bytes)
def zeroT (t : TypeId) : Option AVal := ((P.info? t).bind (·.zero)).map (cval 3)

def fieldsT (g : TypeId → Option (List ECell)) : Nat → List Field → Option (List ECell)
  | _, [] => some []
  | off, f :: fs => if f.offset = off ∧ f.name ≠ "_" then (match g f.type with
    | some m => if sizeT P f.type = some m.length then (fieldsT g (off + m.length) fs).map (m ++ ·) else none
    | none => none) else none

def eqCellsT : Nat → TypeId → Option (List ECell)
  | 0, _ => none
  | d + 1, t =>
    match P.underlying t with
    | some .bool => some [.bool]
    | some (.int _) => some [.int]
    | some .string => some [.str]
    | some (.struct fs) => if P.stoodInHeld t then none else fieldsT P (eqCellsT d) 0 fs.toList
    | _ => none

def mapT (t : TypeId) : Option (TypeId × TypeId × IntKind) :=
  match P.underlying t with
  | some (.map k e) => match P.underlying k with | some (.int kk) => some (k, e, kk) | _ => none
  | _ => none

def lkind (t : TypeId) : Option (Option Nat) :=
  match isAggT P t with
  | some true => (sizeT P t).map some
  | some false => some none
  | none => none

def extK (f : Operand) : Option XK :=
  match f with
  | .func g => match P.funcs[g]? with
    | some fn => if fn.body.isNone = true ∧ fn.origin = "" then
        (if fn.name = "internal/bytealg.CountString" then some .count else if fn.name = "internal/bytealg.IndexByteString" then some .index else none) else none
    | none => none
  | _ => none

def isByte : AVal → Bool
  | .int .u8 _ => true
  | _ => false

def isU8 (e : TypeId) : Bool := match P.underlying e with | some (.int .u8) => sizeT P e == some 1 | _ => false

def allocA (t : TypeId) (z : AVal) : AOp :=
  match P.underlying t, z with
  | some (.array _ e), .agg cs => if (isU8 P e && (cs.all isByte && decide (2 ≤ cs.length))) = true then .allocArr cs else .box (.const z)
  | _, _ => .box (.const z)

def cbin (op : BinOp) (t : TypeId) (x y : Operand) : AOp :=
  match P.underlying t, op with
  | some (.struct _), .eql => match eqCellsT P 4 t with | some l => if P.eqGuardType P.depth t then .bad else .eqAgg false l ((copd P) x) ((copd P) y) | none => .bad
  | some (.struct _), .neq => match eqCellsT P 4 t with | some l => if P.eqGuardType P.depth t then .bad else .eqAgg true l ((copd P) x) ((copd P) y) | none => .bad
  | some .bool, _ => .bin .bool op ((copd P) x) ((copd P) y)
  | some (.int _), _ | some .string, _ => .bin .plain op ((copd P) x) ((copd P) y)
  | some (.slice _), _ => .bin .slice op ((copd P) x) ((copd P) y)
  | some (.pointer e), _ => if (match P.info? e with | some i => i.size == 0 | none => true) = true then .bad else .bin .ptr op ((copd P) x) ((copd P) y)
  | some (.map ..), _ => .bin .map op ((copd P) x) ((copd P) y)
  | some (.func ..), _ => .bin .func op ((copd P) x) ((copd P) y)
  | some (.interface _), .eql => match y with | .const .nilIface => .isNilI false ((copd P) x) | _ => .bad
  | some (.interface _), .neq => match y with | .const .nilIface => .isNilI true ((copd P) x) | _ => .bad
  | _, _ => .bad

def methT (name : String) (t : TypeId) : Option FuncId :=
  match P.info? t with
  | some i => if i.methods.isEmpty then none else
    match i.methods.find? (·.name == name), P.underlying t with
    | some m, some u => if m.path.isEmpty then (match u, m.func with
      | .pointer _, _ => none
      | _, some (g, false) => some g
      | _, _ => none) else none
    | _, _ => none
  | none => none

def methTab (name : String) : List (Nat × Nat) := (List.range P.types.size).filterMap fun t => (methT P name t).map fun g => (t, g)

def tabAt : List (Nat × Nat) → Nat → Option Nat
  | [], _ => none
  | (t, g) :: l, x => if Nat.beq t x = true then some g else tabAt l x

def invokeOf : Callee → Option (Operand × String)
  | .invoke x name => some (x, name)
  | _ => none

def cop (o : Oper) : AOp :=
  match o.op with
  | .move x | .assign x => .move ((copd P) x)
  | .pick c a b => .pick ((copd P) c) ((copd P) a) ((copd P) b)
  | .alloc t => match zeroT P t with | some z => allocA P t z | none => .bad
  | .box _ x => .box ((copd P) x)
  | .build t parts =>
    match P.underlying t, zeroT P t with
    | some (.struct fs), some z =>
      match fs.toList.mapM (fun f => (P.info? f.type).map fun i => (f.offset, i.size)) with
      | some places => if z.isAgg && parts.toList.all (fun p => (places.toArray[p.1]?).isSome) then
          .build (acells z) (parts.toList.map fun p => (((places.toArray[p.1]?).getD (0, 0)).1, ((places.toArray[p.1]?).getD (0, 0)).2, (copd P) p.2)) else .bad
      | none => .bad
    | some (.array _ e), some z =>
      match sizeT P e with
      | some n => if z.isAgg then .build (acells z) (parts.toList.map fun p => (p.1 * n, n, (copd P) p.2)) else .bad
      | none => .bad
    | _, _ => .bad
  | .buildSlice t len parts =>
    match P.underlying t with
    | some (.slice e) => match sizeT P e, zeroT P e with
      | some sz, some z => if 0 < sz && (len * sz ≤ 2 ^ 20) && parts.toList.map (·.1) == List.range len && (acells z).length == sz then
        .buildSlice sz (parts.toList.map fun p => (copd P) p.2) else .bad
      | _, _ => .bad
    | _ => .bad
  | .load t a => match lkind P t with | some k => .load k ((copd P) a) | none => .bad
  | .store t a x => match sizeT P t with | some n => .store n ((copd P) a) ((copd P) x) | none => .bad
  | .nilCheck x => .nilCheck ((copd P) x)
  | .binOp op t x y _ => cbin P op t x y
  | .unOp .neg _ x => .neg ((copd P) x)
  | .unOp .not _ x => .not ((copd P) x)
  | .convert src dst x =>
    match P.underlying src, P.underlying dst with
    | some (.int _), some (.int k) => .toInt k ((copd P) x)
    | some .string, some .string => .strStr ((copd P) x)
    | some (.slice _), some (.slice e) => match src == dst, P.underlying e with | true, some (.int .u8) => .markStr ((copd P) x) | _, _ => .bad
    | some .string, some (.slice e) => match P.underlying e with | some (.int .u8) => .strToBytes ((copd P) x) | _ => .bad
    | some (.slice e), some .string => match P.underlying e with | some (.int .u8) => .bytesToStr ((copd P) x) | _ => .bad
    | _, _ => .bad
  | .makeFunc f a b => .makeFunc f (a.toList.map (copd P)) (b.toList.map (copd P))
  | .makeInterface t x => match P.underlying t with | none => .bad | some (.interface _) => .bad | some _ => .makeIface t ((copd P) x)
  | .makeSlice t l c =>
    match P.underlying t with
    | some (.slice e) => match zeroT P e, bytesT P e, sizeT P e with
      | some z, some b, some n => if n = (acells z).length && 0 < n then .makeSlice z b ((copd P) l) ((copd P) c) else .bad
      | _, _, _ => .bad
    | _ => .bad
  | .slice t x lo hi mx =>
    match mx, P.underlying t with
    | none, some .string => .slice true 1 ((copd P) x) (lo.map (copd P)) (hi.map (copd P))
    | none, some (.slice e) => match sizeT P e with | some n => .slice false n ((copd P) x) (lo.map (copd P)) (hi.map (copd P)) | none => .bad
    | none, some (.array n e) => if isU8 P e = true then .sliceArrB n ((copd P) x) (lo.map (copd P)) (hi.map (copd P)) else .bad
    | some m, some (.slice e) => match hi, sizeT P e with | some h, some n => .slice3 n ((copd P) x) (lo.map (copd P)) ((copd P) h) ((copd P) m) | _, _ => .bad
    | _, _ => .bad
  | .fieldAddr t x i =>
    match P.underlying t with
    | some (.struct fs) => match fs[i]? with
      | some f => match sizeT P f.type with | some n => if n = 0 then .bad else .fieldAddr f.offset ((copd P) x) | none => .bad
      | none => .bad
    | _ => .bad
  | .field t x i =>
    match P.underlying t with
    | some (.struct fs) => match fs[i]? with
      | some f => match lkind P f.type with | some k => .field k f.offset ((copd P) x) | none => .bad
      | none => .bad
    | _ => .bad
  | .indexAddr t x i =>
    match P.underlying t with
    | some (.slice e) => match sizeT P e with | some n => .indexAddr n ((copd P) x) ((copd P) i) | none => .bad
    | some (.array n e) => match sizeT P e with | some m => if isU8 P e = true then .indexArrB n ((copd P) x) ((copd P) i) else .indexArr n m ((copd P) x) ((copd P) i) | none => .bad
    | _ => .bad
  | .index t x i =>
    match P.underlying t with
    | some .string => .indexStr ((copd P) x) ((copd P) i)
    | some (.array n e) => match sizeT P e, isAggT P e with | some m, some g => .indexAgg n m g ((copd P) x) ((copd P) i) | _, _ => .bad
    | _ => .bad
  | .extract x i => .extract ((copd P) x) i
  | .makeMap t r => match mapT P t with | some (_, _, kk) => (match r with | none => .makeMap kk | some _ => .bad) | none => .bad
  | .lookup t x i ok => match mapT P t with | some (_, e, kk) => (match zeroT P e with | some z => .lookup kk z ok ((copd P) x) ((copd P) i) | none => .bad) | none => .bad
  | .mapUpdate t m k x => match mapT P t with | some (_, _, kk) => .mapUpdate kk ((copd P) m) ((copd P) k) ((copd P) x) | none => .bad
  | .insert t m k x => match mapT P t with | some (_, _, kk) => .mapUpdate kk ((copd P) m) ((copd P) k) ((copd P) x) | none => .bad
  | .range t x => match P.underlying t with | some .string => .range ((copd P) x) | _ => .bad
  | .next x true => .nextStr ((copd P) x)
  | .call c => match invokeOf c.callee with
    | some (x, name) => .callM (methTab P name) ((copd P) x) (c.args.toList.map (copd P))
    | none => match c.callee with
    | .value f => match extK P f, c.args.toList with
      | some q, [x, y] => .ext q ((copd P) x) ((copd P) y)
      | _, _ => .call ((copd P) f) (c.args.toList.map (copd P))
    | .builtin .len =>
      match (c.argTypes[0]?).bind P.underlying, c.args.toList with
      | some .string, [x] => .len true ((copd P) x)
      | some (.slice _), [x] => .len false ((copd P) x)
      | some (.array n _), [_] => .lenArr n
      | some (.pointer t), [_] => match P.underlying t with | some (.array n _) => .lenArr n | _ => .bad
      | _, _ => .bad
    | .builtin .min => .minmax false (c.args.toList.map (copd P))
    | .builtin .max => .minmax true (c.args.toList.map (copd P))
    | .builtin .append =>
      match (c.argTypes[0]?).bind P.underlying, (c.argTypes[1]?).bind P.underlying, c.args.toList with
      | some (.slice e), some (.slice _), [s, x] => match sizeT P e, bytesT P e, isAggT P e with
        | some n, some b, some g => if 0 < n && 0 < b && (match zeroT P e with | some z => (acells z).length == n && !z.isAny | none => false) then .append n b g ((copd P) s) ((copd P) x) else .bad
        | _, _, _ => .bad
      | some (.slice e), some .string, [s, x] => match P.underlying e, bytesT P e, sizeT P e with | some (.int .u8), some 1, some 1 => if (match zeroT P e with | some z => (acells z).length == 1 && !z.isAny | none => false) then .appendStr ((copd P) s) ((copd P) x) else .bad | _, _, _ => .bad
      | some (.slice e), some (.int _), [s, x] => match sizeT P e, bytesT P e, zeroT P e with
        | some n, some b, some z => if 0 < n && 0 < b && (acells z).length == n && !z.isAny then .appendN n b z ((copd P) s) ((copd P) x) else .bad
        | _, _, _ => .bad
      | _, _, _ => .bad
    | .builtin .cap =>
      match (c.argTypes[0]?).bind P.underlying, c.args.toList with
      | some (.slice _), [x] => .cap ((copd P) x)
      | _, _ => .bad
    | .builtin .copy =>
      match (c.argTypes[0]?).bind P.underlying, c.args.toList with
      | some (.slice e), [d, s] => match sizeT P e with | some n => .copy n ((copd P) d) ((copd P) s) | _ => .bad
      | _, _ => .bad
    | _ => .bad
  | _ => .bad

def closures (ops : List Oper) : List (List Nat) :=
  ops.foldl (fun acc o => acc ++ [((o.after.toList.filter (Region.binds .any)).flatMap fun e => e.on :: acc.getD e.on []).eraseDups]) []

def edgesOk (i : Nat) (o : Oper) : Bool := (o.after.toList.filter (Region.binds .any)).all fun e => decide (e.on < i)

def cguard (ops : Array Oper) (o : Oper) : Option (Option (Nat × Bool)) :=
  match o.guard with
  | none => some none
  | some (j, b) => match (ops[j]?).bind (·.dst) with
    | some t => some (some (t, b))
    | none => none

def coper (ops : Array Oper) (draw : Bool) (i : Nat) (o : Oper) : AOper :=
  { dst := o.dst, op := if (cguard ops o).isSome then cop P o else .bad, guard := (cguard ops o).getD none,
    free := if draw then (if edgesOk i o then (let cl := (closures ops.toList).getD i []; (List.range i).filter fun j => !cl.contains j) else [i]) else [] }

def ccode : Code → ACode
  | .skip => .skip
  | .region _ ops draw => .reg (ops.toList.zipIdx.map fun (o, i) => coper P ops draw i o) draw
  | .seq a b => .seq (ccode a) (ccode b)
  | .cond c a b => .cond ((copd P) c) (ccode a) (ccode b)
  | .block id c => .block id (ccode c)
  | .loop c => .loop (ccode c)
  | .rangeFunc g ps a b => .rng ((copd P) g) ps.toList (ccode a) (ccode b)
  | .exit id => .exit id
  | .scope c => .scope (ccode c)
  | .label l => .label l
  | .goto l => .goto l
  | .ret => .ret
  | .refuse _ => .bad

def cfun (f : Func) : AFun :=
  { params := f.params.size + f.nfree, ntmps := f.ntmps,
    body := match f.body with | some c => ccode P c | none => .bad,
    res := f.results.toList.map fun | .tmp t => .tmp t | .cell a t => .cell a (lkind P t) }
end
end Go.Sx
/- Rows and heaps, and what it means that a world holds them. -/
namespace Go.Sx

inductive Row where
  | cells (g : Bool) (sz : Nat) (es : List AVal)
  | loop (ρ : List AVal) (ps : List Nat) (asg body : ACode) (d : Nat) (st : LoopState) (pend : Option ACode)
  | dfr
  | siter (s : List UInt8) (pos : Nat)
  | mapr (kk : IntKind) (ks : List Int) (vs : List AVal)
  | dead
  deriving Inhabited

abbrev Heap := List (Option Row)

structure Place where
  blk : Nat
  off : Nat
  sz : Nat
  len : Nat
  size : Nat
  grown : Bool
  vec : Bool

structure Ctx where
  keep : Nat → Prop
  ro : Nat → Prop
  w0 : World

abbrev Mu := Nat → Option Place

def Place.live (p : Place) (l : Nat) : Prop := p.grown = false ∨ l = p.len

inductive VR (G : Ctx) (μ : Mu) : AVal → Value → Prop where
  | any (c : Value) : VR G μ .any c
  | bool (b : Bool) : VR G μ (.bool b) (.bool b)
  | int (k : IntKind) (n : Int) : VR G μ (.int k n) (.int k n)
  | str (l : List UInt8) (s : ByteArray) (h : s.data.toList = l) : VR G μ (.str l) (.string s)
  | ptr (r i off L : Nat) (p : Place) (c : Value) (hp : μ r = some p) (hL : L ≤ p.len) (ho : c.oneCell' = true)
      (hc : p.live L → c = .pointer (some ⟨p.blk, p.off + i * p.sz + off, none⟩)) : VR G μ (.ptr r i off L) c
  | rptr (e : AVal) (off b o : Nat) (f : Nat → Value) (hb : G.ro b)
      (hf : ∀ j, j < (acells e).length → G.w0.cell? ⟨b, o + j, none⟩ = some (f j))
      (hv : ∀ j, j < (acells e).length → VR G μ ((acells e).getD j .any) (f j)) : VR G μ (.rptr e off) (.pointer (some ⟨b, o + off, none⟩))
  | nilptr : VR G μ .nilptr (.pointer none)
  | sl (r off len : Nat) (p : Place) (c : Value) (hp : μ r = some p) (hvec : p.vec = true) (hL : off + len ≤ p.len) (ho : c.oneCell' = true)
      (hc : p.live (off + len) → ∃ cap, c = .slice (some ⟨p.blk, p.off + off * p.sz, none⟩) len cap ∧ len ≤ cap ∧ p.off + (off + cap) * p.sz ≤ p.size) : VR G μ (.sl r off len) c
  | view (es : List AVal) (b o sz cap : Nat) (f : Nat → Nat → Value) (hb : G.ro b) (hcap : es.length ≤ cap)
      (hs : ∀ i, i < es.length → (acells (es.getD i .any)).length = sz)
      (hf : ∀ i j, i < es.length → j < sz → G.w0.cell? ⟨b, o + i * sz + j, none⟩ = some (f i j))
      (hv : ∀ i j, i < es.length → j < sz → VR G μ ((acells (es.getD i .any)).getD j .any) (f i j)) : VR G μ (.view es) (.slice (some ⟨b, o, none⟩) es.length cap)
  | viewnil (a : Option Addr) (cap : Nat) : VR G μ (.view []) (.slice a 0 cap)
  | nilsl : VR G μ .nilsl (.slice none 0 0)
  | fn (f : Fn) (a b : List AVal) (a' b' : Array Value) (ha : a.length = a'.size) (hb : b.length = b'.size)
      (va : ∀ i, i < a.length → VR G μ (a.getD i .any) (a'.getD i undef)) (vb : ∀ i, i < b.length → VR G μ (b.getD i .any) (b'.getD i undef)) : VR G μ (.fn f a b) (.func f a' b')
  | yfn (r : Nat) (p : Place) (hp : μ r = some p) (hv : p.vec = false) : VR G μ (.yfn r) (.func (.yield p.blk) #[] #[])
  | nilfn : VR G μ .nilfn .nilFunc
  | iface (t : TypeId) (v : AVal) (c : Value) (h : VR G μ v c) : VR G μ (.iface t v) (.iface t c)
  | niliface : VR G μ .niliface .nilIface
  | agg (cs : List AVal) (vs : Array Value) (hl : cs.length = vs.size) (hv : ∀ i, i < cs.length → VR G μ (cs.getD i .any) (vs.getD i undef)) : VR G μ (.agg cs) (.agg vs)
  | tup (cs : List AVal) (vs : Array Value) (hl : cs.length = vs.size) (hv : ∀ i, i < cs.length → VR G μ (cs.getD i .any) (vs.getD i undef)) : VR G μ (.tup cs) (.tuple vs)
  | mp (r : Nat) (p : Place) (hp : μ r = some p) (hv : p.vec = false) : VR G μ (.mp r) (.map (some p.blk))
  | nilmap : VR G μ .nilmap (.map none)

def Place.le (p p' : Place) : Prop := p' = p ∨ (p.vec = true ∧ p'.vec = true ∧ p'.grown = true ∧ p.len < p'.len)
def Mu.le (μ μ' : Mu) : Prop := ∀ r p, μ r = some p → ∃ p', μ' r = some p' ∧ p.le p'

theorem Mu.le_refl (μ : Mu) : Mu.le μ μ := fun _ p h => ⟨p, h, .inl rfl⟩
theorem Mu.le_trans {a b c : Mu} (h : a.le b) (h' : b.le c) : a.le c := fun r p hp => by
  obtain ⟨q, hq, hpq⟩ := h r p hp
  obtain ⟨s, hs, hqs⟩ := h' r q hq
  refine ⟨s, hs, ?_⟩
  rcases hpq with rfl | ⟨h1, h0, h2, h3⟩
  · exact hqs
  · rcases hqs with rfl | ⟨h4, h7, h5, h6⟩
    · exact .inr ⟨h1, h0, h2, h3⟩
    · exact .inr ⟨h1, h7, h5, by omega⟩

theorem VR.mono {G : Ctx} {μ μ' : Mu} (h : μ.le μ') {v : AVal} {c : Value} (hv : VR G μ v c) : VR G μ' v c := by
  induction hv with
  | any c => exact .any c
  | bool b => exact .bool b
  | int k n => exact .int k n
  | str l s h => exact .str l s h
  | ptr r i off L p c hp hL ho hc =>
    obtain ⟨p', hp', rfl | ⟨h1, h0, h2, h3⟩⟩ := h r p hp
    · exact .ptr r i off L _ c hp' hL ho hc
    · refine .ptr r i off L _ c hp' (by omega) ho fun hl => ?_
      rcases hl with hl | hl
      · simp [h2] at hl
      · omega
  | rptr e off b o f hb hf _ ih => exact .rptr e off b o f hb hf ih
  | nilptr => exact .nilptr
  | sl r off len p c hp hvec hL ho hc =>
    obtain ⟨p', hp', rfl | ⟨h1, h0, h2, h3⟩⟩ := h r p hp
    · exact .sl r off len _ c hp' hvec hL ho hc
    · refine .sl r off len _ c hp' h0 (by omega) ho fun hl => ?_
      rcases hl with hl | hl
      · simp [h2] at hl
      · omega
  | view es b o sz cap f hb hcap hs hf _ ih => exact .view es b o sz cap f hb hcap hs hf ih
  | viewnil a cap => exact .viewnil a cap
  | nilsl => exact .nilsl
  | fn f a b a' b' ha hb _ _ iha ihb => exact .fn f a b a' b' ha hb iha ihb
  | yfn r p hp hv =>
    obtain ⟨p', hp', rfl | ⟨h1, h0, h2, h3⟩⟩ := h r p hp
    · exact .yfn r _ hp' hv
    · simp [hv] at h1
  | nilfn => exact .nilfn
  | iface t v c _ ih => exact .iface t v c ih
  | niliface => exact .niliface
  | agg cs vs hl _ ih => exact .agg cs vs hl ih
  | tup cs vs hl _ ih => exact .tup cs vs hl ih
  | mp r p hp hv =>
    obtain ⟨p', hp', rfl | ⟨h1, h0, h2, h3⟩⟩ := h r p hp
    · exact .mp r _ hp' hv
    · simp [hv] at h1
  | nilmap => exact .nilmap

theorem VR.ctx {G G' : Ctx} {μ : Mu} (h : ∀ b, G.ro b → G'.ro b ∧ G'.w0.heap[b]? = G.w0.heap[b]?) {v : AVal} {c : Value} (hv : VR G μ v c) : VR G' μ v c := by
  have hcell : ∀ b o, G.ro b → G'.w0.cell? ⟨b, o, none⟩ = G.w0.cell? ⟨b, o, none⟩ := fun b o hb => by
    simp only [World.cell?, (h b hb).2]
  induction hv with
  | any c => exact .any c
  | bool b => exact .bool b
  | int k n => exact .int k n
  | str l s h => exact .str l s h
  | ptr r i off L p c hp hL ho hc => exact .ptr r i off L p c hp hL ho hc
  | rptr e off b o f hb hf _ ih => exact .rptr e off b o f (h b hb).1 (fun j hj => by rw [hcell _ _ hb]; exact hf j hj) ih
  | nilptr => exact .nilptr
  | sl r off len p c hp hvec hL ho hc => exact .sl r off len p c hp hvec hL ho hc
  | view es b o sz cap f hb hcap hs hf _ ih => exact .view es b o sz cap f (h b hb).1 hcap hs (fun i j hi hj => by rw [hcell _ _ hb]; exact hf i j hi hj) ih
  | viewnil a cap => exact .viewnil a cap
  | nilsl => exact .nilsl
  | fn f a b a' b' ha hb _ _ iha ihb => exact .fn f a b a' b' ha hb iha ihb
  | yfn r p hp hv => exact .yfn r p hp hv
  | nilfn => exact .nilfn
  | iface t v c _ ih => exact .iface t v c ih
  | niliface => exact .niliface
  | agg cs vs hl _ ih => exact .agg cs vs hl ih
  | tup cs vs hl _ ih => exact .tup cs vs hl ih
  | mp r p hp hv => exact .mp r p hp hv
  | nilmap => exact .nilmap

theorem VR.cells {G : Ctx} {μ : Mu} {v : AVal} {c : Value} (h : VR G μ v c) (ha : v ≠ .any) :
    (acells v).length = c.cells.size ∧ ∀ i, i < (acells v).length → VR G μ ((acells v).getD i .any) (c.cells.getD i undef) := by
  have one : ∀ (v : AVal) (c : Value), acells v = [v] → c.cells = #[c] → VR G μ v c → (acells v).length = c.cells.size ∧ ∀ i, i < (acells v).length → VR G μ ((acells v).getD i .any) (c.cells.getD i undef) := by
    intro v c h1 h2 h
    rw [h1, h2]
    refine ⟨rfl, fun i hi => ?_⟩
    simp only [List.length_cons, List.length_nil] at hi
    obtain rfl : i = 0 := by omega
    simpa using h
  have h0 := h
  cases h with
  | any => exact absurd rfl ha
  | agg cs vs hl hv => exact ⟨hl, hv⟩
  | ptr r i off L p c hp hL ho hc => exact one _ _ rfl (by cases c <;> simp_all [Value.cells, Value.oneCell']) h0
  | sl r off len p c hp hvec hL ho hc => exact one _ _ rfl (by cases c <;> simp_all [Value.cells, Value.oneCell']) h0
  | _ => exact one _ _ rfl rfl h0

def AVal.one : AVal → Bool
  | .any | .agg _ | .tup _ => false
  | _ => true

theorem VR.one {G : Ctx} {μ : Mu} {v : AVal} {c : Value} (h : VR G μ v c) (ho : v.one = true) : c.oneCell' = true := by
  cases h <;> first | rfl | assumption | simp [AVal.one] at ho

def Mark (n : Nat) (v : Bool) : Type := {fr : Nat × Nat // (fr.1 = fr.2 ∨ n ≤ fr.1) ∧ v = true}
def Mark.no (n : Nat) : Mark n true := ⟨(0, 0), .inl rfl, rfl⟩
theorem Mark.out {n : Nat} {v : Bool} (m : Mark n v) {j : Nat} (h : j < n) : ¬ (m.1.1 ≤ j ∧ j < m.1.2) := by
  have := m.2.1
  omega
def RowIs (P : Program) (G : Ctx) (μ : Mu) (p : Place) (hp : Array Obj) : Row → Prop
  | .cells g sz es => p.sz = sz ∧ p.len = es.length ∧ (g = false → p.grown = false) ∧ ∃ (C : Array Value) (ty : TypeId × Mark p.size p.vec), hp[p.blk]? = some (.cells C ty.1 ty.2.1) ∧ C.size = p.size ∧
      ∀ i, i < es.length → (acells (es.getD i .any)).length = sz ∧ ∀ j, j < sz → ∃ c, C[p.off + i * sz + j]? = some c ∧ VR G μ ((acells (es.getD i .any)).getD j .any) c
  | .loop ρ ps asg body d st pend => p.vec = false ∧ ∃ r : Loop, hp[p.blk]? = some (.loop r) ∧ r.state = st ∧ r.pending.map (ccode P) = pend ∧ r.params.toList = ps ∧
      ccode P r.assign = asg ∧ ccode P r.body = body ∧ ρ.length = r.tmps.size ∧ (∀ t, t < ρ.length → VR G μ (ρ.getD t .any) (r.tmps.getD t undef)) ∧ ∃ pd, μ d = some pd ∧ pd.vec = false ∧ r.defers = pd.blk
  | .dfr => p.vec = false ∧ hp[p.blk]? = some (.deferred (some []))
  | .siter s pos => p.vec = false ∧ ∃ b : ByteArray, b.data.toList = s ∧ hp[p.blk]? = some (.stringIter b pos)
  | .mapr kk ks vs => p.vec = false ∧ vs.length = ks.length ∧ ∃ (es : Array MapEntry) (clock : Nat), hp[p.blk]? = some (.map es clock) ∧ es.size = ks.length ∧
      ∀ i, i < ks.length → ∃ e, es[i]? = some e ∧ e.key = .int kk (ks.getD i 0) ∧ VR G μ (vs.getD i .any) e.val
  | .dead => True

def GlobOK (P : Program) (G : Ctx) : Prop := ∀ g e, gvOf P g = some e → G.ro g ∧ ∀ j, j < (acells e).length → ∃ c, G.w0.cell? ⟨g, j, none⟩ = some c ∧ ∀ μ, VR G μ ((acells e).getD j .any) c

theorem GlobOK.ctx {P : Program} {G G' : Ctx} (hg : GlobOK P G) (h : ∀ b, G.ro b → G'.ro b ∧ G'.w0.heap[b]? = G.w0.heap[b]?) : GlobOK P G' := fun g e he => by
  obtain ⟨h1, h2⟩ := hg g e he
  refine ⟨(h g h1).1, fun j hj => ?_⟩
  obtain ⟨c, h3, h4⟩ := h2 j hj
  exact ⟨c, by rw [← h3]; simp only [World.cell?, (h g h1).2], fun μ => (h4 μ).ctx h⟩

def Calm (w w' : World) : Prop := w'.os = w.os ∧ w'.tape = w.tape ∧ w'.output = w.output
theorem Calm.refl (w : World) : Calm w w := ⟨rfl, rfl, rfl⟩
theorem Calm.trans {a b c : World} (h : Calm a b) (h' : Calm b c) : Calm a c := ⟨h'.1.trans h.1, h'.2.1.trans h.2.1, h'.2.2.trans h.2.2⟩

structure HR (P : Program) (G : Ctx) (μ : Mu) (H : Heap) (w : World) : Prop where
  row : ∀ r x, H[r]? = some (some x) → x ≠ .dead → ∃ p, μ r = some p ∧ ¬ G.keep p.blk ∧ p.blk < w.heap.size ∧ RowIs P G μ p w.heap x
  apart : ∀ r r' x x' p p', H[r]? = some (some x) → H[r']? = some (some x') → μ r = some p → μ r' = some p' → r ≠ r' → x ≠ .dead → x' ≠ .dead → p.blk ≠ p'.blk
  kept : ∀ b, G.keep b → b < w.heap.size ∧ w.heap[b]? = G.w0.heap[b]?
  ro : ∀ b, G.ro b → G.keep b
  calm : Calm G.w0 w
  named : ∀ r, H[r]? = some (some .dead) → (μ r).isSome = true
  glob : GlobOK P G

theorem HR.nm {P : Program} {G : Ctx} {μ : Mu} {H : Heap} {w : World} (h : HR P G μ H w) {r : Nat} {x : Row} (hx : H[r]? = some (some x)) : (μ r).isSome = true := by
  cases x with
  | dead => exact h.named r hx
  | _ => obtain ⟨p, h1, _⟩ := h.row r _ hx nofun; rw [h1]; rfl
theorem RowIs.mono {P : Program} {G : Ctx} {μ μ' : Mu} {p : Place} {hp hp' : Array Obj} {x : Row} (h : RowIs P G μ p hp x) (hμ : μ.le μ') (hb : hp'[p.blk]? = hp[p.blk]?) : RowIs P G μ' p hp' x := by
  cases x with
  | cells g sz es =>
    obtain ⟨h1, h2, hg, C, ty, h3, h4, h5⟩ := h
    refine ⟨h1, h2, hg, C, ty, by rw [hb]; exact h3, h4, fun i hi => ⟨(h5 i hi).1, fun j hj => ?_⟩⟩
    obtain ⟨c, hc, hv⟩ := (h5 i hi).2 j hj
    exact ⟨c, hc, hv.mono hμ⟩
  | loop ρ ps asg body d st pend =>
    obtain ⟨h0, r, h1, h2, h3, h4, h5, h6, h7, h8, pd, h9, h10, h11⟩ := h
    obtain ⟨pd', hd', rfl | ⟨k1, _, _⟩⟩ := hμ d pd h9
    · exact ⟨h0, r, by rw [hb]; exact h1, h2, h3, h4, h5, h6, h7, fun t ht => (h8 t ht).mono hμ, _, hd', h10, h11⟩
    · simp [h10] at k1
  | dfr => exact ⟨h.1, by rw [hb]; exact h.2⟩
  | siter s pos =>
    obtain ⟨h0, b, h1, h2⟩ := h
    exact ⟨h0, b, h1, by rw [hb]; exact h2⟩
  | mapr kk ks vs =>
    obtain ⟨h0, hl, es, ck, h1, h2, h3⟩ := h
    exact ⟨h0, hl, es, ck, by rw [hb]; exact h1, h2, fun i hi => by obtain ⟨e, k1, k2, k3⟩ := h3 i hi; exact ⟨e, k1, k2, k3.mono hμ⟩⟩
  | dead => trivial

theorem HR.more {P : Program} {G : Ctx} {μ : Mu} {H : Heap} {w w' : World} (h : HR P G μ H w) (hcm : Calm w w') (hs : w.heap.size ≤ w'.heap.size) (hb : ∀ b, b < w.heap.size → w'.heap[b]? = w.heap[b]?) : HR P G μ H w' where
  named := h.named
  glob := h.glob
  row r x hx hd := by
    obtain ⟨p, h1, h2, h3, h4⟩ := h.row r x hx hd
    exact ⟨p, h1, h2, by omega, h4.mono (Mu.le_refl _) (hb _ h3)⟩
  apart := h.apart
  kept b hk := ⟨by have := (h.kept b hk).1; omega, by rw [hb b (h.kept b hk).1]; exact (h.kept b hk).2⟩
  ro := h.ro
  calm := h.calm.trans hcm

def Heap.put (H : Heap) (r : Nat) (x : Row) : Heap :=
  if r < H.length then H.set r (some x) else H ++ (List.replicate (r - H.length) none ++ [some x])

theorem Heap.len_put (H : Heap) (r : Nat) (x : Row) : (H.put r x).length = max H.length (r + 1) := by
  unfold Heap.put
  split
  · simp; omega
  · simp; omega

theorem Heap.put_end (H : Heap) (x : Row) : H.put H.length x = H ++ [some x] := by simp [Heap.put]

theorem Heap.put_same (H : Heap) (r : Nat) (x : Row) : (H.put r x)[r]? = some (some x) := by
  unfold Heap.put
  split
  · simp [*]
  · rename_i h
    rw [List.getElem?_append_right (by omega), List.getElem?_append_right (by simp)]
    simp

theorem Heap.put_other (H : Heap) {r s : Nat} (x : Row) (h : s ≠ r) (y : Row) : (H.put r x)[s]? = some (some y) ↔ H[s]? = some (some y) := by
  unfold Heap.put
  split
  · rw [List.getElem?_set_ne (by omega)]
  · rename_i hr
    by_cases hs : s < H.length
    · rw [List.getElem?_append_left hs]
    · rw [List.getElem?_append_right (by omega)]
      have h1 : H[s]? = none := by simp; omega
      rw [h1]
      by_cases hs2 : s - H.length < r - H.length
      · rw [List.getElem?_append_left (by simpa using hs2)]
        simp [List.getElem?_replicate, hs2]
      · rw [List.getElem?_append_right (by simp; omega)]
        simp only [List.length_replicate]
        have : s - H.length - (r - H.length) ≠ 0 := by omega
        rw [List.getElem?_cons]
        simp [this]

theorem HR.put {P : Program} {G : Ctx} {μ μ' : Mu} {H : Heap} {w w' : World} {r : Nat} {x : Row} {p : Place} (h : HR P G μ H w) (hcm : Calm w w') (hμ : μ.le μ')
    (hother : ∀ s, s ≠ r → μ' s = μ s) (hp1 : μ' r = some p) (hs : w.heap.size ≤ w'.heap.size) (hpb : p.blk < w'.heap.size) (hnk : ¬ G.keep p.blk)
    (hb : ∀ b, b < w.heap.size → b ≠ p.blk → w'.heap[b]? = w.heap[b]?)
    (hap : ∀ s y q, s ≠ r → H[s]? = some (some y) → μ s = some q → y ≠ .dead → q.blk ≠ p.blk)
    (hx : RowIs P G μ' p w'.heap x) : HR P G μ' (H.put r x) w' where
  glob := h.glob
  named s hs := by
    by_cases hsr : s = r
    · subst hsr; rw [hp1]; rfl
    · rw [Heap.put_other H x hsr] at hs
      rw [hother s hsr]; exact h.named s hs
  row s y hy hnd := by
    by_cases hsr : s = r
    · subst hsr
      rw [Heap.put_same] at hy
      cases hy
      exact ⟨p, hp1, hnk, hpb, hx⟩
    · rw [Heap.put_other H x hsr] at hy
      obtain ⟨q, h1, h2, h3, h4⟩ := h.row s y hy hnd
      exact ⟨q, by rw [hother s hsr]; exact h1, h2, by omega, h4.mono hμ (hb _ h3 (hap s y q hsr hy h1 hnd))⟩
  apart s s' y y' q q' hy hy' hq hq' hne hn1 hn2 := by
    by_cases hsr : s = r
    · subst hsr
      have hs' : s' ≠ s := fun h => hne h.symm
      rw [Heap.put_other H x hs'] at hy'
      rw [hp1] at hq; cases hq
      rw [hother s' hs'] at hq'
      exact fun h => hap s' y' q' hs' hy' hq' hn2 h.symm
    · rw [Heap.put_other H x hsr] at hy
      rw [hother s hsr] at hq
      by_cases hsr' : s' = r
      · subst hsr'
        rw [hp1] at hq'; cases hq'
        exact hap s y q hsr hy hq hn1
      · rw [Heap.put_other H x hsr'] at hy'
        rw [hother s' hsr'] at hq'
        exact h.apart s s' y y' q q' hy hy' hq hq' hne hn1 hn2
  kept b hk := by
    obtain ⟨h1, h2⟩ := h.kept b hk
    refine ⟨by omega, ?_⟩
    rw [hb b h1 (fun e => hnk (e ▸ hk))]; exact h2
  ro := h.ro
  calm := h.calm.trans hcm
end Go.Sx
/- What one operation makes of abstract values, rows and a heap. -/
namespace Go.Sx

def tget : List AVal → Nat → AVal
  | [], _ => .any
  | v :: _, 0 => v
  | _ :: ρ, n + 1 => tget ρ n

theorem tget_eq : ∀ (ρ : List AVal) (t : Nat), tget ρ t = ρ.getD t .any
  | [], _ => rfl
  | _ :: _, 0 => rfl
  | _ :: ρ, n + 1 => by rw [List.getD_cons_succ]; exact tget_eq ρ n

def opd (ρ : List AVal) : AOpd → AVal
  | .tmp t => tget ρ t
  | .const v => v

def Heap.cellsAt (H : Heap) (r : Nat) : Option (Bool × Nat × List AVal) :=
  match H[r]? with
  | some (some (.cells g sz es)) => some (g, sz, es)
  | _ => none

def Heap.mapAt (H : Heap) (r : Nat) : Option (IntKind × List Int × List AVal) :=
  match H[r]? with
  | some (some (.mapr kk ks vs)) => some (kk, ks, vs)
  | _ => none

def mfind (m : Int) : List Int → Nat → Option Nat
  | [], _ => none
  | k :: ks, i => if m = k then some i else mfind m ks (i + 1)
def lkV (ok : Bool) (v : AVal) (b : Bool) : AVal := if ok = true then .tup [v, .bool b] else v

def partOf (cs : List AVal) (off : Nat) : Option Nat → Option AVal
  | none => cs[off]?
  | some n => if off + n ≤ cs.length then some (.agg ((cs.drop off).take n)) else none

def setPart (e : AVal) (off : Nat) (vs : List AVal) : Option AVal :=
  match e with
  | .agg cs => if off + vs.length ≤ cs.length then some (.agg (cs.take off ++ vs ++ cs.drop (off + vs.length))) else none
  | _ => match off, vs with | 0, [v] => some v | _, _ => none

def elemsOf (H : Heap) : AVal → Option (List AVal)
  | .sl r off len => match H.cellsAt r with
    | some (g, _, es) => if (g = false ∨ off + len = es.length) ∧ off + len ≤ es.length then some ((es.drop off).take len) else none
    | none => none
  | .view es => some es
  | .nilsl => some []
  | _ => none

def bytesOf : List AVal → Option (List UInt8)
  | [] => some []
  | .int .u8 b :: r => (bytesOf r).map (UInt8.ofNat b.toNat :: ·)
  | _ => none

def cntB (c : UInt8) : List UInt8 → Int → Int
  | [], n => n
  | b :: l, n => cntB c l (if b == c then n + 1 else n)
def idxB (c : UInt8) : List UInt8 → Int → Int
  | [], _ => -1
  | b :: l, i => if b == c then i else idxB c l (i + 1)

def extV : XK → AVal → AVal → Option AVal
  | .count, .str s, .int .u8 c => some (.int .i64 (cntB c.toNat.toUInt8 s 0))
  | .index, .str s, .int .u8 c => some (.int .i64 (idxB c.toNat.toUInt8 s 0))
  | _, _, _ => none

def byteV (b : UInt8) : AVal := .int .u8 b.toNat

def lenOf : AVal → Option Nat
  | .sl _ _ len => some len
  | .view es => some es.length
  | .nilsl => some 0
  | .str s => some s.length
  | _ => none

def isStr : AVal → Bool
  | .str _ => true
  | _ => false

def lenOfIn (H : Heap) : AVal → Option Nat
  | .sl r off len => match H.cellsAt r with | some (g, _, es) => if g = false ∨ off + len = es.length then some len else none | none => none
  | .view es => some es.length
  | .nilsl => some 0
  | .str s => some s.length
  | _ => none

def intOf : AVal → Option Int
  | .int _ n => some n
  | _ => none

def isNil : AVal → Option Bool
  | .nilptr | .nilsl | .nilfn | .niliface | .nilmap => some true
  | .rptr .. | .fn .. | .yfn .. | .iface .. | .mp .. => some false
  | _ => none

def isNilIn (H : Heap) : AVal → Option Bool
  | .sl r off len => match H.cellsAt r with | some (g, _, es) => if g = false ∨ off + len = es.length then some false else none | none => none
  | .ptr r _ _ L => match H.cellsAt r with | some (g, _, es) => if g = false ∨ L = es.length then some false else none | none => none
  | v => isNil v

def tkOf : AVal → TK
  | .sl .. | .nilsl => .slice
  | .ptr .. | .rptr .. | .nilptr => .ptr
  | .fn .. | .yfn .. | .nilfn => .func
  | .mp .. | .nilmap => .map
  | _ => .plain

def isNilK (H : Heap) (tk : TK) (x : AVal) : Option Bool := if tkOf x = tk then isNilIn H x else none

def bitsOf (op : BinOp) (k : IntKind) (x y : Int) : Option Int :=
  let a := BitVec.ofInt k.bits x
  let b := BitVec.ofInt k.bits y
  match op with
  | .and => some (k.wrap (a &&& b).toNat)
  | .or => some (k.wrap (a ||| b).toNat)
  | .xor => some (k.wrap (a ^^^ b).toNat)
  | .andNot => some (k.wrap (a &&& ~~~b).toNat)
  | _ => none

def abinInt (op : BinOp) (k : IntKind) (a : Int) (k' : IntKind) (b : Int) : Option AVal :=
  match op with
  | .shl => if b < 0 then none else some (.int k (k.wrap (a * 2 ^ (min b.toNat k.bits))))
  | .shr => if b < 0 then none else some (.int k (a.fdiv (2 ^ (min b.toNat k.bits))))
  | .add => if k = k' then some (.int k (k.wrap (a + b))) else none
  | .sub => if k = k' then some (.int k (k.wrap (a - b))) else none
  | .mul => if k = k' then some (.int k (k.wrap (a * b))) else none
  | .quo => if k = k' ∧ b ≠ 0 then some (.int k (k.wrap (a.tdiv b))) else none
  | .rem => if k = k' ∧ b ≠ 0 then some (.int k (a.tmod b)) else none
  | .eql => if k = k' then some (.bool (a == b)) else none
  | .neq => if k = k' then some (.bool (a != b)) else none
  | .lss => if k = k' then some (.bool (decide (a < b))) else none
  | .leq => if k = k' then some (.bool (decide (a ≤ b))) else none
  | .gtr => if k = k' then some (.bool (decide (a > b))) else none
  | .geq => if k = k' then some (.bool (decide (a ≥ b))) else none
  | .and | .or | .xor | .andNot => if k = k' then (bitsOf op k a b).map (.int k ·) else none

def abinStr (op : BinOp) (a b : List UInt8) : Option AVal :=
  match op with
  | .add => if a.length + b.length ≤ 2 ^ 40 then some (.str (a ++ b)) else none
  | .eql => some (.bool (a == b))
  | .neq => some (.bool (!(a == b)))
  | .lss => some (.bool (Op.bytesLess a b))
  | .leq => some (.bool (Op.bytesLess a b || a == b))
  | .gtr => some (.bool (!(Op.bytesLess a b || a == b)))
  | .geq => some (.bool (!(Op.bytesLess a b)))
  | _ => none

def nilTk : AVal → Option TK
  | .nilsl => some .slice
  | .nilptr => some .ptr
  | .nilfn => some .func
  | .nilmap => some .map
  | _ => none

def ptrEq (H : Heap) (r i off L r' i' off' L' : Nat) : Option Bool :=
  if r = r' then (match H.cellsAt r with | some (g, sz, es) => if g = false ∨ (L = es.length ∧ L' = es.length) then some (decide (i * sz + off = i' * sz + off')) else none | none => none) else none

def abin (H : Heap) (tk : TK) (op : BinOp) (x y : AVal) : Option AVal :=
  match x, y with
  | .int k a, .int k' b => abinInt op k a k' b
  | .str a, .str b => abinStr op a b
  | .bool a, .bool b => match tk, op with
    | .bool, .eql => some (.bool (a == b))
    | .bool, .neq => some (.bool (!(a == b)))
    | _, _ => none
  | .ptr r i off L, .ptr r' i' off' L' => match tk, op with
    | .ptr, .eql => (ptrEq H r i off L r' i' off' L').map .bool
    | .ptr, .neq => (ptrEq H r i off L r' i' off' L').map fun b => .bool (!b)
    | _, _ => none
  | x, y => match nilTk y with
    | some t => if tk = t then (match op with
      | .eql => (isNilK H t x).map .bool
      | .neq => (isNilK H t x).map fun b => .bool (!b)
      | _ => none) else none
    | none => none

def eqCell : ECell → AVal → AVal → Option Bool
  | .int, .int k a, .int k' b => if k = k' then some (a == b) else none
  | .bool, .bool a, .bool b => some (a == b)
  | .str, .str a, .str b => some (a == b)
  | _, _, _ => none

def eqCells : List ECell → List AVal → List AVal → Option Bool
  | [], [], [] => some true
  | k :: ks, a :: x, b :: y => match eqCell k a b, eqCells ks x y with | some p, some q => some (p && q) | _, _ => none
  | _, _, _ => none

def setParts (cs : List AVal) : List (Nat × Nat × AVal) → Option (List AVal)
  | [] => some cs
  | (off, n, v) :: rest => if (acells v).length = n ∧ v.isAny = false ∧ off + n ≤ cs.length then setParts (cs.take off ++ acells v ++ cs.drop (off + n)) rest else none

def minmaxs (mx : Bool) : Int → List AVal → Option Int
  | a, [] => some a
  | a, .int .i64 b :: rest => minmaxs mx (if mx then (if b > a then b else a) else (if b < a then b else a)) rest
  | _, _ => none

def sizedAll (sz : Nat) (vs : List AVal) : Bool := vs.all fun v => (acells v).length == sz && (acells v).all AVal.one

def ldv (H : Heap) (k : Option Nat) : AVal → Option AVal
  | .ptr r i off L => match H.cellsAt r with
    | some (g, _, es) => if g = false ∨ L = es.length then (match es[i]? with | some e => partOf (acells e) off k | none => none) else none
    | none => none
  | .rptr e off => partOf (acells e) off k
  | _ => none

def aev (op : AOp) (ρ : List AVal) (H : Heap) (n : Nat) : Option (AVal × List (Nat × Row)) :=
  match op with
  | .move x => some (opd ρ x, [])
  | .pick c a b => match opd ρ c with | .bool t => some (if t then opd ρ a else opd ρ b, []) | _ => none
  | .box x => match opd ρ x with | .any => none | v => some (.ptr n 0 0 1, [(n, .cells false (acells v).length [v])])
  | .build zero parts => match setParts zero (parts.map fun (o, m, x) => (o, m, opd ρ x)) with | some cs => some (.agg cs, []) | none => none
  | .buildSlice sz xs =>
    let vs := xs.map (opd ρ)
    if sizedAll sz vs ∧ 0 < sz then some (.sl n 0 vs.length, [(n, .cells false sz vs)]) else none
  | .load k a => (ldv H k (opd ρ a)).map fun v => (v, [])
  | .store m a x => match opd ρ a with
    | .ptr r i off L => match H.cellsAt r with
      | some (g, sz, es) => if (g = false ∨ L = es.length) ∧ 0 < m ∧ (acells (opd ρ x)).length = m ∧ (acells (opd ρ x)).all AVal.one = true then
          (match es[i]? with
           | some e => match setPart e off (acells (opd ρ x)) with | some e' => some (.any, [(r, .cells g sz (es.set i e'))]) | none => none
           | none => none) else none
      | none => none
    | _ => none
  | .nilCheck x => match isNilIn H (opd ρ x) with | some false => (match opd ρ x with | .fn (.func f) a b => some (.fn (.func f) a b, []) | .fn .. => none | v => some (v, [])) | _ => none
  | .bin tk op x y => (abin H tk op (opd ρ x) (opd ρ y)).map fun v => (v, [])
  | .eqAgg neg ks x y => match opd ρ x, opd ρ y with
    | .agg a, .agg b => ((eqCells ks a b).map fun t => AVal.bool (if neg then !t else t)).map fun v => (v, [])
    | _, _ => none
  | .neg x => match opd ρ x with | .int k a => some (.int k (k.wrap (0 - a)), []) | _ => none
  | .not x => match opd ρ x with | .bool b => some (.bool (!b), []) | _ => none
  | .toInt k x => match opd ρ x with | .int _ a => some (.int k (k.wrap a), []) | _ => none
  | .makeFunc f a b => some (.fn f (a.map (opd ρ)) (b.map (opd ρ)), [])
  | .makeSlice z bytes l c => match opd ρ l, opd ρ c with
    | .int .i64 a, .int .i64 b => if 0 ≤ a ∧ a ≤ b ∧ b ≤ 2 ^ 44 ∧ b * bytes ≤ 2 ^ 44 ∧ z.isAny = false then some (.sl n 0 a.toNat, [(n, .cells false (acells z).length (List.replicate a.toNat z))]) else none
    | _, _ => none
  | .slice str sz x lo hi =>
    match lenOfIn H (opd ρ x) with
    | none => none
    | some len =>
      match (match lo with | some l => intOf (opd ρ l) | none => some 0), (match hi with | some h => intOf (opd ρ h) | none => some (len : Int)) with
      | some l, some h =>
        if 0 ≤ l ∧ l ≤ h ∧ h ≤ len then
          (match opd ρ x with
           | .str s => if str = true then some (.str ((s.drop l.toNat).take (h.toNat - l.toNat)), []) else none
           | .sl r off len => match H.cellsAt r with
             | some (g, sz', es) => if str = false ∧ sz = sz' ∧ 0 < sz ∧ (g = false ∨ off + len = es.length) then
                some (if l = h then .view [] else .sl r (off + l.toNat) (h.toNat - l.toNat), []) else none
             | none => none
           | .view es => if str = false ∧ (es.all fun e => (acells e).length == sz) = true then some (.view ((es.drop l.toNat).take (h.toNat - l.toNat)), []) else none
           | .nilsl => if str = false then some (.nilsl, []) else none
           | _ => none) else none
      | _, _ => none
  | .fieldAddr o x => match opd ρ x with
    | .ptr r i off L => match H.cellsAt r with | some (g, _, es) => if g = false ∨ L = es.length then some (.ptr r i (off + o) L, []) else none | none => none
    | .rptr e off => some (.rptr e (off + o), [])
    | _ => none
  | .field k o x => match opd ρ x with | .agg cs => (partOf cs o k).map fun v => (v, []) | _ => none
  | .indexAddr sz x i => match opd ρ i with
    | .int _ i =>
      if i < 0 then none else
      (match opd ρ x with
       | .sl r off len => match H.cellsAt r with
         | some (g, sz', es) => if sz = sz' ∧ (g = false ∨ off + len = es.length) ∧ i < len then some (.ptr r (off + i.toNat) 0 es.length, []) else none
         | none => none
       | .view es => match es[i.toNat]? with | some e => if (acells e).length = sz then some (.rptr e 0, []) else none | none => none
       | _ => none)
    | _ => none
  | .indexArr m sz x i => match opd ρ i with
    | .int _ i => if 0 ≤ i ∧ i < m then
      (match opd ρ x with
       | .ptr r k off L => match H.cellsAt r with | some (g, _, es) => if g = false ∨ L = es.length then some (.ptr r k (off + i.toNat * sz) L, []) else none | none => none
       | .rptr e off => some (.rptr e (off + i.toNat * sz), [])
       | _ => none) else none
    | _ => none
  | .indexAgg m sz ag x i => match opd ρ i, opd ρ x with
    | .int _ i, .agg cs => if 0 ≤ i ∧ i < m then (partOf cs (i.toNat * sz) (if ag then some sz else none)).map fun v => (v, []) else none
    | _, _ => none
  | .indexStr x i => match opd ρ x, opd ρ i with
    | .str s, .int _ i => if i < 0 then none else (match s[i.toNat]? with | some b => some (.int .u8 b.toNat, []) | none => none)
    | _, _ => none
  | .extract x i => match opd ρ x with | .tup vs => (vs[i]?).map fun v => (v, []) | _ => none
  | .len str x => match lenOfIn H (opd ρ x) with
    | some m => if isStr (opd ρ x) = str then some (.int .i64 m, []) else none
    | none => none
  | .strStr x => if isStr (opd ρ x) = true then some (opd ρ x, []) else none
  | .makeIface t x => some (.iface t (opd ρ x), [])
  | .lenArr m => some (.int .i64 m, [])
  | .minmax mx xs => match xs.map (opd ρ) with
    | .int .i64 a :: rest => (minmaxs mx a rest).map fun v => (.int .i64 v, [])
    | _ => none
  | .cap x => match opd ρ x with | .nilsl => some (.int .i64 0, []) | _ => none
  | .appendN sz bytes z s x =>
    match opd ρ s, opd ρ x with
    | .nilsl, .int .i64 m => if 0 < m ∧ m.toNat * bytes ≤ 2 ^ 44 then some (.sl n 0 m.toNat, [(n, .cells true sz (List.replicate m.toNat z))]) else none
    | _, _ => none
  | .append sz bytes _ s x =>
    match elemsOf H (opd ρ x) with
    | none => none
    | some ys =>
      if sizedAll sz ys = false then none else
      (match opd ρ s with
       | .nilsl => if ys = [] then some (.nilsl, []) else if ys.length * bytes ≤ 2 ^ 44 then some (.sl n 0 ys.length, [(n, .cells true sz ys)]) else none
       | .sl r 0 len => match H.cellsAt r with
         | some (_, sz', es) => if sz = sz' ∧ len = es.length ∧ (len + ys.length) * bytes ≤ 2 ^ 44 then
             some (.sl r 0 (len + ys.length), [(r, .cells true sz (es ++ ys))]) else none
         | none => none
       | _ => none)
  | .slice3 sz x lo hi mx =>
    match (match lo with | some l => intOf (opd ρ l) | none => some 0), intOf (opd ρ hi), intOf (opd ρ mx) with
    | some l, some h, some m =>
      (match opd ρ x with
       | .sl r off len => match H.cellsAt r with
         | some (g, sz', es) => if 0 ≤ l ∧ l < h ∧ h ≤ m ∧ m ≤ len ∧ sz = sz' ∧ 0 < sz ∧ (g = false ∨ off + len = es.length) then some (.sl r (off + l.toNat) (h.toNat - l.toNat), []) else none
         | none => none
       | .view es => if 0 ≤ l ∧ l < h ∧ h ≤ m ∧ m ≤ es.length ∧ (es.all fun e => (acells e).length == sz) = true then some (.view ((es.drop l.toNat).take (h.toNat - l.toNat)), []) else none
       | _ => none)
    | _, _, _ => none
  | .allocArr cs => some (.ptr n 0 0 cs.length, [(n, .cells false 1 cs)])
  | .indexArrB m x i => match opd ρ i with
    | .int _ i => if 0 ≤ i ∧ i < m then
      (match opd ρ x with
       | .ptr r k off L => match H.cellsAt r with
         | some (g, sz, es) => if g = false ∨ L = es.length then some (if sz = 1 ∧ off = 0 then .ptr r (k + i.toNat) 0 L else .ptr r k (off + i.toNat) L, []) else none
         | none => none
       | .rptr e off => some (.rptr e (off + i.toNat), [])
       | _ => none) else none
    | _ => none
  | .sliceArrB m x lo hi =>
    match (match lo with | some l => intOf (opd ρ l) | none => some 0), (match hi with | some h => intOf (opd ρ h) | none => some (m : Int)) with
    | some l, some h =>
      (match opd ρ x with
       | .ptr r k off L => match H.cellsAt r with
         | some (_, sz, es) => if sz = 1 ∧ off = 0 ∧ L = es.length ∧ 0 ≤ l ∧ l < h ∧ h ≤ m ∧ k + m ≤ es.length then some (.sl r (k + l.toNat) (h.toNat - l.toNat), []) else none
         | none => none
       | _ => none)
    | _, _ => none
  | .ext q x y => (extV q (opd ρ x) (opd ρ y)).map fun v => (v, [])
  | .markStr x => match opd ρ x with
    | .sl r off len => match H.cellsAt r with
      | some (g, sz, es) => if g = false ∨ off + len = es.length then some (.sl r off len, [(r, .cells g sz es)]) else none
      | none => none
    | _ => none
  | .appendStr s x => match opd ρ x with
    | .str l => (match opd ρ s with
       | .nilsl => if l.map byteV = [] then some (.nilsl, []) else if (l.map byteV).length * 1 ≤ 2 ^ 44 then some (.sl n 0 (l.map byteV).length, [(n, .cells true 1 (l.map byteV))]) else none
       | .sl r 0 len => match H.cellsAt r with
         | some (_, sz', es) => if 1 = sz' ∧ len = es.length ∧ (len + (l.map byteV).length) * 1 ≤ 2 ^ 44 then
             some (.sl r 0 (len + (l.map byteV).length), [(r, .cells true 1 (es ++ l.map byteV))]) else none
         | none => none
       | _ => none)
    | _ => none
  | .isNilI neg x => match opd ρ x with
    | .niliface => some (.bool (!neg), [])
    | .iface _ _ => some (.bool neg, [])
    | _ => none
  | .bytesToStr x => match elemsOf H (opd ρ x) with
    | some es => (bytesOf es).map fun l => (.str l, [])
    | none => none
  | .strToBytes x => match opd ρ x with
    | .str s => some (.sl n 0 s.length, [(n, .cells true 1 (s.map byteV))])
    | _ => none
  | .makeMap kk => some (.mp n, [(n, .mapr kk [] [])])
  | .lookup kk z ok x i => match opd ρ i with
    | .int kk' m => if kk' = kk then
      (match opd ρ x with
       | .nilmap => some (lkV ok z false, [])
       | .mp r => match H.mapAt r with
         | some (kq, ks, vs) => if kq = kk then some (match mfind m ks 0 with | some j => lkV ok (vs.getD j .any) true | none => lkV ok z false, []) else none
         | none => none
       | _ => none) else none
    | _ => none
  | .mapUpdate kk x i y => match opd ρ i with
    | .int kk' m => if kk' = kk then
      (match opd ρ x with
       | .mp r => match H.mapAt r with
         | some (kq, ks, vs) => if kq = kk then (match mfind m ks 0 with
           | some j => some (.any, [(r, .mapr kk ks (vs.set j (opd ρ y)))])
           | none => some (.any, [(r, .mapr kk (ks ++ [m]) (vs ++ [opd ρ y]))])) else none
         | none => none
       | _ => none) else none
    | _ => none
  | _ => none

def Heap.puts (H : Heap) : List (Nat × Row) → Heap
  | [] => H
  | (r, x) :: rest => (H.put r x).puts rest
end Go.Sx
/- What an operation makes of a heap it makes of every heap that says more. -/
namespace Go.Sx

def Heap.le (H H' : Heap) : Prop := ∀ r x, H.cellsAt r = some x → H'.cellsAt r = some x

def vrows : AVal → List Nat
  | .ptr r _ _ _ => [r]
  | .sl r _ _ => [r]
  | _ => []

def mrow : AVal → List Nat
  | .mp r => [r]
  | _ => []

def adeps (op : AOp) (ρ : List AVal) : List Nat :=
  match op with
  | .load _ x | .nilCheck x | .bin _ _ x _ | .store _ x _ | .slice _ _ x _ _ | .fieldAddr _ x | .indexAddr _ x _ | .indexArr _ _ x _ | .len _ x => vrows (opd ρ x)
  | .append _ _ _ s x => vrows (opd ρ s) ++ vrows (opd ρ x)
  | .bytesToStr x | .slice3 _ x _ _ _ | .markStr x | .indexArrB _ x _ | .sliceArrB _ x _ _ => vrows (opd ρ x)
  | .appendStr s _ => vrows (opd ρ s)
  | .lookup _ _ _ x _ | .mapUpdate _ x _ _ => mrow (opd ρ x)
  | _ => []

def Heap.leOn (H : Heap) (l : List Nat) (H' : Heap) : Prop := ∀ r ∈ l, ∀ x, H.cellsAt r = some x → H'.cellsAt r = some x

variable {H H' : Heap}

theorem ldv_mono {k : Option Nat} {a v : AVal} (hl : H.leOn (vrows a) H') (h : ldv H k a = some v) : ldv H' k a = some v := by
  unfold ldv at h ⊢
  cases a <;> try exact h
  rename_i r i off L
  dsimp only at h ⊢
  cases hc : H.cellsAt r with
  | none => rw [hc] at h; cases h
  | some x => rw [hc] at h; rw [hl _ (by simp [vrows]) _ hc]; exact h

theorem lenOfIn_mono {a : AVal} {v : Nat} (hl : H.leOn (vrows a) H') (h : lenOfIn H a = some v) : lenOfIn H' a = some v := by
  unfold lenOfIn at h ⊢
  cases a <;> try exact h
  rename_i r off L
  dsimp only at h ⊢
  cases hc : H.cellsAt r with
  | none => rw [hc] at h; cases h
  | some x => rw [hc] at h; rw [hl _ (by simp [vrows]) _ hc]; exact h

theorem isNilIn_mono {a : AVal} {v : Bool} (hl : H.leOn (vrows a) H') (h : isNilIn H a = some v) : isNilIn H' a = some v := by
  unfold isNilIn at h ⊢
  cases a <;> try exact h
  all_goals
    rename_i r _ _
    dsimp only at h ⊢
    generalize hr : Heap.cellsAt H _ = o at h
    cases o with
    | none => cases h
    | some x => rw [hl _ (by simp [vrows]) _ hr]; exact h

theorem elemsOf_mono {a : AVal} {v : List AVal} (hl : H.leOn (vrows a) H') (h : elemsOf H a = some v) : elemsOf H' a = some v := by
  unfold elemsOf at h ⊢
  cases a <;> try exact h
  rename_i r off L
  dsimp only at h ⊢
  cases hc : H.cellsAt r with
  | none => rw [hc] at h; cases h
  | some x => rw [hc] at h; rw [hl _ (by simp [vrows]) _ hc]; exact h

theorem isNilK_mono {tk : TK} {a : AVal} {v : Bool} (hl : H.leOn (vrows a) H') (h : isNilK H tk a = some v) : isNilK H' tk a = some v := by
  unfold isNilK at h ⊢
  split at h
  · rename_i ht; rw [if_pos ht]; exact isNilIn_mono hl h
  · cases h

theorem abin_mono {tk : TK} {op : BinOp} {x y v : AVal} (hl : H.leOn (vrows x) H') (h : abin H tk op x y = some v) : abin H' tk op x y = some v := by
  have dflt : ∀ x y : AVal, H.leOn (vrows x) H' → (match nilTk y with
      | some t => if tk = t then (match (generalizing := false) op with
        | .eql => (isNilK H t x).map AVal.bool
        | .neq => (isNilK H t x).map fun b => AVal.bool (!b)
        | _ => none) else none
      | none => none) = some v → (match nilTk y with
      | some t => if tk = t then (match (generalizing := false) op with
        | .eql => (isNilK H' t x).map AVal.bool
        | .neq => (isNilK H' t x).map fun b => AVal.bool (!b)
        | _ => none) else none
      | none => none) = some v := by
    intro x y hl h
    cases hn : nilTk y with
    | none => rw [hn] at h; cases h
    | some t =>
      rw [hn] at h
      dsimp only at h ⊢
      split at h
      · rename_i htk
        rw [if_pos htk]
        cases hk : isNilK H t x with
        | none => rw [hk] at h; cases op <;> cases h
        | some b => rw [isNilK_mono hl hk]; rw [hk] at h; exact h
      · cases h
  cases x <;> first | exact dflt _ _ hl h | (cases y <;> first | exact h | exact dflt _ _ hl h | skip)
  case ptr.nilptr r i off L => exact dflt (.ptr r i off L) .nilptr hl h
  rename_i r i off L r' i' off' L'
  have hq : ∀ b, ptrEq H r i off L r' i' off' L' = some b → ptrEq H' r i off L r' i' off' L' = some b := fun b hb => by
    unfold ptrEq at hb ⊢
    split at hb
    · rename_i hr
      rw [if_pos hr]
      cases hc : H.cellsAt r with
      | none => rw [hc] at hb; cases hb
      | some x => rw [hl _ (by simp [vrows]) _ hc]; rw [hc] at hb; exact hb
    · cases hb
  simp only [abin] at h ⊢
  cases hb : ptrEq H r i off L r' i' off' L' with
  | none => rw [hb] at h; split at h <;> cases h
  | some b => rw [hq b hb]; rw [hb] at h; exact h

theorem aev_dep {op : AOp} {ρ : List AVal} {n : Nat} {r : AVal × List (Nat × Row)} (hl : H.leOn (adeps op ρ) H') (hm : ∀ r ∈ adeps op ρ, ∀ x, H.mapAt r = some x → H'.mapAt r = some x) (h : aev op ρ H n = some r) : aev op ρ H' n = some r := by
  cases op <;> try exact h
  case lookup kk z ok x i =>
    simp only [aev] at h ⊢
    cases hi : opd ρ i <;> rw [hi] at h <;> try exact h
    dsimp only at h ⊢
    split at h
    · rename_i hn; rw [if_pos hn]
      cases ho : opd ρ x <;> rw [ho] at h <;> try exact h
      rename_i r
      dsimp only at h ⊢
      cases hc : H.mapAt r with
      | none => rw [hc] at h; cases h
      | some x => rw [hc] at h; rw [hm _ (by simp [adeps, mrow, ho]) _ hc]; exact h
    · cases h
  case mapUpdate kk x i y =>
    simp only [aev] at h ⊢
    cases hi : opd ρ i <;> rw [hi] at h <;> try exact h
    dsimp only at h ⊢
    split at h
    · rename_i hn; rw [if_pos hn]
      cases ho : opd ρ x <;> rw [ho] at h <;> try exact h
      rename_i r
      dsimp only at h ⊢
      cases hc : H.mapAt r with
      | none => rw [hc] at h; cases h
      | some x => rw [hc] at h; rw [hm _ (by simp [adeps, mrow, ho]) _ hc]; exact h
    · cases h
  case load k a =>
    simp only [aev] at h ⊢
    cases hv : ldv H k (opd ρ a) with
    | none => rw [hv] at h; cases h
    | some v => rw [ldv_mono hl hv, ← hv]; exact h
  case bin tk op x y =>
    simp only [aev] at h ⊢
    cases hv : abin H tk op (opd ρ x) (opd ρ y) with
    | none => rw [hv] at h; cases h
    | some v => rw [abin_mono hl hv, ← hv]; exact h
  case nilCheck x =>
    simp only [aev] at h ⊢
    cases hv : isNilIn H (opd ρ x) with
    | none => rw [hv] at h; cases h
    | some v => rw [isNilIn_mono hl hv, ← hv]; exact h
  case len str x =>
    simp only [aev] at h ⊢
    cases hv : lenOfIn H (opd ρ x) with
    | none => rw [hv] at h; cases h
    | some v => rw [lenOfIn_mono hl hv]; rw [hv] at h; exact h
  case append sz bytes b s x =>
    simp only [aev] at h ⊢
    cases hv : elemsOf H (opd ρ x) with
    | none => rw [hv] at h; cases h
    | some v =>
      rw [elemsOf_mono (fun r hr => hl r (by simp [adeps, hr])) hv]; rw [hv] at h
      simp only [] at h ⊢
      split at h
      · cases h
      · rename_i hs
        rw [if_neg hs]
        cases ho : opd ρ s <;> rw [ho] at h <;> try exact h
        rename_i r off len
        cases off with
        | succ m => exact h
        | zero =>
          change (match H.cellsAt r with
              | some (_, sz', es) => if sz = sz' ∧ len = es.length ∧ (len + v.length) * bytes ≤ 2 ^ 44 then
                  some (AVal.sl r 0 (len + v.length), [(r, Row.cells true sz (es ++ v))]) else none
              | none => none) = some _ at h
          change (match H'.cellsAt r with
              | some (_, sz', es) => if sz = sz' ∧ len = es.length ∧ (len + v.length) * bytes ≤ 2 ^ 44 then
                  some (AVal.sl r 0 (len + v.length), [(r, Row.cells true sz (es ++ v))]) else none
              | none => none) = some _
          cases hc : H.cellsAt r with
          | none => rw [hc] at h; cases h
          | some x => rw [hc] at h; rw [hl _ (by simp [adeps, vrows, ho]) _ hc]; exact h
  case indexArrB m x i =>
    simp only [aev] at h ⊢
    cases hi : opd ρ i <;> rw [hi] at h <;> try exact h
    rename_i kk ii
    dsimp only at h ⊢
    split at h
    · rename_i hn
      rw [if_pos hn]
      cases ho : opd ρ x <;> rw [ho] at h <;> try exact h
      rename_i r k off L
      dsimp only at h ⊢
      cases hc : H.cellsAt r with
      | none => rw [hc] at h; cases h
      | some x => rw [hc] at h; rw [hl _ (by simp [adeps, vrows, ho]) _ hc]; exact h
    · cases h
  case sliceArrB m x lo hi =>
    simp only [aev] at h ⊢
    split at h
    · cases ho : opd ρ x <;> rw [ho] at h <;> try exact h
      rename_i r k off L
      try dsimp only at h
      try dsimp only
      cases hc : H.cellsAt r with
      | none => rw [hc] at h; cases h
      | some x => rw [hc] at h; rw [hl _ (by simp [adeps, vrows, ho]) _ hc]; exact h
    · cases h
  case slice3 sz x lo hi mx =>
    simp only [aev] at h ⊢
    split at h
    · cases ho : opd ρ x <;> rw [ho] at h <;> try exact h
      rename_i r off len
      try dsimp only at h
      try dsimp only
      cases hc : H.cellsAt r with
      | none => rw [hc] at h; cases h
      | some x => rw [hc] at h; rw [hl _ (by simp [adeps, vrows, ho]) _ hc]; exact h
    · cases h
  case markStr x =>
    simp only [aev] at h ⊢
    cases ho : opd ρ x <;> rw [ho] at h <;> try exact h
    rename_i r off len
    try dsimp only at h
    try dsimp only
    cases hc : H.cellsAt r with
    | none => rw [hc] at h; cases h
    | some x => rw [hc] at h; rw [hl _ (by simp [adeps, vrows, ho]) _ hc]; exact h
  case appendStr s x =>
    simp only [aev] at h ⊢
    cases hx : opd ρ x <;> rw [hx] at h <;> try exact h
    rename_i l
    dsimp only at h ⊢
    cases ho : opd ρ s <;> rw [ho] at h <;> try exact h
    rename_i r off len
    cases off with
    | succ m => exact h
    | zero =>
      change (match H.cellsAt r with
          | some (_, sz', es) => if 1 = sz' ∧ len = es.length ∧ (len + (l.map byteV).length) * 1 ≤ 2 ^ 44 then
              some (AVal.sl r 0 (len + (l.map byteV).length), [(r, Row.cells true 1 (es ++ l.map byteV))]) else none
          | none => none) = some _ at h
      change (match H'.cellsAt r with
          | some (_, sz', es) => if 1 = sz' ∧ len = es.length ∧ (len + (l.map byteV).length) * 1 ≤ 2 ^ 44 then
              some (AVal.sl r 0 (len + (l.map byteV).length), [(r, Row.cells true 1 (es ++ l.map byteV))]) else none
          | none => none) = some _
      cases hc : H.cellsAt r with
      | none => rw [hc] at h; cases h
      | some x => rw [hc] at h; rw [hl _ (by simp [adeps, vrows, ho]) _ hc]; exact h
  case bytesToStr x =>
    simp only [aev] at h ⊢
    cases hv : elemsOf H (opd ρ x) with
    | none => rw [hv] at h; cases h
    | some v => rw [elemsOf_mono hl hv]; rw [hv] at h; exact h
  case store m a x =>
    simp only [aev] at h ⊢
    cases ho : opd ρ a <;> rw [ho] at h <;> try exact h
    rename_i r i off L
    dsimp only at h ⊢
    cases hc : H.cellsAt r with
    | none => rw [hc] at h; cases h
    | some x => rw [hc] at h; rw [hl _ (by simp [adeps, vrows, ho]) _ hc]; exact h
  case fieldAddr o x =>
    simp only [aev] at h ⊢
    cases ho : opd ρ x <;> rw [ho] at h <;> try exact h
    rename_i r i off L
    dsimp only at h ⊢
    cases hc : H.cellsAt r with
    | none => rw [hc] at h; cases h
    | some x => rw [hc] at h; rw [hl _ (by simp [adeps, vrows, ho]) _ hc]; exact h
  case indexAddr sz x i =>
    simp only [aev] at h ⊢
    cases hi : opd ρ i <;> rw [hi] at h <;> try exact h
    rename_i kk ii
    dsimp only at h ⊢
    split at h
    · cases h
    · rename_i hn
      rw [if_neg hn]
      cases ho : opd ρ x <;> rw [ho] at h <;> try exact h
      rename_i r off L
      dsimp only at h ⊢
      cases hc : H.cellsAt r with
      | none => rw [hc] at h; cases h
      | some x => rw [hc] at h; rw [hl _ (by simp [adeps, vrows, ho]) _ hc]; exact h
  case indexArr m sz x i =>
    simp only [aev] at h ⊢
    cases hi : opd ρ i <;> rw [hi] at h <;> try exact h
    rename_i kk ii
    dsimp only at h ⊢
    split at h
    · rename_i hn
      rw [if_pos hn]
      cases ho : opd ρ x <;> rw [ho] at h <;> try exact h
      rename_i r k off L
      dsimp only at h ⊢
      cases hc : H.cellsAt r with
      | none => rw [hc] at h; cases h
      | some x => rw [hc] at h; rw [hl _ (by simp [adeps, vrows, ho]) _ hc]; exact h
    · cases h
  case slice str sz x lo hi =>
    simp only [aev] at h ⊢
    cases hv : lenOfIn H (opd ρ x) with
    | none => rw [hv] at h; cases h
    | some v =>
      rw [lenOfIn_mono hl hv]; rw [hv] at h
      try dsimp only at h
      try dsimp only
      split at h
      · split at h
        · rename_i hn
          rw [if_pos hn]
          cases ho : opd ρ x <;> rw [ho] at h <;> try exact h
          rename_i r off L
          try dsimp only at h
          try dsimp only
          cases hc : H.cellsAt r with
          | none => rw [hc] at h; cases h
          | some x => rw [hc] at h; rw [hl _ (by simp [adeps, vrows, ho]) _ hc]; exact h
        · cases h
      · cases h

theorem aev_mono (hl : H.le H') (hm : ∀ r x, H.mapAt r = some x → H'.mapAt r = some x) {op : AOp} {ρ : List AVal} {n : Nat} {r : AVal × List (Nat × Row)} (h : aev op ρ H n = some r) : aev op ρ H' n = some r := aev_dep (fun r _ x hx => hl r x hx) (fun r _ x hx => hm r x hx) h
end Go.Sx
/- Which temporaries an operation looks at. -/
namespace Go.Sx

def AOpd.tmps : AOpd → List Nat
  | .tmp t => [t]
  | .const _ => []

def optTmps : Option AOpd → List Nat
  | some x => x.tmps
  | none => []

def AOp.tmps : AOp → List Nat
  | .cap x | .move x | .box x | .load _ x | .nilCheck x | .neg x | .not x | .toInt _ x | .strStr x | .bytesToStr x | .strToBytes x | .isNilI _ x | .markStr x | .makeIface _ x | .fieldAddr _ x | .field _ _ x | .extract x _ | .len _ x | .range x | .nextStr x => x.tmps
  | .pick c a b => c.tmps ++ (a.tmps ++ b.tmps)
  | .build _ ps => ps.flatMap fun p => p.2.2.tmps
  | .buildSlice _ xs | .minmax _ xs => xs.flatMap AOpd.tmps
  | .appendN _ _ _ a x | .store _ a x | .bin _ _ a x | .eqAgg _ _ a x | .makeSlice _ _ a x | .indexAddr _ a x | .indexArr _ _ a x | .indexAgg _ _ _ a x | .indexStr a x | .append _ _ _ a x | .appendStr a x | .ext _ a x | .indexArrB _ a x | .copy _ a x | .lookup _ _ _ a x => a.tmps ++ x.tmps
  | .mapUpdate _ a b c => a.tmps ++ (b.tmps ++ c.tmps)
  | .makeFunc _ a b => a.flatMap AOpd.tmps ++ b.flatMap AOpd.tmps
  | .sliceArrB _ x lo hi | .slice _ _ x lo hi | .sliceArr _ _ x lo hi => x.tmps ++ (optTmps lo ++ optTmps hi)
  | .slice3 _ x lo hi mx => x.tmps ++ (optTmps lo ++ (hi.tmps ++ mx.tmps))
  | .call f xs | .callM _ f xs => f.tmps ++ xs.flatMap AOpd.tmps
  | .allocArr _ | .lenArr _ | .makeMap _ | .bad => []

variable {ρ ρ' : List AVal}

theorem opd_congr {x : AOpd} (h : ∀ t ∈ x.tmps, tget ρ' t = tget ρ t) : opd ρ' x = opd ρ x := by
  cases x with
  | tmp t => exact h t (by simp [AOpd.tmps])
  | const v => rfl

theorem opds_congr {xs : List AOpd} (h : ∀ t ∈ xs.flatMap AOpd.tmps, tget ρ' t = tget ρ t) : xs.map (opd ρ') = xs.map (opd ρ) :=
  List.map_congr_left fun x hx => opd_congr fun t ht => h t (List.mem_flatMap.2 ⟨x, hx, ht⟩)

theorem aev_congr {op : AOp} {H : Heap} {n : Nat} (h : ∀ t ∈ op.tmps, tget ρ' t = tget ρ t) : aev op ρ' H n = aev op ρ H n := by
  cases op <;> simp only [AOp.tmps, List.mem_append, or_imp, forall_and] at h <;> try rfl
  case pick c a b => simp only [aev, opd_congr h.1, opd_congr h.2.1, opd_congr h.2.2]
  case build z ps =>
    have : (ps.map fun (o, m, x) => (o, m, opd ρ' x)) = ps.map fun (o, m, x) => (o, m, opd ρ x) :=
      List.map_congr_left fun p hp => by
        obtain ⟨o, m, x⟩ := p
        have := opd_congr (x := x) fun t ht => h t (List.mem_flatMap.2 ⟨_, hp, ht⟩)
        simp only [this]
    simp only [aev, this]
  case buildSlice sz xs => simp only [aev, opds_congr h]
  case mapUpdate kk a b c => simp only [aev, opd_congr h.1, opd_congr h.2.1, opd_congr h.2.2]
  case minmax mx xs => simp only [aev, opds_congr h]
  case makeFunc f a b => simp only [aev, opds_congr h.1, opds_congr h.2]
  case slice str sz x lo hi =>
    have h1 := opd_congr h.1
    cases lo <;> cases hi <;> simp only [optTmps] at h
    · simp only [aev, h1]
    · have h3 := opd_congr h.2.2
      simp only [aev, h1, h3]
    · have h2 := opd_congr h.2.1
      simp only [aev, h1, h2]
    · have h2 := opd_congr h.2.1
      have h3 := opd_congr h.2.2
      simp only [aev, h1, h2, h3]
  case sliceArrB m x lo hi =>
    have h1 := opd_congr h.1
    cases lo <;> cases hi <;> simp only [optTmps] at h
    · simp only [aev, h1]
    · have h3 := opd_congr h.2.2
      simp only [aev, h1, h3]
    · have h2 := opd_congr h.2.1
      simp only [aev, h1, h2]
    · have h2 := opd_congr h.2.1
      have h3 := opd_congr h.2.2
      simp only [aev, h1, h2, h3]
  case slice3 sz x lo hi mx =>
    have h1 := opd_congr h.1
    have h3 := opd_congr h.2.2.1
    have h4 := opd_congr h.2.2.2
    cases lo <;> simp only [optTmps] at h
    · simp only [aev, h1, h3, h4]
    · have h2 := opd_congr h.2.1
      simp only [aev, h1, h2, h3, h4]
  all_goals first
    | (simp only [aev, opd_congr h]; done)
    | (simp only [aev, opd_congr h.1, opd_congr h.2]; done)
end Go.Sx
/- What 'aev' says of an operation is what the program does. -/
namespace Go.Sx
open Go

def TR (G : Ctx) (μ : Mu) (ρ : List AVal) (tmps : Array Value) : Prop := ρ.length = tmps.size ∧ ∀ t, VR G μ (ρ.getD t .any) (tmps.getD t undef)

theorem TR.mono {G : Ctx} {μ μ' : Mu} {ρ : List AVal} {tmps : Array Value} (h : TR G μ ρ tmps) (hμ : μ.le μ') : TR G μ' ρ tmps := ⟨h.1, fun t => (h.2 t).mono hμ⟩

theorem cval_func (G : Ctx) (μ : Mu) (d : Nat) (f : Fn) (a b : Array Value) : VR G μ (cval d (.func f a b)) (.func f a b) := by
  have : cval d (.func f a b) = match f with | .func g => if a.size = 0 ∧ b.size = 0 then .fn (.func g) [] [] else .any | _ => .any := by
    cases d <;> rfl
  rw [this]
  cases f <;> try exact .any _
  simp only
  split
  · rename_i h
    exact .fn _ _ _ _ _ h.1.symm h.2.symm (fun i hi => by simp at hi) (fun i hi => by simp at hi)
  · exact .any _

theorem cval_slice (G : Ctx) (μ : Mu) (d : Nat) (a : Option Addr) (n c : Nat) : VR G μ (cval d (.slice a n c)) (.slice a n c) := by
  cases a with
  | some a => cases d <;> exact .any _
  | none =>
    have : cval d (.slice none n c) = if n = 0 ∧ c = 0 then .nilsl else .any := by cases d <;> rfl
    rw [this]
    split
    · rename_i h
      obtain ⟨rfl, rfl⟩ := h
      exact .nilsl
    · exact .any _

theorem cval_sound (G : Ctx) (μ : Mu) : ∀ (d : Nat) (v : Value), VR G μ (cval d v) v := by
  intro d
  induction d with
  | zero =>
    intro v
    cases v with
    | func f a b => exact cval_func G μ _ f a b
    | slice a n c => exact cval_slice G μ _ a n c
    | pointer a => cases a <;> constructor
    | map a => cases a <;> constructor
    | string s => exact .str _ _ rfl
    | _ => constructor
  | succ d ih =>
    intro v
    cases v with
    | func f a b => exact cval_func G μ _ f a b
    | slice a n c => exact cval_slice G μ _ a n c
    | pointer a => cases a <;> constructor
    | map a => cases a <;> constructor
    | string s => exact .str _ _ rfl
    | agg cs =>
      refine .agg _ _ (by simp) fun i hi => ?_
      have hi' : i < cs.size := by simpa using hi
      simp only [List.getD_eq_getElem?_getD, List.getElem?_map]
      simp [hi', Array.getD, ih]
    | iface t v => exact .iface _ _ _ (ih _)
    | _ => constructor

theorem opd_sound {P : Program} {G : Ctx} {μ : Mu} {ρ : List AVal} {a : Act} (hg : GlobOK P G) (h : TR G μ ρ a.tmps) (x : Operand) : VR G μ (opd ρ (copd P x)) (a.eval x) := by
  cases x with
  | tmp t => simp only [copd, opd, tget_eq]; exact h.2 t
  | const v => exact cval_sound G μ 3 v
  | global g =>
    simp only [copd, opd]
    cases he : gvOf P g with
    | none => exact .any _
    | some e =>
      obtain ⟨h1, h2⟩ := hg g e he
      classical
      refine .rptr e 0 g 0 (fun j => if hj : j < (acells e).length then (h2 j hj).choose else undef) h1 (fun j hj => ?_) fun j hj => ?_
      · rw [Nat.zero_add, dif_pos hj]; exact (h2 j hj).choose_spec.1
      · rw [dif_pos hj]; exact (h2 j hj).choose_spec.2 μ
  | func f =>
    refine .fn _ _ _ _ _ rfl rfl ?_ ?_ <;> (intro i hi; simp at hi)

def Step (P : Program) (G : Ctx) (μ : Mu) (H : Heap) (n : Nat) (s : Sem Next) (w : World) (v : AVal) (Δ : List (Nat × Row)) : Prop :=
  ∃ x cv w' μ', s.run P w = .ok x w' ∧ (x = .value cv ∨ x = .skip ∧ cv = undef) ∧ VR G μ' v cv ∧ μ.le μ' ∧ HR P G μ' (H.puts Δ) w' ∧
    ∀ r, (μ' r).isSome = true → (μ r).isSome = true ∨ r = n ∧ n < (H.puts Δ).length

theorem Step.pure {P : Program} {G : Ctx} {μ : Mu} {H : Heap} {n : Nat} {s : Sem Next} {w : World} {v : AVal} {cv : Value} (hH : HR P G μ H w)
    (h : s.run P w = .ok (.value cv) w) (hv : VR G μ v cv) : Step P G μ H n s w v [] :=
  ⟨_, cv, w, μ, h, .inl rfl, hv, Mu.le_refl _, hH, fun _ h => .inl h⟩

theorem HR.freshM {P : Program} {G : Ctx} {μ : Mu} {H : Heap} {w w' : World} {n : Nat} {C : Array Value} {ty : TypeId} {g : Bool} {sz off : Nat} {es : List AVal} {vec gr : Bool} (hH : HR P G μ H w) (hn : μ n = none)
    (mk : Mark C.size vec) (hw : w'.heap = w.heap.push (.cells C ty mk.1)) (hcm : Calm w w') (hg : g = false → gr = false)
    (hC : ∀ i, i < es.length → (acells (es.getD i .any)).length = sz ∧ ∀ j, j < sz → ∃ c, C[off + i * sz + j]? = some c ∧ VR G μ ((acells (es.getD i .any)).getD j .any) c) :
    let p : Place := ⟨w.heap.size, off, sz, es.length, C.size, gr, vec⟩
    let μ' : Mu := fun r => if r = n then some p else μ r
    μ.le μ' ∧ μ' n = some p ∧ HR P G μ' (H.put n (.cells g sz es)) w' ∧ ∀ r, (μ' r).isSome = true → (μ r).isSome = true ∨ r = n := by
  intro p μ'
  have hle : μ.le μ' := fun r q hq => ⟨q, by
    have : r ≠ n := fun e => by rw [e, hn] at hq; cases hq
    simp [μ', this, hq], .inl rfl⟩
  have hp : μ' n = some p := by simp [μ']
  refine ⟨hle, hp, ?_, fun r hr => ?_⟩
  · refine hH.put hcm hle (fun s hs => by simp [μ', hs]) hp (by simp [hw]) (by simp [hw, p]) ?_ ?_ ?_ ?_
    · intro hk
      have := (hH.kept _ hk).1
      simp [p] at this
    · intro b hb _
      rw [hw, Array.getElem?_push_lt hb]
      simp [hb]
    · intro s y q _ hy hq hnd
      obtain ⟨q', h1, _, h3, _⟩ := hH.row s y hy hnd
      rw [hq] at h1; cases h1
      simp only [p]
      omega
    · refine ⟨rfl, rfl, hg, C, (ty, mk), by simp [hw, p], rfl, fun i hi => ⟨(hC i hi).1, fun j hj => ?_⟩⟩
      obtain ⟨c, h1, h2⟩ := (hC i hi).2 j hj
      exact ⟨c, h1, h2.mono hle⟩
  · by_cases h : r = n
    · exact .inr h
    · left; simpa [μ', h] using hr

theorem HR.fresh {P : Program} {G : Ctx} {μ : Mu} {H : Heap} {w w' : World} {n : Nat} {C : Array Value} {ty : TypeId} {g : Bool} {sz off : Nat} {es : List AVal} {gr : Bool} (hH : HR P G μ H w) (hn : μ n = none)
    (hw : w'.heap = w.heap.push (.cells C ty (0, 0))) (hcm : Calm w w') (hg : g = false → gr = false)
    (hC : ∀ i, i < es.length → (acells (es.getD i .any)).length = sz ∧ ∀ j, j < sz → ∃ c, C[off + i * sz + j]? = some c ∧ VR G μ ((acells (es.getD i .any)).getD j .any) c) :
    let p : Place := ⟨w.heap.size, off, sz, es.length, C.size, gr, true⟩
    let μ' : Mu := fun r => if r = n then some p else μ r
    μ.le μ' ∧ μ' n = some p ∧ HR P G μ' (H.put n (.cells g sz es)) w' ∧ ∀ r, (μ' r).isSome = true → (μ r).isSome = true ∨ r = n :=
  hH.freshM hn (Mark.no _) hw hcm hg hC

section
variable {G : Ctx} {μ : Mu} {c : Value}
theorem VR.inv_bool {b : Bool} (h : VR G μ (.bool b) c) : c = .bool b := by cases h; rfl
theorem VR.inv_int {k : IntKind} {n : Int} (h : VR G μ (.int k n) c) : c = .int k n := by cases h; rfl
theorem VR.inv_agg {cs : List AVal} (h : VR G μ (.agg cs) c) : ∃ vs, c = .agg vs ∧ cs.length = vs.size ∧ ∀ i, i < cs.length → VR G μ (cs.getD i .any) (vs.getD i undef) := by
  cases h with | agg cs vs hl hv => exact ⟨vs, rfl, hl, hv⟩
theorem VR.inv_tup {cs : List AVal} (h : VR G μ (.tup cs) c) : ∃ vs, c = .tuple vs ∧ cs.length = vs.size ∧ ∀ i, i < cs.length → VR G μ (cs.getD i .any) (vs.getD i undef) := by
  cases h with | tup cs vs hl hv => exact ⟨vs, rfl, hl, hv⟩
theorem VR.inv_str {l : List UInt8} (h : VR G μ (.str l) c) : ∃ s : ByteArray, c = .string s ∧ s.data.toList = l := by
  cases h with | str l s h => exact ⟨s, rfl, h⟩
theorem VR.inv_ptr {r i off L : Nat} (h : VR G μ (.ptr r i off L) c) : ∃ p, μ r = some p ∧ L ≤ p.len ∧ (p.live L → c = .pointer (some ⟨p.blk, p.off + i * p.sz + off, none⟩)) := by
  cases h with | ptr _ _ _ _ p _ hp hL ho hc => exact ⟨p, hp, hL, hc⟩
theorem VR.inv_sl {r off len : Nat} (h : VR G μ (.sl r off len) c) : ∃ p, μ r = some p ∧ p.vec = true ∧ off + len ≤ p.len ∧
    (p.live (off + len) → ∃ cap, c = .slice (some ⟨p.blk, p.off + off * p.sz, none⟩) len cap ∧ len ≤ cap ∧ p.off + (off + cap) * p.sz ≤ p.size) := by
  cases h with | sl _ _ _ p _ hp hvec hL ho hc => exact ⟨p, hp, hvec, hL, hc⟩
end

def CR (G : Ctx) (μ : Mu) (cs : List AVal) (vs : Array Value) : Prop := cs.length = vs.size ∧ ∀ i, i < cs.length → VR G μ (cs.getD i .any) (vs.getD i undef)

theorem foldl_cells (v : List Value) : ∀ (off k : Nat) (cells : Array Value), off + k + v.length ≤ cells.size →
    ((v.zipIdx k).foldl (fun cs (c, j) => cs.setIfInBounds (off + j) c) cells).size = cells.size ∧
    ∀ i, ((v.zipIdx k).foldl (fun cs (c, j) => cs.setIfInBounds (off + j) c) cells)[i]? = if off + k ≤ i ∧ i < off + k + v.length then v[i - (off + k)]? else cells[i]? := by
  induction v with
  | nil => intro off k cells h; refine ⟨rfl, fun i => ?_⟩; rw [if_neg (by simp only [List.length_nil]; omega)]; rfl
  | cons x v ih =>
    intro off k cells h
    simp only [List.length_cons] at h
    obtain ⟨h1, h2⟩ := ih off (k + 1) (cells.setIfInBounds (off + k) x) (by simp; omega)
    refine ⟨by simpa using h1, fun i => ?_⟩
    simp only [List.zipIdx_cons, List.foldl_cons]
    rw [h2 i]
    simp only [List.length_cons]
    by_cases hi : off + k = i
    · rw [if_neg (by omega), if_pos (by omega)]
      subst hi
      have : off + k < cells.size := by omega
      simp [this]
    · by_cases hj : off + (k + 1) ≤ i ∧ i < off + (k + 1) + v.length
      · rw [if_pos hj, if_pos (by omega)]
        have : i - (off + k) = (i - (off + (k + 1))) + 1 := by omega
        rw [this, List.getElem?_cons_succ]
      · rw [if_neg hj, if_neg (by omega)]
        simp [Array.getElem?_setIfInBounds, hi]

theorem CR.splice {G : Ctx} {μ : Mu} {cs us : List AVal} {vs ws : Array Value} {off : Nat} (h : CR G μ cs vs) (hu : CR G μ us ws) (hl : off + us.length ≤ cs.length) :
    CR G μ (cs.take off ++ us ++ cs.drop (off + us.length)) (ws.zipIdx.foldl (fun cs (c, j) => cs.setIfInBounds (off + j) c) vs) := by
  have hf : ws.zipIdx.foldl (fun cs (c, j) => cs.setIfInBounds (off + j) c) vs = (ws.toList.zipIdx 0).foldl (fun cs (c, j) => cs.setIfInBounds (off + j) c) vs := by
    rw [← Array.foldl_toList]; simp
  rw [hf]
  have hul := hu.1
  have hcl := h.1
  obtain ⟨h1, h2⟩ := foldl_cells ws.toList off 0 vs (by simp; omega)
  refine ⟨by rw [h1]; simp; omega, fun i hi => ?_⟩
  have hi' : i < cs.length := by simp at hi; omega
  have hget := h2 i
  simp only [Nat.add_zero, Array.length_toList] at hget
  rw [Array.getD_eq_getD_getElem?, hget, List.getD_eq_getElem?_getD]
  by_cases hj : off ≤ i ∧ i < off + ws.size
  · rw [if_pos hj, List.append_assoc, List.getElem?_append_right (by simp; omega), List.getElem?_append_left (by simp; omega)]
    have := hu.2 (i - off) (by omega)
    rw [Array.getD_eq_getD_getElem?, List.getD_eq_getElem?_getD] at this
    have e : i - (List.take off cs).length = i - off := by simp; omega
    rw [e]
    simpa using this
  · rw [if_neg hj]
    have hv := h.2 i hi'
    rw [Array.getD_eq_getD_getElem?, List.getD_eq_getElem?_getD] at hv
    by_cases hlt : i < off
    · rw [List.append_assoc, List.getElem?_append_left (by simp; omega), List.getElem?_take_of_lt hlt]
      exact hv
    · rw [List.getElem?_append_right (by simp; omega), List.getElem?_drop]
      have e : off + us.length + (i - (List.take off cs ++ us).length) = i := by simp; omega
      rw [e]
      exact hv

theorem CR.of_VR {G : Ctx} {μ : Mu} {v : AVal} {c : Value} (h : VR G μ v c) (ha : v.isAny = false) : CR G μ (acells v) c.cells :=
  h.cells (by rintro rfl; simp [AVal.isAny] at ha)

theorem fill_sound {G : Ctx} {μ : Mu} (place : Nat → Option (Nat × Nat)) : ∀ (ps : List (Nat × AVal × Value)) (zs : List AVal) (cs : List AVal) (vs : Array Value),
    CR G μ cs vs → (∀ p ∈ ps, VR G μ p.2.1 p.2.2) → (∀ p ∈ ps, (place p.1).isSome = true) →
    setParts cs (ps.map fun p => (((place p.1).getD (0, 0)).1, ((place p.1).getD (0, 0)).2, p.2.1)) = some zs →
    ∃ ws, Instr.fill place vs (ps.map fun p => (p.1, p.2.2)) = some ws ∧ CR G μ zs ws := by
  intro ps
  induction ps with
  | nil => intro zs cs vs h _ _ hs; simp [setParts] at hs; subst hs; exact ⟨vs, rfl, h⟩
  | cons p ps ih =>
    intro zs cs vs h hv hpl hs
    obtain ⟨i, v, c⟩ := p
    obtain ⟨⟨off, n⟩, hp⟩ := Option.isSome_iff_exists.1 (hpl _ (List.mem_cons_self ..))
    simp only [List.map_cons, hp, Option.getD_some, setParts] at hs
    split at hs
    · rename_i hc
      obtain ⟨h1, h2, h3⟩ := hc
      have hcr := CR.of_VR (hv _ (List.mem_cons_self ..)) h2
      simp only at hcr
      have hs' : setParts (cs.take off ++ acells v ++ cs.drop (off + (acells v).length)) (ps.map fun p => (((place p.1).getD (0, 0)).1, ((place p.1).getD (0, 0)).2, p.2.1)) = some zs := by rw [h1]; exact hs
      obtain ⟨ws, hw, hcw⟩ := ih zs _ _ (h.splice hcr (by omega)) (fun p hp => hv p (by simp [hp])) (fun p hp => hpl p (by simp [hp])) hs'
      refine ⟨ws, ?_, hcw⟩
      simp only [List.map_cons, Instr.fill, hp]
      have hsz : c.cells.size = n := by rw [← hcr.1, h1]
      have hvs : off + c.cells.size ≤ vs.size := by rw [hsz, ← h.1]; omega
      rw [if_neg (by simp [hsz]; omega)]
      exact hw
    · cases hs
end Go.Sx
/- 'aev' is sound: operations that touch no memory, and those that make rows. -/
namespace Go.Sx
open Go

variable {P : Program} {G : Ctx} {μ : Mu} {H : Heap} {n : Nat} {w : World} {ρ : List AVal} {a : Act} {v : AVal} {Δ : List (Nat × Row)}

theorem some_nil {x : AVal} (h : (some (x, ([] : List (Nat × Row)))) = some (v, Δ)) : x = v ∧ Δ = [] := by cases h; exact ⟨rfl, rfl⟩

theorem map_nil {x : Option AVal} (h : (x.map fun v => (v, ([] : List (Nat × Row)))) = some (v, Δ)) : x = some v ∧ Δ = [] := by
  cases x with
  | none => simp at h
  | some y => simp at h; exact ⟨by rw [h.1], h.2⟩

theorem aev_pick (hT : TR G μ ρ a.tmps) (hH : HR P G μ H w) (c x y : Operand) (h : aev (.pick ((copd P) c) ((copd P) x) ((copd P) y)) ρ H n = some (v, Δ)) :
    Step P G μ H n (do pure (.value (if ← asBool (a.eval c) then a.eval x else a.eval y))) w v Δ := by
  simp only [aev] at h
  split at h
  · rename_i t ht
    obtain ⟨rfl, rfl⟩ := some_nil h
    have hc := (ht ▸ opd_sound hH.glob hT c).inv_bool
    refine Step.pure (cv := if t then a.eval x else a.eval y) hH (by simp [hc, asBool]) ?_
    cases t
    · exact opd_sound hH.glob hT y
    · exact opd_sound hH.glob hT x
  · cases h

theorem Step.fresh {C : Array Value} {ty : TypeId} {g : Bool} {sz : Nat} {es : List AVal} {gr : Bool} {s : Sem Next} {w' : World} {cv : Value} (hH : HR P G μ H w) (hn : μ n = none)
    (hs : s.run P w = .ok (.value cv) w') (hw : w'.heap = w.heap.push (.cells C ty (0, 0))) (hcm : Calm w w') (hg : g = false → gr = false)
    (hC : ∀ i, i < es.length → (acells (es.getD i .any)).length = sz ∧ ∀ j, j < sz → ∃ c, C[i * sz + j]? = some c ∧ VR G μ ((acells (es.getD i .any)).getD j .any) c)
    (hv : ∀ μ' : Mu, μ' n = some ⟨w.heap.size, 0, sz, es.length, C.size, gr, true⟩ → VR G μ' v cv) :
    Step P G μ H n s w v [(n, .cells g sz es)] := by
  obtain ⟨h1, h2, h3, h4⟩ := HR.fresh (w := w) (w' := w') (off := 0) hH hn hw hcm hg (by simpa using hC)
  exact ⟨_, cv, w', _, hs, .inl rfl, hv _ h2, h1, h3, fun r hr => (h4 r hr).imp id fun h => ⟨h, by simp only [Heap.puts, Heap.len_put]; omega⟩⟩

theorem one_elem {x : AVal} {c : Value} (hx : VR G μ x c) (ha : x.isAny = false) (i : Nat) (hi : i < [x].length) :
    (acells ([x].getD i .any)).length = (acells x).length ∧ ∀ j, j < (acells x).length → ∃ c', c.cells[i * (acells x).length + j]? = some c' ∧ VR G μ ((acells ([x].getD i .any)).getD j .any) c' := by
  obtain rfl : i = 0 := by simp at hi; omega
  refine ⟨rfl, fun j hj => ?_⟩
  have h := CR.of_VR hx ha
  have hj' : j < c.cells.size := by rw [← h.1]; exact hj
  have := h.2 j hj
  rw [Array.getD_eq_getD_getElem?] at this
  simp [hj'] at this ⊢
  simpa using this

theorem aev_box (hH : HR P G μ H w) (hn : μ n = none) (ty : TypeId) (x : AOpd) (cv : Value) (hx : VR G μ (opd ρ x) cv) (s : Sem Next)
    (hs : s.run P w = .ok (.value (.pointer (some ⟨w.heap.size, 0, none⟩))) { w with heap := w.heap.push (.cells cv.cells ty (0, 0)) })
    (h : aev (.box x) ρ H n = some (v, Δ)) : Step P G μ H n s w v Δ := by
  simp only [aev] at h
  have key : (opd ρ x).isAny = false ∧ v = .ptr n 0 0 1 ∧ Δ = [(n, .cells false (acells (opd ρ x)).length [opd ρ x])] := by
    split at h
    · cases h
    · rename_i hne
      cases h
      refine ⟨?_, rfl, rfl⟩
      cases he : opd ρ x <;> simp_all [AVal.isAny]
  obtain ⟨ha, rfl, rfl⟩ := key
  refine Step.fresh (gr := false) (ty := ty) (C := cv.cells) hH hn hs rfl ⟨rfl, rfl, rfl⟩ (fun _ => rfl) (fun i hi => one_elem hx ha i hi) fun μ' hμ' => ?_
  exact .ptr _ _ _ _ _ _ hμ' (by simp) rfl fun _ => by simp

theorem run_sizeT {t : TypeId} {m : Nat} (h : sizeT P t = some m) : (sizeOf t).run P w = .ok m w := by
  simp only [sizeT, Option.map_eq_some_iff] at h
  obtain ⟨i, hi, rfl⟩ := h
  simp [sizeOf, typeInfo, hi]

theorem run_zeroT {t : TypeId} {z : AVal} (h : zeroT P t = some z) : ∃ c, (zeroValue t).run P w = .ok c w ∧ z = cval 3 c := by
  simp only [zeroT, Option.map_eq_some_iff, Option.bind_eq_some_iff] at h
  obtain ⟨c, ⟨i, hi, hz⟩, rfl⟩ := h
  exact ⟨c, by simp [zeroValue, typeInfo, hi, hz], rfl⟩

theorem isAgg_any {z : AVal} (h : z.isAgg = true) : z.isAny = false := by cases z <;> simp_all [AVal.isAgg, AVal.isAny]

theorem aev_build (hT : TR G μ ρ a.tmps) (hH : HR P G μ H w) (t : TypeId) (parts : Array (Nat × Operand)) (o : Oper) (ho : o.op = .build t parts)
    (h : aev (cop P o) ρ H n = some (v, Δ)) : Step P G μ H n (execOp a.eval o) w v Δ := by
  have hex : execOp a.eval o = (do pure (.value (← Instr.build t (parts.map fun (i, x) => (i, a.eval x))))) := by simp only [execOp, ho]
  rw [hex]
  generalize hpv : (parts.map fun (i, x) => (i, a.eval x)) = pv
  have hparts : pv.toList = (parts.toList.map fun p => (p.1, opd ρ ((copd P) p.2), a.eval p.2)).map fun p => (p.1, p.2.2) := by subst hpv; simp
  have hvr : ∀ p ∈ (parts.toList.map fun p => (p.1, opd ρ ((copd P) p.2), a.eval p.2)), VR G μ p.2.1 p.2.2 := by
    intro p hp
    obtain ⟨q, _, rfl⟩ := List.mem_map.1 hp
    exact opd_sound hH.glob hT q.2
  simp only [cop, ho] at h
  split at h
  · rename_i fs z hu hz
    split at h
    · rename_i places hpl
      split at h
      · rename_i hc
        simp only [Bool.and_eq_true, List.all_eq_true] at hc
        obtain ⟨hc1, hc2⟩ := hc
        simp only [aev] at h
        split at h
        · rename_i cs hcs
          obtain ⟨rfl, rfl⟩ := some_nil h
          simp only [zeroT, Option.map_eq_some_iff, Option.bind_eq_some_iff] at hz
          obtain ⟨c, ⟨i, hi, hzc⟩, rfl⟩ := hz
          have hcz := CR.of_VR (cval_sound G μ 3 c) (isAgg_any hc1)
          obtain ⟨ws, hw, hcw⟩ := fill_sound (places.toArray[·]?) _ cs _ _ hcz hvr
            (fun p hp => by obtain ⟨q, hq, rfl⟩ := List.mem_map.1 hp; exact hc2 q hq) (by simpa [List.map_map, Function.comp_def] using hcs)
          rw [← hparts] at hw
          have hb : P.built t pv.toList = some ws := by simp only [Program.built, hi, hu, hzc, hpl]; exact hw
          have := run_build w t pv ws hb
          exact Step.pure (cv := .agg ws) hH (by simp [this]) (.agg _ _ hcw.1 hcw.2)
        · cases h
      · simp [aev] at h
    · simp [aev] at h
  · rename_i m e z hu hz
    split at h
    · rename_i sz hsz
      split at h
      · rename_i hc
        simp only [aev] at h
        split at h
        · rename_i cs hcs
          obtain ⟨rfl, rfl⟩ := some_nil h
          simp only [zeroT, Option.map_eq_some_iff, Option.bind_eq_some_iff] at hz
          obtain ⟨c, ⟨i, hi, hzc⟩, rfl⟩ := hz
          simp only [sizeT, Option.map_eq_some_iff] at hsz
          obtain ⟨ie, hie, rfl⟩ := hsz
          have hcz := CR.of_VR (cval_sound G μ 3 c) (isAgg_any hc)
          obtain ⟨ws, hw, hcw⟩ := fill_sound (fun i => some (i * ie.size, ie.size)) _ cs _ _ hcz hvr
            (fun p hp => rfl) (by simpa [List.map_map, Function.comp_def] using hcs)
          rw [← hparts] at hw
          have hb : P.built t pv.toList = some ws := by simp only [Program.built, hi, hu, hzc, hie]; exact hw
          have := run_build w t pv ws hb
          exact Step.pure (cv := .agg ws) hH (by simp [this]) (.agg _ _ hcw.1 hcw.2)
        · cases h
      · simp [aev] at h
    · simp [aev] at h
  · simp [aev] at h
end Go.Sx
