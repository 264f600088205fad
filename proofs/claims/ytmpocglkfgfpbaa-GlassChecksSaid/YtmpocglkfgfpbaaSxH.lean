/- A part of the proof: the abstract semantics. -/
import Derived.Test.YtmpocglkfgfpbaaSxG
import Derived.Below
set_option linter.unusedSimpArgs false
set_option linter.unusedVariables false
/- The rules by which code is reckoned: 'simp only [go_sem]'. -/
namespace Go.Sx
open Go

section
variable (H : Heap) (tk : TK)
@[go_sem] theorem abin_ints (op : BinOp) (k k' : IntKind) (a b : Int) : abin H tk op (.int k a) (.int k' b) = abinInt op k a k' b := rfl
@[go_sem] theorem abin_strs (op : BinOp) (a b : List UInt8) : abin H tk op (.str a) (.str b) = abinStr op a b := rfl
@[go_sem] theorem abin_beql (a b : Bool) : abin H .bool .eql (.bool a) (.bool b) = some (.bool (a == b)) := rfl
@[go_sem] theorem abin_bneq (a b : Bool) : abin H .bool .neq (.bool a) (.bool b) = some (.bool (!(a == b))) := rfl
@[go_sem] theorem abin_nilsl (x : AVal) : abin H .slice .eql x .nilsl = (isNilK H .slice x).map .bool := by cases x <;> rfl
@[go_sem] theorem abin_nilsl' (x : AVal) : abin H .slice .neq x .nilsl = (isNilK H .slice x).map fun b => .bool (!b) := by cases x <;> rfl
@[go_sem] theorem abin_nilptr (x : AVal) : abin H .ptr .eql x .nilptr = (isNilK H .ptr x).map .bool := by cases x <;> rfl
@[go_sem] theorem abin_nilptr' (x : AVal) : abin H .ptr .neq x .nilptr = (isNilK H .ptr x).map fun b => .bool (!b) := by cases x <;> rfl
@[go_sem] theorem abin_nilfn (x : AVal) : abin H .func .eql x .nilfn = (isNilK H .func x).map .bool := by cases x <;> rfl
@[go_sem] theorem abin_nilfn' (x : AVal) : abin H .func .neq x .nilfn = (isNilK H .func x).map fun b => .bool (!b) := by cases x <;> rfl

@[go_sem] theorem cellsAt_app0 (L : Heap) : Heap.cellsAt (H ++ L) (List.length H) = Heap.cellsAt L 0 := by
  unfold Heap.cellsAt; rw [List.getElem?_append_right (Nat.le_refl _), Nat.sub_self]
@[go_sem] theorem cellsAt_app (L : Heap) (j : Nat) : Heap.cellsAt (H ++ L) (List.length H + j) = Heap.cellsAt L j := by
  unfold Heap.cellsAt; rw [List.getElem?_append_right (Nat.le_add_right _ _), Nat.add_sub_cancel_left]
@[go_sem] theorem cellsAt_zero (g : Bool) (sz : Nat) (es : List AVal) (L : Heap) : Heap.cellsAt (some (.cells g sz es) :: L) 0 = some (g, sz, es) := rfl
@[go_sem] theorem cellsAt_succ (x : Option Row) (L : Heap) (n : Nat) : Heap.cellsAt (x :: L) (n + 1) = Heap.cellsAt L n := rfl

@[go_sem] theorem put_nil (x : Row) : Heap.put [] 0 x = [some x] := rfl
@[go_sem] theorem put_zero (y : Option Row) (L : Heap) (x : Row) : Heap.put (y :: L) 0 x = some x :: L := rfl
@[go_sem] theorem put_succ (y : Option Row) (L : Heap) (n : Nat) (x : Row) : Heap.put (y :: L) (n + 1) x = y :: Heap.put L n x := by
  unfold Heap.put
  by_cases h : n < List.length L
  · rw [if_pos (by simpa using h), if_pos h]; rfl
  · rw [if_neg (by simpa using h), if_neg h]
    simp
@[go_sem] theorem put_app0 (L : Heap) (x : Row) : Heap.put (H ++ L) (List.length H) x = H ++ Heap.put L 0 x := by
  unfold Heap.put
  by_cases h : 0 < List.length L
  · rw [if_pos (by rw [List.length_append]; omega), if_pos h, List.set_append_right (h := Nat.le_refl _), Nat.sub_self]
  · rw [if_neg (by rw [List.length_append]; omega), if_neg h, List.append_assoc]
    have : L = [] := List.eq_nil_of_length_eq_zero (by omega)
    subst this
    simp
@[go_sem] theorem put_app (L : Heap) (n : Nat) (x : Row) : Heap.put (H ++ L) (List.length H + n) x = H ++ Heap.put L n x := by
  unfold Heap.put
  by_cases h : n < List.length L
  · rw [if_pos (by rw [List.length_append]; omega), if_pos h, List.set_append_right (h := Nat.le_add_right _ _), Nat.add_sub_cancel_left]
  · rw [if_neg (by rw [List.length_append]; omega), if_neg h, List.append_assoc]
    have e : List.length H + n - List.length (H ++ L) = n - List.length L := by rw [List.length_append]; omega
    rw [e]
end

@[go_sem] theorem omap_if {α β : Type} (f : α → β) (c : Prop) [Decidable c] (o : Option α) : Option.map f (if c then o else none) = if c then Option.map f o else none := by by_cases h : c <;> simp [h]
@[go_sem] theorem omap_if' {α β : Type} (f : α → β) (c : Prop) [Decidable c] (o : Option α) : Option.map f (if c then none else o) = if c then none else Option.map f o := by by_cases h : c <;> simp [h]

@[go_sem] theorem sizedAll_nil (sz : Nat) : sizedAll sz [] = true := (rfl)
@[go_sem] theorem sizedAll_cons (sz : Nat) (v : AVal) (l : List AVal) : sizedAll sz (v :: l) = (((acells v).length == sz && (acells v).all AVal.one) && sizedAll sz l) := (rfl)
section
variable {S : Nat → Prop}
@[go_sem] theorem bel_any : Bel S .any = True := eq_true .any
@[go_sem] theorem bel_bool (b : Bool) : Bel S (.bool b) = True := eq_true (.bool b)
@[go_sem] theorem bel_int (q : IntKind) (n : Int) : Bel S (.int q n) = True := eq_true (.int q n)
@[go_sem] theorem bel_str (l : List UInt8) : Bel S (.str l) = True := eq_true (.str l)
@[go_sem] theorem bel_nilptr : Bel S .nilptr = True := eq_true .nilptr
@[go_sem] theorem bel_nilsl : Bel S .nilsl = True := eq_true .nilsl
@[go_sem] theorem bel_nilfn : Bel S .nilfn = True := eq_true .nilfn
@[go_sem] theorem bel_niliface : Bel S .niliface = True := eq_true .niliface
@[go_sem] theorem tail_nil (H : Heap) : (∃ X, H = H ++ X) = True := eq_true ⟨[], by simp⟩
@[go_sem] theorem tail_some (H Y : Heap) : (∃ X, H ++ Y = H ++ X) = True := eq_true ⟨Y, rfl⟩
end

section
variable {P : Program} {G : Ctx} {k : Nat} {rd : Option Nat} {R : Runner} (n : Nat) (fs : List Frame) (s : St) (Q : Goal) (l : List AOper) (o : AOper) (a b c : ACode) (id : Nat) (e : Exit) (lo hi : Nat) (ss : List (List AOper)) (tr : List (List Nat × List Nat))
@[go_sem] theorem run_ops_nil : Run P G k rd (n + 1) (.ops []) fs s Q = Run P G k rd n (.out .normal) fs s Q := (rfl)
@[go_sem] theorem run_ops_cons (ρ : List AVal) (H : Heap) (ms : List Nat) : Run P G k rd (n + 1) (.ops (o :: l)) fs ⟨ρ, H, ms⟩ Q = gd P G k rd (Run P G k rd n) (gval ρ o.guard) o l fs ρ H ms Q := (rfl)
@[go_sem] theorem run_skip : Run P G k rd (n + 1) (.code .skip) fs s Q = Run P G k rd n (.out .normal) fs s Q := (rfl)
@[go_sem] theorem run_reg : Run P G k rd (n + 1) (.code (.reg l false)) fs s Q = Run P G k rd n (.ops l) fs s Q := (rfl)
@[go_sem] theorem run_draw : Run P G k rd (n + 1) (.code (.reg l true)) fs s Q = (P.follows .mixedOrders = true ∧ statOK l = true ∧ Run P G k rd n (.segs 0 (segs l)) fs s Q) := (rfl)
@[go_sem] theorem run_seq : Run P G k rd (n + 1) (.code (.seq a b)) fs s Q = Run P G k rd n (.code a) (.seq b :: fs) s Q := (rfl)
@[go_sem] theorem run_cond (x : AOpd) (ρ : List AVal) (H : Heap) (ms : List Nat) : Run P G k rd (n + 1) (.code (.cond x a b)) fs ⟨ρ, H, ms⟩ Q = br (Run P G k rd n) (opd ρ x) a b fs ⟨ρ, H, ms⟩ Q := (rfl)
@[go_sem] theorem run_block : Run P G k rd (n + 1) (.code (.block id c)) fs s Q = Run P G k rd n (.code c) (.blk id :: fs) s Q := (rfl)
@[go_sem] theorem run_exit : Run P G k rd (n + 1) (.code (.exit id)) fs s Q = Run P G k rd n (.out (.exit id)) fs s Q := (rfl)
@[go_sem] theorem run_label : Run P G k rd (n + 1) (.code (.label id)) fs s Q = Run P G k rd n (.out .normal) fs s Q := (rfl)
@[go_sem] theorem run_goto : Run P G k rd (n + 1) (.code (.goto id)) fs s Q = Run P G k rd n (.out (.goto id)) fs s Q := (rfl)
@[go_sem] theorem run_ret : Run P G k rd (n + 1) (.code .ret) fs s Q = Run P G k rd n (.out .ret) fs s Q := (rfl)
@[go_sem] theorem run_scope : Run P G k rd (n + 1) (.code (.scope c)) fs s Q = Run P G k rd n (.code c) (.scp :: fs) s Q := (rfl)
@[go_sem] theorem run_scp_normal : Run P G k rd (n + 1) (.out .normal) (.scp :: fs) s Q = Run P G k rd n (.out .normal) fs s Q := (rfl)
@[go_sem] theorem run_scp_exit : Run P G k rd (n + 1) (.out (.exit id)) (.scp :: fs) s Q = Run P G k rd n (.out (.exit id)) fs s Q := (rfl)
@[go_sem] theorem run_scp_ret : Run P G k rd (n + 1) (.out .ret) (.scp :: fs) s Q = Run P G k rd n (.out .ret) fs s Q := (rfl)
@[go_sem] theorem run_loop : Run P G k rd (n + 1) (.code (.loop c)) fs s Q = Loop P G k rd c fs s Q := (rfl)
@[go_sem] theorem run_rng (g : AOpd) (ps : List Nat) : Run P G k rd (n + 1) (.code (.rng g ps a b)) fs s Q = Mean P G k rd (.code (.rng g ps a b)) fs s Q := (rfl)
@[go_sem] theorem run_out_nil : Run P G k rd (n + 1) (.out e) [] s Q = Q e s := (rfl)
@[go_sem] theorem run_seq_normal : Run P G k rd (n + 1) (.out .normal) (.seq c :: fs) s Q = Run P G k rd n (.code c) fs s Q := (rfl)
@[go_sem] theorem run_seq_exit : Run P G k rd (n + 1) (.out (.exit id)) (.seq c :: fs) s Q = Run P G k rd n (.out (.exit id)) fs s Q := (rfl)
@[go_sem] theorem run_seq_goto : Run P G k rd (n + 1) (.out (.goto id)) (.seq c :: fs) s Q = Run P G k rd n (.out (.goto id)) fs s Q := (rfl)
@[go_sem] theorem run_seq_ret : Run P G k rd (n + 1) (.out .ret) (.seq c :: fs) s Q = Run P G k rd n (.out .ret) fs s Q := (rfl)
@[go_sem] theorem run_blk_normal : Run P G k rd (n + 1) (.out .normal) (.blk id :: fs) s Q = Run P G k rd n (.out .normal) fs s Q := (rfl)
@[go_sem] theorem run_blk_exit (j : Nat) : Run P G k rd (n + 1) (.out (.exit j)) (.blk id :: fs) s Q = (if j = id then Run P G k rd n (.out .normal) fs s Q else Run P G k rd n (.out (.exit j)) fs s Q) := (rfl)
@[go_sem] theorem run_blk_goto (j : Nat) : Run P G k rd (n + 1) (.out (.goto j)) (.blk id :: fs) s Q = Run P G k rd n (.out (.goto j)) fs s Q := (rfl)
@[go_sem] theorem run_blk_ret : Run P G k rd (n + 1) (.out .ret) (.blk id :: fs) s Q = Run P G k rd n (.out .ret) fs s Q := (rfl)
@[go_sem] theorem run_rnd_normal : Run P G k rd (n + 1) (.out .normal) (.rnd c :: fs) s Q = Loop P G k rd c fs s Q := (rfl)
@[go_sem] theorem run_rnd_exit (j : Nat) : Run P G k rd (n + 1) (.out (.exit j)) (.rnd c :: fs) s Q = Run P G k rd n (.out (.exit j)) fs s Q := (rfl)
@[go_sem] theorem run_rnd_goto (j : Nat) : Run P G k rd (n + 1) (.out (.goto j)) (.rnd c :: fs) s Q = Run P G k rd n (.out (.goto j)) fs s Q := (rfl)
@[go_sem] theorem run_rnd_ret : Run P G k rd (n + 1) (.out .ret) (.rnd c :: fs) s Q = Run P G k rd n (.out .ret) fs s Q := (rfl)
@[go_sem] theorem run_sgs : Run P G k rd (n + 1) (.out .normal) (.sgs lo ss :: fs) s Q = Run P G k rd n (.segs lo ss) fs s Q := (rfl)
@[go_sem] theorem run_segs_nil : Run P G k rd (n + 1) (.segs lo []) fs s Q = Run P G k rd n (.out .normal) fs s Q := (rfl)
@[go_sem] theorem run_segs_one : Run P G k rd (n + 1) (.segs lo ([o] :: ss)) fs s Q = Run P G k rd n (.ops [o]) (.sgs (lo + 1) ss :: fs) s Q := (rfl)
@[go_sem] theorem run_segs_grp (o' : AOper) : Run P G k rd (n + 1) (.segs lo ((o :: o' :: l) :: ss)) fs s Q = Run P G k rd n (.grp lo (o :: o' :: l) [] (lo + (o :: o' :: l).length) ss) fs s Q := (rfl)
@[go_sem] theorem run_grp_nil : Run P G k rd (n + 1) (.grp lo [] tr hi ss) fs s Q = Run P G k rd n (.segs hi ss) fs s Q := (rfl)
@[go_sem] theorem run_grp_cons (ρ : List AVal) (H : Heap) (ms : List Nat) : Run P G k rd (n + 1) (.grp lo (o :: l) tr hi ss) fs ⟨ρ, H, ms⟩ Q = gdG P (Run P G k rd n) (gval ρ o.guard) o lo l tr hi ss fs ρ H ms Q := (rfl)

variable (ρ : List AVal) (H : Heap) (ms : List Nat)
@[go_sem] theorem stepOp_call (f : AOpd) (xs : List AOpd) : stepOp P G k rd R o (.call f xs) l fs ρ H ms Q = callee P G k rd R (opd ρ f) o (xs.map (opd ρ)) l fs ρ H ms Q := (rfl)
@[go_sem] theorem callee_fn (g : FuncId) (ys cs xs : List AVal) : callee P G k rd R (.fn (.func g) ys cs) o xs l fs ρ H ms Q = CallR P G k R g (ys ++ xs ++ cs) o.dst l fs ρ H ms Q := (rfl)
@[go_sem] theorem stepG_call (f : AOpd) (xs : List AOpd) : stepG P R o (.call f xs) lo l tr hi ss fs ρ H ms Q = calleeG P R (opd ρ f) o (xs.map (opd ρ)) lo l tr hi ss fs ρ H ms Q := (rfl)
@[go_sem] theorem stepG_callM (tab : List (Nat × Nat)) (f : AOpd) (xs : List AOpd) : stepG P R o (.callM tab f xs) lo l tr hi ss fs ρ H ms Q = calleeGM P R tab (opd ρ f) o (xs.map (opd ρ)) lo l tr hi ss fs ρ H ms Q := (rfl)
@[go_sem] theorem calleeG_fn (g : FuncId) (ys cs xs : List AVal) : calleeG P R (.fn (.func g) ys cs) o xs lo l tr hi ss fs ρ H ms Q = DCallR P R g (ys ++ xs ++ cs) o lo l tr hi ss fs ρ H ms Q := (rfl)
@[go_sem] theorem calleeGM_iface (tab : List (Nat × Nat)) (t g : Nat) (v : AVal) (xs : List AVal) (h : tabAt tab t = some g) : calleeGM P R tab (.iface t v) o xs lo l tr hi ss fs ρ H ms Q = DCallR P R g (v :: xs) o lo l tr hi ss fs ρ H ms Q := by
  simp only [calleeGM, h]
@[go_sem] theorem stepOp_callM (tab : List (Nat × Nat)) (f : AOpd) (xs : List AOpd) : stepOp P G k rd R o (.callM tab f xs) l fs ρ H ms Q = calleeM P G k R tab (opd ρ f) o (xs.map (opd ρ)) l fs ρ H ms Q := (rfl)
@[go_sem] theorem calleeM_iface (tab : List (Nat × Nat)) (t g : Nat) (v : AVal) (xs : List AVal) (h : tabAt tab t = some g) : calleeM P G k R tab (.iface t v) o xs l fs ρ H ms Q = CallR P G k R g (v :: xs) o.dst l fs ρ H ms Q := by
  simp only [calleeM, h]
@[go_sem] theorem so_move (x : AOpd) : stepOp P G k rd R o (.move x) l fs ρ H ms Q = owe R (aev (.move x) ρ H H.length) o.dst l fs ρ H ms Q := (rfl)
@[go_sem] theorem sg_move (x : AOpd) : stepG P R o (.move x) lo l tr hi ss fs ρ H ms Q = oweG R (aev (.move x) ρ H H.length) o (adeps (.move x) ρ) lo l tr hi ss fs ρ H ms Q := (rfl)
@[go_sem] theorem so_pick (c x y : AOpd) : stepOp P G k rd R o (.pick c x y) l fs ρ H ms Q = owe R (aev (.pick c x y) ρ H H.length) o.dst l fs ρ H ms Q := (rfl)
@[go_sem] theorem sg_pick (c x y : AOpd) : stepG P R o (.pick c x y) lo l tr hi ss fs ρ H ms Q = oweG R (aev (.pick c x y) ρ H H.length) o (adeps (.pick c x y) ρ) lo l tr hi ss fs ρ H ms Q := (rfl)
@[go_sem] theorem so_box (x : AOpd) : stepOp P G k rd R o (.box x) l fs ρ H ms Q = owe R (aev (.box x) ρ H H.length) o.dst l fs ρ H ms Q := (rfl)
@[go_sem] theorem sg_box (x : AOpd) : stepG P R o (.box x) lo l tr hi ss fs ρ H ms Q = oweG R (aev (.box x) ρ H H.length) o (adeps (.box x) ρ) lo l tr hi ss fs ρ H ms Q := (rfl)
@[go_sem] theorem so_build (z : List AVal) (p : List (Nat × Nat × AOpd)) : stepOp P G k rd R o (.build z p) l fs ρ H ms Q = owe R (aev (.build z p) ρ H H.length) o.dst l fs ρ H ms Q := (rfl)
@[go_sem] theorem sg_build (z : List AVal) (p : List (Nat × Nat × AOpd)) : stepG P R o (.build z p) lo l tr hi ss fs ρ H ms Q = oweG R (aev (.build z p) ρ H H.length) o (adeps (.build z p) ρ) lo l tr hi ss fs ρ H ms Q := (rfl)
@[go_sem] theorem so_buildSlice (z : Nat) (p : List AOpd) : stepOp P G k rd R o (.buildSlice z p) l fs ρ H ms Q = owe R (aev (.buildSlice z p) ρ H H.length) o.dst l fs ρ H ms Q := (rfl)
@[go_sem] theorem sg_buildSlice (z : Nat) (p : List AOpd) : stepG P R o (.buildSlice z p) lo l tr hi ss fs ρ H ms Q = oweG R (aev (.buildSlice z p) ρ H H.length) o (adeps (.buildSlice z p) ρ) lo l tr hi ss fs ρ H ms Q := (rfl)
@[go_sem] theorem so_load (m : Option Nat) (x : AOpd) : stepOp P G k rd R o (.load m x) l fs ρ H ms Q = owe R (aev (.load m x) ρ H H.length) o.dst l fs ρ H ms Q := (rfl)
@[go_sem] theorem sg_load (m : Option Nat) (x : AOpd) : stepG P R o (.load m x) lo l tr hi ss fs ρ H ms Q = oweG R (aev (.load m x) ρ H H.length) o (adeps (.load m x) ρ) lo l tr hi ss fs ρ H ms Q := (rfl)
@[go_sem] theorem so_store (m : Nat) (x y : AOpd) : stepOp P G k rd R o (.store m x y) l fs ρ H ms Q = owe R (aev (.store m x y) ρ H H.length) o.dst l fs ρ H ms Q := (rfl)
@[go_sem] theorem sg_store (m : Nat) (x y : AOpd) : stepG P R o (.store m x y) lo l tr hi ss fs ρ H ms Q = oweG R (aev (.store m x y) ρ H H.length) o (adeps (.store m x y) ρ) lo l tr hi ss fs ρ H ms Q := (rfl)
@[go_sem] theorem so_nilCheck (x : AOpd) : stepOp P G k rd R o (.nilCheck x) l fs ρ H ms Q = owe R (aev (.nilCheck x) ρ H H.length) o.dst l fs ρ H ms Q := (rfl)
@[go_sem] theorem sg_nilCheck (x : AOpd) : stepG P R o (.nilCheck x) lo l tr hi ss fs ρ H ms Q = oweG R (aev (.nilCheck x) ρ H H.length) o (adeps (.nilCheck x) ρ) lo l tr hi ss fs ρ H ms Q := (rfl)
@[go_sem] theorem so_bin (tk : TK) (b : BinOp) (x y : AOpd) : stepOp P G k rd R o (.bin tk b x y) l fs ρ H ms Q = owe R (aev (.bin tk b x y) ρ H H.length) o.dst l fs ρ H ms Q := (rfl)
@[go_sem] theorem sg_bin (tk : TK) (b : BinOp) (x y : AOpd) : stepG P R o (.bin tk b x y) lo l tr hi ss fs ρ H ms Q = oweG R (aev (.bin tk b x y) ρ H H.length) o (adeps (.bin tk b x y) ρ) lo l tr hi ss fs ρ H ms Q := (rfl)
@[go_sem] theorem so_eqAgg (g : Bool) (ks : List ECell) (x y : AOpd) : stepOp P G k rd R o (.eqAgg g ks x y) l fs ρ H ms Q = owe R (aev (.eqAgg g ks x y) ρ H H.length) o.dst l fs ρ H ms Q := (rfl)
@[go_sem] theorem sg_eqAgg (g : Bool) (ks : List ECell) (x y : AOpd) : stepG P R o (.eqAgg g ks x y) lo l tr hi ss fs ρ H ms Q = oweG R (aev (.eqAgg g ks x y) ρ H H.length) o (adeps (.eqAgg g ks x y) ρ) lo l tr hi ss fs ρ H ms Q := (rfl)
@[go_sem] theorem so_neg (x : AOpd) : stepOp P G k rd R o (.neg x) l fs ρ H ms Q = owe R (aev (.neg x) ρ H H.length) o.dst l fs ρ H ms Q := (rfl)
@[go_sem] theorem sg_neg (x : AOpd) : stepG P R o (.neg x) lo l tr hi ss fs ρ H ms Q = oweG R (aev (.neg x) ρ H H.length) o (adeps (.neg x) ρ) lo l tr hi ss fs ρ H ms Q := (rfl)
@[go_sem] theorem so_not (x : AOpd) : stepOp P G k rd R o (.not x) l fs ρ H ms Q = owe R (aev (.not x) ρ H H.length) o.dst l fs ρ H ms Q := (rfl)
@[go_sem] theorem sg_not (x : AOpd) : stepG P R o (.not x) lo l tr hi ss fs ρ H ms Q = oweG R (aev (.not x) ρ H H.length) o (adeps (.not x) ρ) lo l tr hi ss fs ρ H ms Q := (rfl)
@[go_sem] theorem so_toInt (q : IntKind) (x : AOpd) : stepOp P G k rd R o (.toInt q x) l fs ρ H ms Q = owe R (aev (.toInt q x) ρ H H.length) o.dst l fs ρ H ms Q := (rfl)
@[go_sem] theorem sg_toInt (q : IntKind) (x : AOpd) : stepG P R o (.toInt q x) lo l tr hi ss fs ρ H ms Q = oweG R (aev (.toInt q x) ρ H H.length) o (adeps (.toInt q x) ρ) lo l tr hi ss fs ρ H ms Q := (rfl)
@[go_sem] theorem so_strStr (x : AOpd) : stepOp P G k rd R o (.strStr x) l fs ρ H ms Q = owe R (aev (.strStr x) ρ H H.length) o.dst l fs ρ H ms Q := (rfl)
@[go_sem] theorem sg_strStr (x : AOpd) : stepG P R o (.strStr x) lo l tr hi ss fs ρ H ms Q = oweG R (aev (.strStr x) ρ H H.length) o (adeps (.strStr x) ρ) lo l tr hi ss fs ρ H ms Q := (rfl)
@[go_sem] theorem so_bytesToStr (x : AOpd) : stepOp P G k rd R o (.bytesToStr x) l fs ρ H ms Q = owe R (aev (.bytesToStr x) ρ H H.length) o.dst l fs ρ H ms Q := (rfl)
@[go_sem] theorem sg_bytesToStr (x : AOpd) : stepG P R o (.bytesToStr x) lo l tr hi ss fs ρ H ms Q = oweG R (aev (.bytesToStr x) ρ H H.length) o (adeps (.bytesToStr x) ρ) lo l tr hi ss fs ρ H ms Q := (rfl)
@[go_sem] theorem so_strToBytes (x : AOpd) : stepOp P G k rd R o (.strToBytes x) l fs ρ H ms Q = owe R (aev (.strToBytes x) ρ H H.length) o.dst l fs ρ H ms Q := (rfl)
@[go_sem] theorem sg_strToBytes (x : AOpd) : stepG P R o (.strToBytes x) lo l tr hi ss fs ρ H ms Q = oweG R (aev (.strToBytes x) ρ H H.length) o (adeps (.strToBytes x) ρ) lo l tr hi ss fs ρ H ms Q := (rfl)
@[go_sem] theorem so_makeFunc (f : Go.Fn) (x y : List AOpd) : stepOp P G k rd R o (.makeFunc f x y) l fs ρ H ms Q = owe R (aev (.makeFunc f x y) ρ H H.length) o.dst l fs ρ H ms Q := (rfl)
@[go_sem] theorem sg_makeFunc (f : Go.Fn) (x y : List AOpd) : stepG P R o (.makeFunc f x y) lo l tr hi ss fs ρ H ms Q = oweG R (aev (.makeFunc f x y) ρ H H.length) o (adeps (.makeFunc f x y) ρ) lo l tr hi ss fs ρ H ms Q := (rfl)
@[go_sem] theorem so_makeIface (t : TypeId) (x : AOpd) : stepOp P G k rd R o (.makeIface t x) l fs ρ H ms Q = owe R (aev (.makeIface t x) ρ H H.length) o.dst l fs ρ H ms Q := (rfl)
@[go_sem] theorem sg_makeIface (t : TypeId) (x : AOpd) : stepG P R o (.makeIface t x) lo l tr hi ss fs ρ H ms Q = oweG R (aev (.makeIface t x) ρ H H.length) o (adeps (.makeIface t x) ρ) lo l tr hi ss fs ρ H ms Q := (rfl)
@[go_sem] theorem so_makeSlice (z : AVal) (m : Nat) (x y : AOpd) : stepOp P G k rd R o (.makeSlice z m x y) l fs ρ H ms Q = owe R (aev (.makeSlice z m x y) ρ H H.length) o.dst l fs ρ H ms Q := (rfl)
@[go_sem] theorem sg_makeSlice (z : AVal) (m : Nat) (x y : AOpd) : stepG P R o (.makeSlice z m x y) lo l tr hi ss fs ρ H ms Q = oweG R (aev (.makeSlice z m x y) ρ H H.length) o (adeps (.makeSlice z m x y) ρ) lo l tr hi ss fs ρ H ms Q := (rfl)
@[go_sem] theorem so_slice (b : Bool) (m : Nat) (x : AOpd) (y z : Option AOpd) : stepOp P G k rd R o (.slice b m x y z) l fs ρ H ms Q = owe R (aev (.slice b m x y z) ρ H H.length) o.dst l fs ρ H ms Q := (rfl)
@[go_sem] theorem sg_slice (b : Bool) (m : Nat) (x : AOpd) (y z : Option AOpd) : stepG P R o (.slice b m x y z) lo l tr hi ss fs ρ H ms Q = oweG R (aev (.slice b m x y z) ρ H H.length) o (adeps (.slice b m x y z) ρ) lo l tr hi ss fs ρ H ms Q := (rfl)
@[go_sem] theorem so_fieldAddr (m : Nat) (x : AOpd) : stepOp P G k rd R o (.fieldAddr m x) l fs ρ H ms Q = owe R (aev (.fieldAddr m x) ρ H H.length) o.dst l fs ρ H ms Q := (rfl)
@[go_sem] theorem sg_fieldAddr (m : Nat) (x : AOpd) : stepG P R o (.fieldAddr m x) lo l tr hi ss fs ρ H ms Q = oweG R (aev (.fieldAddr m x) ρ H H.length) o (adeps (.fieldAddr m x) ρ) lo l tr hi ss fs ρ H ms Q := (rfl)
@[go_sem] theorem so_field (m : Option Nat) (q : Nat) (x : AOpd) : stepOp P G k rd R o (.field m q x) l fs ρ H ms Q = owe R (aev (.field m q x) ρ H H.length) o.dst l fs ρ H ms Q := (rfl)
@[go_sem] theorem sg_field (m : Option Nat) (q : Nat) (x : AOpd) : stepG P R o (.field m q x) lo l tr hi ss fs ρ H ms Q = oweG R (aev (.field m q x) ρ H H.length) o (adeps (.field m q x) ρ) lo l tr hi ss fs ρ H ms Q := (rfl)
@[go_sem] theorem so_indexAddr (m : Nat) (x y : AOpd) : stepOp P G k rd R o (.indexAddr m x y) l fs ρ H ms Q = owe R (aev (.indexAddr m x y) ρ H H.length) o.dst l fs ρ H ms Q := (rfl)
@[go_sem] theorem sg_indexAddr (m : Nat) (x y : AOpd) : stepG P R o (.indexAddr m x y) lo l tr hi ss fs ρ H ms Q = oweG R (aev (.indexAddr m x y) ρ H H.length) o (adeps (.indexAddr m x y) ρ) lo l tr hi ss fs ρ H ms Q := (rfl)
@[go_sem] theorem so_indexArr (m q : Nat) (x y : AOpd) : stepOp P G k rd R o (.indexArr m q x y) l fs ρ H ms Q = owe R (aev (.indexArr m q x y) ρ H H.length) o.dst l fs ρ H ms Q := (rfl)
@[go_sem] theorem sg_indexArr (m q : Nat) (x y : AOpd) : stepG P R o (.indexArr m q x y) lo l tr hi ss fs ρ H ms Q = oweG R (aev (.indexArr m q x y) ρ H H.length) o (adeps (.indexArr m q x y) ρ) lo l tr hi ss fs ρ H ms Q := (rfl)
@[go_sem] theorem so_indexAgg (m q : Nat) (g : Bool) (x y : AOpd) : stepOp P G k rd R o (.indexAgg m q g x y) l fs ρ H ms Q = owe R (aev (.indexAgg m q g x y) ρ H H.length) o.dst l fs ρ H ms Q := (rfl)
@[go_sem] theorem sg_indexAgg (m q : Nat) (g : Bool) (x y : AOpd) : stepG P R o (.indexAgg m q g x y) lo l tr hi ss fs ρ H ms Q = oweG R (aev (.indexAgg m q g x y) ρ H H.length) o (adeps (.indexAgg m q g x y) ρ) lo l tr hi ss fs ρ H ms Q := (rfl)
@[go_sem] theorem so_indexStr (x y : AOpd) : stepOp P G k rd R o (.indexStr x y) l fs ρ H ms Q = owe R (aev (.indexStr x y) ρ H H.length) o.dst l fs ρ H ms Q := (rfl)
@[go_sem] theorem sg_indexStr (x y : AOpd) : stepG P R o (.indexStr x y) lo l tr hi ss fs ρ H ms Q = oweG R (aev (.indexStr x y) ρ H H.length) o (adeps (.indexStr x y) ρ) lo l tr hi ss fs ρ H ms Q := (rfl)
@[go_sem] theorem so_extract (x : AOpd) (m : Nat) : stepOp P G k rd R o (.extract x m) l fs ρ H ms Q = owe R (aev (.extract x m) ρ H H.length) o.dst l fs ρ H ms Q := (rfl)
@[go_sem] theorem sg_extract (x : AOpd) (m : Nat) : stepG P R o (.extract x m) lo l tr hi ss fs ρ H ms Q = oweG R (aev (.extract x m) ρ H H.length) o (adeps (.extract x m) ρ) lo l tr hi ss fs ρ H ms Q := (rfl)
@[go_sem] theorem so_len (b : Bool) (x : AOpd) : stepOp P G k rd R o (.len b x) l fs ρ H ms Q = owe R (aev (.len b x) ρ H H.length) o.dst l fs ρ H ms Q := (rfl)
@[go_sem] theorem sg_len (b : Bool) (x : AOpd) : stepG P R o (.len b x) lo l tr hi ss fs ρ H ms Q = oweG R (aev (.len b x) ρ H H.length) o (adeps (.len b x) ρ) lo l tr hi ss fs ρ H ms Q := (rfl)
@[go_sem] theorem so_lenArr (m : Nat) : stepOp P G k rd R o (.lenArr m) l fs ρ H ms Q = owe R (aev (.lenArr m) ρ H H.length) o.dst l fs ρ H ms Q := (rfl)
@[go_sem] theorem sg_lenArr (m : Nat) : stepG P R o (.lenArr m) lo l tr hi ss fs ρ H ms Q = oweG R (aev (.lenArr m) ρ H H.length) o (adeps (.lenArr m) ρ) lo l tr hi ss fs ρ H ms Q := (rfl)
@[go_sem] theorem so_cap (x : AOpd) : stepOp P G k rd R o (.cap x) l fs ρ H ms Q = owe R (aev (.cap x) ρ H H.length) o.dst l fs ρ H ms Q := (rfl)
@[go_sem] theorem sg_cap (x : AOpd) : stepG P R o (.cap x) lo l tr hi ss fs ρ H ms Q = oweG R (aev (.cap x) ρ H H.length) o (adeps (.cap x) ρ) lo l tr hi ss fs ρ H ms Q := (rfl)
@[go_sem] theorem so_appendN (a b : Nat) (z : AVal) (x y : AOpd) : stepOp P G k rd R o (.appendN a b z x y) l fs ρ H ms Q = owe R (aev (.appendN a b z x y) ρ H H.length) o.dst l fs ρ H ms Q := (rfl)
@[go_sem] theorem sg_appendN (a b : Nat) (z : AVal) (x y : AOpd) : stepG P R o (.appendN a b z x y) lo l tr hi ss fs ρ H ms Q = oweG R (aev (.appendN a b z x y) ρ H H.length) o (adeps (.appendN a b z x y) ρ) lo l tr hi ss fs ρ H ms Q := (rfl)
@[go_sem] theorem so_minmax (b : Bool) (x : List AOpd) : stepOp P G k rd R o (.minmax b x) l fs ρ H ms Q = owe R (aev (.minmax b x) ρ H H.length) o.dst l fs ρ H ms Q := (rfl)
@[go_sem] theorem sg_minmax (b : Bool) (x : List AOpd) : stepG P R o (.minmax b x) lo l tr hi ss fs ρ H ms Q = oweG R (aev (.minmax b x) ρ H H.length) o (adeps (.minmax b x) ρ) lo l tr hi ss fs ρ H ms Q := (rfl)
@[go_sem] theorem so_makeMap (kk : IntKind) : stepOp P G k rd R o (.makeMap kk) l fs ρ H ms Q = owe R (aev (.makeMap kk) ρ H H.length) o.dst l fs ρ H ms Q := (rfl)
@[go_sem] theorem sg_makeMap (kk : IntKind) : stepG P R o (.makeMap kk) lo l tr hi ss fs ρ H ms Q = oweG R (aev (.makeMap kk) ρ H H.length) o (adeps (.makeMap kk) ρ) lo l tr hi ss fs ρ H ms Q := (rfl)
@[go_sem] theorem so_lookup (kk : IntKind) (z : AVal) (b : Bool) (x y : AOpd) : stepOp P G k rd R o (.lookup kk z b x y) l fs ρ H ms Q = owe R (aev (.lookup kk z b x y) ρ H H.length) o.dst l fs ρ H ms Q := (rfl)
@[go_sem] theorem sg_lookup (kk : IntKind) (z : AVal) (b : Bool) (x y : AOpd) : stepG P R o (.lookup kk z b x y) lo l tr hi ss fs ρ H ms Q = oweG R (aev (.lookup kk z b x y) ρ H H.length) o (adeps (.lookup kk z b x y) ρ) lo l tr hi ss fs ρ H ms Q := (rfl)
@[go_sem] theorem so_mapUpdate (kk : IntKind) (x y z : AOpd) : stepOp P G k rd R o (.mapUpdate kk x y z) l fs ρ H ms Q = owe R (aev (.mapUpdate kk x y z) ρ H H.length) o.dst l fs ρ H ms Q := (rfl)
@[go_sem] theorem sg_mapUpdate (kk : IntKind) (x y z : AOpd) : stepG P R o (.mapUpdate kk x y z) lo l tr hi ss fs ρ H ms Q = oweG R (aev (.mapUpdate kk x y z) ρ H H.length) o (adeps (.mapUpdate kk x y z) ρ) lo l tr hi ss fs ρ H ms Q := (rfl)
@[go_sem] theorem so_append (m q : Nat) (b : Bool) (x y : AOpd) : stepOp P G k rd R o (.append m q b x y) l fs ρ H ms Q = owe R (aev (.append m q b x y) ρ H H.length) o.dst l fs ρ H ms Q := (rfl)
@[go_sem] theorem sg_append (m q : Nat) (b : Bool) (x y : AOpd) : stepG P R o (.append m q b x y) lo l tr hi ss fs ρ H ms Q = oweG R (aev (.append m q b x y) ρ H H.length) o (adeps (.append m q b x y) ρ) lo l tr hi ss fs ρ H ms Q := (rfl)
@[go_sem] theorem so_appendStr (x y : AOpd) : stepOp P G k rd R o (.appendStr x y) l fs ρ H ms Q = owe R (aev (.appendStr x y) ρ H H.length) o.dst l fs ρ H ms Q := (rfl)
@[go_sem] theorem sg_appendStr (x y : AOpd) : stepG P R o (.appendStr x y) lo l tr hi ss fs ρ H ms Q = oweG R (aev (.appendStr x y) ρ H H.length) o (adeps (.appendStr x y) ρ) lo l tr hi ss fs ρ H ms Q := (rfl)
@[go_sem] theorem so_isNilI (b : Bool) (x : AOpd) : stepOp P G k rd R o (.isNilI b x) l fs ρ H ms Q = owe R (aev (.isNilI b x) ρ H H.length) o.dst l fs ρ H ms Q := (rfl)
@[go_sem] theorem sg_isNilI (b : Bool) (x : AOpd) : stepG P R o (.isNilI b x) lo l tr hi ss fs ρ H ms Q = oweG R (aev (.isNilI b x) ρ H H.length) o (adeps (.isNilI b x) ρ) lo l tr hi ss fs ρ H ms Q := (rfl)
@[go_sem] theorem so_allocArr (cs : List AVal) : stepOp P G k rd R o (.allocArr cs) l fs ρ H ms Q = owe R (aev (.allocArr cs) ρ H H.length) o.dst l fs ρ H ms Q := (rfl)
@[go_sem] theorem sg_allocArr (cs : List AVal) : stepG P R o (.allocArr cs) lo l tr hi ss fs ρ H ms Q = oweG R (aev (.allocArr cs) ρ H H.length) o (adeps (.allocArr cs) ρ) lo l tr hi ss fs ρ H ms Q := (rfl)
@[go_sem] theorem so_indexArrB (m : Nat) (x y : AOpd) : stepOp P G k rd R o (.indexArrB m x y) l fs ρ H ms Q = owe R (aev (.indexArrB m x y) ρ H H.length) o.dst l fs ρ H ms Q := (rfl)
@[go_sem] theorem sg_indexArrB (m : Nat) (x y : AOpd) : stepG P R o (.indexArrB m x y) lo l tr hi ss fs ρ H ms Q = oweG R (aev (.indexArrB m x y) ρ H H.length) o (adeps (.indexArrB m x y) ρ) lo l tr hi ss fs ρ H ms Q := (rfl)
@[go_sem] theorem so_sliceArrB (m : Nat) (x : AOpd) (lw h : Option AOpd) : stepOp P G k rd R o (.sliceArrB m x lw h) l fs ρ H ms Q = owe R (aev (.sliceArrB m x lw h) ρ H H.length) o.dst l fs ρ H ms Q := (rfl)
@[go_sem] theorem sg_sliceArrB (m : Nat) (x : AOpd) (lw h : Option AOpd) : stepG P R o (.sliceArrB m x lw h) lo l tr hi ss fs ρ H ms Q = oweG R (aev (.sliceArrB m x lw h) ρ H H.length) o (adeps (.sliceArrB m x lw h) ρ) lo l tr hi ss fs ρ H ms Q := (rfl)
@[go_sem] theorem so_ext (q : XK) (x y : AOpd) : stepOp P G k rd R o (.ext q x y) l fs ρ H ms Q = owe R (aev (.ext q x y) ρ H H.length) o.dst l fs ρ H ms Q := (rfl)
@[go_sem] theorem sg_ext (q : XK) (x y : AOpd) : stepG P R o (.ext q x y) lo l tr hi ss fs ρ H ms Q = oweG R (aev (.ext q x y) ρ H H.length) o (adeps (.ext q x y) ρ) lo l tr hi ss fs ρ H ms Q := (rfl)
@[go_sem] theorem so_slice3 (z : Nat) (x : AOpd) (lw : Option AOpd) (h m : AOpd) : stepOp P G k rd R o (.slice3 z x lw h m) l fs ρ H ms Q = owe R (aev (.slice3 z x lw h m) ρ H H.length) o.dst l fs ρ H ms Q := (rfl)
@[go_sem] theorem sg_slice3 (z : Nat) (x : AOpd) (lw : Option AOpd) (h m : AOpd) : stepG P R o (.slice3 z x lw h m) lo l tr hi ss fs ρ H ms Q = oweG R (aev (.slice3 z x lw h m) ρ H H.length) o (adeps (.slice3 z x lw h m) ρ) lo l tr hi ss fs ρ H ms Q := (rfl)
@[go_sem] theorem so_markStr (x : AOpd) : stepOp P G k rd R o (.markStr x) l fs ρ H ms Q = owe R (aev (.markStr x) ρ H H.length) o.dst l fs ρ H ms Q := (rfl)
@[go_sem] theorem sg_markStr (x : AOpd) : stepG P R o (.markStr x) lo l tr hi ss fs ρ H ms Q = oweG R (aev (.markStr x) ρ H H.length) o (adeps (.markStr x) ρ) lo l tr hi ss fs ρ H ms Q := (rfl)
@[go_sem] theorem gd_true' : gd P G k rd R (some true) o l fs ρ H ms Q = stepOp P G k rd R o o.op l fs (known ρ true o.guard) H ms Q := (rfl)
@[go_sem] theorem gd_false' : gd P G k rd R (some false) o l fs ρ H ms Q = R (.ops l) fs ⟨setD (known ρ false o.guard) o.dst (.tup []), H, ms⟩ Q := (rfl)
@[go_sem] theorem gdG_true' : gdG P R (some true) o lo l tr hi ss fs ρ H ms Q = stepG P R o o.op lo l tr hi ss fs (known ρ true o.guard) H ms Q := (rfl)
@[go_sem] theorem gdG_false' : gdG P R (some false) o lo l tr hi ss fs ρ H ms Q = R (.grp lo l (tr ++ [([], [])]) hi ss) fs ⟨setD (known ρ false o.guard) o.dst (.tup []), H, ms⟩ Q := (rfl)
@[go_sem] theorem owe_some' (dst : Option Nat) (v : AVal) (Δ : List (Nat × Row)) : owe R (some (v, Δ)) dst l fs ρ H ms Q = R (.ops l) fs ⟨setD ρ dst v, H.puts Δ, ms⟩ Q := (rfl)
@[go_sem] theorem owe_none' (dst : Option Nat) : owe R none dst l fs ρ H ms Q = False := (rfl)
@[go_sem] theorem oweG_some' (deps : List Nat) (v : AVal) (Δ : List (Nat × Row)) : oweG R (some (v, Δ)) o deps lo l tr hi ss fs ρ H ms Q = (dynOK o.free deps (Δ.map (·.1)) tr lo = true ∧ R (.grp lo l (tr ++ [(deps, Δ.map (·.1))]) hi ss) fs ⟨setD ρ o.dst v, H.puts Δ, ms⟩ Q) := (rfl)
@[go_sem] theorem oweG_none' (deps : List Nat) : oweG R none o deps lo l tr hi ss fs ρ H ms Q = False := (rfl)
@[go_sem] theorem br_true' : br R (.bool true) a b fs s Q = R (.code a) fs s Q := (rfl)
@[go_sem] theorem br_false' : br R (.bool false) a b fs s Q = R (.code b) fs s Q := (rfl)
end
section
variable (v u : AVal) (ρ : List AVal) (n : Nat)
@[go_sem] theorem tget_zero : tget (v :: ρ) 0 = v := (rfl)
@[go_sem] theorem tget_succ : tget (v :: ρ) (n + 1) = tget ρ n := (rfl)
@[go_sem] theorem tset_zero : tset (v :: ρ) 0 u = u :: ρ := (rfl)
@[go_sem] theorem tset_succ : tset (v :: ρ) (n + 1) u = v :: tset ρ n u := (rfl)
@[go_sem] theorem setD_some : setD ρ (some n) v = tset ρ n v := (rfl)
@[go_sem] theorem setD_none : setD ρ none v = ρ := (rfl)
@[go_sem] theorem opd_tmp : opd ρ (.tmp n) = tget ρ n := (rfl)
@[go_sem] theorem opd_const : opd ρ (.const v) = v := (rfl)
end
@[go_sem] theorem disj_nil (b : List Nat) : disj [] b = true := rfl
@[go_sem] theorem disj_nil' (a : List Nat) : disj a [] = true := by simp [disj]
@[go_sem] theorem dynOK_nil (f d r : List Nat) (i : Nat) : dynOK f d r [] i = true := rfl
@[go_sem] theorem dynOK_cons (f deps rows d w : List Nat) (tr : List (List Nat × List Nat)) (i : Nat) : dynOK f deps rows ((d, w) :: tr) i = ((!f.contains i || (disj w rows && (disj d rows && disj deps w))) && dynOK f deps rows tr (i + 1)) := rfl
@[go_sem] theorem contains_none (x : Nat) : ([] : List Nat).contains x = false := rfl
def bitW (op : BinOp) (k : IntKind) (a b : Int) : Int := (bitsOf op k a b).getD 0
def shlW (k : IntKind) (a b : Int) : Int := k.wrap (a * 2 ^ (min b.toNat k.bits))
def shrW (k : IntKind) (a b : Int) : Int := a.fdiv (2 ^ (min b.toNat k.bits))
section
variable (k k' : IntKind) (a b : Int)
@[go_sem] theorem ai_shl : abinInt .shl k a k' b = if b < 0 then none else some (.int k (shlW k a b)) := rfl
@[go_sem] theorem ai_shr : abinInt .shr k a k' b = if b < 0 then none else some (.int k (shrW k a b)) := rfl
@[go_sem] theorem ai_add : abinInt .add k a k b = some (.int k (k.wrap (a + b))) := by simp only [abinInt, if_true]
@[go_sem] theorem ai_sub : abinInt .sub k a k b = some (.int k (k.wrap (a - b))) := by simp only [abinInt, if_true]
@[go_sem] theorem ai_mul : abinInt .mul k a k b = some (.int k (k.wrap (a * b))) := by simp only [abinInt, if_true]
@[go_sem] theorem ai_quo : abinInt .quo k a k b = if b ≠ 0 then some (.int k (k.wrap (a.tdiv b))) else none := by simp only [abinInt, true_and]
@[go_sem] theorem ai_rem : abinInt .rem k a k b = if b ≠ 0 then some (.int k (a.tmod b)) else none := by simp only [abinInt, true_and]
@[go_sem] theorem ai_eql : abinInt .eql k a k b = some (.bool (a == b)) := by simp only [abinInt, if_true]
@[go_sem] theorem ai_neq : abinInt .neq k a k b = some (.bool (a != b)) := by simp only [abinInt, if_true]
@[go_sem] theorem ai_lss : abinInt .lss k a k b = some (.bool (decide (a < b))) := by simp only [abinInt, if_true]
@[go_sem] theorem ai_leq : abinInt .leq k a k b = some (.bool (decide (a ≤ b))) := by simp only [abinInt, if_true]
@[go_sem] theorem ai_gtr : abinInt .gtr k a k b = some (.bool (decide (b < a))) := by simp only [abinInt, if_true]
@[go_sem] theorem ai_geq : abinInt .geq k a k b = some (.bool (decide (b ≤ a))) := by simp only [abinInt, if_true]
@[go_sem] theorem ai_and : abinInt .and k a k b = some (.int k (bitW .and k a b)) := by simp only [abinInt, if_true, bitW, bitsOf]; rfl
@[go_sem] theorem ai_or : abinInt .or k a k b = some (.int k (bitW .or k a b)) := by simp only [abinInt, if_true, bitW, bitsOf]; rfl
@[go_sem] theorem ai_xor : abinInt .xor k a k b = some (.int k (bitW .xor k a b)) := by simp only [abinInt, if_true, bitW, bitsOf]; rfl
@[go_sem] theorem ai_andNot : abinInt .andNot k a k b = some (.int k (bitW .andNot k a b)) := by simp only [abinInt, if_true, bitW, bitsOf]; rfl
end
attribute [go_sem] bel_agg bel_tup bel_view bel_rptr bel_fn bel_iface bel_ptr bel_sl bel_yfn bels_ints bels_bools bels_app Bels nv_agg nv_tup nvs_ints NVs
attribute [go_sem] oweG_if oweG_if' adeps vrows List.contains_cons exists_const exists_eq' exists_eq
attribute [go_sem low] oweG_ite gdG_some

attribute [go_sem] known gval boolOf aev abinStr RetPost resOf resVals resVal freed ldv partOf setPart acells setParts elemsOf lenOfIn intOf isStr isNilK isNilIn isNil tkOf minmaxs
  AVal.one AVal.isAny AVal.isAgg eqCell eqCells owe_if owe_if' Heap.puts_nil Heap.puts_cons Heap.put_end'
attribute [go_sem low] owe_ite gd_some br_some
attribute [go_sem] if_true if_false ite_self eq_self and_true true_and and_false false_and or_true true_or or_false false_or not_true_eq_false not_false_eq_true true_implies
  implies_true false_implies decide_eq_true_eq decide_true decide_false Bool.not_true Bool.not_false Bool.true_and Bool.false_and Bool.and_true Bool.and_false
  Bool.true_or Bool.false_or Bool.or_true Bool.or_false beq_self_eq_true bne_self_eq_false reduceCtorEq
  List.replicate List.length_append List.length_cons List.length_nil List.cons_append List.nil_append List.append_nil List.map_cons List.map_nil List.all_cons List.all_nil List.append_assoc
  Nat.zero_add Nat.add_zero Option.map_some Option.map_none ne_eq Nat.le_refl Nat.le_add_right
  List.getElem?_cons_zero List.getElem?_cons_succ List.getElem?_nil List.set_cons_zero List.set_cons_succ List.drop_zero List.drop_succ_cons List.drop_nil List.take_zero List.take_succ_cons List.take_nil
  Option.some.injEq AVal.bool.injEq AVal.int.injEq AVal.str.injEq exists_eq_left' exists_eq_left List.not_mem_nil List.nodup_nil or_self beq_true beq_false Bool.not_eq_true' Bool.not_eq_false' decide_eq_false_iff_not Bool.false_eq_true
attribute [go_sem] Nat.reduceAdd Nat.reduceSub Nat.reduceMul Nat.reduceLT Nat.reduceEqDiff Int.reduceLT Int.reduceLE Int.reduceAdd Int.reduceSub Int.reduceMul Int.reduceNeg Int.reduceToNat Int.reduceEq Int.reduceNe reduceIte Nat.reduceBEq Nat.reduceLeDiff
@[go_sem] theorem nat_nlt (n : Nat) : ((n : Int) < 0) = False := by simp only [eq_iff_iff, iff_false]; omega
attribute [go_sem] Int.toNat_natCast Int.lt_irrefl Nat.lt_irrefl List.getElem?_map List.length_map beq_iff_eq beq_eq_false_iff_ne bne_iff_ne bne_eq_false_iff_eq
end Go.Sx
/- Calls that hand over one row. -/
namespace Go.Sx
open Go

theorem Row.ren_same {f : Nat → Nat} {x : Row} (h : x.bel (fun _ => False)) : x.ren f = x := by
  cases x with
  | cells g sz es =>
    simp only [Row.ren]
    congr 1
    rw [row_bel_cells] at h
    exact list_ext_getD (by simp [rens_len]) fun i hi => by rw [rens_getD]; exact Sx.ren_same ((bels_iff es).1 h i (by simpa [rens_len] using hi))
  | loop ρ ps asg body d st pend => exact h.1.elim
  | dfr => rfl
  | siter s pos => rfl
  | mapr kk ks vs =>
    simp only [Row.ren]
    congr 1
    exact list_ext_getD (by simp [rens_len]) fun i hi => by rw [rens_getD]; exact Sx.ren_same (h i (by simpa [rens_len] using hi))
  | dead => rfl

section
variable {P : Program} {G : Ctx} {g : FuncId} {args : List AVal} {H : Heap} {r : AVal} {k : Nat} {rd : Option Nat} {R : Runner} {l : List AOper} {fs : List Frame} {ρ : List AVal} {ms : List Nat} {Q : Goal} {dst : Option Nat} {x x' : Row} {j : Nat}

theorem put_lt {H : Heap} {j : Nat} {x : Row} (h : j < H.length) : H.put j x = H.set j (some x) := by simp [Heap.put, h]

theorem callD (h : Ans P g (.ptr 0 0 0 1 :: args) [some x] r [some x']) (hj : H[j]? = some (some x)) (hb : Bels (fun _ => False) args) (hr : Bel (fun _ => False) r) (hx : x.bel (fun _ => False)) (hx' : x'.bel (fun _ => False))
    (hk : k ≤ H.length) (hms : ∀ q ∈ ms, q ≠ j ∧ H[q]? = some (some .dfr)) (hK : R (.ops l) fs ⟨setD ρ dst r, H.set j (some x'), ms⟩ Q) : CallR P G k R g (.ptr j 0 0 1 :: args) dst l fs ρ H ms Q := by
  have hlt : j < H.length := (List.getElem?_eq_some_iff.1 hj).1
  have hargs : args.map (ren (nth [j])) = args := by
    conv => rhs; rw [← List.map_id args]
    exact List.map_congr_left fun v hv => ren_same (bels_mem hb v hv)
  have hb1 : ∀ {n : Nat}, Bels (· < n) args := bels_of fun v hv => (bels_mem hb v hv).mono fun _ h => h.elim
  have e : outΔ (outσ [j] H.length) 0 [some x'] = [(j, x')] := by
    simp only [outΔ, Row.ren_same hx']
    rfl
  refine callS h [j] (by simp) ⟨by rw [Row.ren_same hx]; exact hj, trivial⟩ (by simp only [List.map_cons, hargs]; rfl) ⟨by rw [bel_ptr]; simp, hb1⟩ ⟨bel_mono_row hx fun _ h => h.elim, trivial⟩ (Nat.le_refl _) (hr.mono fun _ h => h.elim)
    ⟨bel_mono_row hx' fun _ h => h.elim, trivial⟩ (by simpa using hlt) hk (fun q hq => ?_) ?_
  · rw [e]; simpa using hms q hq
  · rw [e, ren_same hr]
    simp only [Heap.puts, put_lt hlt]
    exact hK
end

def Wk : List AVal → List AVal → Prop
  | [], [] => True
  | v :: ρ, u :: ρ' => (u = .any ∨ u = v) ∧ Wk ρ ρ'
  | _, _ => False

theorem Wk.get : ∀ {ρ ρ' : List AVal}, Wk ρ ρ' → ρ'.length = ρ.length ∧ ∀ t, ρ'.getD t .any = .any ∨ ρ'.getD t .any = ρ.getD t .any
  | [], [], _ => ⟨rfl, fun t => .inl (by simp)⟩
  | v :: ρ, u :: ρ', h => by
    obtain ⟨h1, h2⟩ := Wk.get h.2
    refine ⟨by simp [h1], fun t => ?_⟩
    cases t with
    | zero => simpa using h.1
    | succ t => simpa using h2 t
  | [], _ :: _, h => h.elim
  | _ :: _, [], h => h.elim

theorem less_wk {P : Program} {G : Ctx} {k : Nat} {ρ ρ' : List AVal} {H : Heap} {ms : List Nat} (h : Wk ρ ρ') : Less P G k ⟨ρ, H, ms⟩ ⟨ρ', H, ms⟩ := fun μ a w hR => by
  obtain ⟨h1, h2⟩ := h.get
  refine ⟨μ, ⟨⟨by rw [h1]; exact hR.tr.1, fun t => ?_⟩, hR.hr, hR.dom, hR.mk', hR.mkr⟩, Mu.leB_refl _ _⟩
  rcases h2 t with h | h
  · simp only [h]; exact .any _
  · simp only [h]; exact hR.tr.2 t

theorem loop_wk {P : Program} {G : Ctx} {k : Nat} {rd : Option Nat} {c : ACode} {fs : List Frame} {ρ ρ' : List AVal} {H : Heap} {ms : List Nat} {Q : Goal} (h : Wk ρ ρ') (hl : Loop P G k rd c fs ⟨ρ', H, ms⟩ Q) : Loop P G k rd c fs ⟨ρ, H, ms⟩ Q := loop_less (less_wk h) hl
@[go_sem] theorem wk_nil : Wk [] [] = True := (rfl)
@[go_sem] theorem wk_cons (v u : AVal) (ρ ρ' : List AVal) : Wk (v :: ρ) (u :: ρ') = ((u = .any ∨ u = v) ∧ Wk ρ ρ') := (rfl)

theorem loop_body {P : Program} {G : Ctx} {k : Nat} {rd : Option Nat} (n : Nat) {c c' : ACode} (hc : c = c') {fs : List Frame} {s : St} {Q : Goal} (h : Run P G k rd n (.code c') (.rnd c :: fs) s Q) : Loop P G k rd c fs s Q := by
  subst hc; exact loop_round n h
attribute [go_sem] Int.cast_ofNat_Int
@[go_sem] theorem disj_cons (a : Nat) (l b : List Nat) : disj (a :: l) b = (!b.contains a && disj l b) := by simp [disj]
end Go.Sx
/- Further calls in code that is being reckoned. -/
namespace Go.Sx
open Go
section
variable {P : Program} {G : Ctx} {g : FuncId} {args : List AVal} {H : Heap} {r : AVal} {k : Nat} {rd : Option Nat} {R : Runner} {l : List AOper} {fs : List Frame} {ρ : List AVal} {ms : List Nat} {Q : Goal} {dst : Option Nat} {x x' : Row} {j : Nat}
  {ao : AOper} {lo hi : Nat} {tr : List (List Nat × List Nat)} {ss : List (List AOper)}

theorem dcallD (h : Ans P g (.ptr 0 0 0 1 :: args) [some x] r [some x']) (hj : H[j]? = some (some x)) (hb : Bels (fun _ => False) args) (hr : Bel (fun _ => False) r) (hx : x.bel (fun _ => False)) (hx' : x'.bel (fun _ => False))
    (hms : ∀ q ∈ ms, q ≠ j) (hd : dynOK ao.free [j] [j] tr lo = true) (hK : R (.grp lo l (tr ++ [([j], [j])]) hi ss) fs ⟨setD ρ ao.dst r, H.set j (some x'), ms⟩ Q) : DCallR P R g (.ptr j 0 0 1 :: args) ao lo l tr hi ss fs ρ H ms Q := by
  have hlt : j < H.length := (List.getElem?_eq_some_iff.1 hj).1
  have hargs : args.map (ren (nth [j])) = args := by
    conv => rhs; rw [← List.map_id args]
    exact List.map_congr_left fun v hv => ren_same (bels_mem hb v hv)
  have hb1 : ∀ {n : Nat}, Bels (· < n) args := bels_of fun v hv => (bels_mem hb v hv).mono fun _ h => h.elim
  have e : outΔ (outσ [j] H.length) 0 [some x'] = [(j, x')] := by
    simp only [outΔ, Row.ren_same hx']
    rfl
  have hd1 := h.dcall (H := H) (args := .ptr j 0 0 1 :: args) [j] (by simp) ⟨by rw [Row.ren_same hx]; exact hj, trivial⟩ (by simp only [List.map_cons, hargs]; rfl) ⟨by rw [bel_ptr]; simp, hb1⟩ ⟨bel_mono_row hx fun _ h => h.elim, trivial⟩ (Nat.le_refl _) (hr.mono fun _ h => h.elim)
    ⟨bel_mono_row hx' fun _ h => h.elim, trivial⟩ (by simpa using hlt)
  rw [e, ren_same hr] at hd1
  have e2 : newNames H.length ([some x'].length - [j].length) = [] := rfl
  rw [e2] at hd1
  refine dcallR (deps := [j]) hd1 ⟨fun q hq => by simpa [Oc.rows] using hms q hq, fun q hq => by simp at hq, hd, ?_⟩
  simp only [List.map_cons, List.map_nil, Heap.puts, put_lt hlt]
  exact hK

theorem cP (h : Ans P g args [] r []) (hK : R (.ops l) fs ⟨setD ρ dst r, H, ms⟩ Q) (hb : Bels (fun _ => False) args := by simp only [go_sem]) (hr : Bel (fun _ => False) r := by simp only [go_sem])
    (hk : k ≤ H.length := by simp) (hms : ∀ q ∈ ms, H[q]? = some (some .dfr) := by simp) : CallR P G k R g args dst l fs ρ H ms Q := callP h hb hr hk hms hK
theorem dP (h : Ans P g args [] r []) (hK : R (.grp lo l (tr ++ [([], [])]) hi ss) fs ⟨setD ρ ao.dst r, H, ms⟩ Q) (hb : Bels (fun _ => False) args := by simp only [go_sem]) (hr : Bel (fun _ => False) r := by simp only [go_sem])
    (hd : dynOK ao.free [] [] tr lo = true := by first | (simp only [go_sem]; done) | (simp [go_sem]; done) | (simp [go_sem]; omega)) : DCallR P R g args ao lo l tr hi ss fs ρ H ms Q := dcallP h hb hr hd hK
theorem cD (h : Ans P g (.ptr 0 0 0 1 :: args) [some x] r [some x']) (hK : R (.ops l) fs ⟨setD ρ dst r, H.set j (some x'), ms⟩ Q) (hj : H[j]? = some (some x) := by first | rfl | simp only [go_sem]) (hb : Bels (fun _ => False) args := by simp only [go_sem])
    (hr : Bel (fun _ => False) r := by simp only [go_sem]) (hx : x.bel (fun _ => False) := by simp only [go_sem]) (hx' : x'.bel (fun _ => False) := by simp only [go_sem])
    (hk : k ≤ H.length := by simp) (hms : ∀ q ∈ ms, q ≠ j ∧ H[q]? = some (some .dfr) := by simp) : CallR P G k R g (.ptr j 0 0 1 :: args) dst l fs ρ H ms Q := callD h hj hb hr hx hx' hk hms hK
theorem dD (h : Ans P g (.ptr 0 0 0 1 :: args) [some x] r [some x']) (hK : R (.grp lo l (tr ++ [([j], [j])]) hi ss) fs ⟨setD ρ ao.dst r, H.set j (some x'), ms⟩ Q) (hj : H[j]? = some (some x) := by first | rfl | simp only [go_sem]) (hb : Bels (fun _ => False) args := by simp only [go_sem])
    (hr : Bel (fun _ => False) r := by simp only [go_sem]) (hx : x.bel (fun _ => False) := by simp only [go_sem]) (hx' : x'.bel (fun _ => False) := by simp only [go_sem])
    (hms : ∀ q ∈ ms, q ≠ j := by simp) (hd : dynOK ao.free [j] [j] tr lo = true := by first | (simp only [go_sem]; done) | (simp [go_sem]; done) | (simp [go_sem]; omega)) : DCallR P R g (.ptr j 0 0 1 :: args) ao lo l tr hi ss fs ρ H ms Q := dcallD h hj hb hr hx hx' hms hd hK

theorem callN1 (h : Ans P g args [] (.ptr 0 0 0 1) [some x]) (hb : Bels (fun _ => False) args) (hx : x.bel (fun _ => False)) (hk : k ≤ H.length) (hms : ∀ q ∈ ms, H[q]? = some (some .dfr))
    (hK : R (.ops l) fs ⟨setD ρ dst (.ptr H.length 0 0 1), H ++ [some x], ms⟩ Q) : CallR P G k R g args dst l fs ρ H ms Q := by
  have e : outΔ (outσ [] H.length) 0 [some x] = [(H.length, x)] := by
    simp only [outΔ, Row.ren_same hx]
    rfl
  refine callS h [] (by simp) trivial (by
    conv => lhs; rw [← List.map_id args]
    exact List.map_congr_left fun v hv => (ren_same (bels_mem hb v hv)).symm) (bels_of fun v hv => (bels_mem hb v hv).mono fun _ h => h.elim) trivial (by simp) (by rw [bel_ptr]; simp)
    ⟨bel_mono_row hx fun _ h => h.elim, trivial⟩ (fun q hq => by simp at hq) hk (fun q hq => ?_) ?_
  · refine ⟨?_, hms q hq⟩
    rw [e]
    have := (List.getElem?_eq_some_iff.1 (hms q hq)).1
    simp; omega
  · rw [e]
    simp only [Heap.puts, Heap.put_end]
    exact hK

theorem callF0 {largs : List AVal} (h : Ans P g largs [] r []) (d : Nat) (hargs : args.map (frz d H) = largs) (hK : R (.ops l) fs ⟨setD ρ dst r, H, ms⟩ Q) (hr : Bel (fun _ => False) r := by simp only [go_sem]) (hnv : NV r := by simp only [go_sem])
    (hk : k ≤ H.length := by simp) (hms : ∀ q ∈ ms, H[q]? = some (some .dfr) := by simp) : CallR P G k R g args dst l fs ρ H ms Q :=
  callF h d hargs (by simpa using hr) hnv trivial trivial hk (fun q hq => ⟨by simp [outΔ], hms q hq⟩) (by
    rw [ren_same hr]
    exact hK)
end

section
variable {P : Program} {G : Ctx} {k : Nat} {rd : Option Nat} {fs : List Frame} {ms : List Nat} {Q : Goal}
theorem loop_ind {α : Type} {c c' : ACode} (hc : c = c') (Inv : α → Prop) (μ : α → Nat) (st : α → List AVal × Heap) {ρ : List AVal} {H : Heap} (a0 : α) (h0 : Inv a0) (hw : Wk ρ (st a0).1) (hH : H = (st a0).2)
    (step : ∀ a, Inv a → (∀ b, μ b < μ a → Inv b → ∀ ρ', Wk ρ' (st b).1 → Loop P G k rd c fs ⟨ρ', (st b).2, ms⟩ Q) → Run P G k rd 3000 (.code c') (.rnd c :: fs) ⟨(st a).1, (st a).2, ms⟩ Q) : Loop P G k rd c fs ⟨ρ, H, ms⟩ Q := by
  have key : ∀ (n : Nat) (a : α), μ a = n → Inv a → ∀ ρ', Wk ρ' (st a).1 → Loop P G k rd c fs ⟨ρ', (st a).2, ms⟩ Q := by
    intro n
    induction n using Nat.strongRecOn with
    | ind n ih =>
      intro a ha hi ρ' hw
      exact loop_wk hw (loop_body 3000 hc (step a hi fun b hb hib ρ'' hw'' => ih (μ b) (by omega) b rfl hib ρ'' hw''))
  subst hH
  exact key _ a0 rfl h0 ρ hw
end
def tsets (n : Nat) : List (Nat × AVal) → List AVal
  | [] => List.replicate n .any
  | p :: l => tset (tsets n l) p.1 p.2
@[go_sem] theorem tsets_nil (n : Nat) : tsets n [] = List.replicate n .any := (rfl)
@[go_sem] theorem tsets_cons (n : Nat) (p : Nat × AVal) (l : List (Nat × AVal)) : tsets n (p :: l) = tset (tsets n l) p.1 p.2 := (rfl)
@[go_sem] theorem nv_int (q : IntKind) (n : Int) : NV (.int q n) = True := eq_true (.int q n)
@[go_sem] theorem nv_bool (b : Bool) : NV (.bool b) = True := eq_true (.bool b)
@[go_sem] theorem nv_str (l : List UInt8) : NV (.str l) = True := eq_true (.str l)
@[go_sem] theorem nv_nilsl : NV .nilsl = True := eq_true .nilsl
@[go_sem] theorem nv_sl (r o l : Nat) : NV (.sl r o l) = True := eq_true (.sl r o l)
@[go_sem] theorem nv_ptr (r i o l : Nat) : NV (.ptr r i o l) = True := eq_true (.ptr r i o l)
end Go.Sx
/- What is said of a function: its rows under other names, the others let go; arguments of which less is said. -/
namespace Go.Sx
open Go
section
variable {P : Program} {g : FuncId} {args args' : List AVal} {LH LH' : Heap} {r : AVal}

structure Kept (LH LH' : Heap) (r v : AVal) (H' : Heap) (σ : Nat → Nat) : Prop where
  old : ∀ i, i < LH.length → σ i = i
  inj : ∀ i j, i < LH'.length → j < LH'.length → σ i = σ j → i = j
  val : v = ren σ r
  rows : ∀ i x, LH'[i]? = some (some x) → H'[σ i]? = some (some (x.ren σ))

theorem Ans.keep (h : Fn P g args LH fun v H' => ∃ σ, Kept LH LH' r v H' σ) (hlen : LH.length ≤ LH'.length) (hr : Bel (· < LH'.length) r) (hf : Full (· < LH'.length) LH') : Ans P g args LH r LH' := fun G => by
  refine ⟨(h G).1, fun μ cargs w h1 h2 h3 h4 => ((h G).2 μ cargs w h1 h2 h3 h4).mono ?_⟩
  rintro e w' ⟨v, cv, μ', H', rfl, ⟨σ, k1, k2, rfl, k4⟩, hv, hH, hdom, hle⟩
  let μ'' : Mu := fun i => if i < LH'.length then μ' (σ i) else none
  have hu : ∀ q, q < LH'.length → μ'' q = μ' (σ q) := fun q hq => by simp [μ'', hq]
  refine ⟨r, cv, μ'', LH', rfl, ⟨rfl, [], by simp⟩, hv.pull hr hu, ?_, ?_, ?_⟩
  · constructor
    · intro i x hx hnd
      have hi := (List.getElem?_eq_some_iff.1 hx).1
      obtain ⟨y, hy, hb⟩ := hf.get i hi
      rw [hx] at hy; cases hy
      obtain ⟨p, q1, q2, q3, q4⟩ := hH.row _ _ (k4 i x hx) (fun e => hnd (ren_dead e))
      exact ⟨p, by rw [hu i hi]; exact q1, q2, q3, q4.pull hb hu⟩
    · intro i j x y p q hx hy hp hq hne n1 n2
      have hi := (List.getElem?_eq_some_iff.1 hx).1
      have hj := (List.getElem?_eq_some_iff.1 hy).1
      rw [hu i hi] at hp
      rw [hu j hj] at hq
      exact hH.apart _ _ _ _ _ _ (k4 i x hx) (k4 j y hy) hp hq (fun e => hne (k2 i j hi hj e)) (fun e => n1 (ren_dead e)) fun e => n2 (ren_dead e)
    · exact hH.kept
    · exact hH.ro
    · exact hH.calm
    · intro i hx
      have hi := (List.getElem?_eq_some_iff.1 hx).1
      rw [hu i hi]; exact hH.nm (k4 i _ hx)
    · exact hH.glob
  · intro q hq
    by_cases hl : q < LH'.length
    · exact hl
    · simp [μ'', hl] at hq
  · intro q p hq hp
    obtain ⟨p', e1, e2⟩ := hle q p hq hp
    refine ⟨p', ?_, e2⟩
    rw [hu q (by omega), k1 q hq]
    exact e1

theorem kept_one {x : Row} {v : AVal} {H' : Heap} (j : Nat) (hv : v = ren (fun _ => j) r) (hx : x.bel (fun _ => False)) (hH : H'[j]? = some (some x)) : ∃ σ, Kept [] [some x] r v H' σ :=
  ⟨fun _ => j, fun i hi => by simp at hi, fun i k hi hk _ => by simp at hi hk; omega, hv, fun i y hy => by
    have hi := (List.getElem?_eq_some_iff.1 hy).1
    simp only [List.length_singleton] at hi
    obtain rfl : i = 0 := by omega
    simp only [List.getElem?_cons_zero, Option.some.injEq] at hy
    subst hy
    rw [Row.ren_same hx]; exact hH⟩

theorem kept_two {x x' y : Row} {v : AVal} {H' : Heap} (j : Nat) (hj : j ≠ 0) (hv : v = ren (fun i => if i = 0 then 0 else j) r) (hx : x'.bel (fun _ => False)) (hy : y.bel (fun _ => False)) (h0 : H'[0]? = some (some x')) (h1 : H'[j]? = some (some y)) : ∃ σ, Kept [some x] [some x', some y] r v H' σ :=
  ⟨fun i => if i = 0 then 0 else j, fun i hi => by simp only [List.length_singleton] at hi; simp [show i = 0 by omega], fun i k hi hk h => by
    simp only [List.length_cons, List.length_nil] at hi hk
    by_cases hi0 : i = 0 <;> by_cases hk0 : k = 0 <;> simp [hi0, hk0] at h <;> omega, hv, fun i z hz => by
    have hi := (List.getElem?_eq_some_iff.1 hz).1
    simp only [List.length_cons, List.length_nil] at hi
    obtain rfl | rfl : i = 0 ∨ i = 1 := by omega
    · simp only [List.getElem?_cons_zero, Option.some.injEq] at hz
      subst hz
      rw [Row.ren_same hx]; exact h0
    · simp only [List.getElem?_cons_succ, List.getElem?_cons_zero, Option.some.injEq] at hz
      subst hz
      rw [Row.ren_same hy]; exact h1⟩

theorem run_fn {af : AFun} {R : AVal → Heap → Prop} (e : EntryOK P g af) (h : ∀ G, Run P G LH.length none 3000 (.code af.body) [] ⟨args ++ List.replicate (af.ntmps - args.length) .any, LH, []⟩ (RetPost af.res R)) : Fn P g args LH R := fun G => by
  obtain ⟨fn, h1, h2, h3⟩ := e
  exact call_of_afun h1 h2 h3 (run_aw 3000 (h G))

theorem Ans.weak (h : Ans P g args LH r LH') (hl : args'.length = args.length) (hw : ∀ G μ i c, i < args'.length → VR G μ (args'.getD i .any) c → VR G μ (args.getD i .any) c) : Ans P g args' LH r LH' := fun G =>
  ⟨(h G).1, fun μ cargs w h1 h2 h3 h4 => (h G).2 μ cargs w (by omega) (fun i hi => hw G μ i _ (by omega) (h2 i (by omega))) h3 h4⟩

def lss : List AVal → List AVal → Prop
  | [], [] => True
  | v :: vs, u :: us => (v = u ∨ (v = .nilsl ∧ u = .view [])) ∧ lss vs us
  | _, _ => False
@[go_sem] theorem lss_nil : lss [] [] = True := (rfl)
@[go_sem] theorem lss_cons (v u : AVal) (vs us : List AVal) : lss (v :: vs) (u :: us) = ((v = u ∨ (v = .nilsl ∧ u = .view [])) ∧ lss vs us) := (rfl)
theorem lss_len : ∀ {l l' : List AVal}, lss l l' → l.length = l'.length
  | [], [], _ => rfl
  | v :: l, u :: l', h => by simp [lss_len h.2]
  | [], _ :: _, h => h.elim
  | _ :: _, [], h => h.elim
theorem lss_vr {G : Ctx} {μ : Mu} : ∀ {l l' : List AVal}, lss l l' → ∀ i c, i < l.length → VR G μ (l.getD i .any) c → VR G μ (l'.getD i .any) c
  | [], [], _, i, c, hi, _ => by simp at hi
  | v :: l, u :: l', h, i, c, hi, hv => by
    cases i with
    | zero =>
      simp only [List.getD_cons_zero] at hv ⊢
      rcases h.1 with rfl | ⟨rfl, rfl⟩
      · exact hv
      · cases hv; exact .viewnil none 0
    | succ i =>
      simp only [List.getD_cons_succ] at hv ⊢
      exact lss_vr h.2 i c (by simpa using hi) hv
  | [], _ :: _, h, _, _, _, _ => h.elim
  | _ :: _, [], h, _, _, _, _ => h.elim
theorem Ans.lss (h : Ans P g args LH r LH') (hw : lss args' args) : Ans P g args' LH r LH' := h.weak (lss_len hw) fun _ _ i c hi hv => lss_vr hw i c hi hv

variable {G : Ctx} {H : Heap} {k : Nat} {rd : Option Nat} {R : Runner} {l : List AOper} {fs : List Frame} {ρ : List AVal} {ms : List Nat} {Q : Goal} {dst : Option Nat} {x : Row}
theorem cF {largs : List AVal} (h : Ans P g largs [] r []) (d : Nat) (hargs : Sx.lss (args.map (frz d H)) largs) (hK : R (.ops l) fs ⟨setD ρ dst r, H, ms⟩ Q) (hr : Bel (fun _ => False) r := by simp only [go_sem]) (hnv : NV r := by simp only [go_sem])
    (hk : k ≤ H.length := by simp) (hms : ∀ q ∈ ms, H[q]? = some (some .dfr) := by simp) : CallR P G k R g args dst l fs ρ H ms Q :=
  callF0 (h.lss hargs) d rfl hK hr hnv hk hms

theorem cFN {largs : List AVal} {r : AVal} (h : Ans P g largs [] r [some x]) (d : Nat) (hargs : Sx.lss (args.map (frz d H)) largs) (hK : R (.ops l) fs ⟨setD ρ dst (ren (fun i => H.length + i) r), H ++ [some x], ms⟩ Q) (hr : Bel (· < 1) r := by simp [go_sem]) (hnv : NV r := by simp only [go_sem])
    (hx : x.bel (fun _ => False) := by simp only [go_sem]) (hxn : x.nv := by simp only [go_sem]) (hk : k ≤ H.length := by simp) (hms : ∀ q ∈ ms, H[q]? = some (some .dfr) := by simp) : CallR P G k R g args dst l fs ρ H ms Q := by
  have eσ : outσ [] H.length = fun i => H.length + i := by funext i; simp [outσ]
  have e : outΔ (outσ [] H.length) 0 [some x] = [(H.length, x)] := by
    rw [eσ]
    simp only [outΔ, Row.ren_same hx, Nat.add_zero]
  refine callF (h.lss hargs) d rfl (by simpa using hr) hnv ⟨bel_mono_row hx fun _ h => h.elim, trivial⟩ ⟨hxn, trivial⟩ hk (fun q hq => ⟨?_, hms q hq⟩) ?_
  · rw [e]
    have := (List.getElem?_eq_some_iff.1 (hms q hq)).1
    simp; omega
  · rw [e, eσ]
    simp only [Heap.puts, Heap.put_end]
    exact hK
end
end Go.Sx
/- Calls of which several outcomes are told. -/
namespace Go.Sx
open Go
theorem ren_agree {f g : Nat → Nat} {S : Nat → Prop} (hS : ∀ q, S q → f q = g q) {v : AVal} (h : Bel S v) : ren f v = ren g v := by
  have cells : ∀ e : AVal, (∀ j, j < (acells e).length → ren f ((acells e).getD j .any) = ren g ((acells e).getD j .any)) → ren f e = ren g e := by
    intro e he
    by_cases hv : ∃ cs, e = .agg cs
    · obtain ⟨cs, rfl⟩ := hv
      simp only [ren, acells] at he ⊢
      congr 1
      refine list_ext_getD (by simp [rens_len]) fun i hi => ?_
      rw [rens_getD, rens_getD]
      exact he i (by simpa [rens_len] using hi)
    · rw [acells_one hv] at he
      simpa using he 0 (by simp)
  induction h with
  | any => rfl
  | bool b => rfl
  | int q n => rfl
  | str l => rfl
  | ptr r i off L hr => simp only [ren, hS r hr]
  | rptr e off _ ih => simp only [ren]; rw [cells e ih]
  | nilptr => rfl
  | sl r off len hr => simp only [ren, hS r hr]
  | view es _ ih =>
    simp only [ren]
    congr 1
    refine list_ext_getD (by simp [rens_len]) fun i hi => ?_
    rw [rens_getD, rens_getD]
    exact cells _ (ih i · (by simpa [rens_len] using hi))
  | nilsl => rfl
  | fn f' a b _ _ iha ihb =>
    simp only [ren]
    congr 1
    · exact list_ext_getD (by simp [rens_len]) fun i hi => by rw [rens_getD, rens_getD]; exact iha i (by simpa [rens_len] using hi)
    · exact list_ext_getD (by simp [rens_len]) fun i hi => by rw [rens_getD, rens_getD]; exact ihb i (by simpa [rens_len] using hi)
  | yfn r hr => simp only [ren, hS r hr]
  | nilfn => rfl
  | iface t v _ ih => simp only [ren, ih]
  | niliface => rfl
  | agg cs _ ih =>
    simp only [ren]
    congr 1
    exact list_ext_getD (by simp [rens_len]) fun i hi => by rw [rens_getD, rens_getD]; exact ih i (by simpa [rens_len] using hi)
  | tup cs _ ih =>
    simp only [ren]
    congr 1
    exact list_ext_getD (by simp [rens_len]) fun i hi => by rw [rens_getD, rens_getD]; exact ih i (by simpa [rens_len] using hi)
  | mp r hr => simp only [ren, hS r hr]
  | nilmap => rfl

section
variable {P : Program} {G : Ctx} {g : FuncId} {largs args : List AVal} {LH H : Heap} {α : Type} {Φ : α → Prop} {r : α → AVal} {L' : α → Heap}

def AnsE (P : Program) (g : FuncId) (args : List AVal) (LH : Heap) {α : Type} (Φ : α → Prop) (r : α → AVal) (L' : α → Heap) : Prop := Fn P g args LH fun v H' => ∃ a, Φ a ∧ v = r a ∧ ∃ X, H' = L' a ++ X

theorem AnsE.keep (h : Fn P g args LH fun v H' => ∃ a, Φ a ∧ ∃ σ, Kept LH (L' a) (r a) v H' σ) (hwf : ∀ a, Φ a → LH.length ≤ (L' a).length ∧ Bel (· < (L' a).length) (r a) ∧ Full (· < (L' a).length) (L' a)) : AnsE P g args LH Φ r L' := fun G => by
  refine ⟨(h G).1, fun μ cargs w h1 h2 h3 h4 => ((h G).2 μ cargs w h1 h2 h3 h4).mono ?_⟩
  rintro e w' ⟨v, cv, μ', H', rfl, ⟨a, ha, σ, k1, k2, rfl, k4⟩, hv, hH, hdom, hle⟩
  obtain ⟨hlen, hr, hf⟩ := hwf a ha
  let μ'' : Mu := fun i => if i < (L' a).length then μ' (σ i) else none
  have hu : ∀ q, q < (L' a).length → μ'' q = μ' (σ q) := fun q hq => by simp [μ'', hq]
  refine ⟨r a, cv, μ'', L' a, rfl, ⟨a, ha, rfl, [], by simp⟩, hv.pull hr hu, ?_, ?_, ?_⟩
  · constructor
    · intro i x hx hnd
      have hi := (List.getElem?_eq_some_iff.1 hx).1
      obtain ⟨y, hy, hb⟩ := hf.get i hi
      rw [hx] at hy; cases hy
      obtain ⟨p, q1, q2, q3, q4⟩ := hH.row _ _ (k4 i x hx) (fun e => hnd (ren_dead e))
      exact ⟨p, by rw [hu i hi]; exact q1, q2, q3, q4.pull hb hu⟩
    · intro i j x y p q hx hy hp hq hne n1 n2
      have hi := (List.getElem?_eq_some_iff.1 hx).1
      have hj := (List.getElem?_eq_some_iff.1 hy).1
      rw [hu i hi] at hp
      rw [hu j hj] at hq
      exact hH.apart _ _ _ _ _ _ (k4 i x hx) (k4 j y hy) hp hq (fun e => hne (k2 i j hi hj e)) (fun e => n1 (ren_dead e)) fun e => n2 (ren_dead e)
    · exact hH.kept
    · exact hH.ro
    · exact hH.calm
    · intro i hx
      have hi := (List.getElem?_eq_some_iff.1 hx).1
      rw [hu i hi]; exact hH.nm (k4 i _ hx)
    · exact hH.glob
  · intro q hq
    by_cases hl : q < (L' a).length
    · exact hl
    · simp [μ'', hl] at hq
  · intro q p hq hp
    obtain ⟨p', e1, e2⟩ := hle q p hq hp
    refine ⟨p', ?_, e2⟩
    rw [hu q (by omega), k1 q hq]
    exact e1

theorem Ans.toE {a : α} (h : Ans P g args LH (r a) (L' a)) (ha : Φ a) : AnsE P g args LH Φ r L' := h.mono fun v H' ⟨h1, h2⟩ => ⟨a, ha, h1, h2⟩

variable {k : Nat} {rd : Option Nat} {R : Runner} {l : List AOper} {fs : List Frame} {ρ : List AVal} {ms : List Nat} {Q : Goal} {dst : Option Nat}

theorem callE (h : AnsE P g largs LH Φ r L') (ι : List Nat) (hn : ι.Nodup) (hrows : rowsOK H (nth ι) ι LH) (hargs : args = largs.map (ren (nth ι))) (hb : Bels (· < ι.length) largs) (hf : Full (· < ι.length) LH)
    (hwf : ∀ a, Φ a → ι.length ≤ (L' a).length ∧ Bel (· < (L' a).length) (r a) ∧ Full (· < (L' a).length) (L' a)) (hlt : ∀ q ∈ ι, q < H.length) (hk : k ≤ H.length)
    (hms : ∀ a, Φ a → ∀ q ∈ ms, q ∉ (outΔ (outσ ι H.length) 0 (L' a)).map (·.1) ∧ H[q]? = some (some .dfr))
    (hK : ∀ a, Φ a → R (.ops l) fs ⟨setD ρ dst (ren (outσ ι H.length) (r a)), H.puts (outΔ (outσ ι H.length) 0 (L' a)), ms⟩ Q) : CallR P G k R g args dst l fs ρ H ms Q := by
  obtain ⟨hl, hget⟩ := hrows.get
  have hσ0 : ∀ i, i < ι.length → outσ ι H.length i = nth ι i := fun i hi => by simp [outσ, hi]
  have hσ1 : ∀ i, ¬ i < ι.length → outσ ι H.length i = H.length + (i - ι.length) := fun i hi => by simp [outσ, hi]
  have hmem : ∀ i, i < ι.length → nth ι i ∈ ι := fun i hi => by
    have : nth ι i = ι[i] := by simp [nth, hi]
    rw [this]; exact List.getElem_mem hi
  refine callR (T := fun v H' => ∃ a, Φ a ∧ v = ren (outσ ι H.length) (r a) ∧ H' = H.puts (outΔ (outσ ι H.length) 0 (L' a))) ⟨(h G).1, fun μ cargs w hlc hv hH hdom => ?_⟩ hk ?_
  · have hfree : ∀ (H'' : Heap) q, (H.length ≤ q ∧ q < H''.length) → μ q = none := fun _ q hq => by
      cases hm : μ q with
      | none => rfl
      | some p => have := hdom q (by rw [hm]; rfl); omega
    refine (call_local (R' := fun v H'' => ∃ a, Φ a ∧ v = ren (outσ ι H.length) (r a) ∧ H'' = H.puts (outΔ (outσ ι H.length) 0 (L' a))) (Fr := fun H'' q => H.length ≤ q ∧ q < H''.length) h hn hl (fun i hi => by
      obtain ⟨x, hx, _⟩ := hf.get i (by omega); exact ⟨x, hx⟩) hargs (bels_mem hb) (fun i x hx => ⟨hget i x hx, by
        obtain ⟨y, hy, hb⟩ := hf.get i (List.getElem?_eq_some_iff.1 hx).1
        rw [hx] at hy; cases hy; exact hb⟩) ?_ hlc hv hH hfree).mono ?_
    · rintro v _ ⟨a, ha, rfl, X, rfl⟩
      obtain ⟨hlen, hr, hf'⟩ := hwf a ha
      refine ⟨outσ ι H.length, (· < (L' a).length), _, ⟨fun i hi => ⟨by omega, hσ0 i hi⟩, fun i hi => ?_, fun i j hi hj hij => ?_, hr, fun q x hq => ?_⟩, a, ha, rfl, rfl⟩
      · by_cases hlt : i < ι.length
        · exact .inl hlt
        · right
          obtain ⟨y, hy, _⟩ := hf'.get i hi
          refine ⟨by rw [hσ1 i hlt]; omega, Heap.puts_lt ?_⟩
          rw [List.mem_map]
          exact ⟨(outσ ι H.length i, y.ren (outσ ι H.length)), by have := outΔ_in (σ := outσ ι H.length) (i := 0) hy; rwa [Nat.zero_add] at this, rfl⟩
      · by_cases h1 : i < ι.length <;> by_cases h2 : j < ι.length
        · rw [hσ0 i h1, hσ0 j h2] at hij; exact nth_inj hn h1 h2 hij
        · rw [hσ0 i h1, hσ1 j h2] at hij
          have := hlt _ (hmem i h1); omega
        · rw [hσ1 i h1, hσ0 j h2] at hij
          have := hlt _ (hmem j h2); omega
        · rw [hσ1 i h1, hσ1 j h2] at hij; omega
      · rcases puts_get _ H q x hq with h1 | ⟨h1, h2⟩
        · obtain ⟨j, y, e1, e2, e3⟩ := outΔ_mem h1
          have hj := (List.getElem?_eq_some_iff.1 e1).1
          obtain ⟨y', hy', hb'⟩ := hf'.get j hj
          rw [e1] at hy'; cases hy'
          refine .inl ⟨j, y, hj, by rw [e2]; congr 1; omega, ?_, e3, hb'⟩
          rw [List.getElem?_append_left hj]; exact e1
        · refine .inr ⟨fun i hi hiq => h1 ?_, h2⟩
          obtain ⟨y, hy, _⟩ := hf'.get i hi
          rw [List.mem_map]
          exact ⟨(q, y.ren (outσ ι H.length)), by have := outΔ_in (σ := outσ ι H.length) (i := 0) hy; rw [Nat.zero_add, hiq] at this; exact this, rfl⟩
    · rintro e w' ⟨v', cv, μ', H'', rfl, h1, h2, h3, h4, h5⟩
      refine ⟨v', cv, μ', H'', rfl, h1, h2, h3, fun q hq => ?_, Mu.leB_of h4, fun q hq hn => ?_⟩
      · rcases h5 q hq with h | h
        · have := hdom q h
          obtain ⟨a, ha, _, rfl⟩ := h1
          exact Nat.lt_of_lt_of_le this (Heap.le_puts _ H)
        · exact h.2
      · cases hm : μ' q with
        | none => rfl
        | some p =>
          rcases h5 q (by rw [hm]; rfl) with h | h
          · rw [hn] at h; cases h
          · omega
  · rintro v H' ⟨a, ha, rfl, rfl⟩
    exact ⟨marks_kept (hms a ha), hK a ha⟩

theorem callDN {x : Row} {x' y : α → Row} {j : Nat} (h : AnsE P g (.ptr 0 0 0 1 :: args) [some x] Φ r fun a => [some (x' a), some (y a)]) (hj : H[j]? = some (some x)) (hb : Bels (fun _ => False) args) (hx : x.bel (fun _ => False))
    (hwf : ∀ a, Φ a → Bel (· = 1) (r a) ∧ (x' a).bel (fun _ => False) ∧ (y a).bel (fun _ => False)) (hk : k ≤ H.length) (hms : ∀ q ∈ ms, q ≠ j ∧ H[q]? = some (some .dfr))
    (hK : ∀ a, Φ a → R (.ops l) fs ⟨setD ρ dst (ren (fun _ => H.length) (r a)), H.set j (some (x' a)) ++ [some (y a)], ms⟩ Q) : CallR P G k R g (.ptr j 0 0 1 :: args) dst l fs ρ H ms Q := by
  have hlt : j < H.length := (List.getElem?_eq_some_iff.1 hj).1
  have hargs : args.map (ren (nth [j])) = args := by
    conv => rhs; rw [← List.map_id args]
    exact List.map_congr_left fun v hv => ren_same (bels_mem hb v hv)
  have e : ∀ a, Φ a → outΔ (outσ [j] H.length) 0 [some (x' a), some (y a)] = [(j, x' a), (H.length, y a)] := fun a ha => by
    simp only [outΔ, Row.ren_same (hwf a ha).2.1, Row.ren_same (hwf a ha).2.2]
    rfl
  refine callE h [j] (by simp) ⟨by rw [Row.ren_same hx]; exact hj, trivial⟩ (by simp only [List.map_cons, hargs]; rfl) ⟨by rw [bel_ptr]; simp, bels_of fun v hv => (bels_mem hb v hv).mono fun _ h => h.elim⟩ ⟨bel_mono_row hx fun _ h => h.elim, trivial⟩
    (fun a ha => ⟨by simp, (hwf a ha).1.mono fun q hq => by subst hq; simp, bel_mono_row (hwf a ha).2.1 fun _ h => h.elim, bel_mono_row (hwf a ha).2.2 fun _ h => h.elim, trivial⟩) (by simpa using hlt) hk (fun a ha q hq => ?_) fun a ha => ?_
  · rw [e a ha]
    have := (List.getElem?_eq_some_iff.1 (hms q hq).2).1
    refine ⟨?_, (hms q hq).2⟩
    simp only [List.map_cons, List.map_nil, List.mem_cons, List.not_mem_nil, or_false, not_or]
    exact ⟨(hms q hq).1, by omega⟩
  · rw [e a ha]
    have e2 : ren (outσ [j] H.length) (r a) = ren (fun _ => H.length) (r a) := ren_agree (fun q hq => by subst hq; simp [outσ]) (hwf a ha).1
    rw [e2]
    simp only [Heap.puts, put_lt hlt]
    have e3 : Heap.put (H.set j (some (x' a))) H.length (y a) = H.set j (some (x' a)) ++ [some (y a)] := by
      have := Heap.put_end (H.set j (some (x' a))) (y a)
      rwa [List.length_set] at this
    rw [e3]
    exact hK a ha

def slv (j : Nat) (es : List AVal) : AVal := if es = [] then .nilsl else .sl j 0 es.length
def slrG (gr : Bool) (sz : Nat) (es : List AVal) : Heap := if es = [] then [] else [some (.cells gr sz es)]
abbrev slr (sz : Nat) (es : List AVal) : Heap := slrG true sz es

theorem callDS {x : Row} {x' : α → Row} {es : α → List AVal} {gr : Bool} {sz j : Nat} (h : AnsE P g (.ptr 0 0 0 1 :: args) [some x] Φ (fun a => slv 1 (es a)) fun a => some (x' a) :: slrG gr sz (es a)) (hj : H[j]? = some (some x)) (hb : Bels (fun _ => False) args) (hx : x.bel (fun _ => False))
    (hwf : ∀ a, Φ a → (x' a).bel (fun _ => False) ∧ Bels (fun _ => False) (es a)) (hk : k ≤ H.length) (hms : ∀ q ∈ ms, q ≠ j ∧ H[q]? = some (some .dfr))
    (hK : ∀ a, Φ a → R (.ops l) fs ⟨setD ρ dst (slv H.length (es a)), H.set j (some (x' a)) ++ slrG gr sz (es a), ms⟩ Q) : CallR P G k R g (.ptr j 0 0 1 :: args) dst l fs ρ H ms Q := by
  have hlt : j < H.length := (List.getElem?_eq_some_iff.1 hj).1
  have hargs : args.map (ren (nth [j])) = args := by
    conv => rhs; rw [← List.map_id args]
    exact List.map_congr_left fun v hv => ren_same (bels_mem hb v hv)
  have hrow : ∀ a, Φ a → Row.bel (fun _ => False) (.cells gr sz (es a)) := fun a ha => by rw [row_bel_cells]; exact (hwf a ha).2
  have e : ∀ a, Φ a → outΔ (outσ [j] H.length) 0 (some (x' a) :: slrG gr sz (es a)) = (j, x' a) :: if es a = [] then [] else [(H.length, .cells gr sz (es a))] := fun a ha => by
    unfold slrG
    by_cases h0 : es a = []
    · simp only [h0, if_true, outΔ, Row.ren_same (hwf a ha).1]; rfl
    · simp only [h0, if_false, outΔ, Row.ren_same (hwf a ha).1, Row.ren_same (hrow a ha)]; rfl
  refine callE h [j] (by simp) ⟨by rw [Row.ren_same hx]; exact hj, trivial⟩ (by simp only [List.map_cons, hargs]; rfl) ⟨by rw [bel_ptr]; simp, bels_of fun v hv => (bels_mem hb v hv).mono fun _ h => h.elim⟩ ⟨bel_mono_row hx fun _ h => h.elim, trivial⟩
    (fun a ha => ?_) (by simpa using hlt) hk (fun a ha q hq => ?_) fun a ha => ?_
  · refine ⟨by simp, ?_, bel_mono_row (hwf a ha).1 fun _ h => h.elim, ?_⟩
    · unfold slv slrG
      split
      · exact .nilsl
      · rw [bel_sl]; simp
    · unfold slrG
      split
      · trivial
      · exact ⟨bel_mono_row (hrow a ha) fun _ h => h.elim, trivial⟩
  · rw [e a ha]
    have := (List.getElem?_eq_some_iff.1 (hms q hq).2).1
    refine ⟨?_, (hms q hq).2⟩
    have h1 := (hms q hq).1
    split <;> simp [h1]
    omega
  · rw [e a ha]
    have := hK a ha
    unfold slv slrG at this
    unfold slv
    by_cases h0 : es a = []
    · simp only [h0, if_true, List.append_nil] at this ⊢
      simp only [Heap.puts, put_lt hlt, ren]
      exact this
    · simp only [h0, if_false] at this ⊢
      have e3 : Heap.put (H.set j (some (x' a))) H.length (.cells gr sz (es a)) = H.set j (some (x' a)) ++ [some (.cells gr sz (es a))] := by
        have := Heap.put_end (H.set j (some (x' a))) (.cells gr sz (es a))
        rwa [List.length_set] at this
      simp only [Heap.puts, put_lt hlt, ren, e3]
      have e4 : outσ [j] H.length 1 = H.length := by simp [outσ]
      rw [e4]
      exact this

theorem callDE {x : Row} {x' : α → Row} {j : Nat} (h : AnsE P g (.ptr 0 0 0 1 :: args) [some x] Φ r fun a => [some (x' a)]) (hj : H[j]? = some (some x)) (hb : Bels (fun _ => False) args) (hx : x.bel (fun _ => False))
    (hwf : ∀ a, Φ a → Bel (fun _ => False) (r a) ∧ (x' a).bel (fun _ => False)) (hk : k ≤ H.length) (hms : ∀ q ∈ ms, q ≠ j ∧ H[q]? = some (some .dfr))
    (hK : ∀ a, Φ a → R (.ops l) fs ⟨setD ρ dst (r a), H.set j (some (x' a)), ms⟩ Q) : CallR P G k R g (.ptr j 0 0 1 :: args) dst l fs ρ H ms Q := by
  have hlt : j < H.length := (List.getElem?_eq_some_iff.1 hj).1
  have hargs : args.map (ren (nth [j])) = args := by
    conv => rhs; rw [← List.map_id args]
    exact List.map_congr_left fun v hv => ren_same (bels_mem hb v hv)
  have e : ∀ a, Φ a → outΔ (outσ [j] H.length) 0 [some (x' a)] = [(j, x' a)] := fun a ha => by
    simp only [outΔ, Row.ren_same (hwf a ha).2]; rfl
  refine callE h [j] (by simp) ⟨by rw [Row.ren_same hx]; exact hj, trivial⟩ (by simp only [List.map_cons, hargs]; rfl) ⟨by rw [bel_ptr]; simp, bels_of fun v hv => (bels_mem hb v hv).mono fun _ h => h.elim⟩ ⟨bel_mono_row hx fun _ h => h.elim, trivial⟩
    (fun a ha => ⟨by simp, (hwf a ha).1.mono fun _ h => h.elim, bel_mono_row (hwf a ha).2 fun _ h => h.elim, trivial⟩) (by simpa using hlt) hk (fun a ha q hq => ?_) fun a ha => ?_
  · rw [e a ha]
    exact ⟨by simpa using (hms q hq).1, (hms q hq).2⟩
  · rw [e a ha, ren_same (hwf a ha).1]
    simp only [Heap.puts, put_lt hlt]
    exact hK a ha
end
end Go.Sx
/- Calls that only read, in drawn regions; slices that are read. -/
namespace Go.Sx
open Go

theorem frz_sl {H : Heap} {j sz d n : Nat} {g : Bool} {es : List AVal} (h : H[j]? = some (some (.cells g sz es))) (hn : n = es.length) : frz (d + 1) H (.sl j 0 n) = .view (es.map (frz d H)) := by
  subst hn
  simp [frz, Heap.cellsAt, h]
theorem onlyR_row {H : Heap} {j : Nat} {x : Row} {deps : List Nat} (h : H[j]? = some (some x)) (hj : j ∈ deps) : (H.onlyR deps)[j]? = some (some x) := (onlyR_get _ _ _ _).2 ⟨hj, h⟩

section
variable {P : Program} {G : Ctx} {k : Nat} {rd : Option Nat} {fs : List Frame} {ms : List Nat} {Q : Goal}
theorem loop_indH {α : Type} {c c' : ACode} (hc : c = c') (Inv : α → Prop) (μ : α → Nat) (st : α → List AVal) {ρ : List AVal} {H : Heap} (a0 : α) (h0 : Inv a0) (hw : Wk ρ (st a0))
    (step : ∀ a, Inv a → (∀ b, μ b < μ a → Inv b → ∀ ρ', Wk ρ' (st b) → Loop P G k rd c fs ⟨ρ', H, ms⟩ Q) → Run P G k rd 3000 (.code c') (.rnd c :: fs) ⟨st a, H, ms⟩ Q) : Loop P G k rd c fs ⟨ρ, H, ms⟩ Q :=
  loop_ind hc Inv μ (fun a => (st a, H)) a0 h0 hw rfl step
end

section
variable {P : Program} {G : Ctx} {g : FuncId} {args largs : List AVal} {H : Heap} {r : AVal} {k : Nat} {rd : Option Nat} {R : Runner} {l : List AOper} {fs : List Frame} {ρ : List AVal} {ms : List Nat} {Q : Goal} {dst : Option Nat}
  {ao : AOper} {lo hi : Nat} {tr : List (List Nat × List Nat)} {ss : List (List AOper)}
theorem dF (h : Ans P g largs [] r []) (d : Nat) (deps : List Nat) (hargs : Sx.lss (args.map (frz d (H.onlyR deps))) largs) (hK : R (.grp lo l (tr ++ [(deps, [])]) hi ss) fs ⟨setD ρ ao.dst r, H, ms⟩ Q)
    (hr : Bel (fun _ => False) r := by simp only [go_sem]) (hnv : NV r := by simp only [go_sem]) (hd : dynOK ao.free deps [] tr lo = true := by first | (simp only [go_sem]; done) | (simp [go_sem]; done) | (simp [go_sem]; omega)) :
    DCallR P R g args ao lo l tr hi ss fs ρ H ms Q := by
  have h1 := (h.lss hargs).dfrz (H := H) (args := args) d deps rfl (by simpa using hr) hnv trivial trivial
  rw [ren_same hr] at h1
  have e : newNames H.length ([] : Heap).length = [] := rfl
  rw [e] at h1
  exact dcallR (deps := deps) h1 ⟨fun q _ => by simp [Oc.rows, outΔ], fun q hq => by simp at hq, hd, hK⟩

theorem dS {LH LH' : Heap} (h : Ans P g largs LH r LH') (ι : List Nat) (hn : ι.Nodup) (hrows : rowsOK H (nth ι) ι LH) (hargs : args = largs.map (ren (nth ι))) (hb : Bels (· < ι.length) largs) (hf : Full (· < ι.length) LH)
    (hlen : ι.length = LH'.length) (hr : Bel (fun _ => False) r) (hf' : Full (· < LH'.length) LH') (hlt : ∀ q ∈ ι, q < H.length) (hms : ∀ q ∈ ms, q ∉ (outΔ (outσ ι H.length) 0 LH').map (·.1))
    (hd : dynOK ao.free ι ((outΔ (outσ ι H.length) 0 LH').map (·.1)) tr lo = true)
    (hK : R (.grp lo l (tr ++ [(ι, (outΔ (outσ ι H.length) 0 LH').map (·.1))]) hi ss) fs ⟨setD ρ ao.dst r, H.puts (outΔ (outσ ι H.length) 0 LH'), ms⟩ Q) : DCallR P R g args ao lo l tr hi ss fs ρ H ms Q := by
  have h1 := h.dcall (H := H) (args := args) ι hn hrows hargs hb hf (by omega) (hr.mono fun _ h => h.elim) hf' hlt
  rw [ren_same hr, show LH'.length - ι.length = 0 by omega] at h1
  have e : newNames H.length 0 = [] := rfl
  rw [e] at h1
  exact dcallR (deps := ι) h1 ⟨fun q hq => by simpa [Oc.rows] using hms q hq, fun q hq => by simp at hq, hd, hK⟩

theorem dFN {x : Row} (h : Ans P g largs [] r [some x]) (d : Nat) (deps : List Nat) (hargs : Sx.lss (args.map (frz d (H.onlyR deps))) largs)
    (hK : R (.grp lo l (tr ++ [(deps, [H.length])]) hi ss) fs ⟨setD ρ ao.dst (ren (fun i => H.length + i) r), H ++ [some x], ms⟩ Q)
    (hr : Bel (· < 1) r := by simp [go_sem]) (hnv : NV r := by simp only [go_sem]) (hx : x.bel (fun _ => False) := by simp only [go_sem]) (hxn : x.nv := by simp only [go_sem]) (hms : ∀ q ∈ ms, q ≠ H.length := by simp)
    (hd : dynOK ao.free deps [H.length] tr lo = true := by first | (simp only [go_sem]; done) | (simp [go_sem]; done) | (simp [go_sem]; omega)) : DCallR P R g args ao lo l tr hi ss fs ρ H ms Q := by
  have eσ : outσ [] H.length = fun i => H.length + i := by funext i; simp [outσ]
  have e : outΔ (outσ [] H.length) 0 [some x] = [(H.length, x)] := by
    rw [eσ]
    simp only [outΔ, Row.ren_same hx, Nat.add_zero]
  have h1 := (h.lss hargs).dfrz (H := H) (args := args) d deps rfl (by simpa using hr) hnv ⟨bel_mono_row hx fun _ h => h.elim, trivial⟩ ⟨hxn, trivial⟩
  rw [e, eσ] at h1
  have e2 : newNames H.length [some x].length = [H.length] := rfl
  rw [e2] at h1
  refine dcallR (deps := deps) h1 ⟨fun q hq => ?_, fun q hq => ?_, hd, ?_⟩
  · simpa [Oc.rows] using hms q hq
  · simp only [List.mem_singleton] at hq
    subst hq
    refine ⟨Nat.le_refl _, ?_⟩
    simp only [Heap.puts, Heap.put_end]
    simp
  · simp only [Heap.puts, Heap.put_end]
    exact hK

theorem dDs {x x' : Row} {es : List AVal} {gr : Bool} {sz j : Nat} (h : Ans P g (.ptr 0 0 0 1 :: args) [some x] (slv 1 es) (some x' :: slrG gr sz es)) (hes : es ≠ []) (hj : H[j]? = some (some x)) (hb : Bels (fun _ => False) args)
    (hx : x.bel (fun _ => False)) (hx' : x'.bel (fun _ => False)) (hbe : Bels (fun _ => False) es) (hms : ∀ q ∈ ms, q ≠ j ∧ q ≠ H.length) (hd : dynOK ao.free [j] [j, H.length] tr lo = true)
    (hK : R (.grp lo l (tr ++ [([j], [j, H.length])]) hi ss) fs ⟨setD ρ ao.dst (.sl H.length 0 es.length), H.set j (some x') ++ [some (.cells gr sz es)], ms⟩ Q) : DCallR P R g (.ptr j 0 0 1 :: args) ao lo l tr hi ss fs ρ H ms Q := by
  have hlt : j < H.length := (List.getElem?_eq_some_iff.1 hj).1
  have hargs : args.map (ren (nth [j])) = args := by
    conv => rhs; rw [← List.map_id args]
    exact List.map_congr_left fun v hv => ren_same (bels_mem hb v hv)
  have hrow : Row.bel (fun _ => False) (.cells gr sz es) := by rw [row_bel_cells]; exact hbe
  unfold slv slrG at h
  rw [if_neg hes, if_neg hes] at h
  have e : outΔ (outσ [j] H.length) 0 [some x', some (.cells gr sz es)] = [(j, x'), (H.length, .cells gr sz es)] := by
    simp only [outΔ, Row.ren_same hx', Row.ren_same hrow]; rfl
  have h1 := h.dcall (H := H) (args := .ptr j 0 0 1 :: args) [j] (by simp) ⟨by rw [Row.ren_same hx]; exact hj, trivial⟩ (by simp only [List.map_cons, hargs]; rfl) ⟨by rw [bel_ptr]; simp, bels_of fun v hv => (bels_mem hb v hv).mono fun _ h => h.elim⟩ ⟨bel_mono_row hx fun _ h => h.elim, trivial⟩ (by simp)
    (by rw [bel_sl]; simp) ⟨bel_mono_row hx' fun _ h => h.elim, bel_mono_row hrow fun _ h => h.elim, trivial⟩ (by simpa using hlt)
  rw [e] at h1
  have e2 : newNames H.length ([some x', some (.cells gr sz es)].length - [j].length) = [H.length] := rfl
  have e3 : ren (outσ [j] H.length) (.sl 1 0 es.length) = .sl H.length 0 es.length := by simp [ren, outσ]
  rw [e2, e3] at h1
  have e4 : Heap.put (H.set j (some x')) H.length (.cells gr sz es) = H.set j (some x') ++ [some (.cells gr sz es)] := by
    have := Heap.put_end (H.set j (some x')) (.cells gr sz es)
    rwa [List.length_set] at this
  refine dcallR (deps := [j]) h1 ⟨fun q hq => ?_, fun q hq => ?_, hd, ?_⟩
  · have := hms q hq
    simp [Oc.rows, this.1, this.2]
  · simp only [List.mem_singleton] at hq
    subst hq
    refine ⟨Nat.le_refl _, ?_⟩
    simp only [Heap.puts, put_lt hlt, e4]
    simp
  · simp only [Heap.puts, put_lt hlt, e4]
    exact hK
end
end Go.Sx
/- Ranges over functions, reckoned: rounds of a loop, and what a function that is ranged over does. -/
namespace Go.Sx
open Go

section
variable {P : Program} {G : Ctx} {k : Nat} {rd : Option Nat}

def RoundW (P : Program) (G : Ctx) (r : Nat) (xs : List AVal) (H : Heap) (R : AVal → Heap → Prop) : Prop :=
  ∃ ρr ps asg body d pend, H[r]? = some (some (.loop ρr ps asg body d .ready pend)) ∧ xs.length = ps.length ∧
    AW P G H.length (some r) asg (RoundMid P G H.length r body R) ⟨psets ρr ps xs, H, []⟩

theorem RoundMid.mono {r : Nat} {body : ACode} {R R' : AVal → Heap → Prop} (hR : ∀ v H', R v H' → R' v H') {e : Exit} {s : St} (h : RoundMid P G k r body R e s) : RoundMid P G k r body R' e s := by
  obtain ⟨h1, ρ, ps, asg, body', d, pend, h2, h3⟩ := h
  refine ⟨h1, ρ, ps, asg, body', d, pend, h2, h3.mono ?_⟩
  rintro e s ⟨ρ, ps, asg, body, d, st, pend, h4, h5⟩
  refine ⟨ρ, ps, asg, body, d, st, pend, h4, ?_⟩
  cases e <;> first | exact hR _ _ h5 | exact h5

theorem RoundW.mono {r : Nat} {xs : List AVal} {H : Heap} {R R' : AVal → Heap → Prop} (h : RoundW P G r xs H R) (hR : ∀ v H', R v H' → R' v H') : RoundW P G r xs H R' := by
  obtain ⟨ρr, ps, asg, body, d, pend, h1, h2, h3⟩ := h
  exact ⟨ρr, ps, asg, body, d, pend, h1, h2, h3.mono fun e s => RoundMid.mono hR⟩

theorem roundW_run (n : Nat) {r : Nat} {xs : List AVal} {H : Heap} {R : AVal → Heap → Prop} {ρr ρ' : List AVal} {ps : List Nat} {asg asg' body : ACode} {d : Nat} {pend : Option ACode} (hc : asg = asg') (h1 : H[r]? = some (some (.loop ρr ps asg body d .ready pend)))
    (h2 : xs.length = ps.length) (hρ : psets ρr ps xs = ρ') (h3 : Run P G H.length (some r) n (.code asg') [] ⟨ρ', H, []⟩ (RoundMid P G H.length r body R)) : RoundW P G r xs H R :=
  ⟨ρr, ps, asg, body, d, pend, h1, h2, by rw [hρ, hc]; exact run_aw n h3⟩

theorem roundMid_run (n : Nat) {r : Nat} {body body' : ACode} {R : AVal → Heap → Prop} {s : St} {ρ : List AVal} {ps : List Nat} {asg b' : ACode} {d : Nat} {pend : Option ACode} {H' : Heap} (hc : body = body') (h1 : s.H[r]? = some (some (.loop ρ ps asg b' d .ready pend)))
    (hH : s.H.put r (.loop ρ ps asg b' d .busy pend) = H') (h2 : Run P G k (some r) n (.code body') [] ⟨s.ρ, H', s.ms⟩ (RoundEnd r R)) : RoundMid P G k r body R .normal s :=
  ⟨rfl, ρ, ps, asg, b', d, pend, h1, by rw [hH, hc]; exact run_aw n h2⟩

theorem roundEnd_on {r : Nat} {R : AVal → Heap → Prop} {s : St} {ρ : List AVal} {ps : List Nat} {asg body : ACode} {d : Nat} {st : LoopState} {pend : Option ACode} (h1 : s.H[r]? = some (some (.loop ρ ps asg body d st pend)))
    (h2 : R (.bool true) (s.H.put r (.loop ρ ps asg body d .ready none))) : RoundEnd r R .normal s := ⟨ρ, ps, asg, body, d, st, pend, h1, h2⟩
theorem roundEnd_ret {r : Nat} {R : AVal → Heap → Prop} {s : St} {ρ : List AVal} {ps : List Nat} {asg body : ACode} {d : Nat} {st : LoopState} {pend : Option ACode} (h1 : s.H[r]? = some (some (.loop ρ ps asg body d st pend)))
    (h2 : R (.bool false) (s.H.put r (.loop ρ ps asg body d .done (some .ret)))) : RoundEnd r R .ret s := ⟨ρ, ps, asg, body, d, st, pend, h1, h2⟩
theorem roundEnd_exit {r id : Nat} {R : AVal → Heap → Prop} {s : St} {ρ : List AVal} {ps : List Nat} {asg body : ACode} {d : Nat} {st : LoopState} {pend : Option ACode} (h1 : s.H[r]? = some (some (.loop ρ ps asg body d st pend)))
    (h2 : R (.bool false) (s.H.put r (.loop ρ ps asg body d .done (some (.exit id))))) : RoundEnd r R (.exit id) s := ⟨ρ, ps, asg, body, d, st, pend, h1, h2⟩

theorem yieldR (n : Nat) {o : AOper} {f : AOpd} {xs : List AOpd} {r : Nat} {l : List AOper} {fs : List Frame} {ρ : List AVal} {H : Heap} {ms : List Nat} {Q : Goal} {vs : List AVal} (ho : o.op = .call f xs) (hg : gval ρ o.guard = some true) (hf : opd ρ f = .yfn r) (hvs : vs = xs.map (opd ρ)) (hk : k ≤ H.length)
    (h : RoundW P G r vs H fun v H' => (∀ q ∈ ms, H'[q]? = some (some .dfr)) ∧ Run P G k rd n (.ops l) fs ⟨setD ρ o.dst v, H', ms⟩ Q) :
    callee P G k rd (Run P G k rd n) (.yfn r) o vs l fs ρ H ms Q := by
  obtain ⟨ρr, ps, asg, body, d, pend, h1, h2, h3⟩ := h
  subst hvs
  show Areg P G k rd (o :: l) ⟨ρ, H, ms⟩ (Fin P G k rd fs Q .normal)
  show OpA P G k rd o ⟨ρ, H, ms⟩ fun s' => Areg P G k rd l s' (Fin P G k rd fs Q .normal)
  exact op_round hg ho hf h1 (by simpa using h2) h3 hk fun v H' hR => ⟨hR.1, run_mean n _ _ _ _ hR.2⟩

def RngOut (P : Program) (G : Ctx) (k : Nat) (rd : Option Nat) (n : Nat) (l : Nat) (fs : List Frame) (ρ : List AVal) (ms : List Nat) (Q : Goal) (H' : Heap) : Prop :=
  (∀ q ∈ ms, H'[q]? = some (some .dfr)) ∧ ∃ ρ' ps' asg' body' d' st pend, H'[l]? = some (some (.loop ρ' ps' asg' body' d' st pend)) ∧ st ≠ .busy ∧
    match pend with
    | none => Run P G k rd n (.out .normal) fs ⟨ρ, H'.set l none, ms⟩ Q
    | some c => Run P G k rd n (.code c) fs ⟨ρ, H'.set l none, ms⟩ Q

theorem rangeF (m : Nat) {g : AOpd} {ps : List Nat} {asg body : ACode} {fs : List Frame} {ρ₀ ρ : List AVal} {H : Heap} {ms : List Nat} {Q : Goal} {f : FuncId} {xs cs : List AVal} {R : AVal → Heap → Prop} (hw : Wk ρ₀ ρ) (hg : opd ρ g = .fn (.func f) xs cs)
    (hc : CallW P G f (xs ++ [.yfn (H.length + 1)] ++ cs) (H ++ [some .dfr] ++ [some (.loop ρ ps asg body H.length .ready none)]) R) (hk : k ≤ H.length)
    (hK : ∀ v H', R v H' → RngOut P G k none m (H.length + 1) fs ρ (H.length :: ms) Q H') : Mean P G k none (.code (.rng g ps asg body)) fs ⟨ρ₀, H, ms⟩ Q := by
  refine aw_less (less_wk hw) ?_
  refine aw_rng_outer (s := ⟨ρ, H, ms⟩) hg hc hk fun v H' hR => ?_
  obtain ⟨h1, ρ', ps', asg', body', d', st, pend, h2, h3, h4⟩ := hK v H' hR
  refine ⟨h1, ρ', ps', asg', body', d', st, pend, h2, h3, ?_⟩
  cases pend with
  | none => exact run_mean m _ _ _ _ h4
  | some c => exact run_mean m _ _ _ _ h4

theorem callW_run (n : Nat) {f : FuncId} {af : AFun} {args : List AVal} {H : Heap} {R : AVal → Heap → Prop} (e : EntryOK P f af)
    (h : Run P G H.length none n (.code af.body) [] ⟨args ++ List.replicate (af.ntmps - args.length) .any, H, []⟩ (RetPost af.res R)) : CallW P G f args H R := by
  obtain ⟨fn, h1, h2, h3⟩ := e
  exact call_of_afun h1 h2 h3 (run_aw n h)

theorem cN1 {R : Runner} {l : List AOper} {fs : List Frame} {ρ : List AVal} {H : Heap} {ms : List Nat} {Q : Goal} {dst : Option Nat} {x : Row} {g : FuncId} {args : List AVal} {r : AVal} (h : Ans P g args [] r [some x]) (hK : R (.ops l) fs ⟨setD ρ dst (ren (fun i => H.length + i) r), H ++ [some x], ms⟩ Q)
    (hb : Bels (fun _ => False) args := by simp only [go_sem]) (hr : Bel (· < 1) r := by simp [go_sem]) (hx : x.bel (fun _ => False) := by first | (simp only [go_sem]; done) | (rw [row_bel_cells]; simp only [go_sem])) (hk : k ≤ H.length := by simp) (hms : ∀ q ∈ ms, H[q]? = some (some .dfr) := by simp) : CallR P G k R g args dst l fs ρ H ms Q := by
  have e : outΔ (outσ [] H.length) 0 [some x] = [(H.length, x)] := by
    simp only [outΔ, Row.ren_same hx]
    rfl
  have eσ : outσ [] H.length = fun i => H.length + i := by funext i; simp [outσ]
  refine callS h [] (by simp) trivial (by
    conv => lhs; rw [← List.map_id args]
    exact List.map_congr_left fun v hv => (ren_same (bels_mem hb v hv)).symm) (bels_of fun v hv => (bels_mem hb v hv).mono fun _ h => h.elim) trivial (by simp) (by simpa using hr)
    ⟨bel_mono_row hx fun _ h => h.elim, trivial⟩ (fun q hq => by simp at hq) hk (fun q hq => ?_) ?_
  · refine ⟨?_, hms q hq⟩
    rw [e]
    have := (List.getElem?_eq_some_iff.1 (hms q hq)).1
    simp; omega
  · rw [e, eσ]
    simp only [Heap.puts, Heap.put_end]
    exact hK

theorem kept_new {LH A : Heap} {y : Row} {r v : AVal} {H' : Heap} (n j : Nat) (hn : LH.length = n) (hA : A.length = n) (hj : n ≤ j) (hv : v = ren (fun i => if i < n then i else j) r) (hA' : ∀ (i : Nat) (x : Row), A[i]? = some (some x) → x.bel (fun _ => False) ∧ H'[i]? = some (some x))
    (hy : y.bel (fun _ => False)) (h1 : H'[j]? = some (some y)) : ∃ σ, Kept LH (A ++ [some y]) r v H' σ :=
  ⟨fun i => if i < n then i else j, fun i hi => by rw [hn] at hi; simp [hi], fun i k hi hk h => by
    simp only [List.length_append, List.length_singleton, hA] at hi hk
    by_cases hi0 : i < n <;> by_cases hk0 : k < n <;> simp [hi0, hk0] at h <;> omega, hv, fun i z hz => by
    by_cases hi : i < n
    · rw [List.getElem?_append_left (by rw [hA]; exact hi)] at hz
      obtain ⟨h2, h3⟩ := hA' i z hz
      rw [Row.ren_same h2]; simp only [hi, if_true]; exact h3
    · rw [List.getElem?_append_right (by rw [hA]; omega), hA] at hz
      have hi' := (List.getElem?_eq_some_iff.1 hz).1
      simp only [List.length_singleton] at hi'
      obtain rfl : i = n := by omega
      simp only [Nat.sub_self, List.getElem?_cons_zero, Option.some.injEq] at hz
      subst hz
      rw [Row.ren_same hy]; simp only [Nat.lt_irrefl, if_false]; exact h1⟩

theorem tail_kept {A A' X Y : Heap} {N : Nat} (h1 : A.length = N) (h2 : A'.length = N) : (A ++ X).length ≤ (A' ++ (X ++ Y)).length ∧ ∀ q, N ≤ q → q < (A ++ X).length → (A' ++ (X ++ Y))[q]? = (A ++ X)[q]? := by
  refine ⟨by simp; omega, fun q hq hl => ?_⟩
  have hl' : q < A.length + X.length := by simpa using hl
  have hq1 : A'.length ≤ q := by rw [h2]; exact hq
  have hq2 : A.length ≤ q := by rw [h1]; exact hq
  have hq3 : q - A'.length < X.length := by omega
  rw [List.getElem?_append_right hq1, List.getElem?_append_right hq2, List.getElem?_append_left hq3, h1, h2]

theorem get_end (H : Heap) (x : Option Row) : (H ++ [x])[H.length]? = some x := by simp
theorem cells_at {H : Heap} {j : Nat} {g : Bool} {sz : Nat} {es : List AVal} (h : H[j]? = some (some (.cells g sz es))) : H.cellsAt j = some (g, sz, es) := by
  unfold Heap.cellsAt; rw [h]
theorem cells_end (H : Heap) (g : Bool) (sz : Nat) (es : List AVal) : Heap.cellsAt (H ++ [some (.cells g sz es)]) H.length = some (g, sz, es) := cells_at (get_end _ _)
theorem put_at_end (H : Heap) (x : Option Row) (y : Row) : Heap.put (H ++ [x]) H.length y = H ++ [some y] := by
  unfold Heap.put
  simp
end
end Go.Sx
/- From what is known of a function to its walk from a world. -/
namespace Go.Sx
open Go Go.RowKit

def topG (w : World) : Ctx := { keep := fun b => b < w.heap.size, ro := fun b => b < w.heap.size, w0 := w }

theorem top_rel (P : Program) (w : World) (hg : GlobOK P (topG w)) : HR P (topG w) (fun _ => none) [] w :=
  ⟨fun r x h => by simp at h, fun r r' x x' p p' h => by simp at h, fun b hb => ⟨hb, rfl⟩, fun b hb => hb, Calm.refl w, fun r h => by simp at h, hg⟩

theorem Ans.walk {P : Program} {f : FuncId} {args : List AVal} {r : AVal} {LH' : Heap} {w : World} (hg : GlobOK P (topG w)) (hA : Ans P f args [] r LH') {cargs : Array Value} (hl : args.length = cargs.size)
    (hv : ∀ i, i < args.length → VR (topG w) (fun _ => none) (args.getD i .any) (cargs.getD i undef)) :
    Calls P f cargs w fun e w' => (∃ cv μ, e = .returned cv ∧ VR (topG w) μ r cv) ∧ Below w.heap.size w w' := by
  have h := (hA (topG w)).2 (fun _ => none) cargs w hl hv (top_rel P w hg) (fun r hr => by cases hr)
  have hF : Fw none = Fence.wide := rfl
  rw [hF] at h
  refine (callsIn_wide.1 h).mono fun e w' hp => ?_
  obtain ⟨v, cv, μ', H', rfl, ⟨rfl, _⟩, hvr, hH, _⟩ := hp
  refine ⟨⟨cv, μ', rfl, hvr⟩, hH.calm.1, hH.calm.2.1, hH.calm.2.2, ?_, fun k hk => (hH.kept k hk).2⟩
  by_cases h0 : w.heap.size = 0
  · omega
  · have := (hH.kept (w.heap.size - 1) (by show w.heap.size - 1 < w.heap.size; omega)).1
    omega

def noGlob (P : Program) : Bool := P.globals.toList.all fun x => (gtab x.name).isNone
theorem GlobOK.none {P : Program} {G : Ctx} (h : noGlob P = true) : GlobOK P G := fun g e he => by
  unfold gvOf at he
  cases hx : P.globals[g]? with
  | none => rw [hx] at he; cases he
  | some x =>
    rw [hx] at he
    have hm : x ∈ P.globals.toList := by
      have := Array.mem_of_getElem? hx
      simpa using this
    have := List.all_eq_true.1 h x hm
    simp only [Option.bind_some] at he
    rw [he] at this; cases this

theorem Ans.walk_bool {P : Program} {f : FuncId} {args : List AVal} {b : Bool} {LH' : Heap} {w : World} (hg : GlobOK P (topG w)) (hA : Ans P f args [] (.bool b) LH') {cargs : Array Value} (hl : args.length = cargs.size)
    (hv : ∀ i, i < args.length → VR (topG w) (fun _ => none) (args.getD i .any) (cargs.getD i undef)) :
    Calls P f cargs w fun e w' => e = .returned (.bool b) ∧ Below w.heap.size w w' :=
  (Ans.walk hg hA hl hv).mono fun e w' ⟨⟨cv, μ, he, hvr⟩, hb⟩ => by
    cases hvr; exact ⟨he, hb⟩

theorem top_ints {w : World} {μ : Mu} {k : IntKind} {a : Option Addr} {len cap : Nat} {zs : List Int}
    (h : (a = none ∧ len = 0 ∧ cap = 0 ∧ zs = []) ∨ ∃ x, a = some x ∧ len ≤ cap ∧ cap ≤ maxLen ∧ zs.length = cap ∧ (∀ i, i < zs.length → w.cell? (x.add i) = some (.int k (zs.getD i 0))) ∧ ∀ n ∈ zs, (Lit.int k n).wf = true) :
    VR (topG w) μ (.view ((zs.take len).map (.int k))) (.slice a len cap) := by
  rcases h with ⟨rfl, rfl, rfl, rfl⟩ | ⟨x, rfl, h1, h2, h3, h4, h5⟩
  · exact .viewnil none 0
  · by_cases h0 : len = 0
    · subst h0; exact .viewnil _ _
    · have hz : 0 < zs.length := by omega
      have hc := h4 0 hz
      obtain ⟨b, o, sp⟩ := x
      have hsp : sp = none ∧ b < w.heap.size := by
        simp only [World.cell?, Addr.add] at hc
        split at hc
        · rename_i c _ _ hh
          have := (Array.getElem?_eq_some_iff.1 hh).1
          cases sp <;> simp_all
        · cases hc
      obtain ⟨rfl, hb⟩ := hsp
      have hlen : ((zs.take len).map (AVal.int k)).length = len := by simp; omega
      have := VR.view (G := topG w) (μ := μ) ((zs.take len).map (.int k)) b o 1 cap (fun i _ => .int k (zs.getD i 0)) hb (by rw [hlen]; exact h1) (fun i hi => ?_) (fun i j hi hj => ?_) (fun i j hi hj => ?_)
      · rwa [hlen] at this
      · rw [hlen] at hi
        have : ((zs.take len).map (AVal.int k)).getD i .any = .int k (zs.getD i 0) := by
          simp [List.getD_eq_getElem?_getD, List.getElem?_map, List.getElem?_take, hi, show i < zs.length by omega]
        rw [this]; rfl
      · rw [hlen] at hi
        have := h4 i (by omega)
        obtain rfl : j = 0 := by omega
        show w.cell? _ = _
        by_cases hi0 : i = 0
        · subst hi0; simpa [Addr.add] using this
        · simpa [Addr.add, hi0] using this
      · rw [hlen] at hi
        have : ((zs.take len).map (AVal.int k)).getD i .any = .int k (zs.getD i 0) := by
          simp [List.getD_eq_getElem?_getD, List.getElem?_map, List.getElem?_take, hi, show i < zs.length by omega]
        rw [this, show j = 0 by omega]
        exact .int _ _
end Go.Sx
