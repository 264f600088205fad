/- A part of the proof: the abstract semantics. -/
import Derived.Test.YtechakihgojbgaaSxF
import Derived.Below
set_option linter.unusedSimpArgs false
set_option linter.unusedVariables false
/- The rules by which code is reckoned: 'simp only [go_sem]'. -/
namespace Go.Sx
open Go

section
variable (H : Heap) (tk : TK)
@[go_sem] theorem abin_ints (op : BinOp) (k k' : IntKind) (a b : Int) : abin H tk op (.int k a) (.int k' b) = abinInt op k a k' b := rfl
@[go_sem] theorem abin_strs (op : BinOp) (a b : List UInt8) : abin H tk op (.str a) (.str b) = abinStr op a b := rfl
@[go_sem] theorem abin_beql (a b : Bool) : abin H .bool .eql (.bool a) (.bool b) = some (.bool (a == b)) := rfl
@[go_sem] theorem abin_bneq (a b : Bool) : abin H .bool .neq (.bool a) (.bool b) = some (.bool (!(a == b))) := rfl
@[go_sem] theorem abin_nilsl (x : AVal) : abin H .slice .eql x .nilsl = (isNilK H .slice x).map .bool := by cases x <;> rfl
@[go_sem] theorem abin_nilsl' (x : AVal) : abin H .slice .neq x .nilsl = (isNilK H .slice x).map fun b => .bool (!b) := by cases x <;> rfl
@[go_sem] theorem abin_nilptr (x : AVal) : abin H .ptr .eql x .nilptr = (isNilK H .ptr x).map .bool := by cases x <;> rfl
@[go_sem] theorem abin_nilptr' (x : AVal) : abin H .ptr .neq x .nilptr = (isNilK H .ptr x).map fun b => .bool (!b) := by cases x <;> rfl
@[go_sem] theorem abin_nilfn (x : AVal) : abin H .func .eql x .nilfn = (isNilK H .func x).map .bool := by cases x <;> rfl
@[go_sem] theorem abin_nilfn' (x : AVal) : abin H .func .neq x .nilfn = (isNilK H .func x).map fun b => .bool (!b) := by cases x <;> rfl

@[go_sem] theorem cellsAt_app0 (L : Heap) : Heap.cellsAt (H ++ L) (List.length H) = Heap.cellsAt L 0 := by
  unfold Heap.cellsAt; rw [List.getElem?_append_right (Nat.le_refl _), Nat.sub_self]
@[go_sem] theorem cellsAt_app (L : Heap) (j : Nat) : Heap.cellsAt (H ++ L) (List.length H + j) = Heap.cellsAt L j := by
  unfold Heap.cellsAt; rw [List.getElem?_append_right (Nat.le_add_right _ _), Nat.add_sub_cancel_left]
@[go_sem] theorem cellsAt_zero (g : Bool) (sz : Nat) (es : List AVal) (L : Heap) : Heap.cellsAt (some (.cells g sz es) :: L) 0 = some (g, sz, es) := rfl
@[go_sem] theorem cellsAt_succ (x : Option Row) (L : Heap) (n : Nat) : Heap.cellsAt (x :: L) (n + 1) = Heap.cellsAt L n := rfl

@[go_sem] theorem put_nil (x : Row) : Heap.put [] 0 x = [some x] := rfl
@[go_sem] theorem put_zero (y : Option Row) (L : Heap) (x : Row) : Heap.put (y :: L) 0 x = some x :: L := rfl
@[go_sem] theorem put_succ (y : Option Row) (L : Heap) (n : Nat) (x : Row) : Heap.put (y :: L) (n + 1) x = y :: Heap.put L n x := by
  unfold Heap.put
  by_cases h : n < List.length L
  · rw [if_pos (by simpa using h), if_pos h]; rfl
  · rw [if_neg (by simpa using h), if_neg h]
    simp
@[go_sem] theorem put_app0 (L : Heap) (x : Row) : Heap.put (H ++ L) (List.length H) x = H ++ Heap.put L 0 x := by
  unfold Heap.put
  by_cases h : 0 < List.length L
  · rw [if_pos (by rw [List.length_append]; omega), if_pos h, List.set_append_right (h := Nat.le_refl _), Nat.sub_self]
  · rw [if_neg (by rw [List.length_append]; omega), if_neg h, List.append_assoc]
    have : L = [] := List.eq_nil_of_length_eq_zero (by omega)
    subst this
    simp
@[go_sem] theorem put_app (L : Heap) (n : Nat) (x : Row) : Heap.put (H ++ L) (List.length H + n) x = H ++ Heap.put L n x := by
  unfold Heap.put
  by_cases h : n < List.length L
  · rw [if_pos (by rw [List.length_append]; omega), if_pos h, List.set_append_right (h := Nat.le_add_right _ _), Nat.add_sub_cancel_left]
  · rw [if_neg (by rw [List.length_append]; omega), if_neg h, List.append_assoc]
    have e : List.length H + n - List.length (H ++ L) = n - List.length L := by rw [List.length_append]; omega
    rw [e]
end

@[go_sem] theorem omap_if {α β : Type} (f : α → β) (c : Prop) [Decidable c] (o : Option α) : Option.map f (if c then o else none) = if c then Option.map f o else none := by by_cases h : c <;> simp [h]
@[go_sem] theorem omap_if' {α β : Type} (f : α → β) (c : Prop) [Decidable c] (o : Option α) : Option.map f (if c then none else o) = if c then none else Option.map f o := by by_cases h : c <;> simp [h]

@[go_sem] theorem sizedAll_nil (sz : Nat) : sizedAll sz [] = true := (rfl)
@[go_sem] theorem sizedAll_cons (sz : Nat) (v : AVal) (l : List AVal) : sizedAll sz (v :: l) = (((acells v).length == sz && (acells v).all AVal.one) && sizedAll sz l) := (rfl)
section
variable {S : Nat → Prop}
@[go_sem] theorem bel_any : Bel S .any = True := eq_true .any
@[go_sem] theorem bel_bool (b : Bool) : Bel S (.bool b) = True := eq_true (.bool b)
@[go_sem] theorem bel_int (q : IntKind) (n : Int) : Bel S (.int q n) = True := eq_true (.int q n)
@[go_sem] theorem bel_str (l : List UInt8) : Bel S (.str l) = True := eq_true (.str l)
@[go_sem] theorem bel_nilptr : Bel S .nilptr = True := eq_true .nilptr
@[go_sem] theorem bel_nilsl : Bel S .nilsl = True := eq_true .nilsl
@[go_sem] theorem bel_nilfn : Bel S .nilfn = True := eq_true .nilfn
@[go_sem] theorem bel_niliface : Bel S .niliface = True := eq_true .niliface
@[go_sem] theorem tail_nil (H : Heap) : (∃ X, H = H ++ X) = True := eq_true ⟨[], by simp⟩
@[go_sem] theorem tail_some (H Y : Heap) : (∃ X, H ++ Y = H ++ X) = True := eq_true ⟨Y, rfl⟩
end

section
variable {P : Program} {G : Ctx} {k : Nat} {rd : Option Nat} {R : Runner} (n : Nat) (fs : List Frame) (s : St) (Q : Goal) (l : List AOper) (o : AOper) (a b c : ACode) (id : Nat) (e : Exit) (lo hi : Nat) (ss : List (List AOper)) (tr : List (List Nat × List Nat))
@[go_sem] theorem run_ops_nil : Run P G k rd (n + 1) (.ops []) fs s Q = Run P G k rd n (.out .normal) fs s Q := (rfl)
@[go_sem] theorem run_ops_cons (ρ : List AVal) (H : Heap) (ms : List Nat) : Run P G k rd (n + 1) (.ops (o :: l)) fs ⟨ρ, H, ms⟩ Q = gd P G k rd (Run P G k rd n) (gval ρ o.guard) o l fs ρ H ms Q := (rfl)
@[go_sem] theorem run_skip : Run P G k rd (n + 1) (.code .skip) fs s Q = Run P G k rd n (.out .normal) fs s Q := (rfl)
@[go_sem] theorem run_reg : Run P G k rd (n + 1) (.code (.reg l false)) fs s Q = Run P G k rd n (.ops l) fs s Q := (rfl)
@[go_sem] theorem run_draw : Run P G k rd (n + 1) (.code (.reg l true)) fs s Q = (P.follows .mixedOrders = true ∧ statOK l = true ∧ Run P G k rd n (.segs 0 (segs l)) fs s Q) := (rfl)
@[go_sem] theorem run_seq : Run P G k rd (n + 1) (.code (.seq a b)) fs s Q = Run P G k rd n (.code a) (.seq b :: fs) s Q := (rfl)
@[go_sem] theorem run_cond (x : AOpd) (ρ : List AVal) (H : Heap) (ms : List Nat) : Run P G k rd (n + 1) (.code (.cond x a b)) fs ⟨ρ, H, ms⟩ Q = br (Run P G k rd n) (opd ρ x) a b fs ⟨ρ, H, ms⟩ Q := (rfl)
@[go_sem] theorem run_block : Run P G k rd (n + 1) (.code (.block id c)) fs s Q = Run P G k rd n (.code c) (.blk id :: fs) s Q := (rfl)
@[go_sem] theorem run_exit : Run P G k rd (n + 1) (.code (.exit id)) fs s Q = Run P G k rd n (.out (.exit id)) fs s Q := (rfl)
@[go_sem] theorem run_label : Run P G k rd (n + 1) (.code (.label id)) fs s Q = Run P G k rd n (.out .normal) fs s Q := (rfl)
@[go_sem] theorem run_goto : Run P G k rd (n + 1) (.code (.goto id)) fs s Q = Run P G k rd n (.out (.goto id)) fs s Q := (rfl)
@[go_sem] theorem run_ret : Run P G k rd (n + 1) (.code .ret) fs s Q = Run P G k rd n (.out .ret) fs s Q := (rfl)
@[go_sem] theorem run_scope : Run P G k rd (n + 1) (.code (.scope c)) fs s Q = Run P G k rd n (.code c) (.scp :: fs) s Q := (rfl)
@[go_sem] theorem run_scp_normal : Run P G k rd (n + 1) (.out .normal) (.scp :: fs) s Q = Run P G k rd n (.out .normal) fs s Q := (rfl)
@[go_sem] theorem run_scp_exit : Run P G k rd (n + 1) (.out (.exit id)) (.scp :: fs) s Q = Run P G k rd n (.out (.exit id)) fs s Q := (rfl)
@[go_sem] theorem run_scp_ret : Run P G k rd (n + 1) (.out .ret) (.scp :: fs) s Q = Run P G k rd n (.out .ret) fs s Q := (rfl)
@[go_sem] theorem run_loop : Run P G k rd (n + 1) (.code (.loop c)) fs s Q = Loop P G k rd c fs s Q := (rfl)
@[go_sem] theorem run_rng (g : AOpd) (ps : List Nat) : Run P G k rd (n + 1) (.code (.rng g ps a b)) fs s Q = Mean P G k rd (.code (.rng g ps a b)) fs s Q := (rfl)
@[go_sem] theorem run_out_nil : Run P G k rd (n + 1) (.out e) [] s Q = Q e s := (rfl)
@[go_sem] theorem run_seq_normal : Run P G k rd (n + 1) (.out .normal) (.seq c :: fs) s Q = Run P G k rd n (.code c) fs s Q := (rfl)
@[go_sem] theorem run_seq_exit : Run P G k rd (n + 1) (.out (.exit id)) (.seq c :: fs) s Q = Run P G k rd n (.out (.exit id)) fs s Q := (rfl)
@[go_sem] theorem run_seq_goto : Run P G k rd (n + 1) (.out (.goto id)) (.seq c :: fs) s Q = Run P G k rd n (.out (.goto id)) fs s Q := (rfl)
@[go_sem] theorem run_seq_ret : Run P G k rd (n + 1) (.out .ret) (.seq c :: fs) s Q = Run P G k rd n (.out .ret) fs s Q := (rfl)
@[go_sem] theorem run_blk_normal : Run P G k rd (n + 1) (.out .normal) (.blk id :: fs) s Q = Run P G k rd n (.out .normal) fs s Q := (rfl)
@[go_sem] theorem run_blk_exit (j : Nat) : Run P G k rd (n + 1) (.out (.exit j)) (.blk id :: fs) s Q = (if j = id then Run P G k rd n (.out .normal) fs s Q else Run P G k rd n (.out (.exit j)) fs s Q) := (rfl)
@[go_sem] theorem run_blk_goto (j : Nat) : Run P G k rd (n + 1) (.out (.goto j)) (.blk id :: fs) s Q = Run P G k rd n (.out (.goto j)) fs s Q := (rfl)
@[go_sem] theorem run_blk_ret : Run P G k rd (n + 1) (.out .ret) (.blk id :: fs) s Q = Run P G k rd n (.out .ret) fs s Q := (rfl)
@[go_sem] theorem run_rnd_normal : Run P G k rd (n + 1) (.out .normal) (.rnd c :: fs) s Q = Loop P G k rd c fs s Q := (rfl)
@[go_sem] theorem run_rnd_exit (j : Nat) : Run P G k rd (n + 1) (.out (.exit j)) (.rnd c :: fs) s Q = Run P G k rd n (.out (.exit j)) fs s Q := (rfl)
@[go_sem] theorem run_rnd_goto (j : Nat) : Run P G k rd (n + 1) (.out (.goto j)) (.rnd c :: fs) s Q = Run P G k rd n (.out (.goto j)) fs s Q := (rfl)
@[go_sem] theorem run_rnd_ret : Run P G k rd (n + 1) (.out .ret) (.rnd c :: fs) s Q = Run P G k rd n (.out .ret) fs s Q := (rfl)
@[go_sem] theorem run_sgs : Run P G k rd (n + 1) (.out .normal) (.sgs lo ss :: fs) s Q = Run P G k rd n (.segs lo ss) fs s Q := (rfl)
@[go_sem] theorem run_segs_nil : Run P G k rd (n + 1) (.segs lo []) fs s Q = Run P G k rd n (.out .normal) fs s Q := (rfl)
@[go_sem] theorem run_segs_one : Run P G k rd (n + 1) (.segs lo ([o] :: ss)) fs s Q = Run P G k rd n (.ops [o]) (.sgs (lo + 1) ss :: fs) s Q := (rfl)
@[go_sem] theorem run_segs_grp (o' : AOper) : Run P G k rd (n + 1) (.segs lo ((o :: o' :: l) :: ss)) fs s Q = Run P G k rd n (.grp lo (o :: o' :: l) [] (lo + (o :: o' :: l).length) ss) fs s Q := (rfl)
@[go_sem] theorem run_grp_nil : Run P G k rd (n + 1) (.grp lo [] tr hi ss) fs s Q = Run P G k rd n (.segs hi ss) fs s Q := (rfl)
@[go_sem] theorem run_grp_cons (ρ : List AVal) (H : Heap) (ms : List Nat) : Run P G k rd (n + 1) (.grp lo (o :: l) tr hi ss) fs ⟨ρ, H, ms⟩ Q = gdG P (Run P G k rd n) (gval ρ o.guard) o lo l tr hi ss fs ρ H ms Q := (rfl)

variable (ρ : List AVal) (H : Heap) (ms : List Nat)
@[go_sem] theorem stepOp_call (f : AOpd) (xs : List AOpd) : stepOp P G k rd R o (.call f xs) l fs ρ H ms Q = callee P G k rd R (opd ρ f) o (xs.map (opd ρ)) l fs ρ H ms Q := (rfl)
@[go_sem] theorem callee_fn (g : FuncId) (ys cs xs : List AVal) : callee P G k rd R (.fn (.func g) ys cs) o xs l fs ρ H ms Q = CallR P G k R g (ys ++ xs ++ cs) o.dst l fs ρ H ms Q := (rfl)
@[go_sem] theorem stepG_call (f : AOpd) (xs : List AOpd) : stepG P R o (.call f xs) lo l tr hi ss fs ρ H ms Q = calleeG P R (opd ρ f) o (xs.map (opd ρ)) lo l tr hi ss fs ρ H ms Q := (rfl)
@[go_sem] theorem stepG_callM (tab : List (Nat × Nat)) (f : AOpd) (xs : List AOpd) : stepG P R o (.callM tab f xs) lo l tr hi ss fs ρ H ms Q = calleeGM P R tab (opd ρ f) o (xs.map (opd ρ)) lo l tr hi ss fs ρ H ms Q := (rfl)
@[go_sem] theorem calleeG_fn (g : FuncId) (ys cs xs : List AVal) : calleeG P R (.fn (.func g) ys cs) o xs lo l tr hi ss fs ρ H ms Q = DCallR P R g (ys ++ xs ++ cs) o lo l tr hi ss fs ρ H ms Q := (rfl)
@[go_sem] theorem calleeGM_iface (tab : List (Nat × Nat)) (t g : Nat) (v : AVal) (xs : List AVal) (h : tabAt tab t = some g) : calleeGM P R tab (.iface t v) o xs lo l tr hi ss fs ρ H ms Q = DCallR P R g (v :: xs) o lo l tr hi ss fs ρ H ms Q := by
  simp only [calleeGM, h]
@[go_sem] theorem stepOp_callM (tab : List (Nat × Nat)) (f : AOpd) (xs : List AOpd) : stepOp P G k rd R o (.callM tab f xs) l fs ρ H ms Q = calleeM P G k R tab (opd ρ f) o (xs.map (opd ρ)) l fs ρ H ms Q := (rfl)
@[go_sem] theorem calleeM_iface (tab : List (Nat × Nat)) (t g : Nat) (v : AVal) (xs : List AVal) (h : tabAt tab t = some g) : calleeM P G k R tab (.iface t v) o xs l fs ρ H ms Q = CallR P G k R g (v :: xs) o.dst l fs ρ H ms Q := by
  simp only [calleeM, h]
@[go_sem] theorem so_move (x : AOpd) : stepOp P G k rd R o (.move x) l fs ρ H ms Q = owe R (aev (.move x) ρ H H.length) o.dst l fs ρ H ms Q := (rfl)
@[go_sem] theorem sg_move (x : AOpd) : stepG P R o (.move x) lo l tr hi ss fs ρ H ms Q = oweG R (aev (.move x) ρ H H.length) o (adeps (.move x) ρ) lo l tr hi ss fs ρ H ms Q := (rfl)
@[go_sem] theorem so_pick (c x y : AOpd) : stepOp P G k rd R o (.pick c x y) l fs ρ H ms Q = owe R (aev (.pick c x y) ρ H H.length) o.dst l fs ρ H ms Q := (rfl)
@[go_sem] theorem sg_pick (c x y : AOpd) : stepG P R o (.pick c x y) lo l tr hi ss fs ρ H ms Q = oweG R (aev (.pick c x y) ρ H H.length) o (adeps (.pick c x y) ρ) lo l tr hi ss fs ρ H ms Q := (rfl)
@[go_sem] theorem so_box (x : AOpd) : stepOp P G k rd R o (.box x) l fs ρ H ms Q = owe R (aev (.box x) ρ H H.length) o.dst l fs ρ H ms Q := (rfl)
@[go_sem] theorem sg_box (x : AOpd) : stepG P R o (.box x) lo l tr hi ss fs ρ H ms Q = oweG R (aev (.box x) ρ H H.length) o (adeps (.box x) ρ) lo l tr hi ss fs ρ H ms Q := (rfl)
@[go_sem] theorem so_build (z : List AVal) (p : List (Nat × Nat × AOpd)) : stepOp P G k rd R o (.build z p) l fs ρ H ms Q = owe R (aev (.build z p) ρ H H.length) o.dst l fs ρ H ms Q := (rfl)
@[go_sem] theorem sg_build (z : List AVal) (p : List (Nat × Nat × AOpd)) : stepG P R o (.build z p) lo l tr hi ss fs ρ H ms Q = oweG R (aev (.build z p) ρ H H.length) o (adeps (.build z p) ρ) lo l tr hi ss fs ρ H ms Q := (rfl)
@[go_sem] theorem so_buildSlice (z : Nat) (p : List AOpd) : stepOp P G k rd R o (.buildSlice z p) l fs ρ H ms Q = owe R (aev (.buildSlice z p) ρ H H.length) o.dst l fs ρ H ms Q := (rfl)
@[go_sem] theorem sg_buildSlice (z : Nat) (p : List AOpd) : stepG P R o (.buildSlice z p) lo l tr hi ss fs ρ H ms Q = oweG R (aev (.buildSlice z p) ρ H H.length) o (adeps (.buildSlice z p) ρ) lo l tr hi ss fs ρ H ms Q := (rfl)
@[go_sem] theorem so_load (m : Option Nat) (x : AOpd) : stepOp P G k rd R o (.load m x) l fs ρ H ms Q = owe R (aev (.load m x) ρ H H.length) o.dst l fs ρ H ms Q := (rfl)
@[go_sem] theorem sg_load (m : Option Nat) (x : AOpd) : stepG P R o (.load m x) lo l tr hi ss fs ρ H ms Q = oweG R (aev (.load m x) ρ H H.length) o (adeps (.load m x) ρ) lo l tr hi ss fs ρ H ms Q := (rfl)
@[go_sem] theorem so_store (m : Nat) (x y : AOpd) : stepOp P G k rd R o (.store m x y) l fs ρ H ms Q = owe R (aev (.store m x y) ρ H H.length) o.dst l fs ρ H ms Q := (rfl)
@[go_sem] theorem sg_store (m : Nat) (x y : AOpd) : stepG P R o (.store m x y) lo l tr hi ss fs ρ H ms Q = oweG R (aev (.store m x y) ρ H H.length) o (adeps (.store m x y) ρ) lo l tr hi ss fs ρ H ms Q := (rfl)
@[go_sem] theorem so_nilCheck (x : AOpd) : stepOp P G k rd R o (.nilCheck x) l fs ρ H ms Q = owe R (aev (.nilCheck x) ρ H H.length) o.dst l fs ρ H ms Q := (rfl)
@[go_sem] theorem sg_nilCheck (x : AOpd) : stepG P R o (.nilCheck x) lo l tr hi ss fs ρ H ms Q = oweG R (aev (.nilCheck x) ρ H H.length) o (adeps (.nilCheck x) ρ) lo l tr hi ss fs ρ H ms Q := (rfl)
@[go_sem] theorem so_bin (tk : TK) (b : BinOp) (x y : AOpd) : stepOp P G k rd R o (.bin tk b x y) l fs ρ H ms Q = owe R (aev (.bin tk b x y) ρ H H.length) o.dst l fs ρ H ms Q := (rfl)
@[go_sem] theorem sg_bin (tk : TK) (b : BinOp) (x y : AOpd) : stepG P R o (.bin tk b x y) lo l tr hi ss fs ρ H ms Q = oweG R (aev (.bin tk b x y) ρ H H.length) o (adeps (.bin tk b x y) ρ) lo l tr hi ss fs ρ H ms Q := (rfl)
@[go_sem] theorem so_eqAgg (g : Bool) (ks : List ECell) (x y : AOpd) : stepOp P G k rd R o (.eqAgg g ks x y) l fs ρ H ms Q = owe R (aev (.eqAgg g ks x y) ρ H H.length) o.dst l fs ρ H ms Q := (rfl)
@[go_sem] theorem sg_eqAgg (g : Bool) (ks : List ECell) (x y : AOpd) : stepG P R o (.eqAgg g ks x y) lo l tr hi ss fs ρ H ms Q = oweG R (aev (.eqAgg g ks x y) ρ H H.length) o (adeps (.eqAgg g ks x y) ρ) lo l tr hi ss fs ρ H ms Q := (rfl)
@[go_sem] theorem so_neg (x : AOpd) : stepOp P G k rd R o (.neg x) l fs ρ H ms Q = owe R (aev (.neg x) ρ H H.length) o.dst l fs ρ H ms Q := (rfl)
@[go_sem] theorem sg_neg (x : AOpd) : stepG P R o (.neg x) lo l tr hi ss fs ρ H ms Q = oweG R (aev (.neg x) ρ H H.length) o (adeps (.neg x) ρ) lo l tr hi ss fs ρ H ms Q := (rfl)
@[go_sem] theorem so_not (x : AOpd) : stepOp P G k rd R o (.not x) l fs ρ H ms Q = owe R (aev (.not x) ρ H H.length) o.dst l fs ρ H ms Q := (rfl)
@[go_sem] theorem sg_not (x : AOpd) : stepG P R o (.not x) lo l tr hi ss fs ρ H ms Q = oweG R (aev (.not x) ρ H H.length) o (adeps (.not x) ρ) lo l tr hi ss fs ρ H ms Q := (rfl)
@[go_sem] theorem so_toInt (q : IntKind) (x : AOpd) : stepOp P G k rd R o (.toInt q x) l fs ρ H ms Q = owe R (aev (.toInt q x) ρ H H.length) o.dst l fs ρ H ms Q := (rfl)
@[go_sem] theorem sg_toInt (q : IntKind) (x : AOpd) : stepG P R o (.toInt q x) lo l tr hi ss fs ρ H ms Q = oweG R (aev (.toInt q x) ρ H H.length) o (adeps (.toInt q x) ρ) lo l tr hi ss fs ρ H ms Q := (rfl)
@[go_sem] theorem so_strStr (x : AOpd) : stepOp P G k rd R o (.strStr x) l fs ρ H ms Q = owe R (aev (.strStr x) ρ H H.length) o.dst l fs ρ H ms Q := (rfl)
@[go_sem] theorem sg_strStr (x : AOpd) : stepG P R o (.strStr x) lo l tr hi ss fs ρ H ms Q = oweG R (aev (.strStr x) ρ H H.length) o (adeps (.strStr x) ρ) lo l tr hi ss fs ρ H ms Q := (rfl)
@[go_sem] theorem so_makeFunc (f : Go.Fn) (x y : List AOpd) : stepOp P G k rd R o (.makeFunc f x y) l fs ρ H ms Q = owe R (aev (.makeFunc f x y) ρ H H.length) o.dst l fs ρ H ms Q := (rfl)
@[go_sem] theorem sg_makeFunc (f : Go.Fn) (x y : List AOpd) : stepG P R o (.makeFunc f x y) lo l tr hi ss fs ρ H ms Q = oweG R (aev (.makeFunc f x y) ρ H H.length) o (adeps (.makeFunc f x y) ρ) lo l tr hi ss fs ρ H ms Q := (rfl)
@[go_sem] theorem so_makeIface (t : TypeId) (x : AOpd) : stepOp P G k rd R o (.makeIface t x) l fs ρ H ms Q = owe R (aev (.makeIface t x) ρ H H.length) o.dst l fs ρ H ms Q := (rfl)
@[go_sem] theorem sg_makeIface (t : TypeId) (x : AOpd) : stepG P R o (.makeIface t x) lo l tr hi ss fs ρ H ms Q = oweG R (aev (.makeIface t x) ρ H H.length) o (adeps (.makeIface t x) ρ) lo l tr hi ss fs ρ H ms Q := (rfl)
@[go_sem] theorem so_makeSlice (z : AVal) (m : Nat) (x y : AOpd) : stepOp P G k rd R o (.makeSlice z m x y) l fs ρ H ms Q = owe R (aev (.makeSlice z m x y) ρ H H.length) o.dst l fs ρ H ms Q := (rfl)
@[go_sem] theorem sg_makeSlice (z : AVal) (m : Nat) (x y : AOpd) : stepG P R o (.makeSlice z m x y) lo l tr hi ss fs ρ H ms Q = oweG R (aev (.makeSlice z m x y) ρ H H.length) o (adeps (.makeSlice z m x y) ρ) lo l tr hi ss fs ρ H ms Q := (rfl)
@[go_sem] theorem so_slice (b : Bool) (m : Nat) (x : AOpd) (y z : Option AOpd) : stepOp P G k rd R o (.slice b m x y z) l fs ρ H ms Q = owe R (aev (.slice b m x y z) ρ H H.length) o.dst l fs ρ H ms Q := (rfl)
@[go_sem] theorem sg_slice (b : Bool) (m : Nat) (x : AOpd) (y z : Option AOpd) : stepG P R o (.slice b m x y z) lo l tr hi ss fs ρ H ms Q = oweG R (aev (.slice b m x y z) ρ H H.length) o (adeps (.slice b m x y z) ρ) lo l tr hi ss fs ρ H ms Q := (rfl)
@[go_sem] theorem so_fieldAddr (m : Nat) (x : AOpd) : stepOp P G k rd R o (.fieldAddr m x) l fs ρ H ms Q = owe R (aev (.fieldAddr m x) ρ H H.length) o.dst l fs ρ H ms Q := (rfl)
@[go_sem] theorem sg_fieldAddr (m : Nat) (x : AOpd) : stepG P R o (.fieldAddr m x) lo l tr hi ss fs ρ H ms Q = oweG R (aev (.fieldAddr m x) ρ H H.length) o (adeps (.fieldAddr m x) ρ) lo l tr hi ss fs ρ H ms Q := (rfl)
@[go_sem] theorem so_field (m : Option Nat) (q : Nat) (x : AOpd) : stepOp P G k rd R o (.field m q x) l fs ρ H ms Q = owe R (aev (.field m q x) ρ H H.length) o.dst l fs ρ H ms Q := (rfl)
@[go_sem] theorem sg_field (m : Option Nat) (q : Nat) (x : AOpd) : stepG P R o (.field m q x) lo l tr hi ss fs ρ H ms Q = oweG R (aev (.field m q x) ρ H H.length) o (adeps (.field m q x) ρ) lo l tr hi ss fs ρ H ms Q := (rfl)
@[go_sem] theorem so_indexAddr (m : Nat) (x y : AOpd) : stepOp P G k rd R o (.indexAddr m x y) l fs ρ H ms Q = owe R (aev (.indexAddr m x y) ρ H H.length) o.dst l fs ρ H ms Q := (rfl)
@[go_sem] theorem sg_indexAddr (m : Nat) (x y : AOpd) : stepG P R o (.indexAddr m x y) lo l tr hi ss fs ρ H ms Q = oweG R (aev (.indexAddr m x y) ρ H H.length) o (adeps (.indexAddr m x y) ρ) lo l tr hi ss fs ρ H ms Q := (rfl)
@[go_sem] theorem so_indexArr (m q : Nat) (x y : AOpd) : stepOp P G k rd R o (.indexArr m q x y) l fs ρ H ms Q = owe R (aev (.indexArr m q x y) ρ H H.length) o.dst l fs ρ H ms Q := (rfl)
@[go_sem] theorem sg_indexArr (m q : Nat) (x y : AOpd) : stepG P R o (.indexArr m q x y) lo l tr hi ss fs ρ H ms Q = oweG R (aev (.indexArr m q x y) ρ H H.length) o (adeps (.indexArr m q x y) ρ) lo l tr hi ss fs ρ H ms Q := (rfl)
@[go_sem] theorem so_indexAgg (m q : Nat) (g : Bool) (x y : AOpd) : stepOp P G k rd R o (.indexAgg m q g x y) l fs ρ H ms Q = owe R (aev (.indexAgg m q g x y) ρ H H.length) o.dst l fs ρ H ms Q := (rfl)
@[go_sem] theorem sg_indexAgg (m q : Nat) (g : Bool) (x y : AOpd) : stepG P R o (.indexAgg m q g x y) lo l tr hi ss fs ρ H ms Q = oweG R (aev (.indexAgg m q g x y) ρ H H.length) o (adeps (.indexAgg m q g x y) ρ) lo l tr hi ss fs ρ H ms Q := (rfl)
@[go_sem] theorem so_indexStr (x y : AOpd) : stepOp P G k rd R o (.indexStr x y) l fs ρ H ms Q = owe R (aev (.indexStr x y) ρ H H.length) o.dst l fs ρ H ms Q := (rfl)
@[go_sem] theorem sg_indexStr (x y : AOpd) : stepG P R o (.indexStr x y) lo l tr hi ss fs ρ H ms Q = oweG R (aev (.indexStr x y) ρ H H.length) o (adeps (.indexStr x y) ρ) lo l tr hi ss fs ρ H ms Q := (rfl)
@[go_sem] theorem so_extract (x : AOpd) (m : Nat) : stepOp P G k rd R o (.extract x m) l fs ρ H ms Q = owe R (aev (.extract x m) ρ H H.length) o.dst l fs ρ H ms Q := (rfl)
@[go_sem] theorem sg_extract (x : AOpd) (m : Nat) : stepG P R o (.extract x m) lo l tr hi ss fs ρ H ms Q = oweG R (aev (.extract x m) ρ H H.length) o (adeps (.extract x m) ρ) lo l tr hi ss fs ρ H ms Q := (rfl)
@[go_sem] theorem so_len (b : Bool) (x : AOpd) : stepOp P G k rd R o (.len b x) l fs ρ H ms Q = owe R (aev (.len b x) ρ H H.length) o.dst l fs ρ H ms Q := (rfl)
@[go_sem] theorem sg_len (b : Bool) (x : AOpd) : stepG P R o (.len b x) lo l tr hi ss fs ρ H ms Q = oweG R (aev (.len b x) ρ H H.length) o (adeps (.len b x) ρ) lo l tr hi ss fs ρ H ms Q := (rfl)
@[go_sem] theorem so_lenArr (m : Nat) : stepOp P G k rd R o (.lenArr m) l fs ρ H ms Q = owe R (aev (.lenArr m) ρ H H.length) o.dst l fs ρ H ms Q := (rfl)
@[go_sem] theorem sg_lenArr (m : Nat) : stepG P R o (.lenArr m) lo l tr hi ss fs ρ H ms Q = oweG R (aev (.lenArr m) ρ H H.length) o (adeps (.lenArr m) ρ) lo l tr hi ss fs ρ H ms Q := (rfl)
@[go_sem] theorem so_cap (x : AOpd) : stepOp P G k rd R o (.cap x) l fs ρ H ms Q = owe R (aev (.cap x) ρ H H.length) o.dst l fs ρ H ms Q := (rfl)
@[go_sem] theorem sg_cap (x : AOpd) : stepG P R o (.cap x) lo l tr hi ss fs ρ H ms Q = oweG R (aev (.cap x) ρ H H.length) o (adeps (.cap x) ρ) lo l tr hi ss fs ρ H ms Q := (rfl)
@[go_sem] theorem so_appendN (a b : Nat) (z : AVal) (x y : AOpd) : stepOp P G k rd R o (.appendN a b z x y) l fs ρ H ms Q = owe R (aev (.appendN a b z x y) ρ H H.length) o.dst l fs ρ H ms Q := (rfl)
@[go_sem] theorem sg_appendN (a b : Nat) (z : AVal) (x y : AOpd) : stepG P R o (.appendN a b z x y) lo l tr hi ss fs ρ H ms Q = oweG R (aev (.appendN a b z x y) ρ H H.length) o (adeps (.appendN a b z x y) ρ) lo l tr hi ss fs ρ H ms Q := (rfl)
@[go_sem] theorem so_minmax (b : Bool) (x : List AOpd) : stepOp P G k rd R o (.minmax b x) l fs ρ H ms Q = owe R (aev (.minmax b x) ρ H H.length) o.dst l fs ρ H ms Q := (rfl)
@[go_sem] theorem sg_minmax (b : Bool) (x : List AOpd) : stepG P R o (.minmax b x) lo l tr hi ss fs ρ H ms Q = oweG R (aev (.minmax b x) ρ H H.length) o (adeps (.minmax b x) ρ) lo l tr hi ss fs ρ H ms Q := (rfl)
@[go_sem] theorem so_makeMap (kk : IntKind) : stepOp P G k rd R o (.makeMap kk) l fs ρ H ms Q = owe R (aev (.makeMap kk) ρ H H.length) o.dst l fs ρ H ms Q := (rfl)
@[go_sem] theorem sg_makeMap (kk : IntKind) : stepG P R o (.makeMap kk) lo l tr hi ss fs ρ H ms Q = oweG R (aev (.makeMap kk) ρ H H.length) o (adeps (.makeMap kk) ρ) lo l tr hi ss fs ρ H ms Q := (rfl)
@[go_sem] theorem so_lookup (kk : IntKind) (z : AVal) (b : Bool) (x y : AOpd) : stepOp P G k rd R o (.lookup kk z b x y) l fs ρ H ms Q = owe R (aev (.lookup kk z b x y) ρ H H.length) o.dst l fs ρ H ms Q := (rfl)
@[go_sem] theorem sg_lookup (kk : IntKind) (z : AVal) (b : Bool) (x y : AOpd) : stepG P R o (.lookup kk z b x y) lo l tr hi ss fs ρ H ms Q = oweG R (aev (.lookup kk z b x y) ρ H H.length) o (adeps (.lookup kk z b x y) ρ) lo l tr hi ss fs ρ H ms Q := (rfl)
@[go_sem] theorem so_mapUpdate (kk : IntKind) (x y z : AOpd) : stepOp P G k rd R o (.mapUpdate kk x y z) l fs ρ H ms Q = owe R (aev (.mapUpdate kk x y z) ρ H H.length) o.dst l fs ρ H ms Q := (rfl)
@[go_sem] theorem sg_mapUpdate (kk : IntKind) (x y z : AOpd) : stepG P R o (.mapUpdate kk x y z) lo l tr hi ss fs ρ H ms Q = oweG R (aev (.mapUpdate kk x y z) ρ H H.length) o (adeps (.mapUpdate kk x y z) ρ) lo l tr hi ss fs ρ H ms Q := (rfl)
@[go_sem] theorem so_append (m q : Nat) (b : Bool) (x y : AOpd) : stepOp P G k rd R o (.append m q b x y) l fs ρ H ms Q = owe R (aev (.append m q b x y) ρ H H.length) o.dst l fs ρ H ms Q := (rfl)
@[go_sem] theorem sg_append (m q : Nat) (b : Bool) (x y : AOpd) : stepG P R o (.append m q b x y) lo l tr hi ss fs ρ H ms Q = oweG R (aev (.append m q b x y) ρ H H.length) o (adeps (.append m q b x y) ρ) lo l tr hi ss fs ρ H ms Q := (rfl)
@[go_sem] theorem gd_true' : gd P G k rd R (some true) o l fs ρ H ms Q = stepOp P G k rd R o o.op l fs (known ρ true o.guard) H ms Q := (rfl)
@[go_sem] theorem gd_false' : gd P G k rd R (some false) o l fs ρ H ms Q = R (.ops l) fs ⟨setD (known ρ false o.guard) o.dst (.tup []), H, ms⟩ Q := (rfl)
@[go_sem] theorem gdG_true' : gdG P R (some true) o lo l tr hi ss fs ρ H ms Q = stepG P R o o.op lo l tr hi ss fs (known ρ true o.guard) H ms Q := (rfl)
@[go_sem] theorem gdG_false' : gdG P R (some false) o lo l tr hi ss fs ρ H ms Q = R (.grp lo l (tr ++ [([], [])]) hi ss) fs ⟨setD (known ρ false o.guard) o.dst (.tup []), H, ms⟩ Q := (rfl)
@[go_sem] theorem owe_some' (dst : Option Nat) (v : AVal) (Δ : List (Nat × Row)) : owe R (some (v, Δ)) dst l fs ρ H ms Q = R (.ops l) fs ⟨setD ρ dst v, H.puts Δ, ms⟩ Q := (rfl)
@[go_sem] theorem owe_none' (dst : Option Nat) : owe R none dst l fs ρ H ms Q = False := (rfl)
@[go_sem] theorem oweG_some' (deps : List Nat) (v : AVal) (Δ : List (Nat × Row)) : oweG R (some (v, Δ)) o deps lo l tr hi ss fs ρ H ms Q = (dynOK o.free deps (Δ.map (·.1)) tr lo = true ∧ R (.grp lo l (tr ++ [(deps, Δ.map (·.1))]) hi ss) fs ⟨setD ρ o.dst v, H.puts Δ, ms⟩ Q) := (rfl)
@[go_sem] theorem oweG_none' (deps : List Nat) : oweG R none o deps lo l tr hi ss fs ρ H ms Q = False := (rfl)
@[go_sem] theorem br_true' : br R (.bool true) a b fs s Q = R (.code a) fs s Q := (rfl)
@[go_sem] theorem br_false' : br R (.bool false) a b fs s Q = R (.code b) fs s Q := (rfl)
end
section
variable (v u : AVal) (ρ : List AVal) (n : Nat)
@[go_sem] theorem tget_zero : tget (v :: ρ) 0 = v := (rfl)
@[go_sem] theorem tget_succ : tget (v :: ρ) (n + 1) = tget ρ n := (rfl)
@[go_sem] theorem tset_zero : tset (v :: ρ) 0 u = u :: ρ := (rfl)
@[go_sem] theorem tset_succ : tset (v :: ρ) (n + 1) u = v :: tset ρ n u := (rfl)
@[go_sem] theorem setD_some : setD ρ (some n) v = tset ρ n v := (rfl)
@[go_sem] theorem setD_none : setD ρ none v = ρ := (rfl)
@[go_sem] theorem opd_tmp : opd ρ (.tmp n) = tget ρ n := (rfl)
@[go_sem] theorem opd_const : opd ρ (.const v) = v := (rfl)
end
@[go_sem] theorem disj_nil (b : List Nat) : disj [] b = true := rfl
@[go_sem] theorem disj_nil' (a : List Nat) : disj a [] = true := by simp [disj]
@[go_sem] theorem dynOK_nil (f d r : List Nat) (i : Nat) : dynOK f d r [] i = true := rfl
@[go_sem] theorem dynOK_cons (f deps rows d w : List Nat) (tr : List (List Nat × List Nat)) (i : Nat) : dynOK f deps rows ((d, w) :: tr) i = ((!f.contains i || (disj w rows && (disj d rows && disj deps w))) && dynOK f deps rows tr (i + 1)) := rfl
@[go_sem] theorem contains_none (x : Nat) : ([] : List Nat).contains x = false := rfl
def bitW (op : BinOp) (k : IntKind) (a b : Int) : Int := (bitsOf op k a b).getD 0
def shlW (k : IntKind) (a b : Int) : Int := k.wrap (a * 2 ^ (min b.toNat k.bits))
def shrW (k : IntKind) (a b : Int) : Int := a.fdiv (2 ^ (min b.toNat k.bits))
section
variable (k k' : IntKind) (a b : Int)
@[go_sem] theorem ai_shl : abinInt .shl k a k' b = if b < 0 then none else some (.int k (shlW k a b)) := rfl
@[go_sem] theorem ai_shr : abinInt .shr k a k' b = if b < 0 then none else some (.int k (shrW k a b)) := rfl
@[go_sem] theorem ai_add : abinInt .add k a k b = some (.int k (k.wrap (a + b))) := by simp only [abinInt, if_true]
@[go_sem] theorem ai_sub : abinInt .sub k a k b = some (.int k (k.wrap (a - b))) := by simp only [abinInt, if_true]
@[go_sem] theorem ai_mul : abinInt .mul k a k b = some (.int k (k.wrap (a * b))) := by simp only [abinInt, if_true]
@[go_sem] theorem ai_quo : abinInt .quo k a k b = if b ≠ 0 then some (.int k (k.wrap (a.tdiv b))) else none := by simp only [abinInt, true_and]
@[go_sem] theorem ai_rem : abinInt .rem k a k b = if b ≠ 0 then some (.int k (a.tmod b)) else none := by simp only [abinInt, true_and]
@[go_sem] theorem ai_eql : abinInt .eql k a k b = some (.bool (a == b)) := by simp only [abinInt, if_true]
@[go_sem] theorem ai_neq : abinInt .neq k a k b = some (.bool (a != b)) := by simp only [abinInt, if_true]
@[go_sem] theorem ai_lss : abinInt .lss k a k b = some (.bool (decide (a < b))) := by simp only [abinInt, if_true]
@[go_sem] theorem ai_leq : abinInt .leq k a k b = some (.bool (decide (a ≤ b))) := by simp only [abinInt, if_true]
@[go_sem] theorem ai_gtr : abinInt .gtr k a k b = some (.bool (decide (b < a))) := by simp only [abinInt, if_true]
@[go_sem] theorem ai_geq : abinInt .geq k a k b = some (.bool (decide (b ≤ a))) := by simp only [abinInt, if_true]
@[go_sem] theorem ai_and : abinInt .and k a k b = some (.int k (bitW .and k a b)) := by simp only [abinInt, if_true, bitW, bitsOf]; rfl
@[go_sem] theorem ai_or : abinInt .or k a k b = some (.int k (bitW .or k a b)) := by simp only [abinInt, if_true, bitW, bitsOf]; rfl
@[go_sem] theorem ai_xor : abinInt .xor k a k b = some (.int k (bitW .xor k a b)) := by simp only [abinInt, if_true, bitW, bitsOf]; rfl
@[go_sem] theorem ai_andNot : abinInt .andNot k a k b = some (.int k (bitW .andNot k a b)) := by simp only [abinInt, if_true, bitW, bitsOf]; rfl
end
attribute [go_sem] bel_agg bel_tup bel_view bel_rptr bel_fn bel_iface bel_ptr bel_sl bel_yfn bels_ints bels_bools bels_app Bels nv_agg nv_tup nvs_ints NVs
attribute [go_sem] oweG_if oweG_if' adeps vrows List.contains_cons exists_const exists_eq' exists_eq
attribute [go_sem low] oweG_ite gdG_some

attribute [go_sem] known gval boolOf aev abinStr RetPost resOf resVals resVal freed ldv partOf setPart acells setParts elemsOf lenOfIn intOf isStr isNilK isNilIn isNil tkOf minmaxs
  AVal.one AVal.isAny AVal.isAgg eqCell eqCells owe_if owe_if' Heap.puts_nil Heap.puts_cons Heap.put_end'
attribute [go_sem low] owe_ite gd_some br_some
attribute [go_sem] if_true if_false ite_self eq_self and_true true_and and_false false_and or_true true_or or_false false_or not_true_eq_false not_false_eq_true true_implies
  implies_true false_implies decide_eq_true_eq decide_true decide_false Bool.not_true Bool.not_false Bool.true_and Bool.false_and Bool.and_true Bool.and_false
  Bool.true_or Bool.false_or Bool.or_true Bool.or_false beq_self_eq_true bne_self_eq_false reduceCtorEq
  List.replicate List.length_append List.length_cons List.length_nil List.cons_append List.nil_append List.append_nil List.map_cons List.map_nil List.all_cons List.all_nil List.append_assoc
  Nat.zero_add Nat.add_zero Option.map_some Option.map_none ne_eq Nat.le_refl Nat.le_add_right
  List.getElem?_cons_zero List.getElem?_cons_succ List.getElem?_nil List.set_cons_zero List.set_cons_succ List.drop_zero List.drop_succ_cons List.drop_nil List.take_zero List.take_succ_cons List.take_nil
  Option.some.injEq AVal.bool.injEq AVal.int.injEq AVal.str.injEq exists_eq_left' exists_eq_left List.not_mem_nil List.nodup_nil or_self beq_true beq_false Bool.not_eq_true' Bool.not_eq_false' decide_eq_false_iff_not Bool.false_eq_true
attribute [go_sem] Nat.reduceAdd Nat.reduceSub Nat.reduceMul Nat.reduceLT Nat.reduceEqDiff Int.reduceLT Int.reduceLE Int.reduceAdd Int.reduceSub Int.reduceMul Int.reduceNeg Int.reduceToNat Int.reduceEq Int.reduceNe reduceIte Nat.reduceBEq Nat.reduceLeDiff
@[go_sem] theorem nat_nlt (n : Nat) : ((n : Int) < 0) = False := by simp only [eq_iff_iff, iff_false]; omega
attribute [go_sem] Int.toNat_natCast Int.lt_irrefl Nat.lt_irrefl List.getElem?_map List.length_map beq_iff_eq beq_eq_false_iff_ne bne_iff_ne bne_eq_false_iff_eq
end Go.Sx
/- The interpreter, with answers that are known already. -/
namespace Go.Sx
open Go
section
variable {P : Program}
structure OEnt where
  g : Nat
  args : List AVal
  H : Heap
  r : AVal
  H' : Heap
def OEnt.ok (P : Program) (e : OEnt) : Prop := Fn P e.g e.args e.H fun v H' => v = e.r ∧ H' = e.H'
def rowEq : Row → Row → Bool
  | .cells g sz es, .cells g' sz' es' => g == g' && (decide (sz = sz') && veqs es es')
  | .mapr kk ks vs, .mapr kk' ks' vs' => decide (kk = kk') && (decide (ks = ks') && veqs vs vs')
  | _, _ => false
theorem rowEq_eq {x y : Row} (h : rowEq x y = true) : x = y := by
  unfold rowEq at h
  split at h
  · simp only [Bool.and_eq_true, beq_iff_eq, decide_eq_true_eq] at h
    rw [h.1, h.2.1, veqs_eq _ _ h.2.2]
  · simp only [Bool.and_eq_true, decide_eq_true_eq] at h
    rw [h.1, h.2.1, veqs_eq _ _ h.2.2]
  · cases h
def heapEq : Heap → Heap → Bool
  | [], [] => true
  | some x :: H, some y :: H' => rowEq x y && heapEq H H'
  | none :: H, none :: H' => heapEq H H'
  | _, _ => false
theorem heapEq_eq : ∀ {H H' : Heap}, heapEq H H' = true → H = H'
  | [], [], _ => rfl
  | [], none :: _, h => by simp [heapEq] at h
  | [], some _ :: _, h => by simp [heapEq] at h
  | none :: _, [], h => by simp [heapEq] at h
  | some _ :: _, [], h => by simp [heapEq] at h
  | none :: _, some _ :: _, h => by simp [heapEq] at h
  | some _ :: _, none :: _, h => by simp [heapEq] at h
  | some x :: H, some y :: H', h => by
    simp only [heapEq, Bool.and_eq_true] at h
    rw [rowEq_eq h.1, heapEq_eq h.2]
  | none :: H, none :: H', h => by
    simp only [heapEq] at h
    rw [heapEq_eq h]
def oget : List OEnt → Nat → List AVal → Heap → Option (AVal × Heap)
  | [], _, _, _ => none
  | e :: O, g, args, H => if Nat.beq e.g g = true then (if (veqs e.args args && heapEq e.H H) = true then some (e.r, e.H') else oget O g args H) else oget O g args H
theorem oget_ok : ∀ {O : List OEnt} {g : Nat} {args : List AVal} {H : Heap} {v : AVal} {H' : Heap}, (∀ e ∈ O, e.ok P) → oget O g args H = some (v, H') → Fn P g args H fun v' H'' => v' = v ∧ H'' = H'
  | [], _, _, _, _, _, _, h => by cases h
  | e :: O, g, args, H, v, H', hO, h => by
    simp only [oget] at h
    split at h
    · rename_i hg
      split at h
      · rename_i ha
        cases h
        simp only [Bool.and_eq_true] at ha
        have he := hO e (by simp)
        unfold OEnt.ok at he
        rw [Nat.eq_of_beq_eq_true hg, veqs_eq _ _ ha.1, heapEq_eq ha.2] at he
        exact he
      · exact oget_ok (fun e he => hO e (by simp [he])) h
    · exact oget_ok (fun e he => hO e (by simp [he])) h
def exFnO (O : List OEnt) (tab : Nat → Option AFun) (m : Nat) : Nat → Caller
  | 0, _, _, _ => none
  | n + 1, g, args, H =>
    match oget O g args H with
    | some r => some r
    | none => match tab g with
      | none => none
      | some af => (ex (exFnO O tab m n) m none (.code af.body) ⟨args ++ List.replicate (af.ntmps - args.length) .any, H, []⟩).bind (retOf af.res)
theorem exFnO_sound (hm : P.follows .mixedOrders = true) {O : List OEnt} (hO : ∀ e ∈ O, e.ok P) {tab : Nat → Option AFun} {m : Nat} (hT : ∀ g af, tab g = some af → EntryOK P g af) :
    ∀ n, CallerOK P (exFnO O tab m n) := by
  intro n
  induction n with
  | zero => intro g args H v H' h; simp [exFnO] at h
  | succ n ih =>
    intro g args H v H' h
    simp only [exFnO] at h
    split at h
    · rename_i r hr
      cases h
      exact oget_ok hO hr
    · intro G
      cases ht : tab g with
      | none => rw [ht] at h; cases h
      | some af =>
        rw [ht] at h
        simp only at h
        rw [Option.bind_eq_some_iff] at h
        obtain ⟨⟨e, s'⟩, h1, h2⟩ := h
        obtain ⟨fn, f1, f2, f3⟩ := hT g af ht
        refine call_of_afun f1 f2 f3 (((ex_sound hm ih m _ _ _ _ _ h1).2 G H.length (Nat.le_refl _)).1.mono ?_)
        rintro _ _ ⟨rfl, rfl⟩
        unfold retOf at h2
        split at h2
        case isFalse => cases h2
        rename_i hnd
        have hnd := nodupB_spec hnd
        simp only at h2
        split at h2
        case h_3 => cases h2
        all_goals
          rename_i he
          rw [Option.map_eq_some_iff] at h2
          obtain ⟨v', h3, h4⟩ := h2
          simp only [Prod.mk.injEq] at h4
          obtain ⟨rfl, rfl⟩ := h4
          exact ⟨by simp, hnd, v', h3, rfl, rfl⟩
theorem ent_ok (hm : P.follows .mixedOrders = true) {O : List OEnt} (hO : ∀ e ∈ O, e.ok P) {tab : Nat → Option AFun} (hT : ∀ g af, tab g = some af → EntryOK P g af) {m n : Nat} {e : OEnt}
    (h : exFnO O tab m n e.g e.args e.H = some (e.r, e.H')) : e.ok P := exFnO_sound hm hO hT n _ _ _ _ _ h
theorem spec_exO (hm : P.follows .mixedOrders = true) {O : List OEnt} (hO : ∀ e ∈ O, e.ok P) {tab : Nat → Option AFun} (hT : ∀ g af, tab g = some af → EntryOK P g af) {m n g : Nat} {args : List AVal} {H H' : Heap} {r : AVal}
    (h : exFnO O tab m n g args H = some (r, H')) : Ans P g args H r H' := (exFnO_sound hm hO hT n _ _ _ _ _ h).mono fun v H'' hv => ⟨hv.1, [], by rw [hv.2]; simp⟩
def yesO : Option (AVal × Heap) → Bool
  | some (.bool b, _) => b
  | _ => false
theorem yesO_ans (hm : P.follows .mixedOrders = true) {O : List OEnt} (hO : ∀ e ∈ O, e.ok P) {tab : Nat → Option AFun} (hT : ∀ g af, tab g = some af → EntryOK P g af) {m n g : Nat} {args : List AVal} {H : Heap} (h : yesO (exFnO O tab m n g args H) = true) :
    Fn P g args H fun v _ => v = .bool true := by
  match hx : exFnO O tab m n g args H with
  | none => rw [hx] at h; cases h
  | some (v, H') =>
    rw [hx] at h
    cases v <;> try (cases h; done)
    rename_i b
    have hb : b = true := h
    subst hb
    exact (exFnO_sound hm hO hT n _ _ _ _ _ hx).mono fun v H'' hv => hv.1
end
end Go.Sx
/- Calls that hand over one row. -/
namespace Go.Sx
open Go

theorem Row.ren_same {f : Nat → Nat} {x : Row} (h : x.bel (fun _ => False)) : x.ren f = x := by
  cases x with
  | cells g sz es =>
    simp only [Row.ren]
    congr 1
    rw [row_bel_cells] at h
    exact list_ext_getD (by simp [rens_len]) fun i hi => by rw [rens_getD]; exact Sx.ren_same ((bels_iff es).1 h i (by simpa [rens_len] using hi))
  | loop ρ ps asg body d st pend => exact h.1.elim
  | dfr => rfl
  | siter s pos => rfl
  | mapr kk ks vs =>
    simp only [Row.ren]
    congr 1
    exact list_ext_getD (by simp [rens_len]) fun i hi => by rw [rens_getD]; exact Sx.ren_same (h i (by simpa [rens_len] using hi))
  | dead => rfl

section
variable {P : Program} {G : Ctx} {g : FuncId} {args : List AVal} {H : Heap} {r : AVal} {k : Nat} {rd : Option Nat} {R : Runner} {l : List AOper} {fs : List Frame} {ρ : List AVal} {ms : List Nat} {Q : Goal} {dst : Option Nat} {x x' : Row} {j : Nat}

theorem put_lt {H : Heap} {j : Nat} {x : Row} (h : j < H.length) : H.put j x = H.set j (some x) := by simp [Heap.put, h]

theorem callD (h : Ans P g (.ptr 0 0 0 1 :: args) [some x] r [some x']) (hj : H[j]? = some (some x)) (hb : Bels (fun _ => False) args) (hr : Bel (fun _ => False) r) (hx : x.bel (fun _ => False)) (hx' : x'.bel (fun _ => False))
    (hk : k ≤ H.length) (hms : ∀ q ∈ ms, q ≠ j ∧ H[q]? = some (some .dfr)) (hK : R (.ops l) fs ⟨setD ρ dst r, H.set j (some x'), ms⟩ Q) : CallR P G k R g (.ptr j 0 0 1 :: args) dst l fs ρ H ms Q := by
  have hlt : j < H.length := (List.getElem?_eq_some_iff.1 hj).1
  have hargs : args.map (ren (nth [j])) = args := by
    conv => rhs; rw [← List.map_id args]
    exact List.map_congr_left fun v hv => ren_same (bels_mem hb v hv)
  have hb1 : ∀ {n : Nat}, Bels (· < n) args := bels_of fun v hv => (bels_mem hb v hv).mono fun _ h => h.elim
  have e : outΔ (outσ [j] H.length) 0 [some x'] = [(j, x')] := by
    simp only [outΔ, Row.ren_same hx']
    rfl
  refine callS h [j] (by simp) ⟨by rw [Row.ren_same hx]; exact hj, trivial⟩ (by simp only [List.map_cons, hargs]; rfl) ⟨by rw [bel_ptr]; simp, hb1⟩ ⟨bel_mono_row hx fun _ h => h.elim, trivial⟩ (Nat.le_refl _) (hr.mono fun _ h => h.elim)
    ⟨bel_mono_row hx' fun _ h => h.elim, trivial⟩ (by simpa using hlt) hk (fun q hq => ?_) ?_
  · rw [e]; simpa using hms q hq
  · rw [e, ren_same hr]
    simp only [Heap.puts, put_lt hlt]
    exact hK
end

def Wk : List AVal → List AVal → Prop
  | [], [] => True
  | v :: ρ, u :: ρ' => (u = .any ∨ u = v) ∧ Wk ρ ρ'
  | _, _ => False

theorem Wk.get : ∀ {ρ ρ' : List AVal}, Wk ρ ρ' → ρ'.length = ρ.length ∧ ∀ t, ρ'.getD t .any = .any ∨ ρ'.getD t .any = ρ.getD t .any
  | [], [], _ => ⟨rfl, fun t => .inl (by simp)⟩
  | v :: ρ, u :: ρ', h => by
    obtain ⟨h1, h2⟩ := Wk.get h.2
    refine ⟨by simp [h1], fun t => ?_⟩
    cases t with
    | zero => simpa using h.1
    | succ t => simpa using h2 t
  | [], _ :: _, h => h.elim
  | _ :: _, [], h => h.elim

theorem less_wk {P : Program} {G : Ctx} {k : Nat} {ρ ρ' : List AVal} {H : Heap} {ms : List Nat} (h : Wk ρ ρ') : Less P G k ⟨ρ, H, ms⟩ ⟨ρ', H, ms⟩ := fun μ a w hR => by
  obtain ⟨h1, h2⟩ := h.get
  refine ⟨μ, ⟨⟨by rw [h1]; exact hR.tr.1, fun t => ?_⟩, hR.hr, hR.dom, hR.mk', hR.mkr⟩, Mu.leB_refl _ _⟩
  rcases h2 t with h | h
  · simp only [h]; exact .any _
  · simp only [h]; exact hR.tr.2 t

theorem loop_wk {P : Program} {G : Ctx} {k : Nat} {rd : Option Nat} {c : ACode} {fs : List Frame} {ρ ρ' : List AVal} {H : Heap} {ms : List Nat} {Q : Goal} (h : Wk ρ ρ') (hl : Loop P G k rd c fs ⟨ρ', H, ms⟩ Q) : Loop P G k rd c fs ⟨ρ, H, ms⟩ Q := loop_less (less_wk h) hl
@[go_sem] theorem wk_nil : Wk [] [] = True := (rfl)
@[go_sem] theorem wk_cons (v u : AVal) (ρ ρ' : List AVal) : Wk (v :: ρ) (u :: ρ') = ((u = .any ∨ u = v) ∧ Wk ρ ρ') := (rfl)

theorem loop_body {P : Program} {G : Ctx} {k : Nat} {rd : Option Nat} (n : Nat) {c c' : ACode} (hc : c = c') {fs : List Frame} {s : St} {Q : Goal} (h : Run P G k rd n (.code c') (.rnd c :: fs) s Q) : Loop P G k rd c fs s Q := by
  subst hc; exact loop_round n h
attribute [go_sem] Int.cast_ofNat_Int
@[go_sem] theorem disj_cons (a : Nat) (l b : List Nat) : disj (a :: l) b = (!b.contains a && disj l b) := by simp [disj]
end Go.Sx
/- From what is known of a function to its walk from a world. -/
namespace Go.Sx
open Go Go.RowKit

def topG (w : World) : Ctx := { keep := fun b => b < w.heap.size, ro := fun b => b < w.heap.size, w0 := w }

theorem top_rel (P : Program) (w : World) (hg : GlobOK P (topG w)) : HR P (topG w) (fun _ => none) [] w :=
  ⟨fun r x h => by simp at h, fun r r' x x' p p' h => by simp at h, fun b hb => ⟨hb, rfl⟩, fun b hb => hb, Calm.refl w, fun r h => by simp at h, hg⟩

theorem Ans.walk {P : Program} {f : FuncId} {args : List AVal} {r : AVal} {LH' : Heap} {w : World} (hg : GlobOK P (topG w)) (hA : Ans P f args [] r LH') {cargs : Array Value} (hl : args.length = cargs.size)
    (hv : ∀ i, i < args.length → VR (topG w) (fun _ => none) (args.getD i .any) (cargs.getD i undef)) :
    Calls P f cargs w fun e w' => (∃ cv μ, e = .returned cv ∧ VR (topG w) μ r cv) ∧ Below w.heap.size w w' := by
  have h := (hA (topG w)).2 (fun _ => none) cargs w hl hv (top_rel P w hg) (fun r hr => by cases hr)
  have hF : Fw none = Fence.wide := rfl
  rw [hF] at h
  refine (callsIn_wide.1 h).mono fun e w' hp => ?_
  obtain ⟨v, cv, μ', H', rfl, ⟨rfl, _⟩, hvr, hH, _⟩ := hp
  refine ⟨⟨cv, μ', rfl, hvr⟩, hH.calm.1, hH.calm.2.1, hH.calm.2.2, ?_, fun k hk => (hH.kept k hk).2⟩
  by_cases h0 : w.heap.size = 0
  · omega
  · have := (hH.kept (w.heap.size - 1) (by show w.heap.size - 1 < w.heap.size; omega)).1
    omega

def noGlob (P : Program) : Bool := P.globals.toList.all fun x => (gtab x.name).isNone
theorem GlobOK.none {P : Program} {G : Ctx} (h : noGlob P = true) : GlobOK P G := fun g e he => by
  unfold gvOf at he
  cases hx : P.globals[g]? with
  | none => rw [hx] at he; cases he
  | some x =>
    rw [hx] at he
    have hm : x ∈ P.globals.toList := by
      have := Array.mem_of_getElem? hx
      simpa using this
    have := List.all_eq_true.1 h x hm
    simp only [Option.bind_some] at he
    rw [he] at this; cases this

theorem Ans.walk_bool {P : Program} {f : FuncId} {args : List AVal} {b : Bool} {LH' : Heap} {w : World} (hg : GlobOK P (topG w)) (hA : Ans P f args [] (.bool b) LH') {cargs : Array Value} (hl : args.length = cargs.size)
    (hv : ∀ i, i < args.length → VR (topG w) (fun _ => none) (args.getD i .any) (cargs.getD i undef)) :
    Calls P f cargs w fun e w' => e = .returned (.bool b) ∧ Below w.heap.size w w' :=
  (Ans.walk hg hA hl hv).mono fun e w' ⟨⟨cv, μ, he, hvr⟩, hb⟩ => by
    cases hvr; exact ⟨he, hb⟩

theorem top_ints {w : World} {μ : Mu} {k : IntKind} {a : Option Addr} {len cap : Nat} {zs : List Int}
    (h : (a = none ∧ len = 0 ∧ cap = 0 ∧ zs = []) ∨ ∃ x, a = some x ∧ len ≤ cap ∧ cap ≤ maxLen ∧ zs.length = cap ∧ (∀ i, i < zs.length → w.cell? (x.add i) = some (.int k (zs.getD i 0))) ∧ ∀ n ∈ zs, (Lit.int k n).wf = true) :
    VR (topG w) μ (.view ((zs.take len).map (.int k))) (.slice a len cap) := by
  rcases h with ⟨rfl, rfl, rfl, rfl⟩ | ⟨x, rfl, h1, h2, h3, h4, h5⟩
  · exact .viewnil none 0
  · by_cases h0 : len = 0
    · subst h0; exact .viewnil _ _
    · have hz : 0 < zs.length := by omega
      have hc := h4 0 hz
      obtain ⟨b, o, sp⟩ := x
      have hsp : sp = none ∧ b < w.heap.size := by
        simp only [World.cell?, Addr.add] at hc
        split at hc
        · rename_i c _ _ hh
          have := (Array.getElem?_eq_some_iff.1 hh).1
          cases sp <;> simp_all
        · cases hc
      obtain ⟨rfl, hb⟩ := hsp
      have hlen : ((zs.take len).map (AVal.int k)).length = len := by simp; omega
      have := VR.view (G := topG w) (μ := μ) ((zs.take len).map (.int k)) b o 1 cap (fun i _ => .int k (zs.getD i 0)) hb (by rw [hlen]; exact h1) (fun i hi => ?_) (fun i j hi hj => ?_) (fun i j hi hj => ?_)
      · rwa [hlen] at this
      · rw [hlen] at hi
        have : ((zs.take len).map (AVal.int k)).getD i .any = .int k (zs.getD i 0) := by
          simp [List.getD_eq_getElem?_getD, List.getElem?_map, List.getElem?_take, hi, show i < zs.length by omega]
        rw [this]; rfl
      · rw [hlen] at hi
        have := h4 i (by omega)
        obtain rfl : j = 0 := by omega
        show w.cell? _ = _
        by_cases hi0 : i = 0
        · subst hi0; simpa [Addr.add] using this
        · simpa [Addr.add, hi0] using this
      · rw [hlen] at hi
        have : ((zs.take len).map (AVal.int k)).getD i .any = .int k (zs.getD i 0) := by
          simp [List.getD_eq_getElem?_getD, List.getElem?_map, List.getElem?_take, hi, show i < zs.length by omega]
        rw [this, show j = 0 by omega]
        exact .int _ _
end Go.Sx
