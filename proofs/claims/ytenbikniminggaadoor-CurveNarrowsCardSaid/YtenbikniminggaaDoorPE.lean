/- A part of the proof. -/
import Derived.Test.YtenbikniminggaaDoorPD
set_option linter.unusedSimpArgs false
set_option linter.unusedVariables false
namespace Go.Proofs
open Go Go.Sx Go.Fam
attribute [local irreducible] Run

theorem field_ok (m : Lw) (k : Nat) (hk : k < 5) : Ans Tryd.prog n_ref02_field [m.v, .int .i64 k] [] (m.get k).v [] := by
  refine spec_run e_ref02_field fun G => ?_
  match k, hk with
  | 0, _ => simp only [go_sem, Lw.v, Lw.cs, Lw.get, Rg.v]
  | 1, _ => simp only [go_sem, Lw.v, Lw.cs, Lw.get, Rg.v]
  | 2, _ => simp only [go_sem, Lw.v, Lw.cs, Lw.get, Rg.v]
  | 3, _ => simp only [go_sem, Lw.v, Lw.cs, Lw.get, Rg.v]
  | 4, _ => simp only [go_sem, Lw.v, Lw.cs, Lw.get, Rg.v]

theorem put_ok (m : Lw) (k : Nat) (hk : k < 5) (r : Rg) : Ans Tryd.prog n_ref02_put [m.v, .int .i64 k, r.v] [] (m.set k r).v [] := by
  refine spec_run e_ref02_put fun G => ?_
  match k, hk with
  | 0, _ => simp only [go_sem, Lw.v, Lw.cs, Lw.set, Rg.v]
  | 1, _ => simp only [go_sem, Lw.v, Lw.cs, Lw.set, Rg.v]
  | 2, _ => simp only [go_sem, Lw.v, Lw.cs, Lw.set, Rg.v]
  | 3, _ => simp only [go_sem, Lw.v, Lw.cs, Lw.set, Rg.v]
  | 4, _ => simp only [go_sem, Lw.v, Lw.cs, Lw.set, Rg.v]

theorem ralone_ok (x : Int) : Ans Tryd.prog n_ref02_Alone [.int .i64 x] [] (Rg.v ⟨x, x⟩) [] := by
  refine spec_run e_ref02_Alone fun G => ?_
  simp only [go_sem, Rg.v]

theorem under_ok (m : Lw) (h : LwOK m) (d : Rd) (hd : d.ok) : Ans Tryd.prog n_ref02_under [m.v, d.v] [] (.bool (decide ((curOf m d.g d.p).hi < d.lo))) [] := by
  have kc := rcurrent_run m h d.g d.p hd.1 hd.2
  refine spec_run e_ref02_under fun G => ?_
  simp only [Lw.v, Lw.cs, Rg.v, Rd.v] at kc ⊢
  simp only [go_sem]
  refine dP kc ?_
  simp only [go_sem]
theorem over_ok (m : Lw) (h : LwOK m) (d : Rd) (hd : d.ok) : Ans Tryd.prog n_ref02_over [m.v, d.v] [] (.bool (decide (d.hi < (curOf m d.g d.p).lo))) [] := by
  have kc := rcurrent_run m h d.g d.p hd.1 hd.2
  refine spec_run e_ref02_over fun G => ?_
  simp only [Lw.v, Lw.cs, Rg.v, Rd.v] at kc ⊢
  simp only [go_sem]
  refine dP kc ?_
  simp only [go_sem, gt_iff_lt]
def rnA (m : Lw) (d : Rd) (x : Rg) : Heap := [some (Lr m), some (Rr d), some (.cells false 2 [.agg [.int .i64 0, .int .i64 0]]), some (Rc x)]
theorem rnA_ok (m : Lw) (d : Rd) (x : Rg) : ∀ (i : Nat) (y : Row), (rnA m d x)[i]? = some (some y) → y.ren (fun i => i) = y ∧ y.bel (· < (rnA m d x).length) := by
  intro i y hy
  have hb : ∀ {y : Row}, y.bel (fun _ => False) → y.ren (fun i => i) = y ∧ y.bel (· < (rnA m d x).length) := fun h => ⟨Row.ren_same h, bel_mono_row h fun _ h => h.elim⟩
  match i with
  | 0 => cases hy; exact hb (by simp only [go_sem])
  | 1 => cases hy; exact hb (by simp only [go_sem])
  | 2 => cases hy; exact hb (by rw [row_bel_cells]; simp only [go_sem])
  | 3 => cases hy; exact hb (by simp only [go_sem])
  | i + 4 => simp [rnA] at hy
def rnT (k : Nat) (f : Bool) (lo hi : Int) : List (Nat × AVal) := [(1, .int .i64 k), (3, .ptr 0 0 0 1), (5, .ptr 1 0 0 1), (6, .ptr 2 0 0 1), (7, .bool false), (8, .ptr 3 0 0 1), (9, .bool f), (10, .int .i64 lo), (11, .int .i64 hi)]
theorem rc_eq (r : Rg) : Rc r = .cells false 2 [.agg [.int .i64 r.lo, .int .i64 r.hi]] := rfl
theorem rr_eq (d : Rd) : Rr d = .cells false 4 [.agg [.int .i64 d.g, .int .i64 d.p, .int .i64 d.lo, .int .i64 d.hi]] := rfl
theorem lr_back (m : Lw) : Row.cells false 10 [.agg [.int .i64 m.perv.lo, .int .i64 m.perv.hi, .int .i64 m.gain.lo, .int .i64 m.gain.hi, .int .i64 m.shift.lo, .int .i64 m.shift.hi, .int .i64 m.full.lo, .int .i64 m.full.hi, .int .i64 m.part.lo, .int .i64 m.part.hi]] = Lr m := rfl
theorem cup2 (n : Int) : cup n 2 = (n + 1) / 2 := by unfold cup; congr 1; omega

set_option maxHeartbeats 2000000 in
set_option maxRecDepth 20000 in
theorem narrowed_ok {m : Lw} (hm : LwOK m) (k : Nat) (hk : k < 5) (hk1 : k ≠ 1) (d : Rd) (hd : d.ok) (X : Rg) (hX : m.get k = X) (T1 T2 : Int) (hT1 : X.lo ≤ T1 ∧ T1 ≤ X.hi + 1) (hT2 : X.lo - 1 ≤ T2 ∧ T2 ≤ X.hi)
    (q1 : ∀ v, X.lo ≤ v → v ≤ X.hi → decide ((curOf (m.set k ⟨v, v⟩) d.g d.p).hi < d.lo) = decide (v < T1)) (q2 : ∀ v, X.lo ≤ v → v ≤ X.hi → decide (d.hi < (curOf (m.set k ⟨v, v⟩) d.g d.p).lo) = decide (T2 < v)) :
    Ans Tryd.prog n_ref02_narrowed [m.v, .int .i64 k, d.v] [] (.tup [Rg.v ⟨T1, T2⟩, .bool (decide (T1 ≤ T2))]) [] := by
  have kf := field_ok m k hk
  have hin := Lw.get_in hm k
  rw [hX] at kf hin
  have hlo : (m.get k).lo = X.lo := by rw [hX]
  have hhi : (m.get k).hi = X.hi := by rw [hX]
  have v1 : IntKind.i64.wrap (X.hi + 1) = X.hi + 1 := w64 (by omega)
  have v2 : IntKind.i64.wrap (X.lo - 1) = X.lo - 1 := w64 (by omega)
  have e9 : ((k : Int) == 1) = false := by rw [beq_eq_false_iff_ne]; omega
  refine spec_run e_ref02_narrowed fun G => ?_
  simp only [Lw.v, Lw.cs, Rg.v, Rd.v] at kf ⊢
  simp only [go_sem]
  refine cP kf ?_
  simp only [go_sem, v1, e9]
  refine loop_ind k_ref02_narrowed_r10.eq_1 (fun a : Int × Int => a.1 ≤ T1 ∧ T1 ≤ a.2 ∧ X.lo ≤ a.1 ∧ a.2 ≤ X.hi + 1) (fun a => (a.2 - a.1).toNat)
    (fun a => (tsets 99 (rnT k false a.1 a.2), rnA m d X)) (X.lo, X.hi + 1) (by dsimp only; omega) (by simp [go_sem, rnT]) (by simp only [rnA, Lr_eq, rc_eq, rr_eq]) ?_
  rintro ⟨a, b⟩ ⟨h1, h2, h3, h4⟩ ih
  dsimp only at h1 h2 h3 h4 ih ⊢
  by_cases hab : a < b
  · have u1 : IntKind.i64.wrap (a + b) = a + b := w64 (by omega)
    have kd := down_run (n := a + b) (b := 2) (by omega) (by omega)
    obtain ⟨M, hM⟩ : ∃ M, (a + b) / 2 = M := ⟨_, rfl⟩
    rw [hM] at kd
    have hMi : a ≤ M ∧ M < b := by omega
    have ka := ralone_ok M
    have kp := put_ok m k hk ⟨M, M⟩
    have hok := Lw.set_in hm k (x := M) (by omega) (by omega)
    have ku := under_ok _ hok d hd
    have hq := q1 M (by omega) (by omega)
    rw [hq] at ku
    have u2 : IntKind.i64.wrap (M + 1) = M + 1 := w64 (by omega)
    have u3 : IntKind.i64.wrap (a + b + 0) = a + b := by rw [show a + b + 0 = a + b by omega]; exact u1
    simp only [Lw.v, Lw.cs, Rg.v, Rd.v] at ka kp ku
    simp only [go_sem, rnT, rnA, Lr_eq, rc_eq, rr_eq, hab, u1]
    refine cP kd ?_
    simp only [go_sem]
    refine dP ka ?_
    simp only [go_sem]
    refine dP kp ?_
    simp only [go_sem, Bool.not_false]

    refine cP ku ?_
    by_cases hc : M < T1
    · simp only [go_sem, hc, u2]
      refine loop_drop (A := rnA m d X) (Y := [_]) (by simp) (rnA_ok _ _ _) ?_ ?_ (ih (M + 1, b) (by dsimp only; omega) (by dsimp only; omega) _ (wk_refl _))
      · simp [go_sem, rnT, ren]
      · simp [go_sem, rnT, rnA]
    · simp only [go_sem, hc]
      refine loop_drop (A := rnA m d X) (Y := [_]) (by simp) (rnA_ok _ _ _) ?_ ?_ (ih (a, M) (by dsimp only; omega) (by dsimp only; omega) _ (wk_refl _))
      · simp [go_sem, rnT, ren]
      · simp [go_sem, rnT, rnA]
  have hT : a = T1 := by omega
  rw [hT] at hab ⊢
  simp only [go_sem, rnT, rnA, Lr_eq, rc_eq, rr_eq, hab, v2]
  refine loop_ind k_ref02_narrowed_r19.eq_1 (fun a : Int × Int => a.1 ≤ T2 ∧ T2 ≤ a.2 ∧ X.lo - 1 ≤ a.1 ∧ a.2 ≤ X.hi) (fun a => (a.2 - a.1).toNat)
    (fun a => (tsets 99 (rnT k false a.1 a.2 ++ [(14, .int .i64 T1)]), rnA m d X)) (X.lo - 1, X.hi) (by dsimp only; omega) (by simp [go_sem, rnT]) (by simp only [rnA, Lr_eq, rc_eq, rr_eq]) ?_
  rintro ⟨a, b⟩ ⟨h1, h2, h3, h4⟩ ih
  dsimp only at h1 h2 h3 h4 ih ⊢
  by_cases hab : a < b
  · have u1 : IntKind.i64.wrap (a + b) = a + b := w64 (by omega)
    have kd := up_run (n := a + b) (b := 2) (by omega) (by omega)
    rw [cup2] at kd
    obtain ⟨M, hM⟩ : ∃ M, (a + b + 1) / 2 = M := ⟨_, rfl⟩
    rw [hM] at kd
    have hMi : a < M ∧ M ≤ b := by omega
    have ka := ralone_ok M
    have kp := put_ok m k hk ⟨M, M⟩
    have hok := Lw.set_in hm k (x := M) (by omega) (by omega)
    have ku := over_ok _ hok d hd
    have hq := q2 M (by omega) (by omega)
    rw [hq] at ku
    have u2 : IntKind.i64.wrap (M - 1) = M - 1 := w64 (by omega)
    have u3 : IntKind.i64.wrap (a + b - 0) = a + b := by rw [show a + b - 0 = a + b by omega]; exact u1
    simp only [Lw.v, Lw.cs, Rg.v, Rd.v] at ka kp ku
    simp only [go_sem, rnT, rnA, Lr_eq, rc_eq, rr_eq, hab, u1]
    refine cP kd ?_
    simp only [go_sem]
    refine dP ka ?_
    simp only [go_sem]
    refine dP kp ?_
    simp only [go_sem, Bool.not_false]

    refine cP ku ?_
    by_cases hc : T2 < M
    · simp only [go_sem, hc, u2]
      refine loop_drop (A := rnA m d X) (Y := [_]) (by simp) (rnA_ok _ _ _) ?_ ?_ (ih (a, M - 1) (by dsimp only; omega) (by dsimp only; omega) _ (wk_refl _))
      · simp [go_sem, rnT, ren]
      · simp [go_sem, rnT, rnA]
    · simp only [go_sem, hc]
      refine loop_drop (A := rnA m d X) (Y := [_]) (by simp) (rnA_ok _ _ _) ?_ ?_ (ih (M, b) (by dsimp only; omega) (by dsimp only; omega) _ (wk_refl _))
      · simp [go_sem, rnT, ren]
      · simp [go_sem, rnT, rnA]
  have hT : a = T2 := by omega
  rw [hT] at hab ⊢
  simp only [go_sem, rnT, rnA, Lr_eq, rc_eq, rr_eq, hab]

set_option maxHeartbeats 2000000 in
set_option maxRecDepth 20000 in
theorem narrowed_gain {m : Lw} (hm : LwOK m) (d : Rd) (hd : d.ok) (X : Rg) (hX : m.get 1 = X) (T1 T2 : Int) (hT1 : X.lo ≤ T1 ∧ T1 ≤ X.hi + 1) (hT2 : X.lo - 1 ≤ T2 ∧ T2 ≤ X.hi)
    (q1 : ∀ v, X.lo ≤ v → v ≤ X.hi → decide (d.hi < (curOf (m.set 1 ⟨v, v⟩) d.g d.p).lo) = decide (v < T1)) (q2 : ∀ v, X.lo ≤ v → v ≤ X.hi → decide ((curOf (m.set 1 ⟨v, v⟩) d.g d.p).hi < d.lo) = decide (T2 < v)) :
    Ans Tryd.prog n_ref02_narrowed [m.v, .int .i64 1, d.v] [] (.tup [Rg.v ⟨T1, T2⟩, .bool (decide (T1 ≤ T2))]) [] := by
  have kf := field_ok m 1 (by decide)
  have hin := Lw.get_in hm 1
  rw [hX] at kf hin
  have hlo : (m.get 1).lo = X.lo := by rw [hX]
  have hhi : (m.get 1).hi = X.hi := by rw [hX]
  have v1 : IntKind.i64.wrap (X.hi + 1) = X.hi + 1 := w64 (by omega)
  have v2 : IntKind.i64.wrap (X.lo - 1) = X.lo - 1 := w64 (by omega)
  refine spec_run e_ref02_narrowed fun G => ?_
  simp only [Lw.v, Lw.cs, Rg.v, Rd.v] at kf ⊢
  simp only [go_sem]
  refine cP kf ?_
  simp only [go_sem, v1]
  refine loop_ind k_ref02_narrowed_r10.eq_1 (fun a : Int × Int => a.1 ≤ T1 ∧ T1 ≤ a.2 ∧ X.lo ≤ a.1 ∧ a.2 ≤ X.hi + 1) (fun a => (a.2 - a.1).toNat)
    (fun a => (tsets 99 (rnT 1 true a.1 a.2), rnA m d X)) (X.lo, X.hi + 1) (by dsimp only; omega) (by simp [go_sem, rnT]) (by simp only [rnA, Lr_eq, rc_eq, rr_eq]) ?_
  rintro ⟨a, b⟩ ⟨h1, h2, h3, h4⟩ ih
  dsimp only at h1 h2 h3 h4 ih ⊢
  by_cases hab : a < b
  · have u1 : IntKind.i64.wrap (a + b) = a + b := w64 (by omega)
    have kd := down_run (n := a + b) (b := 2) (by omega) (by omega)
    obtain ⟨M, hM⟩ : ∃ M, (a + b) / 2 = M := ⟨_, rfl⟩
    rw [hM] at kd
    have hMi : a ≤ M ∧ M < b := by omega
    have ka := ralone_ok M
    have kp := put_ok m 1 (by decide) ⟨M, M⟩
    have hok := Lw.set_in hm 1 (x := M) (by omega) (by omega)
    have ku := over_ok _ hok d hd
    have hq := q1 M (by omega) (by omega)
    rw [hq] at ku
    have u2 : IntKind.i64.wrap (M + 1) = M + 1 := w64 (by omega)
    have u3 : IntKind.i64.wrap (a + b + 0) = a + b := by rw [show a + b + 0 = a + b by omega]; exact u1
    simp only [Lw.v, Lw.cs, Rg.v, Rd.v] at ka kp ku
    simp only [go_sem, rnT, rnA, Lr_eq, rc_eq, rr_eq, hab, u1]
    refine cP kd ?_
    simp only [go_sem]
    refine dP ka ?_
    simp only [go_sem]
    refine dP kp ?_
    simp only [go_sem, Bool.not_true]

    refine cP ku ?_
    by_cases hc : M < T1
    · simp only [go_sem, hc, u2]
      refine loop_drop (A := rnA m d X) (Y := [_]) (by simp) (rnA_ok _ _ _) ?_ ?_ (ih (M + 1, b) (by dsimp only; omega) (by dsimp only; omega) _ (wk_refl _))
      · simp [go_sem, rnT, ren]
      · simp [go_sem, rnT, rnA]
    · simp only [go_sem, hc]
      refine loop_drop (A := rnA m d X) (Y := [_]) (by simp) (rnA_ok _ _ _) ?_ ?_ (ih (a, M) (by dsimp only; omega) (by dsimp only; omega) _ (wk_refl _))
      · simp [go_sem, rnT, ren]
      · simp [go_sem, rnT, rnA]
  have hT : a = T1 := by omega
  rw [hT] at hab ⊢
  simp only [go_sem, rnT, rnA, Lr_eq, rc_eq, rr_eq, hab, v2]
  refine loop_ind k_ref02_narrowed_r19.eq_1 (fun a : Int × Int => a.1 ≤ T2 ∧ T2 ≤ a.2 ∧ X.lo - 1 ≤ a.1 ∧ a.2 ≤ X.hi) (fun a => (a.2 - a.1).toNat)
    (fun a => (tsets 99 (rnT 1 true a.1 a.2 ++ [(14, .int .i64 T1)]), rnA m d X)) (X.lo - 1, X.hi) (by dsimp only; omega) (by simp [go_sem, rnT]) (by simp only [rnA, Lr_eq, rc_eq, rr_eq]) ?_
  rintro ⟨a, b⟩ ⟨h1, h2, h3, h4⟩ ih
  dsimp only at h1 h2 h3 h4 ih ⊢
  by_cases hab : a < b
  · have u1 : IntKind.i64.wrap (a + b) = a + b := w64 (by omega)
    have kd := up_run (n := a + b) (b := 2) (by omega) (by omega)
    rw [cup2] at kd
    obtain ⟨M, hM⟩ : ∃ M, (a + b + 1) / 2 = M := ⟨_, rfl⟩
    rw [hM] at kd
    have hMi : a < M ∧ M ≤ b := by omega
    have ka := ralone_ok M
    have kp := put_ok m 1 (by decide) ⟨M, M⟩
    have hok := Lw.set_in hm 1 (x := M) (by omega) (by omega)
    have ku := under_ok _ hok d hd
    have hq := q2 M (by omega) (by omega)
    rw [hq] at ku
    have u2 : IntKind.i64.wrap (M - 1) = M - 1 := w64 (by omega)
    have u3 : IntKind.i64.wrap (a + b - 0) = a + b := by rw [show a + b - 0 = a + b by omega]; exact u1
    simp only [Lw.v, Lw.cs, Rg.v, Rd.v] at ka kp ku
    simp only [go_sem, rnT, rnA, Lr_eq, rc_eq, rr_eq, hab, u1]
    refine cP kd ?_
    simp only [go_sem]
    refine dP ka ?_
    simp only [go_sem]
    refine dP kp ?_
    simp only [go_sem, Bool.not_true]

    refine cP ku ?_
    by_cases hc : T2 < M
    · simp only [go_sem, hc, u2]
      refine loop_drop (A := rnA m d X) (Y := [_]) (by simp) (rnA_ok _ _ _) ?_ ?_ (ih (a, M - 1) (by dsimp only; omega) (by dsimp only; omega) _ (wk_refl _))
      · simp [go_sem, rnT, ren]
      · simp [go_sem, rnT, rnA]
    · simp only [go_sem, hc]
      refine loop_drop (A := rnA m d X) (Y := [_]) (by simp) (rnA_ok _ _ _) ?_ ?_ (ih (M, b) (by dsimp only; omega) (by dsimp only; omega) _ (wk_refl _))
      · simp [go_sem, rnT, ren]
      · simp [go_sem, rnT, rnA]
  have hT : a = T2 := by omega
  rw [hT] at hab ⊢
  simp only [go_sem, rnT, rnA, Lr_eq, rc_eq, rr_eq, hab]

end Go.Proofs

namespace Go.Proofs
open Go Go.Sx Go.Fam
attribute [local irreducible] Run

theorem rnar_ok {m : Lw} (hm : LwOK m) (k : Nat) (hk : k < 5) (d : Rd) (hd : d.ok) : ∃ T1 T2, nar1 m k d = (if T1 ≤ T2 then ⟨T1, T2⟩ else ⟨1, 0⟩) ∧
    Ans Tryd.prog n_ref02_narrowed [m.v, .int .i64 k, d.v] [] (.tup [Rg.v ⟨T1, T2⟩, .bool (decide (T1 ≤ T2))]) [] := by
  have hin := Lw.get_in hm k
  obtain ⟨X, hX⟩ : ∃ X, m.get k = X := ⟨_, rfl⟩
  have hok : ∀ z, X.lo ≤ z → z ≤ X.hi → LwOK (m.set k ⟨z, z⟩) := fun z h1 h2 => Lw.set_in hm k (by rw [hX]; exact h1) (by rw [hX]; exact h2)
  rw [hX] at hin
  obtain ⟨n, hn⟩ : ∃ n : Nat, (X.hi - X.lo + 1).toNat = n := ⟨_, rfl⟩
  have core : ∀ qb qa : Int → Bool, (∀ x y, X.lo ≤ x → x ≤ y → y ≤ X.hi → qb y = true → qb x = true) → (∀ x y, X.lo ≤ x → x ≤ y → y ≤ X.hi → qa x = true → qa y = true) →
      ∃ T1 T2, (X.lo ≤ T1 ∧ T1 ≤ X.hi + 1) ∧ (X.lo - 1 ≤ T2 ∧ T2 ≤ X.hi) ∧ (∀ v, X.lo ≤ v → v ≤ X.hi → qb v = decide (v < T1)) ∧ (∀ v, X.lo ≤ v → v ≤ X.hi → qa v = decide (T2 < v)) ∧
        keptR qb qa X X = (if T1 ≤ T2 then ⟨T1, T2⟩ else ⟨1, 0⟩) := by
    intro qb qa h1 h2
    obtain ⟨m1, a1, a2⟩ := thr (fun i => !qb (X.lo + i)) n fun i j hij hj hp => by
      simp only [Bool.not_eq_true'] at hp ⊢
      cases hq : qb (X.lo + j) with
      | false => rfl
      | true => rw [h1 (X.lo + i) (X.lo + j) (by omega) (by omega) (by omega) hq] at hp; cases hp
    obtain ⟨m2, b1, b2⟩ := thr (fun i => qa (X.lo + i)) n fun i j hij hj hp => h2 _ _ (by omega) (by omega) (by omega) hp
    have e1 : (ks1 qb X X).1 = m1 := by
      unfold ks1; rw [hn]
      exact bs_least n 0 n X (by omega) (Nat.zero_le _) a1 fun h _ hh => a2 h hh
    have e2 : (ks2 qb qa X X).1 = m2 := by
      unfold ks2; rw [hn]
      exact bs_least n 0 n _ (by omega) (Nat.zero_le _) b1 fun h _ hh => b2 h hh
    refine ⟨X.lo + m1, X.lo + m2 - 1, by omega, by omega, fun v hv1 hv2 => ?_, fun v hv1 hv2 => ?_, ?_⟩
    · have := a2 (v - X.lo).toNat (by omega)
      rw [show X.lo + ((v - X.lo).toNat : Int) = v by omega] at this
      cases hq : qb v with
      | false => rw [hq] at this; simp only [Bool.not_false] at this; have h3 : m1 ≤ (v - X.lo).toNat := by simpa using this.symm
                 symm; rw [decide_eq_false_iff_not]; omega
      | true => rw [hq] at this; simp only [Bool.not_true] at this; have h3 : ¬ m1 ≤ (v - X.lo).toNat := by simpa using this.symm
                symm; rw [decide_eq_true_eq]; omega
    · have := b2 (v - X.lo).toNat (by omega)
      rw [show X.lo + ((v - X.lo).toNat : Int) = v by omega] at this
      rw [this]
      refine decide_eq_decide.2 ?_
      omega
    · unfold keptR
      rw [e1, e2]
      by_cases h : m2 ≤ m1
      · rw [if_pos h, if_neg (by omega)]
      · rw [if_neg h, if_pos (by omega)]
  by_cases h1 : k = 1
  · subst h1
    obtain ⟨T1, T2, c1, c2, c3, c4, c5⟩ := core (tooHigh m 1 d) (tooLow m 1 d) (fun u w hu huw hw hq => by
        have := (cur_up (hok w (by omega) hw) (hok u hu (by omega)) (set_down m huw) (g := d.g) (p := d.p) hd.2.1).lo
        unfold tooHigh at hq ⊢
        rw [decide_eq_true_eq] at hq ⊢; omega) (fun u w hu huw hw hq => by
        have := (cur_up (hok w (by omega) hw) (hok u hu (by omega)) (set_down m huw) (g := d.g) (p := d.p) hd.2.1).hi
        unfold tooLow at hq ⊢
        rw [decide_eq_true_eq] at hq ⊢; omega)
    refine ⟨T1, T2, ?_, narrowed_gain hm d hd X hX T1 T2 c1 c2 c3 c4⟩
    unfold nar1
    rw [if_pos rfl, hX]
    exact c5
  · obtain ⟨T1, T2, c1, c2, c3, c4, c5⟩ := core (tooLow m k d) (tooHigh m k d) (fun u w hu huw hw hq => by
        have := (cur_up (hok u hu (by omega)) (hok w (by omega) hw) (set_up m k h1 huw) (g := d.g) (p := d.p) hd.2.1).hi
        unfold tooLow at hq ⊢
        rw [decide_eq_true_eq] at hq ⊢; omega) (fun u w hu huw hw hq => by
        have := (cur_up (hok u hu (by omega)) (hok w (by omega) hw) (set_up m k h1 huw) (g := d.g) (p := d.p) hd.2.1).lo
        unfold tooHigh at hq ⊢
        rw [decide_eq_true_eq] at hq ⊢; omega)
    refine ⟨T1, T2, ?_, narrowed_ok hm k hk h1 d hd X hX T1 T2 c1 c2 c3 c4⟩
    unfold nar1
    rw [if_neg h1, hX]
    exact c5

def ksF (k : Nat) : List Nat := if k < 5 then (List.range' k (5 - k)) else []
theorem ksF_lt {k : Nat} (h : k < 5) : ksF k = k :: ksF (k + 1) := by
  match k, h with
  | 0, _ => rfl
  | 1, _ => rfl
  | 2, _ => rfl
  | 3, _ => rfl
  | 4, _ => rfl

def nrT (rs : List Rd) : List (Nat × AVal) := [(1, .view (rs.map Rd.v)), (2, .ptr 0 0 0 1), (4, .ptr 1 0 0 1), (5, .int .i64 0)]
set_option maxHeartbeats 2000000 in
set_option maxRecDepth 20000 in
theorem rNarrow_ok (l : Lw) (rs : List Rd) (hl : rs.length ≤ 9223372036854775807) : Ans Tryd.prog n_ref02_Narrow [l.v, Rds rs] [] (narV l rs) [] := by
  have kl := rcheckLaw_raw l
  unfold narV
  refine spec_run e_ref02_Narrow fun G => ?_
  simp only [Lw.v, Lw.cs, Rds] at kl ⊢
  simp only [go_sem]
  refine cP kl ?_
  by_cases c1 : lawE l = 0
  · rw [if_pos c1]
    have h0 := lawE_ok c1
    by_cases h60 : 60 < rs.length
    · have h2 : (rs.length : Int) > 60 := by omega
      have e8 : readsE rs = 8 := by unfold readsE; rw [if_pos h60]
      rw [e8, if_neg (by decide)]
      simp only [go_sem, c1, List.length_map, h2, zlw]
    have h2 : ¬ (rs.length : Int) > 60 := by omega
    have e8 : readsE rs = rdsE rs := by unfold readsE; rw [if_neg h60]
    rw [e8]
    simp only [go_sem, c1, List.length_map, h2]
    obtain ⟨e, he⟩ : ∃ e, rdsE rs = e := ⟨_, rfl⟩
    rw [he]
    refine loop_ind k_ref02_Narrow_r13.eq_1 (fun i : Nat => i ≤ rs.length ∧ rdsE (rs.drop i) = e) (fun i => rs.length - i)
      (fun i => (tsets 83 [(1, .view (rs.map Rd.v)), (2, .ptr 0 0 0 1), (4, .ptr 1 0 0 1), (5, .int .i64 0), (7, .int .i64 i)], [some (Lr l), some Zr])) 0 ⟨Nat.zero_le _, he⟩ (by simp [go_sem]) (by simp only [Lr_eq, Zr]) ?_
    rintro i ⟨hi, hE⟩ ih
    dsimp only at hi hE ih ⊢
    by_cases h1 : i < rs.length
    · have g1 : (i : Int) < rs.length := by omega
      have n0 : ¬ (i : Int) < 0 := by omega
      have h3 : IntKind.i64.wrap ((i : Int) + 1) = ((i + 1 : Nat) : Int) := by rw [w64 (by omega)]; rfl
      have hx := rds_get h1
      rw [rds_drop h1] at hE
      obtain ⟨d, hd⟩ : ∃ d, rs[i] = d := ⟨_, rfl⟩
      rw [hd] at hx hE
      simp only [rdsE] at hE
      have kg := rright_run d.g d.p
      simp only [Rd.v] at hx
      simp only [go_sem, g1, n0, hx, Int.toNat_natCast, List.length_map]
      refine cP kg ?_
      by_cases ok : d.ok
      · have ok' : (-1000000 ≤ d.g ∧ d.g ≤ 1000000) ∧ 0 ≤ d.p ∧ d.p ≤ 1000000 := ok
        by_cases c3 : d.hi < d.lo
        · have e : rdE1 d = 11 := by unfold rdE1; rw [if_pos ok, if_pos c3]
          rw [e, if_neg (by decide)] at hE
          subst hE
          have c3' : d.lo > d.hi := c3
          rw [if_neg (by decide)]
          simp only [go_sem, ok', c3', n0, hx, Int.toNat_natCast, g1, Zr, zlw]
        · have e : rdE1 d = 0 := by unfold rdE1; rw [if_pos ok, if_neg c3]
          rw [e, if_pos rfl] at hE
          have c3' : ¬ d.lo > d.hi := c3
          simp only [go_sem, ok', c3', h3, n0, hx, Int.toNat_natCast, g1]
          exact ih (i + 1) (by omega) ⟨h1, hE⟩ _ (by simp [go_sem])
      · have e : rdE1 d = 2 := by unfold rdE1; rw [if_neg ok]
        rw [e, if_neg (by decide)] at hE
        subst hE
        rw [if_neg (by decide)]
        have ok' : ¬ ((-1000000 ≤ d.g ∧ d.g ≤ 1000000) ∧ 0 ≤ d.p ∧ d.p ≤ 1000000) := ok
        simp only [go_sem, ok', Zr, zlw]
    · have g1 : ¬ (i : Int) < rs.length := by omega
      have : rs.drop i = [] := List.drop_eq_nil_of_le (by omega)
      rw [this] at hE
      have he0 : e = 0 := by rw [← hE]; rfl
      rw [he0] at he
      rw [he0, if_pos rfl]
      have hv := rdsE_ok he
      obtain ⟨out, hout⟩ : ∃ out, narL rs l = out := ⟨_, rfl⟩
      rw [hout]
      simp only [go_sem, g1, List.length_map]
      clear hE ih he he0 this g1 h1 hi
      refine loop_ind k_ref02_Narrow_r25.eq_1 (fun a : Nat × Lw => a.1 ≤ rs.length ∧ LwOK a.2 ∧ narL (rs.drop a.1) a.2 = out) (fun a => rs.length - a.1)
        (fun a => (tsets 83 (nrT rs ++ [(8, .int .i64 a.1)]), [some (Lr a.2), some Zr])) (0, l) ⟨Nat.zero_le _, h0, hout⟩ (by simp [go_sem, nrT]) rfl ?_
      rintro ⟨i, m⟩ ⟨hi, hm, hE⟩ ih
      dsimp only at hi hm hE ih ⊢
      by_cases h1 : i < rs.length
      · have g1 : (i : Int) < rs.length := by omega
        have n0 : ¬ (i : Int) < 0 := by omega
        have h3 : IntKind.i64.wrap ((i : Int) + 1) = ((i + 1 : Nat) : Int) := by rw [w64 (by omega)]; rfl
        have hx := rds_get h1
        rw [rds_drop h1] at hE
        have hd := hv _ (List.getElem_mem h1)
        obtain ⟨d, hde⟩ : ∃ d, rs[i] = d := ⟨_, rfl⟩
        rw [hde] at hx hE hd
        simp only [narL] at hE
        obtain ⟨R, hR⟩ : ∃ R, narK (ksF 0) m d = R := ⟨_, rfl⟩
        rw [show ([0, 1, 2, 3, 4] : List Nat) = ksF 0 from rfl, hR] at hE
        simp only [Rd.v] at hx
        simp only [go_sem, nrT, g1, List.length_map]
        refine loop_ind k_ref02_Narrow_r23.eq_1 (fun a : Nat × Lw => a.1 ≤ 5 ∧ LwOK a.2 ∧ narK (ksF a.1) a.2 d = R) (fun a => 5 - a.1)
          (fun a => (tsets 83 (nrT rs ++ [(8, .int .i64 i), (9, .int .i64 a.1)]), [some (Lr a.2), some Zr])) (0, m) ⟨Nat.zero_le _, hm, hR⟩ (by simp [go_sem, nrT]) rfl ?_
        rintro ⟨k, m'⟩ ⟨hk5, hm', hK⟩ ihk
        dsimp only at hk5 hm' hK ihk ⊢
        by_cases hk : k < 5
        · have gk : (k : Int) < 5 := by omega
          have h4 : IntKind.i64.wrap ((k : Int) + 1) = ((k + 1 : Nat) : Int) := by rw [w64 (by omega)]; rfl
          rw [ksF_lt hk] at hK
          simp only [narK] at hK
          obtain ⟨T1, T2, e1, kn⟩ := rnar_ok hm' k hk d hd.1
          have hsb := nar1_in hm' k d
          rw [e1] at hK hsb
          simp only [Lw.v, Lw.cs, Rd.v, Rg.v] at kn
          by_cases hT : T1 ≤ T2
          · rw [if_pos hT] at hK hsb
            have hz : ¬ (T1 = 1 ∧ T2 = 0) := by omega
            rw [if_neg hz] at hK
            have hsb := hsb hz
            have kp := put_ok m' k hk ⟨T1, T2⟩
            simp only [Lw.v, Lw.cs, Rg.v] at kp
            simp only [go_sem, nrT, gk, Lr_eq, n0, hx, Int.toNat_natCast]
            refine dP kn ?_
            simp only [go_sem, hT]
            refine cP kp ?_
            simp only [go_sem, h4, hT]
            rw [lr_back]
            refine loop_drop (A := [some (Lr (m'.set k ⟨T1, T2⟩)), some Zr]) (Y := [_]) (by simp) (nar_rows _) ?_ ?_ (ihk (k + 1, m'.set k ⟨T1, T2⟩) (by dsimp only; omega) ⟨by dsimp only; omega, hsb, hK⟩ _ (wk_refl _))
            · simp [go_sem, nrT, ren]
            · simp [go_sem, nrT]
          · rw [if_neg hT] at hK
            rw [if_pos ⟨rfl, rfl⟩] at hK
            subst hK
            simp only [Bool.false_eq_true, if_false] at hE
            subst hE
            simp only [go_sem, nrT, gk, Lr_eq, n0, hx, Int.toNat_natCast]
            refine dP kn ?_
            simp only [go_sem, hT, Zr, zlw]
        · have gk : ¬ (k : Int) < 5 := by omega
          obtain rfl : k = 5 := by omega
          have : R = (true, m') := by rw [← hK]; rfl
          subst this
          rw [if_pos rfl] at hE
          simp only [go_sem, nrT, gk, h3]
          exact ih (i + 1, m') (by dsimp only; omega) ⟨h1, hm', hE⟩ _ (by simp [go_sem, nrT])
      · have g1 : ¬ (i : Int) < rs.length := by omega
        have : rs.drop i = [] := List.drop_eq_nil_of_le (by omega)
        rw [this] at hE
        subst hE
        simp only [go_sem, nrT, g1, List.length_map, Lr_eq, Zr]
        rfl
  · rw [if_neg c1]
    generalize lawE l = e at *
    simp only [go_sem, c1, zlw]
end Go.Proofs

namespace Go.Proofs
open Go Go.Sx
def yes : Option (AVal × Heap) → Bool
  | some (.bool b, _) => b
  | _ => false
theorem yes_ans {P : Program} (hm : P.follows .mixedOrders = true) {tab : Nat → Option AFun} (hT : ∀ g af, tab g = some af → EntryOK P g af) {m n g : Nat} (h : yes (exFn tab m n g [] []) = true) : Ans P g [] [] (.bool true) [] := by
  match hx : exFn tab m n g [] [] with
  | none => rw [hx] at h; cases h
  | some (v, H') =>
    rw [hx] at h
    cases v <;> try (cases h; done)
    rename_i b
    have hb : b = true := h
    subst hb
    exact (spec_ex hm hT hx).mono fun v H'' hv => ⟨hv.1, H'', rfl⟩
end Go.Proofs

namespace Go.Proofs
open Go Go.Sx
theorem awake_yes : yes (exFn tab 3000 40 n_law02_awake [] []) = true := by kernel_rfl
theorem awake_ok : Ans Tryd.prog n_law02_awake [] [] (.bool true) [] := yes_ans mixed tab_ok awake_yes
end Go.Proofs

namespace Go.Proofs
open Go Go.Sx Go.Fam
attribute [local irreducible] Run

section
variable {P : Program} {G : Ctx} {g : FuncId} {args : List AVal} {H : Heap} {k : Nat} {R : Runner} {l : List AOper} {fs : List Sx.Frame} {ρ : List AVal} {ms : List Nat} {Q : Goal} {dst : Option Nat} {x x' : Row} {j : Nat} {es : List AVal} {gr : Bool} {sz : Nat}
theorem cDs (h : Ans P g (.ptr 0 0 0 1 :: args) [some x] (slv 1 es) (some x' :: slrG gr sz es)) (hK : R (.ops l) fs ⟨setD ρ dst (slv H.length es), H.set j (some x') ++ slrG gr sz es, ms⟩ Q) (hes : Bels (fun _ => False) es) (hj : H[j]? = some (some x) := by first | rfl | simp only [go_sem])
    (hb : Bels (fun _ => False) args := by simp only [go_sem]) (hx : x.bel (fun _ => False) := by simp only [go_sem]) (hx' : x'.bel (fun _ => False) := by simp only [go_sem])
    (hk : k ≤ H.length := by simp) (hms : ∀ q ∈ ms, q ≠ j ∧ H[q]? = some (some .dfr) := by simp) : CallR P G k R g (.ptr j 0 0 1 :: args) dst l fs ρ H ms Q :=
  callDS (Φ := fun _ : Unit => True) (es := fun _ => es) (x' := fun _ => x') (gr := gr) (sz := sz) (Ans.toE (a := ()) (r := fun _ : Unit => slv 1 es) (L' := fun _ => some x' :: slrG gr sz es) h trivial) hj hb hx (fun _ _ => ⟨hx', hes⟩) hk hms fun _ _ => hK
end

theorem frz_rds {d : Nat} {H : Heap} {j : Nat} {gr : Bool} {rs : List Rd} (h : H[j]? = some (some (.cells gr 4 (rs.map Rd.v)))) : frz (d + 3) H (.sl j 0 rs.length) = Rds rs := by
  rw [frz_sl h (by simp)]
  unfold Rds
  rw [List.map_map]
  congr 1

end Go.Proofs

namespace Go.Proofs
open Go Go.Sx Go.Fam
attribute [local irreducible] Run

def nW (l : Lw) (rs : List Rd) : Lw := if lawE l = 0 then (if readsE rs = 0 then (if (narL rs l).1 = true then (narL rs l).2 else zlw) else zlw) else zlw
def nE (l : Lw) (rs : List Rd) : Int := if lawE l = 0 then (if readsE rs = 0 then (if (narL rs l).1 = true then 0 else 12) else readsE rs) else lawE l
theorem narV_eq (l : Lw) (rs : List Rd) : narV l rs = .tup [(nW l rs).v, .int .i64 (nE l rs)] := by
  unfold narV nW nE
  repeat' split
  all_goals rfl
theorem nar_both (l : Lw) (rs : List Rd) (hl : rs.length ≤ 9223372036854775807) : ∃ (W : Lw) (e : Int), Ans Tryd.prog n_curve_Narrow [l.v, Rds rs] [] (.tup [W.v, .int .i64 e]) [] ∧ Ans Tryd.prog n_ref02_Narrow [l.v, Rds rs] [] (.tup [W.v, .int .i64 e]) [] := by
  have h1 := Narrow_ok l rs hl
  have h2 := rNarrow_ok l rs hl
  rw [narV_eq] at h1 h2
  exact ⟨_, _, h1, h2⟩

def lwsR (l L : Lw) : Row := .cells false 10 [l.v, L.v, L.v, L.v]
def qA0 (l L : Lw) (w : Int) (reads : List Rd) : Heap := [some (Lr l), some (Dr w), some (Lr L), some (lwsR l L), some (.cells true 4 (reads.map Rd.v)), some (.cells false 1 [Rds reads, .nilsl, .sl 4 0 reads.length, Rds reads])]
def qA1 (l L : Lw) (w : Int) (rs reads : List Rd) : Heap := [some (Lr l), some (Dr w), some (Lr L), some (.cells true 4 (rs.map Rd.v)), some (lwsR l L), some (.cells true 4 (rs.map Rd.v ++ reads.map Rd.v)), some (.cells false 1 [Rds reads, .sl 3 0 rs.length, .sl 5 0 (rs.length + reads.length), Rds reads])]
@[go_sem] theorem lws_bel (l L : Lw) (S : Nat → Prop) : (lwsR l L).bel S = True := by unfold lwsR; rw [row_bel_cells]; simp only [go_sem, Lw.v, Lw.cs]
@[go_sem] theorem rds_bel' (rs : List Rd) (S : Nat → Prop) : Bel S (Rds rs) = True := by unfold Rds; rw [bel_view, rdl_bels]
theorem rdapp_bel (a b : List Rd) (S : Nat → Prop) : (Row.cells true 4 (a.map Rd.v ++ b.map Rd.v)).bel S := by rw [← List.map_append]; simp only [go_sem]
theorem qA0_ok (l L : Lw) (w : Int) (reads : List Rd) : ∀ (i : Nat) (y : Row), (qA0 l L w reads)[i]? = some (some y) → y.ren (fun i => i) = y ∧ y.bel (· < (qA0 l L w reads).length) := by
  intro i y hy
  have hb : ∀ {y : Row}, y.bel (fun _ => False) → y.ren (fun i => i) = y ∧ y.bel (· < (qA0 l L w reads).length) := fun h => ⟨Row.ren_same h, bel_mono_row h fun _ h => h.elim⟩
  match i with
  | 0 => cases hy; exact hb (by simp only [go_sem])
  | 1 => cases hy; exact hb (dr_bel _ _)
  | 2 => cases hy; exact hb (by simp only [go_sem])
  | 3 => cases hy; exact hb (by simp only [go_sem])
  | 4 => cases hy; exact hb (by simp only [go_sem])
  | 5 => cases hy; exact ⟨by simp [Row.ren, rens_eq, rds_ren, ren], by rw [row_bel_cells]; simp [go_sem, qA0]⟩
  | i + 6 => simp [qA0] at hy
theorem qA1_ok (l L : Lw) (w : Int) (rs reads : List Rd) : ∀ (i : Nat) (y : Row), (qA1 l L w rs reads)[i]? = some (some y) → y.ren (fun i => i) = y ∧ y.bel (· < (qA1 l L w rs reads).length) := by
  intro i y hy
  have hb : ∀ {y : Row}, y.bel (fun _ => False) → y.ren (fun i => i) = y ∧ y.bel (· < (qA1 l L w rs reads).length) := fun h => ⟨Row.ren_same h, bel_mono_row h fun _ h => h.elim⟩
  match i with
  | 0 => cases hy; exact hb (by simp only [go_sem])
  | 1 => cases hy; exact hb (dr_bel _ _)
  | 2 => cases hy; exact hb (by simp only [go_sem])
  | 3 => cases hy; exact hb (by simp only [go_sem])
  | 4 => cases hy; exact hb (by simp only [go_sem])
  | 5 => cases hy; exact hb (rdapp_bel _ _ _)
  | 6 => cases hy; exact ⟨by simp [Row.ren, rens_eq, rds_ren, ren], by rw [row_bel_cells]; simp [go_sem, qA1]⟩
  | i + 7 => simp [qA1] at hy
theorem frz_app {d : Nat} {H : Heap} {j : Nat} {gr : Bool} {a b : List Rd} (h : H[j]? = some (some (.cells gr 4 (a.map Rd.v ++ b.map Rd.v)))) : frz (d + 3) H (.sl j 0 (a.length + b.length)) = Rds (a ++ b) := by
  rw [← List.map_append] at h
  rw [← List.length_append]
  exact frz_rds h
theorem frz_vw {d : Nat} {H : Heap} (rs : List Rd) : frz (d + 3) H (.view (rs.map Rd.v)) = Rds rs := by
  unfold Rds
  simp only [frz, List.map_map]
  congr 1

set_option maxHeartbeats 4000000 in
set_option maxRecDepth 20000 in
theorem narrows_law (l : Lw) (reads : List Rd) (hrl : reads.length ≤ 9223372036854775807) (xs : List Int) (hl : xs.length ≤ 9223372036854775807) : Ans Tryd.prog n_law02_CurveNarrows [l.v, Rds reads, .view (xs.map (.int .i64))] [] (.bool true) [] := by
  refine spec_run e_law02_CurveNarrows fun G => ?_
  by_cases h70 : 70 < reads.length
  · have g70 : (reads.length : Int) > 70 := by omega
    simp only [go_sem, Lw.v, Lw.cs, Rds, List.length_map, g70]
    refine cP awake_ok ?_
    simp only [go_sem]
  have g70 : ¬ (reads.length : Int) > 70 := by omega
  have hd := newdice_ok xs hl
  generalize feed (IntKind.u64.wrap (IntKind.u64.wrap xs.length + 1374496523)) xs = w at *
  have hlaw := lawof_ok w
  have hin := lawOf_in w
  generalize lawOf w = L at *
  generalize lawEnd w = w1 at *
  have hwl := withinLaw_ok w1 L hin true
  obtain ⟨hxm, hxs⟩ := inLaw_ok (w := w1) (b := true) hin
  generalize inLaw w1 L true = x at *
  generalize d2 (d2 (d2 (d2 (d2 w1)))) = w2 at *
  obtain ⟨rs, w3, hr4, hrs, hro⟩ := ReadsOf_ok w2 hxm
  clear hxm hxs hrs
  obtain ⟨W0, e0, kN0, kR0⟩ := nar_both l reads (by omega)
  obtain ⟨W1, e1, kN1, kR1⟩ := nar_both L rs (by omega)
  obtain ⟨W2, e2, kN2, kR2⟩ := nar_both L (rs ++ reads) (by simp; omega)
  obtain ⟨W3, e3, kN3, kR3⟩ := nar_both L reads (by omega)
  simp only [Lw.v, Lw.cs] at hlaw hwl hro kN0 kR0 kN1 kR1 kN2 kR2 kN3 kR3
  simp only [go_sem, Lw.v, Lw.cs, Rds, List.length_map, g70]
  refine callN1 hd ⟨by rw [bel_view]; exact bels_map _ _ fun _ => .int _ _, trivial⟩ (dr_bel _ _) (by simp) (by simp) ?_
  simp only [go_sem]
  refine cD hlaw ?_
  simp only [go_sem]
  refine cD hwl ?_
  simp only [go_sem]
  refine cDs hro ?_ (by rw [rdl_bels]; trivial)
  have b0 : reads.length * 32 ≤ 2 ^ 44 := by omega
  have b1 : rs.length * 32 ≤ 2 ^ 44 := by omega
  have b2 : (rs.length + reads.length) * 32 ≤ 2 ^ 44 := by omega
  have u1 : IntKind.i64.wrap 1 = 1 := by decide
  have u2 : IntKind.i64.wrap 2 = 2 := by decide
  have u3 : IntKind.i64.wrap 3 = 3 := by decide
  have u4 : IntKind.i64.wrap 4 = 4 := by decide
  have ht2 : List.take reads.length (reads.map Rd.v) = reads.map Rd.v := List.take_of_length_le (by simp)
  have ht3 : List.take (rs.length + reads.length) (rs.map Rd.v ++ reads.map Rd.v) = rs.map Rd.v ++ reads.map Rd.v := List.take_of_length_le (by simp)
  have hsz : sizedAll 4 (rs.map Rd.v ++ reads.map Rd.v) = true := by rw [← List.map_append]; exact rd_sized _
  by_cases hne : rs = []
  · subst hne
    simp only [go_sem, slv, slrG, List.map_nil, if_true, List.length_map, List.length_nil, b0, Nat.zero_le]
    refine loop_ind k_law02_CurveNarrows_r15.eq_1 (fun i : Nat => i ≤ 4) (fun i => 4 - i) (fun i => (tsets 87 [(6, .bool false), (10, .sl 3 0 4), (11, .sl 5 0 4), (12, .int .i64 i)], qA0 l L w3 reads)) 0 (Nat.zero_le _) (by simp [go_sem]) rfl ?_
    intro i hi ih
    dsimp only at hi ih ⊢
    match i, hi, ih with
    | 0, _, ih =>
      simp only [qA0, lwsR, Rds, Lr_eq, Lw.v, Lw.cs]
      simp only [go_sem, List.length_map, b0, b1, b2]
      refine cF kN0 6 ⟨.inl rfl, .inl (frz_rds rfl), trivial⟩ ?_
      simp only [go_sem, List.length_map, b0, b1, b2]
      refine dF kR0 6 [] ⟨.inl rfl, .inl (frz_vw _), trivial⟩ ?_
      simp only [go_sem, List.length_map, u1]
      refine loop_drop (A := qA0 l L w3 reads) (Y := [_, _, _]) (by simp) (qA0_ok _ _ _ _) ?_ ?_ (ih 1 (by omega) (by omega) _ (wk_refl _))
      · simp [go_sem, ren]
      · simp [go_sem, qA0]
    | 1, _, ih =>
      simp only [qA0, lwsR, Rds, Lr_eq, Lw.v, Lw.cs]
      simp only [go_sem, List.length_map, b0, b1, b2]
      refine ⟨by decide, ?_⟩
      refine cF kN1 6 ⟨.inl rfl, .inl rfl, trivial⟩ ?_
      simp only [go_sem, List.length_map, b0, b1, b2]
      refine dF kR1 6 [] ⟨.inl rfl, .inr ⟨rfl, rfl⟩, trivial⟩ ?_
      simp only [go_sem, List.length_map, u2]
      refine loop_drop (A := qA0 l L w3 reads) (Y := [_, _, _]) (by simp) (qA0_ok _ _ _ _) ?_ ?_ (ih 2 (by omega) (by omega) _ (wk_refl _))
      · simp [go_sem, ren]
      · simp [go_sem, qA0]
    | 2, _, ih =>
      simp only [qA0, lwsR, Rds, Lr_eq, Lw.v, Lw.cs]
      simp only [go_sem, List.length_map, b0, b1, b2, ht2]
      refine cF kN2 6 ⟨.inl rfl, .inl (frz_rds rfl), trivial⟩ ?_
      simp only [go_sem, List.length_map, b0, b1, b2, ht2]
      refine dF kR2 6 [4] ⟨.inl rfl, .inl (frz_rds rfl), trivial⟩ ?_
      simp only [go_sem, List.length_map, u3]
      refine loop_drop (A := qA0 l L w3 reads) (Y := [_, _, _]) (by simp) (qA0_ok _ _ _ _) ?_ ?_ (ih 3 (by omega) (by omega) _ (wk_refl _))
      · simp [go_sem, ren]
      · simp [go_sem, qA0]
    | 3, _, ih =>
      simp only [qA0, lwsR, Rds, Lr_eq, Lw.v, Lw.cs]
      simp only [go_sem, List.length_map, b0, b1, b2]
      refine cF kN3 6 ⟨.inl rfl, .inl (frz_rds rfl), trivial⟩ ?_
      simp only [go_sem, List.length_map, b0, b1, b2]
      refine dF kR3 6 [] ⟨.inl rfl, .inl (frz_vw _), trivial⟩ ?_
      simp only [go_sem, List.length_map, u4]
      refine loop_drop (A := qA0 l L w3 reads) (Y := [_, _, _]) (by simp) (qA0_ok _ _ _ _) ?_ ?_ (ih 4 (by omega) (by omega) _ (wk_refl _))
      · simp [go_sem, ren]
      · simp [go_sem, qA0]
    | 4, _, _ =>
      simp only [qA0, lwsR, Rds, Lr_eq, Lw.v, Lw.cs]
      simp only [go_sem]
      refine cP awake_ok ?_
      simp only [go_sem]
    | n + 5, hi, _ => omega
  · have hne2 : rs.map Rd.v ≠ [] := by simpa using hne
    have ht : List.take rs.length (rs.map Rd.v) = rs.map Rd.v := List.take_of_length_le (by simp)
    simp only [go_sem, slv, slrG, hne2, if_false, List.length_map, List.length_nil, b1, b2, ht]
    refine loop_ind k_law02_CurveNarrows_r15.eq_1 (fun i : Nat => i ≤ 4) (fun i => 4 - i) (fun i => (tsets 87 [(6, .bool false), (10, .sl 4 0 4), (11, .sl 6 0 4), (12, .int .i64 i)], qA1 l L w3 rs reads)) 0 (Nat.zero_le _) (by simp [go_sem]) rfl ?_
    intro i hi ih
    dsimp only at hi ih ⊢
    match i, hi, ih with
    | 0, _, ih =>
      simp only [qA1, lwsR, Rds, Lr_eq, Lw.v, Lw.cs]
      simp only [go_sem, List.length_map, b0, b1, b2]
      refine cF kN0 6 ⟨.inl rfl, .inl (frz_rds rfl), trivial⟩ ?_
      simp only [go_sem, List.length_map, b0, b1, b2]
      refine dF kR0 6 [] ⟨.inl rfl, .inl (frz_vw _), trivial⟩ ?_
      simp only [go_sem, List.length_map, u1]
      refine loop_drop (A := qA1 l L w3 rs reads) (Y := [_, _, _]) (by simp) (qA1_ok _ _ _ _ _) ?_ ?_ (ih 1 (by omega) (by omega) _ (wk_refl _))
      · simp [go_sem, ren]
      · simp [go_sem, qA1]
    | 1, _, ih =>
      simp only [qA1, lwsR, Rds, Lr_eq, Lw.v, Lw.cs]
      simp only [go_sem, List.length_map, b0, b1, b2, ht]
      refine cF kN1 6 ⟨.inl rfl, .inl (frz_rds rfl), trivial⟩ ?_
      simp only [go_sem, List.length_map, b0, b1, b2, ht]
      refine dF kR1 6 [3] ⟨.inl rfl, .inl (frz_rds rfl), trivial⟩ ?_
      simp only [go_sem, List.length_map, u2]
      refine loop_drop (A := qA1 l L w3 rs reads) (Y := [_, _, _]) (by simp) (qA1_ok _ _ _ _ _) ?_ ?_ (ih 2 (by omega) (by omega) _ (wk_refl _))
      · simp [go_sem, ren]
      · simp [go_sem, qA1]
    | 2, _, ih =>
      simp only [qA1, lwsR, Rds, Lr_eq, Lw.v, Lw.cs]
      simp only [go_sem, List.length_map, b0, b1, b2, ht3, hsz, List.length_append]
      refine cF kN2 6 ⟨.inl rfl, .inl (frz_app rfl), trivial⟩ ?_
      simp only [go_sem, List.length_map, b0, b1, b2, ht3, hsz, List.length_append]
      refine dF kR2 6 [5] ⟨.inl rfl, .inl (frz_app rfl), trivial⟩ ?_
      simp only [go_sem, List.length_map, u3]
      refine loop_drop (A := qA1 l L w3 rs reads) (Y := [_, _, _]) (by simp) (qA1_ok _ _ _ _ _) ?_ ?_ (ih 3 (by omega) (by omega) _ (wk_refl _))
      · simp [go_sem, ren]
      · simp [go_sem, qA1]
    | 3, _, ih =>
      simp only [qA1, lwsR, Rds, Lr_eq, Lw.v, Lw.cs]
      simp only [go_sem, List.length_map, b0, b1, b2]
      refine cF kN3 6 ⟨.inl rfl, .inl (frz_rds rfl), trivial⟩ ?_
      simp only [go_sem, List.length_map, b0, b1, b2]
      refine dF kR3 6 [] ⟨.inl rfl, .inl (frz_vw _), trivial⟩ ?_
      simp only [go_sem, List.length_map, u4]
      refine loop_drop (A := qA1 l L w3 rs reads) (Y := [_, _, _]) (by simp) (qA1_ok _ _ _ _ _) ?_ ?_ (ih 4 (by omega) (by omega) _ (wk_refl _))
      · simp [go_sem, ren]
      · simp [go_sem, qA1]
    | 4, _, _ =>
      simp only [qA1, lwsR, Rds, Lr_eq, Lw.v, Lw.cs]
      simp only [go_sem]
      refine cP awake_ok ?_
      simp only [go_sem]
    | n + 5, hi, _ => omega
end Go.Proofs

namespace Go.Proofs
open Go Go.Sx

theorem gNo : Tryd.prog.globalNamed "thermion/curve.nothing" = some 0 := by kernel_rfl
theorem tNo : (Tryd.prog.globals[0]?).map (·.type) = some 23 := by kernel_rfl
theorem cNo : Tryd.prog.cellsOf 3 = 1 := by kernel_rfl
theorem uNoE : Tryd.prog.underlying 3 = some (.int .i64) := by kernel_rfl
theorem uNo : ∃ fs f0 f1, Tryd.prog.underlying 23 = some (.struct fs) ∧ fs[0]? = some f0 ∧ fs[1]? = some f1 ∧ (f0.type = 3 ∧ f0.offset = 0) ∧ (f1.type = 3 ∧ f1.offset = 1) :=
  ⟨_, _, _, Tryd.underlying23, rfl, rfl, ⟨rfl, rfl⟩, ⟨rfl, rfl⟩⟩
theorem v0 : gvOf Tryd.prog 0 = some (.agg [.int .i64 1, .int .i64 0]) := by kernel_rfl
theorem nV : Tryd.prog.globals.size = 1 := by kernel_rfl
theorem vMore (g : Nat) : gvOf Tryd.prog (g + 1) = none := by
  have hg : Tryd.prog.globals[g + 1]? = none := Array.getElem?_eq_none (by rw [nV]; omega)
  unfold gvOf
  rw [hg]; rfl

theorem glob_of {laid : List (String × DataW Unit)} {W : World} (h : laidMet Tryd.prog laid W)
    (h0 : ("thermion/curve.nothing", DataW.agg [.lit (.int .i64 1), .lit (.int .i64 0)]) ∈ laid) : GlobOK Tryd.prog (topG W) := by
  intro g e he
  match g, he with
  | 0, he =>
    rw [v0] at he; cases he
    obtain ⟨fs, f0, f1, hu, hf0, hf1, ht0, ht1⟩ := uNo
    obtain ⟨k0, k1⟩ := laid_two h h0 gNo tNo hu hf0 hf1 ht0 ht1 uNoE cNo
    exact glob_ints (xs := [(.i64, 1), (.i64, 0)]) (by simp) fun j hj => match j, hj with
      | 0, _ => k0
      | 1, _ => k1
      | j + 2, hj => absurd hj (by simp)
  | g + 1, he => rw [vMore] at he; cases he
end Go.Proofs

namespace Go.Proofs
open Go Go.Sx Go.Fam

theorem at_struct {P : Program} {n : Nat} {t : TypeId} {fs : Array Field} (hu : P.underlying t = some (.struct fs)) {vs : List AVal} (h : AT P (n + 1) t vs) : ATs (AT P n) fs.toList vs := by
  unfold AT at h; rw [hu] at h; exact h
theorem at_int {P : Program} {n : Nat} {t : TypeId} {k : IntKind} (hu : P.underlying t = some (.int k)) {vs : List AVal} (h : AT P (n + 1) t vs) : ∃ m, vs = [.int k m] ∧ (Lit.int k m).wf = true := by
  unfold AT at h; rw [hu] at h; exact h
theorem at_slice {P : Program} {n : Nat} {t e : TypeId} (hu : P.underlying t = some (.slice e)) {vs : List AVal} (h : AT P (n + 1) t vs) : ∃ es, vs = [.view es] ∧ es.length ≤ maxLen ∧ ∀ x ∈ es, if aggT P e = true then ∃ ws, x = .agg ws ∧ AT P n e ws else AT P n e [x] := by
  unfold AT at h; rw [hu] at h; exact h
theorem list_map {α β : Type} {f : α → β} {Q : α → Prop} : ∀ l : List β, (∀ x ∈ l, ∃ a, x = f a ∧ Q a) → ∃ l' : List α, l = l'.map f ∧ ∀ a ∈ l', Q a
  | [], _ => ⟨[], rfl, fun a ha => by simp at ha⟩
  | x :: l, h => by
    obtain ⟨a, rfl, ha⟩ := h x (by simp)
    obtain ⟨l', rfl, h'⟩ := list_map l fun y hy => h y (by simp [hy])
    exact ⟨a :: l', rfl, fun b hb => by
      rcases List.mem_cons.1 hb with rfl | hb
      · exact ha
      · exact h' b hb⟩

attribute [local irreducible] AT
set_option maxRecDepth 100000
theorem atn_int {n : Nat} {vs : List AVal} (h : AT Tryd.prog (n + 1) 3 vs) : ∃ m, vs = [.int .i64 m] ∧ (Lit.int .i64 m).wf = true := at_int Tryd.underlying3 h
theorem at_ints {n : Nat} {x : AVal} (h : AT Tryd.prog (n + 2) 27 [x]) : ∃ l : List Int, x = .view (l.map (.int .i64)) ∧ l.length ≤ 9223372036854775807 := by
  obtain ⟨es, h1, hl, he⟩ := at_slice Tryd.underlying27 h
  obtain rfl : x = .view es := by simpa using h1
  have hg : ¬ aggT Tryd.prog 3 = true := by unfold aggT; rw [Tryd.underlying3]; decide
  obtain ⟨l, rfl, -⟩ := list_map (f := AVal.int .i64) (Q := fun _ => True) es fun x hx => by
    have := he x hx
    rw [if_neg hg] at this
    obtain ⟨m, hm, -⟩ := atn_int this
    exact ⟨m, by simpa using hm, trivial⟩
  have hm : maxLen = 9223372036854775807 := rfl
  rw [hm] at hl
  exact ⟨l, rfl, by simpa using hl⟩
theorem at_rng {n : Nat} {ws : List AVal} (h : AT Tryd.prog (n + 2) 23 ws) : ∃ r : Rg, ws = [.int .i64 r.lo, .int .i64 r.hi] := by
  obtain ⟨a, _, rfl, ha, b, _, rfl, hb, rfl⟩ := at_struct Tryd.underlying23 h
  obtain ⟨x, rfl, hx⟩ := atn_int ha
  obtain ⟨y, rfl, hy⟩ := atn_int hb
  exact ⟨⟨x, y⟩, rfl⟩
theorem at_law {n : Nat} {ws : List AVal} (h : AT Tryd.prog (n + 3) 25 ws) : ∃ l : Lw, .agg ws = l.v := by
  obtain ⟨a, _, rfl, ha, b, _, rfl, hb, c, _, rfl, hc, d, _, rfl, hd, e, _, rfl, he, rfl⟩ := at_struct Tryd.underlying25 h
  obtain ⟨x1, rfl⟩ := at_rng ha
  obtain ⟨x2, rfl⟩ := at_rng hb
  obtain ⟨x3, rfl⟩ := at_rng hc
  obtain ⟨x4, rfl⟩ := at_rng hd
  obtain ⟨x5, rfl⟩ := at_rng he
  exact ⟨⟨x1, x2, x3, x4, x5⟩, rfl⟩
theorem at_reads {n : Nat} {x : AVal} (h : AT Tryd.prog (n + 4) 26 [x]) : ∃ rs : List Rd, x = Rds rs ∧ rs.length ≤ 9223372036854775807 := by
  obtain ⟨es, h1, hl, he⟩ := at_slice Tryd.underlying26 h
  obtain rfl : x = .view es := by simpa using h1
  have hg : aggT Tryd.prog 44 = true := by unfold aggT; rw [Tryd.underlying44]
  obtain ⟨l, rfl, -⟩ := list_map (f := Rd.v) (Q := fun _ => True) es fun x hx => by
    have := he x hx
    rw [if_pos hg] at this
    obtain ⟨ws, rfl, hw⟩ := this
    obtain ⟨a, _, rfl, ha, b, _, rfl, hb, c, _, rfl, hc, rfl⟩ := at_struct Tryd.underlying44 hw
    obtain ⟨x, rfl, _⟩ := atn_int ha
    obtain ⟨y, rfl, _⟩ := atn_int hb
    obtain ⟨r, rfl⟩ := at_rng hc
    exact ⟨⟨x, y, r.lo, r.hi⟩, rfl, trivial⟩
  have hm : maxLen = 9223372036854775807 := rfl
  rw [hm] at hl
  exact ⟨l, rfl, by simpa using hl⟩
end Go.Proofs

