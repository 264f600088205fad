/- CathodeNarrows: what it calls. -/
import Derived.Test.YtigaafcllfjniaaYcK
namespace Go.Proofs
open Go Go.Sx

@[go_sem] theorem nat_beq_s0 (n : Nat) : (n + 1 == 0) = false := by simp
@[go_sem] theorem nat_beq_0s (n : Nat) : (0 == n + 1) = false := by simp
@[go_sem] theorem nat_beq_ss (a b : Nat) : (a + 1 == b + 1) = (a == b) := by simp
@[go_sem] theorem ct_nv (x : Ct) (t : AVal) : NV (x.v t) = NV t := by unfold Ct.v Ct.cs; simp only [go_sem]
@[go_sem] theorem bdr_nv (bs : List Bd) : (BdR bs).nv = True := eq_true (row_nv_cells _ _ (nvs_map _ _ fun x => by simp only [go_sem]))
theorem bd_set (bs : List Bd) (i : Nat) (y : Bd) : (List.map Bd.v bs).set i (.agg [.int .i64 y.frm, .int .i64 y.conv.lo, .int .i64 y.conv.hi, .int .i64 y.red.lo, .int .i64 y.red.hi, .int .i64 y.evap.lo, .int .i64 y.evap.hi, .int .i64 y.sint.lo, .int .i64 y.sint.hi]) = List.map Bd.v (bs.set i y) := by
  rw [List.map_set]; rfl
theorem ct_frz2 {c : Ct} {H : Heap} {j n : Nat} (h : H[j]? = some (some (BdR c.bands))) (hn : n = c.bands.length) : frz 6 H (c.v (.sl j 0 n)) = c.v (.view (c.bands.map Bd.v)) := by
  subst hn; exact ct_frz h
theorem range_run (w lo hi : Int) (h1 : -1152921504606846976 ≤ lo) (h2 : lo ≤ hi) (h3 : hi ≤ 1152921504606846976) : Ans Try.prog n_kit_Dice_Range [.ptr 0 0 0 1, .int .i64 lo, .int .i64 hi] [some (Dr w)] (rngR w lo hi).v [some (Dr (dstep (dstep w)))] := by
  refine spec_run e_kit_Dice_Range fun G => ?_
  simp only [go_sem]
  refine cD (between_ok w lo hi h1 h2 h3) ?_
  simp only [go_sem]
  refine cD (between_ok (dstep w) lo hi h1 h2 h3) ?_
  simp only [go_sem]
  exact ⟨rfl, _, rfl⟩

theorem bds_sized (l : List Bd) : sizedAll 9 (l.map Bd.v) = true := by
  unfold sizedAll
  rw [List.all_eq_true]
  intro e he
  obtain ⟨h, _, rfl⟩ := List.mem_map.1 he; rfl

theorem Copy_run (c : Ct) (hc : CtOK c) : Ans Try.prog n_ref03_Copy [c.v (.view (c.bands.map Bd.v))] [] (c.v (.sl 0 0 c.bands.length)) [some (BdR c.bands)] := by
  have hl := hc.len
  have d1 : c.bands.length * 72 ≤ 2 ^ 44 := by omega
  have d2 := bds_sized c.bands
  refine Ans.keep (run_fn e_ref03_Copy fun G => ?_) (Nat.zero_le _) (by simp [go_sem, Ct.v, Ct.cs]) ⟨by simp only [go_sem], trivial⟩
  simp only [go_sem, Ct.v, Ct.cs, d1, d2]
  exact kept_one 2 rfl (by simp only [go_sem]) rfl

theorem within3_run (a b : Rg) (h : RgSub a b) : Ans Try.prog n_kit_Within [a.v, b.v] [] (.bool true) [] := by
  refine spec_run e_kit_Within fun G => ?_
  simp only [go_sem, Rg.v, h.lo, h.hi]

theorem Emission_run (c : Ct) (hc : CtOK c) (x : Cg) (hx : CgOK c x) : Ans Try.prog n_cathode_Emission [c.v (.view (c.bands.map Bd.v)), x.v] [] (.tup [(parts x.ba c.yld).v, .int .i64 0]) [] := by
  refine spec_run e_cathode_Emission fun G => ?_
  simp only [go_sem, Ct.v, Ct.cs, Cg.v, Cg.cs]
  refine cP (CheckCoating_run c hc x hx) ?_
  simp only [go_sem]
  refine cP (parts_ok _ _ (hx.ba.b hc.amount.2) (hc.yld.b (by decide))) ?_
  simp only [go_sem, Rg.v]

theorem Follow_nil (c : Ct) (hc : CtOK c) : Ans Try.prog n_cathode_Follow [c.v (.view (c.bands.map Bd.v)), .view []] [] (.tup [.nilsl, .int .i64 0]) [] := by
  have hl : LsOK [] := ⟨by simp, fun h hh => by simp at hh, by simp [lenOfL]⟩
  have hcs : Ans Try.prog n_cathode_CheckSchedule [.view []] [] (.int .i64 0) [] := CheckSchedule_run [] hl
  refine spec_run e_cathode_Follow fun G => ?_
  simp only [go_sem, Ct.v, Ct.cs]
  refine cP (Check_run c hc) ?_
  simp only [go_sem]
  refine cP hcs ?_
  simp only [go_sem]
  refine cP (fresh_run c) ?_
  simp only [go_sem, Cg.v, Cg.cs]
  refine loop_body 200 k_cathode_Follow_r19.eq_1 ?_
  simp only [go_sem]
end Go.Proofs
