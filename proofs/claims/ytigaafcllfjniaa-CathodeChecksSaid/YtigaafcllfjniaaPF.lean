/- A part of the proof. -/
import Derived.Test.YtigaafcllfjniaaPE
set_option linter.unusedSimpArgs false
set_option linter.unusedVariables false
namespace Go.Proofs
open Go Go.Sx
attribute [local irreducible] Run

set_option maxHeartbeats 1000000 in
theorem SameCoatings_run (l : List Cg) (hl : l.length ≤ 1000) : Ans Try.prog n_kit_SameCoatings [.view (l.map Cg.v), .view (l.map Cg.v)] [] (.bool true) [] := by
  have g0 : ((l.length : Int) != l.length) = false := by simp
  refine spec_run e_kit_SameCoatings fun G => ?_
  simp only [go_sem, List.length_map, g0]
  refine loop_ind k_kit_SameCoatings_r8.eq_1 (fun a : Nat => a ≤ l.length) (fun a => l.length - a)
    (fun a => (tsets 26 [(0, .view (l.map Cg.v)), (1, .view (l.map Cg.v)), (5, .int .i64 a)], [])) 0 (Nat.zero_le _) (by simp [go_sem]) rfl ?_
  intro i hi ih
  dsimp only at ih ⊢
  by_cases h1 : i < l.length
  · have h2 : (i : Int) < l.length := by omega
    have n0 : ¬ (i : Int) < 0 := by omega
    have hx : l[i]? = some l[i] := List.getElem?_eq_getElem h1
    have h3 := idx_next h1 (by omega)
    generalize l[i] = z at *
    simp only [go_sem, List.length_map, h2, n0, hx, h3, Cg.v, Cg.cs]
    exact ih (i + 1) (by omega) h1 _ (by simp [go_sem])
  · have h2 : ¬ (i : Int) < l.length := by omega
    simp only [go_sem, List.length_map, h2]

set_option maxHeartbeats 1000000 in
theorem rSame_run (c : Ct) (hl : c.bands.length ≤ 1000) : Ans Try.prog n_ref03_Same [c.v (.view (c.bands.map Bd.v)), c.v (.view (c.bands.map Bd.v))] [] (.bool true) [] := by
  have g0 : ((c.bands.length : Int) != c.bands.length) = false := by simp
  have b0 : ∀ x : Int, (x != x) = false := fun x => by simp
  refine spec_run e_ref03_Same fun G => ?_
  simp only [go_sem, List.length_map, g0, b0, Ct.v, Ct.cs]
  refine loop_ind k_ref03_Same_r8.eq_1 (fun a : Nat => a ≤ c.bands.length) (fun a => c.bands.length - a)
    (fun a => (tsets 59 [(2, .ptr 0 0 0 1), (3, .ptr 1 0 0 1), (5, .int .i64 a)], [some (.cells false 7 [c.v (.view (c.bands.map Bd.v))]), some (.cells false 7 [c.v (.view (c.bands.map Bd.v))])])) 0 (Nat.zero_le _) (by simp [go_sem]) rfl ?_
  intro i hi ih
  dsimp only at ih ⊢
  by_cases h1 : i < c.bands.length
  · have h2 : (i : Int) < c.bands.length := by omega
    have n0 : ¬ (i : Int) < 0 := by omega
    have hx : c.bands[i]? = some c.bands[i] := List.getElem?_eq_getElem h1
    have h3 := idx_next h1 (by omega)
    generalize c.bands[i] = z at *
    simp only [go_sem, List.length_map, h2, n0, hx, h3, Bd.v, Bd.cs, Ct.v, Ct.cs]
    exact ih (i + 1) (by omega) h1 _ (by simp [go_sem])
  · have h2 : ¬ (i : Int) < c.bands.length := by omega
    simp only [go_sem, List.length_map, h2, Ct.v, Ct.cs]
end Go.Proofs
namespace Go.Proofs
open Go Go.Sx

-- 5: thermion/thermionlaw03.CathodeFollows
def k_law03_CathodeFollows_r0 : List AOper := [
  ⟨(some (3)), .box (.tmp 0), none, []⟩, 
  ⟨(some (6)), .move (.const (.bool false)), none, []⟩]
def k_law03_CathodeFollows_r1 : List AOper := [
  ⟨(some (19)), .fieldAddr 6 (.tmp 3), none, []⟩, 
  ⟨(some (20)), .load none (.tmp 19), none, []⟩, 
  ⟨(some (21)), .len false (.tmp 20), none, []⟩, 
  ⟨(some (22)), .bin .plain .gtr (.tmp 21) (.const (.int .i64 30)), none, []⟩, 
  ⟨(some (23)), .move (.tmp 22), none, []⟩, 
  ⟨(some (24)), .move (.tmp 1), (some (23, false)), []⟩, 
  ⟨(some (25)), .len false (.tmp 24), (some (23, false)), []⟩, 
  ⟨(some (26)), .bin .plain .gtr (.tmp 25) (.const (.int .i64 60)), (some (23, false)), []⟩, 
  ⟨(some (27)), .pick (.tmp 23) (.const (.bool true)) (.tmp 26), none, []⟩]
def k_law03_CathodeFollows_r2 : List AOper := [
  ⟨(some (28)), .call (.const (.fn (.func 18) [] [])) [], none, []⟩, 
  ⟨(some (6)), .move (.tmp 28), none, []⟩]
def k_law03_CathodeFollows_r3 : List AOper := [
  ⟨(some (29)), .move (.tmp 2), none, []⟩, 
  ⟨(some (30)), .call (.const (.fn (.func 19) [] [])) [.tmp 29], none, []⟩, 
  ⟨(some (7)), .move (.tmp 30), none, []⟩]
def k_law03_CathodeFollows_r4 : List AOper := [
  ⟨(some (31)), .move (.tmp 7), none, []⟩, 
  ⟨(some (32)), .call (.const (.fn (.func 20) [] [])) [.tmp 31], none, []⟩, 
  ⟨(some (33)), .move (.tmp 7), none, []⟩, 
  ⟨(some (34)), .call (.const (.fn (.func 21) [] [])) [.tmp 33, .const (.int .i64 12), .const (.int .i64 60)], none, []⟩, 
  ⟨(some (8)), .box (.const (.agg [.int .i64 0, .int .i64 0, .int .i64 0, .int .i64 0, .int .i64 0, .int .i64 0, .nilsl])), none, []⟩, 
  ⟨none, .store 7 (.tmp 8) (.tmp 32), none, []⟩, 
  ⟨(some (9)), .move (.tmp 34), none, []⟩]
def k_law03_CathodeFollows_r5 : List AOper := [
  ⟨(some (36)), .load (some (7)) (.tmp 3), none, []⟩, 
  ⟨(some (37)), .move (.tmp 1), none, []⟩, 
  ⟨(some (38)), .call (.const (.fn (.func 39) [] [])) [.tmp 36, .tmp 37], none, []⟩, 
  ⟨(some (35)), .move (.tmp 38), none, []⟩, 
  ⟨(some (39)), .extract (.tmp 35) 0, none, []⟩, 
  ⟨(some (40)), .extract (.tmp 35) 1, none, []⟩, 
  ⟨(some (10)), .move (.tmp 39), none, []⟩, 
  ⟨(some (11)), .move (.tmp 40), none, []⟩]
def k_law03_CathodeFollows_r6 : List AOper := [
  ⟨(some (42)), .load (some (7)) (.tmp 3), none, []⟩, 
  ⟨(some (43)), .move (.tmp 1), none, []⟩, 
  ⟨(some (44)), .call (.const (.fn (.func 34) [] [])) [.tmp 42, .tmp 43], none, []⟩, 
  ⟨(some (41)), .move (.tmp 44), none, []⟩, 
  ⟨(some (45)), .extract (.tmp 41) 0, none, []⟩, 
  ⟨(some (46)), .extract (.tmp 41) 1, none, []⟩, 
  ⟨(some (12)), .move (.tmp 45), none, []⟩, 
  ⟨(some (13)), .move (.tmp 46), none, []⟩]
def k_law03_CathodeFollows_r7 : List AOper := [
  ⟨(some (47)), .load (some (7)) (.tmp 8), none, []⟩, 
  ⟨(some (48)), .call (.const (.fn (.func 24) [] [])) [.tmp 47], none, []⟩, 
  ⟨(some (14)), .box (.const (.agg [.int .i64 0, .int .i64 0, .int .i64 0, .int .i64 0, .int .i64 0, .int .i64 0, .nilsl])), none, []⟩, 
  ⟨none, .store 7 (.tmp 14) (.tmp 48), none, []⟩]
def k_law03_CathodeFollows_r8 : List AOper := [
  ⟨(some (50)), .load (some (7)) (.tmp 14), none, []⟩, 
  ⟨(some (51)), .move (.tmp 9), none, []⟩, 
  ⟨(some (52)), .call (.const (.fn (.func 39) [] [])) [.tmp 50, .tmp 51], none, []⟩, 
  ⟨(some (49)), .move (.tmp 52), none, []⟩, 
  ⟨(some (53)), .extract (.tmp 49) 0, none, []⟩, 
  ⟨(some (54)), .extract (.tmp 49) 1, none, []⟩, 
  ⟨(some (15)), .move (.tmp 53), none, []⟩, 
  ⟨(some (16)), .move (.tmp 54), none, []⟩]
def k_law03_CathodeFollows_r9 : List AOper := [
  ⟨(some (56)), .load (some (7)) (.tmp 8), none, []⟩, 
  ⟨(some (57)), .move (.tmp 9), none, []⟩, 
  ⟨(some (58)), .call (.const (.fn (.func 34) [] [])) [.tmp 56, .tmp 57], none, []⟩, 
  ⟨(some (55)), .move (.tmp 58), none, []⟩, 
  ⟨(some (59)), .extract (.tmp 55) 0, none, []⟩, 
  ⟨(some (60)), .extract (.tmp 55) 1, none, []⟩, 
  ⟨(some (17)), .move (.tmp 59), none, []⟩, 
  ⟨(some (18)), .move (.tmp 60), none, []⟩]
def k_law03_CathodeFollows_r10 : List AOper := [
  ⟨(some (61)), .move (.tmp 10), none, []⟩, 
  ⟨(some (62)), .move (.tmp 12), none, []⟩, 
  ⟨(some (63)), .call (.const (.fn (.func 40) [] [])) [.tmp 61, .tmp 62], none, []⟩, 
  ⟨(some (64)), .move (.tmp 63), none, []⟩, 
  ⟨(some (65)), .move (.tmp 11), (some (64, true)), []⟩, 
  ⟨(some (66)), .move (.tmp 13), (some (64, true)), []⟩, 
  ⟨(some (67)), .bin .plain .eql (.tmp 65) (.tmp 66), (some (64, true)), []⟩, 
  ⟨(some (68)), .pick (.tmp 64) (.tmp 67) (.const (.bool false)), none, []⟩, 
  ⟨(some (69)), .move (.tmp 68), none, []⟩, 
  ⟨(some (70)), .move (.tmp 15), (some (69, true)), []⟩, 
  ⟨(some (71)), .move (.tmp 17), (some (69, true)), []⟩, 
  ⟨(some (72)), .call (.const (.fn (.func 40) [] [])) [.tmp 70, .tmp 71], (some (69, true)), []⟩, 
  ⟨(some (73)), .pick (.tmp 69) (.tmp 72) (.const (.bool false)), none, []⟩, 
  ⟨(some (74)), .move (.tmp 73), none, []⟩, 
  ⟨(some (75)), .move (.tmp 16), (some (74, true)), []⟩, 
  ⟨(some (76)), .move (.tmp 18), (some (74, true)), []⟩, 
  ⟨(some (77)), .bin .plain .eql (.tmp 75) (.tmp 76), (some (74, true)), []⟩, 
  ⟨(some (78)), .pick (.tmp 74) (.tmp 77) (.const (.bool false)), none, []⟩, 
  ⟨(some (79)), .move (.tmp 78), none, []⟩, 
  ⟨(some (80)), .load (some (7)) (.tmp 14), (some (79, true)), []⟩, 
  ⟨(some (81)), .load (some (7)) (.tmp 8), (some (79, true)), []⟩, 
  ⟨(some (82)), .call (.const (.fn (.func 32) [] [])) [.tmp 80, .tmp 81], (some (79, true)), []⟩, 
  ⟨(some (83)), .pick (.tmp 79) (.tmp 82) (.const (.bool false)), none, []⟩, 
  ⟨(some (84)), .move (.tmp 83), none, []⟩, 
  ⟨(some (85)), .call (.const (.fn (.func 18) [] [])) [], (some (84, true)), []⟩, 
  ⟨(some (86)), .pick (.tmp 84) (.tmp 85) (.const (.bool false)), none, []⟩, 
  ⟨(some (6)), .move (.tmp 86), none, []⟩]
def k_law03_CathodeFollows : AFun := { params := 3, ntmps := 87, body := (.seq (.reg k_law03_CathodeFollows_r0 false) (.seq (.seq (.reg k_law03_CathodeFollows_r1 false) (.cond (.tmp 27) (.seq (.reg k_law03_CathodeFollows_r2 false) .ret) .skip)) (.seq (.reg k_law03_CathodeFollows_r3 false) (.seq (.reg k_law03_CathodeFollows_r4 false) (.seq (.reg k_law03_CathodeFollows_r5 false) (.seq (.reg k_law03_CathodeFollows_r6 false) (.seq (.reg k_law03_CathodeFollows_r7 false) (.seq (.reg k_law03_CathodeFollows_r8 false) (.seq (.reg k_law03_CathodeFollows_r9 false) (.seq (.reg k_law03_CathodeFollows_r10 false) .ret)))))))))), res := [.tmp 6] }
theorem k_law03_CathodeFollows_ok : cfun Try.prog Try.f5 = k_law03_CathodeFollows := by kernel_rfl


abbrev n_law03_CathodeFollows : Nat := 5
theorem e_law03_CathodeFollows : EntryOK Try.prog n_law03_CathodeFollows k_law03_CathodeFollows := ⟨Try.f5, Try.func5, k_law03_CathodeFollows_ok, by kernel_rfl⟩

attribute [go_sem] k_law03_CathodeFollows_r0 k_law03_CathodeFollows_r1 k_law03_CathodeFollows_r2 k_law03_CathodeFollows_r3 k_law03_CathodeFollows_r4 k_law03_CathodeFollows_r5 k_law03_CathodeFollows_r6 k_law03_CathodeFollows_r7 k_law03_CathodeFollows_r8 k_law03_CathodeFollows_r9 k_law03_CathodeFollows_r10 k_law03_CathodeFollows
end Go.Proofs
namespace Go.Proofs
open Go Go.Sx
attribute [local irreducible] Run

/-- What follows a schedule, for the program and the reference. -/
theorem follow_both (c : Ct) (hc : c.bands.length ≤ 1000) (l : List Ht) (hl : l.length ≤ 1000) :
    (∃ e, Ans Try.prog n_cathode_Follow [c.v (.view (c.bands.map Bd.v)), .view (l.map Ht.v)] [] (.tup [.nilsl, .int .i64 e]) [] ∧ Ans Try.prog n_ref03_Follow [c.v (.view (c.bands.map Bd.v)), .view (l.map Ht.v)] [] (.tup [.nilsl, .int .i64 e]) []) ∨
    (∃ F : List Cg, F.length ≤ 1000 ∧ Ans Try.prog n_cathode_Follow [c.v (.view (c.bands.map Bd.v)), .view (l.map Ht.v)] [] (.tup [.sl 0 0 F.length, .int .i64 0]) [some (CgR F)] ∧ Ans Try.prog n_ref03_Follow [c.v (.view (c.bands.map Bd.v)), .view (l.map Ht.v)] [] (.tup [.sl 0 0 F.length, .int .i64 0]) [some (CgR F)]) := by
  by_cases he : chkF c l = 0
  · have h1 : CtOK c ∧ LsOK l := by
      unfold chkF at he
      by_cases h : chkC c = 0
      · rw [if_pos h] at he; exact ⟨chkC_ok h, chkS_ok he⟩
      · rw [if_neg h] at he; exact absurd he h
    by_cases h0 : l = []
    · subst h0
      exact .inl ⟨0, Follow_nil c h1.1, rFollow_nil c h1.1⟩
    · have hfl : (follow c l).length = l.length := followX_len c _ _
      have a := Follow_run c h1.1 l h1.2 h0
      have b := rFollow_run c h1.1 l h1.2 h0
      rw [← hfl] at a b
      exact .inr ⟨follow c l, by omega, a, b⟩
  · exact .inl ⟨_, Follow_err c hc l hl he, rFollow_err c hc l hl he⟩
theorem cg_frz {F : List Cg} {H : Heap} {j n : Nat} (h : H[j]? = some (some (CgR F))) (hn : n = F.length) : frz 6 H (.sl j 0 n) = .view (F.map Cg.v) := by
  rw [frz_sl (d := 5) h (by simpa using hn), List.map_map]; rfl

set_option maxRecDepth 20000 in
set_option maxHeartbeats 8000000 in
theorem follows_ok (c : Ct) (l : List Ht) (xs : List Int) (hxs : xs.length ≤ 9223372036854775807) : Ans Try.prog n_law03_CathodeFollows [c.v (.view (c.bands.map Bd.v)), .view (l.map Ht.v), .view (xs.map (.int .i64))] [] (.bool true) [] := by
  have hd := newdice_ok xs hxs
  generalize seedW xs = w at *
  refine spec_run e_law03_CathodeFollows fun G => ?_
  by_cases k1 : (30 : Int) < c.bands.length
  · simp only [go_sem, Ct.v, Ct.cs, List.length_map, k1]
    refine cP awake_ok ?_
    simp only [go_sem]
  by_cases k2 : (60 : Int) < l.length
  · simp only [go_sem, Ct.v, Ct.cs, List.length_map, k1, k2]
    refine cP awake_ok ?_
    simp only [go_sem]
  have hraw := follow_both c (by omega) l (by omega)
  have v0 : ∀ (H : Heap), frz 6 H (c.v (.view (c.bands.map Bd.v))) = c.v (.view (c.bands.map Bd.v)) := fun H => by simp only [go_sem, frz, bds_frz, Ct.v, Ct.cs]
  have l0 : ∀ (H : Heap), frz 6 H (.view (l.map Ht.v)) = .view (l.map Ht.v) := fun H => by
    show AVal.view ((l.map Ht.v).map (frz 5 H)) = _
    rw [hts_frz]
  simp only [go_sem, Ct.v, Ct.cs, List.length_map, k1, k2]
  refine callN1 hd ⟨by rw [bel_view]; exact bels_map _ _ fun _ => .int _ _, trivial⟩ (dr_bel _ _) (by simp) (by simp) ?_
  simp only [go_sem]
  refine callDN (coatOf_run w) rfl trivial (dr_bel _ _) (fun a ha => ⟨by simp only [go_sem], by simp only [go_sem], by simp only [go_sem]⟩) (by simp) (by simp) ?_
  rintro ⟨m, w1⟩ hm
  dsimp only at hm
  simp only [go_sem, Ct.v, Ct.cs, ren, rens]
  refine callDS (scheduleOf_run w1 12 60 (by decide) (by decide)) rfl ⟨.int _ _, .int _ _, trivial⟩ (dr_bel _ _) (fun a ha => ⟨by simp only [go_sem], by simp only [go_sem]⟩) (by simp) (by simp) ?_
  rintro ⟨p, w2⟩ hp
  dsimp only at hp
  have hps := hp.ok (by decide) (by decide) (by decide)
  have hml := hm.len
  have hcp := Copy_run m hm
  have hsm := rSame_run m (by omega)
  have hs0 := SameCoatings_run [] (by simp)
  by_cases hnil : p = []
  · have e1 : slv 3 (List.map Ht.v p) = .nilsl := by rw [hnil]; rfl
    have e2 : slrG true 3 (List.map Ht.v p) = [] := by rw [hnil]; rfl
    rcases hraw with ⟨e, ha, hb⟩ | ⟨F, hF, ha, hb⟩
    · have z0 : (e == e) = true := by simp
      simp only [go_sem, e1, e2, Ct.v, Ct.cs]
      refine cF ha 6 ⟨.inl (v0 _), .inl (l0 _), trivial⟩ ?_
      simp only [go_sem, Ct.v, Ct.cs]
      refine cF hb 6 ⟨.inl (v0 _), .inl (l0 _), trivial⟩ ?_
      simp only [go_sem, Ct.v, Ct.cs]
      refine cFN hcp 6 ⟨.inl (ct_frz (H := _) rfl), trivial⟩ ?_
      simp only [go_sem, Ct.v, Ct.cs, ren, rens]
      refine cF (Follow_nil m hm) 6 ⟨.inl (ct_frz (H := _) rfl), .inr ⟨rfl, rfl⟩, trivial⟩ ?_
      simp only [go_sem, Ct.v, Ct.cs]
      refine cF (rFollow_nil m hm) 6 ⟨.inl (ct_frz (H := _) rfl), .inr ⟨rfl, rfl⟩, trivial⟩ ?_
      simp only [go_sem, Ct.v, Ct.cs]
      refine cF hs0 6 ⟨.inr ⟨rfl, rfl⟩, .inr ⟨rfl, rfl⟩, trivial⟩ ?_
      simp only [go_sem, z0]
      refine cF hs0 6 ⟨.inr ⟨rfl, rfl⟩, .inr ⟨rfl, rfl⟩, trivial⟩ ?_
      simp only [go_sem, Int.reduceBEq, Ct.v, Ct.cs]
      refine cF hsm 6 ⟨.inl (ct_frz (H := _) rfl), .inl (ct_frz (H := _) rfl), trivial⟩ ?_
      simp only [go_sem]
      refine cP awake_ok ?_
      simp only [go_sem]
    · simp only [go_sem, e1, e2, Ct.v, Ct.cs]
      refine cFN ha 6 ⟨.inl (v0 _), .inl (l0 _), trivial⟩ ?_
      simp only [go_sem, Ct.v, Ct.cs, ren, rens]
      refine cFN hb 6 ⟨.inl (v0 _), .inl (l0 _), trivial⟩ ?_
      simp only [go_sem, Ct.v, Ct.cs, ren, rens]
      refine cFN hcp 6 ⟨.inl (ct_frz (H := _) rfl), trivial⟩ ?_
      simp only [go_sem, Ct.v, Ct.cs, ren, rens]
      refine cF (Follow_nil m hm) 6 ⟨.inl (ct_frz (H := _) rfl), .inr ⟨rfl, rfl⟩, trivial⟩ ?_
      simp only [go_sem, Ct.v, Ct.cs]
      refine cF (rFollow_nil m hm) 6 ⟨.inl (ct_frz (H := _) rfl), .inr ⟨rfl, rfl⟩, trivial⟩ ?_
      simp only [go_sem, Ct.v, Ct.cs]
      refine cF (SameCoatings_run F hF) 6 ⟨.inl (cg_frz (H := _) rfl rfl), .inl (cg_frz (H := _) rfl rfl), trivial⟩ ?_
      simp only [go_sem, Int.reduceBEq]
      refine cF hs0 6 ⟨.inr ⟨rfl, rfl⟩, .inr ⟨rfl, rfl⟩, trivial⟩ ?_
      simp only [go_sem, Int.reduceBEq, Ct.v, Ct.cs]
      refine cF hsm 6 ⟨.inl (ct_frz (H := _) rfl), .inl (ct_frz (H := _) rfl), trivial⟩ ?_
      simp only [go_sem]
      refine cP awake_ok ?_
      simp only [go_sem]
  have hne : List.map Ht.v p ≠ [] := by simpa using hnil
  have e1 : slv 3 (List.map Ht.v p) = .sl 3 0 p.length := by unfold slv; rw [if_neg hne, List.length_map]
  have e2 : slrG true 3 (List.map Ht.v p) = [some (.cells true 3 (List.map Ht.v p))] := by unfold slrG; rw [if_neg hne]
  have hfa := Follow_run m hm p hps hnil
  have hfb := rFollow_run m hm p hps hnil
  have hfl : (follow m p).length = p.length := followX_len m _ _
  have hpl := hps.len
  rw [← hfl] at hfa hfb
  rcases hraw with ⟨e, ha, hb⟩ | ⟨F, hF, ha, hb⟩
  · have z0 : (e == e) = true := by simp
    simp only [go_sem, e1, e2, Ct.v, Ct.cs]
    refine cF ha 6 ⟨.inl (v0 _), .inl (l0 _), trivial⟩ ?_
    simp only [go_sem, Ct.v, Ct.cs]
    refine cF hb 6 ⟨.inl (v0 _), .inl (l0 _), trivial⟩ ?_
    simp only [go_sem, Ct.v, Ct.cs]
    refine cFN hcp 6 ⟨.inl (ct_frz (H := _) rfl), trivial⟩ ?_
    simp only [go_sem, Ct.v, Ct.cs, ren, rens]
    refine cFN hfa 6 ⟨.inl (ct_frz (H := _) rfl), .inl (sch_frz (H := _) rfl rfl), trivial⟩ ?_
    simp only [go_sem, Ct.v, Ct.cs, ren, rens]
    refine cFN hfb 6 ⟨.inl (ct_frz (H := _) rfl), .inl (sch_frz (H := _) rfl rfl), trivial⟩ ?_
    simp only [go_sem, Ct.v, Ct.cs, ren, rens]
    refine cF hs0 6 ⟨.inr ⟨rfl, rfl⟩, .inr ⟨rfl, rfl⟩, trivial⟩ ?_
    simp only [go_sem, z0]
    refine cF (SameCoatings_run (follow m p) (by omega)) 6 ⟨.inl (cg_frz (H := _) rfl rfl), .inl (cg_frz (H := _) rfl rfl), trivial⟩ ?_
    simp only [go_sem, Int.reduceBEq, Ct.v, Ct.cs]
    refine cF hsm 6 ⟨.inl (ct_frz (H := _) rfl), .inl (ct_frz (H := _) rfl), trivial⟩ ?_
    simp only [go_sem]
    refine cP awake_ok ?_
    simp only [go_sem]
  · simp only [go_sem, e1, e2, Ct.v, Ct.cs]
    refine cFN ha 6 ⟨.inl (v0 _), .inl (l0 _), trivial⟩ ?_
    simp only [go_sem, Ct.v, Ct.cs, ren, rens]
    refine cFN hb 6 ⟨.inl (v0 _), .inl (l0 _), trivial⟩ ?_
    simp only [go_sem, Ct.v, Ct.cs, ren, rens]
    refine cFN hcp 6 ⟨.inl (ct_frz (H := _) rfl), trivial⟩ ?_
    simp only [go_sem, Ct.v, Ct.cs, ren, rens]
    refine cFN hfa 6 ⟨.inl (ct_frz (H := _) rfl), .inl (sch_frz (H := _) rfl rfl), trivial⟩ ?_
    simp only [go_sem, Ct.v, Ct.cs, ren, rens]
    refine cFN hfb 6 ⟨.inl (ct_frz (H := _) rfl), .inl (sch_frz (H := _) rfl rfl), trivial⟩ ?_
    simp only [go_sem, Ct.v, Ct.cs, ren, rens]
    refine cF (SameCoatings_run F hF) 6 ⟨.inl (cg_frz (H := _) rfl rfl), .inl (cg_frz (H := _) rfl rfl), trivial⟩ ?_
    simp only [go_sem, Int.reduceBEq]
    refine cF (SameCoatings_run (follow m p) (by omega)) 6 ⟨.inl (cg_frz (H := _) rfl rfl), .inl (cg_frz (H := _) rfl rfl), trivial⟩ ?_
    simp only [go_sem, Int.reduceBEq, Ct.v, Ct.cs]
    refine cF hsm 6 ⟨.inl (ct_frz (H := _) rfl), .inl (ct_frz (H := _) rfl), trivial⟩ ?_
    simp only [go_sem]
    refine cP awake_ok ?_
    simp only [go_sem]
end Go.Proofs
namespace Go.Proofs
open Go Go.Sx
attribute [local irreducible] AT
set_option maxRecDepth 100000

theorem at_heating {n : Nat} {vs : List AVal} (h : AT Try.prog (n + 2) 32 vs) : ∃ z : Ht, vs = z.cs ∧ I64 z.ticks ∧ I64 z.heat ∧ I64 z.cur := by
  obtain ⟨a, _, rfl, ha, b, _, rfl, hb, c, _, rfl, hc, rfl⟩ := at_struct Try.underlying32 h
  obtain ⟨x, rfl, hx⟩ := atn_int ha
  obtain ⟨y, rfl, hy⟩ := atn_int hb
  obtain ⟨z, rfl, hz⟩ := atn_int hc
  exact ⟨⟨x, y, z⟩, rfl, hx, hy, hz⟩
theorem at_schedule {n : Nat} {x : AVal} (h : AT Try.prog (n + 3) 29 [x]) : ∃ l : List Ht, x = .view (l.map Ht.v) ∧ l.length ≤ maxLen := by
  obtain ⟨es, h1, hl, he⟩ := at_slice Try.underlying29 h
  obtain rfl : x = .view es := by simpa using h1
  have hg : aggT Try.prog 32 = true := by unfold aggT; rw [Try.underlying32]
  obtain ⟨l, rfl, -⟩ := list_map (f := Ht.v) (Q := fun _ => True) es fun x hx => by
    have := he x hx
    rw [if_pos hg] at this
    obtain ⟨ws, rfl, hw⟩ := this
    obtain ⟨z, rfl, _⟩ := at_heating hw
    exact ⟨z, rfl, trivial⟩
  exact ⟨l, rfl, by simpa using hl⟩
end Go.Proofs
namespace Go.Proofs
open Go Go.Sx

-- 3: thermion/thermionlaw03.CathodeChecks
def k_law03_CathodeChecks_r0 : List AOper := [
  ⟨(some (6)), .box (.tmp 0), none, []⟩, 
  ⟨(some (7)), .box (.tmp 1), none, []⟩, 
  ⟨(some (8)), .box (.tmp 2), none, []⟩, 
  ⟨(some (11)), .box (.tmp 5), none, []⟩, 
  ⟨(some (12)), .move (.const (.bool false)), none, []⟩]
def k_law03_CathodeChecks_r1 : List AOper := [
  ⟨(some (22)), .fieldAddr 6 (.tmp 6), none, []⟩, 
  ⟨(some (23)), .load none (.tmp 22), none, []⟩, 
  ⟨(some (24)), .len false (.tmp 23), none, []⟩, 
  ⟨(some (25)), .bin .plain .gtr (.tmp 24) (.const (.int .i64 30)), none, []⟩, 
  ⟨(some (26)), .move (.tmp 25), none, []⟩, 
  ⟨(some (27)), .fieldAddr 6 (.tmp 7), (some (26, false)), []⟩, 
  ⟨(some (28)), .load none (.tmp 27), (some (26, false)), []⟩, 
  ⟨(some (29)), .len false (.tmp 28), (some (26, false)), []⟩, 
  ⟨(some (30)), .bin .plain .gtr (.tmp 29) (.const (.int .i64 30)), (some (26, false)), []⟩, 
  ⟨(some (31)), .pick (.tmp 26) (.const (.bool true)) (.tmp 30), none, []⟩, 
  ⟨(some (32)), .move (.tmp 31), none, []⟩, 
  ⟨(some (33)), .move (.tmp 3), (some (32, false)), []⟩, 
  ⟨(some (34)), .len false (.tmp 33), (some (32, false)), []⟩, 
  ⟨(some (35)), .bin .plain .gtr (.tmp 34) (.const (.int .i64 60)), (some (32, false)), []⟩, 
  ⟨(some (36)), .pick (.tmp 32) (.const (.bool true)) (.tmp 35), none, []⟩]
def k_law03_CathodeChecks_r2 : List AOper := [
  ⟨(some (37)), .call (.const (.fn (.func 18) [] [])) [], none, []⟩, 
  ⟨(some (12)), .move (.tmp 37), none, []⟩]
def k_law03_CathodeChecks_r3 : List AOper := [
  ⟨(some (38)), .move (.tmp 4), none, []⟩, 
  ⟨(some (39)), .call (.const (.fn (.func 19) [] [])) [.tmp 38], none, []⟩, 
  ⟨(some (13)), .move (.tmp 39), none, []⟩]
def k_law03_CathodeChecks_r4 : List AOper := [
  ⟨(some (40)), .move (.tmp 13), none, []⟩, 
  ⟨(some (41)), .call (.const (.fn (.func 20) [] [])) [.tmp 40], none, []⟩, 
  ⟨(some (42)), .move (.tmp 13), none, []⟩, 
  ⟨(some (43)), .call (.const (.fn (.func 21) [] [])) [.tmp 42, .const (.int .i64 41), .const (.int .i64 2000)], none, []⟩, 
  ⟨(some (14)), .box (.const (.agg [.int .i64 0, .int .i64 0, .int .i64 0, .int .i64 0, .int .i64 0, .int .i64 0, .nilsl])), none, []⟩, 
  ⟨none, .store 7 (.tmp 14) (.tmp 41), none, []⟩, 
  ⟨(some (15)), .move (.tmp 43), none, []⟩]
def k_law03_CathodeChecks_r5 : List AOper := [
  ⟨(some (44)), .move (.tmp 15), none, []⟩, 
  ⟨(some (45)), .len false (.tmp 44), none, []⟩, 
  ⟨(some (46)), .bin .plain .gtr (.tmp 45) (.const (.int .i64 0)), none, []⟩, 
  ⟨(some (47)), .move (.tmp 46), none, []⟩, 
  ⟨(some (48)), .move (.tmp 13), (some (47, true)), []⟩, 
  ⟨(some (49)), .call (.const (.fn (.func 22) [] [])) [.tmp 48, .const (.int .i64 2)], (some (47, true)), []⟩, 
  ⟨(some (50)), .pick (.tmp 47) (.tmp 49) (.const (.bool false)), none, []⟩]
def k_law03_CathodeChecks_r6 : List AOper := [
  ⟨(some (51)), .move (.tmp 15), none, []⟩, 
  ⟨(some (52)), .move (.tmp 13), none, [0]⟩, 
  ⟨(some (53)), .move (.tmp 15), none, [0, 1]⟩, 
  ⟨(some (54)), .len false (.tmp 53), none, [0, 1]⟩, 
  ⟨(some (55)), .call (.const (.fn (.func 23) [] [])) [.tmp 52, .tmp 54], none, [0]⟩, 
  ⟨(some (56)), .load (some (3)) (.tmp 11), none, [0, 1, 2, 3, 4]⟩, 
  ⟨(some (57)), .indexAddr 3 (.tmp 51) (.tmp 55), none, []⟩, 
  ⟨none, .store 3 (.tmp 57) (.tmp 56), none, []⟩]
def k_law03_CathodeChecks_r6s : List (List AOper) := [
  [
  ⟨(some (51)), .move (.tmp 15), none, []⟩, 
  ⟨(some (52)), .move (.tmp 13), none, [0]⟩, 
  ⟨(some (53)), .move (.tmp 15), none, [0, 1]⟩, 
  ⟨(some (54)), .len false (.tmp 53), none, [0, 1]⟩, 
  ⟨(some (55)), .call (.const (.fn (.func 23) [] [])) [.tmp 52, .tmp 54], none, [0]⟩, 
  ⟨(some (56)), .load (some (3)) (.tmp 11), none, [0, 1, 2, 3, 4]⟩], 
  [
  ⟨(some (57)), .indexAddr 3 (.tmp 51) (.tmp 55), none, []⟩], 
  [
  ⟨none, .store 3 (.tmp 57) (.tmp 56), none, []⟩]]
theorem k_law03_CathodeChecks_r6_sg : segs k_law03_CathodeChecks_r6 = k_law03_CathodeChecks_r6s := by kernel_rfl
theorem k_law03_CathodeChecks_r6_st : statOK k_law03_CathodeChecks_r6 = true := by kernel_rfl
def k_law03_CathodeChecks_r7 : List AOper := [
  ⟨(some (58)), .load (some (7)) (.tmp 6), none, []⟩, 
  ⟨(some (59)), .load (some (7)) (.tmp 14), none, []⟩, 
  ⟨(some (60)), .buildSlice 7 [.tmp 58, .tmp 59], none, []⟩, 
  ⟨(some (61)), .move (.tmp 3), none, []⟩, 
  ⟨(some (62)), .move (.tmp 15), none, []⟩, 
  ⟨(some (63)), .buildSlice 1 [.tmp 61, .tmp 62], none, []⟩, 
  ⟨(some (16)), .move (.tmp 60), none, []⟩, 
  ⟨(some (17)), .move (.tmp 63), none, []⟩]
def k_law03_CathodeChecks_r8 : List AOper := [
  ⟨(some (18)), .move (.const (.int .i64 0)), none, []⟩]
def k_law03_CathodeChecks_r9 : List AOper := [
  ⟨(some (64)), .move (.tmp 18), none, []⟩, 
  ⟨(some (65)), .bin .plain .lss (.tmp 64) (.const (.int .i64 2)), none, []⟩]
def k_law03_CathodeChecks_r10 : List AOper := [
  ⟨(some (68)), .move (.tmp 16), none, []⟩, 
  ⟨(some (69)), .move (.tmp 18), none, []⟩, 
  ⟨(some (70)), .indexAddr 7 (.tmp 68) (.tmp 69), none, []⟩, 
  ⟨(some (71)), .load (some (7)) (.tmp 70), none, []⟩, 
  ⟨(some (72)), .call (.const (.fn (.func 24) [] [])) [.tmp 71], none, []⟩, 
  ⟨(some (19)), .box (.const (.agg [.int .i64 0, .int .i64 0, .int .i64 0, .int .i64 0, .int .i64 0, .int .i64 0, .nilsl])), none, []⟩, 
  ⟨none, .store 7 (.tmp 19) (.tmp 72), none, []⟩]
def k_law03_CathodeChecks_r11 : List AOper := [
  ⟨(some (73)), .load (some (7)) (.tmp 19), none, []⟩, 
  ⟨(some (74)), .call (.const (.fn (.func 25) [] [])) [.tmp 73], none, []⟩, 
  ⟨(some (75)), .move (.tmp 16), none, [0, 1]⟩, 
  ⟨(some (76)), .move (.tmp 18), none, [0, 1, 2]⟩, 
  ⟨(some (77)), .indexAddr 7 (.tmp 75) (.tmp 76), none, [0, 1]⟩, 
  ⟨(some (78)), .load (some (7)) (.tmp 77), none, [0, 1]⟩, 
  ⟨(some (79)), .call (.const (.fn (.func 26) [] [])) [.tmp 78], none, []⟩, 
  ⟨(some (80)), .bin .plain .neq (.tmp 74) (.tmp 79), none, []⟩, 
  ⟨(some (81)), .move (.tmp 80), none, []⟩, 
  ⟨(some (82)), .load (some (7)) (.tmp 19), (some (81, false)), []⟩, 
  ⟨(some (83)), .load (some (13)) (.tmp 8), (some (81, false)), [9]⟩, 
  ⟨(some (84)), .call (.const (.fn (.func 27) [] [])) [.tmp 82, .tmp 83], (some (81, false)), []⟩, 
  ⟨(some (85)), .move (.tmp 16), (some (81, false)), [9, 10, 11]⟩, 
  ⟨(some (86)), .move (.tmp 18), (some (81, false)), [9, 10, 11, 12]⟩, 
  ⟨(some (87)), .indexAddr 7 (.tmp 85) (.tmp 86), (some (81, false)), [9, 10, 11]⟩, 
  ⟨(some (88)), .load (some (7)) (.tmp 87), (some (81, false)), [9, 10, 11]⟩, 
  ⟨(some (89)), .load (some (13)) (.tmp 8), (some (81, false)), [9, 10, 11, 12, 13, 14, 15]⟩, 
  ⟨(some (90)), .call (.const (.fn (.func 28) [] [])) [.tmp 88, .tmp 89], (some (81, false)), []⟩, 
  ⟨(some (91)), .bin .plain .neq (.tmp 84) (.tmp 90), (some (81, false)), []⟩, 
  ⟨(some (92)), .pick (.tmp 81) (.const (.bool true)) (.tmp 91), none, []⟩, 
  ⟨(some (93)), .move (.tmp 92), none, []⟩, 
  ⟨(some (94)), .move (.tmp 17), (some (93, false)), []⟩, 
  ⟨(some (95)), .move (.tmp 18), (some (93, false)), [21]⟩, 
  ⟨(some (96)), .indexAddr 1 (.tmp 94) (.tmp 95), (some (93, false)), []⟩, 
  ⟨(some (97)), .load none (.tmp 96), (some (93, false)), []⟩, 
  ⟨(some (98)), .call (.const (.fn (.func 29) [] [])) [.tmp 97], (some (93, false)), []⟩, 
  ⟨(some (99)), .move (.tmp 17), (some (93, false)), [21, 22, 23, 24, 25]⟩, 
  ⟨(some (100)), .move (.tmp 18), (some (93, false)), [21, 22, 23, 24, 25, 26]⟩, 
  ⟨(some (101)), .indexAddr 1 (.tmp 99) (.tmp 100), (some (93, false)), [21, 22, 23, 24, 25]⟩, 
  ⟨(some (102)), .load none (.tmp 101), (some (93, false)), [21, 22, 23, 24, 25]⟩, 
  ⟨(some (103)), .call (.const (.fn (.func 30) [] [])) [.tmp 102], (some (93, false)), []⟩, 
  ⟨(some (104)), .bin .plain .neq (.tmp 98) (.tmp 103), (some (93, false)), []⟩, 
  ⟨(some (105)), .pick (.tmp 93) (.const (.bool true)) (.tmp 104), none, []⟩, 
  ⟨(some (106)), .move (.tmp 105), none, []⟩, 
  ⟨(some (107)), .load (some (7)) (.tmp 19), (some (106, false)), []⟩, 
  ⟨(some (108)), .load (some (7)) (.tmp 7), (some (106, false)), [34]⟩, 
  ⟨(some (109)), .call (.const (.fn (.func 31) [] [])) [.tmp 107, .tmp 108], (some (106, false)), []⟩, 
  ⟨(some (110)), .move (.tmp 16), (some (106, false)), [34, 35, 36]⟩, 
  ⟨(some (111)), .move (.tmp 18), (some (106, false)), [34, 35, 36, 37]⟩, 
  ⟨(some (112)), .indexAddr 7 (.tmp 110) (.tmp 111), (some (106, false)), [34, 35, 36]⟩, 
  ⟨(some (113)), .load (some (7)) (.tmp 112), (some (106, false)), [34, 35, 36]⟩, 
  ⟨(some (114)), .load (some (7)) (.tmp 7), (some (106, false)), [34, 35, 36, 37, 38, 39, 40]⟩, 
  ⟨(some (115)), .call (.const (.fn (.func 32) [] [])) [.tmp 113, .tmp 114], (some (106, false)), []⟩, 
  ⟨(some (116)), .bin .bool .neq (.tmp 109) (.tmp 115), (some (106, false)), []⟩, 
  ⟨(some (117)), .pick (.tmp 106) (.const (.bool true)) (.tmp 116), none, []⟩]
def k_law03_CathodeChecks_r11s : List (List AOper) := [
  [
  ⟨(some (73)), .load (some (7)) (.tmp 19), none, []⟩, 
  ⟨(some (74)), .call (.const (.fn (.func 25) [] [])) [.tmp 73], none, []⟩, 
  ⟨(some (75)), .move (.tmp 16), none, [0, 1]⟩, 
  ⟨(some (76)), .move (.tmp 18), none, [0, 1, 2]⟩, 
  ⟨(some (77)), .indexAddr 7 (.tmp 75) (.tmp 76), none, [0, 1]⟩, 
  ⟨(some (78)), .load (some (7)) (.tmp 77), none, [0, 1]⟩], 
  [
  ⟨(some (79)), .call (.const (.fn (.func 26) [] [])) [.tmp 78], none, []⟩], 
  [
  ⟨(some (80)), .bin .plain .neq (.tmp 74) (.tmp 79), none, []⟩], 
  [
  ⟨(some (81)), .move (.tmp 80), none, []⟩], 
  [
  ⟨(some (82)), .load (some (7)) (.tmp 19), (some (81, false)), []⟩, 
  ⟨(some (83)), .load (some (13)) (.tmp 8), (some (81, false)), [9]⟩, 
  ⟨(some (84)), .call (.const (.fn (.func 27) [] [])) [.tmp 82, .tmp 83], (some (81, false)), []⟩, 
  ⟨(some (85)), .move (.tmp 16), (some (81, false)), [9, 10, 11]⟩, 
  ⟨(some (86)), .move (.tmp 18), (some (81, false)), [9, 10, 11, 12]⟩, 
  ⟨(some (87)), .indexAddr 7 (.tmp 85) (.tmp 86), (some (81, false)), [9, 10, 11]⟩, 
  ⟨(some (88)), .load (some (7)) (.tmp 87), (some (81, false)), [9, 10, 11]⟩, 
  ⟨(some (89)), .load (some (13)) (.tmp 8), (some (81, false)), [9, 10, 11, 12, 13, 14, 15]⟩], 
  [
  ⟨(some (90)), .call (.const (.fn (.func 28) [] [])) [.tmp 88, .tmp 89], (some (81, false)), []⟩], 
  [
  ⟨(some (91)), .bin .plain .neq (.tmp 84) (.tmp 90), (some (81, false)), []⟩], 
  [
  ⟨(some (92)), .pick (.tmp 81) (.const (.bool true)) (.tmp 91), none, []⟩], 
  [
  ⟨(some (93)), .move (.tmp 92), none, []⟩], 
  [
  ⟨(some (94)), .move (.tmp 17), (some (93, false)), []⟩, 
  ⟨(some (95)), .move (.tmp 18), (some (93, false)), [21]⟩, 
  ⟨(some (96)), .indexAddr 1 (.tmp 94) (.tmp 95), (some (93, false)), []⟩, 
  ⟨(some (97)), .load none (.tmp 96), (some (93, false)), []⟩, 
  ⟨(some (98)), .call (.const (.fn (.func 29) [] [])) [.tmp 97], (some (93, false)), []⟩, 
  ⟨(some (99)), .move (.tmp 17), (some (93, false)), [21, 22, 23, 24, 25]⟩, 
  ⟨(some (100)), .move (.tmp 18), (some (93, false)), [21, 22, 23, 24, 25, 26]⟩, 
  ⟨(some (101)), .indexAddr 1 (.tmp 99) (.tmp 100), (some (93, false)), [21, 22, 23, 24, 25]⟩, 
  ⟨(some (102)), .load none (.tmp 101), (some (93, false)), [21, 22, 23, 24, 25]⟩], 
  [
  ⟨(some (103)), .call (.const (.fn (.func 30) [] [])) [.tmp 102], (some (93, false)), []⟩], 
  [
  ⟨(some (104)), .bin .plain .neq (.tmp 98) (.tmp 103), (some (93, false)), []⟩], 
  [
  ⟨(some (105)), .pick (.tmp 93) (.const (.bool true)) (.tmp 104), none, []⟩], 
  [
  ⟨(some (106)), .move (.tmp 105), none, []⟩], 
  [
  ⟨(some (107)), .load (some (7)) (.tmp 19), (some (106, false)), []⟩, 
  ⟨(some (108)), .load (some (7)) (.tmp 7), (some (106, false)), [34]⟩, 
  ⟨(some (109)), .call (.const (.fn (.func 31) [] [])) [.tmp 107, .tmp 108], (some (106, false)), []⟩, 
  ⟨(some (110)), .move (.tmp 16), (some (106, false)), [34, 35, 36]⟩, 
  ⟨(some (111)), .move (.tmp 18), (some (106, false)), [34, 35, 36, 37]⟩, 
  ⟨(some (112)), .indexAddr 7 (.tmp 110) (.tmp 111), (some (106, false)), [34, 35, 36]⟩, 
  ⟨(some (113)), .load (some (7)) (.tmp 112), (some (106, false)), [34, 35, 36]⟩, 
  ⟨(some (114)), .load (some (7)) (.tmp 7), (some (106, false)), [34, 35, 36, 37, 38, 39, 40]⟩], 
  [
  ⟨(some (115)), .call (.const (.fn (.func 32) [] [])) [.tmp 113, .tmp 114], (some (106, false)), []⟩], 
  [
  ⟨(some (116)), .bin .bool .neq (.tmp 109) (.tmp 115), (some (106, false)), []⟩], 
  [
  ⟨(some (117)), .pick (.tmp 106) (.const (.bool true)) (.tmp 116), none, []⟩]]
theorem k_law03_CathodeChecks_r11_sg : segs k_law03_CathodeChecks_r11 = k_law03_CathodeChecks_r11s := by kernel_rfl
theorem k_law03_CathodeChecks_r11_st : statOK k_law03_CathodeChecks_r11 = true := by kernel_rfl
def k_law03_CathodeChecks_r12 : List AOper := [
  ⟨(some (12)), .move (.const (.bool false)), none, []⟩]
def k_law03_CathodeChecks_r13 : List AOper := [
  ⟨(some (118)), .load (some (7)) (.tmp 19), none, []⟩, 
  ⟨(some (119)), .call (.const (.fn (.func 33) [] [])) [.tmp 118], none, []⟩, 
  ⟨(some (20)), .box (.const (.agg [.int .i64 0, .int .i64 0, .int .i64 0, .int .i64 0, .int .i64 0, .int .i64 0, .nilsl])), none, []⟩, 
  ⟨none, .store 7 (.tmp 20) (.tmp 119), none, []⟩]
def k_law03_CathodeChecks_r14 : List AOper := [
  ⟨(some (120)), .load (some (7)) (.tmp 20), none, []⟩, 
  ⟨(some (121)), .move (.tmp 16), none, [0]⟩, 
  ⟨(some (122)), .move (.tmp 18), none, [0, 1]⟩, 
  ⟨(some (123)), .indexAddr 7 (.tmp 121) (.tmp 122), none, [0]⟩, 
  ⟨(some (124)), .load (some (7)) (.tmp 123), none, [0]⟩, 
  ⟨(some (125)), .call (.const (.fn (.func 32) [] [])) [.tmp 120, .tmp 124], none, []⟩, 
  ⟨(some (126)), .not (.tmp 125), none, []⟩, 
  ⟨(some (127)), .move (.tmp 126), none, []⟩, 
  ⟨(some (128)), .load (some (7)) (.tmp 20), (some (127, false)), []⟩, 
  ⟨(some (129)), .load (some (7)) (.tmp 19), (some (127, false)), [8]⟩, 
  ⟨(some (130)), .call (.const (.fn (.func 31) [] [])) [.tmp 128, .tmp 129], (some (127, false)), []⟩, 
  ⟨(some (131)), .not (.tmp 130), (some (127, false)), []⟩, 
  ⟨(some (132)), .pick (.tmp 127) (.const (.bool true)) (.tmp 131), none, []⟩]
def k_law03_CathodeChecks_r14s : List (List AOper) := [
  [
  ⟨(some (120)), .load (some (7)) (.tmp 20), none, []⟩, 
  ⟨(some (121)), .move (.tmp 16), none, [0]⟩, 
  ⟨(some (122)), .move (.tmp 18), none, [0, 1]⟩, 
  ⟨(some (123)), .indexAddr 7 (.tmp 121) (.tmp 122), none, [0]⟩, 
  ⟨(some (124)), .load (some (7)) (.tmp 123), none, [0]⟩], 
  [
  ⟨(some (125)), .call (.const (.fn (.func 32) [] [])) [.tmp 120, .tmp 124], none, []⟩], 
  [
  ⟨(some (126)), .not (.tmp 125), none, []⟩], 
  [
  ⟨(some (127)), .move (.tmp 126), none, []⟩], 
  [
  ⟨(some (128)), .load (some (7)) (.tmp 20), (some (127, false)), []⟩, 
  ⟨(some (129)), .load (some (7)) (.tmp 19), (some (127, false)), [8]⟩], 
  [
  ⟨(some (130)), .call (.const (.fn (.func 31) [] [])) [.tmp 128, .tmp 129], (some (127, false)), []⟩], 
  [
  ⟨(some (131)), .not (.tmp 130), (some (127, false)), []⟩], 
  [
  ⟨(some (132)), .pick (.tmp 127) (.const (.bool true)) (.tmp 131), none, []⟩]]
theorem k_law03_CathodeChecks_r14_sg : segs k_law03_CathodeChecks_r14 = k_law03_CathodeChecks_r14s := by kernel_rfl
theorem k_law03_CathodeChecks_r14_st : statOK k_law03_CathodeChecks_r14 = true := by kernel_rfl
def k_law03_CathodeChecks_r15 : List AOper := [
  ⟨(some (12)), .move (.const (.bool false)), none, []⟩]
def k_law03_CathodeChecks_r16 : List AOper := [
  ⟨(some (21)), .move (.const (.int .i64 0)), none, []⟩]
def k_law03_CathodeChecks_r17 : List AOper := [
  ⟨(some (133)), .move (.tmp 21), none, []⟩, 
  ⟨(some (134)), .fieldAddr 6 (.tmp 20), none, []⟩, 
  ⟨(some (135)), .load none (.tmp 134), none, []⟩, 
  ⟨(some (136)), .len false (.tmp 135), none, []⟩, 
  ⟨(some (137)), .bin .plain .lss (.tmp 133) (.tmp 136), none, []⟩]
def k_law03_CathodeChecks_r18 : List AOper := [
  ⟨(some (140)), .fieldAddr 6 (.tmp 20), none, []⟩, 
  ⟨(some (141)), .load none (.tmp 140), none, []⟩, 
  ⟨(some (142)), .move (.tmp 21), none, [0, 1]⟩, 
  ⟨(some (143)), .fieldAddr 6 (.tmp 20), none, [0, 1, 2]⟩, 
  ⟨(some (144)), .load none (.tmp 143), none, [0, 1, 2]⟩, 
  ⟨(some (145)), .move (.tmp 21), none, [0, 1, 2, 3, 4]⟩, 
  ⟨(some (146)), .indexAddr 9 (.tmp 144) (.tmp 145), none, [0, 1, 2]⟩, 
  ⟨(some (147)), .fieldAddr 0 (.tmp 146), none, [0, 1, 2]⟩, 
  ⟨(some (148)), .load none (.tmp 147), none, [0, 1, 2]⟩, 
  ⟨(some (149)), .bin .plain .add (.tmp 148) (.const (.int .i64 3)), none, [0, 1, 2]⟩, 
  ⟨(some (150)), .indexAddr 9 (.tmp 141) (.tmp 142), none, []⟩, 
  ⟨(some (151)), .fieldAddr 0 (.tmp 150), none, []⟩, 
  ⟨none, .store 1 (.tmp 151) (.tmp 149), none, []⟩]
def k_law03_CathodeChecks_r18s : List (List AOper) := [
  [
  ⟨(some (140)), .fieldAddr 6 (.tmp 20), none, []⟩, 
  ⟨(some (141)), .load none (.tmp 140), none, []⟩, 
  ⟨(some (142)), .move (.tmp 21), none, [0, 1]⟩, 
  ⟨(some (143)), .fieldAddr 6 (.tmp 20), none, [0, 1, 2]⟩, 
  ⟨(some (144)), .load none (.tmp 143), none, [0, 1, 2]⟩, 
  ⟨(some (145)), .move (.tmp 21), none, [0, 1, 2, 3, 4]⟩, 
  ⟨(some (146)), .indexAddr 9 (.tmp 144) (.tmp 145), none, [0, 1, 2]⟩, 
  ⟨(some (147)), .fieldAddr 0 (.tmp 146), none, [0, 1, 2]⟩, 
  ⟨(some (148)), .load none (.tmp 147), none, [0, 1, 2]⟩, 
  ⟨(some (149)), .bin .plain .add (.tmp 148) (.const (.int .i64 3)), none, [0, 1, 2]⟩], 
  [
  ⟨(some (150)), .indexAddr 9 (.tmp 141) (.tmp 142), none, []⟩], 
  [
  ⟨(some (151)), .fieldAddr 0 (.tmp 150), none, []⟩], 
  [
  ⟨none, .store 1 (.tmp 151) (.tmp 149), none, []⟩]]
theorem k_law03_CathodeChecks_r18_sg : segs k_law03_CathodeChecks_r18 = k_law03_CathodeChecks_r18s := by kernel_rfl
theorem k_law03_CathodeChecks_r18_st : statOK k_law03_CathodeChecks_r18 = true := by kernel_rfl
def k_law03_CathodeChecks_r19 : List AOper := [
  ⟨(some (138)), .move (.tmp 21), none, []⟩, 
  ⟨(some (139)), .bin .plain .add (.tmp 138) (.const (.int .i64 1)), none, []⟩, 
  ⟨(some (21)), .move (.tmp 139), none, []⟩]
def k_law03_CathodeChecks_r20 : ACode := (.seq (.seq (.reg k_law03_CathodeChecks_r17 false) (.cond (.tmp 137) .skip (.exit 2))) (.seq (.block 3 (.reg k_law03_CathodeChecks_r18 true)) (.reg k_law03_CathodeChecks_r19 false)))
def k_law03_CathodeChecks_r21 : List AOper := [
  ⟨(some (152)), .load (some (7)) (.tmp 19), none, []⟩, 
  ⟨(some (153)), .move (.tmp 16), none, [0]⟩, 
  ⟨(some (154)), .move (.tmp 18), none, [0, 1]⟩, 
  ⟨(some (155)), .indexAddr 7 (.tmp 153) (.tmp 154), none, [0]⟩, 
  ⟨(some (156)), .load (some (7)) (.tmp 155), none, [0]⟩, 
  ⟨(some (157)), .call (.const (.fn (.func 32) [] [])) [.tmp 152, .tmp 156], none, []⟩, 
  ⟨(some (158)), .not (.tmp 157), none, []⟩]
def k_law03_CathodeChecks_r21s : List (List AOper) := [
  [
  ⟨(some (152)), .load (some (7)) (.tmp 19), none, []⟩, 
  ⟨(some (153)), .move (.tmp 16), none, [0]⟩, 
  ⟨(some (154)), .move (.tmp 18), none, [0, 1]⟩, 
  ⟨(some (155)), .indexAddr 7 (.tmp 153) (.tmp 154), none, [0]⟩, 
  ⟨(some (156)), .load (some (7)) (.tmp 155), none, [0]⟩], 
  [
  ⟨(some (157)), .call (.const (.fn (.func 32) [] [])) [.tmp 152, .tmp 156], none, []⟩], 
  [
  ⟨(some (158)), .not (.tmp 157), none, []⟩]]
theorem k_law03_CathodeChecks_r21_sg : segs k_law03_CathodeChecks_r21 = k_law03_CathodeChecks_r21s := by kernel_rfl
theorem k_law03_CathodeChecks_r21_st : statOK k_law03_CathodeChecks_r21 = true := by kernel_rfl
def k_law03_CathodeChecks_r22 : List AOper := [
  ⟨(some (12)), .move (.const (.bool false)), none, []⟩]
def k_law03_CathodeChecks_r23 : List AOper := [
  ⟨(some (66)), .move (.tmp 18), none, []⟩, 
  ⟨(some (67)), .bin .plain .add (.tmp 66) (.const (.int .i64 1)), none, []⟩, 
  ⟨(some (18)), .move (.tmp 67), none, []⟩]
def k_law03_CathodeChecks_r24 : ACode := (.seq (.seq (.reg k_law03_CathodeChecks_r9 false) (.cond (.tmp 65) .skip (.exit 0))) (.seq (.block 1 (.seq (.reg k_law03_CathodeChecks_r10 false) (.seq (.seq (.reg k_law03_CathodeChecks_r11 true) (.cond (.tmp 117) (.seq (.reg k_law03_CathodeChecks_r12 false) .ret) .skip)) (.seq (.reg k_law03_CathodeChecks_r13 false) (.seq (.seq (.reg k_law03_CathodeChecks_r14 true) (.cond (.tmp 132) (.seq (.reg k_law03_CathodeChecks_r15 false) .ret) .skip)) (.seq (.seq (.reg k_law03_CathodeChecks_r16 false) (.block 2 (.loop k_law03_CathodeChecks_r20))) (.seq (.reg k_law03_CathodeChecks_r21 true) (.cond (.tmp 158) (.seq (.reg k_law03_CathodeChecks_r22 false) .ret) .skip)))))))) (.reg k_law03_CathodeChecks_r23 false)))
def k_law03_CathodeChecks_r25 : List AOper := [
  ⟨(some (159)), .call (.const (.fn (.func 18) [] [])) [], none, []⟩, 
  ⟨(some (12)), .move (.tmp 159), none, []⟩]
def k_law03_CathodeChecks : AFun := { params := 6, ntmps := 160, body := (.seq (.reg k_law03_CathodeChecks_r0 false) (.seq (.seq (.reg k_law03_CathodeChecks_r1 false) (.cond (.tmp 36) (.seq (.reg k_law03_CathodeChecks_r2 false) .ret) .skip)) (.seq (.reg k_law03_CathodeChecks_r3 false) (.seq (.reg k_law03_CathodeChecks_r4 false) (.seq (.seq (.reg k_law03_CathodeChecks_r5 false) (.cond (.tmp 50) (.reg k_law03_CathodeChecks_r6 true) .skip)) (.seq (.reg k_law03_CathodeChecks_r7 false) (.seq (.seq (.reg k_law03_CathodeChecks_r8 false) (.block 0 (.loop k_law03_CathodeChecks_r24))) (.seq (.reg k_law03_CathodeChecks_r25 false) .ret)))))))), res := [.tmp 12] }
theorem k_law03_CathodeChecks_ok : cfun Try.prog Try.f3 = k_law03_CathodeChecks := by kernel_rfl

-- 31: thermion/cathode.Same
def k_cathode_Same_r0 : List AOper := [
  ⟨(some (2)), .box (.tmp 0), none, []⟩, 
  ⟨(some (3)), .box (.tmp 1), none, []⟩, 
  ⟨(some (4)), .move (.const (.bool false)), none, []⟩]
def k_cathode_Same_r1 : List AOper := [
  ⟨(some (5)), .fieldAddr 0 (.tmp 2), none, []⟩, 
  ⟨(some (6)), .load none (.tmp 5), none, []⟩, 
  ⟨(some (7)), .fieldAddr 0 (.tmp 3), none, []⟩, 
  ⟨(some (8)), .load none (.tmp 7), none, []⟩, 
  ⟨(some (9)), .bin .plain .eql (.tmp 6) (.tmp 8), none, []⟩, 
  ⟨(some (10)), .move (.tmp 9), none, []⟩, 
  ⟨(some (11)), .fieldAddr 1 (.tmp 2), (some (10, true)), []⟩, 
  ⟨(some (12)), .load none (.tmp 11), (some (10, true)), []⟩, 
  ⟨(some (13)), .fieldAddr 1 (.tmp 3), (some (10, true)), []⟩, 
  ⟨(some (14)), .load none (.tmp 13), (some (10, true)), []⟩, 
  ⟨(some (15)), .bin .plain .eql (.tmp 12) (.tmp 14), (some (10, true)), []⟩, 
  ⟨(some (16)), .pick (.tmp 10) (.tmp 15) (.const (.bool false)), none, []⟩, 
  ⟨(some (17)), .move (.tmp 16), none, []⟩, 
  ⟨(some (18)), .fieldAddr 2 (.tmp 2), (some (17, true)), []⟩, 
  ⟨(some (19)), .load (some (2)) (.tmp 18), (some (17, true)), []⟩, 
  ⟨(some (20)), .fieldAddr 2 (.tmp 3), (some (17, true)), []⟩, 
  ⟨(some (21)), .load (some (2)) (.tmp 20), (some (17, true)), []⟩, 
  ⟨(some (22)), .eqAgg false [.int, .int] (.tmp 19) (.tmp 21), (some (17, true)), []⟩, 
  ⟨(some (23)), .pick (.tmp 17) (.tmp 22) (.const (.bool false)), none, []⟩, 
  ⟨(some (24)), .move (.tmp 23), none, []⟩, 
  ⟨(some (25)), .fieldAddr 4 (.tmp 2), (some (24, true)), []⟩, 
  ⟨(some (26)), .load (some (2)) (.tmp 25), (some (24, true)), []⟩, 
  ⟨(some (27)), .fieldAddr 4 (.tmp 3), (some (24, true)), []⟩, 
  ⟨(some (28)), .load (some (2)) (.tmp 27), (some (24, true)), []⟩, 
  ⟨(some (29)), .eqAgg false [.int, .int] (.tmp 26) (.tmp 28), (some (24, true)), []⟩, 
  ⟨(some (30)), .pick (.tmp 24) (.tmp 29) (.const (.bool false)), none, []⟩, 
  ⟨(some (31)), .move (.tmp 30), none, []⟩, 
  ⟨(some (32)), .fieldAddr 6 (.tmp 2), (some (31, true)), []⟩, 
  ⟨(some (33)), .load none (.tmp 32), (some (31, true)), []⟩, 
  ⟨(some (34)), .fieldAddr 6 (.tmp 3), (some (31, true)), []⟩, 
  ⟨(some (35)), .load none (.tmp 34), (some (31, true)), []⟩, 
  ⟨(some (36)), .call (.const (.fn (.func 75) [] [])) [.tmp 33, .tmp 35], (some (31, true)), []⟩, 
  ⟨(some (37)), .pick (.tmp 31) (.tmp 36) (.const (.bool false)), none, []⟩, 
  ⟨(some (4)), .move (.tmp 37), none, []⟩]
def k_cathode_Same : AFun := { params := 2, ntmps := 38, body := (.seq (.reg k_cathode_Same_r0 false) (.seq (.reg k_cathode_Same_r1 false) .ret)), res := [.tmp 4] }
theorem k_cathode_Same_ok : cfun Try.prog Try.f31 = k_cathode_Same := by kernel_rfl

-- 33: thermion/cathode.Copy
def k_cathode_Copy_r0 : List AOper := [
  ⟨(some (1)), .box (.tmp 0), none, []⟩, 
  ⟨(some (2)), .box (.const (.agg [.int .i64 0, .int .i64 0, .int .i64 0, .int .i64 0, .int .i64 0, .int .i64 0, .nilsl])), none, []⟩]
def k_cathode_Copy_r1 : List AOper := [
  ⟨(some (3)), .fieldAddr 6 (.tmp 1), none, []⟩, 
  ⟨(some (4)), .load none (.tmp 3), none, []⟩, 
  ⟨(some (5)), .call (.const (.fn (.func 76) [] [])) [.tmp 4], none, []⟩, 
  ⟨(some (6)), .fieldAddr 6 (.tmp 1), none, []⟩, 
  ⟨none, .store 1 (.tmp 6) (.tmp 5), none, []⟩]
def k_cathode_Copy_r2 : List AOper := [
  ⟨(some (7)), .load (some (7)) (.tmp 1), none, []⟩, 
  ⟨none, .store 7 (.tmp 2) (.tmp 7), none, []⟩]
def k_cathode_Copy : AFun := { params := 1, ntmps := 8, body := (.seq (.reg k_cathode_Copy_r0 false) (.seq (.reg k_cathode_Copy_r1 false) (.seq (.reg k_cathode_Copy_r2 false) .ret))), res := [.cell 2 (some ((some (7))))] }
theorem k_cathode_Copy_ok : cfun Try.prog Try.f33 = k_cathode_Copy := by kernel_rfl

-- 75: slices.Equal[[]thermion/api.Band,thermion/api.Band]
def k_slices_Equal_api_Band_api_Band_r0 : List AOper := [
  ⟨(some (4)), .move (.const (.bool false)), none, []⟩]
def k_slices_Equal_api_Band_api_Band_r1 : List AOper := [
  ⟨(some (6)), .move (.tmp 0), none, []⟩, 
  ⟨(some (7)), .len false (.tmp 6), none, []⟩, 
  ⟨(some (8)), .move (.tmp 1), none, []⟩, 
  ⟨(some (9)), .len false (.tmp 8), none, []⟩, 
  ⟨(some (10)), .bin .plain .neq (.tmp 7) (.tmp 9), none, []⟩]
def k_slices_Equal_api_Band_api_Band_r2 : List AOper := [
  ⟨(some (4)), .move (.const (.bool false)), none, []⟩]
def k_slices_Equal_api_Band_api_Band_r3 : List AOper := [
  ⟨(some (11)), .move (.tmp 0), none, []⟩, 
  ⟨(some (12)), .len false (.tmp 11), none, []⟩, 
  ⟨(some (13)), .move (.const (.int .i64 0)), none, []⟩]
def k_slices_Equal_api_Band_api_Band_r4 : List AOper := [
  ⟨(some (14)), .bin .plain .lss (.tmp 13) (.tmp 12), none, []⟩]
def k_slices_Equal_api_Band_api_Band_r5 : List AOper := [
  ⟨(some (15)), .move (.tmp 13), none, []⟩, 
  ⟨(some (5)), .move (.tmp 15), none, []⟩]
def k_slices_Equal_api_Band_api_Band_r6 : List AOper := [
  ⟨(some (16)), .move (.tmp 0), none, []⟩, 
  ⟨(some (17)), .move (.tmp 5), none, [0]⟩, 
  ⟨(some (18)), .indexAddr 9 (.tmp 16) (.tmp 17), none, []⟩, 
  ⟨(some (19)), .load (some (9)) (.tmp 18), none, []⟩, 
  ⟨(some (20)), .move (.tmp 1), none, [0, 1, 2, 3]⟩, 
  ⟨(some (21)), .move (.tmp 5), none, [0, 1, 2, 3, 4]⟩, 
  ⟨(some (22)), .indexAddr 9 (.tmp 20) (.tmp 21), none, [0, 1, 2, 3]⟩, 
  ⟨(some (23)), .load (some (9)) (.tmp 22), none, [0, 1, 2, 3]⟩, 
  ⟨(some (24)), .eqAgg true [.int, .int, .int, .int, .int, .int, .int, .int, .int] (.tmp 19) (.tmp 23), none, []⟩]
def k_slices_Equal_api_Band_api_Band_r6s : List (List AOper) := [
  [
  ⟨(some (16)), .move (.tmp 0), none, []⟩, 
  ⟨(some (17)), .move (.tmp 5), none, [0]⟩, 
  ⟨(some (18)), .indexAddr 9 (.tmp 16) (.tmp 17), none, []⟩, 
  ⟨(some (19)), .load (some (9)) (.tmp 18), none, []⟩, 
  ⟨(some (20)), .move (.tmp 1), none, [0, 1, 2, 3]⟩, 
  ⟨(some (21)), .move (.tmp 5), none, [0, 1, 2, 3, 4]⟩, 
  ⟨(some (22)), .indexAddr 9 (.tmp 20) (.tmp 21), none, [0, 1, 2, 3]⟩, 
  ⟨(some (23)), .load (some (9)) (.tmp 22), none, [0, 1, 2, 3]⟩], 
  [
  ⟨(some (24)), .eqAgg true [.int, .int, .int, .int, .int, .int, .int, .int, .int] (.tmp 19) (.tmp 23), none, []⟩]]
theorem k_slices_Equal_api_Band_api_Band_r6_sg : segs k_slices_Equal_api_Band_api_Band_r6 = k_slices_Equal_api_Band_api_Band_r6s := by kernel_rfl
theorem k_slices_Equal_api_Band_api_Band_r6_st : statOK k_slices_Equal_api_Band_api_Band_r6 = true := by kernel_rfl
def k_slices_Equal_api_Band_api_Band_r7 : List AOper := [
  ⟨(some (4)), .move (.const (.bool false)), none, []⟩]
def k_slices_Equal_api_Band_api_Band_r8 : List AOper := [
  ⟨(some (25)), .bin .plain .add (.tmp 13) (.const (.int .i64 1)), none, []⟩, 
  ⟨(some (13)), .move (.tmp 25), none, []⟩]
def k_slices_Equal_api_Band_api_Band_r9 : ACode := (.seq (.reg k_slices_Equal_api_Band_api_Band_r4 false) (.seq (.cond (.tmp 14) .skip (.exit 0)) (.seq (.block 1 (.seq (.reg k_slices_Equal_api_Band_api_Band_r5 false) (.seq (.reg k_slices_Equal_api_Band_api_Band_r6 true) (.cond (.tmp 24) (.seq (.reg k_slices_Equal_api_Band_api_Band_r7 false) .ret) .skip)))) (.reg k_slices_Equal_api_Band_api_Band_r8 false))))
def k_slices_Equal_api_Band_api_Band_r10 : List AOper := [
  ⟨(some (4)), .move (.const (.bool true)), none, []⟩]
def k_slices_Equal_api_Band_api_Band : AFun := { params := 2, ntmps := 26, body := (.seq (.reg k_slices_Equal_api_Band_api_Band_r0 false) (.seq (.seq (.reg k_slices_Equal_api_Band_api_Band_r1 false) (.cond (.tmp 10) (.seq (.reg k_slices_Equal_api_Band_api_Band_r2 false) .ret) .skip)) (.seq (.seq (.reg k_slices_Equal_api_Band_api_Band_r3 false) (.block 0 (.loop k_slices_Equal_api_Band_api_Band_r9))) (.seq (.reg k_slices_Equal_api_Band_api_Band_r10 false) .ret)))), res := [.tmp 4] }
theorem k_slices_Equal_api_Band_api_Band_ok : cfun Try.prog Try.f75 = k_slices_Equal_api_Band_api_Band := by kernel_rfl

-- 76: slices.Clone[[]thermion/api.Band,thermion/api.Band]
def k_slices_Clone_api_Band_api_Band_r0 : List AOper := [
  ⟨(some (2)), .move (.const (.nilsl)), none, []⟩]
def k_slices_Clone_api_Band_api_Band_r1 : List AOper := [
  ⟨(some (3)), .move (.tmp 0), none, []⟩, 
  ⟨(some (4)), .bin .slice .eql (.tmp 3) (.const (.nilsl)), none, []⟩]
def k_slices_Clone_api_Band_api_Band_r2 : List AOper := [
  ⟨(some (2)), .move (.const (.nilsl)), none, []⟩]
def k_slices_Clone_api_Band_api_Band_r3 : List AOper := [
  ⟨(some (5)), .buildSlice 9 [], none, []⟩, 
  ⟨(some (6)), .move (.tmp 0), none, []⟩, 
  ⟨(some (7)), .append 9 72 true (.tmp 5) (.tmp 6), none, []⟩, 
  ⟨(some (2)), .move (.tmp 7), none, []⟩]
def k_slices_Clone_api_Band_api_Band : AFun := { params := 1, ntmps := 8, body := (.seq (.reg k_slices_Clone_api_Band_api_Band_r0 false) (.seq (.seq (.reg k_slices_Clone_api_Band_api_Band_r1 false) (.cond (.tmp 4) (.seq (.reg k_slices_Clone_api_Band_api_Band_r2 false) .ret) .skip)) (.seq (.reg k_slices_Clone_api_Band_api_Band_r3 false) .ret))), res := [.tmp 2] }
theorem k_slices_Clone_api_Band_api_Band_ok : cfun Try.prog Try.f76 = k_slices_Clone_api_Band_api_Band := by kernel_rfl


abbrev n_law03_CathodeChecks : Nat := 3
theorem e_law03_CathodeChecks : EntryOK Try.prog n_law03_CathodeChecks k_law03_CathodeChecks := ⟨Try.f3, Try.func3, k_law03_CathodeChecks_ok, by kernel_rfl⟩
abbrev n_cathode_Same : Nat := 31
theorem e_cathode_Same : EntryOK Try.prog n_cathode_Same k_cathode_Same := ⟨Try.f31, Try.func31, k_cathode_Same_ok, by kernel_rfl⟩
abbrev n_cathode_Copy : Nat := 33
theorem e_cathode_Copy : EntryOK Try.prog n_cathode_Copy k_cathode_Copy := ⟨Try.f33, Try.func33, k_cathode_Copy_ok, by kernel_rfl⟩
abbrev n_slices_Equal_api_Band_api_Band : Nat := 75
theorem e_slices_Equal_api_Band_api_Band : EntryOK Try.prog n_slices_Equal_api_Band_api_Band k_slices_Equal_api_Band_api_Band := ⟨Try.f75, Try.func75, k_slices_Equal_api_Band_api_Band_ok, by kernel_rfl⟩
abbrev n_slices_Clone_api_Band_api_Band : Nat := 76
theorem e_slices_Clone_api_Band_api_Band : EntryOK Try.prog n_slices_Clone_api_Band_api_Band k_slices_Clone_api_Band_api_Band := ⟨Try.f76, Try.func76, k_slices_Clone_api_Band_api_Band_ok, by kernel_rfl⟩

attribute [go_sem] k_law03_CathodeChecks_r0 k_law03_CathodeChecks_r1 k_law03_CathodeChecks_r2 k_law03_CathodeChecks_r3 k_law03_CathodeChecks_r4 k_law03_CathodeChecks_r5 k_law03_CathodeChecks_r6s k_law03_CathodeChecks_r7 k_law03_CathodeChecks_r8 k_law03_CathodeChecks_r9 k_law03_CathodeChecks_r10 k_law03_CathodeChecks_r11s
attribute [go_sem] k_law03_CathodeChecks_r12 k_law03_CathodeChecks_r13 k_law03_CathodeChecks_r14s k_law03_CathodeChecks_r15 k_law03_CathodeChecks_r16 k_law03_CathodeChecks_r17 k_law03_CathodeChecks_r18s k_law03_CathodeChecks_r19 k_law03_CathodeChecks_r21s k_law03_CathodeChecks_r22 k_law03_CathodeChecks_r23 k_law03_CathodeChecks_r25
attribute [go_sem] k_cathode_Same_r0 k_cathode_Same_r1 k_cathode_Copy_r0 k_cathode_Copy_r1 k_cathode_Copy_r2 k_slices_Equal_api_Band_api_Band_r0 k_slices_Equal_api_Band_api_Band_r1 k_slices_Equal_api_Band_api_Band_r2 k_slices_Equal_api_Band_api_Band_r3 k_slices_Equal_api_Band_api_Band_r4 k_slices_Equal_api_Band_api_Band_r5 k_slices_Equal_api_Band_api_Band_r6s
attribute [go_sem] k_slices_Equal_api_Band_api_Band_r7 k_slices_Equal_api_Band_api_Band_r8 k_slices_Equal_api_Band_api_Band_r10 k_slices_Clone_api_Band_api_Band_r0 k_slices_Clone_api_Band_api_Band_r1 k_slices_Clone_api_Band_api_Band_r2 k_slices_Clone_api_Band_api_Band_r3 k_law03_CathodeChecks_r21_sg k_slices_Equal_api_Band_api_Band_r6_sg k_law03_CathodeChecks_r18_sg k_law03_CathodeChecks_r11_sg k_law03_CathodeChecks_r14_sg
attribute [go_sem] k_law03_CathodeChecks_r6_sg k_law03_CathodeChecks_r21_st k_slices_Equal_api_Band_api_Band_r6_st k_law03_CathodeChecks_r18_st k_law03_CathodeChecks_r11_st k_law03_CathodeChecks_r14_st k_law03_CathodeChecks_r6_st k_law03_CathodeChecks k_cathode_Same k_cathode_Copy k_slices_Equal_api_Band_api_Band k_slices_Clone_api_Band_api_Band
end Go.Proofs
namespace Go.Proofs
open Go Go.Sx
attribute [local irreducible] Run

section
variable {P : Program} {G : Ctx} {g : FuncId} {args largs : List AVal} {H : Heap} {r : AVal} {k : Nat} {R : Runner} {l : List AOper} {fs : List Sx.Frame} {ρ : List AVal} {ms : List Nat} {Q : Goal} {dst : Option Nat}
/-- A row is handed over and only read; a new one comes back. -/
theorem callC {x y : Row} {j : Nat} (h : Ans P g largs [some x] r [some x, some y]) (hargs : args = largs.map (ren (nth [j]))) (hb : Bels (· < 1) largs) (h0 : H[j]? = some (some x)) (hx : x.bel (fun _ => False)) (hy : y.bel (fun _ => False))
    (hr : Bel (· = 1) r) (hk : k ≤ H.length) (hms : ∀ q ∈ ms, q ≠ j ∧ H[q]? = some (some .dfr)) (hK : R (.ops l) fs ⟨setD ρ dst (ren (fun _ => H.length) r), H ++ [some y], ms⟩ Q) : CallR P G k R g args dst l fs ρ H ms Q := by
  have hlt := (List.getElem?_eq_some_iff.1 h0).1
  have e : outΔ (outσ [j] H.length) 0 [some x, some y] = [(j, x), (H.length, y)] := by
    simp only [outΔ, Row.ren_same hx, Row.ren_same hy]
    rfl
  refine callS h [j] (by simp) ⟨by rw [Row.ren_same hx]; exact h0, trivial⟩ hargs hb ⟨bel_mono_row hx fun _ h => h.elim, trivial⟩ (by simp) (hr.mono fun q hq => by subst hq; simp) ⟨bel_mono_row hx fun _ h => h.elim, bel_mono_row hy fun _ h => h.elim, trivial⟩ (by simpa using hlt) hk (fun q hq => ?_) ?_
  · rw [e]
    have := (List.getElem?_eq_some_iff.1 (hms q hq).2).1
    refine ⟨?_, (hms q hq).2⟩
    simp only [List.map_cons, List.map_nil, List.mem_cons, List.not_mem_nil, or_false, not_or]
    exact ⟨(hms q hq).1, by omega⟩
  · rw [e]
    have e2 : ren (outσ [j] H.length) r = ren (fun _ => H.length) r := ren_agree (fun q hq => by subst hq; simp [outσ]) hr
    rw [e2]
    simp only [Heap.puts, put_same h0, Heap.put_end]
    exact hK
end

theorem rCopy_raw (c : Ct) (hl : c.bands.length ≤ 1000) : Ans Try.prog n_ref03_Copy [c.v (.view (c.bands.map Bd.v))] [] (c.v (.sl 0 0 c.bands.length)) [some (BdR c.bands)] := by
  have d1 : c.bands.length * 72 ≤ 2 ^ 44 := by omega
  have d2 := bds_sized c.bands
  refine Ans.keep (run_fn e_ref03_Copy fun G => ?_) (Nat.zero_le _) (by simp [go_sem, Ct.v, Ct.cs]) ⟨by simp only [go_sem], trivial⟩
  simp only [go_sem, Ct.v, Ct.cs, d1, d2]
  exact kept_one 2 rfl (by simp only [go_sem]) rfl

theorem Clone_raw (bs : List Bd) (hl : bs.length ≤ 1000) : Ans Try.prog n_slices_Clone_api_Band_api_Band [.sl 0 0 bs.length] [some (BdR bs)] (.sl 1 0 bs.length) [some (BdR bs), some (BdR bs)] := by
  have d1 : bs.length * 72 ≤ 2 ^ 44 := by omega
  have d2 := bds_sized bs
  refine spec_run e_slices_Clone_api_Band_api_Band fun G => ?_
  have ht : List.take bs.length (bs.map Bd.v) = bs.map Bd.v := List.take_of_length_le (by simp)
  simp only [go_sem, BdR, List.length_map, ht, d1, d2]
  try exact ⟨_, rfl⟩
theorem Copy_raw (c : Ct) (hl : c.bands.length ≤ 1000) : Ans Try.prog n_cathode_Copy [c.v (.sl 0 0 c.bands.length)] [some (BdR c.bands)] (c.v (.sl 1 0 c.bands.length)) [some (BdR c.bands), some (BdR c.bands)] := by
  refine Ans.keep (run_fn e_cathode_Copy fun G => ?_) (by simp) (by simp [go_sem, Ct.v, Ct.cs]) ⟨by simp only [go_sem], by simp only [go_sem], trivial⟩
  simp only [go_sem, Ct.v, Ct.cs]
  refine callC (Clone_raw c.bands hl) (j := 0) rfl ⟨by rw [bel_sl]; decide, trivial⟩ rfl (by simp only [go_sem]) (by simp only [go_sem]) (by rw [bel_sl]) (by simp) (by simp) ?_
  simp only [go_sem, ren, rens]
  exact kept_two 3 (by decide) rfl (by simp only [go_sem]) (by simp only [go_sem]) rfl rfl
theorem bd_eq (x y : Bd) : (x.frm == y.frm && (x.conv.lo == y.conv.lo && (x.conv.hi == y.conv.hi && (x.red.lo == y.red.lo && (x.red.hi == y.red.hi && (x.evap.lo == y.evap.lo && (x.evap.hi == y.evap.hi && (x.sint.lo == y.sint.lo && x.sint.hi == y.sint.hi)))))))) = true ↔ x = y := by
  obtain ⟨f, ⟨a, b⟩, ⟨c, d⟩, ⟨e, g⟩, ⟨h, i⟩⟩ := x
  obtain ⟨f', ⟨a', b'⟩, ⟨c', d'⟩, ⟨e', g'⟩, ⟨h', i'⟩⟩ := y
  simp only [Bool.and_eq_true, beq_iff_eq, Bd.mk.injEq, Rg.mk.injEq]
  constructor
  · rintro ⟨h1, h2, h3, h4, h5, h6, h7, h8, h9⟩; exact ⟨h1, ⟨h2, h3⟩, ⟨h4, h5⟩, ⟨h6, h7⟩, h8, h9⟩
  · rintro ⟨h1, ⟨h2, h3⟩, ⟨h4, h5⟩, ⟨h6, h7⟩, h8, h9⟩; exact ⟨h1, h2, h3, h4, h5, h6, h7, h8, h9⟩
theorem Equal_raw (xs ys : List Bd) (hx : xs.length ≤ 1000) (b : Bool) (hb : b = true ↔ xs = ys) : Ans Try.prog n_slices_Equal_api_Band_api_Band [.view (xs.map Bd.v), .view (ys.map Bd.v)] [] (.bool b) [] := by
  have hbf : xs ≠ ys → b = false := fun h => by
    cases b with
    | false => rfl
    | true => exact absurd (hb.1 rfl) h
  refine spec_run e_slices_Equal_api_Band_api_Band fun G => ?_
  by_cases k1 : xs.length = ys.length
  rotate_left
  · have z : ((xs.length : Int) != ys.length) = true := by simp; omega
    rw [hbf fun h => k1 (by rw [h])]
    simp only [go_sem, List.length_map, z]
  have z : ((xs.length : Int) != ys.length) = false := by simp; omega
  simp only [go_sem, List.length_map, z]
  refine loop_ind k_slices_Equal_api_Band_api_Band_r9.eq_1 (fun a : Nat => a ≤ xs.length ∧ xs.take a = ys.take a) (fun a => xs.length - a)
    (fun a => (tsets 26 [(0, .view (xs.map Bd.v)), (1, .view (ys.map Bd.v)), (12, .int .i64 xs.length), (13, .int .i64 a)], [])) 0 ⟨Nat.zero_le _, rfl⟩ (by simp [go_sem]) rfl ?_
  rintro i ⟨hi, ht⟩ ih
  dsimp only at ih ⊢
  by_cases h1 : i < xs.length
  · have h2 : (i : Int) < xs.length := by omega
    have h2' : (i : Int) < ys.length := by omega
    have n0 : ¬ (i : Int) < 0 := by omega
    have hx1 : xs[i]? = some xs[i] := List.getElem?_eq_getElem h1
    have hy1 : ys[i]? = some ys[i] := List.getElem?_eq_getElem (by omega)
    have h3 := idx_next h1 (by omega)
    have hne : xs[i] ≠ ys[i] → b = false := fun h => hbf fun e => h (by simp [e])
    have htk : xs[i] = ys[i] → xs.take (i + 1) = ys.take (i + 1) := fun h => by rw [List.take_add_one, List.take_add_one, hx1, hy1, ht, h]
    generalize xs[i] = x at *
    generalize ys[i] = y at *
    by_cases e : x = y
    · have zz := (bd_eq x y).2 e
      simp only [go_sem, List.length_map, h2, h2', n0, hx1, hy1, h3, Bd.v, Bd.cs, zz]
      exact ih (i + 1) (by omega) ⟨h1, htk e⟩ _ (by simp [go_sem])
    · have zz := Bool.eq_false_iff.2 fun h => e ((bd_eq x y).1 h)
      simp only [go_sem, List.length_map, h2, h2', n0, hx1, hy1, h3, Bd.v, Bd.cs, zz, hne e]
  · have h2 : ¬ (i : Int) < xs.length := by omega
    rw [List.take_of_length_le (by omega), List.take_of_length_le (by omega)] at ht
    simp only [go_sem, List.length_map, h2, hb.2 ht]

theorem rg_eq (x y : Rg) : (x.lo == y.lo && x.hi == y.hi) = true ↔ x = y := by
  obtain ⟨a, b⟩ := x
  obtain ⟨c, d⟩ := y
  simp
theorem ct_eq (a o : Ct) : a = o ↔ (a.amount = o.amount ∧ a.slew = o.slew ∧ a.aid = o.aid ∧ a.yld = o.yld ∧ a.bands = o.bands) := by
  cases a; cases o; simp
theorem Same_raw (a o : Ct) (ha : a.bands.length ≤ 1000) (b : Bool) (hb : b = true ↔ a = o) : Ans Try.prog n_cathode_Same [a.v (.view (a.bands.map Bd.v)), o.v (.view (o.bands.map Bd.v))] [] (.bool b) [] := by
  have hbf : a ≠ o → b = false := fun h => by
    cases b with
    | false => rfl
    | true => exact absurd (hb.1 rfl) h
  refine spec_run e_cathode_Same fun G => ?_
  by_cases c1 : a.amount = o.amount
  rotate_left
  · have z : (a.amount == o.amount) = false := by simp [c1]
    rw [hbf fun h => c1 (by rw [h])]
    simp only [go_sem, Ct.v, Ct.cs, z]
  have z1 : (a.amount == o.amount) = true := by simp [c1]
  by_cases c2 : a.slew = o.slew
  rotate_left
  · have z : (a.slew == o.slew) = false := by simp [c2]
    rw [hbf fun h => c2 (by rw [h])]
    simp only [go_sem, Ct.v, Ct.cs, z1, z]
  have z2 : (a.slew == o.slew) = true := by simp [c2]
  by_cases c3 : a.aid = o.aid
  rotate_left
  · have z := Bool.eq_false_iff.2 fun h => c3 ((rg_eq a.aid o.aid).1 h)
    rw [hbf fun h => c3 (by rw [h])]
    simp only [go_sem, Ct.v, Ct.cs, z1, z2, z]
  have z3 := (rg_eq a.aid o.aid).2 c3
  by_cases c4 : a.yld = o.yld
  rotate_left
  · have z := Bool.eq_false_iff.2 fun h => c4 ((rg_eq a.yld o.yld).1 h)
    rw [hbf fun h => c4 (by rw [h])]
    simp only [go_sem, Ct.v, Ct.cs, z1, z2, z3, z]
  have z4 := (rg_eq a.yld o.yld).2 c4
  have he := Equal_raw a.bands o.bands ha b (hb.trans ⟨fun h => by rw [h], fun h => (ct_eq a o).2 ⟨c1, c2, c3, c4, h⟩⟩)
  simp only [go_sem, Ct.v, Ct.cs, z1, z2, z3, z4]
  refine cP he ?_ ⟨by rw [bel_view]; exact bels_map _ _ fun b => by simp only [go_sem, Bd.v, Bd.cs], by rw [bel_view]; exact bels_map _ _ fun b => by simp only [go_sem, Bd.v, Bd.cs], trivial⟩
  simp only [go_sem]

theorem rSame_raw (a o : Ct) (ha : a.bands.length ≤ 1000) (b : Bool) (hb : b = true ↔ a = o) : Ans Try.prog n_ref03_Same [a.v (.view (a.bands.map Bd.v)), o.v (.view (o.bands.map Bd.v))] [] (.bool b) [] := by
  have hbf : a ≠ o → b = false := fun h => by
    cases b with
    | false => rfl
    | true => exact absurd (hb.1 rfl) h
  refine spec_run e_ref03_Same fun G => ?_
  by_cases c1 : a.amount = o.amount
  rotate_left
  · have z : (a.amount != o.amount) = true := by simp [c1]
    rw [hbf fun h => c1 (by rw [h])]
    simp only [go_sem, Ct.v, Ct.cs, z]
  have z1 : (a.amount != o.amount) = false := by simp [c1]
  by_cases c2 : a.slew = o.slew
  rotate_left
  · have z : (a.slew != o.slew) = true := by simp [c2]
    rw [hbf fun h => c2 (by rw [h])]
    simp only [go_sem, Ct.v, Ct.cs, z1, z]
  have z2 : (a.slew != o.slew) = false := by simp [c2]
  by_cases c3 : a.aid = o.aid
  rotate_left
  · have z := Bool.eq_false_iff.2 fun h => c3 ((rg_eq a.aid o.aid).1 h)
    rw [hbf fun h => c3 (by rw [h])]
    simp only [go_sem, Ct.v, Ct.cs, z1, z2, z]
  have z3 := (rg_eq a.aid o.aid).2 c3
  by_cases c4 : a.yld = o.yld
  rotate_left
  · have z := Bool.eq_false_iff.2 fun h => c4 ((rg_eq a.yld o.yld).1 h)
    rw [hbf fun h => c4 (by rw [h])]
    simp only [go_sem, Ct.v, Ct.cs, z1, z2, z3, z]
  have z4 := (rg_eq a.yld o.yld).2 c4
  by_cases c5 : a.bands.length = o.bands.length
  rotate_left
  · have z : ((a.bands.length : Int) != o.bands.length) = true := by simp; omega
    rw [hbf fun h => c5 (by rw [h])]
    simp only [go_sem, Ct.v, Ct.cs, z1, z2, z3, z4, z, List.length_map]
  have z5 : ((a.bands.length : Int) != o.bands.length) = false := by simp; omega
  have hbb : b = true ↔ a.bands = o.bands := hb.trans ⟨fun h => by rw [h], fun h => (ct_eq a o).2 ⟨c1, c2, c3, c4, h⟩⟩
  have hbf2 : a.bands ≠ o.bands → b = false := fun h => hbf fun e => h (by rw [e])
  simp only [go_sem, Ct.v, Ct.cs, z1, z2, z3, z4, z5, List.length_map]
  refine loop_ind k_ref03_Same_r8.eq_1 (fun i : Nat => i ≤ a.bands.length ∧ a.bands.take i = o.bands.take i) (fun i => a.bands.length - i)
    (fun i => (tsets 59 [(2, .ptr 0 0 0 1), (3, .ptr 1 0 0 1), (5, .int .i64 i)], [some (.cells false 7 [a.v (.view (a.bands.map Bd.v))]), some (.cells false 7 [o.v (.view (o.bands.map Bd.v))])])) 0 ⟨Nat.zero_le _, rfl⟩ (by simp [go_sem]) rfl ?_
  rintro i ⟨hi, ht⟩ ih
  dsimp only at ih ⊢
  by_cases h1 : i < a.bands.length
  · have h2 : (i : Int) < a.bands.length := by omega
    have h2' : (i : Int) < o.bands.length := by omega
    have n0 : ¬ (i : Int) < 0 := by omega
    have hx1 : a.bands[i]? = some a.bands[i] := List.getElem?_eq_getElem h1
    have hy1 : o.bands[i]? = some o.bands[i] := List.getElem?_eq_getElem (by omega)
    have h3 := idx_next h1 (by omega)
    have hne : a.bands[i] ≠ o.bands[i] → b = false := fun h => hbf2 fun e => h (by simp [e])
    have htk : a.bands[i] = o.bands[i] → a.bands.take (i + 1) = o.bands.take (i + 1) := fun h => by rw [List.take_add_one, List.take_add_one, hx1, hy1, ht, h]
    generalize a.bands[i] = x at *
    generalize o.bands[i] = y at *
    by_cases e : x = y
    · have zz := (bd_eq x y).2 e
      simp only [go_sem, List.length_map, h2, h2', n0, hx1, hy1, h3, Bd.v, Bd.cs, Ct.v, Ct.cs, zz]
      exact ih (i + 1) (by omega) ⟨h1, htk e⟩ _ (by simp [go_sem])
    · have zz := Bool.eq_false_iff.2 fun h => e ((bd_eq x y).1 h)
      simp only [go_sem, List.length_map, h2, h2', n0, hx1, hy1, h3, Bd.v, Bd.cs, Ct.v, Ct.cs, zz, hne e]
  · have h2 : ¬ (i : Int) < a.bands.length := by omega
    rw [List.take_of_length_le (by omega), List.take_of_length_le (by omega)] at ht
    simp only [go_sem, List.length_map, h2, hbb.2 ht, Ct.v, Ct.cs]
end Go.Proofs
namespace Go.Proofs
open Go Go.Sx

-- 4: thermion/thermionlaw03.CathodeTicks
def k_law03_CathodeTicks_r0 : List AOper := [
  ⟨(some (5)), .box (.tmp 0), none, []⟩, 
  ⟨(some (6)), .box (.tmp 1), none, []⟩, 
  ⟨(some (10)), .move (.const (.bool false)), none, []⟩]
def k_law03_CathodeTicks_r1 : List AOper := [
  ⟨(some (27)), .fieldAddr 6 (.tmp 5), none, []⟩, 
  ⟨(some (28)), .load none (.tmp 27), none, []⟩, 
  ⟨(some (29)), .len false (.tmp 28), none, []⟩, 
  ⟨(some (30)), .bin .plain .gtr (.tmp 29) (.const (.int .i64 30)), none, []⟩]
def k_law03_CathodeTicks_r2 : List AOper := [
  ⟨(some (31)), .call (.const (.fn (.func 18) [] [])) [], none, []⟩, 
  ⟨(some (10)), .move (.tmp 31), none, []⟩]
def k_law03_CathodeTicks_r3 : List AOper := [
  ⟨(some (32)), .move (.tmp 4), none, []⟩, 
  ⟨(some (33)), .call (.const (.fn (.func 19) [] [])) [.tmp 32], none, []⟩, 
  ⟨(some (11)), .move (.tmp 33), none, []⟩]
def k_law03_CathodeTicks_r4 : List AOper := [
  ⟨(some (34)), .move (.tmp 11), none, []⟩, 
  ⟨(some (35)), .call (.const (.fn (.func 20) [] [])) [.tmp 34], none, []⟩, 
  ⟨(some (12)), .box (.const (.agg [.int .i64 0, .int .i64 0, .int .i64 0, .int .i64 0, .int .i64 0, .int .i64 0, .nilsl])), none, []⟩, 
  ⟨none, .store 7 (.tmp 12) (.tmp 35), none, []⟩]
def k_law03_CathodeTicks_r5 : List AOper := [
  ⟨(some (37)), .load (some (7)) (.tmp 12), none, []⟩, 
  ⟨(some (38)), .move (.tmp 11), none, [0]⟩, 
  ⟨(some (39)), .call (.const (.fn (.func 21) [] [])) [.tmp 38, .const (.int .i64 6), .const (.int .i64 9)], none, [0]⟩, 
  ⟨(some (40)), .call (.const (.fn (.func 34) [] [])) [.tmp 37, .tmp 39], none, []⟩, 
  ⟨(some (36)), .move (.tmp 40), none, []⟩, 
  ⟨(some (41)), .extract (.tmp 36) 0, none, []⟩, 
  ⟨(some (42)), .extract (.tmp 36) 1, none, [5]⟩, 
  ⟨(some (13)), .move (.tmp 41), none, [6]⟩, 
  ⟨(some (14)), .move (.tmp 42), none, []⟩]
def k_law03_CathodeTicks_r5s : List (List AOper) := [
  [
  ⟨(some (37)), .load (some (7)) (.tmp 12), none, []⟩, 
  ⟨(some (38)), .move (.tmp 11), none, [0]⟩, 
  ⟨(some (39)), .call (.const (.fn (.func 21) [] [])) [.tmp 38, .const (.int .i64 6), .const (.int .i64 9)], none, [0]⟩], 
  [
  ⟨(some (40)), .call (.const (.fn (.func 34) [] [])) [.tmp 37, .tmp 39], none, []⟩], 
  [
  ⟨(some (36)), .move (.tmp 40), none, []⟩], 
  [
  ⟨(some (41)), .extract (.tmp 36) 0, none, []⟩, 
  ⟨(some (42)), .extract (.tmp 36) 1, none, [5]⟩, 
  ⟨(some (13)), .move (.tmp 41), none, [6]⟩], 
  [
  ⟨(some (14)), .move (.tmp 42), none, []⟩]]
theorem k_law03_CathodeTicks_r5_sg : segs k_law03_CathodeTicks_r5 = k_law03_CathodeTicks_r5s := by kernel_rfl
theorem k_law03_CathodeTicks_r5_st : statOK k_law03_CathodeTicks_r5 = true := by kernel_rfl
def k_law03_CathodeTicks_r6 : List AOper := [
  ⟨(some (43)), .load (some (13)) (.tmp 6), none, []⟩, 
  ⟨(some (15)), .box (.const (.agg [.int .i64 0, .int .i64 0, .int .i64 0, .int .i64 0, .int .i64 0, .int .i64 0, .int .i64 0, .int .i64 0, .int .i64 0, .int .i64 0, .int .i64 0, .int .i64 0, .int .i64 0])), none, []⟩, 
  ⟨none, .store 13 (.tmp 15) (.tmp 43), none, []⟩]
def k_law03_CathodeTicks_r7 : List AOper := [
  ⟨(some (44)), .move (.tmp 13), none, []⟩, 
  ⟨(some (45)), .len false (.tmp 44), none, []⟩, 
  ⟨(some (46)), .bin .plain .gtr (.tmp 45) (.const (.int .i64 0)), none, []⟩]
def k_law03_CathodeTicks_r8 : List AOper := [
  ⟨(some (47)), .move (.tmp 13), none, []⟩, 
  ⟨(some (48)), .move (.tmp 13), none, []⟩, 
  ⟨(some (49)), .len false (.tmp 48), none, []⟩, 
  ⟨(some (50)), .bin .plain .sub (.tmp 49) (.const (.int .i64 1)), none, []⟩, 
  ⟨(some (51)), .indexAddr 13 (.tmp 47) (.tmp 50), none, []⟩, 
  ⟨(some (52)), .load (some (13)) (.tmp 51), none, []⟩, 
  ⟨none, .store 13 (.tmp 15) (.tmp 52), none, []⟩]
def k_law03_CathodeTicks_r9 : List AOper := [
  ⟨(some (53)), .move (.tmp 11), none, []⟩, 
  ⟨(some (54)), .call (.const (.fn (.func 22) [] [])) [.tmp 53, .const (.int .i64 20)], none, []⟩]
def k_law03_CathodeTicks_r10 : List AOper := [
  ⟨(some (55)), .fieldAddr 10 (.tmp 15), none, []⟩, 
  ⟨(some (56)), .fieldAddr 1 (.tmp 55), none, []⟩, 
  ⟨none, .store 1 (.tmp 56) (.const (.int .i64 1099511627776)), none, []⟩]
def k_law03_CathodeTicks_r11 : List AOper := [
  ⟨(some (57)), .load (some (7)) (.tmp 5), none, []⟩, 
  ⟨(some (58)), .load (some (7)) (.tmp 12), none, [0]⟩, 
  ⟨(some (59)), .load (some (7)) (.tmp 12), none, [0, 1]⟩, 
  ⟨(some (60)), .buildSlice 7 [.tmp 57, .tmp 58, .tmp 59], none, []⟩, 
  ⟨(some (61)), .load (some (13)) (.tmp 6), none, [0, 1, 2, 3]⟩, 
  ⟨(some (62)), .load (some (13)) (.tmp 6), none, [0, 1, 2, 3, 4]⟩, 
  ⟨(some (63)), .load (some (13)) (.tmp 15), none, [0, 1, 2, 3, 4, 5]⟩, 
  ⟨(some (64)), .buildSlice 13 [.tmp 61, .tmp 62, .tmp 63], none, [0, 1, 2, 3]⟩, 
  ⟨(some (16)), .move (.tmp 60), none, [4, 5, 6, 7]⟩, 
  ⟨(some (17)), .move (.tmp 64), none, []⟩]
def k_law03_CathodeTicks_r11s : List (List AOper) := [
  [
  ⟨(some (57)), .load (some (7)) (.tmp 5), none, []⟩, 
  ⟨(some (58)), .load (some (7)) (.tmp 12), none, [0]⟩, 
  ⟨(some (59)), .load (some (7)) (.tmp 12), none, [0, 1]⟩, 
  ⟨(some (60)), .buildSlice 7 [.tmp 57, .tmp 58, .tmp 59], none, []⟩, 
  ⟨(some (61)), .load (some (13)) (.tmp 6), none, [0, 1, 2, 3]⟩, 
  ⟨(some (62)), .load (some (13)) (.tmp 6), none, [0, 1, 2, 3, 4]⟩, 
  ⟨(some (63)), .load (some (13)) (.tmp 15), none, [0, 1, 2, 3, 4, 5]⟩, 
  ⟨(some (64)), .buildSlice 13 [.tmp 61, .tmp 62, .tmp 63], none, [0, 1, 2, 3]⟩, 
  ⟨(some (16)), .move (.tmp 60), none, [4, 5, 6, 7]⟩], 
  [
  ⟨(some (17)), .move (.tmp 64), none, []⟩]]
theorem k_law03_CathodeTicks_r11_sg : segs k_law03_CathodeTicks_r11 = k_law03_CathodeTicks_r11s := by kernel_rfl
theorem k_law03_CathodeTicks_r11_st : statOK k_law03_CathodeTicks_r11 = true := by kernel_rfl
def k_law03_CathodeTicks_r12 : List AOper := [
  ⟨(some (18)), .move (.const (.int .i64 0)), none, []⟩]
def k_law03_CathodeTicks_r13 : List AOper := [
  ⟨(some (65)), .move (.tmp 18), none, []⟩, 
  ⟨(some (66)), .move (.tmp 16), none, []⟩, 
  ⟨(some (67)), .len false (.tmp 66), none, []⟩, 
  ⟨(some (68)), .bin .plain .lss (.tmp 65) (.tmp 67), none, []⟩]
def k_law03_CathodeTicks_r14 : List AOper := [
  ⟨(some (72)), .move (.tmp 16), none, []⟩, 
  ⟨(some (73)), .move (.tmp 18), none, []⟩, 
  ⟨(some (74)), .indexAddr 7 (.tmp 72) (.tmp 73), none, []⟩, 
  ⟨(some (75)), .load (some (7)) (.tmp 74), none, []⟩, 
  ⟨(some (76)), .call (.const (.fn (.func 35) [] [])) [.tmp 75], none, []⟩, 
  ⟨(some (71)), .move (.tmp 76), none, []⟩, 
  ⟨(some (77)), .extract (.tmp 71) 0, none, []⟩, 
  ⟨(some (78)), .extract (.tmp 71) 1, none, []⟩, 
  ⟨(some (19)), .box (.const (.agg [.int .i64 0, .int .i64 0, .int .i64 0, .int .i64 0, .int .i64 0, .int .i64 0, .int .i64 0, .int .i64 0, .int .i64 0, .int .i64 0, .int .i64 0, .int .i64 0, .int .i64 0])), none, []⟩, 
  ⟨none, .store 13 (.tmp 19) (.tmp 77), none, []⟩, 
  ⟨(some (20)), .move (.tmp 78), none, []⟩]
def k_law03_CathodeTicks_r15 : List AOper := [
  ⟨(some (80)), .move (.tmp 16), none, []⟩, 
  ⟨(some (81)), .move (.tmp 18), none, []⟩, 
  ⟨(some (82)), .indexAddr 7 (.tmp 80) (.tmp 81), none, []⟩, 
  ⟨(some (83)), .load (some (7)) (.tmp 82), none, []⟩, 
  ⟨(some (84)), .call (.const (.fn (.func 36) [] [])) [.tmp 83], none, []⟩, 
  ⟨(some (79)), .move (.tmp 84), none, []⟩, 
  ⟨(some (85)), .extract (.tmp 79) 0, none, []⟩, 
  ⟨(some (86)), .extract (.tmp 79) 1, none, []⟩, 
  ⟨(some (21)), .box (.const (.agg [.int .i64 0, .int .i64 0, .int .i64 0, .int .i64 0, .int .i64 0, .int .i64 0, .int .i64 0, .int .i64 0, .int .i64 0, .int .i64 0, .int .i64 0, .int .i64 0, .int .i64 0])), none, []⟩, 
  ⟨none, .store 13 (.tmp 21) (.tmp 85), none, []⟩, 
  ⟨(some (22)), .move (.tmp 86), none, []⟩]
def k_law03_CathodeTicks_r16 : List AOper := [
  ⟨(some (88)), .move (.tmp 16), none, []⟩, 
  ⟨(some (89)), .move (.tmp 18), none, [0]⟩, 
  ⟨(some (90)), .indexAddr 7 (.tmp 88) (.tmp 89), none, []⟩, 
  ⟨(some (91)), .load (some (7)) (.tmp 90), none, []⟩, 
  ⟨(some (92)), .move (.tmp 17), none, [0, 1, 2, 3]⟩, 
  ⟨(some (93)), .move (.tmp 18), none, [0, 1, 2, 3, 4]⟩, 
  ⟨(some (94)), .indexAddr 13 (.tmp 92) (.tmp 93), none, [0, 1, 2, 3]⟩, 
  ⟨(some (95)), .load (some (13)) (.tmp 94), none, [0, 1, 2, 3]⟩, 
  ⟨(some (96)), .move (.tmp 2), none, [0, 1, 2, 3, 4, 5, 6, 7]⟩, 
  ⟨(some (97)), .move (.tmp 3), none, [0, 1, 2, 3, 4, 5, 6, 7, 8]⟩, 
  ⟨(some (98)), .call (.const (.fn (.func 37) [] [])) [.tmp 91, .tmp 95, .tmp 96, .tmp 97], none, []⟩, 
  ⟨(some (87)), .move (.tmp 98), none, []⟩, 
  ⟨(some (99)), .extract (.tmp 87) 0, none, []⟩, 
  ⟨(some (100)), .extract (.tmp 87) 1, none, [12]⟩, 
  ⟨(some (23)), .box (.const (.agg [.int .i64 0, .int .i64 0, .int .i64 0, .int .i64 0, .int .i64 0, .int .i64 0, .int .i64 0, .int .i64 0, .int .i64 0, .int .i64 0, .int .i64 0, .int .i64 0, .int .i64 0])), none, [0, 1, 2, 3, 4, 5, 6, 7, 8, 9, 10, 11, 12, 13]⟩, 
  ⟨none, .store 13 (.tmp 23) (.tmp 99), none, [13]⟩, 
  ⟨(some (24)), .move (.tmp 100), none, []⟩]
def k_law03_CathodeTicks_r16s : List (List AOper) := [
  [
  ⟨(some (88)), .move (.tmp 16), none, []⟩, 
  ⟨(some (89)), .move (.tmp 18), none, [0]⟩, 
  ⟨(some (90)), .indexAddr 7 (.tmp 88) (.tmp 89), none, []⟩, 
  ⟨(some (91)), .load (some (7)) (.tmp 90), none, []⟩, 
  ⟨(some (92)), .move (.tmp 17), none, [0, 1, 2, 3]⟩, 
  ⟨(some (93)), .move (.tmp 18), none, [0, 1, 2, 3, 4]⟩, 
  ⟨(some (94)), .indexAddr 13 (.tmp 92) (.tmp 93), none, [0, 1, 2, 3]⟩, 
  ⟨(some (95)), .load (some (13)) (.tmp 94), none, [0, 1, 2, 3]⟩, 
  ⟨(some (96)), .move (.tmp 2), none, [0, 1, 2, 3, 4, 5, 6, 7]⟩, 
  ⟨(some (97)), .move (.tmp 3), none, [0, 1, 2, 3, 4, 5, 6, 7, 8]⟩, 
  ⟨(some (98)), .call (.const (.fn (.func 37) [] [])) [.tmp 91, .tmp 95, .tmp 96, .tmp 97], none, []⟩, 
  ⟨(some (87)), .move (.tmp 98), none, []⟩, 
  ⟨(some (99)), .extract (.tmp 87) 0, none, []⟩, 
  ⟨(some (100)), .extract (.tmp 87) 1, none, [12]⟩, 
  ⟨(some (23)), .box (.const (.agg [.int .i64 0, .int .i64 0, .int .i64 0, .int .i64 0, .int .i64 0, .int .i64 0, .int .i64 0, .int .i64 0, .int .i64 0, .int .i64 0, .int .i64 0, .int .i64 0, .int .i64 0])), none, [0, 1, 2, 3, 4, 5, 6, 7, 8, 9, 10, 11, 12, 13]⟩, 
  ⟨none, .store 13 (.tmp 23) (.tmp 99), none, [13]⟩], 
  [
  ⟨(some (24)), .move (.tmp 100), none, []⟩]]
theorem k_law03_CathodeTicks_r16_sg : segs k_law03_CathodeTicks_r16 = k_law03_CathodeTicks_r16s := by kernel_rfl
theorem k_law03_CathodeTicks_r16_st : statOK k_law03_CathodeTicks_r16 = true := by kernel_rfl
def k_law03_CathodeTicks_r17 : List AOper := [
  ⟨(some (102)), .move (.tmp 16), none, []⟩, 
  ⟨(some (103)), .move (.tmp 18), none, [0]⟩, 
  ⟨(some (104)), .indexAddr 7 (.tmp 102) (.tmp 103), none, []⟩, 
  ⟨(some (105)), .load (some (7)) (.tmp 104), none, []⟩, 
  ⟨(some (106)), .move (.tmp 17), none, [0, 1, 2, 3]⟩, 
  ⟨(some (107)), .move (.tmp 18), none, [0, 1, 2, 3, 4]⟩, 
  ⟨(some (108)), .indexAddr 13 (.tmp 106) (.tmp 107), none, [0, 1, 2, 3]⟩, 
  ⟨(some (109)), .load (some (13)) (.tmp 108), none, [0, 1, 2, 3]⟩, 
  ⟨(some (110)), .move (.tmp 2), none, [0, 1, 2, 3, 4, 5, 6, 7]⟩, 
  ⟨(some (111)), .move (.tmp 3), none, [0, 1, 2, 3, 4, 5, 6, 7, 8]⟩, 
  ⟨(some (112)), .call (.const (.fn (.func 38) [] [])) [.tmp 105, .tmp 109, .tmp 110, .tmp 111], none, []⟩, 
  ⟨(some (101)), .move (.tmp 112), none, []⟩, 
  ⟨(some (113)), .extract (.tmp 101) 0, none, []⟩, 
  ⟨(some (114)), .extract (.tmp 101) 1, none, [12]⟩, 
  ⟨(some (25)), .box (.const (.agg [.int .i64 0, .int .i64 0, .int .i64 0, .int .i64 0, .int .i64 0, .int .i64 0, .int .i64 0, .int .i64 0, .int .i64 0, .int .i64 0, .int .i64 0, .int .i64 0, .int .i64 0])), none, [0, 1, 2, 3, 4, 5, 6, 7, 8, 9, 10, 11, 12, 13]⟩, 
  ⟨none, .store 13 (.tmp 25) (.tmp 113), none, [13]⟩, 
  ⟨(some (26)), .move (.tmp 114), none, []⟩]
def k_law03_CathodeTicks_r17s : List (List AOper) := [
  [
  ⟨(some (102)), .move (.tmp 16), none, []⟩, 
  ⟨(some (103)), .move (.tmp 18), none, [0]⟩, 
  ⟨(some (104)), .indexAddr 7 (.tmp 102) (.tmp 103), none, []⟩, 
  ⟨(some (105)), .load (some (7)) (.tmp 104), none, []⟩, 
  ⟨(some (106)), .move (.tmp 17), none, [0, 1, 2, 3]⟩, 
  ⟨(some (107)), .move (.tmp 18), none, [0, 1, 2, 3, 4]⟩, 
  ⟨(some (108)), .indexAddr 13 (.tmp 106) (.tmp 107), none, [0, 1, 2, 3]⟩, 
  ⟨(some (109)), .load (some (13)) (.tmp 108), none, [0, 1, 2, 3]⟩, 
  ⟨(some (110)), .move (.tmp 2), none, [0, 1, 2, 3, 4, 5, 6, 7]⟩, 
  ⟨(some (111)), .move (.tmp 3), none, [0, 1, 2, 3, 4, 5, 6, 7, 8]⟩, 
  ⟨(some (112)), .call (.const (.fn (.func 38) [] [])) [.tmp 105, .tmp 109, .tmp 110, .tmp 111], none, []⟩, 
  ⟨(some (101)), .move (.tmp 112), none, []⟩, 
  ⟨(some (113)), .extract (.tmp 101) 0, none, []⟩, 
  ⟨(some (114)), .extract (.tmp 101) 1, none, [12]⟩, 
  ⟨(some (25)), .box (.const (.agg [.int .i64 0, .int .i64 0, .int .i64 0, .int .i64 0, .int .i64 0, .int .i64 0, .int .i64 0, .int .i64 0, .int .i64 0, .int .i64 0, .int .i64 0, .int .i64 0, .int .i64 0])), none, [0, 1, 2, 3, 4, 5, 6, 7, 8, 9, 10, 11, 12, 13]⟩, 
  ⟨none, .store 13 (.tmp 25) (.tmp 113), none, [13]⟩], 
  [
  ⟨(some (26)), .move (.tmp 114), none, []⟩]]
theorem k_law03_CathodeTicks_r17_sg : segs k_law03_CathodeTicks_r17 = k_law03_CathodeTicks_r17s := by kernel_rfl
theorem k_law03_CathodeTicks_r17_st : statOK k_law03_CathodeTicks_r17 = true := by kernel_rfl
def k_law03_CathodeTicks_r18 : List AOper := [
  ⟨(some (115)), .load (some (13)) (.tmp 19), none, []⟩, 
  ⟨(some (116)), .load (some (13)) (.tmp 21), none, []⟩, 
  ⟨(some (117)), .eqAgg true [.int, .int, .int, .int, .int, .int, .int, .int, .int, .int, .int, .int, .int] (.tmp 115) (.tmp 116), none, []⟩, 
  ⟨(some (118)), .move (.tmp 117), none, []⟩, 
  ⟨(some (119)), .move (.tmp 20), (some (118, false)), []⟩, 
  ⟨(some (120)), .move (.tmp 22), (some (118, false)), []⟩, 
  ⟨(some (121)), .bin .plain .neq (.tmp 119) (.tmp 120), (some (118, false)), []⟩, 
  ⟨(some (122)), .pick (.tmp 118) (.const (.bool true)) (.tmp 121), none, []⟩, 
  ⟨(some (123)), .move (.tmp 122), none, []⟩, 
  ⟨(some (124)), .load (some (13)) (.tmp 23), (some (123, false)), []⟩, 
  ⟨(some (125)), .load (some (13)) (.tmp 25), (some (123, false)), []⟩, 
  ⟨(some (126)), .eqAgg true [.int, .int, .int, .int, .int, .int, .int, .int, .int, .int, .int, .int, .int] (.tmp 124) (.tmp 125), (some (123, false)), []⟩, 
  ⟨(some (127)), .pick (.tmp 123) (.const (.bool true)) (.tmp 126), none, []⟩, 
  ⟨(some (128)), .move (.tmp 127), none, []⟩, 
  ⟨(some (129)), .move (.tmp 24), (some (128, false)), []⟩, 
  ⟨(some (130)), .move (.tmp 26), (some (128, false)), []⟩, 
  ⟨(some (131)), .bin .plain .neq (.tmp 129) (.tmp 130), (some (128, false)), []⟩, 
  ⟨(some (132)), .pick (.tmp 128) (.const (.bool true)) (.tmp 131), none, []⟩]
def k_law03_CathodeTicks_r19 : List AOper := [
  ⟨(some (10)), .move (.const (.bool false)), none, []⟩]
def k_law03_CathodeTicks_r20 : List AOper := [
  ⟨(some (69)), .move (.tmp 18), none, []⟩, 
  ⟨(some (70)), .bin .plain .add (.tmp 69) (.const (.int .i64 1)), none, []⟩, 
  ⟨(some (18)), .move (.tmp 70), none, []⟩]
def k_law03_CathodeTicks_r21 : ACode := (.seq (.seq (.reg k_law03_CathodeTicks_r13 false) (.cond (.tmp 68) .skip (.exit 0))) (.seq (.block 1 (.seq (.reg k_law03_CathodeTicks_r14 false) (.seq (.reg k_law03_CathodeTicks_r15 false) (.seq (.reg k_law03_CathodeTicks_r16 true) (.seq (.reg k_law03_CathodeTicks_r17 true) (.seq (.reg k_law03_CathodeTicks_r18 false) (.cond (.tmp 132) (.seq (.reg k_law03_CathodeTicks_r19 false) .ret) .skip))))))) (.reg k_law03_CathodeTicks_r20 false)))
def k_law03_CathodeTicks_r22 : List AOper := [
  ⟨(some (133)), .call (.const (.fn (.func 18) [] [])) [], none, []⟩, 
  ⟨(some (10)), .move (.tmp 133), none, []⟩]
def k_law03_CathodeTicks : AFun := { params := 5, ntmps := 134, body := (.seq (.reg k_law03_CathodeTicks_r0 false) (.seq (.seq (.reg k_law03_CathodeTicks_r1 false) (.cond (.tmp 30) (.seq (.reg k_law03_CathodeTicks_r2 false) .ret) .skip)) (.seq (.reg k_law03_CathodeTicks_r3 false) (.seq (.reg k_law03_CathodeTicks_r4 false) (.seq (.reg k_law03_CathodeTicks_r5 true) (.seq (.reg k_law03_CathodeTicks_r6 false) (.seq (.seq (.reg k_law03_CathodeTicks_r7 false) (.cond (.tmp 46) (.reg k_law03_CathodeTicks_r8 false) .skip)) (.seq (.seq (.reg k_law03_CathodeTicks_r9 false) (.cond (.tmp 54) (.reg k_law03_CathodeTicks_r10 false) .skip)) (.seq (.reg k_law03_CathodeTicks_r11 true) (.seq (.seq (.reg k_law03_CathodeTicks_r12 false) (.block 0 (.loop k_law03_CathodeTicks_r21))) (.seq (.reg k_law03_CathodeTicks_r22 false) .ret))))))))))), res := [.tmp 10] }
theorem k_law03_CathodeTicks_ok : cfun Try.prog Try.f4 = k_law03_CathodeTicks := by kernel_rfl


abbrev n_law03_CathodeTicks : Nat := 4
theorem e_law03_CathodeTicks : EntryOK Try.prog n_law03_CathodeTicks k_law03_CathodeTicks := ⟨Try.f4, Try.func4, k_law03_CathodeTicks_ok, by kernel_rfl⟩

attribute [go_sem] k_law03_CathodeTicks_r0 k_law03_CathodeTicks_r1 k_law03_CathodeTicks_r2 k_law03_CathodeTicks_r3 k_law03_CathodeTicks_r4 k_law03_CathodeTicks_r5s k_law03_CathodeTicks_r6 k_law03_CathodeTicks_r7 k_law03_CathodeTicks_r8 k_law03_CathodeTicks_r9 k_law03_CathodeTicks_r10 k_law03_CathodeTicks_r11s
attribute [go_sem] k_law03_CathodeTicks_r12 k_law03_CathodeTicks_r13 k_law03_CathodeTicks_r14 k_law03_CathodeTicks_r15 k_law03_CathodeTicks_r16s k_law03_CathodeTicks_r17s k_law03_CathodeTicks_r18 k_law03_CathodeTicks_r19 k_law03_CathodeTicks_r20 k_law03_CathodeTicks_r22 k_law03_CathodeTicks_r11_sg k_law03_CathodeTicks_r5_sg
attribute [go_sem] k_law03_CathodeTicks_r16_sg k_law03_CathodeTicks_r17_sg k_law03_CathodeTicks_r11_st k_law03_CathodeTicks_r5_st k_law03_CathodeTicks_r16_st k_law03_CathodeTicks_r17_st k_law03_CathodeTicks
end Go.Proofs
