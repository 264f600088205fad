/- A part of the proof. -/
import Derived.Test.YtigaafcllfjniaaPE
set_option linter.unusedSimpArgs false
set_option linter.unusedVariables false
namespace Go.Proofs
open Go Go.Sx
attribute [local irreducible] Run

set_option maxHeartbeats 1000000 in
theorem SameCoatings_run (l : List Cg) (hl : l.length ≤ 1000) : Ans Try.prog n_kit_SameCoatings [.view (l.map Cg.v), .view (l.map Cg.v)] [] (.bool true) [] := by
  have g0 : ((l.length : Int) != l.length) = false := by simp
  refine spec_run e_kit_SameCoatings fun G => ?_
  simp only [go_sem, List.length_map, g0]
  refine loop_ind k_kit_SameCoatings_r8.eq_1 (fun a : Nat => a ≤ l.length) (fun a => l.length - a)
    (fun a => (tsets 26 [(0, .view (l.map Cg.v)), (1, .view (l.map Cg.v)), (5, .int .i64 a)], [])) 0 (Nat.zero_le _) (by simp [go_sem]) rfl ?_
  intro i hi ih
  dsimp only at ih ⊢
  by_cases h1 : i < l.length
  · have h2 : (i : Int) < l.length := by omega
    have n0 : ¬ (i : Int) < 0 := by omega
    have hx : l[i]? = some l[i] := List.getElem?_eq_getElem h1
    have h3 := idx_next h1 (by omega)
    generalize l[i] = z at *
    simp only [go_sem, List.length_map, h2, n0, hx, h3, Cg.v, Cg.cs]
    exact ih (i + 1) (by omega) h1 _ (by simp [go_sem])
  · have h2 : ¬ (i : Int) < l.length := by omega
    simp only [go_sem, List.length_map, h2]

set_option maxHeartbeats 1000000 in
theorem rSame_run (c : Ct) (hl : c.bands.length ≤ 1000) : Ans Try.prog n_ref03_Same [c.v (.view (c.bands.map Bd.v)), c.v (.view (c.bands.map Bd.v))] [] (.bool true) [] := by
  have g0 : ((c.bands.length : Int) != c.bands.length) = false := by simp
  have b0 : ∀ x : Int, (x != x) = false := fun x => by simp
  refine spec_run e_ref03_Same fun G => ?_
  simp only [go_sem, List.length_map, g0, b0, Ct.v, Ct.cs]
  refine loop_ind k_ref03_Same_r8.eq_1 (fun a : Nat => a ≤ c.bands.length) (fun a => c.bands.length - a)
    (fun a => (tsets 59 [(2, .ptr 0 0 0 1), (3, .ptr 1 0 0 1), (5, .int .i64 a)], [some (.cells false 7 [c.v (.view (c.bands.map Bd.v))]), some (.cells false 7 [c.v (.view (c.bands.map Bd.v))])])) 0 (Nat.zero_le _) (by simp [go_sem]) rfl ?_
  intro i hi ih
  dsimp only at ih ⊢
  by_cases h1 : i < c.bands.length
  · have h2 : (i : Int) < c.bands.length := by omega
    have n0 : ¬ (i : Int) < 0 := by omega
    have hx : c.bands[i]? = some c.bands[i] := List.getElem?_eq_getElem h1
    have h3 := idx_next h1 (by omega)
    generalize c.bands[i] = z at *
    simp only [go_sem, List.length_map, h2, n0, hx, h3, Bd.v, Bd.cs, Ct.v, Ct.cs]
    exact ih (i + 1) (by omega) h1 _ (by simp [go_sem])
  · have h2 : ¬ (i : Int) < c.bands.length := by omega
    simp only [go_sem, List.length_map, h2, Ct.v, Ct.cs]
end Go.Proofs
namespace Go.Proofs
open Go Go.Sx

-- 5: thermion/thermionlaw03.CathodeFollows
def k_law03_CathodeFollows_r0 : List AOper := [
  ⟨(some (3)), .box (.tmp 0), none, []⟩, 
  ⟨(some (6)), .move (.const (.bool false)), none, []⟩]
def k_law03_CathodeFollows_r1 : List AOper := [
  ⟨(some (19)), .fieldAddr 6 (.tmp 3), none, []⟩, 
  ⟨(some (20)), .load none (.tmp 19), none, []⟩, 
  ⟨(some (21)), .len false (.tmp 20), none, []⟩, 
  ⟨(some (22)), .bin .plain .gtr (.tmp 21) (.const (.int .i64 30)), none, []⟩, 
  ⟨(some (23)), .move (.tmp 22), none, []⟩, 
  ⟨(some (24)), .move (.tmp 1), (some (23, false)), []⟩, 
  ⟨(some (25)), .len false (.tmp 24), (some (23, false)), []⟩, 
  ⟨(some (26)), .bin .plain .gtr (.tmp 25) (.const (.int .i64 60)), (some (23, false)), []⟩, 
  ⟨(some (27)), .pick (.tmp 23) (.const (.bool true)) (.tmp 26), none, []⟩]
def k_law03_CathodeFollows_r2 : List AOper := [
  ⟨(some (28)), .call (.const (.fn (.func 18) [] [])) [], none, []⟩, 
  ⟨(some (6)), .move (.tmp 28), none, []⟩]
def k_law03_CathodeFollows_r3 : List AOper := [
  ⟨(some (29)), .move (.tmp 2), none, []⟩, 
  ⟨(some (30)), .call (.const (.fn (.func 19) [] [])) [.tmp 29], none, []⟩, 
  ⟨(some (7)), .move (.tmp 30), none, []⟩]
def k_law03_CathodeFollows_r4 : List AOper := [
  ⟨(some (31)), .move (.tmp 7), none, []⟩, 
  ⟨(some (32)), .call (.const (.fn (.func 20) [] [])) [.tmp 31], none, []⟩, 
  ⟨(some (33)), .move (.tmp 7), none, []⟩, 
  ⟨(some (34)), .call (.const (.fn (.func 21) [] [])) [.tmp 33, .const (.int .i64 12), .const (.int .i64 60)], none, []⟩, 
  ⟨(some (8)), .box (.const (.agg [.int .i64 0, .int .i64 0, .int .i64 0, .int .i64 0, .int .i64 0, .int .i64 0, .nilsl])), none, []⟩, 
  ⟨none, .store 7 (.tmp 8) (.tmp 32), none, []⟩, 
  ⟨(some (9)), .move (.tmp 34), none, []⟩]
def k_law03_CathodeFollows_r5 : List AOper := [
  ⟨(some (36)), .load (some (7)) (.tmp 3), none, []⟩, 
  ⟨(some (37)), .move (.tmp 1), none, []⟩, 
  ⟨(some (38)), .call (.const (.fn (.func 39) [] [])) [.tmp 36, .tmp 37], none, []⟩, 
  ⟨(some (35)), .move (.tmp 38), none, []⟩, 
  ⟨(some (39)), .extract (.tmp 35) 0, none, []⟩, 
  ⟨(some (40)), .extract (.tmp 35) 1, none, []⟩, 
  ⟨(some (10)), .move (.tmp 39), none, []⟩, 
  ⟨(some (11)), .move (.tmp 40), none, []⟩]
def k_law03_CathodeFollows_r6 : List AOper := [
  ⟨(some (42)), .load (some (7)) (.tmp 3), none, []⟩, 
  ⟨(some (43)), .move (.tmp 1), none, []⟩, 
  ⟨(some (44)), .call (.const (.fn (.func 34) [] [])) [.tmp 42, .tmp 43], none, []⟩, 
  ⟨(some (41)), .move (.tmp 44), none, []⟩, 
  ⟨(some (45)), .extract (.tmp 41) 0, none, []⟩, 
  ⟨(some (46)), .extract (.tmp 41) 1, none, []⟩, 
  ⟨(some (12)), .move (.tmp 45), none, []⟩, 
  ⟨(some (13)), .move (.tmp 46), none, []⟩]
def k_law03_CathodeFollows_r7 : List AOper := [
  ⟨(some (47)), .load (some (7)) (.tmp 8), none, []⟩, 
  ⟨(some (48)), .call (.const (.fn (.func 24) [] [])) [.tmp 47], none, []⟩, 
  ⟨(some (14)), .box (.const (.agg [.int .i64 0, .int .i64 0, .int .i64 0, .int .i64 0, .int .i64 0, .int .i64 0, .nilsl])), none, []⟩, 
  ⟨none, .store 7 (.tmp 14) (.tmp 48), none, []⟩]
def k_law03_CathodeFollows_r8 : List AOper := [
  ⟨(some (50)), .load (some (7)) (.tmp 14), none, []⟩, 
  ⟨(some (51)), .move (.tmp 9), none, []⟩, 
  ⟨(some (52)), .call (.const (.fn (.func 39) [] [])) [.tmp 50, .tmp 51], none, []⟩, 
  ⟨(some (49)), .move (.tmp 52), none, []⟩, 
  ⟨(some (53)), .extract (.tmp 49) 0, none, []⟩, 
  ⟨(some (54)), .extract (.tmp 49) 1, none, []⟩, 
  ⟨(some (15)), .move (.tmp 53), none, []⟩, 
  ⟨(some (16)), .move (.tmp 54), none, []⟩]
def k_law03_CathodeFollows_r9 : List AOper := [
  ⟨(some (56)), .load (some (7)) (.tmp 8), none, []⟩, 
  ⟨(some (57)), .move (.tmp 9), none, []⟩, 
  ⟨(some (58)), .call (.const (.fn (.func 34) [] [])) [.tmp 56, .tmp 57], none, []⟩, 
  ⟨(some (55)), .move (.tmp 58), none, []⟩, 
  ⟨(some (59)), .extract (.tmp 55) 0, none, []⟩, 
  ⟨(some (60)), .extract (.tmp 55) 1, none, []⟩, 
  ⟨(some (17)), .move (.tmp 59), none, []⟩, 
  ⟨(some (18)), .move (.tmp 60), none, []⟩]
def k_law03_CathodeFollows_r10 : List AOper := [
  ⟨(some (61)), .move (.tmp 10), none, []⟩, 
  ⟨(some (62)), .move (.tmp 12), none, []⟩, 
  ⟨(some (63)), .call (.const (.fn (.func 40) [] [])) [.tmp 61, .tmp 62], none, []⟩, 
  ⟨(some (64)), .move (.tmp 63), none, []⟩, 
  ⟨(some (65)), .move (.tmp 11), (some (64, true)), []⟩, 
  ⟨(some (66)), .move (.tmp 13), (some (64, true)), []⟩, 
  ⟨(some (67)), .bin .plain .eql (.tmp 65) (.tmp 66), (some (64, true)), []⟩, 
  ⟨(some (68)), .pick (.tmp 64) (.tmp 67) (.const (.bool false)), none, []⟩, 
  ⟨(some (69)), .move (.tmp 68), none, []⟩, 
  ⟨(some (70)), .move (.tmp 15), (some (69, true)), []⟩, 
  ⟨(some (71)), .move (.tmp 17), (some (69, true)), []⟩, 
  ⟨(some (72)), .call (.const (.fn (.func 40) [] [])) [.tmp 70, .tmp 71], (some (69, true)), []⟩, 
  ⟨(some (73)), .pick (.tmp 69) (.tmp 72) (.const (.bool false)), none, []⟩, 
  ⟨(some (74)), .move (.tmp 73), none, []⟩, 
  ⟨(some (75)), .move (.tmp 16), (some (74, true)), []⟩, 
  ⟨(some (76)), .move (.tmp 18), (some (74, true)), []⟩, 
  ⟨(some (77)), .bin .plain .eql (.tmp 75) (.tmp 76), (some (74, true)), []⟩, 
  ⟨(some (78)), .pick (.tmp 74) (.tmp 77) (.const (.bool false)), none, []⟩, 
  ⟨(some (79)), .move (.tmp 78), none, []⟩, 
  ⟨(some (80)), .load (some (7)) (.tmp 14), (some (79, true)), []⟩, 
  ⟨(some (81)), .load (some (7)) (.tmp 8), (some (79, true)), []⟩, 
  ⟨(some (82)), .call (.const (.fn (.func 32) [] [])) [.tmp 80, .tmp 81], (some (79, true)), []⟩, 
  ⟨(some (83)), .pick (.tmp 79) (.tmp 82) (.const (.bool false)), none, []⟩, 
  ⟨(some (84)), .move (.tmp 83), none, []⟩, 
  ⟨(some (85)), .call (.const (.fn (.func 18) [] [])) [], (some (84, true)), []⟩, 
  ⟨(some (86)), .pick (.tmp 84) (.tmp 85) (.const (.bool false)), none, []⟩, 
  ⟨(some (6)), .move (.tmp 86), none, []⟩]
def k_law03_CathodeFollows : AFun := { params := 3, ntmps := 87, body := (.seq (.reg k_law03_CathodeFollows_r0 false) (.seq (.seq (.reg k_law03_CathodeFollows_r1 false) (.cond (.tmp 27) (.seq (.reg k_law03_CathodeFollows_r2 false) .ret) .skip)) (.seq (.reg k_law03_CathodeFollows_r3 false) (.seq (.reg k_law03_CathodeFollows_r4 false) (.seq (.reg k_law03_CathodeFollows_r5 false) (.seq (.reg k_law03_CathodeFollows_r6 false) (.seq (.reg k_law03_CathodeFollows_r7 false) (.seq (.reg k_law03_CathodeFollows_r8 false) (.seq (.reg k_law03_CathodeFollows_r9 false) (.seq (.reg k_law03_CathodeFollows_r10 false) .ret)))))))))), res := [.tmp 6] }
theorem k_law03_CathodeFollows_ok : cfun Try.prog Try.f5 = k_law03_CathodeFollows := by kernel_rfl


abbrev n_law03_CathodeFollows : Nat := 5
theorem e_law03_CathodeFollows : EntryOK Try.prog n_law03_CathodeFollows k_law03_CathodeFollows := ⟨Try.f5, Try.func5, k_law03_CathodeFollows_ok, by kernel_rfl⟩

attribute [go_sem] k_law03_CathodeFollows_r0 k_law03_CathodeFollows_r1 k_law03_CathodeFollows_r2 k_law03_CathodeFollows_r3 k_law03_CathodeFollows_r4 k_law03_CathodeFollows_r5 k_law03_CathodeFollows_r6 k_law03_CathodeFollows_r7 k_law03_CathodeFollows_r8 k_law03_CathodeFollows_r9 k_law03_CathodeFollows_r10 k_law03_CathodeFollows
end Go.Proofs
namespace Go.Proofs
open Go Go.Sx
attribute [local irreducible] Run

/-- What follows a schedule, for the program and the reference. -/
theorem follow_both (c : Ct) (hc : c.bands.length ≤ 1000) (l : List Ht) (hl : l.length ≤ 1000) :
    (∃ e, Ans Try.prog n_cathode_Follow [c.v (.view (c.bands.map Bd.v)), .view (l.map Ht.v)] [] (.tup [.nilsl, .int .i64 e]) [] ∧ Ans Try.prog n_ref03_Follow [c.v (.view (c.bands.map Bd.v)), .view (l.map Ht.v)] [] (.tup [.nilsl, .int .i64 e]) []) ∨
    (∃ F : List Cg, F.length ≤ 1000 ∧ Ans Try.prog n_cathode_Follow [c.v (.view (c.bands.map Bd.v)), .view (l.map Ht.v)] [] (.tup [.sl 0 0 F.length, .int .i64 0]) [some (CgR F)] ∧ Ans Try.prog n_ref03_Follow [c.v (.view (c.bands.map Bd.v)), .view (l.map Ht.v)] [] (.tup [.sl 0 0 F.length, .int .i64 0]) [some (CgR F)]) := by
  by_cases he : chkF c l = 0
  · have h1 : CtOK c ∧ LsOK l := by
      unfold chkF at he
      by_cases h : chkC c = 0
      · rw [if_pos h] at he; exact ⟨chkC_ok h, chkS_ok he⟩
      · rw [if_neg h] at he; exact absurd he h
    by_cases h0 : l = []
    · subst h0
      exact .inl ⟨0, Follow_nil c h1.1, rFollow_nil c h1.1⟩
    · have hfl : (follow c l).length = l.length := followX_len c _ _
      have a := Follow_run c h1.1 l h1.2 h0
      have b := rFollow_run c h1.1 l h1.2 h0
      rw [← hfl] at a b
      exact .inr ⟨follow c l, by omega, a, b⟩
  · exact .inl ⟨_, Follow_err c hc l hl he, rFollow_err c hc l hl he⟩
theorem cg_frz {F : List Cg} {H : Heap} {j n : Nat} (h : H[j]? = some (some (CgR F))) (hn : n = F.length) : frz 6 H (.sl j 0 n) = .view (F.map Cg.v) := by
  rw [frz_sl (d := 5) h (by simpa using hn), List.map_map]; rfl

set_option maxRecDepth 20000 in
set_option maxHeartbeats 8000000 in
theorem follows_ok (c : Ct) (l : List Ht) (xs : List Int) (hxs : xs.length ≤ 9223372036854775807) : Ans Try.prog n_law03_CathodeFollows [c.v (.view (c.bands.map Bd.v)), .view (l.map Ht.v), .view (xs.map (.int .i64))] [] (.bool true) [] := by
  have hd := newdice_ok xs hxs
  generalize seedW xs = w at *
  refine spec_run e_law03_CathodeFollows fun G => ?_
  by_cases k1 : (30 : Int) < c.bands.length
  · simp only [go_sem, Ct.v, Ct.cs, List.length_map, k1]
    refine cP awake_ok ?_
    simp only [go_sem]
  by_cases k2 : (60 : Int) < l.length
  · simp only [go_sem, Ct.v, Ct.cs, List.length_map, k1, k2]
    refine cP awake_ok ?_
    simp only [go_sem]
  have hraw := follow_both c (by omega) l (by omega)
  have v0 : ∀ (H : Heap), frz 6 H (c.v (.view (c.bands.map Bd.v))) = c.v (.view (c.bands.map Bd.v)) := fun H => by simp only [go_sem, frz, bds_frz, Ct.v, Ct.cs]
  have l0 : ∀ (H : Heap), frz 6 H (.view (l.map Ht.v)) = .view (l.map Ht.v) := fun H => by
    show AVal.view ((l.map Ht.v).map (frz 5 H)) = _
    rw [hts_frz]
  simp only [go_sem, Ct.v, Ct.cs, List.length_map, k1, k2]
  refine callN1 hd ⟨by rw [bel_view]; exact bels_map _ _ fun _ => .int _ _, trivial⟩ (dr_bel _ _) (by simp) (by simp) ?_
  simp only [go_sem]
  refine callDN (coatOf_run w) rfl trivial (dr_bel _ _) (fun a ha => ⟨by simp only [go_sem], by simp only [go_sem], by simp only [go_sem]⟩) (by simp) (by simp) ?_
  rintro ⟨m, w1⟩ hm
  dsimp only at hm
  simp only [go_sem, Ct.v, Ct.cs, ren, rens]
  refine callDS (scheduleOf_run w1 12 60 (by decide) (by decide)) rfl ⟨.int _ _, .int _ _, trivial⟩ (dr_bel _ _) (fun a ha => ⟨by simp only [go_sem], by simp only [go_sem]⟩) (by simp) (by simp) ?_
  rintro ⟨p, w2⟩ hp
  dsimp only at hp
  have hps := hp.ok (by decide) (by decide) (by decide)
  have hml := hm.len
  have hcp := Copy_run m hm
  have hsm := rSame_run m (by omega)
  have hs0 := SameCoatings_run [] (by simp)
  by_cases hnil : p = []
  · have e1 : slv 3 (List.map Ht.v p) = .nilsl := by rw [hnil]; rfl
    have e2 : slrG true 3 (List.map Ht.v p) = [] := by rw [hnil]; rfl
    rcases hraw with ⟨e, ha, hb⟩ | ⟨F, hF, ha, hb⟩
    · have z0 : (e == e) = true := by simp
      simp only [go_sem, e1, e2, Ct.v, Ct.cs]
      refine cF ha 6 ⟨.inl (v0 _), .inl (l0 _), trivial⟩ ?_
      simp only [go_sem, Ct.v, Ct.cs]
      refine cF hb 6 ⟨.inl (v0 _), .inl (l0 _), trivial⟩ ?_
      simp only [go_sem, Ct.v, Ct.cs]
      refine cFN hcp 6 ⟨.inl (ct_frz (H := _) rfl), trivial⟩ ?_
      simp only [go_sem, Ct.v, Ct.cs, ren, rens]
      refine cF (Follow_nil m hm) 6 ⟨.inl (ct_frz (H := _) rfl), .inr ⟨rfl, rfl⟩, trivial⟩ ?_
      simp only [go_sem, Ct.v, Ct.cs]
      refine cF (rFollow_nil m hm) 6 ⟨.inl (ct_frz (H := _) rfl), .inr ⟨rfl, rfl⟩, trivial⟩ ?_
      simp only [go_sem, Ct.v, Ct.cs]
      refine cF hs0 6 ⟨.inr ⟨rfl, rfl⟩, .inr ⟨rfl, rfl⟩, trivial⟩ ?_
      simp only [go_sem, z0]
      refine cF hs0 6 ⟨.inr ⟨rfl, rfl⟩, .inr ⟨rfl, rfl⟩, trivial⟩ ?_
      simp only [go_sem, Int.reduceBEq, Ct.v, Ct.cs]
      refine cF hsm 6 ⟨.inl (ct_frz (H := _) rfl), .inl (ct_frz (H := _) rfl), trivial⟩ ?_
      simp only [go_sem]
      refine cP awake_ok ?_
      simp only [go_sem]
    · simp only [go_sem, e1, e2, Ct.v, Ct.cs]
      refine cFN ha 6 ⟨.inl (v0 _), .inl (l0 _), trivial⟩ ?_
      simp only [go_sem, Ct.v, Ct.cs, ren, rens]
      refine cFN hb 6 ⟨.inl (v0 _), .inl (l0 _), trivial⟩ ?_
      simp only [go_sem, Ct.v, Ct.cs, ren, rens]
      refine cFN hcp 6 ⟨.inl (ct_frz (H := _) rfl), trivial⟩ ?_
      simp only [go_sem, Ct.v, Ct.cs, ren, rens]
      refine cF (Follow_nil m hm) 6 ⟨.inl (ct_frz (H := _) rfl), .inr ⟨rfl, rfl⟩, trivial⟩ ?_
      simp only [go_sem, Ct.v, Ct.cs]
      refine cF (rFollow_nil m hm) 6 ⟨.inl (ct_frz (H := _) rfl), .inr ⟨rfl, rfl⟩, trivial⟩ ?_
      simp only [go_sem, Ct.v, Ct.cs]
      refine cF (SameCoatings_run F hF) 6 ⟨.inl (cg_frz (H := _) rfl rfl), .inl (cg_frz (H := _) rfl rfl), trivial⟩ ?_
      simp only [go_sem, Int.reduceBEq]
      refine cF hs0 6 ⟨.inr ⟨rfl, rfl⟩, .inr ⟨rfl, rfl⟩, trivial⟩ ?_
      simp only [go_sem, Int.reduceBEq, Ct.v, Ct.cs]
      refine cF hsm 6 ⟨.inl (ct_frz (H := _) rfl), .inl (ct_frz (H := _) rfl), trivial⟩ ?_
      simp only [go_sem]
      refine cP awake_ok ?_
      simp only [go_sem]
  have hne : List.map Ht.v p ≠ [] := by simpa using hnil
  have e1 : slv 3 (List.map Ht.v p) = .sl 3 0 p.length := by unfold slv; rw [if_neg hne, List.length_map]
  have e2 : slrG true 3 (List.map Ht.v p) = [some (.cells true 3 (List.map Ht.v p))] := by unfold slrG; rw [if_neg hne]
  have hfa := Follow_run m hm p hps hnil
  have hfb := rFollow_run m hm p hps hnil
  have hfl : (follow m p).length = p.length := followX_len m _ _
  have hpl := hps.len
  rw [← hfl] at hfa hfb
  rcases hraw with ⟨e, ha, hb⟩ | ⟨F, hF, ha, hb⟩
  · have z0 : (e == e) = true := by simp
    simp only [go_sem, e1, e2, Ct.v, Ct.cs]
    refine cF ha 6 ⟨.inl (v0 _), .inl (l0 _), trivial⟩ ?_
    simp only [go_sem, Ct.v, Ct.cs]
    refine cF hb 6 ⟨.inl (v0 _), .inl (l0 _), trivial⟩ ?_
    simp only [go_sem, Ct.v, Ct.cs]
    refine cFN hcp 6 ⟨.inl (ct_frz (H := _) rfl), trivial⟩ ?_
    simp only [go_sem, Ct.v, Ct.cs, ren, rens]
    refine cFN hfa 6 ⟨.inl (ct_frz (H := _) rfl), .inl (sch_frz (H := _) rfl rfl), trivial⟩ ?_
    simp only [go_sem, Ct.v, Ct.cs, ren, rens]
    refine cFN hfb 6 ⟨.inl (ct_frz (H := _) rfl), .inl (sch_frz (H := _) rfl rfl), trivial⟩ ?_
    simp only [go_sem, Ct.v, Ct.cs, ren, rens]
    refine cF hs0 6 ⟨.inr ⟨rfl, rfl⟩, .inr ⟨rfl, rfl⟩, trivial⟩ ?_
    simp only [go_sem, z0]
    refine cF (SameCoatings_run (follow m p) (by omega)) 6 ⟨.inl (cg_frz (H := _) rfl rfl), .inl (cg_frz (H := _) rfl rfl), trivial⟩ ?_
    simp only [go_sem, Int.reduceBEq, Ct.v, Ct.cs]
    refine cF hsm 6 ⟨.inl (ct_frz (H := _) rfl), .inl (ct_frz (H := _) rfl), trivial⟩ ?_
    simp only [go_sem]
    refine cP awake_ok ?_
    simp only [go_sem]
  · simp only [go_sem, e1, e2, Ct.v, Ct.cs]
    refine cFN ha 6 ⟨.inl (v0 _), .inl (l0 _), trivial⟩ ?_
    simp only [go_sem, Ct.v, Ct.cs, ren, rens]
    refine cFN hb 6 ⟨.inl (v0 _), .inl (l0 _), trivial⟩ ?_
    simp only [go_sem, Ct.v, Ct.cs, ren, rens]
    refine cFN hcp 6 ⟨.inl (ct_frz (H := _) rfl), trivial⟩ ?_
    simp only [go_sem, Ct.v, Ct.cs, ren, rens]
    refine cFN hfa 6 ⟨.inl (ct_frz (H := _) rfl), .inl (sch_frz (H := _) rfl rfl), trivial⟩ ?_
    simp only [go_sem, Ct.v, Ct.cs, ren, rens]
    refine cFN hfb 6 ⟨.inl (ct_frz (H := _) rfl), .inl (sch_frz (H := _) rfl rfl), trivial⟩ ?_
    simp only [go_sem, Ct.v, Ct.cs, ren, rens]
    refine cF (SameCoatings_run F hF) 6 ⟨.inl (cg_frz (H := _) rfl rfl), .inl (cg_frz (H := _) rfl rfl), trivial⟩ ?_
    simp only [go_sem, Int.reduceBEq]
    refine cF (SameCoatings_run (follow m p) (by omega)) 6 ⟨.inl (cg_frz (H := _) rfl rfl), .inl (cg_frz (H := _) rfl rfl), trivial⟩ ?_
    simp only [go_sem, Int.reduceBEq, Ct.v, Ct.cs]
    refine cF hsm 6 ⟨.inl (ct_frz (H := _) rfl), .inl (ct_frz (H := _) rfl), trivial⟩ ?_
    simp only [go_sem]
    refine cP awake_ok ?_
    simp only [go_sem]
end Go.Proofs
namespace Go.Proofs
open Go Go.Sx
attribute [local irreducible] AT
set_option maxRecDepth 100000

theorem at_heating {n : Nat} {vs : List AVal} (h : AT Try.prog (n + 2) 32 vs) : ∃ z : Ht, vs = z.cs ∧ I64 z.ticks ∧ I64 z.heat ∧ I64 z.cur := by
  obtain ⟨a, _, rfl, ha, b, _, rfl, hb, c, _, rfl, hc, rfl⟩ := at_struct Try.underlying32 h
  obtain ⟨x, rfl, hx⟩ := atn_int ha
  obtain ⟨y, rfl, hy⟩ := atn_int hb
  obtain ⟨z, rfl, hz⟩ := atn_int hc
  exact ⟨⟨x, y, z⟩, rfl, hx, hy, hz⟩
theorem at_schedule {n : Nat} {x : AVal} (h : AT Try.prog (n + 3) 29 [x]) : ∃ l : List Ht, x = .view (l.map Ht.v) ∧ l.length ≤ maxLen := by
  obtain ⟨es, h1, hl, he⟩ := at_slice Try.underlying29 h
  obtain rfl : x = .view es := by simpa using h1
  have hg : aggT Try.prog 32 = true := by unfold aggT; rw [Try.underlying32]
  obtain ⟨l, rfl, -⟩ := list_map (f := Ht.v) (Q := fun _ => True) es fun x hx => by
    have := he x hx
    rw [if_pos hg] at this
    obtain ⟨ws, rfl, hw⟩ := this
    obtain ⟨z, rfl, _⟩ := at_heating hw
    exact ⟨z, rfl, trivial⟩
  exact ⟨l, rfl, by simpa using hl⟩
end Go.Proofs
