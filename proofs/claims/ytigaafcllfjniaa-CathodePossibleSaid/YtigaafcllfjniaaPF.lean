/- A part of the proof. -/
import Derived.Test.YtigaafcllfjniaaPE
set_option linter.unusedSimpArgs false
set_option linter.unusedVariables false
namespace Go.Proofs
open Go Go.Sx
attribute [local irreducible] Run

set_option maxHeartbeats 1000000 in
theorem SameCoatings_run (l : List Cg) (hl : l.length ≤ 1000) : Ans Try.prog n_kit_SameCoatings [.view (l.map Cg.v), .view (l.map Cg.v)] [] (.bool true) [] := by
  have g0 : ((l.length : Int) != l.length) = false := by simp
  refine spec_run e_kit_SameCoatings fun G => ?_
  simp only [go_sem, List.length_map, g0]
  refine loop_ind k_kit_SameCoatings_r8.eq_1 (fun a : Nat => a ≤ l.length) (fun a => l.length - a)
    (fun a => (tsets 26 [(0, .view (l.map Cg.v)), (1, .view (l.map Cg.v)), (5, .int .i64 a)], [])) 0 (Nat.zero_le _) (by simp [go_sem]) rfl ?_
  intro i hi ih
  dsimp only at ih ⊢
  by_cases h1 : i < l.length
  · have h2 : (i : Int) < l.length := by omega
    have n0 : ¬ (i : Int) < 0 := by omega
    have hx : l[i]? = some l[i] := List.getElem?_eq_getElem h1
    have h3 := idx_next h1 (by omega)
    generalize l[i] = z at *
    simp only [go_sem, List.length_map, h2, n0, hx, h3, Cg.v, Cg.cs]
    exact ih (i + 1) (by omega) h1 _ (by simp [go_sem])
  · have h2 : ¬ (i : Int) < l.length := by omega
    simp only [go_sem, List.length_map, h2]

set_option maxHeartbeats 1000000 in
theorem rSame_run (c : Ct) (hl : c.bands.length ≤ 1000) : Ans Try.prog n_ref03_Same [c.v (.view (c.bands.map Bd.v)), c.v (.view (c.bands.map Bd.v))] [] (.bool true) [] := by
  have g0 : ((c.bands.length : Int) != c.bands.length) = false := by simp
  have b0 : ∀ x : Int, (x != x) = false := fun x => by simp
  refine spec_run e_ref03_Same fun G => ?_
  simp only [go_sem, List.length_map, g0, b0, Ct.v, Ct.cs]
  refine loop_ind k_ref03_Same_r8.eq_1 (fun a : Nat => a ≤ c.bands.length) (fun a => c.bands.length - a)
    (fun a => (tsets 59 [(2, .ptr 0 0 0 1), (3, .ptr 1 0 0 1), (5, .int .i64 a)], [some (.cells false 7 [c.v (.view (c.bands.map Bd.v))]), some (.cells false 7 [c.v (.view (c.bands.map Bd.v))])])) 0 (Nat.zero_le _) (by simp [go_sem]) rfl ?_
  intro i hi ih
  dsimp only at ih ⊢
  by_cases h1 : i < c.bands.length
  · have h2 : (i : Int) < c.bands.length := by omega
    have n0 : ¬ (i : Int) < 0 := by omega
    have hx : c.bands[i]? = some c.bands[i] := List.getElem?_eq_getElem h1
    have h3 := idx_next h1 (by omega)
    generalize c.bands[i] = z at *
    simp only [go_sem, List.length_map, h2, n0, hx, h3, Bd.v, Bd.cs, Ct.v, Ct.cs]
    exact ih (i + 1) (by omega) h1 _ (by simp [go_sem])
  · have h2 : ¬ (i : Int) < c.bands.length := by omega
    simp only [go_sem, List.length_map, h2, Ct.v, Ct.cs]
end Go.Proofs
namespace Go.Proofs
open Go Go.Sx

-- 5: thermion/thermionlaw03.CathodeFollows
def k_law03_CathodeFollows_r0 : List AOper := [
  ⟨(some (3)), .box (.tmp 0), none, []⟩, 
  ⟨(some (6)), .move (.const (.bool false)), none, []⟩]
def k_law03_CathodeFollows_r1 : List AOper := [
  ⟨(some (19)), .fieldAddr 6 (.tmp 3), none, []⟩, 
  ⟨(some (20)), .load none (.tmp 19), none, []⟩, 
  ⟨(some (21)), .len false (.tmp 20), none, []⟩, 
  ⟨(some (22)), .bin .plain .gtr (.tmp 21) (.const (.int .i64 30)), none, []⟩, 
  ⟨(some (23)), .move (.tmp 22), none, []⟩, 
  ⟨(some (24)), .move (.tmp 1), (some (23, false)), []⟩, 
  ⟨(some (25)), .len false (.tmp 24), (some (23, false)), []⟩, 
  ⟨(some (26)), .bin .plain .gtr (.tmp 25) (.const (.int .i64 60)), (some (23, false)), []⟩, 
  ⟨(some (27)), .pick (.tmp 23) (.const (.bool true)) (.tmp 26), none, []⟩]
def k_law03_CathodeFollows_r2 : List AOper := [
  ⟨(some (28)), .call (.const (.fn (.func 18) [] [])) [], none, []⟩, 
  ⟨(some (6)), .move (.tmp 28), none, []⟩]
def k_law03_CathodeFollows_r3 : List AOper := [
  ⟨(some (29)), .move (.tmp 2), none, []⟩, 
  ⟨(some (30)), .call (.const (.fn (.func 19) [] [])) [.tmp 29], none, []⟩, 
  ⟨(some (7)), .move (.tmp 30), none, []⟩]
def k_law03_CathodeFollows_r4 : List AOper := [
  ⟨(some (31)), .move (.tmp 7), none, []⟩, 
  ⟨(some (32)), .call (.const (.fn (.func 20) [] [])) [.tmp 31], none, []⟩, 
  ⟨(some (33)), .move (.tmp 7), none, []⟩, 
  ⟨(some (34)), .call (.const (.fn (.func 21) [] [])) [.tmp 33, .const (.int .i64 12), .const (.int .i64 60)], none, []⟩, 
  ⟨(some (8)), .box (.const (.agg [.int .i64 0, .int .i64 0, .int .i64 0, .int .i64 0, .int .i64 0, .int .i64 0, .nilsl])), none, []⟩, 
  ⟨none, .store 7 (.tmp 8) (.tmp 32), none, []⟩, 
  ⟨(some (9)), .move (.tmp 34), none, []⟩]
def k_law03_CathodeFollows_r5 : List AOper := [
  ⟨(some (36)), .load (some (7)) (.tmp 3), none, []⟩, 
  ⟨(some (37)), .move (.tmp 1), none, []⟩, 
  ⟨(some (38)), .call (.const (.fn (.func 39) [] [])) [.tmp 36, .tmp 37], none, []⟩, 
  ⟨(some (35)), .move (.tmp 38), none, []⟩, 
  ⟨(some (39)), .extract (.tmp 35) 0, none, []⟩, 
  ⟨(some (40)), .extract (.tmp 35) 1, none, []⟩, 
  ⟨(some (10)), .move (.tmp 39), none, []⟩, 
  ⟨(some (11)), .move (.tmp 40), none, []⟩]
def k_law03_CathodeFollows_r6 : List AOper := [
  ⟨(some (42)), .load (some (7)) (.tmp 3), none, []⟩, 
  ⟨(some (43)), .move (.tmp 1), none, []⟩, 
  ⟨(some (44)), .call (.const (.fn (.func 34) [] [])) [.tmp 42, .tmp 43], none, []⟩, 
  ⟨(some (41)), .move (.tmp 44), none, []⟩, 
  ⟨(some (45)), .extract (.tmp 41) 0, none, []⟩, 
  ⟨(some (46)), .extract (.tmp 41) 1, none, []⟩, 
  ⟨(some (12)), .move (.tmp 45), none, []⟩, 
  ⟨(some (13)), .move (.tmp 46), none, []⟩]
def k_law03_CathodeFollows_r7 : List AOper := [
  ⟨(some (47)), .load (some (7)) (.tmp 8), none, []⟩, 
  ⟨(some (48)), .call (.const (.fn (.func 24) [] [])) [.tmp 47], none, []⟩, 
  ⟨(some (14)), .box (.const (.agg [.int .i64 0, .int .i64 0, .int .i64 0, .int .i64 0, .int .i64 0, .int .i64 0, .nilsl])), none, []⟩, 
  ⟨none, .store 7 (.tmp 14) (.tmp 48), none, []⟩]
def k_law03_CathodeFollows_r8 : List AOper := [
  ⟨(some (50)), .load (some (7)) (.tmp 14), none, []⟩, 
  ⟨(some (51)), .move (.tmp 9), none, []⟩, 
  ⟨(some (52)), .call (.const (.fn (.func 39) [] [])) [.tmp 50, .tmp 51], none, []⟩, 
  ⟨(some (49)), .move (.tmp 52), none, []⟩, 
  ⟨(some (53)), .extract (.tmp 49) 0, none, []⟩, 
  ⟨(some (54)), .extract (.tmp 49) 1, none, []⟩, 
  ⟨(some (15)), .move (.tmp 53), none, []⟩, 
  ⟨(some (16)), .move (.tmp 54), none, []⟩]
def k_law03_CathodeFollows_r9 : List AOper := [
  ⟨(some (56)), .load (some (7)) (.tmp 8), none, []⟩, 
  ⟨(some (57)), .move (.tmp 9), none, []⟩, 
  ⟨(some (58)), .call (.const (.fn (.func 34) [] [])) [.tmp 56, .tmp 57], none, []⟩, 
  ⟨(some (55)), .move (.tmp 58), none, []⟩, 
  ⟨(some (59)), .extract (.tmp 55) 0, none, []⟩, 
  ⟨(some (60)), .extract (.tmp 55) 1, none, []⟩, 
  ⟨(some (17)), .move (.tmp 59), none, []⟩, 
  ⟨(some (18)), .move (.tmp 60), none, []⟩]
def k_law03_CathodeFollows_r10 : List AOper := [
  ⟨(some (61)), .move (.tmp 10), none, []⟩, 
  ⟨(some (62)), .move (.tmp 12), none, []⟩, 
  ⟨(some (63)), .call (.const (.fn (.func 40) [] [])) [.tmp 61, .tmp 62], none, []⟩, 
  ⟨(some (64)), .move (.tmp 63), none, []⟩, 
  ⟨(some (65)), .move (.tmp 11), (some (64, true)), []⟩, 
  ⟨(some (66)), .move (.tmp 13), (some (64, true)), []⟩, 
  ⟨(some (67)), .bin .plain .eql (.tmp 65) (.tmp 66), (some (64, true)), []⟩, 
  ⟨(some (68)), .pick (.tmp 64) (.tmp 67) (.const (.bool false)), none, []⟩, 
  ⟨(some (69)), .move (.tmp 68), none, []⟩, 
  ⟨(some (70)), .move (.tmp 15), (some (69, true)), []⟩, 
  ⟨(some (71)), .move (.tmp 17), (some (69, true)), []⟩, 
  ⟨(some (72)), .call (.const (.fn (.func 40) [] [])) [.tmp 70, .tmp 71], (some (69, true)), []⟩, 
  ⟨(some (73)), .pick (.tmp 69) (.tmp 72) (.const (.bool false)), none, []⟩, 
  ⟨(some (74)), .move (.tmp 73), none, []⟩, 
  ⟨(some (75)), .move (.tmp 16), (some (74, true)), []⟩, 
  ⟨(some (76)), .move (.tmp 18), (some (74, true)), []⟩, 
  ⟨(some (77)), .bin .plain .eql (.tmp 75) (.tmp 76), (some (74, true)), []⟩, 
  ⟨(some (78)), .pick (.tmp 74) (.tmp 77) (.const (.bool false)), none, []⟩, 
  ⟨(some (79)), .move (.tmp 78), none, []⟩, 
  ⟨(some (80)), .load (some (7)) (.tmp 14), (some (79, true)), []⟩, 
  ⟨(some (81)), .load (some (7)) (.tmp 8), (some (79, true)), []⟩, 
  ⟨(some (82)), .call (.const (.fn (.func 32) [] [])) [.tmp 80, .tmp 81], (some (79, true)), []⟩, 
  ⟨(some (83)), .pick (.tmp 79) (.tmp 82) (.const (.bool false)), none, []⟩, 
  ⟨(some (84)), .move (.tmp 83), none, []⟩, 
  ⟨(some (85)), .call (.const (.fn (.func 18) [] [])) [], (some (84, true)), []⟩, 
  ⟨(some (86)), .pick (.tmp 84) (.tmp 85) (.const (.bool false)), none, []⟩, 
  ⟨(some (6)), .move (.tmp 86), none, []⟩]
def k_law03_CathodeFollows : AFun := { params := 3, ntmps := 87, body := (.seq (.reg k_law03_CathodeFollows_r0 false) (.seq (.seq (.reg k_law03_CathodeFollows_r1 false) (.cond (.tmp 27) (.seq (.reg k_law03_CathodeFollows_r2 false) .ret) .skip)) (.seq (.reg k_law03_CathodeFollows_r3 false) (.seq (.reg k_law03_CathodeFollows_r4 false) (.seq (.reg k_law03_CathodeFollows_r5 false) (.seq (.reg k_law03_CathodeFollows_r6 false) (.seq (.reg k_law03_CathodeFollows_r7 false) (.seq (.reg k_law03_CathodeFollows_r8 false) (.seq (.reg k_law03_CathodeFollows_r9 false) (.seq (.reg k_law03_CathodeFollows_r10 false) .ret)))))))))), res := [.tmp 6] }
theorem k_law03_CathodeFollows_ok : cfun Try.prog Try.f5 = k_law03_CathodeFollows := by kernel_rfl


abbrev n_law03_CathodeFollows : Nat := 5
theorem e_law03_CathodeFollows : EntryOK Try.prog n_law03_CathodeFollows k_law03_CathodeFollows := ⟨Try.f5, Try.func5, k_law03_CathodeFollows_ok, by kernel_rfl⟩

attribute [go_sem] k_law03_CathodeFollows_r0 k_law03_CathodeFollows_r1 k_law03_CathodeFollows_r2 k_law03_CathodeFollows_r3 k_law03_CathodeFollows_r4 k_law03_CathodeFollows_r5 k_law03_CathodeFollows_r6 k_law03_CathodeFollows_r7 k_law03_CathodeFollows_r8 k_law03_CathodeFollows_r9 k_law03_CathodeFollows_r10 k_law03_CathodeFollows
end Go.Proofs
namespace Go.Proofs
open Go Go.Sx
attribute [local irreducible] Run

/-- What follows a schedule, for the program and the reference. -/
theorem follow_both (c : Ct) (hc : c.bands.length ≤ 1000) (l : List Ht) (hl : l.length ≤ 1000) :
    (∃ e, Ans Try.prog n_cathode_Follow [c.v (.view (c.bands.map Bd.v)), .view (l.map Ht.v)] [] (.tup [.nilsl, .int .i64 e]) [] ∧ Ans Try.prog n_ref03_Follow [c.v (.view (c.bands.map Bd.v)), .view (l.map Ht.v)] [] (.tup [.nilsl, .int .i64 e]) []) ∨
    (∃ F : List Cg, F.length ≤ 1000 ∧ Ans Try.prog n_cathode_Follow [c.v (.view (c.bands.map Bd.v)), .view (l.map Ht.v)] [] (.tup [.sl 0 0 F.length, .int .i64 0]) [some (CgR F)] ∧ Ans Try.prog n_ref03_Follow [c.v (.view (c.bands.map Bd.v)), .view (l.map Ht.v)] [] (.tup [.sl 0 0 F.length, .int .i64 0]) [some (CgR F)]) := by
  by_cases he : chkF c l = 0
  · have h1 : CtOK c ∧ LsOK l := by
      unfold chkF at he
      by_cases h : chkC c = 0
      · rw [if_pos h] at he; exact ⟨chkC_ok h, chkS_ok he⟩
      · rw [if_neg h] at he; exact absurd he h
    by_cases h0 : l = []
    · subst h0
      exact .inl ⟨0, Follow_nil c h1.1, rFollow_nil c h1.1⟩
    · have hfl : (follow c l).length = l.length := followX_len c _ _
      have a := Follow_run c h1.1 l h1.2 h0
      have b := rFollow_run c h1.1 l h1.2 h0
      rw [← hfl] at a b
      exact .inr ⟨follow c l, by omega, a, b⟩
  · exact .inl ⟨_, Follow_err c hc l hl he, rFollow_err c hc l hl he⟩
theorem cg_frz {F : List Cg} {H : Heap} {j n : Nat} (h : H[j]? = some (some (CgR F))) (hn : n = F.length) : frz 6 H (.sl j 0 n) = .view (F.map Cg.v) := by
  rw [frz_sl (d := 5) h (by simpa using hn), List.map_map]; rfl

set_option maxRecDepth 20000 in
set_option maxHeartbeats 8000000 in
theorem follows_ok (c : Ct) (l : List Ht) (xs : List Int) (hxs : xs.length ≤ 9223372036854775807) : Ans Try.prog n_law03_CathodeFollows [c.v (.view (c.bands.map Bd.v)), .view (l.map Ht.v), .view (xs.map (.int .i64))] [] (.bool true) [] := by
  have hd := newdice_ok xs hxs
  generalize seedW xs = w at *
  refine spec_run e_law03_CathodeFollows fun G => ?_
  by_cases k1 : (30 : Int) < c.bands.length
  · simp only [go_sem, Ct.v, Ct.cs, List.length_map, k1]
    refine cP awake_ok ?_
    simp only [go_sem]
  by_cases k2 : (60 : Int) < l.length
  · simp only [go_sem, Ct.v, Ct.cs, List.length_map, k1, k2]
    refine cP awake_ok ?_
    simp only [go_sem]
  have hraw := follow_both c (by omega) l (by omega)
  have v0 : ∀ (H : Heap), frz 6 H (c.v (.view (c.bands.map Bd.v))) = c.v (.view (c.bands.map Bd.v)) := fun H => by simp only [go_sem, frz, bds_frz, Ct.v, Ct.cs]
  have l0 : ∀ (H : Heap), frz 6 H (.view (l.map Ht.v)) = .view (l.map Ht.v) := fun H => by
    show AVal.view ((l.map Ht.v).map (frz 5 H)) = _
    rw [hts_frz]
  simp only [go_sem, Ct.v, Ct.cs, List.length_map, k1, k2]
  refine callN1 hd ⟨by rw [bel_view]; exact bels_map _ _ fun _ => .int _ _, trivial⟩ (dr_bel _ _) (by simp) (by simp) ?_
  simp only [go_sem]
  refine callDN (coatOf_run w) rfl trivial (dr_bel _ _) (fun a ha => ⟨by simp only [go_sem], by simp only [go_sem], by simp only [go_sem]⟩) (by simp) (by simp) ?_
  rintro ⟨m, w1⟩ hm
  dsimp only at hm
  simp only [go_sem, Ct.v, Ct.cs, ren, rens]
  refine callDS (scheduleOf_run w1 12 60 (by decide) (by decide)) rfl ⟨.int _ _, .int _ _, trivial⟩ (dr_bel _ _) (fun a ha => ⟨by simp only [go_sem], by simp only [go_sem]⟩) (by simp) (by simp) ?_
  rintro ⟨p, w2⟩ hp
  dsimp only at hp
  have hps := hp.ok (by decide) (by decide) (by decide)
  have hml := hm.len
  have hcp := Copy_run m hm
  have hsm := rSame_run m (by omega)
  have hs0 := SameCoatings_run [] (by simp)
  by_cases hnil : p = []
  · have e1 : slv 3 (List.map Ht.v p) = .nilsl := by rw [hnil]; rfl
    have e2 : slrG true 3 (List.map Ht.v p) = [] := by rw [hnil]; rfl
    rcases hraw with ⟨e, ha, hb⟩ | ⟨F, hF, ha, hb⟩
    · have z0 : (e == e) = true := by simp
      simp only [go_sem, e1, e2, Ct.v, Ct.cs]
      refine cF ha 6 ⟨.inl (v0 _), .inl (l0 _), trivial⟩ ?_
      simp only [go_sem, Ct.v, Ct.cs]
      refine cF hb 6 ⟨.inl (v0 _), .inl (l0 _), trivial⟩ ?_
      simp only [go_sem, Ct.v, Ct.cs]
      refine cFN hcp 6 ⟨.inl (ct_frz (H := _) rfl), trivial⟩ ?_
      simp only [go_sem, Ct.v, Ct.cs, ren, rens]
      refine cF (Follow_nil m hm) 6 ⟨.inl (ct_frz (H := _) rfl), .inr ⟨rfl, rfl⟩, trivial⟩ ?_
      simp only [go_sem, Ct.v, Ct.cs]
      refine cF (rFollow_nil m hm) 6 ⟨.inl (ct_frz (H := _) rfl), .inr ⟨rfl, rfl⟩, trivial⟩ ?_
      simp only [go_sem, Ct.v, Ct.cs]
      refine cF hs0 6 ⟨.inr ⟨rfl, rfl⟩, .inr ⟨rfl, rfl⟩, trivial⟩ ?_
      simp only [go_sem, z0]
      refine cF hs0 6 ⟨.inr ⟨rfl, rfl⟩, .inr ⟨rfl, rfl⟩, trivial⟩ ?_
      simp only [go_sem, Int.reduceBEq, Ct.v, Ct.cs]
      refine cF hsm 6 ⟨.inl (ct_frz (H := _) rfl), .inl (ct_frz (H := _) rfl), trivial⟩ ?_
      simp only [go_sem]
      refine cP awake_ok ?_
      simp only [go_sem]
    · simp only [go_sem, e1, e2, Ct.v, Ct.cs]
      refine cFN ha 6 ⟨.inl (v0 _), .inl (l0 _), trivial⟩ ?_
      simp only [go_sem, Ct.v, Ct.cs, ren, rens]
      refine cFN hb 6 ⟨.inl (v0 _), .inl (l0 _), trivial⟩ ?_
      simp only [go_sem, Ct.v, Ct.cs, ren, rens]
      refine cFN hcp 6 ⟨.inl (ct_frz (H := _) rfl), trivial⟩ ?_
      simp only [go_sem, Ct.v, Ct.cs, ren, rens]
      refine cF (Follow_nil m hm) 6 ⟨.inl (ct_frz (H := _) rfl), .inr ⟨rfl, rfl⟩, trivial⟩ ?_
      simp only [go_sem, Ct.v, Ct.cs]
      refine cF (rFollow_nil m hm) 6 ⟨.inl (ct_frz (H := _) rfl), .inr ⟨rfl, rfl⟩, trivial⟩ ?_
      simp only [go_sem, Ct.v, Ct.cs]
      refine cF (SameCoatings_run F hF) 6 ⟨.inl (cg_frz (H := _) rfl rfl), .inl (cg_frz (H := _) rfl rfl), trivial⟩ ?_
      simp only [go_sem, Int.reduceBEq]
      refine cF hs0 6 ⟨.inr ⟨rfl, rfl⟩, .inr ⟨rfl, rfl⟩, trivial⟩ ?_
      simp only [go_sem, Int.reduceBEq, Ct.v, Ct.cs]
      refine cF hsm 6 ⟨.inl (ct_frz (H := _) rfl), .inl (ct_frz (H := _) rfl), trivial⟩ ?_
      simp only [go_sem]
      refine cP awake_ok ?_
      simp only [go_sem]
  have hne : List.map Ht.v p ≠ [] := by simpa using hnil
  have e1 : slv 3 (List.map Ht.v p) = .sl 3 0 p.length := by unfold slv; rw [if_neg hne, List.length_map]
  have e2 : slrG true 3 (List.map Ht.v p) = [some (.cells true 3 (List.map Ht.v p))] := by unfold slrG; rw [if_neg hne]
  have hfa := Follow_run m hm p hps hnil
  have hfb := rFollow_run m hm p hps hnil
  have hfl : (follow m p).length = p.length := followX_len m _ _
  have hpl := hps.len
  rw [← hfl] at hfa hfb
  rcases hraw with ⟨e, ha, hb⟩ | ⟨F, hF, ha, hb⟩
  · have z0 : (e == e) = true := by simp
    simp only [go_sem, e1, e2, Ct.v, Ct.cs]
    refine cF ha 6 ⟨.inl (v0 _), .inl (l0 _), trivial⟩ ?_
    simp only [go_sem, Ct.v, Ct.cs]
    refine cF hb 6 ⟨.inl (v0 _), .inl (l0 _), trivial⟩ ?_
    simp only [go_sem, Ct.v, Ct.cs]
    refine cFN hcp 6 ⟨.inl (ct_frz (H := _) rfl), trivial⟩ ?_
    simp only [go_sem, Ct.v, Ct.cs, ren, rens]
    refine cFN hfa 6 ⟨.inl (ct_frz (H := _) rfl), .inl (sch_frz (H := _) rfl rfl), trivial⟩ ?_
    simp only [go_sem, Ct.v, Ct.cs, ren, rens]
    refine cFN hfb 6 ⟨.inl (ct_frz (H := _) rfl), .inl (sch_frz (H := _) rfl rfl), trivial⟩ ?_
    simp only [go_sem, Ct.v, Ct.cs, ren, rens]
    refine cF hs0 6 ⟨.inr ⟨rfl, rfl⟩, .inr ⟨rfl, rfl⟩, trivial⟩ ?_
    simp only [go_sem, z0]
    refine cF (SameCoatings_run (follow m p) (by omega)) 6 ⟨.inl (cg_frz (H := _) rfl rfl), .inl (cg_frz (H := _) rfl rfl), trivial⟩ ?_
    simp only [go_sem, Int.reduceBEq, Ct.v, Ct.cs]
    refine cF hsm 6 ⟨.inl (ct_frz (H := _) rfl), .inl (ct_frz (H := _) rfl), trivial⟩ ?_
    simp only [go_sem]
    refine cP awake_ok ?_
    simp only [go_sem]
  · simp only [go_sem, e1, e2, Ct.v, Ct.cs]
    refine cFN ha 6 ⟨.inl (v0 _), .inl (l0 _), trivial⟩ ?_
    simp only [go_sem, Ct.v, Ct.cs, ren, rens]
    refine cFN hb 6 ⟨.inl (v0 _), .inl (l0 _), trivial⟩ ?_
    simp only [go_sem, Ct.v, Ct.cs, ren, rens]
    refine cFN hcp 6 ⟨.inl (ct_frz (H := _) rfl), trivial⟩ ?_
    simp only [go_sem, Ct.v, Ct.cs, ren, rens]
    refine cFN hfa 6 ⟨.inl (ct_frz (H := _) rfl), .inl (sch_frz (H := _) rfl rfl), trivial⟩ ?_
    simp only [go_sem, Ct.v, Ct.cs, ren, rens]
    refine cFN hfb 6 ⟨.inl (ct_frz (H := _) rfl), .inl (sch_frz (H := _) rfl rfl), trivial⟩ ?_
    simp only [go_sem, Ct.v, Ct.cs, ren, rens]
    refine cF (SameCoatings_run F hF) 6 ⟨.inl (cg_frz (H := _) rfl rfl), .inl (cg_frz (H := _) rfl rfl), trivial⟩ ?_
    simp only [go_sem, Int.reduceBEq]
    refine cF (SameCoatings_run (follow m p) (by omega)) 6 ⟨.inl (cg_frz (H := _) rfl rfl), .inl (cg_frz (H := _) rfl rfl), trivial⟩ ?_
    simp only [go_sem, Int.reduceBEq, Ct.v, Ct.cs]
    refine cF hsm 6 ⟨.inl (ct_frz (H := _) rfl), .inl (ct_frz (H := _) rfl), trivial⟩ ?_
    simp only [go_sem]
    refine cP awake_ok ?_
    simp only [go_sem]
end Go.Proofs
namespace Go.Proofs
open Go Go.Sx
attribute [local irreducible] AT
set_option maxRecDepth 100000

theorem at_heating {n : Nat} {vs : List AVal} (h : AT Try.prog (n + 2) 32 vs) : ∃ z : Ht, vs = z.cs ∧ I64 z.ticks ∧ I64 z.heat ∧ I64 z.cur := by
  obtain ⟨a, _, rfl, ha, b, _, rfl, hb, c, _, rfl, hc, rfl⟩ := at_struct Try.underlying32 h
  obtain ⟨x, rfl, hx⟩ := atn_int ha
  obtain ⟨y, rfl, hy⟩ := atn_int hb
  obtain ⟨z, rfl, hz⟩ := atn_int hc
  exact ⟨⟨x, y, z⟩, rfl, hx, hy, hz⟩
theorem at_schedule {n : Nat} {x : AVal} (h : AT Try.prog (n + 3) 29 [x]) : ∃ l : List Ht, x = .view (l.map Ht.v) ∧ l.length ≤ maxLen := by
  obtain ⟨es, h1, hl, he⟩ := at_slice Try.underlying29 h
  obtain rfl : x = .view es := by simpa using h1
  have hg : aggT Try.prog 32 = true := by unfold aggT; rw [Try.underlying32]
  obtain ⟨l, rfl, -⟩ := list_map (f := Ht.v) (Q := fun _ => True) es fun x hx => by
    have := he x hx
    rw [if_pos hg] at this
    obtain ⟨ws, rfl, hw⟩ := this
    obtain ⟨z, rfl, _⟩ := at_heating hw
    exact ⟨z, rfl, trivial⟩
  exact ⟨l, rfl, by simpa using hl⟩
end Go.Proofs
namespace Go.Proofs
open Go Go.Sx
attribute [local irreducible] Run

instance (a b : Mx) (x : Bd) : Decidable (Fol a b x) :=
  decidable_of_iff ((dn a.carb x.conv.lo ≤ a.carb - b.carb ∧ a.carb - b.carb ≤ up a.carb x.conv.hi) ∧
    (dn a.ox x.red.lo ≤ a.ox + (a.carb - b.carb) - b.ox ∧ a.ox + (a.carb - b.carb) - b.ox ≤ up a.ox x.red.hi) ∧
    (dn a.ba x.evap.lo ≤ a.ba + (a.ox + (a.carb - b.carb) - b.ox) - b.ba ∧ a.ba + (a.ox + (a.carb - b.carb) - b.ox) - b.ba ≤ up a.ba x.evap.hi) ∧
    b.lost = a.lost + (a.ba + (a.ox + (a.carb - b.carb) - b.ox) - b.ba)) ⟨fun ⟨h1, h2, h3, h4⟩ => ⟨h1, h2, h3, h4⟩, fun ⟨h1, h2, h3, h4⟩ => ⟨h1, h2, h3, h4⟩⟩

theorem isIn_no {n : Int} {r : Rg} (h : ¬ (r.lo ≤ n ∧ n ≤ r.hi)) : Ans Try.prog n_cathode_isIn [.int .i64 n, r.v] [] (.bool false) [] := by
  refine spec_run e_cathode_isIn fun G => ?_
  simp only [go_sem, Rg.v]
  refine cP (within_no h) ?_
  simp only [go_sem]

set_option maxHeartbeats 2000000 in
theorem follows_no {c : Ct} (hc : CtOK c) {a b : Mx} {x : Bd} (hx : BdOK x) (ha : MxOK c a) (h : ¬ Fol a b x) : Ans Try.prog n_cathode_follows [a.v, b.v, x.v] [] (.bool false) [] := by
  have hm := hc.amount
  obtain ⟨a1, a2, a3, a4, a5⟩ := ha
  have b1 := hx.conv.all; have b2 := hx.red.all; have b3 := hx.evap.all
  have u1 := dn_in a1 b1.1 (by omega); have u2 := up_in (r := x.conv.hi) a1 (by omega) (by omega)
  have v1 := dn_in a2 b2.1 (by omega); have v2 := up_in (r := x.red.hi) a2 (by omega) (by omega)
  have z1 := dn_in a3 b3.1 (by omega); have z2 := up_in (r := x.evap.hi) a3 (by omega) (by omega)
  have r1 := remains_ok ⟨a.carb, a.carb⟩ x.conv ⟨by dsimp only; omega, by dsimp only; omega⟩ (hx.conv.b (by decide))
  have r2 := remains_ok ⟨a.ox, a.ox⟩ x.red ⟨by dsimp only; omega, by dsimp only; omega⟩ (hx.red.b (by decide))
  have r3 := remains_ok ⟨a.ba, a.ba⟩ x.evap ⟨by dsimp only; omega, by dsimp only; omega⟩ (hx.evap.b (by decide))
  have k2 := remains_b (a := ⟨a.ox, a.ox⟩) ⟨by dsimp only; omega, by dsimp only; omega⟩ (hx.red.b (by decide))
  have k3 := remains_b (a := ⟨a.ba, a.ba⟩) ⟨by dsimp only; omega, by dsimp only; omega⟩ (hx.evap.b (by decide))
  refine spec_run e_cathode_follows fun G => ?_
  simp only [go_sem, Mx.v, Mx.cs, Bd.v, Bd.cs]
  refine dP (alone_run _) ?_
  simp only [go_sem]
  refine dP r1 ?_
  simp only [go_sem]
  by_cases f1 : dn a.carb x.conv.lo ≤ a.carb - b.carb ∧ a.carb - b.carb ≤ up a.carb x.conv.hi
  rotate_left
  · refine cP (isIn_no (n := b.carb) (r := remains ⟨a.carb, a.carb⟩ x.conv) (by simp only [remains]; omega)) ?_
    simp only [go_sem]
  refine cP (isIn_yes (n := b.carb) (r := remains ⟨a.carb, a.carb⟩ x.conv) (by simp only [remains]; omega)) ?_
  have e1 : IntKind.i64.wrap (a.carb - b.carb) = a.carb - b.carb := w64 (by omega)
  have s2 := sum_ok (remains ⟨a.ox, a.ox⟩ x.red) ⟨a.carb - b.carb, a.carb - b.carb⟩ (by omega) (by omega) (by dsimp only; omega) (by dsimp only; omega)
  simp only [go_sem, e1]
  refine dP (alone_run _) ?_
  simp only [go_sem]
  refine dP r2 ?_
  simp only [go_sem]
  refine dP (alone_run _) ?_
  simp only [go_sem]
  refine dP s2 ?_
  simp only [go_sem]
  by_cases f2 : dn a.ox x.red.lo ≤ a.ox + (a.carb - b.carb) - b.ox ∧ a.ox + (a.carb - b.carb) - b.ox ≤ up a.ox x.red.hi
  rotate_left
  · refine cP (isIn_no (n := b.ox) (r := sumR (remains ⟨a.ox, a.ox⟩ x.red) ⟨a.carb - b.carb, a.carb - b.carb⟩) (by simp only [remains, sumR]; omega)) ?_
    simp only [go_sem]
  refine cP (isIn_yes (n := b.ox) (r := sumR (remains ⟨a.ox, a.ox⟩ x.red) ⟨a.carb - b.carb, a.carb - b.carb⟩) (by simp only [remains, sumR]; omega)) ?_
  have e2 : IntKind.i64.wrap (a.ox + (a.carb - b.carb)) = a.ox + (a.carb - b.carb) := w64 (by omega)
  have e3 : IntKind.i64.wrap (a.ox + (a.carb - b.carb) - b.ox) = a.ox + (a.carb - b.carb) - b.ox := w64 (by omega)
  have s3 := sum_ok (remains ⟨a.ba, a.ba⟩ x.evap) ⟨a.ox + (a.carb - b.carb) - b.ox, a.ox + (a.carb - b.carb) - b.ox⟩ (by omega) (by omega) (by dsimp only; omega) (by dsimp only; omega)
  simp only [go_sem, e2, e3]
  refine dP (alone_run _) ?_
  simp only [go_sem]
  refine dP r3 ?_
  simp only [go_sem]
  refine dP (alone_run _) ?_
  simp only [go_sem]
  refine dP s3 ?_
  simp only [go_sem]
  by_cases f3 : dn a.ba x.evap.lo ≤ a.ba + (a.ox + (a.carb - b.carb) - b.ox) - b.ba ∧ a.ba + (a.ox + (a.carb - b.carb) - b.ox) - b.ba ≤ up a.ba x.evap.hi
  rotate_left
  · refine cP (isIn_no (n := b.ba) (r := sumR (remains ⟨a.ba, a.ba⟩ x.evap) ⟨a.ox + (a.carb - b.carb) - b.ox, a.ox + (a.carb - b.carb) - b.ox⟩) (by simp only [remains, sumR]; omega)) ?_
    simp only [go_sem]
  refine cP (isIn_yes (n := b.ba) (r := sumR (remains ⟨a.ba, a.ba⟩ x.evap) ⟨a.ox + (a.carb - b.carb) - b.ox, a.ox + (a.carb - b.carb) - b.ox⟩) (by simp only [remains, sumR]; omega)) ?_
  have e4 : IntKind.i64.wrap (a.ba + (a.ox + (a.carb - b.carb) - b.ox)) = a.ba + (a.ox + (a.carb - b.carb) - b.ox) := w64 (by omega)
  have e5 : IntKind.i64.wrap (a.ba + (a.ox + (a.carb - b.carb) - b.ox) - b.ba) = a.ba + (a.ox + (a.carb - b.carb) - b.ox) - b.ba := w64 (by omega)
  have e6 : IntKind.i64.wrap (a.lost + (a.ba + (a.ox + (a.carb - b.carb) - b.ox) - b.ba)) = a.lost + (a.ba + (a.ox + (a.carb - b.carb) - b.ox) - b.ba) := w64 (by omega)
  have f4 : ¬ b.lost = a.lost + (a.ba + (a.ox + (a.carb - b.carb) - b.ox) - b.ba) := fun hf => h ⟨f1, f2, f3, hf⟩
  have f5 : (b.lost == a.lost + (a.ba + (a.ox + (a.carb - b.carb) - b.ox) - b.ba)) = false := by simpa using f4
  simp only [go_sem, e4, e5, e6, f5]

/-- Which courses are possible. -/
structure PossP (c : Ct) (l : List Ht) (w : List Mx) : Prop where
  len : w.length = (flat l).length + 1
  first : w[0]? = some (start c)
  part : ∀ p z m1 m2, (flat l)[p]? = some z → w[p]? = some m1 → w[p + 1]? = some m2 → Fol m1 m2 (ratesAt c (heatOf c ((flat l).take p ++ [z])) z.cur)
/-- So far. -/
def Upto (c : Ct) (l : List Ht) (w : List Mx) (n : Nat) : Prop := ∀ p, p < n → ∀ z m1 m2, (flat l)[p]? = some z → w[p]? = some m1 → w[p + 1]? = some m2 → Fol m1 m2 (ratesAt c (heatOf c ((flat l).take p ++ [z])) z.cur)
theorem Upto.mix {c : Ct} (hc : CtOK c) {l : List Ht} (hl : LsOK l) {w : List Mx} (h0 : w[0]? = some (start c)) : ∀ {n : Nat}, Upto c l w n → n ≤ (flat l).length → ∀ p m, p ≤ n → w[p]? = some m → MxOK c m := by
  intro n h hn p
  induction p with
  | zero =>
    intro m _ hm
    rw [h0] at hm; cases hm
    have := hc.amount
    exact ⟨by simp only [start]; omega, by simp [start], by simp [start], by simp [start], by simp [start]⟩
  | succ p ih =>
    intro m hp hm
    have hw : p + 1 < w.length := (List.getElem?_eq_some_iff.1 hm).1
    have hx : w[p]? = some w[p] := List.getElem?_eq_getElem (by omega)
    have hz : (flat l)[p]? = some (flat l)[p] := List.getElem?_eq_getElem (by omega)
    have hall : ∀ y ∈ (flat l).take p ++ [(flat l)[p]], HtOK y := fun y hy => by
      rcases List.mem_append.1 hy with hy | hy
      · exact hl.all _ (flat_mem (List.mem_of_mem_take hy))
      · simp at hy; subst hy; exact hl.all _ (flat_mem (List.mem_of_getElem? hz))
    have hh1 := heatOf_in hc hall
    have hb := ratesAt_ok hc hh1.1 (hall (flat l)[p] (List.mem_append_right _ (List.mem_singleton_self _))).cur
    exact (h p (by omega) _ _ _ hz hx hm).ok hb (ih _ (by omega) hx)

set_option maxHeartbeats 4000000 in
set_option maxRecDepth 4000 in
theorem Possible_gen (c : Ct) (hc : CtOK c) (l : List Ht) (hl : LsOK l) (w : List Mx) (hwb : w.length ≤ 1000000) (b : Bool) (hb : b = true ↔ PossP c l w) :
    Ans Try.prog n_cathode_Possible [c.v (.view (c.bands.map Bd.v)), .view (l.map Ht.v), .view (w.map Mx.v)] [] (.bool b) [] := by
  have hlen := hl.len
  have hsum := hl.sum
  have hfl := flat_len hl.all
  have w1 : IntKind.i64.wrap (1 + lenOfL l) = 1 + lenOfL l := w64 (by omega)
  refine spec_run e_cathode_Possible fun G => ?_
  simp only [go_sem, Ct.v, Ct.cs]
  refine cP (Check_run c hc) ?_
  simp only [go_sem]
  refine cP (CheckSchedule_run l hl) ?_
  simp only [go_sem]
  refine dP (length_run l hl) ?_
  by_cases k1 : (w.length : Int) = 1 + lenOfL l
  rotate_left
  · have hbf : b = false := by
      cases b with
      | false => rfl
      | true => have := (hb.1 rfl).len; omega
    have k2 : ((w.length : Int) != 1 + lenOfL l) = true := by simpa using k1
    simp only [go_sem, w1, k2, List.length_map, hbf]
  have k2 : ((w.length : Int) != 1 + lenOfL l) = false := by simp [k1]
  have hw00 : (0 : Int) < w.length := by omega
  have hw0 : w[0]? = some w[0] := List.getElem?_eq_getElem (by omega)
  generalize hm0 : w[0] = m0 at *
  by_cases k3 : m0 = start c
  rotate_left
  · have hbf : b = false := by
      cases b with
      | false => rfl
      | true => have := (hb.1 rfl).first; rw [hw0] at this; cases this; exact absurd rfl k3
    have k4 : ¬ (m0.carb = c.amount ∧ m0.ox = 0 ∧ m0.ba = 0 ∧ m0.lost = 0) := fun ⟨h1, h2, h3, h4⟩ => k3 (by cases m0; simp_all [start])
    simp only [go_sem, w1, k2, hw00, hw0, List.length_map, Mx.v, Mx.cs, hbf]
    intro hq
    simp only [Bool.and_eq_true, beq_iff_eq] at hq
    exact absurd ⟨hq.1, hq.2.1, hq.2.2.1, hq.2.2.2⟩ k4
  subst k3
  simp only [go_sem, w1, k2, hw00, hw0, List.length_map, Mx.v, Mx.cs, start]
  refine cN1 (ticks_run l) ?_
  simp only [go_sem, ren, rens]
  refine rangeF 2000 (ρ := tsets 59 posT) (by simp [go_sem, posT]) (by simp only [go_sem, posT]; rfl)
    (ticks1_iter (r := 6) (j := 4) (N := 7) hl (Pre := fun i H => Upto c l w i ∧ i ≤ (flat l).length ∧ ∃ X, H = posH c l w false (heatOf c ((flat l).take i)) (posL .ready none) X) (Stop := fun H => b = false ∧ ∃ h X, H = posH c l w false h (posL .done (some .ret)) X)
      ⟨?_, ?_, ?_⟩ ⟨fun p hp => absurd hp (Nat.not_lt_zero _), Nat.zero_le _, [], rfl⟩) (by simp) ?_
  · rintro i H ⟨-, -, X, rfl⟩
    exact ⟨by simp [posH], rfl⟩
  · rintro i H x ⟨hu, hi, X, rfl⟩
    exact ⟨hu, hi, X ++ [x], by simp [posH]⟩
  · rintro i z H hz ⟨hu, hin, X, rfl⟩
    have hil := (List.getElem?_eq_some_iff.1 hz).1
    have e3 : w[i]? = some w[i] := List.getElem?_eq_getElem (by omega)
    have e4 : w[i + 1]? = some w[i + 1] := List.getElem?_eq_getElem (by omega)
    have e2 := hu.mix hc hl hw0 hin i _ (Nat.le_refl _) e3
    have hup : Fol w[i] w[i + 1] (ratesAt c (heatOf c ((flat l).take i ++ [z])) z.cur) → Upto c l w (i + 1) := fun hf p hp z' m1 m2 h1 h2 h3 => by
      by_cases hpi : p = i
      · subst hpi
        rw [hz] at h1; rw [e3] at h2; rw [e4] at h3
        cases h1; cases h2; cases h3
        exact hf
      · exact hu p (by omega) z' m1 m2 h1 h2 h3
    have hno : ¬ Fol w[i] w[i + 1] (ratesAt c (heatOf c ((flat l).take i ++ [z])) z.cur) → b = false := fun hf => by
      cases b with
      | false => rfl
      | true => exact absurd ((hb.1 rfl).part i z _ _ hz e3 e4) hf
    generalize w[i] = m1 at *
    generalize w[i + 1] = m2 at *
    have hall : ∀ y ∈ (flat l).take i ++ [z], HtOK y := fun y hy => by
      rcases List.mem_append.1 hy with hy | hy
      · exact hl.all _ (flat_mem (List.mem_of_mem_take hy))
      · simp at hy; subst hy; exact hl.all _ (flat_mem (List.mem_of_getElem? hz))
    have hzz := hall z (by simp)
    have hh0 := heatOf_in hc (a := (flat l).take i) fun y hy => hall y (by simp [hy])
    have hh1 := heatOf_in hc hall
    have hm := moved_ok (heatOf c ((flat l).take i)) z.heat c.slew hh0 hzz.heat hc.slew
    rw [← heatOf_snoc] at hm
    have hr := ratesAt_run c hc (heatOf c ((flat l).take i ++ [z])) z.cur hh1.1 hzz.cur
    have hbd := ratesAt_ok hc hh1.1 hzz.cur
    rw [show (flat l).take (i + 1) = (flat l).take i ++ [z] by rw [List.take_add_one, hz]; rfl]
    have g1 : (i : Int) < w.length := by omega
    have g2 : (i : Int) + 1 < w.length := by omega
    have g3 : ¬ (i : Int) < 0 := by omega
    have g4 : ¬ (i : Int) + 1 < 0 := by omega
    have g5 : IntKind.i64.wrap ((i : Int) + 1 - 1) = i := by rw [w64 (by omega)]; omega
    have g6 : ((i : Int) + 1).toNat = i + 1 := by omega
    generalize heatOf c ((flat l).take i ++ [z]) = h2 at *
    generalize heatOf c ((flat l).take i) = h1 at *
    generalize ratesAt c h2 z.cur = bd at *
    refine RoundW.mono (R := fun v H' => ∃ Y, (v = .bool true ∧ Fol m1 m2 bd ∧ H' = posH c l w false h2 (posL .ready none) (X ++ Y)) ∨ (v = .bool false ∧ b = false ∧ H' = posH c l w false h2 (posL .done (some .ret)) (X ++ Y))) ?_ ?_
    rotate_left
    · rintro v H' ⟨Y, ⟨rfl, hf, rfl⟩ | ⟨rfl, hbf, rfl⟩⟩
      · exact ⟨tail_kept rfl rfl, .inl ⟨rfl, hup hf, by omega, _, rfl⟩⟩
      · exact ⟨tail_kept rfl rfl, .inr ⟨rfl, hbf, _, _, rfl⟩⟩
    generalize hR : (fun (v : AVal) (H' : Heap) => ∃ Y, (v = .bool true ∧ Fol m1 m2 bd ∧ H' = posH c l w false h2 (posL .ready none) (X ++ Y)) ∨ (v = .bool false ∧ b = false ∧ H' = posH c l w false h2 (posL .done (some .ret)) (X ++ Y))) = R
    have hfin : Fol m1 m2 bd → ∀ Y, R (.bool true) (posH c l w false h2 (posL .ready none) (X ++ Y)) := fun hf Y => by rw [← hR]; exact ⟨Y, .inl ⟨rfl, hf, rfl⟩⟩
    have hfin2 : ¬ Fol m1 m2 bd → ∀ Y, R (.bool false) (posH c l w false h2 (posL .done (some .ret)) (X ++ Y)) := fun hf Y => by rw [← hR]; exact ⟨Y, .inr ⟨rfl, hno hf, rfl⟩⟩
    clear hR
    refine roundW_run 500 k_cathode_Possible_r12.eq_1 rfl rfl (ρ' := tsets 59 (posT ++ [(35, .int .i64 ((i : Int) + 1)), (36, z.v)])) rfl ?_
    simp only [go_sem, posT, posH, Ht.v, Ht.cs]
    refine roundMid_run 500 k_cathode_Possible_r13.eq_1 rfl rfl ?_
    simp only [go_sem, Ct.v, Ct.cs]
    refine cP hm ?_
    simp only [go_sem, g1, g2, g3, g4, g5, g6, e3, e4, Int.toNat_natCast, List.length_map, Ct.v, Ct.cs, Mx.v, Mx.cs]
    refine dP hr ?_
    simp only [go_sem, Bd.v, Bd.cs]
    by_cases hf : Fol m1 m2 bd
    · refine cP (follows_run hc hbd e2 hf) ?_
      simp only [go_sem]
      refine roundEnd_on rfl ?_
      simp only [go_sem]
      exact hfin hf [_]
    · refine cP (follows_no hc hbd e2 hf) ?_
      simp only [go_sem]
      refine roundEnd_ret rfl ?_
      simp only [go_sem]
      exact hfin2 hf [_]
  · rintro v H' ⟨rfl, ⟨hu, hn, X, rfl⟩ | ⟨hbf, h, X, rfl⟩⟩
    · have hbt : b = true := hb.2 ⟨by omega, hw0, fun p z m1 m2 h1 h2 h3 => hu p (List.getElem?_eq_some_iff.1 h1).1 z m1 m2 h1 h2 h3⟩
      refine ⟨fun q hq => by simp at hq; subst hq; rfl, _, _, _, _, _, _, _, rfl, by decide, ?_⟩
      simp only [go_sem, posH, posT, tsets, hbt]
      simp
    · refine ⟨fun q hq => by simp at hq; subst hq; rfl, _, _, _, _, _, _, _, rfl, by decide, ?_⟩
      simp only [go_sem, posH, posT, tsets, hbf]
      simp
end Go.Proofs
namespace Go.Proofs
open Go Go.Sx

-- 6: thermion/thermionlaw03.CathodePossible
def k_law03_CathodePossible_r0 : List AOper := [
  ⟨(some (6)), .box (.tmp 0), none, []⟩, 
  ⟨(some (12)), .move (.const (.bool false)), none, []⟩]
def k_law03_CathodePossible_r1 : List AOper := [
  ⟨(some (18)), .fieldAddr 6 (.tmp 6), none, []⟩, 
  ⟨(some (19)), .load none (.tmp 18), none, []⟩, 
  ⟨(some (20)), .len false (.tmp 19), none, []⟩, 
  ⟨(some (21)), .bin .plain .gtr (.tmp 20) (.const (.int .i64 30)), none, []⟩, 
  ⟨(some (22)), .move (.tmp 21), none, []⟩, 
  ⟨(some (23)), .move (.tmp 1), (some (22, false)), []⟩, 
  ⟨(some (24)), .len false (.tmp 23), (some (22, false)), []⟩, 
  ⟨(some (25)), .bin .plain .gtr (.tmp 24) (.const (.int .i64 60)), (some (22, false)), []⟩, 
  ⟨(some (26)), .pick (.tmp 22) (.const (.bool true)) (.tmp 25), none, []⟩, 
  ⟨(some (27)), .move (.tmp 26), none, []⟩, 
  ⟨(some (28)), .move (.tmp 2), (some (27, false)), []⟩, 
  ⟨(some (29)), .len false (.tmp 28), (some (27, false)), []⟩, 
  ⟨(some (30)), .bin .plain .gtr (.tmp 29) (.const (.int .i64 60)), (some (27, false)), []⟩, 
  ⟨(some (31)), .pick (.tmp 27) (.const (.bool true)) (.tmp 30), none, []⟩]
def k_law03_CathodePossible_r2 : List AOper := [
  ⟨(some (32)), .call (.const (.fn (.func 18) [] [])) [], none, []⟩, 
  ⟨(some (12)), .move (.tmp 32), none, []⟩]
def k_law03_CathodePossible_r3 : List AOper := [
  ⟨(some (33)), .move (.tmp 3), none, []⟩, 
  ⟨(some (34)), .call (.const (.fn (.func 19) [] [])) [.tmp 33], none, []⟩, 
  ⟨(some (13)), .move (.tmp 34), none, []⟩]
def k_law03_CathodePossible_r4 : List AOper := [
  ⟨(some (35)), .move (.tmp 13), none, []⟩, 
  ⟨(some (36)), .call (.const (.fn (.func 20) [] [])) [.tmp 35], none, []⟩, 
  ⟨(some (37)), .move (.tmp 13), none, []⟩, 
  ⟨(some (38)), .call (.const (.fn (.func 21) [] [])) [.tmp 37, .const (.int .i64 5), .const (.int .i64 8)], none, []⟩, 
  ⟨(some (14)), .box (.const (.agg [.int .i64 0, .int .i64 0, .int .i64 0, .int .i64 0, .int .i64 0, .int .i64 0, .nilsl])), none, []⟩, 
  ⟨none, .store 7 (.tmp 14) (.tmp 36), none, []⟩, 
  ⟨(some (15)), .move (.tmp 38), none, []⟩]
def k_law03_CathodePossible_r5 : List AOper := [
  ⟨(some (39)), .move (.tmp 13), none, []⟩, 
  ⟨(some (40)), .load (some (7)) (.tmp 14), none, []⟩, 
  ⟨(some (41)), .move (.tmp 15), none, []⟩, 
  ⟨(some (42)), .call (.const (.fn (.func 41) [] [])) [.tmp 39, .tmp 40, .tmp 41], none, []⟩, 
  ⟨(some (16)), .move (.tmp 42), none, []⟩]
def k_law03_CathodePossible_r6 : List AOper := [
  ⟨(some (43)), .move (.tmp 4), none, []⟩, 
  ⟨(some (44)), .move (.tmp 16), none, []⟩, 
  ⟨(some (45)), .len false (.tmp 44), none, []⟩, 
  ⟨(some (46)), .call (.const (.fn (.func 42) [] [])) [.tmp 43, .tmp 45], none, []⟩, 
  ⟨(some (17)), .move (.tmp 46), none, []⟩]
def k_law03_CathodePossible_r7 : List AOper := [
  ⟨(some (47)), .move (.tmp 5), none, []⟩, 
  ⟨(some (48)), .call (.const (.fn (.func 42) [] [])) [.tmp 47, .const (.int .i64 5)], none, []⟩]
def k_law03_CathodePossible_r8 : List AOper := [
  ⟨(some (50)), .bin .plain .eql (.tmp 48) (.const (.int .i64 0)), none, []⟩, 
  ⟨(some (49)), .move (.tmp 50), none, []⟩]
def k_law03_CathodePossible_r9 : List AOper := [
  ⟨(some (51)), .move (.tmp 16), none, []⟩, 
  ⟨(some (52)), .move (.tmp 17), none, [0]⟩, 
  ⟨(some (53)), .move (.tmp 16), none, [0, 1]⟩, 
  ⟨(some (54)), .move (.tmp 17), none, [0, 1, 2]⟩, 
  ⟨(some (55)), .move (.tmp 16), none, [0, 1, 2, 3]⟩, 
  ⟨(some (56)), .move (.tmp 17), none, [0, 1, 2, 3, 4]⟩, 
  ⟨(some (57)), .indexAddr 4 (.tmp 55) (.tmp 56), none, [0, 1, 2, 3]⟩, 
  ⟨(some (58)), .fieldAddr 1 (.tmp 57), none, [0, 1, 2, 3]⟩, 
  ⟨(some (59)), .load none (.tmp 58), none, [0, 1, 2, 3]⟩, 
  ⟨(some (60)), .bin .plain .add (.tmp 59) (.const (.int .i64 1)), none, [0, 1, 2, 3]⟩, 
  ⟨(some (61)), .move (.tmp 16), none, [0, 1, 2, 3, 4, 5, 6, 7, 8, 9]⟩, 
  ⟨(some (62)), .move (.tmp 17), none, [0, 1, 2, 3, 4, 5, 6, 7, 8, 9, 10]⟩, 
  ⟨(some (63)), .indexAddr 4 (.tmp 61) (.tmp 62), none, [0, 1, 2, 3, 4, 5, 6, 7, 8, 9]⟩, 
  ⟨(some (64)), .fieldAddr 0 (.tmp 63), none, [0, 1, 2, 3, 4, 5, 6, 7, 8, 9]⟩, 
  ⟨(some (65)), .load none (.tmp 64), none, [0, 1, 2, 3, 4, 5, 6, 7, 8, 9]⟩, 
  ⟨(some (66)), .bin .plain .sub (.tmp 65) (.const (.int .i64 1)), none, [0, 1, 2, 3, 4, 5, 6, 7, 8, 9]⟩, 
  ⟨(some (67)), .indexAddr 4 (.tmp 51) (.tmp 52), none, [2, 3, 15]⟩, 
  ⟨(some (68)), .fieldAddr 1 (.tmp 67), none, [2, 3, 15]⟩, 
  ⟨none, .store 1 (.tmp 68) (.tmp 60), none, [2, 3, 15]⟩, 
  ⟨(some (69)), .indexAddr 4 (.tmp 53) (.tmp 54), none, []⟩, 
  ⟨(some (70)), .fieldAddr 0 (.tmp 69), none, []⟩, 
  ⟨none, .store 1 (.tmp 70) (.tmp 66), none, []⟩]
def k_law03_CathodePossible_r9s : List (List AOper) := [
  [
  ⟨(some (51)), .move (.tmp 16), none, []⟩, 
  ⟨(some (52)), .move (.tmp 17), none, [0]⟩, 
  ⟨(some (53)), .move (.tmp 16), none, [0, 1]⟩, 
  ⟨(some (54)), .move (.tmp 17), none, [0, 1, 2]⟩, 
  ⟨(some (55)), .move (.tmp 16), none, [0, 1, 2, 3]⟩, 
  ⟨(some (56)), .move (.tmp 17), none, [0, 1, 2, 3, 4]⟩, 
  ⟨(some (57)), .indexAddr 4 (.tmp 55) (.tmp 56), none, [0, 1, 2, 3]⟩, 
  ⟨(some (58)), .fieldAddr 1 (.tmp 57), none, [0, 1, 2, 3]⟩, 
  ⟨(some (59)), .load none (.tmp 58), none, [0, 1, 2, 3]⟩, 
  ⟨(some (60)), .bin .plain .add (.tmp 59) (.const (.int .i64 1)), none, [0, 1, 2, 3]⟩, 
  ⟨(some (61)), .move (.tmp 16), none, [0, 1, 2, 3, 4, 5, 6, 7, 8, 9]⟩, 
  ⟨(some (62)), .move (.tmp 17), none, [0, 1, 2, 3, 4, 5, 6, 7, 8, 9, 10]⟩, 
  ⟨(some (63)), .indexAddr 4 (.tmp 61) (.tmp 62), none, [0, 1, 2, 3, 4, 5, 6, 7, 8, 9]⟩, 
  ⟨(some (64)), .fieldAddr 0 (.tmp 63), none, [0, 1, 2, 3, 4, 5, 6, 7, 8, 9]⟩, 
  ⟨(some (65)), .load none (.tmp 64), none, [0, 1, 2, 3, 4, 5, 6, 7, 8, 9]⟩, 
  ⟨(some (66)), .bin .plain .sub (.tmp 65) (.const (.int .i64 1)), none, [0, 1, 2, 3, 4, 5, 6, 7, 8, 9]⟩, 
  ⟨(some (67)), .indexAddr 4 (.tmp 51) (.tmp 52), none, [2, 3, 15]⟩, 
  ⟨(some (68)), .fieldAddr 1 (.tmp 67), none, [2, 3, 15]⟩, 
  ⟨none, .store 1 (.tmp 68) (.tmp 60), none, [2, 3, 15]⟩], 
  [
  ⟨(some (69)), .indexAddr 4 (.tmp 53) (.tmp 54), none, []⟩], 
  [
  ⟨(some (70)), .fieldAddr 0 (.tmp 69), none, []⟩], 
  [
  ⟨none, .store 1 (.tmp 70) (.tmp 66), none, []⟩]]
theorem k_law03_CathodePossible_r9_sg : segs k_law03_CathodePossible_r9 = k_law03_CathodePossible_r9s := by kernel_rfl
theorem k_law03_CathodePossible_r9_st : statOK k_law03_CathodePossible_r9 = true := by kernel_rfl
def k_law03_CathodePossible_r10 : List AOper := [
  ⟨(some (72)), .bin .plain .eql (.tmp 48) (.const (.int .i64 1)), none, []⟩, 
  ⟨(some (71)), .move (.tmp 72), none, []⟩]
def k_law03_CathodePossible_r11 : List AOper := [
  ⟨(some (73)), .move (.tmp 16), none, []⟩, 
  ⟨(some (74)), .move (.tmp 17), none, [0]⟩, 
  ⟨(some (75)), .move (.tmp 16), none, [0, 1]⟩, 
  ⟨(some (76)), .move (.tmp 17), none, [0, 1, 2]⟩, 
  ⟨(some (77)), .move (.tmp 16), none, [0, 1, 2, 3]⟩, 
  ⟨(some (78)), .move (.tmp 17), none, [0, 1, 2, 3, 4]⟩, 
  ⟨(some (79)), .indexAddr 4 (.tmp 77) (.tmp 78), none, [0, 1, 2, 3]⟩, 
  ⟨(some (80)), .fieldAddr 3 (.tmp 79), none, [0, 1, 2, 3]⟩, 
  ⟨(some (81)), .load none (.tmp 80), none, [0, 1, 2, 3]⟩, 
  ⟨(some (82)), .bin .plain .add (.tmp 81) (.const (.int .i64 1)), none, [0, 1, 2, 3]⟩, 
  ⟨(some (83)), .move (.tmp 16), none, [0, 1, 2, 3, 4, 5, 6, 7, 8, 9]⟩, 
  ⟨(some (84)), .move (.tmp 17), none, [0, 1, 2, 3, 4, 5, 6, 7, 8, 9, 10]⟩, 
  ⟨(some (85)), .indexAddr 4 (.tmp 83) (.tmp 84), none, [0, 1, 2, 3, 4, 5, 6, 7, 8, 9]⟩, 
  ⟨(some (86)), .fieldAddr 2 (.tmp 85), none, [0, 1, 2, 3, 4, 5, 6, 7, 8, 9]⟩, 
  ⟨(some (87)), .load none (.tmp 86), none, [0, 1, 2, 3, 4, 5, 6, 7, 8, 9]⟩, 
  ⟨(some (88)), .bin .plain .sub (.tmp 87) (.const (.int .i64 1)), none, [0, 1, 2, 3, 4, 5, 6, 7, 8, 9]⟩, 
  ⟨(some (89)), .indexAddr 4 (.tmp 73) (.tmp 74), none, [2, 3, 15]⟩, 
  ⟨(some (90)), .fieldAddr 3 (.tmp 89), none, [2, 3, 15]⟩, 
  ⟨none, .store 1 (.tmp 90) (.tmp 82), none, [2, 3, 15]⟩, 
  ⟨(some (91)), .indexAddr 4 (.tmp 75) (.tmp 76), none, []⟩, 
  ⟨(some (92)), .fieldAddr 2 (.tmp 91), none, []⟩, 
  ⟨none, .store 1 (.tmp 92) (.tmp 88), none, []⟩]
def k_law03_CathodePossible_r11s : List (List AOper) := [
  [
  ⟨(some (73)), .move (.tmp 16), none, []⟩, 
  ⟨(some (74)), .move (.tmp 17), none, [0]⟩, 
  ⟨(some (75)), .move (.tmp 16), none, [0, 1]⟩, 
  ⟨(some (76)), .move (.tmp 17), none, [0, 1, 2]⟩, 
  ⟨(some (77)), .move (.tmp 16), none, [0, 1, 2, 3]⟩, 
  ⟨(some (78)), .move (.tmp 17), none, [0, 1, 2, 3, 4]⟩, 
  ⟨(some (79)), .indexAddr 4 (.tmp 77) (.tmp 78), none, [0, 1, 2, 3]⟩, 
  ⟨(some (80)), .fieldAddr 3 (.tmp 79), none, [0, 1, 2, 3]⟩, 
  ⟨(some (81)), .load none (.tmp 80), none, [0, 1, 2, 3]⟩, 
  ⟨(some (82)), .bin .plain .add (.tmp 81) (.const (.int .i64 1)), none, [0, 1, 2, 3]⟩, 
  ⟨(some (83)), .move (.tmp 16), none, [0, 1, 2, 3, 4, 5, 6, 7, 8, 9]⟩, 
  ⟨(some (84)), .move (.tmp 17), none, [0, 1, 2, 3, 4, 5, 6, 7, 8, 9, 10]⟩, 
  ⟨(some (85)), .indexAddr 4 (.tmp 83) (.tmp 84), none, [0, 1, 2, 3, 4, 5, 6, 7, 8, 9]⟩, 
  ⟨(some (86)), .fieldAddr 2 (.tmp 85), none, [0, 1, 2, 3, 4, 5, 6, 7, 8, 9]⟩, 
  ⟨(some (87)), .load none (.tmp 86), none, [0, 1, 2, 3, 4, 5, 6, 7, 8, 9]⟩, 
  ⟨(some (88)), .bin .plain .sub (.tmp 87) (.const (.int .i64 1)), none, [0, 1, 2, 3, 4, 5, 6, 7, 8, 9]⟩, 
  ⟨(some (89)), .indexAddr 4 (.tmp 73) (.tmp 74), none, [2, 3, 15]⟩, 
  ⟨(some (90)), .fieldAddr 3 (.tmp 89), none, [2, 3, 15]⟩, 
  ⟨none, .store 1 (.tmp 90) (.tmp 82), none, [2, 3, 15]⟩], 
  [
  ⟨(some (91)), .indexAddr 4 (.tmp 75) (.tmp 76), none, []⟩], 
  [
  ⟨(some (92)), .fieldAddr 2 (.tmp 91), none, []⟩], 
  [
  ⟨none, .store 1 (.tmp 92) (.tmp 88), none, []⟩]]
theorem k_law03_CathodePossible_r11_sg : segs k_law03_CathodePossible_r11 = k_law03_CathodePossible_r11s := by kernel_rfl
theorem k_law03_CathodePossible_r11_st : statOK k_law03_CathodePossible_r11 = true := by kernel_rfl
def k_law03_CathodePossible_r12 : List AOper := [
  ⟨(some (94)), .bin .plain .eql (.tmp 48) (.const (.int .i64 2)), none, []⟩, 
  ⟨(some (93)), .move (.tmp 94), none, []⟩]
def k_law03_CathodePossible_r13 : List AOper := [
  ⟨(some (95)), .move (.tmp 16), none, []⟩, 
  ⟨(some (96)), .move (.tmp 17), none, []⟩, 
  ⟨(some (97)), .move (.tmp 16), none, []⟩, 
  ⟨(some (98)), .move (.tmp 17), none, []⟩, 
  ⟨(some (99)), .indexAddr 4 (.tmp 97) (.tmp 98), none, []⟩, 
  ⟨(some (100)), .fieldAddr 2 (.tmp 99), none, []⟩, 
  ⟨(some (101)), .load none (.tmp 100), none, []⟩, 
  ⟨(some (102)), .bin .plain .add (.tmp 101) (.const (.int .i64 1)), none, []⟩, 
  ⟨(some (103)), .indexAddr 4 (.tmp 95) (.tmp 96), none, []⟩, 
  ⟨(some (104)), .fieldAddr 2 (.tmp 103), none, []⟩, 
  ⟨none, .store 1 (.tmp 104) (.tmp 102), none, []⟩]
def k_law03_CathodePossible_r14 : List AOper := [
  ⟨(some (106)), .bin .plain .eql (.tmp 48) (.const (.int .i64 3)), none, []⟩, 
  ⟨(some (105)), .move (.tmp 106), none, []⟩]
def k_law03_CathodePossible_r15 : List AOper := [
  ⟨(some (107)), .move (.tmp 16), none, []⟩, 
  ⟨(some (108)), .move (.tmp 17), none, []⟩, 
  ⟨(some (109)), .slice false 4 (.tmp 107) none (some (.tmp 108)), none, []⟩, 
  ⟨(some (16)), .move (.tmp 109), none, []⟩]
def k_law03_CathodePossible_r16 : List AOper := [
  ⟨(some (110)), .load (some (7)) (.tmp 6), none, []⟩, 
  ⟨(some (111)), .move (.tmp 1), none, [0]⟩, 
  ⟨(some (112)), .move (.tmp 2), none, [0, 1]⟩, 
  ⟨(some (113)), .call (.const (.fn (.func 43) [] [])) [.tmp 110, .tmp 111, .tmp 112], none, []⟩, 
  ⟨(some (114)), .load (some (7)) (.tmp 6), none, [0, 1, 2, 3]⟩, 
  ⟨(some (115)), .move (.tmp 1), none, [0, 1, 2, 3, 4]⟩, 
  ⟨(some (116)), .move (.tmp 2), none, [0, 1, 2, 3, 4, 5]⟩, 
  ⟨(some (117)), .call (.const (.fn (.func 44) [] [])) [.tmp 114, .tmp 115, .tmp 116], none, []⟩, 
  ⟨(some (118)), .bin .bool .eql (.tmp 113) (.tmp 117), none, []⟩, 
  ⟨(some (119)), .move (.tmp 118), none, []⟩, 
  ⟨(some (120)), .load (some (7)) (.tmp 14), (some (119, true)), []⟩, 
  ⟨(some (121)), .move (.tmp 15), (some (119, true)), [10]⟩, 
  ⟨(some (122)), .move (.tmp 16), (some (119, true)), [10, 11]⟩, 
  ⟨(some (123)), .call (.const (.fn (.func 43) [] [])) [.tmp 120, .tmp 121, .tmp 122], (some (119, true)), []⟩, 
  ⟨(some (124)), .load (some (7)) (.tmp 14), (some (119, true)), [10, 11, 12, 13]⟩, 
  ⟨(some (125)), .move (.tmp 15), (some (119, true)), [10, 11, 12, 13, 14]⟩, 
  ⟨(some (126)), .move (.tmp 16), (some (119, true)), [10, 11, 12, 13, 14, 15]⟩, 
  ⟨(some (127)), .call (.const (.fn (.func 44) [] [])) [.tmp 124, .tmp 125, .tmp 126], (some (119, true)), []⟩, 
  ⟨(some (128)), .bin .bool .eql (.tmp 123) (.tmp 127), (some (119, true)), []⟩, 
  ⟨(some (129)), .pick (.tmp 119) (.tmp 128) (.const (.bool false)), none, []⟩, 
  ⟨(some (130)), .move (.tmp 129), none, []⟩, 
  ⟨(some (131)), .call (.const (.fn (.func 18) [] [])) [], (some (130, true)), []⟩, 
  ⟨(some (132)), .pick (.tmp 130) (.tmp 131) (.const (.bool false)), none, []⟩, 
  ⟨(some (12)), .move (.tmp 132), none, []⟩]
def k_law03_CathodePossible_r16s : List (List AOper) := [
  [
  ⟨(some (110)), .load (some (7)) (.tmp 6), none, []⟩, 
  ⟨(some (111)), .move (.tmp 1), none, [0]⟩, 
  ⟨(some (112)), .move (.tmp 2), none, [0, 1]⟩, 
  ⟨(some (113)), .call (.const (.fn (.func 43) [] [])) [.tmp 110, .tmp 111, .tmp 112], none, []⟩, 
  ⟨(some (114)), .load (some (7)) (.tmp 6), none, [0, 1, 2, 3]⟩, 
  ⟨(some (115)), .move (.tmp 1), none, [0, 1, 2, 3, 4]⟩, 
  ⟨(some (116)), .move (.tmp 2), none, [0, 1, 2, 3, 4, 5]⟩], 
  [
  ⟨(some (117)), .call (.const (.fn (.func 44) [] [])) [.tmp 114, .tmp 115, .tmp 116], none, []⟩], 
  [
  ⟨(some (118)), .bin .bool .eql (.tmp 113) (.tmp 117), none, []⟩], 
  [
  ⟨(some (119)), .move (.tmp 118), none, []⟩], 
  [
  ⟨(some (120)), .load (some (7)) (.tmp 14), (some (119, true)), []⟩, 
  ⟨(some (121)), .move (.tmp 15), (some (119, true)), [10]⟩, 
  ⟨(some (122)), .move (.tmp 16), (some (119, true)), [10, 11]⟩, 
  ⟨(some (123)), .call (.const (.fn (.func 43) [] [])) [.tmp 120, .tmp 121, .tmp 122], (some (119, true)), []⟩, 
  ⟨(some (124)), .load (some (7)) (.tmp 14), (some (119, true)), [10, 11, 12, 13]⟩, 
  ⟨(some (125)), .move (.tmp 15), (some (119, true)), [10, 11, 12, 13, 14]⟩, 
  ⟨(some (126)), .move (.tmp 16), (some (119, true)), [10, 11, 12, 13, 14, 15]⟩], 
  [
  ⟨(some (127)), .call (.const (.fn (.func 44) [] [])) [.tmp 124, .tmp 125, .tmp 126], (some (119, true)), []⟩], 
  [
  ⟨(some (128)), .bin .bool .eql (.tmp 123) (.tmp 127), (some (119, true)), []⟩], 
  [
  ⟨(some (129)), .pick (.tmp 119) (.tmp 128) (.const (.bool false)), none, []⟩], 
  [
  ⟨(some (130)), .move (.tmp 129), none, []⟩], 
  [
  ⟨(some (131)), .call (.const (.fn (.func 18) [] [])) [], (some (130, true)), []⟩], 
  [
  ⟨(some (132)), .pick (.tmp 130) (.tmp 131) (.const (.bool false)), none, []⟩], 
  [
  ⟨(some (12)), .move (.tmp 132), none, []⟩]]
theorem k_law03_CathodePossible_r16_sg : segs k_law03_CathodePossible_r16 = k_law03_CathodePossible_r16s := by kernel_rfl
theorem k_law03_CathodePossible_r16_st : statOK k_law03_CathodePossible_r16 = true := by kernel_rfl
def k_law03_CathodePossible : AFun := { params := 6, ntmps := 133, body := (.seq (.reg k_law03_CathodePossible_r0 false) (.seq (.seq (.reg k_law03_CathodePossible_r1 false) (.cond (.tmp 31) (.seq (.reg k_law03_CathodePossible_r2 false) .ret) .skip)) (.seq (.reg k_law03_CathodePossible_r3 false) (.seq (.reg k_law03_CathodePossible_r4 false) (.seq (.reg k_law03_CathodePossible_r5 false) (.seq (.reg k_law03_CathodePossible_r6 false) (.seq (.seq (.reg k_law03_CathodePossible_r7 false) (.block 0 (.seq (.reg k_law03_CathodePossible_r8 false) (.cond (.tmp 49) (.reg k_law03_CathodePossible_r9 true) (.seq (.reg k_law03_CathodePossible_r10 false) (.cond (.tmp 71) (.reg k_law03_CathodePossible_r11 true) (.seq (.reg k_law03_CathodePossible_r12 false) (.cond (.tmp 93) (.reg k_law03_CathodePossible_r13 false) (.seq (.reg k_law03_CathodePossible_r14 false) (.cond (.tmp 105) (.reg k_law03_CathodePossible_r15 false) .skip)))))))))) (.seq (.reg k_law03_CathodePossible_r16 true) .ret)))))))), res := [.tmp 12] }
theorem k_law03_CathodePossible_ok : cfun Try.prog Try.f6 = k_law03_CathodePossible := by kernel_rfl

-- 44: thermion/thermionref03.Possible
def k_ref03_Possible_r0 : List AOper := [
  ⟨(some (3)), .box (.tmp 0), none, []⟩, 
  ⟨(some (6)), .move (.const (.bool false)), none, []⟩]
def k_ref03_Possible_r1 : List AOper := [
  ⟨(some (11)), .load (some (7)) (.tmp 3), none, []⟩, 
  ⟨(some (12)), .call (.const (.fn (.func 26) [] [])) [.tmp 11], none, []⟩, 
  ⟨(some (13)), .bin .plain .neq (.tmp 12) (.const (.int .i64 0)), none, []⟩, 
  ⟨(some (14)), .move (.tmp 13), none, []⟩, 
  ⟨(some (15)), .move (.tmp 1), (some (14, false)), []⟩, 
  ⟨(some (16)), .call (.const (.fn (.func 30) [] [])) [.tmp 15], (some (14, false)), []⟩, 
  ⟨(some (17)), .bin .plain .neq (.tmp 16) (.const (.int .i64 0)), (some (14, false)), []⟩, 
  ⟨(some (18)), .pick (.tmp 14) (.const (.bool true)) (.tmp 17), none, []⟩, 
  ⟨(some (19)), .move (.tmp 18), none, []⟩, 
  ⟨(some (20)), .move (.tmp 2), (some (19, false)), []⟩, 
  ⟨(some (21)), .len false (.tmp 20), (some (19, false)), []⟩, 
  ⟨(some (22)), .bin .plain .eql (.tmp 21) (.const (.int .i64 0)), (some (19, false)), []⟩, 
  ⟨(some (23)), .pick (.tmp 19) (.const (.bool true)) (.tmp 22), none, []⟩, 
  ⟨(some (24)), .move (.tmp 23), none, []⟩, 
  ⟨(some (25)), .move (.tmp 2), (some (24, false)), []⟩, 
  ⟨(some (26)), .indexAddr 4 (.tmp 25) (.const (.int .i64 0)), (some (24, false)), []⟩, 
  ⟨(some (27)), .load (some (4)) (.tmp 26), (some (24, false)), []⟩, 
  ⟨(some (28)), .fieldAddr 0 (.tmp 3), (some (24, false)), [14, 15, 16]⟩, 
  ⟨(some (29)), .load none (.tmp 28), (some (24, false)), [14, 15, 16]⟩, 
  ⟨(some (30)), .build [.int .i64 0, .int .i64 0, .int .i64 0, .int .i64 0] [(0, 1, .tmp 29)], (some (24, false)), [14, 15, 16]⟩, 
  ⟨(some (31)), .eqAgg true [.int, .int, .int, .int] (.tmp 27) (.tmp 30), (some (24, false)), []⟩, 
  ⟨(some (32)), .pick (.tmp 24) (.const (.bool true)) (.tmp 31), none, []⟩]
def k_ref03_Possible_r1s : List (List AOper) := [
  [
  ⟨(some (11)), .load (some (7)) (.tmp 3), none, []⟩], 
  [
  ⟨(some (12)), .call (.const (.fn (.func 26) [] [])) [.tmp 11], none, []⟩], 
  [
  ⟨(some (13)), .bin .plain .neq (.tmp 12) (.const (.int .i64 0)), none, []⟩], 
  [
  ⟨(some (14)), .move (.tmp 13), none, []⟩], 
  [
  ⟨(some (15)), .move (.tmp 1), (some (14, false)), []⟩], 
  [
  ⟨(some (16)), .call (.const (.fn (.func 30) [] [])) [.tmp 15], (some (14, false)), []⟩], 
  [
  ⟨(some (17)), .bin .plain .neq (.tmp 16) (.const (.int .i64 0)), (some (14, false)), []⟩], 
  [
  ⟨(some (18)), .pick (.tmp 14) (.const (.bool true)) (.tmp 17), none, []⟩], 
  [
  ⟨(some (19)), .move (.tmp 18), none, []⟩], 
  [
  ⟨(some (20)), .move (.tmp 2), (some (19, false)), []⟩], 
  [
  ⟨(some (21)), .len false (.tmp 20), (some (19, false)), []⟩], 
  [
  ⟨(some (22)), .bin .plain .eql (.tmp 21) (.const (.int .i64 0)), (some (19, false)), []⟩], 
  [
  ⟨(some (23)), .pick (.tmp 19) (.const (.bool true)) (.tmp 22), none, []⟩], 
  [
  ⟨(some (24)), .move (.tmp 23), none, []⟩], 
  [
  ⟨(some (25)), .move (.tmp 2), (some (24, false)), []⟩, 
  ⟨(some (26)), .indexAddr 4 (.tmp 25) (.const (.int .i64 0)), (some (24, false)), []⟩, 
  ⟨(some (27)), .load (some (4)) (.tmp 26), (some (24, false)), []⟩, 
  ⟨(some (28)), .fieldAddr 0 (.tmp 3), (some (24, false)), [14, 15, 16]⟩, 
  ⟨(some (29)), .load none (.tmp 28), (some (24, false)), [14, 15, 16]⟩, 
  ⟨(some (30)), .build [.int .i64 0, .int .i64 0, .int .i64 0, .int .i64 0] [(0, 1, .tmp 29)], (some (24, false)), [14, 15, 16]⟩], 
  [
  ⟨(some (31)), .eqAgg true [.int, .int, .int, .int] (.tmp 27) (.tmp 30), (some (24, false)), []⟩], 
  [
  ⟨(some (32)), .pick (.tmp 24) (.const (.bool true)) (.tmp 31), none, []⟩]]
theorem k_ref03_Possible_r1_sg : segs k_ref03_Possible_r1 = k_ref03_Possible_r1s := by kernel_rfl
theorem k_ref03_Possible_r1_st : statOK k_ref03_Possible_r1 = true := by kernel_rfl
def k_ref03_Possible_r2 : List AOper := [
  ⟨(some (6)), .move (.const (.bool false)), none, []⟩]
def k_ref03_Possible_r3 : List AOper := [
  ⟨(some (7)), .move (.const (.int .i64 300)), none, []⟩, 
  ⟨(some (8)), .move (.const (.int .i64 0)), none, []⟩]
def k_ref03_Possible_r4 : List AOper := [
  ⟨(some (9)), .move (.const (.int .i64 0)), none, []⟩]
def k_ref03_Possible_r5 : List AOper := [
  ⟨(some (33)), .move (.tmp 9), none, []⟩, 
  ⟨(some (34)), .move (.tmp 1), none, []⟩, 
  ⟨(some (35)), .len false (.tmp 34), none, []⟩, 
  ⟨(some (36)), .bin .plain .lss (.tmp 33) (.tmp 35), none, []⟩]
def k_ref03_Possible_r6 : List AOper := [
  ⟨(some (10)), .move (.const (.int .i64 0)), none, []⟩]
def k_ref03_Possible_r7 : List AOper := [
  ⟨(some (39)), .move (.tmp 10), none, []⟩, 
  ⟨(some (40)), .move (.tmp 1), none, []⟩, 
  ⟨(some (41)), .move (.tmp 9), none, []⟩, 
  ⟨(some (42)), .indexAddr 3 (.tmp 40) (.tmp 41), none, []⟩, 
  ⟨(some (43)), .fieldAddr 0 (.tmp 42), none, []⟩, 
  ⟨(some (44)), .load none (.tmp 43), none, []⟩, 
  ⟨(some (45)), .bin .plain .lss (.tmp 39) (.tmp 44), none, []⟩]
def k_ref03_Possible_r8 : List AOper := [
  ⟨(some (48)), .load (some (7)) (.tmp 3), none, []⟩, 
  ⟨(some (49)), .move (.tmp 7), none, [0]⟩, 
  ⟨(some (50)), .move (.tmp 1), none, [0, 1]⟩, 
  ⟨(some (51)), .move (.tmp 9), none, [0, 1, 2]⟩, 
  ⟨(some (52)), .indexAddr 3 (.tmp 50) (.tmp 51), none, [0, 1]⟩, 
  ⟨(some (53)), .fieldAddr 1 (.tmp 52), none, [0, 1]⟩, 
  ⟨(some (54)), .load none (.tmp 53), none, [0, 1]⟩, 
  ⟨(some (55)), .call (.const (.fn (.func 83) [] [])) [.tmp 48, .tmp 49, .tmp 54], none, []⟩, 
  ⟨(some (7)), .move (.tmp 55), none, []⟩]
def k_ref03_Possible_r8s : List (List AOper) := [
  [
  ⟨(some (48)), .load (some (7)) (.tmp 3), none, []⟩, 
  ⟨(some (49)), .move (.tmp 7), none, [0]⟩, 
  ⟨(some (50)), .move (.tmp 1), none, [0, 1]⟩, 
  ⟨(some (51)), .move (.tmp 9), none, [0, 1, 2]⟩, 
  ⟨(some (52)), .indexAddr 3 (.tmp 50) (.tmp 51), none, [0, 1]⟩, 
  ⟨(some (53)), .fieldAddr 1 (.tmp 52), none, [0, 1]⟩, 
  ⟨(some (54)), .load none (.tmp 53), none, [0, 1]⟩], 
  [
  ⟨(some (55)), .call (.const (.fn (.func 83) [] [])) [.tmp 48, .tmp 49, .tmp 54], none, []⟩], 
  [
  ⟨(some (7)), .move (.tmp 55), none, []⟩]]
theorem k_ref03_Possible_r8_sg : segs k_ref03_Possible_r8 = k_ref03_Possible_r8s := by kernel_rfl
theorem k_ref03_Possible_r8_st : statOK k_ref03_Possible_r8 = true := by kernel_rfl
def k_ref03_Possible_r9 : List AOper := [
  ⟨(some (56)), .move (.tmp 8), none, []⟩, 
  ⟨(some (57)), .bin .plain .add (.tmp 56) (.const (.int .i64 1)), none, []⟩, 
  ⟨(some (8)), .move (.tmp 57), none, []⟩]
def k_ref03_Possible_r10 : List AOper := [
  ⟨(some (58)), .move (.tmp 8), none, []⟩, 
  ⟨(some (59)), .move (.tmp 2), none, [0]⟩, 
  ⟨(some (60)), .len false (.tmp 59), none, [0]⟩, 
  ⟨(some (61)), .bin .plain .geq (.tmp 58) (.tmp 60), none, []⟩, 
  ⟨(some (62)), .move (.tmp 61), none, []⟩, 
  ⟨(some (63)), .move (.tmp 2), (some (62, false)), []⟩, 
  ⟨(some (64)), .move (.tmp 8), (some (62, false)), [5]⟩, 
  ⟨(some (65)), .bin .plain .sub (.tmp 64) (.const (.int .i64 1)), (some (62, false)), [5]⟩, 
  ⟨(some (66)), .indexAddr 4 (.tmp 63) (.tmp 65), (some (62, false)), []⟩, 
  ⟨(some (67)), .load (some (4)) (.tmp 66), (some (62, false)), []⟩, 
  ⟨(some (68)), .move (.tmp 2), (some (62, false)), [5, 6, 7, 8, 9]⟩, 
  ⟨(some (69)), .move (.tmp 8), (some (62, false)), [5, 6, 7, 8, 9, 10]⟩, 
  ⟨(some (70)), .indexAddr 4 (.tmp 68) (.tmp 69), (some (62, false)), [5, 6, 7, 8, 9]⟩, 
  ⟨(some (71)), .load (some (4)) (.tmp 70), (some (62, false)), [5, 6, 7, 8, 9]⟩, 
  ⟨(some (72)), .load (some (7)) (.tmp 3), (some (62, false)), [5, 6, 7, 8, 9, 10, 11, 12, 13]⟩, 
  ⟨(some (73)), .move (.tmp 7), (some (62, false)), [5, 6, 7, 8, 9, 10, 11, 12, 13, 14]⟩, 
  ⟨(some (74)), .move (.tmp 1), (some (62, false)), [5, 6, 7, 8, 9, 10, 11, 12, 13, 14, 15]⟩, 
  ⟨(some (75)), .move (.tmp 9), (some (62, false)), [5, 6, 7, 8, 9, 10, 11, 12, 13, 14, 15, 16]⟩, 
  ⟨(some (76)), .indexAddr 3 (.tmp 74) (.tmp 75), (some (62, false)), [5, 6, 7, 8, 9, 10, 11, 12, 13, 14, 15]⟩, 
  ⟨(some (77)), .fieldAddr 2 (.tmp 76), (some (62, false)), [5, 6, 7, 8, 9, 10, 11, 12, 13, 14, 15]⟩, 
  ⟨(some (78)), .load none (.tmp 77), (some (62, false)), [5, 6, 7, 8, 9, 10, 11, 12, 13, 14, 15]⟩, 
  ⟨(some (79)), .call (.const (.fn (.func 84) [] [])) [.tmp 72, .tmp 73, .tmp 78], (some (62, false)), [5, 6, 7, 8, 9, 10, 11, 12, 13]⟩, 
  ⟨(some (80)), .call (.const (.fn (.func 90) [] [])) [.tmp 67, .tmp 71, .tmp 79], (some (62, false)), []⟩, 
  ⟨(some (81)), .not (.tmp 80), (some (62, false)), []⟩, 
  ⟨(some (82)), .pick (.tmp 62) (.const (.bool true)) (.tmp 81), none, []⟩]
def k_ref03_Possible_r10s : List (List AOper) := [
  [
  ⟨(some (58)), .move (.tmp 8), none, []⟩, 
  ⟨(some (59)), .move (.tmp 2), none, [0]⟩, 
  ⟨(some (60)), .len false (.tmp 59), none, [0]⟩], 
  [
  ⟨(some (61)), .bin .plain .geq (.tmp 58) (.tmp 60), none, []⟩], 
  [
  ⟨(some (62)), .move (.tmp 61), none, []⟩], 
  [
  ⟨(some (63)), .move (.tmp 2), (some (62, false)), []⟩, 
  ⟨(some (64)), .move (.tmp 8), (some (62, false)), [5]⟩, 
  ⟨(some (65)), .bin .plain .sub (.tmp 64) (.const (.int .i64 1)), (some (62, false)), [5]⟩, 
  ⟨(some (66)), .indexAddr 4 (.tmp 63) (.tmp 65), (some (62, false)), []⟩, 
  ⟨(some (67)), .load (some (4)) (.tmp 66), (some (62, false)), []⟩, 
  ⟨(some (68)), .move (.tmp 2), (some (62, false)), [5, 6, 7, 8, 9]⟩, 
  ⟨(some (69)), .move (.tmp 8), (some (62, false)), [5, 6, 7, 8, 9, 10]⟩, 
  ⟨(some (70)), .indexAddr 4 (.tmp 68) (.tmp 69), (some (62, false)), [5, 6, 7, 8, 9]⟩, 
  ⟨(some (71)), .load (some (4)) (.tmp 70), (some (62, false)), [5, 6, 7, 8, 9]⟩, 
  ⟨(some (72)), .load (some (7)) (.tmp 3), (some (62, false)), [5, 6, 7, 8, 9, 10, 11, 12, 13]⟩, 
  ⟨(some (73)), .move (.tmp 7), (some (62, false)), [5, 6, 7, 8, 9, 10, 11, 12, 13, 14]⟩, 
  ⟨(some (74)), .move (.tmp 1), (some (62, false)), [5, 6, 7, 8, 9, 10, 11, 12, 13, 14, 15]⟩, 
  ⟨(some (75)), .move (.tmp 9), (some (62, false)), [5, 6, 7, 8, 9, 10, 11, 12, 13, 14, 15, 16]⟩, 
  ⟨(some (76)), .indexAddr 3 (.tmp 74) (.tmp 75), (some (62, false)), [5, 6, 7, 8, 9, 10, 11, 12, 13, 14, 15]⟩, 
  ⟨(some (77)), .fieldAddr 2 (.tmp 76), (some (62, false)), [5, 6, 7, 8, 9, 10, 11, 12, 13, 14, 15]⟩, 
  ⟨(some (78)), .load none (.tmp 77), (some (62, false)), [5, 6, 7, 8, 9, 10, 11, 12, 13, 14, 15]⟩, 
  ⟨(some (79)), .call (.const (.fn (.func 84) [] [])) [.tmp 72, .tmp 73, .tmp 78], (some (62, false)), [5, 6, 7, 8, 9, 10, 11, 12, 13]⟩], 
  [
  ⟨(some (80)), .call (.const (.fn (.func 90) [] [])) [.tmp 67, .tmp 71, .tmp 79], (some (62, false)), []⟩], 
  [
  ⟨(some (81)), .not (.tmp 80), (some (62, false)), []⟩], 
  [
  ⟨(some (82)), .pick (.tmp 62) (.const (.bool true)) (.tmp 81), none, []⟩]]
theorem k_ref03_Possible_r10_sg : segs k_ref03_Possible_r10 = k_ref03_Possible_r10s := by kernel_rfl
theorem k_ref03_Possible_r10_st : statOK k_ref03_Possible_r10 = true := by kernel_rfl
def k_ref03_Possible_r11 : List AOper := [
  ⟨(some (6)), .move (.const (.bool false)), none, []⟩]
def k_ref03_Possible_r12 : List AOper := [
  ⟨(some (46)), .move (.tmp 10), none, []⟩, 
  ⟨(some (47)), .bin .plain .add (.tmp 46) (.const (.int .i64 1)), none, []⟩, 
  ⟨(some (10)), .move (.tmp 47), none, []⟩]
def k_ref03_Possible_r13 : ACode := (.seq (.seq (.reg k_ref03_Possible_r7 false) (.cond (.tmp 45) .skip (.exit 2))) (.seq (.block 3 (.seq (.reg k_ref03_Possible_r8 true) (.seq (.reg k_ref03_Possible_r9 false) (.seq (.reg k_ref03_Possible_r10 true) (.cond (.tmp 82) (.seq (.reg k_ref03_Possible_r11 false) .ret) .skip))))) (.reg k_ref03_Possible_r12 false)))
def k_ref03_Possible_r14 : List AOper := [
  ⟨(some (37)), .move (.tmp 9), none, []⟩, 
  ⟨(some (38)), .bin .plain .add (.tmp 37) (.const (.int .i64 1)), none, []⟩, 
  ⟨(some (9)), .move (.tmp 38), none, []⟩]
def k_ref03_Possible_r15 : ACode := (.seq (.seq (.reg k_ref03_Possible_r5 false) (.cond (.tmp 36) .skip (.exit 0))) (.seq (.block 1 (.seq (.reg k_ref03_Possible_r6 false) (.block 2 (.loop k_ref03_Possible_r13)))) (.reg k_ref03_Possible_r14 false)))
def k_ref03_Possible_r16 : List AOper := [
  ⟨(some (83)), .move (.tmp 8), none, []⟩, 
  ⟨(some (84)), .move (.tmp 2), none, []⟩, 
  ⟨(some (85)), .len false (.tmp 84), none, []⟩, 
  ⟨(some (86)), .bin .plain .sub (.tmp 85) (.const (.int .i64 1)), none, []⟩, 
  ⟨(some (87)), .bin .plain .eql (.tmp 83) (.tmp 86), none, []⟩, 
  ⟨(some (6)), .move (.tmp 87), none, []⟩]
def k_ref03_Possible : AFun := { params := 3, ntmps := 88, body := (.seq (.reg k_ref03_Possible_r0 false) (.seq (.seq (.reg k_ref03_Possible_r1 true) (.cond (.tmp 32) (.seq (.reg k_ref03_Possible_r2 false) .ret) .skip)) (.seq (.reg k_ref03_Possible_r3 false) (.seq (.seq (.reg k_ref03_Possible_r4 false) (.block 0 (.loop k_ref03_Possible_r15))) (.seq (.reg k_ref03_Possible_r16 false) .ret))))), res := [.tmp 6] }
theorem k_ref03_Possible_ok : cfun Try.prog Try.f44 = k_ref03_Possible := by kernel_rfl

-- 90: thermion/thermionref03.follows
def k_ref03_follows_r0 : List AOper := [
  ⟨(some (3)), .box (.tmp 0), none, []⟩, 
  ⟨(some (4)), .box (.tmp 1), none, []⟩, 
  ⟨(some (5)), .box (.tmp 2), none, []⟩, 
  ⟨(some (6)), .move (.const (.bool false)), none, []⟩]
def k_ref03_follows_r1 : List AOper := [
  ⟨(some (10)), .fieldAddr 0 (.tmp 3), none, []⟩, 
  ⟨(some (11)), .load none (.tmp 10), none, []⟩, 
  ⟨(some (12)), .fieldAddr 0 (.tmp 4), none, []⟩, 
  ⟨(some (13)), .load none (.tmp 12), none, []⟩, 
  ⟨(some (14)), .bin .plain .sub (.tmp 11) (.tmp 13), none, []⟩, 
  ⟨(some (7)), .move (.tmp 14), none, []⟩]
def k_ref03_follows_r2 : List AOper := [
  ⟨(some (15)), .fieldAddr 1 (.tmp 3), none, []⟩, 
  ⟨(some (16)), .load none (.tmp 15), none, []⟩, 
  ⟨(some (17)), .move (.tmp 7), none, []⟩, 
  ⟨(some (18)), .bin .plain .add (.tmp 16) (.tmp 17), none, []⟩, 
  ⟨(some (19)), .fieldAddr 1 (.tmp 4), none, []⟩, 
  ⟨(some (20)), .load none (.tmp 19), none, []⟩, 
  ⟨(some (21)), .bin .plain .sub (.tmp 18) (.tmp 20), none, []⟩, 
  ⟨(some (8)), .move (.tmp 21), none, []⟩]
def k_ref03_follows_r3 : List AOper := [
  ⟨(some (22)), .fieldAddr 2 (.tmp 3), none, []⟩, 
  ⟨(some (23)), .load none (.tmp 22), none, []⟩, 
  ⟨(some (24)), .move (.tmp 8), none, []⟩, 
  ⟨(some (25)), .bin .plain .add (.tmp 23) (.tmp 24), none, []⟩, 
  ⟨(some (26)), .fieldAddr 2 (.tmp 4), none, []⟩, 
  ⟨(some (27)), .load none (.tmp 26), none, []⟩, 
  ⟨(some (28)), .bin .plain .sub (.tmp 25) (.tmp 27), none, []⟩, 
  ⟨(some (9)), .move (.tmp 28), none, []⟩]
def k_ref03_follows_r4 : List AOper := [
  ⟨(some (29)), .fieldAddr 3 (.tmp 4), none, []⟩, 
  ⟨(some (30)), .load none (.tmp 29), none, []⟩, 
  ⟨(some (31)), .fieldAddr 3 (.tmp 3), none, []⟩, 
  ⟨(some (32)), .load none (.tmp 31), none, []⟩, 
  ⟨(some (33)), .move (.tmp 9), none, []⟩, 
  ⟨(some (34)), .bin .plain .add (.tmp 32) (.tmp 33), none, []⟩, 
  ⟨(some (35)), .bin .plain .neq (.tmp 30) (.tmp 34), none, []⟩]
def k_ref03_follows_r5 : List AOper := [
  ⟨(some (6)), .move (.const (.bool false)), none, []⟩]
def k_ref03_follows_r6 : List AOper := [
  ⟨(some (36)), .move (.tmp 7), none, []⟩, 
  ⟨(some (37)), .fieldAddr 0 (.tmp 3), none, [0]⟩, 
  ⟨(some (38)), .load none (.tmp 37), none, [0]⟩, 
  ⟨(some (39)), .fieldAddr 1 (.tmp 5), none, [0, 1, 2]⟩, 
  ⟨(some (40)), .fieldAddr 0 (.tmp 39), none, [0, 1, 2]⟩, 
  ⟨(some (41)), .load none (.tmp 40), none, [0, 1, 2]⟩, 
  ⟨(some (42)), .call (.const (.fn (.func 111) [] [])) [.tmp 38, .tmp 41], none, [0]⟩, 
  ⟨(some (43)), .fieldAddr 0 (.tmp 3), none, [0, 1, 2, 3, 4, 5, 6]⟩, 
  ⟨(some (44)), .load none (.tmp 43), none, [0, 1, 2, 3, 4, 5, 6]⟩, 
  ⟨(some (45)), .fieldAddr 1 (.tmp 5), none, [0, 1, 2, 3, 4, 5, 6, 7, 8]⟩, 
  ⟨(some (46)), .fieldAddr 1 (.tmp 45), none, [0, 1, 2, 3, 4, 5, 6, 7, 8]⟩, 
  ⟨(some (47)), .load none (.tmp 46), none, [0, 1, 2, 3, 4, 5, 6, 7, 8]⟩, 
  ⟨(some (48)), .call (.const (.fn (.func 112) [] [])) [.tmp 44, .tmp 47], none, [0]⟩, 
  ⟨(some (49)), .call (.const (.fn (.func 69) [] [])) [.tmp 36, .tmp 42, .tmp 48], none, []⟩, 
  ⟨(some (50)), .not (.tmp 49), none, []⟩, 
  ⟨(some (51)), .move (.tmp 50), none, []⟩, 
  ⟨(some (52)), .move (.tmp 8), (some (51, true)), []⟩, 
  ⟨(some (53)), .fieldAddr 1 (.tmp 3), (some (51, true)), [16]⟩, 
  ⟨(some (54)), .load none (.tmp 53), (some (51, true)), [16]⟩, 
  ⟨(some (55)), .fieldAddr 3 (.tmp 5), (some (51, true)), [16, 17, 18]⟩, 
  ⟨(some (56)), .fieldAddr 0 (.tmp 55), (some (51, true)), [16, 17, 18]⟩, 
  ⟨(some (57)), .load none (.tmp 56), (some (51, true)), [16, 17, 18]⟩, 
  ⟨(some (58)), .call (.const (.fn (.func 111) [] [])) [.tmp 54, .tmp 57], (some (51, true)), [16]⟩, 
  ⟨(some (59)), .fieldAddr 1 (.tmp 3), (some (51, true)), [16, 17, 18, 19, 20, 21, 22]⟩, 
  ⟨(some (60)), .load none (.tmp 59), (some (51, true)), [16, 17, 18, 19, 20, 21, 22]⟩, 
  ⟨(some (61)), .fieldAddr 3 (.tmp 5), (some (51, true)), [16, 17, 18, 19, 20, 21, 22, 23, 24]⟩, 
  ⟨(some (62)), .fieldAddr 1 (.tmp 61), (some (51, true)), [16, 17, 18, 19, 20, 21, 22, 23, 24]⟩, 
  ⟨(some (63)), .load none (.tmp 62), (some (51, true)), [16, 17, 18, 19, 20, 21, 22, 23, 24]⟩, 
  ⟨(some (64)), .call (.const (.fn (.func 112) [] [])) [.tmp 60, .tmp 63], (some (51, true)), [16]⟩, 
  ⟨(some (65)), .call (.const (.fn (.func 69) [] [])) [.tmp 52, .tmp 58, .tmp 64], (some (51, true)), []⟩, 
  ⟨(some (66)), .not (.tmp 65), (some (51, true)), []⟩, 
  ⟨(some (67)), .pick (.tmp 51) (.tmp 66) (.const (.bool false)), none, []⟩, 
  ⟨(some (68)), .move (.tmp 67), none, []⟩, 
  ⟨(some (69)), .move (.tmp 9), (some (68, true)), []⟩, 
  ⟨(some (70)), .fieldAddr 2 (.tmp 3), (some (68, true)), [33]⟩, 
  ⟨(some (71)), .load none (.tmp 70), (some (68, true)), [33]⟩, 
  ⟨(some (72)), .fieldAddr 5 (.tmp 5), (some (68, true)), [33, 34, 35]⟩, 
  ⟨(some (73)), .fieldAddr 0 (.tmp 72), (some (68, true)), [33, 34, 35]⟩, 
  ⟨(some (74)), .load none (.tmp 73), (some (68, true)), [33, 34, 35]⟩, 
  ⟨(some (75)), .call (.const (.fn (.func 111) [] [])) [.tmp 71, .tmp 74], (some (68, true)), [33]⟩, 
  ⟨(some (76)), .fieldAddr 2 (.tmp 3), (some (68, true)), [33, 34, 35, 36, 37, 38, 39]⟩, 
  ⟨(some (77)), .load none (.tmp 76), (some (68, true)), [33, 34, 35, 36, 37, 38, 39]⟩, 
  ⟨(some (78)), .fieldAddr 5 (.tmp 5), (some (68, true)), [33, 34, 35, 36, 37, 38, 39, 40, 41]⟩, 
  ⟨(some (79)), .fieldAddr 1 (.tmp 78), (some (68, true)), [33, 34, 35, 36, 37, 38, 39, 40, 41]⟩, 
  ⟨(some (80)), .load none (.tmp 79), (some (68, true)), [33, 34, 35, 36, 37, 38, 39, 40, 41]⟩, 
  ⟨(some (81)), .call (.const (.fn (.func 112) [] [])) [.tmp 77, .tmp 80], (some (68, true)), [33]⟩, 
  ⟨(some (82)), .call (.const (.fn (.func 69) [] [])) [.tmp 69, .tmp 75, .tmp 81], (some (68, true)), []⟩, 
  ⟨(some (83)), .not (.tmp 82), (some (68, true)), []⟩, 
  ⟨(some (84)), .pick (.tmp 68) (.tmp 83) (.const (.bool false)), none, []⟩, 
  ⟨(some (6)), .move (.tmp 84), none, []⟩]
def k_ref03_follows_r6s : List (List AOper) := [
  [
  ⟨(some (36)), .move (.tmp 7), none, []⟩, 
  ⟨(some (37)), .fieldAddr 0 (.tmp 3), none, [0]⟩, 
  ⟨(some (38)), .load none (.tmp 37), none, [0]⟩, 
  ⟨(some (39)), .fieldAddr 1 (.tmp 5), none, [0, 1, 2]⟩, 
  ⟨(some (40)), .fieldAddr 0 (.tmp 39), none, [0, 1, 2]⟩, 
  ⟨(some (41)), .load none (.tmp 40), none, [0, 1, 2]⟩, 
  ⟨(some (42)), .call (.const (.fn (.func 111) [] [])) [.tmp 38, .tmp 41], none, [0]⟩, 
  ⟨(some (43)), .fieldAddr 0 (.tmp 3), none, [0, 1, 2, 3, 4, 5, 6]⟩, 
  ⟨(some (44)), .load none (.tmp 43), none, [0, 1, 2, 3, 4, 5, 6]⟩, 
  ⟨(some (45)), .fieldAddr 1 (.tmp 5), none, [0, 1, 2, 3, 4, 5, 6, 7, 8]⟩, 
  ⟨(some (46)), .fieldAddr 1 (.tmp 45), none, [0, 1, 2, 3, 4, 5, 6, 7, 8]⟩, 
  ⟨(some (47)), .load none (.tmp 46), none, [0, 1, 2, 3, 4, 5, 6, 7, 8]⟩, 
  ⟨(some (48)), .call (.const (.fn (.func 112) [] [])) [.tmp 44, .tmp 47], none, [0]⟩], 
  [
  ⟨(some (49)), .call (.const (.fn (.func 69) [] [])) [.tmp 36, .tmp 42, .tmp 48], none, []⟩], 
  [
  ⟨(some (50)), .not (.tmp 49), none, []⟩], 
  [
  ⟨(some (51)), .move (.tmp 50), none, []⟩], 
  [
  ⟨(some (52)), .move (.tmp 8), (some (51, true)), []⟩, 
  ⟨(some (53)), .fieldAddr 1 (.tmp 3), (some (51, true)), [16]⟩, 
  ⟨(some (54)), .load none (.tmp 53), (some (51, true)), [16]⟩, 
  ⟨(some (55)), .fieldAddr 3 (.tmp 5), (some (51, true)), [16, 17, 18]⟩, 
  ⟨(some (56)), .fieldAddr 0 (.tmp 55), (some (51, true)), [16, 17, 18]⟩, 
  ⟨(some (57)), .load none (.tmp 56), (some (51, true)), [16, 17, 18]⟩, 
  ⟨(some (58)), .call (.const (.fn (.func 111) [] [])) [.tmp 54, .tmp 57], (some (51, true)), [16]⟩, 
  ⟨(some (59)), .fieldAddr 1 (.tmp 3), (some (51, true)), [16, 17, 18, 19, 20, 21, 22]⟩, 
  ⟨(some (60)), .load none (.tmp 59), (some (51, true)), [16, 17, 18, 19, 20, 21, 22]⟩, 
  ⟨(some (61)), .fieldAddr 3 (.tmp 5), (some (51, true)), [16, 17, 18, 19, 20, 21, 22, 23, 24]⟩, 
  ⟨(some (62)), .fieldAddr 1 (.tmp 61), (some (51, true)), [16, 17, 18, 19, 20, 21, 22, 23, 24]⟩, 
  ⟨(some (63)), .load none (.tmp 62), (some (51, true)), [16, 17, 18, 19, 20, 21, 22, 23, 24]⟩, 
  ⟨(some (64)), .call (.const (.fn (.func 112) [] [])) [.tmp 60, .tmp 63], (some (51, true)), [16]⟩], 
  [
  ⟨(some (65)), .call (.const (.fn (.func 69) [] [])) [.tmp 52, .tmp 58, .tmp 64], (some (51, true)), []⟩], 
  [
  ⟨(some (66)), .not (.tmp 65), (some (51, true)), []⟩], 
  [
  ⟨(some (67)), .pick (.tmp 51) (.tmp 66) (.const (.bool false)), none, []⟩], 
  [
  ⟨(some (68)), .move (.tmp 67), none, []⟩], 
  [
  ⟨(some (69)), .move (.tmp 9), (some (68, true)), []⟩, 
  ⟨(some (70)), .fieldAddr 2 (.tmp 3), (some (68, true)), [33]⟩, 
  ⟨(some (71)), .load none (.tmp 70), (some (68, true)), [33]⟩, 
  ⟨(some (72)), .fieldAddr 5 (.tmp 5), (some (68, true)), [33, 34, 35]⟩, 
  ⟨(some (73)), .fieldAddr 0 (.tmp 72), (some (68, true)), [33, 34, 35]⟩, 
  ⟨(some (74)), .load none (.tmp 73), (some (68, true)), [33, 34, 35]⟩, 
  ⟨(some (75)), .call (.const (.fn (.func 111) [] [])) [.tmp 71, .tmp 74], (some (68, true)), [33]⟩, 
  ⟨(some (76)), .fieldAddr 2 (.tmp 3), (some (68, true)), [33, 34, 35, 36, 37, 38, 39]⟩, 
  ⟨(some (77)), .load none (.tmp 76), (some (68, true)), [33, 34, 35, 36, 37, 38, 39]⟩, 
  ⟨(some (78)), .fieldAddr 5 (.tmp 5), (some (68, true)), [33, 34, 35, 36, 37, 38, 39, 40, 41]⟩, 
  ⟨(some (79)), .fieldAddr 1 (.tmp 78), (some (68, true)), [33, 34, 35, 36, 37, 38, 39, 40, 41]⟩, 
  ⟨(some (80)), .load none (.tmp 79), (some (68, true)), [33, 34, 35, 36, 37, 38, 39, 40, 41]⟩, 
  ⟨(some (81)), .call (.const (.fn (.func 112) [] [])) [.tmp 77, .tmp 80], (some (68, true)), [33]⟩], 
  [
  ⟨(some (82)), .call (.const (.fn (.func 69) [] [])) [.tmp 69, .tmp 75, .tmp 81], (some (68, true)), []⟩], 
  [
  ⟨(some (83)), .not (.tmp 82), (some (68, true)), []⟩], 
  [
  ⟨(some (84)), .pick (.tmp 68) (.tmp 83) (.const (.bool false)), none, []⟩], 
  [
  ⟨(some (6)), .move (.tmp 84), none, []⟩]]
theorem k_ref03_follows_r6_sg : segs k_ref03_follows_r6 = k_ref03_follows_r6s := by kernel_rfl
theorem k_ref03_follows_r6_st : statOK k_ref03_follows_r6 = true := by kernel_rfl
def k_ref03_follows : AFun := { params := 3, ntmps := 85, body := (.seq (.reg k_ref03_follows_r0 false) (.seq (.reg k_ref03_follows_r1 false) (.seq (.reg k_ref03_follows_r2 false) (.seq (.reg k_ref03_follows_r3 false) (.seq (.seq (.reg k_ref03_follows_r4 false) (.cond (.tmp 35) (.seq (.reg k_ref03_follows_r5 false) .ret) .skip)) (.seq (.reg k_ref03_follows_r6 true) .ret)))))), res := [.tmp 6] }
theorem k_ref03_follows_ok : cfun Try.prog Try.f90 = k_ref03_follows := by kernel_rfl


abbrev n_law03_CathodePossible : Nat := 6
theorem e_law03_CathodePossible : EntryOK Try.prog n_law03_CathodePossible k_law03_CathodePossible := ⟨Try.f6, Try.func6, k_law03_CathodePossible_ok, by kernel_rfl⟩
abbrev n_ref03_Possible : Nat := 44
theorem e_ref03_Possible : EntryOK Try.prog n_ref03_Possible k_ref03_Possible := ⟨Try.f44, Try.func44, k_ref03_Possible_ok, by kernel_rfl⟩
abbrev n_ref03_follows : Nat := 90
theorem e_ref03_follows : EntryOK Try.prog n_ref03_follows k_ref03_follows := ⟨Try.f90, Try.func90, k_ref03_follows_ok, by kernel_rfl⟩

attribute [go_sem] k_law03_CathodePossible_r0 k_law03_CathodePossible_r1 k_law03_CathodePossible_r2 k_law03_CathodePossible_r3 k_law03_CathodePossible_r4 k_law03_CathodePossible_r5 k_law03_CathodePossible_r6 k_law03_CathodePossible_r7 k_law03_CathodePossible_r8 k_law03_CathodePossible_r9s k_law03_CathodePossible_r10 k_law03_CathodePossible_r11s
attribute [go_sem] k_law03_CathodePossible_r12 k_law03_CathodePossible_r13 k_law03_CathodePossible_r14 k_law03_CathodePossible_r15 k_law03_CathodePossible_r16s k_ref03_Possible_r0 k_ref03_Possible_r1s k_ref03_Possible_r2 k_ref03_Possible_r3 k_ref03_Possible_r4 k_ref03_Possible_r5 k_ref03_Possible_r6
attribute [go_sem] k_ref03_Possible_r7 k_ref03_Possible_r8s k_ref03_Possible_r9 k_ref03_Possible_r10s k_ref03_Possible_r11 k_ref03_Possible_r12 k_ref03_Possible_r14 k_ref03_Possible_r16 k_ref03_follows_r0 k_ref03_follows_r1 k_ref03_follows_r2 k_ref03_follows_r3
attribute [go_sem] k_ref03_follows_r4 k_ref03_follows_r5 k_ref03_follows_r6s k_law03_CathodePossible_r16_sg k_ref03_Possible_r8_sg k_law03_CathodePossible_r11_sg k_ref03_Possible_r10_sg k_ref03_follows_r6_sg k_law03_CathodePossible_r9_sg k_ref03_Possible_r1_sg k_law03_CathodePossible_r16_st k_ref03_Possible_r8_st
attribute [go_sem] k_law03_CathodePossible_r11_st k_ref03_Possible_r10_st k_ref03_follows_r6_st k_law03_CathodePossible_r9_st k_ref03_Possible_r1_st k_law03_CathodePossible k_ref03_Possible k_ref03_follows
end Go.Proofs
namespace Go.Proofs
open Go Go.Sx
attribute [local irreducible] Run

structure MxW (b : Mx) : Prop where
  carb : I64 b.carb
  ox : I64 b.ox
  ba : I64 b.ba
  lost : I64 b.lost
theorem i64_b {n : Int} (h : I64 n) : -9223372036854775808 ≤ n ∧ n ≤ 9223372036854775807 := by
  have h' : (decide (IntKind.i64.min ≤ n) && decide (n ≤ IntKind.i64.max)) = true := h
  have m1 : IntKind.i64.min = -9223372036854775808 := rfl
  have m2 : IntKind.i64.max = 9223372036854775807 := rfl
  simp only [Bool.and_eq_true, decide_eq_true_eq] at h'
  omega
theorem wrap_eq {n m : Int} (h : IntKind.i64.wrap n = m) (hn : -9223372036854775808 ≤ n ∧ n ≤ 9223372036854775807) : m = n := by rw [w64 hn] at h; exact h.symm
theorem wrap_small {x y m : Int} (h : IntKind.i64.wrap (x - y) = m) (hx : 0 ≤ x ∧ x ≤ 4000000) (hy : -9223372036854775808 ≤ y ∧ y ≤ 9223372036854775807) (hm : 0 ≤ m ∧ m ≤ 1000000) : m = x - y := by
  rw [IntKind.wrap_i64] at h; omega

set_option maxHeartbeats 2000000 in
theorem fol_wrap {c : Ct} (hc : CtOK c) {a b : Mx} {x : Bd} (hx : BdOK x) (ha : MxOK c a) (hb : MxW b) {C R E L S T : Int}
    (hC : IntKind.i64.wrap (a.carb - b.carb) = C) (hS : IntKind.i64.wrap (a.ox + C) = S) (hR : IntKind.i64.wrap (S - b.ox) = R) (hT : IntKind.i64.wrap (a.ba + R) = T) (hE : IntKind.i64.wrap (T - b.ba) = E) (hL : IntKind.i64.wrap (a.lost + E) = L) :
    Fol a b x ↔ (b.lost = L ∧ (dn a.carb x.conv.lo ≤ C ∧ C ≤ up a.carb x.conv.hi) ∧ (dn a.ox x.red.lo ≤ R ∧ R ≤ up a.ox x.red.hi) ∧ (dn a.ba x.evap.lo ≤ E ∧ E ≤ up a.ba x.evap.hi)) := by
  have hm := hc.amount
  obtain ⟨a1, a2, a3, a4, a5⟩ := ha
  have b1 := hx.conv.all; have b2 := hx.red.all; have b3 := hx.evap.all
  have u1 := dn_in a1 b1.1 (by omega); have u2 := up_in (r := x.conv.hi) a1 (by omega) (by omega)
  have v1 := dn_in a2 b2.1 (by omega); have v2 := up_in (r := x.red.hi) a2 (by omega) (by omega)
  have z1 := dn_in a3 b3.1 (by omega); have z2 := up_in (r := x.evap.hi) a3 (by omega) (by omega)
  have w1 := i64_b hb.carb; have w2 := i64_b hb.ox; have w3 := i64_b hb.ba; have w4 := i64_b hb.lost
  have hdef0 : Fol a b x ↔ _ := ⟨fun ⟨h1, h2, h3, h4⟩ => And.intro h1 (And.intro h2 (And.intro h3 h4)), fun h => ⟨h.1, h.2.1, h.2.2.1, h.2.2.2⟩⟩
  generalize dn a.carb x.conv.lo = p1 at *
  generalize up a.carb x.conv.hi = p2 at *
  generalize dn a.ox x.red.lo = p3 at *
  generalize up a.ox x.red.hi = p4 at *
  generalize dn a.ba x.evap.lo = p5 at *
  generalize up a.ba x.evap.hi = p6 at *
  have hdef : Fol a b x ↔ ((p1 ≤ a.carb - b.carb ∧ a.carb - b.carb ≤ p2) ∧ (p3 ≤ a.ox + (a.carb - b.carb) - b.ox ∧ a.ox + (a.carb - b.carb) - b.ox ≤ p4) ∧ (p5 ≤ a.ba + (a.ox + (a.carb - b.carb) - b.ox) - b.ba ∧ a.ba + (a.ox + (a.carb - b.carb) - b.ox) - b.ba ≤ p6) ∧ b.lost = a.lost + (a.ba + (a.ox + (a.carb - b.carb) - b.ox) - b.ba)) := by
    exact hdef0
  rw [hdef]
  constructor
  · rintro ⟨f1, f2, f3, f4⟩
    have e1 := wrap_eq hC (by omega)
    have e2 := wrap_eq hS (by omega)
    have e3 := wrap_eq hR (by omega)
    have e4 := wrap_eq hT (by omega)
    have e5 := wrap_eq hE (by omega)
    have e6 := wrap_eq hL (by omega)
    clear hC hS hR hT hE hL w1 w2 w3 w4
    refine ⟨by omega, by omega, by omega, by omega⟩
  · rintro ⟨f4, f1, f2, f3⟩
    have e1 := wrap_small hC (by omega) w1 (by omega)
    have e2 := wrap_eq hS (by omega)
    have e3 := wrap_small hR (by omega) w2 (by omega)
    have e4 := wrap_eq hT (by omega)
    have e5 := wrap_small hE (by omega) w3 (by omega)
    have e6 := wrap_eq hL (by omega)
    clear hC hS hR hT hE hL w1 w2 w3 w4
    refine ⟨by omega, by omega, by omega, by omega⟩

set_option maxHeartbeats 2000000 in
theorem rfollows_run {c : Ct} (hc : CtOK c) {a b : Mx} {x : Bd} (hx : BdOK x) (ha : MxOK c a) (hb : MxW b) {t : Bool} (ht : t = true ↔ Fol a b x) : Ans Try.prog n_ref03_follows [a.v, b.v, x.v] [] (.bool t) [] := by
  obtain ⟨C, hC⟩ : ∃ C, IntKind.i64.wrap (a.carb - b.carb) = C := ⟨_, rfl⟩
  obtain ⟨S, hS⟩ : ∃ S, IntKind.i64.wrap (a.ox + C) = S := ⟨_, rfl⟩
  obtain ⟨R, hR⟩ : ∃ R, IntKind.i64.wrap (S - b.ox) = R := ⟨_, rfl⟩
  obtain ⟨T, hT⟩ : ∃ T, IntKind.i64.wrap (a.ba + R) = T := ⟨_, rfl⟩
  obtain ⟨E, hE⟩ : ∃ E, IntKind.i64.wrap (T - b.ba) = E := ⟨_, rfl⟩
  obtain ⟨L, hL⟩ : ∃ L, IntKind.i64.wrap (a.lost + E) = L := ⟨_, rfl⟩
  rw [fol_wrap hc hx ha hb hC hS hR hT hE hL] at ht
  have hm := hc.amount
  obtain ⟨a1, a2, a3, a4, a5⟩ := ha
  have b1 := hx.conv.all; have b2 := hx.red.all; have b3 := hx.evap.all
  have d1 := rDown_run a.carb x.conv.lo (by omega) (by omega)
  have d2 := rUp_run a.carb x.conv.hi (by omega) (by omega)
  have d3 := rDown_run a.ox x.red.lo (by omega) (by omega)
  have d4 := rUp_run a.ox x.red.hi (by omega) (by omega)
  have d5 := rDown_run a.ba x.evap.lo (by omega) (by omega)
  have d6 := rUp_run a.ba x.evap.hi (by omega) (by omega)
  generalize dn a.carb x.conv.lo = p1 at *
  generalize up a.carb x.conv.hi = p2 at *
  generalize dn a.ox x.red.lo = p3 at *
  generalize up a.ox x.red.hi = p4 at *
  generalize dn a.ba x.evap.lo = p5 at *
  generalize up a.ba x.evap.hi = p6 at *
  have hno : ¬ (b.lost = L ∧ (p1 ≤ C ∧ C ≤ p2) ∧ (p3 ≤ R ∧ R ≤ p4) ∧ (p5 ≤ E ∧ E ≤ p6)) → t = false := fun h => by
    cases t with
    | false => rfl
    | true => exact absurd (ht.1 rfl) h
  refine spec_run e_ref03_follows fun G => ?_
  simp only [go_sem, Mx.v, Mx.cs, Bd.v, Bd.cs, hC, hS, hR, hT, hE, hL]
  by_cases f0 : b.lost = L
  rotate_left
  · have z : (b.lost != L) = true := by simpa using f0
    rw [hno fun h => f0 h.1]
    simp only [go_sem, z, f0]
    try simp
  have z : (b.lost != L) = false := by simp [f0]
  simp only [go_sem, z, f0]
  refine dP d1 ?_
  simp only [go_sem]
  refine dP d2 ?_
  simp only [go_sem]
  by_cases f1 : p1 ≤ C ∧ C ≤ p2
  rotate_left
  · rw [hno fun h => f1 h.2.1]
    refine cP (beyond_yes f1) ?_
    simp only [go_sem]
  refine cP (beyond_no f1) ?_
  simp only [go_sem]
  refine dP d3 ?_
  simp only [go_sem]
  refine dP d4 ?_
  simp only [go_sem]
  by_cases f2 : p3 ≤ R ∧ R ≤ p4
  rotate_left
  · rw [hno fun h => f2 h.2.2.1]
    refine cP (beyond_yes f2) ?_
    simp only [go_sem]
  refine cP (beyond_no f2) ?_
  simp only [go_sem]
  refine dP d5 ?_
  simp only [go_sem]
  refine dP d6 ?_
  simp only [go_sem]
  by_cases f3 : p5 ≤ E ∧ E ≤ p6
  rotate_left
  · rw [hno fun h => f3 h.2.2.2]
    refine cP (beyond_yes f3) ?_
    simp only [go_sem]
  rw [ht.2 ⟨f0, f1, f2, f3⟩]
  refine cP (beyond_no f3) ?_
  simp only [go_sem]
end Go.Proofs
