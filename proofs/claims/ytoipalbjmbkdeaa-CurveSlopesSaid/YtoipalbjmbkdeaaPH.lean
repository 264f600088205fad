/- A part of the proof. -/
import Derived.Test.YtoipalbjmbkdeaaPG
set_option linter.unusedSimpArgs false
set_option linter.unusedVariables false
namespace Go.Proofs
open Go Go.Sx Go.Fam
attribute [local irreducible] Run

structure FmH (J : Heap) (w : Int) (v0 v1 v2 v3 : AVal) : Prop where
  r0 : J[0]? = some (some (Dr w))
  r1 : J[1]? = some (some (.cells false 4 [.agg [.nilsl, .nilsl, .nilsl, .nilsl]]))
  r4 : J[4]? = some (some (.cells false 4 [.agg [v0, v1, v2, v3]]))
def Bd1 (m : Int) (l : List Int) : Prop := ∀ x ∈ l, 0 ≤ x ∧ x ≤ m
theorem Bd1.at1 {m : Int} {l : List Int} (h : Bd1 m l) {i : Nat} (hi : i < l.length) : 0 ≤ Go.Fam.at1 l i ∧ Go.Fam.at1 l i ≤ m := by
  have := get_at hi
  exact h _ (List.mem_of_getElem? this)
theorem FS.g2 {F : Nat → Prop} {J : Heap} {g p : List Int} {L U : List (List Int)} {lo hi : List Int} {v0 v1 v2 v3 v4 v5 : AVal} {κ2 κ3 κ4 κ5 : List Nat} (h : FS F J g p L U lo hi v0 v1 v2 v3 v4 v5 [2] [3] κ2 κ3 κ4 κ5) : v0 = .sl 2 0 g.length ∧ v1 = .sl 3 0 p.length ∧ J[2]? = some (some (.cells true 1 (ivL g))) ∧ J[3]? = some (some (.cells true 1 (ivL p))) := by
  obtain ⟨_, a, e1, e2, e3⟩ := vw_get h.d0
  obtain ⟨_, b, e4, e5, e6⟩ := vw_get h.d1
  obtain rfl : 2 = a := by simpa using e2
  obtain rfl : 3 = b := by simpa using e5
  exact ⟨e1, e4, e3, e6⟩
def fT (gl pl : Nat) : List (Nat × AVal) := [(0, .ptr 0 0 0 1), (2, .ptr 1 0 0 1), (3, .sl 2 0 gl), (4, .sl 3 0 pl), (7, .ptr 4 0 0 1)]
theorem e_mx (a b : Int) : (if b > a then b else a) = mx a b := rfl
theorem cell00 {w a0 b0 wA wB : Int} (h1 : upto w 60 = a0) (h2 : dstep w = wA) (h3 : upto wA 30 = b0) (h4 : dstep wA = wB) : cell w none none = ⟨a0, a0 + mx 0 b0, wB⟩ := by subst h1; subst h2; subst h3; subst h4; rfl
theorem cell01 {w a0 b0 wA wB p1 p2 : Int} (h1 : upto w 60 = a0) (h2 : dstep w = wA) (h3 : upto wA 30 = b0) (h4 : dstep wA = wB) : cell w none (some (p1, p2)) = ⟨mx a0 p1, mx a0 p1 + mx 0 (mx (mx a0 p1 + b0) p2 - mx a0 p1), wB⟩ := by subst h1; subst h2; subst h3; subst h4; rfl
theorem cell10 {w a0 b0 t0 wA wB wC q1 q2 a1 b1 : Int} (h1 : upto w 60 = a0) (h2 : dstep w = wA) (h3 : upto wA 30 = b0) (h4 : dstep wA = wB) (h5 : upto wB 20 = t0) (h6 : dstep wB = wC) (h7 : mx a0 (q1 + t0) = a1) (h8 : mx (a1 + b0) q2 - a1 = b1) :
    cell w (some (q1, q2)) none = ⟨a1, a1 + mx 0 (mx (a1 + b1) q2 - a1), wC⟩ := by subst h1; subst h2; subst h3; subst h4; subst h5; subst h6; subst h7; subst h8; rfl
theorem cell11 {w a0 b0 t0 wA wB wC q1 q2 p1 p2 a1 b1 a2 b2 : Int} (h1 : upto w 60 = a0) (h2 : dstep w = wA) (h3 : upto wA 30 = b0) (h4 : dstep wA = wB) (h5 : upto wB 20 = t0) (h6 : dstep wB = wC) (h7 : mx a0 (q1 + t0) = a1) (h8 : mx (a1 + b0) q2 - a1 = b1) (h9 : mx a1 p1 = a2) (h10 : mx (a2 + b1) p2 - a2 = b2) :
    cell w (some (q1, q2)) (some (p1, p2)) = ⟨a2, a2 + mx 0 (mx (a2 + b2) q2 - a2), wC⟩ := by subst h1; subst h2; subst h3; subst h4; subst h5; subst h6; subst h7; subst h8; subst h9; subst h10; rfl
theorem mx_or (a b : Int) : (a ≤ mx a b ∧ b ≤ mx a b) ∧ (mx a b = a ∨ mx a b = b) := by unfold mx; split <;> omega
theorem Bd1.snoc {m x : Int} {l : List Int} (h : Bd1 m l) (hx : 0 ≤ x ∧ x ≤ m) : Bd1 m (l ++ [x]) := fun y hy => by
  rcases List.mem_append.1 hy with hy | hy
  · exact h y hy
  · obtain rfl : y = x := by simpa using hy
    exact hx
set_option maxHeartbeats 8000000 in
set_option maxRecDepth 20000 in
theorem famOf_any {w w1 w2 : Int} {gL pL : List Int} (k1 : Ans Try.prog n_kit_Lines [.ptr 0 0 0 1, .int .i64 (-9000), .int .i64 3000, .int .i64 5] [some (Dr w)] (.sl 1 0 gL.length) [some (Dr w1), some (.cells true 1 (gL.map (.int .i64)))])
    (k2 : Ans Try.prog n_kit_Lines [.ptr 0 0 0 1, .int .i64 0, .int .i64 300000, .int .i64 5] [some (Dr w1)] (.sl 1 0 pL.length) [some (Dr w2), some (.cells true 1 (pL.map (.int .i64)))]) (gm : gL.length ≤ 5) (pm : pL.length ≤ 5) (g0 : gL ≠ []) (p0 : pL ≠ [])
    (b1 : (upto w2 2 == 0) = false) {w3 : Int} (k3 : Ans Try.prog n_kit_Dice_One [.ptr 0 0 0 1, .int .i64 2] [some (Dr w2)] (.bool (upto w2 2 == 0)) [some (Dr w3)]) {T : TabR} (hT : tabGo pL.length gL.length w3 [] [] = T) :
    Go.Sx.Fn Try.prog n_kit_FamilyOf [.ptr 0 0 0 1] [some (Dr w)] fun v H' => ∃ ι, Dat 6 H' ι v (Fv ⟨gL, pL, T.lo, T.hi⟩) ∧ ι.Nodup ∧ 0 ∉ ι ∧ H'[0]? = some (some (Dr T.w)) := by
  rw [b1] at k3
  refine run_fn e_kit_FamilyOf fun G => ?_
  simp only [go_sem]
  refine cDN k1 ?_ (by rw [bel_sl])
  simp only [go_sem, ren]
  refine cDN k2 ?_ (by rw [bel_sl])
  simp only [go_sem, ren]
  refine cD k3 ?_
  simp only [go_sem]
  refine loop_ind k_kit_FamilyOf_r25.eq_1 (fun a : Nat × Int × Heap × AVal × AVal × AVal × AVal × List (List Int) × List (List Int) => ∃ m, gL.length = a.1 + m ∧ tabGo pL.length m a.2.1 a.2.2.2.2.2.2.2.1 a.2.2.2.2.2.2.2.2 = T ∧ a.2.2.2.2.2.2.2.1.length = a.1 ∧ a.2.2.2.2.2.2.2.2.length = a.1 ∧
      (∀ r ∈ a.2.2.2.2.2.2.2.1, r.length = pL.length ∧ Bd1 (100 * a.1) r) ∧ (∀ r ∈ a.2.2.2.2.2.2.2.2, r.length = pL.length ∧ Bd1 (1000 * a.1) r) ∧
      FmH a.2.2.1 a.2.1 a.2.2.2.1 a.2.2.2.2.1 a.2.2.2.2.2.1 a.2.2.2.2.2.2.1 ∧ ∃ κ2 κ3 κ4 κ5, FS oF a.2.2.1 gL pL a.2.2.2.2.2.2.2.1 a.2.2.2.2.2.2.2.2 [] [] a.2.2.2.1 a.2.2.2.2.1 a.2.2.2.2.2.1 a.2.2.2.2.2.2.1 .nilsl .nilsl [2] [3] κ2 κ3 κ4 κ5) (fun a => gL.length - a.1)
    (fun a => (tsets 140 (fT gL.length pL.length ++ [(8, .int .i64 a.1)]), a.2.2.1)) (0, w3, _, .sl 2 0 gL.length, .sl 3 0 pL.length, .nilsl, .nilsl, [], []) ?_ (by simp [go_sem, fT]) rfl ?_
  · refine ⟨gL.length, by simp, hT, rfl, rfl, by simp, by simp, ⟨rfl, rfl, rfl⟩, [], [], [], [], fun a ha => by unfold oF at ha; simp; omega, vw_put g0 rfl rfl, vw_put p0 rfl rfl, ⟨rfl, rfl, rfl⟩, ⟨rfl, rfl, rfl⟩, ⟨rfl, rfl, rfl⟩, ⟨rfl, rfl, rfl⟩, fun a => ?_, fun a ha => ?_⟩
    · simp only [List.count_cons, List.count_nil, beq_iff_eq]
      split <;> split <;> omega
    · unfold oF at ha
      simp only [List.count_cons, List.count_nil, beq_iff_eq]
      rw [if_neg (by omega), if_neg (by omega)]
  rintro ⟨i, w, J, v0, v1, v2, v3, L, U⟩ ⟨m, hm, hG, hL, hU, bL, bU, ⟨f0, f1, f4⟩, κ2, κ3, κ4, κ5, hF⟩ ih
  dsimp only at hm hG hL hU bL bU f0 f1 f4 hF ih ⊢
  by_cases h1 : i < gL.length
  · obtain ⟨m, rfl⟩ : ∃ n, m = n + 1 := ⟨m - 1, by omega⟩
    have h2 : (i : Int) < gL.length := by omega
    have h3 := idx_next h1 (by omega)
    obtain ⟨Ur, hUr⟩ : ∃ Ur, lastOf L U = Ur := ⟨_, rfl⟩
    simp only [tabGo, hUr] at hG
    obtain ⟨R, hR⟩ : ∃ R, rowGo Ur pL.length w [] [] = R := ⟨_, rfl⟩
    rw [hR] at hG
    obtain ⟨ev0, ev1, f2, f3⟩ := hF.g2
    have c2 := cells_at f2
    simp only [go_sem, fT, h2, c2, List.length_map]
    refine loop_ind k_kit_FamilyOf_r22.eq_1 (fun a : Nat × Int × Heap × AVal × AVal × List Int × List Int => ∃ m, pL.length = a.1 + m ∧ rowGo Ur m a.2.1 a.2.2.2.2.2.1 a.2.2.2.2.2.2 = R ∧ a.2.2.2.2.2.1.length = a.1 ∧ a.2.2.2.2.2.2.length = a.1 ∧ Bd1 (100 * (i + 1)) a.2.2.2.2.2.1 ∧ Bd1 (1000 * (i + 1)) a.2.2.2.2.2.2 ∧
        FmH a.2.2.1 a.2.1 v0 v1 v2 v3 ∧ ∃ κ2 κ3 κ4 κ5, FS oF a.2.2.1 gL pL L U a.2.2.2.2.2.1 a.2.2.2.2.2.2 v0 v1 v2 v3 a.2.2.2.1 a.2.2.2.2.1 [2] [3] κ2 κ3 κ4 κ5) (fun a => pL.length - a.1)
      (fun a => (tsets 140 (fT gL.length pL.length ++ [(8, .int .i64 i), (9, a.2.2.2.1), (10, a.2.2.2.2.1), (11, .int .i64 a.1)]), a.2.2.1)) (0, w, J, .nilsl, .nilsl, [], []) ⟨pL.length, by simp, hR, rfl, rfl, by simp [Bd1], by simp [Bd1], ⟨f0, f1, f4⟩, _, _, _, _, hF⟩ (by simp [go_sem, fT]) rfl ?_
    rintro ⟨k, w, J, v4, v5, lo, hi⟩ ⟨n, hn, hRg, hlo, hhi, blo, bhi, ⟨f0, f1, f4⟩, κ2, κ3, κ4, κ5, hF⟩ ihk
    dsimp only at hn hRg hlo hhi blo bhi f0 f1 f4 hF ihk ⊢
    obtain ⟨-, -, f2, f3⟩ := hF.g2
    have c3 := cells_at f3
    by_cases j1 : k < pL.length
    · obtain ⟨n, rfl⟩ : ∃ q, n = q + 1 := ⟨n - 1, by omega⟩
      have j2 : (k : Int) < pL.length := by omega
      have j3 := idx_next j1 (by omega)
      simp only [rowGo] at hRg
      have u1 := upto_ok w 60 (by omega)
      have t1 := upto_in (w := w) (n := 60) (by omega)
      obtain ⟨a0, ha0⟩ : ∃ x, upto w 60 = x := ⟨_, rfl⟩
      obtain ⟨wA, hwA⟩ : ∃ x, dstep w = x := ⟨_, rfl⟩
      rw [ha0] at u1 t1
      rw [hwA] at u1
      have u2 := upto_ok wA 30 (by omega)
      have t2 := upto_in (w := wA) (n := 30) (by omega)
      obtain ⟨b0, hb0⟩ : ∃ x, upto wA 30 = x := ⟨_, rfl⟩
      obtain ⟨wB, hwB⟩ : ∃ x, dstep wA = x := ⟨_, rfl⟩
      rw [hb0] at u2 t2
      rw [hwB] at u2
      have u3 := upto_ok wB 20 (by omega)
      have t3 := upto_in (w := wB) (n := 20) (by omega)
      obtain ⟨t0, ht0⟩ : ∃ x, upto wB 20 = x := ⟨_, rfl⟩
      obtain ⟨wC, hwC⟩ : ∃ x, dstep wB = x := ⟨_, rfl⟩
      rw [ht0] at u3 t3
      rw [hwC] at u3
      have z4 := (List.getElem?_eq_some_iff.1 f4).1
      have hset : ∀ X : Row, (J.set 0 (some X))[0]? = some (some X) := fun X => List.getElem?_set_self (by omega)
      have off : ∀ {j : Nat} {g : Bool} {sz : Nat} {es : List AVal}, J[j]? = some (some (.cells g sz es)) → j ≠ 0 → ∀ X, Heap.cellsAt (J.set 0 X) j = some (g, sz, es) := fun h hj X => cells_at (by rw [List.getElem?_set_ne (fun e => hj e.symm)]; exact h)
      have hF2 : ∀ X, FS oF (J.set 0 X) gL pL L U lo hi v0 v1 v2 v3 v4 v5 [2] [3] κ2 κ3 κ4 κ5 := fun X => hF.fix (fun q hq => List.getElem?_set_ne (fun e => hq (by simp [oF, ← e]))) (fun a ha => by have := hF.len a ha; simpa using this)
      have hlen : ∀ X, (J.set 0 X).length = J.length := fun X => List.length_set
      by_cases i0 : i = 0
      · have hU0 : Ur = none := by rw [← hUr]; unfold lastOf; rw [if_pos (by omega)]
        rw [hU0] at hRg ihk
        have eu : upOf none lo.length = none := rfl
        rw [eu] at hRg
        have g1 : ¬ (i : Int) > 0 := by omega
        by_cases k0 : k = 0
        · skip
          have g2 : ¬ (k : Int) > 0 := by omega
          have : lo = [] := List.length_eq_zero_iff.1 (by omega)
          subst this
          have : hi = [] := List.length_eq_zero_iff.1 (by omega)
          subst this
          obtain ⟨e4, e5, -⟩ := hF.first
          subst e4; subst e5
          have ec : cell w none (prevOf [] []) = ⟨a0, a0 + mx 0 b0, wB⟩ := cell00 ha0 hwA hb0 hwB
          rw [ec] at hRg
          have m1 := mx_or 0 b0
          have x1 : IntKind.i64.wrap (a0 + mx 0 b0) = a0 + mx 0 b0 := w64 (by omega)
          simp only [go_sem, fT, j2, c3, List.length_map]
          refine cD u1 ?_ (hj := f0) (hk := by omega)
          simp only [go_sem]
          refine cD u2 ?_ (hj := hset _) (hk := by rw [hlen]; omega)
          simp only [go_sem, g1, g2, j3, List.set_set, e_mx, x1]
          refine ⟨by decide, by decide, ?_⟩
          exact ihk (k + 1, wB, _, _, _, [a0], [a0 + mx 0 b0]) (by omega) ⟨n, by omega, hRg, by simp; omega, by simp; omega, Bd1.snoc (l := []) (by simp [Bd1]) (by omega), Bd1.snoc (l := []) (by simp [Bd1]) (by omega), ⟨by rw [List.getElem?_append_left (by rw [hlen]; omega)]; exact hset _, by rw [List.getElem?_append_left (by rw [hlen]; omega), List.getElem?_set_ne (by omega)]; exact f1, by rw [List.getElem?_append_left (by rw [hlen]; omega), List.getElem?_set_ne (by omega)]; exact f4⟩, _, _, _, _,
            (hF2 (Dr wB)).first.2.2 _ ((J.set 0 (some (Dr wB))).length + 1) ((J.set 0 (some (Dr wB))).length + 3) (a0) (a0 + mx 0 b0) (by omega) (by omega) (by omega) (fun q _ hq => List.getElem?_append_left hq) (by rw [get_new rfl]; rfl) (by rw [get_new rfl]; rfl)⟩ _ (by simp [go_sem, fT])
        · skip
          have g2 : (k : Int) > 0 := by omega
          obtain ⟨j, rfl⟩ : ∃ j, k = j + 1 := ⟨k - 1, by omega⟩
          have lo0 : lo ≠ [] := by rintro rfl; simp at hlo
          have hi0 : hi ≠ [] := by rintro rfl; simp at hhi
          obtain ⟨r, s, e4, e5, hrs, hr, hs, g4, g5, -⟩ := hF.next lo0 hi0
          have r0 : r ≠ 0 := by rintro rfl; exact hr (by simp [oF])
          have s0 : s ≠ 0 := by rintro rfl; exact hs (by simp [oF])
          have l1 := get_at (l := lo) (i := j) (by omega)
          have l2 := get_at (l := hi) (i := j) (by omega)
          have l3 := blo.at1 (i := j) (by omega)
          have l4 := bhi.at1 (i := j) (by omega)
          have ep : prevOf lo hi = some (at1 lo j, at1 hi j) := by unfold prevOf; rw [if_neg (by omega), hlo, Nat.add_sub_cancel]
          rw [ep] at hRg
          obtain ⟨p1, hp1⟩ : ∃ x, at1 lo j = x := ⟨_, rfl⟩
          obtain ⟨p2, hp2⟩ : ∃ x, at1 hi j = x := ⟨_, rfl⟩
          rw [hp1] at l1 l3 hRg
          rw [hp2] at l2 l4 hRg
          rw [cell01 ha0 hwA hb0 hwB] at hRg
          have m1 := mx_or a0 p1
          obtain ⟨a2, ha2⟩ : ∃ x, mx a0 p1 = x := ⟨_, rfl⟩
          rw [ha2] at hRg m1
          have m2 := mx_or (a2 + b0) p2
          obtain ⟨h2', hh2⟩ : ∃ x, mx (a2 + b0) p2 = x := ⟨_, rfl⟩
          rw [hh2] at hRg m2
          have m3 := mx_or 0 (h2' - a2)
          have x1 : IntKind.i64.wrap (a2 + b0) = a2 + b0 := w64 (by omega)
          have x2 : IntKind.i64.wrap (h2' - a2) = h2' - a2 := w64 (by omega)
          have x3 : IntKind.i64.wrap (a2 + mx 0 (h2' - a2)) = a2 + mx 0 (h2' - a2) := w64 (by omega)
          have x4 : IntKind.i64.wrap (((j + 1 : Nat) : Int) - 1) = j := by rw [w64 (by omega)]; omega
          have n4 : ¬ (j : Int) < 0 := by omega
          have d1 := off g4 r0
          have d2 := off g5 s0
          have y1 : (j : Int) < lo.length := by omega
          have y2 : (j : Int) < hi.length := by omega
          have y3 : (lo.length + 1) * 8 ≤ 2 ^ 44 := by omega
          have y4 : (hi.length + 1) * 8 ≤ 2 ^ 44 := by omega
          have hrl := (List.getElem?_eq_some_iff.1 g4).1
          have hsl := (List.getElem?_eq_some_iff.1 g5).1
          have q1 := fun X Y => cells_more (d1 X) Y
          have q2 := fun X Y x => put_more (H := J.set 0 X) (j := r) (by rw [List.length_set]; exact hrl) Y x
          have q3 := fun X x Y => cells_more (H := (J.set 0 X).set r x) (j := s) (cells_at (by rw [List.getElem?_set_ne hrs, List.getElem?_set_ne (fun e => s0 e.symm)]; exact g5)) Y
          have q4 := fun X z Y x => put_more (H := (J.set 0 X).set r z) (j := s) (by simpa using hsl) Y x
          obtain ⟨r', s', e4', e5', -, -, -, -, -, hnn⟩ := (hF2 (Dr wB)).next lo0 hi0
          subst e4; subst e5
          obtain rfl : r = r' := by simpa using e4'
          obtain rfl : s = s' := by simpa using e5'
          simp only [go_sem, fT, j2, c3, List.length_map]
          refine cD u1 ?_ (hj := f0) (hk := by omega)
          simp only [go_sem]
          refine cD u2 ?_ (hj := hset _) (hk := by rw [hlen]; omega)
          simp only [go_sem, g1, g2, j3, List.set_set, e_mx, d1, d2, l1, l2, x4, n4, Int.toNat_natCast, ha2, hh2, x1, x2, x3, y1, y2, y3, y4, q1, q2, q3, q4]
          have hrl' : r < (J.set 0 (some (Dr wB))).length := by rw [hlen]; exact hrl
          have hsl' : s < (J.set 0 (some (Dr wB))).length := by rw [hlen]; exact hsl
          have nF : ∀ q, oF q → q ≠ r ∧ q ≠ s := fun q hq => ⟨fun e => hr (by rw [← e]; exact hq), fun e => hs (by rw [← e]; exact hq)⟩
          exact ihk (j + 1 + 1, wB, _, _, _, lo ++ [a2], hi ++ [a2 + mx 0 (h2' - a2)]) (by omega) ⟨n, by omega, hRg, by simp; omega, by simp; omega, blo.snoc (by omega), bhi.snoc (by omega), ⟨by rw [two_off (by rw [hlen]; omega) (nF 0 (by simp [oF])).1 (nF 0 (by simp [oF])).2]; exact hset _, by rw [two_off (by rw [hlen]; omega) (nF 1 (by simp [oF])).1 (nF 1 (by simp [oF])).2, List.getElem?_set_ne (by omega)]; exact f1, by rw [two_off (by rw [hlen]; omega) (nF 4 (by simp [oF])).1 (nF 4 (by simp [oF])).2, List.getElem?_set_ne (by omega)]; exact f4⟩, _, _, _, _,
            hnn _ (a2) (a2 + mx 0 (h2' - a2)) (fun q _ hl a b => two_off hl a b) (two_r hrl' hrs) (two_s hsl') (fun a ha => by have := hF.len a ha; simp; omega)⟩ _ (by simp [go_sem, fT])
      · skip
        have g1 : (i : Int) > 0 := by omega
        obtain ⟨i', rfl⟩ : ∃ q, i = q + 1 := ⟨i - 1, by omega⟩
        have L0 : L ≠ [] := by rintro rfl; simp at hL
        have U0 : U ≠ [] := by rintro rfl; simp at hU
        obtain ⟨ra, hra⟩ : ∃ x, L[i']? = some x := ⟨_, List.getElem?_eq_getElem (by omega)⟩
        obtain ⟨rb, hrb⟩ : ∃ x, U[i']? = some x := ⟨_, List.getElem?_eq_getElem (by omega)⟩
        obtain ⟨la, ba⟩ := bL ra (List.mem_of_getElem? hra)
        obtain ⟨lb, bb⟩ := bU rb (List.mem_of_getElem? hrb)
        have hU0 : Ur = some (ra, rb) := by
          rw [← hUr]; unfold lastOf; rw [if_neg (by omega), hL]
          simp only [Nat.add_sub_cancel]
          rw [List.getD_eq_getElem?_getD, List.getD_eq_getElem?_getD, hra, hrb]; rfl
        rw [hU0] at hRg ihk
        have eu : upOf (some (ra, rb)) lo.length = some (at1 ra k, at1 rb k) := by rw [hlo]; rfl
        rw [eu] at hRg
        obtain ⟨tr, ts, vs, us, ta, tb, ev2, ev3, nr, ns, na, nb, gr, gs, lvs, lus, gva, gub, ga, gb⟩ := hF.read L0 U0 hra hrb
        have tr0 : tr ≠ 0 := by rintro rfl; exact nr (by simp [oF])
        have ts0 : ts ≠ 0 := by rintro rfl; exact ns (by simp [oF])
        have ta0 : ta ≠ 0 := by rintro rfl; exact na (by simp [oF])
        have tb0 : tb ≠ 0 := by rintro rfl; exact nb (by simp [oF])
        have o4 := off f4 (by omega)
        have o1 := off gr tr0
        have o2 := off gs ts0
        have o3 := off ga ta0
        have o5 := off gb tb0
        have l5 := get_at (l := ra) (i := k) (by omega)
        have l6 := get_at (l := rb) (i := k) (by omega)
        have l7 := ba.at1 (i := k) (by omega)
        have l8 := bb.at1 (i := k) (by omega)
        obtain ⟨q1', hq1'⟩ : ∃ x, at1 ra k = x := ⟨_, rfl⟩
        obtain ⟨q2', hq2'⟩ : ∃ x, at1 rb k = x := ⟨_, rfl⟩
        rw [hq1'] at l5 l7 hRg
        rw [hq2'] at l6 l8 hRg
        have x5 : IntKind.i64.wrap (((i' + 1 : Nat) : Int) - 1) = i' := by rw [w64 (by omega)]; omega
        have n5 : ¬ (i' : Int) < 0 := by omega
        have n6 : ¬ (k : Int) < 0 := by omega
        have y5 : (i' : Int) < L.length := by omega
        have y6 : (i' : Int) < U.length := by omega
        have y7 : (k : Int) < ra.length := by omega
        have y8 : (k : Int) < rb.length := by omega
        have m4 := mx_or a0 (q1' + t0)
        obtain ⟨a1, ha1⟩ : ∃ x, mx a0 (q1' + t0) = x := ⟨_, rfl⟩
        rw [ha1] at m4
        have m5 := mx_or (a1 + b0) q2'
        obtain ⟨h1', hh1⟩ : ∃ x, mx (a1 + b0) q2' = x := ⟨_, rfl⟩
        rw [hh1] at m5
        have x6 : IntKind.i64.wrap (q1' + t0) = q1' + t0 := w64 (by omega)
        have x7 : IntKind.i64.wrap (a1 + b0) = a1 + b0 := w64 (by omega)
        have x8 : IntKind.i64.wrap (h1' - a1) = h1' - a1 := w64 (by omega)
        subst ev2; subst ev3
        by_cases k0 : k = 0
        · skip
          have g2 : ¬ (k : Int) > 0 := by omega
          have : lo = [] := List.length_eq_zero_iff.1 (by omega)
          subst this
          have : hi = [] := List.length_eq_zero_iff.1 (by omega)
          subst this
          obtain ⟨e4, e5, -⟩ := hF.first
          subst e4; subst e5
          have ec : cell w (some (q1', q2')) (prevOf [] []) = ⟨a1, a1 + mx 0 (mx (a1 + (h1' - a1)) q2' - a1), wC⟩ := cell10 ha0 hwA hb0 hwB ht0 hwC ha1 (by rw [hh1])
          rw [ec] at hRg
          have m6 := mx_or (a1 + (h1' - a1)) q2'
          obtain ⟨h3', hh3⟩ : ∃ x, mx (a1 + (h1' - a1)) q2' = x := ⟨_, rfl⟩
          rw [hh3] at hRg m6
          have m1 := mx_or 0 (h3' - a1)
          have x9 : IntKind.i64.wrap (a1 + (h1' - a1)) = a1 + (h1' - a1) := w64 (by omega)
          have x10 : IntKind.i64.wrap (h3' - a1) = h3' - a1 := w64 (by omega)
          have x11 : IntKind.i64.wrap (a1 + mx 0 (h3' - a1)) = a1 + mx 0 (h3' - a1) := w64 (by omega)
          simp only [go_sem, fT, j2, c3, List.length_map]
          refine cD u1 ?_ (hj := f0) (hk := by omega)
          simp only [go_sem]
          refine cD u2 ?_ (hj := hset _) (hk := by rw [hlen]; omega)
          simp only [go_sem, g1, g2, List.set_set, e_mx, o1, o2, o3, o4, o5, l5, l6, x5, x6, x7, x8, n5, n6, y5, y6, y7, y8, gva, gub, ha1, hh1, lvs, lus, Int.toNat_natCast]
          refine dD u3 ?_ (hj := hset _) (hd := by simp [go_sem]; exact ⟨tr0, ta0⟩)
          simp only [go_sem, g1, g2, j3, List.set_set, e_mx, o1, o2, o3, o4, o5, l5, l6, x5, x6, x7, x8, n5, n6, y5, y6, y7, y8, gva, gub, ha1, hh1, lvs, lus, Int.toNat_natCast, x9, hh3, x10, x11]
          refine ⟨by decide, by decide, ?_⟩
          exact ihk (k + 1, wC, _, _, _, [a1], [a1 + mx 0 (h3' - a1)]) (by omega) ⟨n, by omega, hRg, by simp; omega, by simp; omega, Bd1.snoc (l := []) (by simp [Bd1]) (by omega), Bd1.snoc (l := []) (by simp [Bd1]) (by omega), ⟨by rw [List.getElem?_append_left (by rw [hlen]; omega)]; exact hset _, by rw [List.getElem?_append_left (by rw [hlen]; omega), List.getElem?_set_ne (by omega)]; exact f1, by rw [List.getElem?_append_left (by rw [hlen]; omega), List.getElem?_set_ne (by omega)]; exact f4⟩, _, _, _, _,
            (hF2 (Dr wC)).first.2.2 _ ((J.set 0 (some (Dr wC))).length + 1) ((J.set 0 (some (Dr wC))).length + 3) (a1) (a1 + mx 0 (h3' - a1)) (by omega) (by omega) (by omega) (fun q _ hq => List.getElem?_append_left hq) (by rw [get_new rfl]; rfl) (by rw [get_new rfl]; rfl)⟩ _ (by simp [go_sem, fT])
        · skip
          have g2 : (k : Int) > 0 := by omega
          obtain ⟨j, rfl⟩ : ∃ j, k = j + 1 := ⟨k - 1, by omega⟩
          have lo0 : lo ≠ [] := by rintro rfl; simp at hlo
          have hi0 : hi ≠ [] := by rintro rfl; simp at hhi
          obtain ⟨r, s, e4, e5, hrs, hr, hs, g4, g5, -⟩ := hF.next lo0 hi0
          have r0 : r ≠ 0 := by rintro rfl; exact hr (by simp [oF])
          have s0 : s ≠ 0 := by rintro rfl; exact hs (by simp [oF])
          have l1 := get_at (l := lo) (i := j) (by omega)
          have l2 := get_at (l := hi) (i := j) (by omega)
          have l3 := blo.at1 (i := j) (by omega)
          have l4 := bhi.at1 (i := j) (by omega)
          have ep : prevOf lo hi = some (at1 lo j, at1 hi j) := by unfold prevOf; rw [if_neg (by omega), hlo, Nat.add_sub_cancel]
          rw [ep] at hRg
          obtain ⟨p1, hp1⟩ : ∃ x, at1 lo j = x := ⟨_, rfl⟩
          obtain ⟨p2, hp2⟩ : ∃ x, at1 hi j = x := ⟨_, rfl⟩
          rw [hp1] at l1 l3 hRg
          rw [hp2] at l2 l4 hRg
          obtain ⟨a2, ha2⟩ : ∃ x, mx a1 p1 = x := ⟨_, rfl⟩
          have m1 := mx_or a1 p1
          rw [ha2] at m1
          obtain ⟨h2', hh2⟩ : ∃ x, mx (a2 + (h1' - a1)) p2 = x := ⟨_, rfl⟩
          have m2 := mx_or (a2 + (h1' - a1)) p2
          rw [hh2] at m2
          rw [cell11 ha0 hwA hb0 hwB ht0 hwC ha1 (by rw [hh1]) ha2 (by rw [hh2])] at hRg
          obtain ⟨h3', hh3⟩ : ∃ x, mx (a2 + (h2' - a2)) q2' = x := ⟨_, rfl⟩
          have m6 := mx_or (a2 + (h2' - a2)) q2'
          rw [hh3] at hRg m6
          have m3 := mx_or 0 (h3' - a2)
          have x1 : IntKind.i64.wrap (a2 + (h1' - a1)) = a2 + (h1' - a1) := w64 (by omega)
          have x2 : IntKind.i64.wrap (h2' - a2) = h2' - a2 := w64 (by omega)
          have x9 : IntKind.i64.wrap (a2 + (h2' - a2)) = a2 + (h2' - a2) := w64 (by omega)
          have x10 : IntKind.i64.wrap (h3' - a2) = h3' - a2 := w64 (by omega)
          have x3 : IntKind.i64.wrap (a2 + mx 0 (h3' - a2)) = a2 + mx 0 (h3' - a2) := w64 (by omega)
          have x4 : IntKind.i64.wrap (((j + 1 : Nat) : Int) - 1) = j := by rw [w64 (by omega)]; omega
          have n4 : ¬ (j : Int) < 0 := by omega
          have d1 := off g4 r0
          have d2 := off g5 s0
          have y1 : (j : Int) < lo.length := by omega
          have y2 : (j : Int) < hi.length := by omega
          have y3 : (lo.length + 1) * 8 ≤ 2 ^ 44 := by omega
          have y4 : (hi.length + 1) * 8 ≤ 2 ^ 44 := by omega
          have hrl := (List.getElem?_eq_some_iff.1 g4).1
          have hsl := (List.getElem?_eq_some_iff.1 g5).1
          have q1 := fun X Y => cells_more (d1 X) Y
          have q2 := fun X Y x => put_more (H := J.set 0 X) (j := r) (by rw [List.length_set]; exact hrl) Y x
          have q3 := fun X x Y => cells_more (H := (J.set 0 X).set r x) (j := s) (cells_at (by rw [List.getElem?_set_ne hrs, List.getElem?_set_ne (fun e => s0 e.symm)]; exact g5)) Y
          have q4 := fun X z Y x => put_more (H := (J.set 0 X).set r z) (j := s) (by simpa using hsl) Y x
          obtain ⟨r', s', e4', e5', -, -, -, -, -, hnn⟩ := (hF2 (Dr wC)).next lo0 hi0
          subst e4; subst e5
          obtain rfl : r = r' := by simpa using e4'
          obtain rfl : s = s' := by simpa using e5'
          simp only [go_sem, fT, j2, c3, List.length_map]
          refine cD u1 ?_ (hj := f0) (hk := by omega)
          simp only [go_sem]
          refine cD u2 ?_ (hj := hset _) (hk := by rw [hlen]; omega)
          simp only [go_sem, g1, g2, List.set_set, e_mx, o1, o2, o3, o4, o5, l5, l6, x5, x6, x7, x8, n5, n6, y5, y6, y7, y8, gva, gub, ha1, hh1, lvs, lus, Int.toNat_natCast]
          refine dD u3 ?_ (hj := hset _) (hd := by simp [go_sem]; exact ⟨tr0, ta0⟩)
          simp only [go_sem, g1, g2, j3, List.set_set, e_mx, o1, o2, o3, o4, o5, l5, l6, x5, x6, x7, x8, n5, n6, y5, y6, y7, y8, gva, gub, ha1, hh1, lvs, lus, Int.toNat_natCast, d1, d2, l1, l2, x4, n4, ha2, hh2, hh3, x1, x2, x3, x9, x10, y1, y2, y3, y4, q1, q2, q3, q4]
          have hrl' : r < (J.set 0 (some (Dr wC))).length := by rw [hlen]; exact hrl
          have hsl' : s < (J.set 0 (some (Dr wC))).length := by rw [hlen]; exact hsl
          have nF : ∀ q, oF q → q ≠ r ∧ q ≠ s := fun q hq => ⟨fun e => hr (by rw [← e]; exact hq), fun e => hs (by rw [← e]; exact hq)⟩
          exact ihk (j + 1 + 1, wC, _, _, _, lo ++ [a2], hi ++ [a2 + mx 0 (h3' - a2)]) (by omega) ⟨n, by omega, hRg, by simp; omega, by simp; omega, blo.snoc (by omega), bhi.snoc (by omega), ⟨by rw [two_off (by rw [hlen]; omega) (nF 0 (by simp [oF])).1 (nF 0 (by simp [oF])).2]; exact hset _, by rw [two_off (by rw [hlen]; omega) (nF 1 (by simp [oF])).1 (nF 1 (by simp [oF])).2, List.getElem?_set_ne (by omega)]; exact f1, by rw [two_off (by rw [hlen]; omega) (nF 4 (by simp [oF])).1 (nF 4 (by simp [oF])).2, List.getElem?_set_ne (by omega)]; exact f4⟩, _, _, _, _,
            hnn _ (a2) (a2 + mx 0 (h3' - a2)) (fun q _ hl a b => two_off hl a b) (two_r hrl' hrs) (two_s hsl') (fun a ha => by have := hF.len a ha; simp; omega)⟩ _ (by simp [go_sem, fT])
    · have j2 : ¬ (k : Int) < pL.length := by omega
      obtain rfl : n = 0 := by omega
      simp only [rowGo] at hRg
      subst hRg
      simp only at hG
      have kp : k = pL.length := by omega
      have lo0 : lo ≠ [] := by rintro rfl; simp at hlo; exact p0 (List.length_eq_zero_iff.1 (by omega))
      have hi0 : hi ≠ [] := by rintro rfl; simp at hhi; exact p0 (List.length_eq_zero_iff.1 (by omega))
      clear ihk
      have bL' : ∀ r ∈ L ++ [lo], r.length = pL.length ∧ Bd1 (100 * ((i + 1 : Nat) : Int)) r := fun r hr => by
        rcases List.mem_append.1 hr with hr | hr
        · exact ⟨(bL r hr).1, fun x hx => by have := (bL r hr).2 x hx; omega⟩
        · obtain rfl : r = lo := by simpa using hr
          exact ⟨by omega, fun x hx => by have := blo x hx; omega⟩
      have bU' : ∀ r ∈ U ++ [hi], r.length = pL.length ∧ Bd1 (1000 * ((i + 1 : Nat) : Int)) r := fun r hr => by
        rcases List.mem_append.1 hr with hr | hr
        · exact ⟨(bU r hr).1, fun x hx => by have := (bU r hr).2 x hx; omega⟩
        · obtain rfl : r = hi := by simpa using hr
          exact ⟨by omega, fun x hx => by have := bhi x hx; omega⟩
      obtain ⟨r4, e4, -, -⟩ := ls_get hF.d4 lo0
      obtain ⟨r5, e5, -, -⟩ := ls_get hF.d5 hi0
      subst e4; subst e5
      have c4 := cells_at f4
      have z0 := hF.len 4 (by simp [oF])
      have hlt4 := (List.getElem?_eq_some_iff.1 f4).1
      have q1 := fun Y => cells_more c4 Y
      subst ev0; subst ev1
      by_cases i0 : i = 0
      · have : L = [] := List.length_eq_zero_iff.1 (by omega)
        subst this
        have : U = [] := List.length_eq_zero_iff.1 (by omega)
        subst this
        obtain ⟨e2, e3, hn⟩ := hF.row1 lo0 hi0
        subst e2; subst e3
        have q2 := fun Y x => put_more (H := J) hlt4 Y x
        have q3 := fun g sz es Y => cells_more (H := J.set 4 (some (Row.cells g sz es))) (j := 4) (cells_at (List.getElem?_set_self hlt4)) Y
        have q4 := fun z Y x => put_more (H := J.set 4 z) (j := 4) (by simpa using hlt4) Y x
        simp only [go_sem, fT, j2, c3, List.length_map, c4, h3, q1, q2, q3, q4, List.set_set]
        refine ⟨by simp; omega, by decide, by simp; omega, by simp; omega, by simp; omega, by decide, by simp; omega, ?_⟩
        have off : ∀ (A : Option Row) (Y : Heap) (q : Nat), q < J.length → q ≠ 4 → (J.set 4 A ++ Y)[q]? = J[q]? := fun A Y q hq hn => by rw [List.getElem?_append_left (by simpa using hq), List.getElem?_set_ne (fun e => hn e.symm)]
        have at4 : ∀ (A : Option Row) (Y : Heap), (J.set 4 A ++ Y)[4]? = some A := fun A Y => by rw [List.getElem?_append_left (by simpa using hlt4), List.getElem?_set_self hlt4]
        exact ih (i + 1, w, _, _, _, _, _, [lo], [hi]) (by omega) ⟨m, by omega, hG, by simp; omega, by simp; omega, bL', bU', ⟨by rw [off _ _ 0 (by omega) (by omega)]; exact f0, by rw [off _ _ 1 (by omega) (by omega)]; exact f1, at4 _ _⟩, _, _, _, _, hn _ (J.length + 1) (J.length + 3) (by omega) (by omega) (by omega) (fun q hnF hq => off _ _ q hq (by rintro rfl; exact hnF (by simp [oF]))) (by rw [get_new (by simp)]; rfl) (by rw [get_new (by simp)]; rfl)⟩ _ (by simp [go_sem, fT])
      · have L0 : L ≠ [] := by rintro rfl; simp at hL; omega
        have U0 : U ≠ [] := by rintro rfl; simp at hU; omega
        obtain ⟨r, s, vs, us, κ2', κ3', e2, e3, hrs, hr, hs, g2, g3, l2, l3, hn⟩ := hF.rows L0 U0 lo0 hi0
        subst e2; subst e3
        have hrl := (List.getElem?_eq_some_iff.1 g2).1
        have hsl := (List.getElem?_eq_some_iff.1 g3).1
        have r4' : r ≠ 4 := by rintro rfl; exact hr (by simp [oF])
        have s4' : s ≠ 4 := by rintro rfl; exact hs (by simp [oF])
        have z1 : (L.length + 1) * 24 ≤ 2 ^ 44 := by omega
        have z2 : (U.length + 1) * 24 ≤ 2 ^ 44 := by omega
        have a1 := fun Y => cells_more (cells_at g2) Y
        have a2 := fun Y x => put_more (H := J) hrl Y x
        have a3 := fun x Y => cells_more (H := J.set r x) (j := 4) (cells_at (by rw [List.getElem?_set_ne r4']; exact f4)) Y
        have a4 := fun x Y => cells_more (H := J.set r x) (j := s) (cells_at (by rw [List.getElem?_set_ne hrs]; exact g3)) Y
        have a5 := fun z Y x => put_more (H := J.set r z) (j := s) (by simpa using hsl) Y x
        have a6 := fun x y Y => cells_more (H := (J.set r x).set s y) (j := 4) (cells_at (by rw [List.getElem?_set_ne s4', List.getElem?_set_ne r4']; exact f4)) Y
        have a7 := fun z y Y x => put_more (H := (J.set r z).set s y) (j := 4) (by simpa using hlt4) Y x
        have a8 := fun x y g sz es Y => cells_more (H := ((J.set r x).set s y).set 4 (some (Row.cells g sz es))) (j := 4) (cells_at (List.getElem?_set_self (by simpa using hlt4))) Y
        have a9 := fun z y w Y x => put_more (H := ((J.set r z).set s y).set 4 w) (j := 4) (by simpa using hlt4) Y x
        simp only [go_sem, fT, j2, c3, List.length_map, c4, h3, q1, a1, a2, a3, a4, a5, a6, a7, a8, a9, List.set_set, z1, z2, l2, l3]
        refine ⟨by simp; omega, by simp; omega, by simp; omega, by simp; omega, by simp; omega, ?_⟩
        have off : ∀ (A B C : Option Row) (Y : Heap) (q : Nat), q < J.length → q ≠ r → q ≠ s → q ≠ 4 → (((J.set r A).set s B).set 4 C ++ Y)[q]? = J[q]? := fun A B C Y q hq n1 n2 n3 => by
          rw [List.getElem?_append_left (by simpa using hq), List.getElem?_set_ne (fun e => n3 e.symm), List.getElem?_set_ne (fun e => n2 e.symm), List.getElem?_set_ne (fun e => n1 e.symm)]
        have at4 : ∀ (A B C : Option Row) (Y : Heap), (((J.set r A).set s B).set 4 C ++ Y)[4]? = some C := fun A B C Y => by rw [List.getElem?_append_left (by simpa using hlt4), List.getElem?_set_self (by simpa using hlt4)]
        have atr : ∀ (A B C : Option Row) (Y : Heap), (((J.set r A).set s B).set 4 C ++ Y)[r]? = some A := fun A B C Y => by
          rw [List.getElem?_append_left (by simpa using hrl), List.getElem?_set_ne (fun e => r4' e.symm), List.getElem?_set_ne (fun e => hrs e.symm), List.getElem?_set_self hrl]
        have ats : ∀ (A B C : Option Row) (Y : Heap), (((J.set r A).set s B).set 4 C ++ Y)[s]? = some B := fun A B C Y => by
          rw [List.getElem?_append_left (by simpa using hsl), List.getElem?_set_ne (fun e => s4' e.symm), List.getElem?_set_self (by simpa using hsl)]
        have nr : ∀ q, oF q → q ≠ r := fun q hq e => hr (by rw [← e]; exact hq)
        have ns : ∀ q, oF q → q ≠ s := fun q hq e => hs (by rw [← e]; exact hq)
        exact ih (i + 1, w, _, _, _, _, _, L ++ [lo], U ++ [hi]) (by omega) ⟨m, by omega, hG, by simp; omega, by simp; omega, bL', bU', ⟨by rw [off _ _ _ _ 0 (by omega) (nr 0 (by simp [oF])) (ns 0 (by simp [oF])) (by omega)]; exact f0, by rw [off _ _ _ _ 1 (by omega) (nr 1 (by simp [oF])) (ns 1 (by simp [oF])) (by omega)]; exact f1, at4 _ _ _ _⟩, _, _, _, _,
          hn _ (fun q hnF hq n1 n2 => off _ _ _ _ q hq n1 n2 (by rintro rfl; exact hnF (by simp [oF]))) (atr _ _ _ _) (ats _ _ _ _) (fun a ha => by have := hF.len a ha; simp; omega)⟩ _ (by simp [go_sem, fT])
  · have h2 : ¬ (i : Int) < gL.length := by omega
    obtain rfl : m = 0 := by omega
    simp only [tabGo] at hG
    subst hG
    have L0 : L ≠ [] := by rintro rfl; simp at hL; exact g0 (List.length_eq_zero_iff.1 (by omega))
    have U0 : U ≠ [] := by rintro rfl; simp at hU; exact g0 (List.length_eq_zero_iff.1 (by omega))
    obtain ⟨ι, hD, hnd, hge⟩ := hF.all L0 U0
    obtain ⟨ev0, ev1, f2, f3⟩ := hF.g2
    obtain ⟨b2, _, _, e2, -, -, -⟩ := tb_get hF.d2 L0
    obtain ⟨b3, _, _, e3, -, -, -⟩ := tb_get hF.d3 U0
    subst ev0; subst ev1; subst e2; subst e3
    have c2 := cells_at f2
    have c4 := cells_at f4
    have c1 := cells_at f1
    have hlt1 := (List.getElem?_eq_some_iff.1 f1).1
    have q1 := fun x => put_lt (H := J) (x := x) hlt1
    have q2 := fun g sz es => cells_at (H := J.set 1 (some (Row.cells g sz es))) (j := 1) (List.getElem?_set_self hlt1)
    simp only [go_sem, fT, h2, c2, List.length_map, c4, c1, q1, q2]
    exact ⟨ι, hD.set _ (fun h => hge 1 h (by simp [oF])), hnd, fun h => hge 0 h (by simp [oF]), by rw [List.getElem?_set_ne (by omega)]; exact f0⟩
end Go.Proofs

namespace Go.Proofs
open Go Go.Sx Go.Fam
attribute [local irreducible] Run

theorem tabGo_ok (n : Nat) : ∀ (m : Nat) (w : Int) (L H : List (List Int)), (∀ r ∈ L, r.length = n) → (∀ r ∈ H, r.length = n) → (tabGo n m w L H).lo.length = L.length + m ∧ (tabGo n m w L H).hi.length = H.length + m ∧ (∀ r ∈ (tabGo n m w L H).lo, r.length = n) ∧ ∀ r ∈ (tabGo n m w L H).hi, r.length = n
  | 0, w, L, H, h1, h2 => ⟨rfl, rfl, h1, h2⟩
  | m + 1, w, L, H, h1, h2 => by
    have hr := rowGo_len (lastOf L H) n w [] []
    obtain ⟨a, b, c, d⟩ := tabGo_ok n m (rowGo (lastOf L H) n w [] []).w (L ++ [(rowGo (lastOf L H) n w [] []).lo]) (H ++ [(rowGo (lastOf L H) n w [] []).hi]) (fun r hr' => by
      rcases List.mem_append.1 hr' with h | h
      · exact h1 r h
      · obtain rfl : r = _ := by simpa using h
        simpa using hr.1) (fun r hr' => by
      rcases List.mem_append.1 hr' with h | h
      · exact h2 r h
      · obtain rfl : r = _ := by simpa using h
        simpa using hr.2)
    simp only [List.length_append, List.length_singleton] at a b
    exact ⟨by simp only [tabGo]; omega, by simp only [tabGo]; omega, c, d⟩
theorem famOf_fn (w : Int) : Go.Sx.Fn Try.prog n_kit_FamilyOf [.ptr 0 0 0 1] [some (Dr w)] fun v H' => ∃ ι, Dat 6 H' ι v (Fv (famOf w)) ∧ ι.Nodup ∧ 0 ∉ ι ∧ H'[0]? = some (some (Dr (famEnd w))) := by
  have k1 := Lines_run w (-9000) 3000 5 (by omega) (by omega)
  have k2 := Lines_run (famW1 w) 0 300000 5 (by omega) (by omega)
  have k3 := one_ok (famW2 w) 2 (by omega)
  unfold famOf famEnd
  by_cases c1 : upto (famW2 w) 2 = 0
  · rw [if_pos c1, if_pos c1]
    have b1 : (upto (famW2 w) 2 == 0) = true := by simp [c1]
    exact famOf_law (w1 := famW1 w) (w2 := famW2 w) (gL := famG w) (pL := famP w) k1 k2 (famG_asc w).1 (famP_asc w).1 (famG_ne w) (famP_ne w) b1 k3 (lawof_ok _) (lawOf_in _)
  · have b1 : (upto (famW2 w) 2 == 0) = false := beq_eq_false_iff_ne.2 c1
    rw [if_neg c1, if_neg c1]
    exact famOf_any (w1 := famW1 w) (w2 := famW2 w) (gL := famG w) (pL := famP w) k1 k2 (famG_asc w).2 (famP_asc w).2 (famG_ne w) (famP_ne w) b1 k3 (T := famT w) rfl
theorem ne_of_len {α : Type} {l : List α} {n : Nat} (h : l.length = n) (hn : 0 < n) : l ≠ [] := by rintro rfl; simp at h; omega
structure FaNE (f : Fa) : Prop where
  g : f.g ≠ [] ∧ f.g.length ≤ 5
  p : f.p ≠ [] ∧ f.p.length ≤ 5
  lo : f.lo.length = f.g.length ∧ ∀ r ∈ f.lo, r.length = f.p.length
  hi : f.hi.length = f.g.length ∧ ∀ r ∈ f.hi, r.length = f.p.length
theorem ofF_ne (l : Lw) {g p : List Int} (hg : g ≠ [] ∧ g.length ≤ 5) (hp : p ≠ [] ∧ p.length ≤ 5) : FaNE (ofF l g p) := by
  have ht : ∀ f, (ofT f l g p).length = g.length ∧ ∀ r ∈ ofT f l g p, r.length = p.length := fun f => ⟨by simp [ofT], fun r hr => by
    obtain ⟨x, _, rfl⟩ := List.mem_map.1 hr; simp⟩
  exact ⟨hg, hp, ht _, ht _⟩
theorem tab_ne {g p : List Int} {w : Int} {T : TabR} (hT : tabGo p.length g.length w [] [] = T) (hg : g ≠ [] ∧ g.length ≤ 5) (hp : p ≠ [] ∧ p.length ≤ 5) : FaNE ⟨g, p, T.lo, T.hi⟩ := by
  have hk := tabGo_ok p.length g.length w [] [] (by simp) (by simp)
  rw [hT] at hk
  obtain ⟨a, b, c, d⟩ := hk
  exact ⟨hg, hp, ⟨by simpa using a, c⟩, ⟨by simpa using b, d⟩⟩
theorem famOf_ne (w : Int) : FaNE (famOf w) := by
  have hg := famG_ne w
  have hp := famP_ne w
  have hg5 := (famG_asc w).2
  have hp5 := (famP_asc w).2
  unfold famOf
  by_cases c1 : upto (famW2 w) 2 = 0
  · rw [if_pos c1]; exact ofF_ne _ ⟨hg, hg5⟩ ⟨hp, hp5⟩
  · rw [if_neg c1]; exact tab_ne (T := famT w) rfl ⟨hg, hg5⟩ ⟨hp, hp5⟩
theorem FaNE.pure {f : Fa} (h : FaNE f) : Pure 6 (Fv f) := by
  have g0 : 0 < f.g.length := List.length_pos_iff.2 h.g.1
  have p0 : 0 < f.p.length := List.length_pos_iff.2 h.p.1
  exact fv_pure h.g.1 h.p.1 (ne_of_len h.lo.1 g0) (ne_of_len h.hi.1 g0) (fun r hr => ne_of_len (h.lo.2 r hr) p0) (fun r hr => ne_of_len (h.hi.2 r hr) p0)
theorem FamilyOf_run (w : Int) : Ans Try.prog n_kit_FamilyOf [.ptr 0 0 0 1] [some (Dr w)] (thaw 6 1 (Fv (famOf w))).1 (some (Dr (famEnd w)) :: (thaw 6 1 (Fv (famOf w))).2) := ans_dat (famOf_ne w).pure (dr_bel _ _) (famOf_fn w)
end Go.Proofs

namespace Go.Proofs
open Go Go.Sx
def yes : Option (AVal × Heap) → Bool
  | some (.bool b, _) => b
  | _ => false
theorem yes_ans {P : Program} (hm : P.follows .mixedOrders = true) {tab : Nat → Option AFun} (hT : ∀ g af, tab g = some af → EntryOK P g af) {m n g : Nat} (h : yes (exFn tab m n g [] []) = true) : Ans P g [] [] (.bool true) [] := by
  match hx : exFn tab m n g [] [] with
  | none => rw [hx] at h; cases h
  | some (v, H') =>
    rw [hx] at h
    cases v <;> try (cases h; done)
    rename_i b
    have hb : b = true := h
    subst hb
    exact (spec_ex hm hT hx).mono fun v H'' hv => ⟨hv.1, H'', rfl⟩
end Go.Proofs

namespace Go.Proofs
open Go Go.Sx
theorem awake_yes : yes (exFn tab 3000 40 n_law02_awake [] []) = true := by kernel_rfl
theorem awake_ok : Ans Try.prog n_law02_awake [] [] (.bool true) [] := yes_ans mixed tab_ok awake_yes
end Go.Proofs

namespace Go.Proofs
open Go Go.Sx Go.Fam
attribute [local irreducible] Run

def lngB (t : List (List Int)) : Bool := t.any fun r => decide (50 < r.length)
theorem long_run (t : List (List Int)) (ht : t.length ≤ 1000000) : Ans Try.prog n_law02_long [tw t] [] (.bool (lngB t)) [] := by
  refine spec_run e_law02_long fun G => ?_
  simp only [go_sem, tw]
  refine loop_ind k_law02_long_r6.eq_1 (fun i : Nat => i ≤ t.length ∧ lngB (t.drop i) = lngB t) (fun i => t.length - i)
    (fun i => (tsets 16 [(0, .view (t.map vw)), (2, .bool false), (3, .int .i64 i)], [])) 0 ⟨Nat.zero_le _, rfl⟩ (by simp [go_sem]) rfl ?_
  rintro i ⟨hi, hE⟩ ih
  by_cases h1 : i < t.length
  · have h2 : (i : Int) < t.length := by omega
    have m0 : ¬ (i : Int) < 0 := by omega
    have h3 := idx_next h1 (by omega)
    obtain ⟨r, hr⟩ : ∃ r, t[i]? = some r := ⟨_, List.getElem?_eq_getElem h1⟩
    have hd : t.drop i = r :: t.drop (i + 1) := by rw [List.drop_eq_getElem_cons h1]; congr 1; rw [List.getElem?_eq_getElem h1] at hr; simpa using hr
    rw [hd] at hE
    by_cases c : (r.length : Int) > 50
    · have : lngB t = true := by rw [← hE]; unfold lngB; rw [List.any_cons, decide_eq_true (by omega)]; rfl
      rw [this]
      simp only [go_sem, h2, List.length_map, m0, hr, Int.toNat_natCast, vw, c]
    · have : lngB (t.drop (i + 1)) = lngB t := by rw [← hE]; unfold lngB; rw [List.any_cons, decide_eq_false (by omega)]; rfl
      simp only [go_sem, h2, List.length_map, m0, hr, Int.toNat_natCast, vw, c, h3]
      exact ih (i + 1) (by omega) ⟨h1, this⟩ _ (by simp [go_sem])
  · have h2 : ¬ (i : Int) < t.length := by omega
    have : lngB t = false := by rw [← hE, List.drop_of_length_le (by omega)]; rfl
    rw [this]
    simp only [go_sem, h2, List.length_map]
def lrgB (f : Fa) : Bool := if 50 < f.lo.length ∨ 50 < f.hi.length ∨ lngB [f.g, f.p] = true then true else (lngB f.lo || lngB f.hi)
theorem large_run (f : Fa) : Ans Try.prog n_law02_large [Fv f] [] (.bool (lrgB f)) [] := by
  obtain ⟨b, hb⟩ : ∃ b, lrgB f = b := ⟨_, rfl⟩
  rw [hb]
  unfold lrgB at hb
  refine spec_run e_law02_large fun G => ?_
  by_cases c1 : (f.lo.length : Int) > 50
  · rw [if_pos (.inl (by omega))] at hb
    rw [← hb]
    simp only [go_sem, Fv, Fcs, tw, List.length_map, c1]
  · by_cases c2 : (f.hi.length : Int) > 50
    · rw [if_pos (.inr (.inl (by omega)))] at hb
      rw [← hb]
      simp only [go_sem, Fv, Fcs, tw, List.length_map, c1, c2]
    · have k1 := long_run [f.g, f.p] (by simp)
      have k2 := long_run f.lo (by omega)
      have k3 := long_run f.hi (by omega)
      simp only [tw] at k2 k3
      simp only [go_sem, Fv, Fcs, tw, vw, List.length_map, c1, c2]
      refine cF k1 6 ⟨.inl ?_, trivial⟩ ?_
      · simp [frz, Heap.cellsAt, tw, vw, Function.comp_def]
      · by_cases c3 : lngB [f.g, f.p] = true
        · rw [if_pos (.inr (.inr c3))] at hb
          rw [← hb, c3]
          simp only [go_sem]
        · rw [if_neg (fun h => h.elim (fun h => c1 (by omega)) (fun h => h.elim (fun h => c2 (by omega)) c3))] at hb
          rw [Bool.not_eq_true] at c3
          rw [c3]
          simp only [go_sem]
          refine cP k2 ?_
          by_cases c4 : lngB f.lo = true
          · rw [c4] at hb ⊢
            rw [← hb]
            simp only [go_sem]
          · rw [Bool.not_eq_true] at c4
            rw [c4] at hb ⊢
            simp only [go_sem]
            refine cP k3 ?_
            rw [← hb]
            simp only [go_sem]
end Go.Proofs

namespace Go.Proofs
open Go Go.Sx Go.Fam
attribute [local irreducible] Run

@[go_sem] theorem upFrom_contains (k n r : Nat) : (upFrom k n).contains r = decide (k ≤ r ∧ r < k + n) := by
  rw [Bool.eq_iff_iff]; simp [upFrom_mem]
@[go_sem] theorem disj_up (k n : Nat) (l : List Nat) : disj (upFrom k n) l = l.all fun r => !decide (k ≤ r ∧ r < k + n) := by
  unfold disj
  rw [Bool.eq_iff_iff]
  simp only [List.all_eq_true, upFrom_mem, Bool.not_eq_true', List.contains_eq_mem, decide_eq_false_iff_not]
  exact ⟨fun h r hr hk => h r hk hr, fun h r hk hr => h r hr hk⟩
@[go_sem] theorem dr_nv (w : Int) : (Dr w).nv = True := eq_true (by unfold Dr; exact row_nv_cells _ _ ⟨.agg _ (by intro i hi; simp at hi; subst hi; exact .int _ _), trivial⟩)
theorem lrg_no {f : Fa} (h : lrgB f = false) : f.g.length ≤ 50 ∧ f.p.length ≤ 50 ∧ f.lo.length ≤ 50 ∧ f.hi.length ≤ 50 := by
  unfold lrgB at h
  by_cases c : 50 < f.lo.length ∨ 50 < f.hi.length ∨ lngB [f.g, f.p] = true
  · rw [if_pos c] at h; cases h
  · have c3 : ¬ lngB [f.g, f.p] = true := fun h => c (.inr (.inr h))
    have : lngB [f.g, f.p] = (decide (50 < f.g.length) || (decide (50 < f.p.length) || false)) := rfl
    rw [this] at c3
    simp at c3
    omega

end Go.Proofs

namespace Go.Proofs
open Go Go.Sx Go.Fam
attribute [local irreducible] Run

set_option maxRecDepth 20000 in
theorem rYield_run (f : Fa) (hg : f.g.length ≤ 1000000) (hp : f.p.length ≤ 1000000) (hl : f.lo.length ≤ 1000000) (hh : f.hi.length ≤ 1000000) (v c : Int) : Ans Try.prog n_ref02_Yield [Fv f, .int .i64 v, .int .i64 c] [] (rgA (ylE f v c) (ylA f v c.toNat)) [] := by
  have k1 := rCheck_run f hg hp hl hh
  have k3 := rright_raw v 0
  have w : IntKind.i64.wrap ((f.p.length : Int) - 2) = (f.p.length : Int) - 2 := w64 (by omega)
  obtain ⟨e, he⟩ : ∃ e, ylE f v c = e := ⟨_, rfl⟩
  rw [he]
  unfold ylE at he
  refine spec_run e_ref02_Yield fun G => ?_
  simp only [Fv, Fcs] at k1
  simp only [go_sem, Fv, Fcs]
  refine cP k1 ?_
  by_cases c1 : famE f = 0
  · rw [if_pos c1] at he
    have hf := fam_iff.1 c1
    simp only [go_sem, c1]
    refine cP k3 ?_
    by_cases c3 : -1000000 ≤ v ∧ v ≤ 1000000
    · rw [if_pos c3] at he
      rw [decide_eq_true (show inV v 0 from ⟨c3, by omega⟩)]
      by_cases c2 : cellOK f.p c
      · rw [if_pos c2] at he
        subst he
        unfold cellOK at c2
        have a1 : ¬ c < 0 := by omega
        have a2 : ¬ c > (f.p.length : Int) - 2 := by omega
        obtain ⟨cn, rfl⟩ : ∃ n : Nat, c = n := ⟨c.toNat, by omega⟩
        have k4 := ryl_run hf (c := cn) (by omega) c3
        have k5 := across_run hf
        have kp := acF_pure hf
        rw [rgA_yes _ rfl, Int.toNat_natCast]
        simp only [Rg.v] at k4
        simp only [go_sem, vw, List.length_map, w, a1, a2]
        refine cFD k5 kp 6 ⟨.inl (by simp [frz, Fv, Fcs, tw, vw, Function.comp_def]), trivial⟩ ?_
        obtain ⟨u0, u1, u2, u3, e⟩ := thaw_fv (acF f) 2
        have hD := fun (A : Heap) (hA : A.length = 2) => thaw_dat (H := A ++ (thaw 6 2 (Fv (acF f))).2) 2 kp fun i hi => by rw [get_new hA]
        simp only [List.length_cons, List.length_nil, Nat.zero_add, Nat.reduceAdd, e] at hD ⊢
        generalize (thaw 6 2 (Fv (acF f))).2 = Y at *
        have hE : ∀ (r0 r1 : Option Row), frz 6 (r0 :: r1 :: Y) (.agg [.sl u0 0 (acF f).g.length, .sl u1 0 (acF f).p.length, .sl u2 0 (acF f).lo.length, .sl u3 0 (acF f).hi.length]) = Fv (acF f) := fun r0 r1 => (hD [r0, r1] rfl).frz
        simp only [go_sem]
        refine cF k4 6 ⟨.inl (hE _ _), .inl rfl, .inl rfl, .inl rfl, trivial⟩ ?_
        simp only [go_sem, Rg.v]
      · rw [if_neg c2] at he
        subst he
        rw [rgA_no _ (by decide)]
        unfold cellOK at c2
        by_cases a1 : c < 0
        · simp only [go_sem, vw, List.length_map, w, a1]
        · have a2 : c > (f.p.length : Int) - 2 := by omega
          simp only [go_sem, vw, List.length_map, w, a1, a2]
    · rw [if_neg c3] at he
      subst he
      rw [decide_eq_false (show ¬ inV v 0 from fun h => c3 h.1), rgA_no _ (by decide)]
      simp only [go_sem]
  · rw [if_neg c1] at he
    subst he
    rw [rgA_no _ c1]
    simp only [go_sem, c1]
set_option maxHeartbeats 4000000 in
set_option maxRecDepth 20000 in
theorem rGain_run (f : Fa) (hg : f.g.length ≤ 1000000) (hp : f.p.length ≤ 1000000) (hl' : f.lo.length ≤ 1000000) (hh : f.hi.length ≤ 1000000) (i k : Int) : Ans Try.prog n_ref02_Gain [Fv f, .int .i64 i, .int .i64 k] [] (rgA (gnE f i k) (gnA f i.toNat k.toNat)) [] := by
  have k1 := rCheck_run f hg hp hl' hh
  have w1 : IntKind.i64.wrap ((f.g.length : Int) - 2) = (f.g.length : Int) - 2 := w64 (by omega)
  have w2 : IntKind.i64.wrap ((f.p.length : Int) - 2) = (f.p.length : Int) - 2 := w64 (by omega)
  obtain ⟨e, he⟩ : ∃ e, gnE f i k = e := ⟨_, rfl⟩
  rw [he]
  unfold gnE at he
  refine spec_run e_ref02_Gain fun G => ?_
  simp only [Fv, Fcs] at k1
  simp only [go_sem, Fv, Fcs]
  refine cP k1 ?_
  by_cases c1 : famE f = 0
  · rw [if_pos c1] at he
    have hf := fam_iff.1 c1
    by_cases c2 : cellOK f.g i ∧ cellOK f.p k
    · rw [if_pos c2] at he
      obtain ⟨c2, c3⟩ := c2
      unfold cellOK at c2 c3
      have a1 : ¬ i < 0 := by omega
      have a2 : ¬ i > (f.g.length : Int) - 2 := by omega
      have a3 : ¬ k < 0 := by omega
      have a4 : ¬ k > (f.p.length : Int) - 2 := by omega
      obtain ⟨a, rfl⟩ : ∃ n : Nat, i = n := ⟨i.toNat, by omega⟩
      obtain ⟨b, rfl⟩ : ∃ n : Nat, k = n := ⟨k.toNat, by omega⟩
      rw [Int.toNat_natCast, Int.toNat_natCast] at he ⊢
      have gm := hf.g.most
      have pm := hf.p.most
      have ga := hf.g.inn a (by omega)
      have ga1 := hf.g.inn (a + 1) (by omega)
      have pb := hf.p.inn b (by omega)
      have pb1 := hf.p.inn (b + 1) (by omega)
      have s1 := rsl_run hf (c := a) (by omega) pb
      have s2 := rsl_run hf (c := a) (by omega) pb1
      have y1 := ryl_run hf (c := b) (by omega) ga
      have y2 := ryl_run hf (c := b) (by omega) ga1
      have h1 := rhull_run (slA f a (at1 f.p b)) (slA f a (at1 f.p (b + 1)))
      have h2 := rhull_run (ylA f (at1 f.g a) b) (ylA f (at1 f.g (a + 1)) b)
      have iS := hl_in (slA_in hf (c := a) (by omega) (at1 f.p b)) (slA_in hf (c := a) (by omega) (at1 f.p (b + 1)))
      have iC := hl_in (ylA_in hf (c := b) (by omega) (at1 f.g a)) (ylA_in hf (c := b) (by omega) (at1 f.g (a + 1)))
      have x1 := get_at (l := f.g) (i := a) (by omega)
      have x2 := get_at (l := f.g) (i := a + 1) (by omega)
      have x3 := get_at (l := f.p) (i := b) (by omega)
      have x4 := get_at (l := f.p) (i := b + 1) (by omega)
      have wa : IntKind.i64.wrap ((a : Int) + 1) = ((a + 1 : Nat) : Int) := idx_next (n := f.g.length) (by omega) (by omega)
      have wb : IntKind.i64.wrap ((b : Int) + 1) = ((b + 1 : Nat) : Int) := idx_next (n := f.p.length) (by omega) (by omega)
      have n0 : ¬ ((a + 1 : Nat) : Int) < 0 := by omega
      have n1 : ¬ (a : Int) < 0 := by omega
      have n2 : ¬ ((b + 1 : Nat) : Int) < 0 := by omega
      have n3 : ¬ (b : Int) < 0 := by omega
      have eS : hl (slA f a (at1 f.p b)) (slA f a (at1 f.p (b + 1))) = gnS f a b := rfl
      have eC : hl (ylA f (at1 f.g a) b) (ylA f (at1 f.g (a + 1)) b) = gnC f a b := rfl
      rw [eS] at h1 iS
      rw [eC] at h2 iC
      have k5 := across_run hf
      have kp := acF_pure hf
      simp only [Fv, Fcs, Rg.v, tw, vw] at s1 s2
      simp only [Rg.v] at h1 h2 y1 y2
      simp only [go_sem, c1, tw, vw, List.length_map, w1, w2, a1, a2, a3, a4, n1, n3, x1, x3, Int.toNat_natCast, wa, wb]
      refine dP s1 ?_
      simp only [go_sem, n0, n1, n2, n3, x1, x2, x3, x4, Int.toNat_natCast, wa, wb]
      refine dP s2 ?_
      simp only [go_sem]
      refine dP h1 ?_
      simp only [go_sem]
      refine cFD k5 kp 6 ⟨.inl (by simp [frz, Fv, Fcs, tw, vw, Function.comp_def]), trivial⟩ ?_
      obtain ⟨u0, u1, u2, u3, e'⟩ := thaw_fv (acF f) 3
      have hD := fun (A : Heap) (hA : A.length = 3) => thaw_dat (H := A ++ (thaw 6 3 (Fv (acF f))).2) 3 kp fun i hi => by rw [get_new hA]
      simp only [List.length_cons, List.length_nil, Nat.zero_add, Nat.reduceAdd, e'] at hD ⊢
      generalize (thaw 6 3 (Fv (acF f))).2 = Y at *
      have hE : ∀ (r0 r1 r2 : Option Row) (R : Heap), frz 6 (Heap.onlyR (r0 :: r1 :: r2 :: (Y ++ R)) (upFrom 3 Y.length)) (.agg [.sl u0 0 (acF f).g.length, .sl u1 0 (acF f).p.length, .sl u2 0 (acF f).lo.length, .sl u3 0 (acF f).hi.length]) = Fv (acF f) := fun r0 r1 r2 R => (((hD [r0, r1, r2] rfl).app R (fun r hr => by rw [upFrom_mem] at hr; simp; omega)).onlyR (fun _ h => h)).frz
      simp only [go_sem, n0, n1, n2, n3, x1, x2, x3, x4, Int.toNat_natCast, wa, wb]
      refine dF y1 6 (upFrom 3 Y.length) ⟨.inl (hE _ _ _ _), .inl rfl, .inl rfl, .inl rfl, trivial⟩ ?_
      simp only [go_sem, n0, n1, n2, n3, x1, x2, x3, x4, Int.toNat_natCast, wa, wb]
      refine dF y2 6 (upFrom 3 Y.length) ⟨.inl (hE _ _ _ _), .inl rfl, .inl rfl, .inl rfl, trivial⟩ ?_
      simp only [go_sem]
      refine dP h2 ?_
      simp only [go_sem]
      by_cases z : (gnC f a b).lo = 0
      · rw [if_pos z] at he
        subst he
        rw [rgA_no _ (by decide)]
        simp only [go_sem, z]
        first | done | (simp; done) | (simp; omega)
      · rw [if_neg z] at he
        subst he
        rw [rgA_yes _ rfl]
        unfold gnA
        generalize gnS f a b = S at *
        generalize gnC f a b = C at *
        have q1 : IntKind.i64.wrap (1000000 * S.lo) = 1000000 * S.lo := w64 (by omega)
        have q2 : IntKind.i64.wrap (1000000 * S.hi) = 1000000 * S.hi := w64 (by omega)
        have kd := down_run (n := 1000000 * S.lo) (b := C.hi) (by omega) (by omega)
        have ku := up_run (n := 1000000 * S.hi) (b := C.lo) (by omega) (by omega)
        simp only [go_sem, z, q1, q2]
        refine ⟨by first | (simp; done) | (simp; omega), ?_⟩
        refine dP kd ?_
        simp only [go_sem, q1, q2]
        first | refine dP ku ?_ | refine cP ku ?_
        simp only [go_sem, Rg.v]
    · rw [if_neg c2] at he
      subst he
      rw [rgA_no _ (by decide)]
      unfold cellOK at c2
      by_cases a1 : i < 0
      · simp only [go_sem, c1, vw, List.length_map, w1, w2, a1]
      · by_cases a2 : i > (f.g.length : Int) - 2
        · simp only [go_sem, c1, vw, List.length_map, w1, w2, a1, a2]
        · by_cases a3 : k < 0
          · simp only [go_sem, c1, vw, List.length_map, w1, w2, a1, a2, a3]
          · have a4 : k > (f.p.length : Int) - 2 := by omega
            simp only [go_sem, c1, vw, List.length_map, w1, w2, a1, a2, a3, a4]
  · rw [if_neg c1] at he
    subst he
    rw [rgA_no _ c1]
    simp only [go_sem, c1]
end Go.Proofs

namespace Go.Proofs
open Go Go.Sx Go.Fam

theorem at_struct {P : Program} {n : Nat} {t : TypeId} {fs : Array Field} (hu : P.underlying t = some (.struct fs)) {vs : List AVal} (h : AT P (n + 1) t vs) : ATs (AT P n) fs.toList vs := by
  unfold AT at h; rw [hu] at h; exact h
theorem at_int {P : Program} {n : Nat} {t : TypeId} {k : IntKind} (hu : P.underlying t = some (.int k)) {vs : List AVal} (h : AT P (n + 1) t vs) : ∃ m, vs = [.int k m] ∧ (Lit.int k m).wf = true := by
  unfold AT at h; rw [hu] at h; exact h
theorem at_slice {P : Program} {n : Nat} {t e : TypeId} (hu : P.underlying t = some (.slice e)) {vs : List AVal} (h : AT P (n + 1) t vs) : ∃ es, vs = [.view es] ∧ es.length ≤ maxLen ∧ ∀ x ∈ es, if aggT P e = true then ∃ ws, x = .agg ws ∧ AT P n e ws else AT P n e [x] := by
  unfold AT at h; rw [hu] at h; exact h
theorem list_mapQ {α β : Type} {f : α → β} {Q : α → Prop} : ∀ l : List β, (∀ x ∈ l, ∃ a, x = f a ∧ Q a) → ∃ l' : List α, l = l'.map f ∧ ∀ a ∈ l', Q a
  | [], _ => ⟨[], rfl, fun a ha => by simp at ha⟩
  | x :: l, h => by
    obtain ⟨a, rfl, ha⟩ := h x (by simp)
    obtain ⟨l', rfl, h'⟩ := list_mapQ l fun y hy => h y (by simp [hy])
    exact ⟨a :: l', rfl, fun b hb => by
      rcases List.mem_cons.1 hb with rfl | hb
      · exact ha
      · exact h' b hb⟩

attribute [local irreducible] AT
set_option maxRecDepth 100000
theorem atn_int {n : Nat} {vs : List AVal} (h : AT Try.prog (n + 1) 3 vs) : ∃ m, vs = [.int .i64 m] ∧ (Lit.int .i64 m).wf = true := at_int Try.underlying3 h
theorem at_ints {n : Nat} {x : AVal} (h : AT Try.prog (n + 2) 26 [x]) : ∃ l : List Int, x = vw l ∧ l.length ≤ 9223372036854775807 := by
  obtain ⟨es, h1, hl, he⟩ := at_slice Try.underlying26 h
  obtain rfl : x = .view es := by simpa using h1
  have hg : ¬ aggT Try.prog 3 = true := by unfold aggT; rw [Try.underlying3]; decide
  obtain ⟨l, rfl, -⟩ := list_mapQ (f := AVal.int .i64) (Q := fun _ => True) es fun x hx => by
    have := he x hx
    rw [if_neg hg] at this
    obtain ⟨m, hm, -⟩ := atn_int this
    exact ⟨m, by simpa using hm, trivial⟩
  have hm : maxLen = 9223372036854775807 := rfl
  rw [hm] at hl
  exact ⟨l, rfl, by simpa using hl⟩
theorem at_tab {n : Nat} {x : AVal} (h : AT Try.prog (n + 3) 40 [x]) : ∃ l : List (List Int), x = tw l ∧ l.length ≤ 9223372036854775807 ∧ ∀ r ∈ l, r.length ≤ 9223372036854775807 := by
  obtain ⟨es, h1, hl, he⟩ := at_slice Try.underlying40 h
  obtain rfl : x = .view es := by simpa using h1
  have hg : ¬ aggT Try.prog 26 = true := by unfold aggT; rw [Try.underlying26]; decide
  obtain ⟨l, rfl, hq⟩ := list_mapQ (f := vw) (Q := fun r : List Int => r.length ≤ 9223372036854775807) es fun x hx => by
    have := he x hx
    rw [if_neg hg] at this
    obtain ⟨m, hm, hl⟩ := at_ints this
    exact ⟨m, hm, hl⟩
  have hm : maxLen = 9223372036854775807 := rfl
  rw [hm] at hl
  exact ⟨l, rfl, by simpa using hl, hq⟩
structure FaL (f : Fa) : Prop where
  g : f.g.length ≤ 9223372036854775807
  p : f.p.length ≤ 9223372036854775807
  lo : f.lo.length ≤ 9223372036854775807 ∧ ∀ r ∈ f.lo, r.length ≤ 9223372036854775807
  hi : f.hi.length ≤ 9223372036854775807 ∧ ∀ r ∈ f.hi, r.length ≤ 9223372036854775807
theorem at_family {n : Nat} {ws : List AVal} (h : AT Try.prog (n + 4) 42 ws) : ∃ f : Fa, .agg ws = Fv f ∧ FaL f := by
  obtain ⟨a, _, rfl, ha, b, _, rfl, hb, c, _, rfl, hc, d, _, rfl, hd, rfl⟩ := at_struct Try.underlying42 h
  obtain ⟨x, rfl, -⟩ := at_slice Try.underlying26 ha
  obtain ⟨y, rfl, -⟩ := at_slice Try.underlying26 hb
  obtain ⟨z, rfl, -⟩ := at_slice Try.underlying40 hc
  obtain ⟨w, rfl, -⟩ := at_slice Try.underlying40 hd
  obtain ⟨l1, h1, q1⟩ := at_ints ha
  obtain ⟨l2, h2, q2⟩ := at_ints hb
  obtain ⟨l3, h3, q3⟩ := at_tab hc
  obtain ⟨l4, h4, q4⟩ := at_tab hd
  exact ⟨⟨l1, l2, l3, l4⟩, by rw [List.cons_append, h1, List.cons_append, h2, List.cons_append, h3, List.cons_append, h4]; rfl, q1, q2, q3, q4⟩
end Go.Proofs

namespace Go.Proofs
open Go Go.Sx Go.Fam
attribute [local irreducible] Run

set_option maxHeartbeats 8000000 in
set_option maxRecDepth 20000 in
theorem curveSlopes_ok (f : Fa) (i k g p : Int) (xs : List Int) (hl : xs.length ≤ 9223372036854775807) : Ans Try.prog n_law02_CurveSlopes [Fv f, .int .i64 i, .int .i64 k, .int .i64 g, .int .i64 p, .view (xs.map (.int .i64))] [] (.bool true) [] := by
  have kl := large_run f
  refine spec_run e_law02_CurveSlopes fun G => ?_
  simp only [Fv, Fcs] at kl
  simp only [go_sem, Fv, Fcs]
  refine cP kl ?_
  by_cases c : lrgB f = true
  · rw [c]
    simp only [go_sem]
    refine cP awake_ok ?_
    simp only [go_sem]
  · rw [Bool.not_eq_true] at c
    obtain ⟨s1, s2, s3, s4⟩ := lrg_no c
    rw [c]
    have kd := newdice_ok xs hl
    obtain ⟨w, hw⟩ : ∃ w, feed (IntKind.u64.wrap (IntKind.u64.wrap xs.length + 1374496523)) xs = w := ⟨_, rfl⟩
    rw [hw] at kd
    have kf := FamilyOf_run w
    have hne := famOf_ne w
    obtain ⟨F, hF⟩ : ∃ F, famOf w = F := ⟨_, rfl⟩
    obtain ⟨w1, hw1⟩ : ∃ x, famEnd w = x := ⟨_, rfl⟩
    rw [hF] at kf hne
    rw [hw1] at kf
    simp only [go_sem]
    refine callN1 kd ⟨by rw [bel_view, bels_ints]; trivial, trivial⟩ (dr_bel _ _) (by simp) (by simp) ?_
    simp only [go_sem]
    refine cMD kf hne.pure 1 trivial ?_
    obtain ⟨a, b, c', d, e⟩ := thaw_fv F 2
    have hD := fun (A : Heap) (hA : A.length = 2) => thaw_dat (H := A ++ (thaw 6 2 (Fv F)).2) 2 hne.pure fun i hi => by rw [get_new hA]
    simp only [List.length_cons, List.length_nil, e] at hD ⊢
    generalize (thaw 6 2 (Fv F)).2 = Y at *
    have g5 := hne.g.2
    have p5 := hne.p.2
    have l5 := hne.lo.1
    have h5 := hne.hi.1
    have v1 := upto_ok w1 F.g.length (by omega)
    obtain ⟨w2, hw2⟩ : ∃ x, dstep w1 = x := ⟨_, rfl⟩
    obtain ⟨x1, hx1⟩ : ∃ x, upto w1 F.g.length = x := ⟨_, rfl⟩
    rw [hw2, hx1] at v1
    have v2 := upto_ok w2 F.p.length (by omega)
    obtain ⟨w3, hw3⟩ : ∃ x, dstep w2 = x := ⟨_, rfl⟩
    obtain ⟨x2, hx2⟩ : ∃ x, upto w2 F.p.length = x := ⟨_, rfl⟩
    rw [hw3, hx2] at v2
    have v3 := between_ok w3 (-10000) 4000 (by omega) (by omega) (by omega)
    obtain ⟨w4, hw4⟩ : ∃ x, dstep w3 = x := ⟨_, rfl⟩
    obtain ⟨x3, hx3⟩ : ∃ x, btw w3 (-10000) 4000 = x := ⟨_, rfl⟩
    rw [hw4, hx3] at v3
    have v4 := upto_ok w4 350000 (by omega)
    obtain ⟨w5, hw5⟩ : ∃ x, dstep w4 = x := ⟨_, rfl⟩
    obtain ⟨x4, hx4⟩ : ∃ x, upto w4 350000 = x := ⟨_, rfl⟩
    rw [hw5, hx4] at v4
    clear hw hF hw1 hw2 hw3 hw4 hw5 hx1 hx2 hx3 hx4 kf kd
    have hE : ∀ (r1 r2 : Option Row) (R : Heap), frz 6 (Heap.onlyR (r1 :: r2 :: (Y ++ R)) (upFrom 2 Y.length)) (.agg [AVal.sl a 0 F.g.length, AVal.sl b 0 F.p.length, AVal.sl c' 0 F.lo.length, AVal.sl d 0 F.hi.length]) = Fv F := fun r1 r2 R => (((hD [r1, r2] rfl).app R (fun r hr => by rw [upFrom_mem] at hr; simp; omega)).onlyR (fun _ h => h)).frz
    have hgp : ∀ (r1 r2 : Option Row) (R : Heap), Heap.cellsAt (r1 :: r2 :: (Y ++ R)) a = some (true, 1, F.g.map (.int .i64)) ∧ Heap.cellsAt (r1 :: r2 :: (Y ++ R)) b = some (true, 1, F.p.map (.int .i64)) := fun r1 r2 R => by
      have h := (hD [r1, r2] rfl).app R (fun r hr => by rw [upFrom_mem] at hr; simp; omega)
      obtain ⟨vs, ev, hx⟩ := h
      cases ev
      obtain ⟨κ0, κa, e0, d0, hx⟩ := (show All3 (Dat 5 _) _ [_, _, _, _] [vw F.g, vw F.p, tw F.lo, tw F.hi] from hx)
      obtain ⟨κ1, κb, e1, d1, hx⟩ := hx
      obtain ⟨_, q, eq, -, hq⟩ := vw_get d0
      obtain ⟨_, q', eq', -, hq'⟩ := vw_get d1
      cases eq; cases eq'
      exact ⟨cells_at hq, cells_at hq'⟩
    have hab : (2 ≤ a ∧ a < 2 + Y.length) ∧ 2 ≤ b ∧ b < 2 + Y.length := by
      obtain ⟨vs, ev, hx⟩ := hD [none, none] rfl
      cases ev
      obtain ⟨κ0, κa, e0, d0, hx⟩ := (show All3 (Dat 5 _) _ [_, _, _, _] [vw F.g, vw F.p, tw F.lo, tw F.hi] from hx)
      obtain ⟨κ1, κb, e1, d1, hx⟩ := hx
      obtain ⟨_, q, eq, k0, hq⟩ := vw_get d0
      obtain ⟨_, q', eq', k1, hq'⟩ := vw_get d1
      cases eq; cases eq'
      subst k0; subst k1; subst e1
      exact ⟨upFrom_mem.1 (by rw [e0]; simp), upFrom_mem.1 (by rw [e0]; simp)⟩
    have cg := fun r1 r2 R => (hgp r1 r2 R).1
    have cp := fun r1 r2 R => (hgp r1 r2 R).2
    have w1' : IntKind.i64.wrap 1 = 1 := by decide
    have w2' : IntKind.i64.wrap 2 = 2 := by decide
    have w3' : IntKind.i64.wrap 3 = 3 := by decide
    have A := fun c v => Slope_run f (by omega) (by omega) (by omega) (by omega) c v
    have B := fun c v => rSlope_run f (by omega) (by omega) (by omega) (by omega) c v
    have C := fun v c => Yield_run f (by omega) (by omega) (by omega) (by omega) v c
    have D := fun v c => rYield_run f (by omega) (by omega) (by omega) (by omega) v c
    have E := fun i k => Gain_run f (by omega) (by omega) (by omega) (by omega) i k
    have G' := fun i k => rGain_run f (by omega) (by omega) (by omega) (by omega) i k
    have A' := fun c v => Slope_run F (by omega) (by omega) (by omega) (by omega) c v
    have B' := fun c v => rSlope_run F (by omega) (by omega) (by omega) (by omega) c v
    have C1 := fun v c => Yield_run F (by omega) (by omega) (by omega) (by omega) v c
    have D' := fun v c => rYield_run F (by omega) (by omega) (by omega) (by omega) v c
    have E' := fun i k => Gain_run F (by omega) (by omega) (by omega) (by omega) i k
    have G1 := fun i k => rGain_run F (by omega) (by omega) (by omega) (by omega) i k
    simp only [Fv, Fcs, vw, tw, rgA_eq] at A B C D E G'
    simp only [rgA_eq] at A' B' C1 D' E' G1
    simp only [go_sem, vw, tw, cg, cp, List.length_map]
    repeat (refine ⟨by first | (simp; done) | (simp; omega) | omega, ?_⟩)
    refine dD v1 ?_
    simp only [go_sem, w1', w2', w3', cg, cp, List.length_map]
    repeat (refine ⟨by first | (simp; done) | (simp; omega) | omega, ?_⟩)
    refine dD v2 ?_
    simp only [go_sem, w1', w2', w3', cg, cp, List.length_map]
    repeat (refine ⟨by first | (simp; done) | (simp; omega) | omega, ?_⟩)
    refine dD v3 ?_
    simp only [go_sem, w1', w2', w3', cg, cp, List.length_map]
    repeat (refine ⟨by first | (simp; done) | (simp; omega) | omega, ?_⟩)
    refine dD v4 ?_
    simp only [go_sem, w1', w2', w3', cg, cp, List.length_map]
    repeat (refine ⟨by first | (simp; done) | (simp; omega) | omega, ?_⟩)
    refine loop_body 3000 k_law02_CurveSlopes_r17.eq_1 ?_
    simp only [go_sem, w1', w2', w3']
    repeat (refine ⟨by first | (simp; done) | (simp; omega) | omega, ?_⟩)
    refine dP (A i p) ?_
    simp only [go_sem, w1', w2', w3', cg, cp, List.length_map]
    repeat (refine ⟨by first | (simp; done) | (simp; omega) | omega, ?_⟩)
    refine dP (B i p) ?_
    simp only [go_sem, w1', w2', w3', cg, cp, List.length_map]
    repeat (refine ⟨by first | (simp; done) | (simp; omega) | omega, ?_⟩)
    refine dP (C g k) ?_
    simp only [go_sem, w1', w2', w3', cg, cp, List.length_map]
    repeat (refine ⟨by first | (simp; done) | (simp; omega) | omega, ?_⟩)
    refine dP (D g k) ?_
    simp only [go_sem, w1', w2', w3', cg, cp, List.length_map]
    repeat (refine ⟨by first | (simp; done) | (simp; omega) | omega, ?_⟩)
    refine dP (E i k) ?_
    simp only [go_sem, w1', w2', w3', cg, cp, List.length_map]
    repeat (refine ⟨by first | (simp; done) | (simp; omega) | omega, ?_⟩)
    refine dP (G' i k) ?_
    simp only [go_sem, w1', w2', w3', cg, cp, List.length_map]
    repeat (refine ⟨by first | (simp; done) | (simp; omega) | omega, ?_⟩)
    refine loop_body 3000 k_law02_CurveSlopes_r17.eq_1 ?_
    simp only [go_sem, w1', w2', w3']
    repeat (refine ⟨by first | (simp; done) | (simp; omega) | omega, ?_⟩)
    refine dF (A' x1 x4) 6 (upFrom 2 Y.length) ⟨.inl (hE _ _ _), .inl rfl, .inl rfl, trivial⟩ ?_
    simp only [go_sem, w1', w2', w3', cg, cp, List.length_map]
    repeat (refine ⟨by first | (simp; done) | (simp; omega) | omega, ?_⟩)
    refine dF (B' x1 x4) 6 (upFrom 2 Y.length) ⟨.inl (hE _ _ _), .inl rfl, .inl rfl, trivial⟩ ?_
    simp only [go_sem, w1', w2', w3', cg, cp, List.length_map]
    repeat (refine ⟨by first | (simp; done) | (simp; omega) | omega, ?_⟩)
    refine dF (C1 x3 x2) 6 (upFrom 2 Y.length) ⟨.inl (hE _ _ _), .inl rfl, .inl rfl, trivial⟩ ?_
    simp only [go_sem, w1', w2', w3', cg, cp, List.length_map]
    repeat (refine ⟨by first | (simp; done) | (simp; omega) | omega, ?_⟩)
    refine dF (D' x3 x2) 6 (upFrom 2 Y.length) ⟨.inl (hE _ _ _), .inl rfl, .inl rfl, trivial⟩ ?_
    simp only [go_sem, w1', w2', w3', cg, cp, List.length_map]
    repeat (refine ⟨by first | (simp; done) | (simp; omega) | omega, ?_⟩)
    refine dF (E' x1 x2) 6 (upFrom 2 Y.length) ⟨.inl (hE _ _ _), .inl rfl, .inl rfl, trivial⟩ ?_
    simp only [go_sem, w1', w2', w3', cg, cp, List.length_map]
    repeat (refine ⟨by first | (simp; done) | (simp; omega) | omega, ?_⟩)
    refine dF (G1 x1 x2) 6 (upFrom 2 Y.length) ⟨.inl (hE _ _ _), .inl rfl, .inl rfl, trivial⟩ ?_
    simp only [go_sem, w1', w2', w3', cg, cp, List.length_map]
    repeat (refine ⟨by first | (simp; done) | (simp; omega) | omega, ?_⟩)
    refine loop_body 3000 k_law02_CurveSlopes_r17.eq_1 ?_
    simp only [go_sem, w1', w2', w3']
    repeat (refine ⟨by first | (simp; done) | (simp; omega) | omega, ?_⟩)
    refine dF (A' i p) 6 (upFrom 2 Y.length) ⟨.inl (hE _ _ _), .inl rfl, .inl rfl, trivial⟩ ?_
    simp only [go_sem, w1', w2', w3', cg, cp, List.length_map]
    repeat (refine ⟨by first | (simp; done) | (simp; omega) | omega, ?_⟩)
    refine dF (B' i p) 6 (upFrom 2 Y.length) ⟨.inl (hE _ _ _), .inl rfl, .inl rfl, trivial⟩ ?_
    simp only [go_sem, w1', w2', w3', cg, cp, List.length_map]
    repeat (refine ⟨by first | (simp; done) | (simp; omega) | omega, ?_⟩)
    refine dF (C1 g k) 6 (upFrom 2 Y.length) ⟨.inl (hE _ _ _), .inl rfl, .inl rfl, trivial⟩ ?_
    simp only [go_sem, w1', w2', w3', cg, cp, List.length_map]
    repeat (refine ⟨by first | (simp; done) | (simp; omega) | omega, ?_⟩)
    refine dF (D' g k) 6 (upFrom 2 Y.length) ⟨.inl (hE _ _ _), .inl rfl, .inl rfl, trivial⟩ ?_
    simp only [go_sem, w1', w2', w3', cg, cp, List.length_map]
    repeat (refine ⟨by first | (simp; done) | (simp; omega) | omega, ?_⟩)
    refine dF (E' i k) 6 (upFrom 2 Y.length) ⟨.inl (hE _ _ _), .inl rfl, .inl rfl, trivial⟩ ?_
    simp only [go_sem, w1', w2', w3', cg, cp, List.length_map]
    repeat (refine ⟨by first | (simp; done) | (simp; omega) | omega, ?_⟩)
    refine dF (G1 i k) 6 (upFrom 2 Y.length) ⟨.inl (hE _ _ _), .inl rfl, .inl rfl, trivial⟩ ?_
    simp only [go_sem, w1', w2', w3', cg, cp, List.length_map]
    repeat (refine ⟨by first | (simp; done) | (simp; omega) | omega, ?_⟩)
    refine loop_body 3000 k_law02_CurveSlopes_r17.eq_1 ?_
    simp only [go_sem, w1', w2', w3']
    refine cP awake_ok ?_
    simp only [go_sem]
end Go.Proofs

