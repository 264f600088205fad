/- A part of the proof. -/
import Derived.Test.YtcnpapgcojagpaaPD
set_option linter.unusedSimpArgs false
set_option linter.unusedVariables false
namespace Go.Proofs
open Go Go.Sx Go.Fam
attribute [local irreducible] Run

structure FmH (J : Heap) (w : Int) (v0 v1 v2 v3 : AVal) : Prop where
  r0 : J[0]? = some (some (Dr w))
  r1 : J[1]? = some (some (.cells false 4 [.agg [.nilsl, .nilsl, .nilsl, .nilsl]]))
  r4 : J[4]? = some (some (.cells false 4 [.agg [v0, v1, v2, v3]]))
def Bd1 (m : Int) (l : List Int) : Prop := ∀ x ∈ l, 0 ≤ x ∧ x ≤ m
theorem Bd1.at1 {m : Int} {l : List Int} (h : Bd1 m l) {i : Nat} (hi : i < l.length) : 0 ≤ Go.Fam.at1 l i ∧ Go.Fam.at1 l i ≤ m := by
  have := get_at hi
  exact h _ (List.mem_of_getElem? this)
theorem FS.g2 {F : Nat → Prop} {J : Heap} {g p : List Int} {L U : List (List Int)} {lo hi : List Int} {v0 v1 v2 v3 v4 v5 : AVal} {κ2 κ3 κ4 κ5 : List Nat} (h : FS F J g p L U lo hi v0 v1 v2 v3 v4 v5 [2] [3] κ2 κ3 κ4 κ5) : v0 = .sl 2 0 g.length ∧ v1 = .sl 3 0 p.length ∧ J[2]? = some (some (.cells true 1 (ivL g))) ∧ J[3]? = some (some (.cells true 1 (ivL p))) := by
  obtain ⟨_, a, e1, e2, e3⟩ := vw_get h.d0
  obtain ⟨_, b, e4, e5, e6⟩ := vw_get h.d1
  obtain rfl : 2 = a := by simpa using e2
  obtain rfl : 3 = b := by simpa using e5
  exact ⟨e1, e4, e3, e6⟩
def fT (gl pl : Nat) : List (Nat × AVal) := [(0, .ptr 0 0 0 1), (2, .ptr 1 0 0 1), (3, .sl 2 0 gl), (4, .sl 3 0 pl), (7, .ptr 4 0 0 1)]
theorem e_mx (a b : Int) : (if b > a then b else a) = mx a b := rfl
theorem cell00 {w a0 b0 wA wB : Int} (h1 : upto w 60 = a0) (h2 : dstep w = wA) (h3 : upto wA 30 = b0) (h4 : dstep wA = wB) : cell w none none = ⟨a0, a0 + mx 0 b0, wB⟩ := by subst h1; subst h2; subst h3; subst h4; rfl
theorem cell01 {w a0 b0 wA wB p1 p2 : Int} (h1 : upto w 60 = a0) (h2 : dstep w = wA) (h3 : upto wA 30 = b0) (h4 : dstep wA = wB) : cell w none (some (p1, p2)) = ⟨mx a0 p1, mx a0 p1 + mx 0 (mx (mx a0 p1 + b0) p2 - mx a0 p1), wB⟩ := by subst h1; subst h2; subst h3; subst h4; rfl
theorem cell10 {w a0 b0 t0 wA wB wC q1 q2 a1 b1 : Int} (h1 : upto w 60 = a0) (h2 : dstep w = wA) (h3 : upto wA 30 = b0) (h4 : dstep wA = wB) (h5 : upto wB 20 = t0) (h6 : dstep wB = wC) (h7 : mx a0 (q1 + t0) = a1) (h8 : mx (a1 + b0) q2 - a1 = b1) :
    cell w (some (q1, q2)) none = ⟨a1, a1 + mx 0 (mx (a1 + b1) q2 - a1), wC⟩ := by subst h1; subst h2; subst h3; subst h4; subst h5; subst h6; subst h7; subst h8; rfl
theorem cell11 {w a0 b0 t0 wA wB wC q1 q2 p1 p2 a1 b1 a2 b2 : Int} (h1 : upto w 60 = a0) (h2 : dstep w = wA) (h3 : upto wA 30 = b0) (h4 : dstep wA = wB) (h5 : upto wB 20 = t0) (h6 : dstep wB = wC) (h7 : mx a0 (q1 + t0) = a1) (h8 : mx (a1 + b0) q2 - a1 = b1) (h9 : mx a1 p1 = a2) (h10 : mx (a2 + b1) p2 - a2 = b2) :
    cell w (some (q1, q2)) (some (p1, p2)) = ⟨a2, a2 + mx 0 (mx (a2 + b2) q2 - a2), wC⟩ := by subst h1; subst h2; subst h3; subst h4; subst h5; subst h6; subst h7; subst h8; subst h9; subst h10; rfl
theorem mx_or (a b : Int) : (a ≤ mx a b ∧ b ≤ mx a b) ∧ (mx a b = a ∨ mx a b = b) := by unfold mx; split <;> omega
theorem Bd1.snoc {m x : Int} {l : List Int} (h : Bd1 m l) (hx : 0 ≤ x ∧ x ≤ m) : Bd1 m (l ++ [x]) := fun y hy => by
  rcases List.mem_append.1 hy with hy | hy
  · exact h y hy
  · obtain rfl : y = x := by simpa using hy
    exact hx
set_option maxHeartbeats 8000000 in
set_option maxRecDepth 20000 in
theorem famOf_any {w w1 w2 : Int} {gL pL : List Int} (k1 : Ans Try.prog n_kit_Lines [.ptr 0 0 0 1, .int .i64 (-9000), .int .i64 3000, .int .i64 5] [some (Dr w)] (.sl 1 0 gL.length) [some (Dr w1), some (.cells true 1 (gL.map (.int .i64)))])
    (k2 : Ans Try.prog n_kit_Lines [.ptr 0 0 0 1, .int .i64 0, .int .i64 300000, .int .i64 5] [some (Dr w1)] (.sl 1 0 pL.length) [some (Dr w2), some (.cells true 1 (pL.map (.int .i64)))]) (gm : gL.length ≤ 5) (pm : pL.length ≤ 5) (g0 : gL ≠ []) (p0 : pL ≠ [])
    (b1 : (upto w2 2 == 0) = false) {w3 : Int} (k3 : Ans Try.prog n_kit_Dice_One [.ptr 0 0 0 1, .int .i64 2] [some (Dr w2)] (.bool (upto w2 2 == 0)) [some (Dr w3)]) {T : TabR} (hT : tabGo pL.length gL.length w3 [] [] = T) :
    Go.Sx.Fn Try.prog n_kit_FamilyOf [.ptr 0 0 0 1] [some (Dr w)] fun v H' => ∃ ι, Dat 6 H' ι v (Fv ⟨gL, pL, T.lo, T.hi⟩) ∧ ι.Nodup ∧ 0 ∉ ι ∧ H'[0]? = some (some (Dr T.w)) := by
  rw [b1] at k3
  refine run_fn e_kit_FamilyOf fun G => ?_
  simp only [go_sem]
  refine cDN k1 ?_ (by rw [bel_sl])
  simp only [go_sem, ren]
  refine cDN k2 ?_ (by rw [bel_sl])
  simp only [go_sem, ren]
  refine cD k3 ?_
  simp only [go_sem]
  refine loop_ind k_kit_FamilyOf_r25.eq_1 (fun a : Nat × Int × Heap × AVal × AVal × AVal × AVal × List (List Int) × List (List Int) => ∃ m, gL.length = a.1 + m ∧ tabGo pL.length m a.2.1 a.2.2.2.2.2.2.2.1 a.2.2.2.2.2.2.2.2 = T ∧ a.2.2.2.2.2.2.2.1.length = a.1 ∧ a.2.2.2.2.2.2.2.2.length = a.1 ∧
      (∀ r ∈ a.2.2.2.2.2.2.2.1, r.length = pL.length ∧ Bd1 (100 * a.1) r) ∧ (∀ r ∈ a.2.2.2.2.2.2.2.2, r.length = pL.length ∧ Bd1 (1000 * a.1) r) ∧
      FmH a.2.2.1 a.2.1 a.2.2.2.1 a.2.2.2.2.1 a.2.2.2.2.2.1 a.2.2.2.2.2.2.1 ∧ ∃ κ2 κ3 κ4 κ5, FS oF a.2.2.1 gL pL a.2.2.2.2.2.2.2.1 a.2.2.2.2.2.2.2.2 [] [] a.2.2.2.1 a.2.2.2.2.1 a.2.2.2.2.2.1 a.2.2.2.2.2.2.1 .nilsl .nilsl [2] [3] κ2 κ3 κ4 κ5) (fun a => gL.length - a.1)
    (fun a => (tsets 140 (fT gL.length pL.length ++ [(8, .int .i64 a.1)]), a.2.2.1)) (0, w3, _, .sl 2 0 gL.length, .sl 3 0 pL.length, .nilsl, .nilsl, [], []) ?_ (by simp [go_sem, fT]) rfl ?_
  · refine ⟨gL.length, by simp, hT, rfl, rfl, by simp, by simp, ⟨rfl, rfl, rfl⟩, [], [], [], [], fun a ha => by unfold oF at ha; simp; omega, vw_put g0 rfl rfl, vw_put p0 rfl rfl, ⟨rfl, rfl, rfl⟩, ⟨rfl, rfl, rfl⟩, ⟨rfl, rfl, rfl⟩, ⟨rfl, rfl, rfl⟩, fun a => ?_, fun a ha => ?_⟩
    · simp only [List.count_cons, List.count_nil, beq_iff_eq]
      split <;> split <;> omega
    · unfold oF at ha
      simp only [List.count_cons, List.count_nil, beq_iff_eq]
      rw [if_neg (by omega), if_neg (by omega)]
  rintro ⟨i, w, J, v0, v1, v2, v3, L, U⟩ ⟨m, hm, hG, hL, hU, bL, bU, ⟨f0, f1, f4⟩, κ2, κ3, κ4, κ5, hF⟩ ih
  dsimp only at hm hG hL hU bL bU f0 f1 f4 hF ih ⊢
  by_cases h1 : i < gL.length
  · obtain ⟨m, rfl⟩ : ∃ n, m = n + 1 := ⟨m - 1, by omega⟩
    have h2 : (i : Int) < gL.length := by omega
    have h3 := idx_next h1 (by omega)
    obtain ⟨Ur, hUr⟩ : ∃ Ur, lastOf L U = Ur := ⟨_, rfl⟩
    simp only [tabGo, hUr] at hG
    obtain ⟨R, hR⟩ : ∃ R, rowGo Ur pL.length w [] [] = R := ⟨_, rfl⟩
    rw [hR] at hG
    obtain ⟨ev0, ev1, f2, f3⟩ := hF.g2
    have c2 := cells_at f2
    simp only [go_sem, fT, h2, c2, List.length_map]
    refine loop_ind k_kit_FamilyOf_r22.eq_1 (fun a : Nat × Int × Heap × AVal × AVal × List Int × List Int => ∃ m, pL.length = a.1 + m ∧ rowGo Ur m a.2.1 a.2.2.2.2.2.1 a.2.2.2.2.2.2 = R ∧ a.2.2.2.2.2.1.length = a.1 ∧ a.2.2.2.2.2.2.length = a.1 ∧ Bd1 (100 * (i + 1)) a.2.2.2.2.2.1 ∧ Bd1 (1000 * (i + 1)) a.2.2.2.2.2.2 ∧
        FmH a.2.2.1 a.2.1 v0 v1 v2 v3 ∧ ∃ κ2 κ3 κ4 κ5, FS oF a.2.2.1 gL pL L U a.2.2.2.2.2.1 a.2.2.2.2.2.2 v0 v1 v2 v3 a.2.2.2.1 a.2.2.2.2.1 [2] [3] κ2 κ3 κ4 κ5) (fun a => pL.length - a.1)
      (fun a => (tsets 140 (fT gL.length pL.length ++ [(8, .int .i64 i), (9, a.2.2.2.1), (10, a.2.2.2.2.1), (11, .int .i64 a.1)]), a.2.2.1)) (0, w, J, .nilsl, .nilsl, [], []) ⟨pL.length, by simp, hR, rfl, rfl, by simp [Bd1], by simp [Bd1], ⟨f0, f1, f4⟩, _, _, _, _, hF⟩ (by simp [go_sem, fT]) rfl ?_
    rintro ⟨k, w, J, v4, v5, lo, hi⟩ ⟨n, hn, hRg, hlo, hhi, blo, bhi, ⟨f0, f1, f4⟩, κ2, κ3, κ4, κ5, hF⟩ ihk
    dsimp only at hn hRg hlo hhi blo bhi f0 f1 f4 hF ihk ⊢
    obtain ⟨-, -, f2, f3⟩ := hF.g2
    have c3 := cells_at f3
    by_cases j1 : k < pL.length
    · obtain ⟨n, rfl⟩ : ∃ q, n = q + 1 := ⟨n - 1, by omega⟩
      have j2 : (k : Int) < pL.length := by omega
      have j3 := idx_next j1 (by omega)
      simp only [rowGo] at hRg
      have u1 := upto_ok w 60 (by omega)
      have t1 := upto_in (w := w) (n := 60) (by omega)
      obtain ⟨a0, ha0⟩ : ∃ x, upto w 60 = x := ⟨_, rfl⟩
      obtain ⟨wA, hwA⟩ : ∃ x, dstep w = x := ⟨_, rfl⟩
      rw [ha0] at u1 t1
      rw [hwA] at u1
      have u2 := upto_ok wA 30 (by omega)
      have t2 := upto_in (w := wA) (n := 30) (by omega)
      obtain ⟨b0, hb0⟩ : ∃ x, upto wA 30 = x := ⟨_, rfl⟩
      obtain ⟨wB, hwB⟩ : ∃ x, dstep wA = x := ⟨_, rfl⟩
      rw [hb0] at u2 t2
      rw [hwB] at u2
      have u3 := upto_ok wB 20 (by omega)
      have t3 := upto_in (w := wB) (n := 20) (by omega)
      obtain ⟨t0, ht0⟩ : ∃ x, upto wB 20 = x := ⟨_, rfl⟩
      obtain ⟨wC, hwC⟩ : ∃ x, dstep wB = x := ⟨_, rfl⟩
      rw [ht0] at u3 t3
      rw [hwC] at u3
      have z4 := (List.getElem?_eq_some_iff.1 f4).1
      have hset : ∀ X : Row, (J.set 0 (some X))[0]? = some (some X) := fun X => List.getElem?_set_self (by omega)
      have off : ∀ {j : Nat} {g : Bool} {sz : Nat} {es : List AVal}, J[j]? = some (some (.cells g sz es)) → j ≠ 0 → ∀ X, Heap.cellsAt (J.set 0 X) j = some (g, sz, es) := fun h hj X => cells_at (by rw [List.getElem?_set_ne (fun e => hj e.symm)]; exact h)
      have hF2 : ∀ X, FS oF (J.set 0 X) gL pL L U lo hi v0 v1 v2 v3 v4 v5 [2] [3] κ2 κ3 κ4 κ5 := fun X => hF.fix (fun q hq => List.getElem?_set_ne (fun e => hq (by simp [oF, ← e]))) (fun a ha => by have := hF.len a ha; simpa using this)
      have hlen : ∀ X, (J.set 0 X).length = J.length := fun X => List.length_set
      by_cases i0 : i = 0
      · have hU0 : Ur = none := by rw [← hUr]; unfold lastOf; rw [if_pos (by omega)]
        rw [hU0] at hRg ihk
        have eu : upOf none lo.length = none := rfl
        rw [eu] at hRg
        have g1 : ¬ (i : Int) > 0 := by omega
        by_cases k0 : k = 0
        · skip
          have g2 : ¬ (k : Int) > 0 := by omega
          have : lo = [] := List.length_eq_zero_iff.1 (by omega)
          subst this
          have : hi = [] := List.length_eq_zero_iff.1 (by omega)
          subst this
          obtain ⟨e4, e5, -⟩ := hF.first
          subst e4; subst e5
          have ec : cell w none (prevOf [] []) = ⟨a0, a0 + mx 0 b0, wB⟩ := cell00 ha0 hwA hb0 hwB
          rw [ec] at hRg
          have m1 := mx_or 0 b0
          have x1 : IntKind.i64.wrap (a0 + mx 0 b0) = a0 + mx 0 b0 := w64 (by omega)
          simp only [go_sem, fT, j2, c3, List.length_map]
          refine cD u1 ?_ (hj := f0) (hk := by omega)
          simp only [go_sem]
          refine cD u2 ?_ (hj := hset _) (hk := by rw [hlen]; omega)
          simp only [go_sem, g1, g2, j3, List.set_set, e_mx, x1]
          refine ⟨by decide, by decide, ?_⟩
          exact ihk (k + 1, wB, _, _, _, [a0], [a0 + mx 0 b0]) (by omega) ⟨n, by omega, hRg, by simp; omega, by simp; omega, Bd1.snoc (l := []) (by simp [Bd1]) (by omega), Bd1.snoc (l := []) (by simp [Bd1]) (by omega), ⟨by rw [List.getElem?_append_left (by rw [hlen]; omega)]; exact hset _, by rw [List.getElem?_append_left (by rw [hlen]; omega), List.getElem?_set_ne (by omega)]; exact f1, by rw [List.getElem?_append_left (by rw [hlen]; omega), List.getElem?_set_ne (by omega)]; exact f4⟩, _, _, _, _,
            (hF2 (Dr wB)).first.2.2 _ ((J.set 0 (some (Dr wB))).length + 1) ((J.set 0 (some (Dr wB))).length + 3) (a0) (a0 + mx 0 b0) (by omega) (by omega) (by omega) (fun q _ hq => List.getElem?_append_left hq) (by rw [get_new rfl]; rfl) (by rw [get_new rfl]; rfl)⟩ _ (by simp [go_sem, fT])
        · skip
          have g2 : (k : Int) > 0 := by omega
          obtain ⟨j, rfl⟩ : ∃ j, k = j + 1 := ⟨k - 1, by omega⟩
          have lo0 : lo ≠ [] := by rintro rfl; simp at hlo
          have hi0 : hi ≠ [] := by rintro rfl; simp at hhi
          obtain ⟨r, s, e4, e5, hrs, hr, hs, g4, g5, -⟩ := hF.next lo0 hi0
          have r0 : r ≠ 0 := by rintro rfl; exact hr (by simp [oF])
          have s0 : s ≠ 0 := by rintro rfl; exact hs (by simp [oF])
          have l1 := get_at (l := lo) (i := j) (by omega)
          have l2 := get_at (l := hi) (i := j) (by omega)
          have l3 := blo.at1 (i := j) (by omega)
          have l4 := bhi.at1 (i := j) (by omega)
          have ep : prevOf lo hi = some (at1 lo j, at1 hi j) := by unfold prevOf; rw [if_neg (by omega), hlo, Nat.add_sub_cancel]
          rw [ep] at hRg
          obtain ⟨p1, hp1⟩ : ∃ x, at1 lo j = x := ⟨_, rfl⟩
          obtain ⟨p2, hp2⟩ : ∃ x, at1 hi j = x := ⟨_, rfl⟩
          rw [hp1] at l1 l3 hRg
          rw [hp2] at l2 l4 hRg
          rw [cell01 ha0 hwA hb0 hwB] at hRg
          have m1 := mx_or a0 p1
          obtain ⟨a2, ha2⟩ : ∃ x, mx a0 p1 = x := ⟨_, rfl⟩
          rw [ha2] at hRg m1
          have m2 := mx_or (a2 + b0) p2
          obtain ⟨h2', hh2⟩ : ∃ x, mx (a2 + b0) p2 = x := ⟨_, rfl⟩
          rw [hh2] at hRg m2
          have m3 := mx_or 0 (h2' - a2)
          have x1 : IntKind.i64.wrap (a2 + b0) = a2 + b0 := w64 (by omega)
          have x2 : IntKind.i64.wrap (h2' - a2) = h2' - a2 := w64 (by omega)
          have x3 : IntKind.i64.wrap (a2 + mx 0 (h2' - a2)) = a2 + mx 0 (h2' - a2) := w64 (by omega)
          have x4 : IntKind.i64.wrap (((j + 1 : Nat) : Int) - 1) = j := by rw [w64 (by omega)]; omega
          have n4 : ¬ (j : Int) < 0 := by omega
          have d1 := off g4 r0
          have d2 := off g5 s0
          have y1 : (j : Int) < lo.length := by omega
          have y2 : (j : Int) < hi.length := by omega
          have y3 : (lo.length + 1) * 8 ≤ 2 ^ 44 := by omega
          have y4 : (hi.length + 1) * 8 ≤ 2 ^ 44 := by omega
          have hrl := (List.getElem?_eq_some_iff.1 g4).1
          have hsl := (List.getElem?_eq_some_iff.1 g5).1
          have q1 := fun X Y => cells_more (d1 X) Y
          have q2 := fun X Y x => put_more (H := J.set 0 X) (j := r) (by rw [List.length_set]; exact hrl) Y x
          have q3 := fun X x Y => cells_more (H := (J.set 0 X).set r x) (j := s) (cells_at (by rw [List.getElem?_set_ne hrs, List.getElem?_set_ne (fun e => s0 e.symm)]; exact g5)) Y
          have q4 := fun X z Y x => put_more (H := (J.set 0 X).set r z) (j := s) (by simpa using hsl) Y x
          obtain ⟨r', s', e4', e5', -, -, -, -, -, hnn⟩ := (hF2 (Dr wB)).next lo0 hi0
          subst e4; subst e5
          obtain rfl : r = r' := by simpa using e4'
          obtain rfl : s = s' := by simpa using e5'
          simp only [go_sem, fT, j2, c3, List.length_map]
          refine cD u1 ?_ (hj := f0) (hk := by omega)
          simp only [go_sem]
          refine cD u2 ?_ (hj := hset _) (hk := by rw [hlen]; omega)
          simp only [go_sem, g1, g2, j3, List.set_set, e_mx, d1, d2, l1, l2, x4, n4, Int.toNat_natCast, ha2, hh2, x1, x2, x3, y1, y2, y3, y4, q1, q2, q3, q4]
          have hrl' : r < (J.set 0 (some (Dr wB))).length := by rw [hlen]; exact hrl
          have hsl' : s < (J.set 0 (some (Dr wB))).length := by rw [hlen]; exact hsl
          have nF : ∀ q, oF q → q ≠ r ∧ q ≠ s := fun q hq => ⟨fun e => hr (by rw [← e]; exact hq), fun e => hs (by rw [← e]; exact hq)⟩
          exact ihk (j + 1 + 1, wB, _, _, _, lo ++ [a2], hi ++ [a2 + mx 0 (h2' - a2)]) (by omega) ⟨n, by omega, hRg, by simp; omega, by simp; omega, blo.snoc (by omega), bhi.snoc (by omega), ⟨by rw [two_off (by rw [hlen]; omega) (nF 0 (by simp [oF])).1 (nF 0 (by simp [oF])).2]; exact hset _, by rw [two_off (by rw [hlen]; omega) (nF 1 (by simp [oF])).1 (nF 1 (by simp [oF])).2, List.getElem?_set_ne (by omega)]; exact f1, by rw [two_off (by rw [hlen]; omega) (nF 4 (by simp [oF])).1 (nF 4 (by simp [oF])).2, List.getElem?_set_ne (by omega)]; exact f4⟩, _, _, _, _,
            hnn _ (a2) (a2 + mx 0 (h2' - a2)) (fun q _ hl a b => two_off hl a b) (two_r hrl' hrs) (two_s hsl') (fun a ha => by have := hF.len a ha; simp; omega)⟩ _ (by simp [go_sem, fT])
      · skip
        have g1 : (i : Int) > 0 := by omega
        obtain ⟨i', rfl⟩ : ∃ q, i = q + 1 := ⟨i - 1, by omega⟩
        have L0 : L ≠ [] := by rintro rfl; simp at hL
        have U0 : U ≠ [] := by rintro rfl; simp at hU
        obtain ⟨ra, hra⟩ : ∃ x, L[i']? = some x := ⟨_, List.getElem?_eq_getElem (by omega)⟩
        obtain ⟨rb, hrb⟩ : ∃ x, U[i']? = some x := ⟨_, List.getElem?_eq_getElem (by omega)⟩
        obtain ⟨la, ba⟩ := bL ra (List.mem_of_getElem? hra)
        obtain ⟨lb, bb⟩ := bU rb (List.mem_of_getElem? hrb)
        have hU0 : Ur = some (ra, rb) := by
          rw [← hUr]; unfold lastOf; rw [if_neg (by omega), hL]
          simp only [Nat.add_sub_cancel]
          rw [List.getD_eq_getElem?_getD, List.getD_eq_getElem?_getD, hra, hrb]; rfl
        rw [hU0] at hRg ihk
        have eu : upOf (some (ra, rb)) lo.length = some (at1 ra k, at1 rb k) := by rw [hlo]; rfl
        rw [eu] at hRg
        obtain ⟨tr, ts, vs, us, ta, tb, ev2, ev3, nr, ns, na, nb, gr, gs, lvs, lus, gva, gub, ga, gb⟩ := hF.read L0 U0 hra hrb
        have tr0 : tr ≠ 0 := by rintro rfl; exact nr (by simp [oF])
        have ts0 : ts ≠ 0 := by rintro rfl; exact ns (by simp [oF])
        have ta0 : ta ≠ 0 := by rintro rfl; exact na (by simp [oF])
        have tb0 : tb ≠ 0 := by rintro rfl; exact nb (by simp [oF])
        have o4 := off f4 (by omega)
        have o1 := off gr tr0
        have o2 := off gs ts0
        have o3 := off ga ta0
        have o5 := off gb tb0
        have l5 := get_at (l := ra) (i := k) (by omega)
        have l6 := get_at (l := rb) (i := k) (by omega)
        have l7 := ba.at1 (i := k) (by omega)
        have l8 := bb.at1 (i := k) (by omega)
        obtain ⟨q1', hq1'⟩ : ∃ x, at1 ra k = x := ⟨_, rfl⟩
        obtain ⟨q2', hq2'⟩ : ∃ x, at1 rb k = x := ⟨_, rfl⟩
        rw [hq1'] at l5 l7 hRg
        rw [hq2'] at l6 l8 hRg
        have x5 : IntKind.i64.wrap (((i' + 1 : Nat) : Int) - 1) = i' := by rw [w64 (by omega)]; omega
        have n5 : ¬ (i' : Int) < 0 := by omega
        have n6 : ¬ (k : Int) < 0 := by omega
        have y5 : (i' : Int) < L.length := by omega
        have y6 : (i' : Int) < U.length := by omega
        have y7 : (k : Int) < ra.length := by omega
        have y8 : (k : Int) < rb.length := by omega
        have m4 := mx_or a0 (q1' + t0)
        obtain ⟨a1, ha1⟩ : ∃ x, mx a0 (q1' + t0) = x := ⟨_, rfl⟩
        rw [ha1] at m4
        have m5 := mx_or (a1 + b0) q2'
        obtain ⟨h1', hh1⟩ : ∃ x, mx (a1 + b0) q2' = x := ⟨_, rfl⟩
        rw [hh1] at m5
        have x6 : IntKind.i64.wrap (q1' + t0) = q1' + t0 := w64 (by omega)
        have x7 : IntKind.i64.wrap (a1 + b0) = a1 + b0 := w64 (by omega)
        have x8 : IntKind.i64.wrap (h1' - a1) = h1' - a1 := w64 (by omega)
        subst ev2; subst ev3
        by_cases k0 : k = 0
        · skip
          have g2 : ¬ (k : Int) > 0 := by omega
          have : lo = [] := List.length_eq_zero_iff.1 (by omega)
          subst this
          have : hi = [] := List.length_eq_zero_iff.1 (by omega)
          subst this
          obtain ⟨e4, e5, -⟩ := hF.first
          subst e4; subst e5
          have ec : cell w (some (q1', q2')) (prevOf [] []) = ⟨a1, a1 + mx 0 (mx (a1 + (h1' - a1)) q2' - a1), wC⟩ := cell10 ha0 hwA hb0 hwB ht0 hwC ha1 (by rw [hh1])
          rw [ec] at hRg
          have m6 := mx_or (a1 + (h1' - a1)) q2'
          obtain ⟨h3', hh3⟩ : ∃ x, mx (a1 + (h1' - a1)) q2' = x := ⟨_, rfl⟩
          rw [hh3] at hRg m6
          have m1 := mx_or 0 (h3' - a1)
          have x9 : IntKind.i64.wrap (a1 + (h1' - a1)) = a1 + (h1' - a1) := w64 (by omega)
          have x10 : IntKind.i64.wrap (h3' - a1) = h3' - a1 := w64 (by omega)
          have x11 : IntKind.i64.wrap (a1 + mx 0 (h3' - a1)) = a1 + mx 0 (h3' - a1) := w64 (by omega)
          simp only [go_sem, fT, j2, c3, List.length_map]
          refine cD u1 ?_ (hj := f0) (hk := by omega)
          simp only [go_sem]
          refine cD u2 ?_ (hj := hset _) (hk := by rw [hlen]; omega)
          simp only [go_sem, g1, g2, List.set_set, e_mx, o1, o2, o3, o4, o5, l5, l6, x5, x6, x7, x8, n5, n6, y5, y6, y7, y8, gva, gub, ha1, hh1, lvs, lus, Int.toNat_natCast]
          refine dD u3 ?_ (hj := hset _) (hd := by simp [go_sem]; exact ⟨tr0, ta0⟩)
          simp only [go_sem, g1, g2, j3, List.set_set, e_mx, o1, o2, o3, o4, o5, l5, l6, x5, x6, x7, x8, n5, n6, y5, y6, y7, y8, gva, gub, ha1, hh1, lvs, lus, Int.toNat_natCast, x9, hh3, x10, x11]
          refine ⟨by decide, by decide, ?_⟩
          exact ihk (k + 1, wC, _, _, _, [a1], [a1 + mx 0 (h3' - a1)]) (by omega) ⟨n, by omega, hRg, by simp; omega, by simp; omega, Bd1.snoc (l := []) (by simp [Bd1]) (by omega), Bd1.snoc (l := []) (by simp [Bd1]) (by omega), ⟨by rw [List.getElem?_append_left (by rw [hlen]; omega)]; exact hset _, by rw [List.getElem?_append_left (by rw [hlen]; omega), List.getElem?_set_ne (by omega)]; exact f1, by rw [List.getElem?_append_left (by rw [hlen]; omega), List.getElem?_set_ne (by omega)]; exact f4⟩, _, _, _, _,
            (hF2 (Dr wC)).first.2.2 _ ((J.set 0 (some (Dr wC))).length + 1) ((J.set 0 (some (Dr wC))).length + 3) (a1) (a1 + mx 0 (h3' - a1)) (by omega) (by omega) (by omega) (fun q _ hq => List.getElem?_append_left hq) (by rw [get_new rfl]; rfl) (by rw [get_new rfl]; rfl)⟩ _ (by simp [go_sem, fT])
        · skip
          have g2 : (k : Int) > 0 := by omega
          obtain ⟨j, rfl⟩ : ∃ j, k = j + 1 := ⟨k - 1, by omega⟩
          have lo0 : lo ≠ [] := by rintro rfl; simp at hlo
          have hi0 : hi ≠ [] := by rintro rfl; simp at hhi
          obtain ⟨r, s, e4, e5, hrs, hr, hs, g4, g5, -⟩ := hF.next lo0 hi0
          have r0 : r ≠ 0 := by rintro rfl; exact hr (by simp [oF])
          have s0 : s ≠ 0 := by rintro rfl; exact hs (by simp [oF])
          have l1 := get_at (l := lo) (i := j) (by omega)
          have l2 := get_at (l := hi) (i := j) (by omega)
          have l3 := blo.at1 (i := j) (by omega)
          have l4 := bhi.at1 (i := j) (by omega)
          have ep : prevOf lo hi = some (at1 lo j, at1 hi j) := by unfold prevOf; rw [if_neg (by omega), hlo, Nat.add_sub_cancel]
          rw [ep] at hRg
          obtain ⟨p1, hp1⟩ : ∃ x, at1 lo j = x := ⟨_, rfl⟩
          obtain ⟨p2, hp2⟩ : ∃ x, at1 hi j = x := ⟨_, rfl⟩
          rw [hp1] at l1 l3 hRg
          rw [hp2] at l2 l4 hRg
          obtain ⟨a2, ha2⟩ : ∃ x, mx a1 p1 = x := ⟨_, rfl⟩
          have m1 := mx_or a1 p1
          rw [ha2] at m1
          obtain ⟨h2', hh2⟩ : ∃ x, mx (a2 + (h1' - a1)) p2 = x := ⟨_, rfl⟩
          have m2 := mx_or (a2 + (h1' - a1)) p2
          rw [hh2] at m2
          rw [cell11 ha0 hwA hb0 hwB ht0 hwC ha1 (by rw [hh1]) ha2 (by rw [hh2])] at hRg
          obtain ⟨h3', hh3⟩ : ∃ x, mx (a2 + (h2' - a2)) q2' = x := ⟨_, rfl⟩
          have m6 := mx_or (a2 + (h2' - a2)) q2'
          rw [hh3] at hRg m6
          have m3 := mx_or 0 (h3' - a2)
          have x1 : IntKind.i64.wrap (a2 + (h1' - a1)) = a2 + (h1' - a1) := w64 (by omega)
          have x2 : IntKind.i64.wrap (h2' - a2) = h2' - a2 := w64 (by omega)
          have x9 : IntKind.i64.wrap (a2 + (h2' - a2)) = a2 + (h2' - a2) := w64 (by omega)
          have x10 : IntKind.i64.wrap (h3' - a2) = h3' - a2 := w64 (by omega)
          have x3 : IntKind.i64.wrap (a2 + mx 0 (h3' - a2)) = a2 + mx 0 (h3' - a2) := w64 (by omega)
          have x4 : IntKind.i64.wrap (((j + 1 : Nat) : Int) - 1) = j := by rw [w64 (by omega)]; omega
          have n4 : ¬ (j : Int) < 0 := by omega
          have d1 := off g4 r0
          have d2 := off g5 s0
          have y1 : (j : Int) < lo.length := by omega
          have y2 : (j : Int) < hi.length := by omega
          have y3 : (lo.length + 1) * 8 ≤ 2 ^ 44 := by omega
          have y4 : (hi.length + 1) * 8 ≤ 2 ^ 44 := by omega
          have hrl := (List.getElem?_eq_some_iff.1 g4).1
          have hsl := (List.getElem?_eq_some_iff.1 g5).1
          have q1 := fun X Y => cells_more (d1 X) Y
          have q2 := fun X Y x => put_more (H := J.set 0 X) (j := r) (by rw [List.length_set]; exact hrl) Y x
          have q3 := fun X x Y => cells_more (H := (J.set 0 X).set r x) (j := s) (cells_at (by rw [List.getElem?_set_ne hrs, List.getElem?_set_ne (fun e => s0 e.symm)]; exact g5)) Y
          have q4 := fun X z Y x => put_more (H := (J.set 0 X).set r z) (j := s) (by simpa using hsl) Y x
          obtain ⟨r', s', e4', e5', -, -, -, -, -, hnn⟩ := (hF2 (Dr wC)).next lo0 hi0
          subst e4; subst e5
          obtain rfl : r = r' := by simpa using e4'
          obtain rfl : s = s' := by simpa using e5'
          simp only [go_sem, fT, j2, c3, List.length_map]
          refine cD u1 ?_ (hj := f0) (hk := by omega)
          simp only [go_sem]
          refine cD u2 ?_ (hj := hset _) (hk := by rw [hlen]; omega)
          simp only [go_sem, g1, g2, List.set_set, e_mx, o1, o2, o3, o4, o5, l5, l6, x5, x6, x7, x8, n5, n6, y5, y6, y7, y8, gva, gub, ha1, hh1, lvs, lus, Int.toNat_natCast]
          refine dD u3 ?_ (hj := hset _) (hd := by simp [go_sem]; exact ⟨tr0, ta0⟩)
          simp only [go_sem, g1, g2, j3, List.set_set, e_mx, o1, o2, o3, o4, o5, l5, l6, x5, x6, x7, x8, n5, n6, y5, y6, y7, y8, gva, gub, ha1, hh1, lvs, lus, Int.toNat_natCast, d1, d2, l1, l2, x4, n4, ha2, hh2, hh3, x1, x2, x3, x9, x10, y1, y2, y3, y4, q1, q2, q3, q4]
          have hrl' : r < (J.set 0 (some (Dr wC))).length := by rw [hlen]; exact hrl
          have hsl' : s < (J.set 0 (some (Dr wC))).length := by rw [hlen]; exact hsl
          have nF : ∀ q, oF q → q ≠ r ∧ q ≠ s := fun q hq => ⟨fun e => hr (by rw [← e]; exact hq), fun e => hs (by rw [← e]; exact hq)⟩
          exact ihk (j + 1 + 1, wC, _, _, _, lo ++ [a2], hi ++ [a2 + mx 0 (h3' - a2)]) (by omega) ⟨n, by omega, hRg, by simp; omega, by simp; omega, blo.snoc (by omega), bhi.snoc (by omega), ⟨by rw [two_off (by rw [hlen]; omega) (nF 0 (by simp [oF])).1 (nF 0 (by simp [oF])).2]; exact hset _, by rw [two_off (by rw [hlen]; omega) (nF 1 (by simp [oF])).1 (nF 1 (by simp [oF])).2, List.getElem?_set_ne (by omega)]; exact f1, by rw [two_off (by rw [hlen]; omega) (nF 4 (by simp [oF])).1 (nF 4 (by simp [oF])).2, List.getElem?_set_ne (by omega)]; exact f4⟩, _, _, _, _,
            hnn _ (a2) (a2 + mx 0 (h3' - a2)) (fun q _ hl a b => two_off hl a b) (two_r hrl' hrs) (two_s hsl') (fun a ha => by have := hF.len a ha; simp; omega)⟩ _ (by simp [go_sem, fT])
    · have j2 : ¬ (k : Int) < pL.length := by omega
      obtain rfl : n = 0 := by omega
      simp only [rowGo] at hRg
      subst hRg
      simp only at hG
      have kp : k = pL.length := by omega
      have lo0 : lo ≠ [] := by rintro rfl; simp at hlo; exact p0 (List.length_eq_zero_iff.1 (by omega))
      have hi0 : hi ≠ [] := by rintro rfl; simp at hhi; exact p0 (List.length_eq_zero_iff.1 (by omega))
      clear ihk
      have bL' : ∀ r ∈ L ++ [lo], r.length = pL.length ∧ Bd1 (100 * ((i + 1 : Nat) : Int)) r := fun r hr => by
        rcases List.mem_append.1 hr with hr | hr
        · exact ⟨(bL r hr).1, fun x hx => by have := (bL r hr).2 x hx; omega⟩
        · obtain rfl : r = lo := by simpa using hr
          exact ⟨by omega, fun x hx => by have := blo x hx; omega⟩
      have bU' : ∀ r ∈ U ++ [hi], r.length = pL.length ∧ Bd1 (1000 * ((i + 1 : Nat) : Int)) r := fun r hr => by
        rcases List.mem_append.1 hr with hr | hr
        · exact ⟨(bU r hr).1, fun x hx => by have := (bU r hr).2 x hx; omega⟩
        · obtain rfl : r = hi := by simpa using hr
          exact ⟨by omega, fun x hx => by have := bhi x hx; omega⟩
      obtain ⟨r4, e4, -, -⟩ := ls_get hF.d4 lo0
      obtain ⟨r5, e5, -, -⟩ := ls_get hF.d5 hi0
      subst e4; subst e5
      have c4 := cells_at f4
      have z0 := hF.len 4 (by simp [oF])
      have hlt4 := (List.getElem?_eq_some_iff.1 f4).1
      have q1 := fun Y => cells_more c4 Y
      subst ev0; subst ev1
      by_cases i0 : i = 0
      · have : L = [] := List.length_eq_zero_iff.1 (by omega)
        subst this
        have : U = [] := List.length_eq_zero_iff.1 (by omega)
        subst this
        obtain ⟨e2, e3, hn⟩ := hF.row1 lo0 hi0
        subst e2; subst e3
        have q2 := fun Y x => put_more (H := J) hlt4 Y x
        have q3 := fun g sz es Y => cells_more (H := J.set 4 (some (Row.cells g sz es))) (j := 4) (cells_at (List.getElem?_set_self hlt4)) Y
        have q4 := fun z Y x => put_more (H := J.set 4 z) (j := 4) (by simpa using hlt4) Y x
        simp only [go_sem, fT, j2, c3, List.length_map, c4, h3, q1, q2, q3, q4, List.set_set]
        refine ⟨by simp; omega, by decide, by simp; omega, by simp; omega, by simp; omega, by decide, by simp; omega, ?_⟩
        have off : ∀ (A : Option Row) (Y : Heap) (q : Nat), q < J.length → q ≠ 4 → (J.set 4 A ++ Y)[q]? = J[q]? := fun A Y q hq hn => by rw [List.getElem?_append_left (by simpa using hq), List.getElem?_set_ne (fun e => hn e.symm)]
        have at4 : ∀ (A : Option Row) (Y : Heap), (J.set 4 A ++ Y)[4]? = some A := fun A Y => by rw [List.getElem?_append_left (by simpa using hlt4), List.getElem?_set_self hlt4]
        exact ih (i + 1, w, _, _, _, _, _, [lo], [hi]) (by omega) ⟨m, by omega, hG, by simp; omega, by simp; omega, bL', bU', ⟨by rw [off _ _ 0 (by omega) (by omega)]; exact f0, by rw [off _ _ 1 (by omega) (by omega)]; exact f1, at4 _ _⟩, _, _, _, _, hn _ (J.length + 1) (J.length + 3) (by omega) (by omega) (by omega) (fun q hnF hq => off _ _ q hq (by rintro rfl; exact hnF (by simp [oF]))) (by rw [get_new (by simp)]; rfl) (by rw [get_new (by simp)]; rfl)⟩ _ (by simp [go_sem, fT])
      · have L0 : L ≠ [] := by rintro rfl; simp at hL; omega
        have U0 : U ≠ [] := by rintro rfl; simp at hU; omega
        obtain ⟨r, s, vs, us, κ2', κ3', e2, e3, hrs, hr, hs, g2, g3, l2, l3, hn⟩ := hF.rows L0 U0 lo0 hi0
        subst e2; subst e3
        have hrl := (List.getElem?_eq_some_iff.1 g2).1
        have hsl := (List.getElem?_eq_some_iff.1 g3).1
        have r4' : r ≠ 4 := by rintro rfl; exact hr (by simp [oF])
        have s4' : s ≠ 4 := by rintro rfl; exact hs (by simp [oF])
        have z1 : (L.length + 1) * 24 ≤ 2 ^ 44 := by omega
        have z2 : (U.length + 1) * 24 ≤ 2 ^ 44 := by omega
        have a1 := fun Y => cells_more (cells_at g2) Y
        have a2 := fun Y x => put_more (H := J) hrl Y x
        have a3 := fun x Y => cells_more (H := J.set r x) (j := 4) (cells_at (by rw [List.getElem?_set_ne r4']; exact f4)) Y
        have a4 := fun x Y => cells_more (H := J.set r x) (j := s) (cells_at (by rw [List.getElem?_set_ne hrs]; exact g3)) Y
        have a5 := fun z Y x => put_more (H := J.set r z) (j := s) (by simpa using hsl) Y x
        have a6 := fun x y Y => cells_more (H := (J.set r x).set s y) (j := 4) (cells_at (by rw [List.getElem?_set_ne s4', List.getElem?_set_ne r4']; exact f4)) Y
        have a7 := fun z y Y x => put_more (H := (J.set r z).set s y) (j := 4) (by simpa using hlt4) Y x
        have a8 := fun x y g sz es Y => cells_more (H := ((J.set r x).set s y).set 4 (some (Row.cells g sz es))) (j := 4) (cells_at (List.getElem?_set_self (by simpa using hlt4))) Y
        have a9 := fun z y w Y x => put_more (H := ((J.set r z).set s y).set 4 w) (j := 4) (by simpa using hlt4) Y x
        simp only [go_sem, fT, j2, c3, List.length_map, c4, h3, q1, a1, a2, a3, a4, a5, a6, a7, a8, a9, List.set_set, z1, z2, l2, l3]
        refine ⟨by simp; omega, by simp; omega, by simp; omega, by simp; omega, by simp; omega, ?_⟩
        have off : ∀ (A B C : Option Row) (Y : Heap) (q : Nat), q < J.length → q ≠ r → q ≠ s → q ≠ 4 → (((J.set r A).set s B).set 4 C ++ Y)[q]? = J[q]? := fun A B C Y q hq n1 n2 n3 => by
          rw [List.getElem?_append_left (by simpa using hq), List.getElem?_set_ne (fun e => n3 e.symm), List.getElem?_set_ne (fun e => n2 e.symm), List.getElem?_set_ne (fun e => n1 e.symm)]
        have at4 : ∀ (A B C : Option Row) (Y : Heap), (((J.set r A).set s B).set 4 C ++ Y)[4]? = some C := fun A B C Y => by rw [List.getElem?_append_left (by simpa using hlt4), List.getElem?_set_self (by simpa using hlt4)]
        have atr : ∀ (A B C : Option Row) (Y : Heap), (((J.set r A).set s B).set 4 C ++ Y)[r]? = some A := fun A B C Y => by
          rw [List.getElem?_append_left (by simpa using hrl), List.getElem?_set_ne (fun e => r4' e.symm), List.getElem?_set_ne (fun e => hrs e.symm), List.getElem?_set_self hrl]
        have ats : ∀ (A B C : Option Row) (Y : Heap), (((J.set r A).set s B).set 4 C ++ Y)[s]? = some B := fun A B C Y => by
          rw [List.getElem?_append_left (by simpa using hsl), List.getElem?_set_ne (fun e => s4' e.symm), List.getElem?_set_self (by simpa using hsl)]
        have nr : ∀ q, oF q → q ≠ r := fun q hq e => hr (by rw [← e]; exact hq)
        have ns : ∀ q, oF q → q ≠ s := fun q hq e => hs (by rw [← e]; exact hq)
        exact ih (i + 1, w, _, _, _, _, _, L ++ [lo], U ++ [hi]) (by omega) ⟨m, by omega, hG, by simp; omega, by simp; omega, bL', bU', ⟨by rw [off _ _ _ _ 0 (by omega) (nr 0 (by simp [oF])) (ns 0 (by simp [oF])) (by omega)]; exact f0, by rw [off _ _ _ _ 1 (by omega) (nr 1 (by simp [oF])) (ns 1 (by simp [oF])) (by omega)]; exact f1, at4 _ _ _ _⟩, _, _, _, _,
          hn _ (fun q hnF hq n1 n2 => off _ _ _ _ q hq n1 n2 (by rintro rfl; exact hnF (by simp [oF]))) (atr _ _ _ _) (ats _ _ _ _) (fun a ha => by have := hF.len a ha; simp; omega)⟩ _ (by simp [go_sem, fT])
  · have h2 : ¬ (i : Int) < gL.length := by omega
    obtain rfl : m = 0 := by omega
    simp only [tabGo] at hG
    subst hG
    have L0 : L ≠ [] := by rintro rfl; simp at hL; exact g0 (List.length_eq_zero_iff.1 (by omega))
    have U0 : U ≠ [] := by rintro rfl; simp at hU; exact g0 (List.length_eq_zero_iff.1 (by omega))
    obtain ⟨ι, hD, hnd, hge⟩ := hF.all L0 U0
    obtain ⟨ev0, ev1, f2, f3⟩ := hF.g2
    obtain ⟨b2, _, _, e2, -, -, -⟩ := tb_get hF.d2 L0
    obtain ⟨b3, _, _, e3, -, -, -⟩ := tb_get hF.d3 U0
    subst ev0; subst ev1; subst e2; subst e3
    have c2 := cells_at f2
    have c4 := cells_at f4
    have c1 := cells_at f1
    have hlt1 := (List.getElem?_eq_some_iff.1 f1).1
    have q1 := fun x => put_lt (H := J) (x := x) hlt1
    have q2 := fun g sz es => cells_at (H := J.set 1 (some (Row.cells g sz es))) (j := 1) (List.getElem?_set_self hlt1)
    simp only [go_sem, fT, h2, c2, List.length_map, c4, c1, q1, q2]
    exact ⟨ι, hD.set _ (fun h => hge 1 h (by simp [oF])), hnd, fun h => hge 0 h (by simp [oF]), by rw [List.getElem?_set_ne (by omega)]; exact f0⟩
end Go.Proofs

namespace Go.Proofs
open Go Go.Sx Go.Fam
attribute [local irreducible] Run

theorem tabGo_ok (n : Nat) : ∀ (m : Nat) (w : Int) (L H : List (List Int)), (∀ r ∈ L, r.length = n) → (∀ r ∈ H, r.length = n) → (tabGo n m w L H).lo.length = L.length + m ∧ (tabGo n m w L H).hi.length = H.length + m ∧ (∀ r ∈ (tabGo n m w L H).lo, r.length = n) ∧ ∀ r ∈ (tabGo n m w L H).hi, r.length = n
  | 0, w, L, H, h1, h2 => ⟨rfl, rfl, h1, h2⟩
  | m + 1, w, L, H, h1, h2 => by
    have hr := rowGo_len (lastOf L H) n w [] []
    obtain ⟨a, b, c, d⟩ := tabGo_ok n m (rowGo (lastOf L H) n w [] []).w (L ++ [(rowGo (lastOf L H) n w [] []).lo]) (H ++ [(rowGo (lastOf L H) n w [] []).hi]) (fun r hr' => by
      rcases List.mem_append.1 hr' with h | h
      · exact h1 r h
      · obtain rfl : r = _ := by simpa using h
        simpa using hr.1) (fun r hr' => by
      rcases List.mem_append.1 hr' with h | h
      · exact h2 r h
      · obtain rfl : r = _ := by simpa using h
        simpa using hr.2)
    simp only [List.length_append, List.length_singleton] at a b
    exact ⟨by simp only [tabGo]; omega, by simp only [tabGo]; omega, c, d⟩
theorem famOf_fn (w : Int) : Go.Sx.Fn Try.prog n_kit_FamilyOf [.ptr 0 0 0 1] [some (Dr w)] fun v H' => ∃ ι, Dat 6 H' ι v (Fv (famOf w)) ∧ ι.Nodup ∧ 0 ∉ ι ∧ H'[0]? = some (some (Dr (famEnd w))) := by
  have k1 := Lines_run w (-9000) 3000 5 (by omega) (by omega)
  have k2 := Lines_run (famW1 w) 0 300000 5 (by omega) (by omega)
  have k3 := one_ok (famW2 w) 2 (by omega)
  unfold famOf famEnd
  by_cases c1 : upto (famW2 w) 2 = 0
  · rw [if_pos c1, if_pos c1]
    have b1 : (upto (famW2 w) 2 == 0) = true := by simp [c1]
    exact famOf_law (w1 := famW1 w) (w2 := famW2 w) (gL := famG w) (pL := famP w) k1 k2 (famG_asc w).1 (famP_asc w).1 (famG_ne w) (famP_ne w) b1 k3 (lawof_ok _) (lawOf_in _)
  · have b1 : (upto (famW2 w) 2 == 0) = false := beq_eq_false_iff_ne.2 c1
    rw [if_neg c1, if_neg c1]
    exact famOf_any (w1 := famW1 w) (w2 := famW2 w) (gL := famG w) (pL := famP w) k1 k2 (famG_asc w).2 (famP_asc w).2 (famG_ne w) (famP_ne w) b1 k3 (T := famT w) rfl
theorem ne_of_len {α : Type} {l : List α} {n : Nat} (h : l.length = n) (hn : 0 < n) : l ≠ [] := by rintro rfl; simp at h; omega
structure FaNE (f : Fa) : Prop where
  g : f.g ≠ [] ∧ f.g.length ≤ 5
  p : f.p ≠ [] ∧ f.p.length ≤ 5
  lo : f.lo.length = f.g.length ∧ ∀ r ∈ f.lo, r.length = f.p.length
  hi : f.hi.length = f.g.length ∧ ∀ r ∈ f.hi, r.length = f.p.length
theorem ofF_ne (l : Lw) {g p : List Int} (hg : g ≠ [] ∧ g.length ≤ 5) (hp : p ≠ [] ∧ p.length ≤ 5) : FaNE (ofF l g p) := by
  have ht : ∀ f, (ofT f l g p).length = g.length ∧ ∀ r ∈ ofT f l g p, r.length = p.length := fun f => ⟨by simp [ofT], fun r hr => by
    obtain ⟨x, _, rfl⟩ := List.mem_map.1 hr; simp⟩
  exact ⟨hg, hp, ht _, ht _⟩
theorem tab_ne {g p : List Int} {w : Int} {T : TabR} (hT : tabGo p.length g.length w [] [] = T) (hg : g ≠ [] ∧ g.length ≤ 5) (hp : p ≠ [] ∧ p.length ≤ 5) : FaNE ⟨g, p, T.lo, T.hi⟩ := by
  have hk := tabGo_ok p.length g.length w [] [] (by simp) (by simp)
  rw [hT] at hk
  obtain ⟨a, b, c, d⟩ := hk
  exact ⟨hg, hp, ⟨by simpa using a, c⟩, ⟨by simpa using b, d⟩⟩
theorem famOf_ne (w : Int) : FaNE (famOf w) := by
  have hg := famG_ne w
  have hp := famP_ne w
  have hg5 := (famG_asc w).2
  have hp5 := (famP_asc w).2
  unfold famOf
  by_cases c1 : upto (famW2 w) 2 = 0
  · rw [if_pos c1]; exact ofF_ne _ ⟨hg, hg5⟩ ⟨hp, hp5⟩
  · rw [if_neg c1]; exact tab_ne (T := famT w) rfl ⟨hg, hg5⟩ ⟨hp, hp5⟩
theorem FaNE.pure {f : Fa} (h : FaNE f) : Pure 6 (Fv f) := by
  have g0 : 0 < f.g.length := List.length_pos_iff.2 h.g.1
  have p0 : 0 < f.p.length := List.length_pos_iff.2 h.p.1
  exact fv_pure h.g.1 h.p.1 (ne_of_len h.lo.1 g0) (ne_of_len h.hi.1 g0) (fun r hr => ne_of_len (h.lo.2 r hr) p0) (fun r hr => ne_of_len (h.hi.2 r hr) p0)
theorem FamilyOf_run (w : Int) : Ans Try.prog n_kit_FamilyOf [.ptr 0 0 0 1] [some (Dr w)] (thaw 6 1 (Fv (famOf w))).1 (some (Dr (famEnd w)) :: (thaw 6 1 (Fv (famOf w))).2) := ans_dat (famOf_ne w).pure (dr_bel _ _) (famOf_fn w)
end Go.Proofs

namespace Go.Proofs
open Go Go.Sx Go.Fam

end Go.Proofs

namespace Go.Proofs
open Go Go.Sx Go.Fam
attribute [local irreducible] Run

end Go.Proofs

namespace Go.Proofs
open Go Go.Sx Go.Fam
attribute [local irreducible] Run

end Go.Proofs

namespace Go.Proofs
open Go Go.Sx Go.Fam
attribute [local irreducible] Run

end Go.Proofs

namespace Go.Proofs
open Go Go.Sx Go.Fam
attribute [local irreducible] Run

def inV (g p : Int) : Prop := (-1000000 ≤ g ∧ g ≤ 1000000) ∧ 0 ≤ p ∧ p ≤ 1000000
instance (g p : Int) : Decidable (inV g p) := by unfold inV; infer_instance
end Go.Proofs

namespace Go.Proofs
open Go Go.Sx Go.Fam
attribute [local irreducible] Run

def cellOK (l : List Int) (c : Int) : Prop := 0 ≤ c ∧ c ≤ (l.length : Int) - 2
instance (l : List Int) (c : Int) : Decidable (cellOK l c) := by unfold cellOK; infer_instance
end Go.Proofs

namespace Go.Proofs
open Go Go.Sx Go.Fam
attribute [local irreducible] Run

def hl (a b : Rg) : Rg := ⟨if b.lo < a.lo then b.lo else a.lo, if b.hi > a.hi then b.hi else a.hi⟩
end Go.Proofs

namespace Go.Proofs
open Go Go.Sx Go.Fam

structure InF (t f : Fa) : Prop where
  g : t.g = f.g
  p : t.p = f.p
  inn : ∀ i k, i < f.g.length → k < f.p.length → tg f.lo i k ≤ tg t.lo i k ∧ tg t.hi i k ≤ tg f.hi i k
end Go.Proofs

namespace Go.Proofs
open Go Go.Sx Go.Fam

abbrev CellF := Nat → Nat → Int → Option (Int × Int) → Option (Int × Int) → Cell
def gRow (c : Nat → Int → Option (Int × Int) → Option (Int × Int) → Cell) (U : Option (List Int × List Int)) : Nat → Int → List Int → List Int → RowR
  | 0, w, lo, hi => ⟨lo, hi, w⟩
  | m + 1, w, lo, hi => gRow c U m (c lo.length w (upOf U lo.length) (prevOf lo hi)).w (lo ++ [(c lo.length w (upOf U lo.length) (prevOf lo hi)).lo]) (hi ++ [(c lo.length w (upOf U lo.length) (prevOf lo hi)).hi])
def gTab (c : CellF) (n : Nat) : Nat → Int → List (List Int) → List (List Int) → TabR
  | 0, w, L, H => ⟨L, H, w⟩
  | m + 1, w, L, H => gTab c n m (gRow (c L.length) (lastOf L H) n w [] []).w (L ++ [(gRow (c L.length) (lastOf L H) n w [] []).lo]) (H ++ [(gRow (c L.length) (lastOf L H) n w [] []).hi])
theorem rowGo_g (U : Option (List Int × List Int)) : ∀ (m : Nat) (w : Int) (lo hi : List Int), rowGo U m w lo hi = gRow (fun _ => cell) U m w lo hi
  | 0, _, _, _ => rfl
  | m + 1, w, lo, hi => by simp only [rowGo, gRow]; exact rowGo_g U m _ _ _
theorem tabGo_g (n : Nat) : ∀ (m : Nat) (w : Int) (L H : List (List Int)), tabGo n m w L H = gTab (fun _ _ => cell) n m w L H
  | 0, _, _, _ => rfl
  | m + 1, w, L, H => by simp only [tabGo, gTab, rowGo_g]; exact tabGo_g n m _ _ _

def Nx (q x : Int × Int) : Prop := q.1 ≤ x.1 ∧ q.2 ≤ x.2
structure CellOK (c : CellF) (M N : Nat) (E : Nat → Nat → Int × Int → Prop) : Prop where
  ok : ∀ i k w u l, i < M → k < N → (∀ q, u = some q → ∃ j, i = j + 1 ∧ E j k q) → (∀ q, l = some q → ∃ j, k = j + 1 ∧ E i j q) →
    E i k ((c i k w u l).lo, (c i k w u l).hi) ∧ (∀ q, u = some q → Nx q ((c i k w u l).lo, (c i k w u l).hi)) ∧ ∀ q, l = some q → Nx q ((c i k w u l).lo, (c i k w u l).hi)
structure RowI (E : Nat → Nat → Int × Int → Prop) (i : Nat) (U : Option (List Int × List Int)) (lo hi : List Int) : Prop where
  len : hi.length = lo.length
  e : ∀ j, j < lo.length → E i j (at1 lo j, at1 hi j)
  u : ∀ j q, j < lo.length → upOf U j = some q → Nx q (at1 lo j, at1 hi j)
  r : ∀ j, j + 1 < lo.length → Nx (at1 lo j, at1 hi j) (at1 lo (j + 1), at1 hi (j + 1))
theorem at1_lt {l : List Int} {x : Int} {j : Nat} (h : j < l.length) : at1 (l ++ [x]) j = at1 l j := by
  unfold at1; rw [List.getD_eq_getElem?_getD, List.getD_eq_getElem?_getD, List.getElem?_append_left h]
theorem at1_last {l : List Int} {x : Int} {j : Nat} (h : j = l.length) : at1 (l ++ [x]) j = x := by
  unfold at1; rw [List.getD_eq_getElem?_getD, h, List.getElem?_append_right (Nat.le_refl _)]; simp
theorem RowI.snoc {E : Nat → Nat → Int × Int → Prop} {i : Nat} {U : Option (List Int × List Int)} {lo hi : List Int} {x y : Int} (h : RowI E i U lo hi) (he : E i lo.length (x, y)) (hu : ∀ q, upOf U lo.length = some q → Nx q (x, y)) (hl : ∀ q, prevOf lo hi = some q → Nx q (x, y)) : RowI E i U (lo ++ [x]) (hi ++ [y]) := by
  have hn := h.len
  have lt : ∀ {j}, j < lo.length → at1 (lo ++ [x]) j = at1 lo j ∧ at1 (hi ++ [y]) j = at1 hi j := fun hj => ⟨at1_lt hj, at1_lt (by omega)⟩
  have la : ∀ {j}, j = lo.length → at1 (lo ++ [x]) j = x ∧ at1 (hi ++ [y]) j = y := fun hj => ⟨at1_last hj, at1_last (by omega)⟩
  refine ⟨by simp [hn], fun j hj => ?_, fun j q hj hq => ?_, fun j hj => ?_⟩ <;> simp only [List.length_append, List.length_singleton] at hj
  · by_cases c : j < lo.length
    · rw [(lt c).1, (lt c).2]; exact h.e j c
    · obtain rfl : j = lo.length := by omega
      rw [(la rfl).1, (la rfl).2]; exact he
  · by_cases c : j < lo.length
    · rw [(lt c).1, (lt c).2]; exact h.u j q c hq
    · obtain rfl : j = lo.length := by omega
      rw [(la rfl).1, (la rfl).2]; exact hu q hq
  · by_cases c : j + 1 < lo.length
    · rw [(lt c).1, (lt c).2, (lt (j := j) (by omega)).1, (lt (j := j) (by omega)).2]; exact h.r j c
    · have c' : j + 1 = lo.length := by omega
      rw [(la c').1, (la c').2, (lt (j := j) (by omega)).1, (lt (j := j) (by omega)).2]
      refine hl _ ?_
      unfold prevOf
      rw [if_neg (by omega), ← c', Nat.add_sub_cancel]
theorem gRow_ok {c : CellF} {M N i : Nat} {E : Nat → Nat → Int × Int → Prop} {U : Option (List Int × List Int)} (hc : CellOK c M N E) (hi' : i < M) (hU : ∀ j q, j < N → upOf U j = some q → ∃ i', i = i' + 1 ∧ E i' j q) : ∀ (m : Nat) (w : Int) (lo hi : List Int), RowI E i U lo hi → lo.length + m = N →
    RowI E i U (gRow (c i) U m w lo hi).lo (gRow (c i) U m w lo hi).hi ∧ (gRow (c i) U m w lo hi).lo.length = N
  | 0, w, lo, hi, h, hn => ⟨h, by simpa [gRow] using hn⟩
  | m + 1, w, lo, hi, h, hn => by
    simp only [gRow]
    have hk := hc.ok i lo.length w (upOf U lo.length) (prevOf lo hi) hi' (by omega) (fun q hq => hU _ q (by omega) hq) (fun q hq => by
      unfold prevOf at hq
      split at hq
      · cases hq
      · cases hq
        exact ⟨lo.length - 1, by omega, h.e _ (by omega)⟩)
    exact gRow_ok hc hi' hU m _ _ _ (h.snoc hk.1 hk.2.1 hk.2.2) (by simp; omega)
structure TabI (E : Nat → Nat → Int × Int → Prop) (N : Nat) (L H : List (List Int)) : Prop where
  len : H.length = L.length
  l : ∀ r ∈ L, r.length = N
  h : ∀ r ∈ H, r.length = N
  e : ∀ i k, i < L.length → k < N → E i k (tg L i k, tg H i k)
  r : ∀ i k, i < L.length → k + 1 < N → Nx (tg L i k, tg H i k) (tg L i (k + 1), tg H i (k + 1))
  u : ∀ i k, i + 1 < L.length → k < N → Nx (tg L i k, tg H i k) (tg L (i + 1) k, tg H (i + 1) k)
theorem tg_lt {t : List (List Int)} {r : List Int} {i k : Nat} (h : i < t.length) : tg (t ++ [r]) i k = tg t i k := by
  unfold tg; rw [List.getD_eq_getElem?_getD (l := t ++ [r]), List.getElem?_append_left h, ← List.getD_eq_getElem?_getD]
theorem tg_last {t : List (List Int)} {r : List Int} {i k : Nat} (h : i = t.length) : tg (t ++ [r]) i k = at1 r k := by
  unfold tg at1; rw [List.getD_eq_getElem?_getD (l := t ++ [r]), h, List.getElem?_append_right (Nat.le_refl _)]; simp
theorem TabI.snoc {E : Nat → Nat → Int × Int → Prop} {N : Nat} {L H : List (List Int)} {lo hi : List Int} (h : TabI E N L H) (hr : RowI E L.length (lastOf L H) lo hi) (hn : lo.length = N) : TabI E N (L ++ [lo]) (H ++ [hi]) := by
  have hl := h.len
  have lt : ∀ {i k}, i < L.length → tg (L ++ [lo]) i k = tg L i k ∧ tg (H ++ [hi]) i k = tg H i k := fun hi => ⟨tg_lt hi, tg_lt (by omega)⟩
  have la : ∀ {i k}, i = L.length → tg (L ++ [lo]) i k = at1 lo k ∧ tg (H ++ [hi]) i k = at1 hi k := fun hi => ⟨tg_last hi, tg_last (by omega)⟩
  have hh := hr.len
  refine ⟨by simp [hl], fun r hr => ?_, fun r hr => ?_, fun i k h1 h2 => ?_, fun i k h1 h2 => ?_, fun i k h1 h2 => ?_⟩
  · rcases List.mem_append.1 hr with h' | h'
    · exact h.l r h'
    · obtain rfl : r = lo := by simpa using h'
      exact hn
  · rcases List.mem_append.1 hr with h' | h'
    · exact h.h r h'
    · obtain rfl : r = hi := by simpa using h'
      omega
  all_goals simp only [List.length_append, List.length_singleton] at h1
  · by_cases c : i < L.length
    · rw [(lt c).1, (lt c).2]; exact h.e i k c h2
    · have c' : i = L.length := by omega
      rw [(la c').1, (la c').2, c']; exact hr.e k (by omega)
  · by_cases c : i < L.length
    · rw [(lt c).1, (lt c).2, (lt c).1, (lt c).2]; exact h.r i k c h2
    · have c' : i = L.length := by omega
      rw [(la c').1, (la c').2, (la c').1, (la c').2]; exact hr.r k (by omega)
  · by_cases c : i + 1 < L.length
    · rw [(lt c).1, (lt c).2, (lt (by omega)).1, (lt (by omega)).2]; exact h.u i k c h2
    · have c' : i + 1 = L.length := by omega
      rw [(la c').1, (la c').2, (lt (by omega)).1, (lt (by omega)).2]
      refine hr.u k _ (by omega) ?_
      unfold lastOf upOf
      rw [if_neg (by omega), ← c', Nat.add_sub_cancel]; rfl
theorem gTab_ok {c : CellF} {M N : Nat} {E : Nat → Nat → Int × Int → Prop} (hc : CellOK c M N E) : ∀ (m : Nat) (w : Int) (L H : List (List Int)), TabI E N L H → L.length + m = M →
    TabI E N (gTab c N m w L H).lo (gTab c N m w L H).hi ∧ (gTab c N m w L H).lo.length = M
  | 0, w, L, H, h, hn => ⟨h, by simpa [gTab] using hn⟩
  | m + 1, w, L, H, h, hn => by
    simp only [gTab]
    have hr := gRow_ok (U := lastOf L H) (i := L.length) hc (by omega) (fun j q hj hq => by
      unfold lastOf upOf at hq
      split at hq
      · cases hq
      · cases hq
        exact ⟨L.length - 1, by omega, h.e (L.length - 1) j (by omega) hj⟩) N w [] [] ⟨rfl, by simp, by simp, by simp⟩ (by simp)
    exact gTab_ok hc m _ _ _ (h.snoc hr.1 hr.2) (by simp; omega)
theorem tab0 {E : Nat → Nat → Int × Int → Prop} {N : Nat} : TabI E N [] [] := ⟨rfl, by simp, by simp, by simp, by simp, by simp⟩
theorem TabI.fa {E : Nat → Nat → Int × Int → Prop} {g p : List Int} {L H : List (List Int)} (h : TabI E p.length L H) (hl : L.length = g.length) (hg : Asc (-1000000) g) (hp : Asc 0 p) (hE : ∀ i k q, i < g.length → k < p.length → E i k q → 0 ≤ q.1 ∧ q.1 ≤ q.2 ∧ q.2 ≤ 1000000) : FaOK ⟨g, p, L, H⟩ := by
  have hn := h.len
  exact ⟨hg, hp, hl, by dsimp only; omega, h.l, h.h, fun i k h1 h2 => hE i k _ h1 h2 (h.e i k (by dsimp only at h1; omega) h2), fun i k h1 h2 => h.r i k (by dsimp only at h1; omega) h2, fun i k h1 h2 => h.u i k (by dsimp only at h1; omega) h2⟩

def famE0 (i _k : Nat) (q : Int × Int) : Prop := 0 ≤ q.1 ∧ q.1 ≤ 60 + 20 * (i : Int) ∧ q.1 ≤ q.2 ∧ q.2 ≤ 1000 * ((i : Int) + 1)
theorem cell_ok (M N : Nat) (hM : M ≤ 40) : CellOK (fun _ _ => cell) M N famE0 := by
  refine ⟨fun i k w u l hiM _ hu hl => ?_⟩
  have t1 := upto_in (w := w) (n := 60) (by omega)
  have t2 := upto_in (w := dstep w) (n := 30) (by omega)
  have t3 := upto_in (w := dstep (dstep w)) (n := 20) (by omega)
  try dsimp only
  obtain ⟨a0, h1⟩ : ∃ x, upto w 60 = x := ⟨_, rfl⟩
  obtain ⟨b0, h3⟩ : ∃ x, upto (dstep w) 30 = x := ⟨_, rfl⟩
  obtain ⟨t0, h5⟩ : ∃ x, upto (dstep (dstep w)) 20 = x := ⟨_, rfl⟩
  rw [h1] at t1
  rw [h3] at t2
  rw [h5] at t3
  cases u with
  | none =>
    cases l with
    | none =>
      rw [cell00 h1 rfl h3 rfl]
      have m1 := mx_or 0 b0
      dsimp only [famE0]
      refine ⟨by omega, ?_, ?_⟩ <;> first | trivial | (intro q hq; cases hq; done) | (intro q hq; cases hq; dsimp only; omega) | (simp; done) | (simp; omega)
    | some l =>
      obtain ⟨p1, p2⟩ := l
      obtain ⟨j, rfl, e1⟩ := hl _ rfl
      rw [cell01 h1 rfl h3 rfl]
      dsimp only [famE0, Nx] at e1 ⊢
      have m1 := mx_or a0 p1
      have m2 := mx_or (mx a0 p1 + b0) p2
      have m3 := mx_or 0 (mx (mx a0 p1 + b0) p2 - mx a0 p1)
      refine ⟨by omega, ?_, ?_⟩ <;> first | trivial | (intro q hq; cases hq; done) | (intro q hq; cases hq; dsimp only; omega) | (simp; done) | (simp; omega)
  | some u =>
    obtain ⟨q1, q2⟩ := u
    obtain ⟨j, rfl, e1⟩ := hu _ rfl
    have m4 := mx_or a0 (q1 + t0)
    obtain ⟨a1, h7⟩ : ∃ x, mx a0 (q1 + t0) = x := ⟨_, rfl⟩
    rw [h7] at m4
    have m5 := mx_or (a1 + b0) q2
    obtain ⟨b1, h8⟩ : ∃ x, mx (a1 + b0) q2 - a1 = x := ⟨_, rfl⟩
    cases l with
    | none =>
      rw [cell10 h1 rfl h3 rfl h5 rfl h7 h8]
      dsimp only [famE0, Nx] at e1 ⊢
      have m1 := mx_or (a1 + b1) q2
      have m2 := mx_or 0 (mx (a1 + b1) q2 - a1)
      refine ⟨by omega, ?_, ?_⟩ <;> first | trivial | (intro q hq; cases hq; done) | (intro q hq; cases hq; dsimp only; omega) | (simp; done) | (simp; omega)
    | some l =>
      obtain ⟨p1, p2⟩ := l
      obtain ⟨j', rfl, e2⟩ := hl _ rfl
      rw [cell11 h1 rfl h3 rfl h5 rfl h7 h8 rfl rfl]
      dsimp only [famE0, Nx] at e1 e2 ⊢
      have m1 := mx_or a1 p1
      have m2 := mx_or (mx a1 p1 + b1) p2
      have m3 := mx_or (mx a1 p1 + (mx (mx a1 p1 + b1) p2 - mx a1 p1)) q2
      have m6 := mx_or 0 (mx (mx a1 p1 + (mx (mx a1 p1 + b1) p2 - mx a1 p1)) q2 - mx a1 p1)
      refine ⟨by omega, ?_, ?_⟩ <;> first | trivial | (intro q hq; cases hq; done) | (intro q hq; cases hq; dsimp only; omega) | (simp; done) | (simp; omega)
theorem curOf_in {l : Lw} (h : LwOK l) (g p : Int) : 0 ≤ (curOf l g p).lo ∧ (curOf l g p).hi ≤ 1000000 := by
  have hp := h.part
  have hf := h.full
  have hv := h.perv
  have hd0 := (bnd_in (g + l.shift.lo + (1000 * p) / l.gain.hi)).1
  constructor
  · show 0 ≤ curLo l (driveOf l g p)
    unfold curLo
    refine Int.ediv_nonneg (Int.mul_nonneg hp.1 ?_) (by decide)
    have hs : 0 ≤ spaceLo l (driveOf l g p) := Int.ediv_nonneg (Int.mul_nonneg hv.1 (root_ok (Int.mul_nonneg (Int.mul_nonneg hd0 hd0) hd0)).1) (by decide)
    exact (mn_in hs hf.1).1
  · show curHi l (driveOf l g p) ≤ 1000000
    unfold curHi
    have hm : mn (spaceHi l (driveOf l g p)) l.full.hi ≤ 1000000 := by unfold mn; split <;> omega
    have h1 : l.part.hi * mn (spaceHi l (driveOf l g p)) l.full.hi ≤ 1000000 * 1000000 := by
      by_cases c : 0 ≤ mn (spaceHi l (driveOf l g p)) l.full.hi
      · exact Int.mul_le_mul hp.2.2 hm c (by decide)
      · have := Int.mul_nonpos_of_nonneg_of_nonpos (a := l.part.hi) (b := mn (spaceHi l (driveOf l g p)) l.full.hi) (by omega) (by omega)
        omega
    unfold rup
    omega
theorem ofF_ok {l : Lw} (hl : LwOK l) {g p : List Int} (hg : Asc (-1000000) g) (hp : Asc 0 p) : FaOK (ofF l g p) := by
  have tgE : ∀ (f : Rg → Int) i k, i < g.length → k < p.length → tg (ofT f l g p) i k = f (curOf l (at1 g i) (at1 p k)) := fun f i k h1 h2 => by
    unfold tg ofT at1
    simp only [List.getD_eq_getElem?_getD, List.getElem?_map, List.getElem?_eq_getElem h1, Option.map_some, Option.getD_some, List.getElem?_eq_getElem h2]
  have R := fun i k b (hp' : 0 ≤ at1 p k) (hb : 0 ≤ b) => rises hl (g := at1 g i) (p := at1 p k) (b := b) hp' hb
  have P := fun k (hk : k < p.length) => (hp.inn k hk).1
  refine ⟨hg, hp, by simp [ofF, ofT], by simp [ofF, ofT], ?_, ?_, ?_, ?_, ?_⟩
  · intro r hr
    obtain ⟨x, _, rfl⟩ := List.mem_map.1 hr; simp [ofF]
  · intro r hr
    obtain ⟨x, _, rfl⟩ := List.mem_map.1 hr; simp [ofF]
  · intro i k h1 h2
    have := R i k 0 (P k h2) (Int.le_refl _)
    have d0 := curOf_in hl (at1 g i) (at1 p k)
    show 0 ≤ tg (ofT Rg.lo l g p) i k ∧ tg (ofT Rg.lo l g p) i k ≤ tg (ofT Rg.hi l g p) i k ∧ tg (ofT Rg.hi l g p) i k ≤ 1000000
    rw [tgE _ _ _ h1 h2, tgE _ _ _ h1 h2]
    omega
  · intro i k h1 h2
    have := R i k (at1 p (k + 1) - at1 p k) (P k (by dsimp only [ofF] at h2; omega)) (by have := hp.asc k h2; omega)
    show tg (ofT Rg.lo l g p) i k ≤ tg (ofT Rg.lo l g p) i (k + 1) ∧ tg (ofT Rg.hi l g p) i k ≤ tg (ofT Rg.hi l g p) i (k + 1)
    have h3 : k < p.length := by dsimp only [ofF] at h2; omega
    rw [tgE _ _ _ h1 h2, tgE _ _ _ h1 h2, tgE _ _ _ h1 h3, tgE _ _ _ h1 h3]
    rw [show at1 p k + (at1 p (k + 1) - at1 p k) = at1 p (k + 1) by omega] at this
    omega
  · intro i k h1 h2
    have := rises hl (g := at1 g i) (p := at1 p k) (b := at1 g (i + 1) - at1 g i) (P k h2) (by have := hg.asc i h1; omega)
    show tg (ofT Rg.lo l g p) i k ≤ tg (ofT Rg.lo l g p) (i + 1) k ∧ tg (ofT Rg.hi l g p) i k ≤ tg (ofT Rg.hi l g p) (i + 1) k
    have h3 : i < g.length := by dsimp only [ofF] at h1; omega
    rw [tgE _ _ _ h1 h2, tgE _ _ _ h1 h2, tgE _ _ _ h3 h2, tgE _ _ _ h3 h2]
    rw [show at1 g i + (at1 g (i + 1) - at1 g i) = at1 g (i + 1) by omega] at this
    omega
theorem famOf_ok (w : Int) : FaOK (famOf w) := by
  have hg := famG_asc w
  have hp := famP_asc w
  unfold famOf
  split
  · exact ofF_ok (lawOf_in _) hg.1 hp.1
  · have h := gTab_ok (cell_ok (famG w).length (famP w).length (by omega)) (famG w).length (dstep (famW2 w)) [] [] tab0 (by simp)
    rw [← tabGo_g] at h
    exact h.1.fa h.2 hg.1 hp.1 fun i k q h1 _ he => by
      unfold famE0 at he
      have := hg.2
      omega

def wOpt (a : Int) (q : Option Int) : Int := match q with | none => a | some x => mx a x
def wA (f : Fa) (i k : Nat) (w : Int) (u l : Option (Int × Int)) : Int := wOpt (wOpt (btw w (tg f.lo i k) (tg f.hi i k)) (u.map (·.1))) (l.map (·.1))
def wB (f : Fa) (b : Bool) (i k : Nat) (w : Int) (u l : Option (Int × Int)) : Int := if b then wA f i k w u l else wOpt (wOpt (btw (dstep w) (wA f i k w u l) (tg f.hi i k)) (u.map (·.2))) (l.map (·.2))
end Go.Proofs

namespace Go.Proofs
open Go Go.Sx Go.Fam
attribute [local irreducible] Run

end Go.Proofs

namespace Go.Proofs
open Go Go.Sx Go.Fam
attribute [local irreducible] Run

end Go.Proofs

namespace Go.Proofs
open Go Go.Sx Go.Fam

end Go.Proofs

namespace Go.Proofs
open Go Go.Sx Go.Fam
attribute [local irreducible] Run

def wF (a : Nat) : Prop := a = 0 ∨ a = 1 ∨ a = 2 ∨ a = 5
structure WnH (f : Fa) (J : Heap) (w : Int) (v0 v1 v2 v3 : AVal) : Prop where
  r0 : J[0]? = some (some (Dr w))
  r1 : J[1]? = some (some (.cells false 4 [Fv f]))
  r2 : J[2]? = some (some (.cells false 4 [.agg [.nilsl, .nilsl, .nilsl, .nilsl]]))
  r5 : J[5]? = some (some (.cells false 4 [.agg [v0, v1, v2, v3]]))
theorem WnH.mono {f : Fa} {J J' : Heap} {w w' : Int} {v0 v1 v2 v3 : AVal} (h : WnH f J w v0 v1 v2 v3) (h0 : J'[0]? = some (some (Dr w'))) (hJ : ∀ q, wF q → q ≠ 0 → q < J.length → J'[q]? = J[q]?) : WnH f J' w' v0 v1 v2 v3 :=
  ⟨h0, by rw [hJ 1 (by simp [wF]) (by decide) (List.getElem?_eq_some_iff.1 h.r1).1]; exact h.r1, by rw [hJ 2 (by simp [wF]) (by decide) (List.getElem?_eq_some_iff.1 h.r2).1]; exact h.r2, by rw [hJ 5 (by simp [wF]) (by decide) (List.getElem?_eq_some_iff.1 h.r5).1]; exact h.r5⟩
end Go.Proofs

namespace Go.Proofs
open Go Go.Sx Go.Fam
attribute [local irreducible] Run

end Go.Proofs

namespace Go.Proofs
open Go Go.Sx Go.Fam
attribute [local irreducible] Run

end Go.Proofs

namespace Go.Proofs
open Go Go.Sx Go.Fam
attribute [local irreducible] Run

theorem take_more {α : Type} {a b : List α} {i : Nat} {x y : α} (h : a.take i = b.take i) (ha : a[i]? = some x) (hb : b[i]? = some y) (e : x = y) : a.take (i + 1) = b.take (i + 1) := by
  rw [List.take_add_one, List.take_add_one, h, ha, hb, e]
theorem take_all {α : Type} {a b : List α} {i : Nat} (h : a.take i = b.take i) (hl : a.length = b.length) (hi : ¬ i < a.length) : a = b := by
  rwa [List.take_of_length_le (by omega), List.take_of_length_le (by omega)] at h
theorem ne_at {α : Type} {a b : List α} {i : Nat} {x y : α} (ha : a[i]? = some x) (hb : b[i]? = some y) (e : x ≠ y) : a ≠ b := by
  rintro rfl; rw [ha] at hb; exact e (Option.some.inj hb)
def smT (a b : List AVal) : List (Nat × AVal) := [(0, .view a), (1, .view b), (4, .bool false)]

theorem rsameInts_run (a b : List Int) (hl : a.length ≤ 9223372036854775807) : Ans Try.prog n_ref02_sameInts [vw a, vw b] [] (.bool (decide (a = b))) [] := by
  refine spec_run e_ref02_sameInts fun G => ?_
  by_cases c : a.length = b.length
  · have c' : (a.length : Int) = b.length := by omega
    simp only [go_sem, vw, List.length_map, c', beq_self_eq_true]
    refine loop_ind k_ref02_sameInts_r8.eq_1 (fun i : Nat => i ≤ a.length ∧ a.take i = b.take i) (fun i => a.length - i)
      (fun i => (tsets 26 (smT (a.map (.int .i64)) (b.map (.int .i64)) ++ [(5, .int .i64 i)]), [])) 0 ⟨Nat.zero_le _, rfl⟩ (by simp [go_sem, smT]) rfl ?_
    rintro i ⟨hi, hE⟩ ih
    dsimp only at hi hE ih ⊢
    by_cases h1 : i < a.length
    · have h2 : (i : Int) < a.length := by omega
      have h2' : (i : Int) < b.length := by omega
      have m0 : ¬ (i : Int) < 0 := by omega
      have h3 := idx_next h1 hl
      have x1 := get_at h1
      have x2 := get_at (l := b) (i := i) (by omega)
      by_cases e : at1 a i = at1 b i
      · have e' : (at1 a i == at1 b i) = true := by simp [e]
        simp only [go_sem, smT, h2, h2', List.length_map, m0, x1, x2, Int.toNat_natCast, e, h3, e', c', beq_self_eq_true]
        exact ih (i + 1) (by omega) ⟨h1, take_more hE x1 x2 e⟩ _ (by simp [go_sem, smT])
      · have e' : (at1 a i == at1 b i) = false := by simp [e]
        have : decide (a = b) = false := decide_eq_false (ne_at x1 x2 e)
        rw [this]
        simp only [go_sem, smT, h2, h2', List.length_map, m0, x1, x2, Int.toNat_natCast, e, e', c', beq_self_eq_true]
    · have h2 : ¬ (i : Int) < b.length := by omega
      have : decide (a = b) = true := decide_eq_true (take_all hE c h1)
      rw [this]
      simp only [go_sem, smT, h2, List.length_map, c']
  · have c' : ¬ (a.length : Int) = b.length := by omega
    have c2 : ((a.length : Int) == b.length) = false := by simp; exact c'
    have : decide (a = b) = false := decide_eq_false fun h => c (by rw [h])
    rw [this]
    simp only [go_sem, vw, List.length_map, c', c2]
theorem rsameTable_run (a b : List (List Int)) (hl : a.length ≤ 1000000) (hr : ∀ r ∈ a, r.length ≤ 9223372036854775807) : Ans Try.prog n_ref02_sameTable [tw a, tw b] [] (.bool (decide (a = b))) [] := by
  refine spec_run e_ref02_sameTable fun G => ?_
  by_cases c : a.length = b.length
  · have c' : (a.length : Int) = b.length := by omega
    simp only [go_sem, tw, List.length_map, c', beq_self_eq_true]
    refine loop_ind k_ref02_sameTable_r8.eq_1 (fun i : Nat => i ≤ a.length ∧ a.take i = b.take i) (fun i => a.length - i)
      (fun i => (tsets 27 (smT (a.map vw) (b.map vw) ++ [(5, .int .i64 i)]), [])) 0 ⟨Nat.zero_le _, rfl⟩ (by simp [go_sem, smT]) rfl ?_
    rintro i ⟨hi, hE⟩ ih
    dsimp only at hi hE ih ⊢
    by_cases h1 : i < a.length
    · have h2 : (i : Int) < a.length := by omega
      have h2' : (i : Int) < b.length := by omega
      have m0 : ¬ (i : Int) < 0 := by omega
      have h3 := idx_next h1 (by omega)
      obtain ⟨r, x1⟩ : ∃ r, a[i]? = some r := ⟨_, List.getElem?_eq_getElem h1⟩
      obtain ⟨s, x2⟩ : ∃ s, b[i]? = some s := ⟨_, List.getElem?_eq_getElem (by omega)⟩
      have k := rsameInts_run r s (hr r (List.mem_of_getElem? x1))
      simp only [vw] at k
      simp only [go_sem, smT, h2, h2', List.length_map, m0, x1, x2, Int.toNat_natCast, vw, c']
      refine cP k ?_
      by_cases e : r = s
      · rw [decide_eq_true e]
        simp only [go_sem, h3]
        exact ih (i + 1) (by omega) ⟨h1, take_more hE x1 x2 e⟩ _ (by simp [go_sem, smT])
      · have : decide (a = b) = false := decide_eq_false (ne_at x1 x2 e)
        rw [this, decide_eq_false e]
        simp only [go_sem]
    · have h2 : ¬ (i : Int) < b.length := by omega
      have : decide (a = b) = true := decide_eq_true (take_all hE c h1)
      rw [this]
      simp only [go_sem, smT, h2, List.length_map, c']
  · have c' : ¬ (a.length : Int) = b.length := by omega
    have c2 : ((a.length : Int) == b.length) = false := by simp; exact c'
    have : decide (a = b) = false := decide_eq_false fun h => c (by rw [h])
    rw [this]
    simp only [go_sem, tw, List.length_map, c', c2]
def FaS (f : Fa) : Prop := f.g.length ≤ 1000000 ∧ f.p.length ≤ 1000000 ∧ (f.lo.length ≤ 1000000 ∧ ∀ r ∈ f.lo, r.length ≤ 9223372036854775807) ∧ f.hi.length ≤ 1000000 ∧ ∀ r ∈ f.hi, r.length ≤ 9223372036854775807
instance : DecidableEq Fa := fun a b => decidable_of_iff (a.g = b.g ∧ a.p = b.p ∧ a.lo = b.lo ∧ a.hi = b.hi) ⟨fun ⟨h1, h2, h3, h4⟩ => by cases a; cases b; simp_all, by rintro rfl; exact ⟨rfl, rfl, rfl, rfl⟩⟩
theorem fa_eq (a b : Fa) : decide (a = b) = (decide (a.g = b.g) && (decide (a.p = b.p) && (decide (a.lo = b.lo) && decide (a.hi = b.hi)))) := by
  rw [Bool.eq_iff_iff]
  simp only [decide_eq_true_eq, Bool.and_eq_true]
  exact ⟨by rintro rfl; exact ⟨rfl, rfl, rfl, rfl⟩, fun ⟨h1, h2, h3, h4⟩ => by cases a; cases b; simp_all⟩
theorem rSame_run (a b : Fa) (h : FaS a) : Ans Try.prog n_ref02_Same [Fv a, Fv b] [] (.bool (decide (a = b))) [] := by
  obtain ⟨l1, l2, l3, l4⟩ := h
  have k1 := rsameInts_run a.g b.g (by omega)
  have k2 := rsameInts_run a.p b.p (by omega)
  have k3 := rsameTable_run a.lo b.lo l3.1 l3.2
  have k4 := rsameTable_run a.hi b.hi l4.1 l4.2
  rw [fa_eq]
  refine spec_run e_ref02_Same fun G => ?_
  simp only [go_sem, Fv, Fcs]
  refine cP k1 ?_
  by_cases c1 : a.g = b.g
  · rw [decide_eq_true c1]
    simp only [go_sem]
    refine cP k2 ?_
    by_cases c2 : a.p = b.p
    · rw [decide_eq_true c2]
      simp only [go_sem]
      refine cP k3 ?_
      by_cases c3 : a.lo = b.lo
      · rw [decide_eq_true c3]
        simp only [go_sem]
        refine cP k4 ?_
        simp only [go_sem]
      · rw [decide_eq_false c3]
        simp only [go_sem]
    · rw [decide_eq_false c2]
      simp only [go_sem]
  · rw [decide_eq_false c1]
    simp only [go_sem]
end Go.Proofs

namespace Go.Sx
open Go
theorem Less.loosen {P : Program} {G : Ctx} {k : Nat} {ρ : List AVal} {H H' : Heap} (hlen : H'.length = H.length) (hl : Loose H H') : Less P G k ⟨ρ, H, []⟩ ⟨ρ, H', []⟩ := fun μ a w hR => by
  refine ⟨μ, ⟨hR.tr, hR.hr.loosen hl, fun r hr => ?_, ?_, fun r hr => by simp at hr⟩, Mu.leB_refl _ _⟩
  · show r < H'.length
    rw [hlen]; exact hR.dom r hr
  · have := hR.mk'; simpa using this
end Go.Sx
namespace Go.Proofs
open Go Go.Sx Go.Fam

section
variable {F : Nat → Prop} {J J' : Heap} {g p : List Int} {L U : List (List Int)} {lo hi : List Int} {v0 v1 v2 v3 v4 v5 : AVal} {κ0 κ1 κ2 κ3 κ4 κ5 : List Nat}
end
end Go.Proofs

namespace Go.Proofs
open Go Go.Sx Go.Fam
attribute [local irreducible] Run

theorem copied_run (l : List Int) (hl : l.length ≤ 1000000) (h0 : l ≠ []) : Ans Try.prog n_curve_copied [vw l] [] (.sl 0 0 l.length) [some (.cells true 1 (l.map (.int .i64)))] := by
  have h8 : l.length * 8 ≤ 2 ^ 44 := by omega
  have h1 : ¬ l = [] := h0
  refine spec_run e_curve_copied fun G => ?_
  simp only [go_sem, vw, List.length_map, h8, h1]
  simp [h1]
end Go.Proofs

namespace Go.Proofs
open Go Go.Sx Go.Fam
attribute [local irreducible] Run

structure AcH (f : Fa) (J : Heap) (v0 v1 v2 v3 : AVal) : Prop where
  r0 : J[0]? = some (some (.cells false 4 [Fv f]))
  r1 : J[1]? = some (some (.cells false 4 [.agg [.nilsl, .nilsl, .nilsl, .nilsl]]))
  r4 : J[4]? = some (some (.cells false 4 [.agg [v0, v1, v2, v3]]))
theorem AcH.mono {f : Fa} {J J' : Heap} {v0 v1 v2 v3 : AVal} (h : AcH f J v0 v1 v2 v3) (hJ : ∀ q, oF q → q < J.length → J'[q]? = J[q]?) : AcH f J' v0 v1 v2 v3 :=
  ⟨by rw [hJ 0 (by simp [oF]) (List.getElem?_eq_some_iff.1 h.r0).1]; exact h.r0, by rw [hJ 1 (by simp [oF]) (List.getElem?_eq_some_iff.1 h.r1).1]; exact h.r1, by rw [hJ 4 (by simp [oF]) (List.getElem?_eq_some_iff.1 h.r4).1]; exact h.r4⟩
end Go.Proofs

namespace Go.Proofs
open Go Go.Sx Go.Fam
attribute [local irreducible] Run

end Go.Proofs

namespace Go.Proofs
open Go Go.Sx
theorem awake_yes : yes (exFn tab 3000 40 n_law02_awake [] []) = true := by kernel_rfl
theorem awake_ok : Ans Try.prog n_law02_awake [] [] (.bool true) [] := yes_ans mixed tab_ok awake_yes
end Go.Proofs

namespace Go.Proofs
open Go Go.Sx Go.Fam
attribute [local irreducible] Run

def lngB (t : List (List Int)) : Bool := t.any fun r => decide (50 < r.length)
theorem long_run (t : List (List Int)) (ht : t.length ≤ 1000000) : Ans Try.prog n_law02_long [tw t] [] (.bool (lngB t)) [] := by
  refine spec_run e_law02_long fun G => ?_
  simp only [go_sem, tw]
  refine loop_ind k_law02_long_r6.eq_1 (fun i : Nat => i ≤ t.length ∧ lngB (t.drop i) = lngB t) (fun i => t.length - i)
    (fun i => (tsets 16 [(0, .view (t.map vw)), (2, .bool false), (3, .int .i64 i)], [])) 0 ⟨Nat.zero_le _, rfl⟩ (by simp [go_sem]) rfl ?_
  rintro i ⟨hi, hE⟩ ih
  by_cases h1 : i < t.length
  · have h2 : (i : Int) < t.length := by omega
    have m0 : ¬ (i : Int) < 0 := by omega
    have h3 := idx_next h1 (by omega)
    obtain ⟨r, hr⟩ : ∃ r, t[i]? = some r := ⟨_, List.getElem?_eq_getElem h1⟩
    have hd : t.drop i = r :: t.drop (i + 1) := by rw [List.drop_eq_getElem_cons h1]; congr 1; rw [List.getElem?_eq_getElem h1] at hr; simpa using hr
    rw [hd] at hE
    by_cases c : (r.length : Int) > 50
    · have : lngB t = true := by rw [← hE]; unfold lngB; rw [List.any_cons, decide_eq_true (by omega)]; rfl
      rw [this]
      simp only [go_sem, h2, List.length_map, m0, hr, Int.toNat_natCast, vw, c]
    · have : lngB (t.drop (i + 1)) = lngB t := by rw [← hE]; unfold lngB; rw [List.any_cons, decide_eq_false (by omega)]; rfl
      simp only [go_sem, h2, List.length_map, m0, hr, Int.toNat_natCast, vw, c, h3]
      exact ih (i + 1) (by omega) ⟨h1, this⟩ _ (by simp [go_sem])
  · have h2 : ¬ (i : Int) < t.length := by omega
    have : lngB t = false := by rw [← hE, List.drop_of_length_le (by omega)]; rfl
    rw [this]
    simp only [go_sem, h2, List.length_map]
def lrgB (f : Fa) : Bool := if 50 < f.lo.length ∨ 50 < f.hi.length ∨ lngB [f.g, f.p] = true then true else (lngB f.lo || lngB f.hi)
theorem large_run (f : Fa) : Ans Try.prog n_law02_large [Fv f] [] (.bool (lrgB f)) [] := by
  obtain ⟨b, hb⟩ : ∃ b, lrgB f = b := ⟨_, rfl⟩
  rw [hb]
  unfold lrgB at hb
  refine spec_run e_law02_large fun G => ?_
  by_cases c1 : (f.lo.length : Int) > 50
  · rw [if_pos (.inl (by omega))] at hb
    rw [← hb]
    simp only [go_sem, Fv, Fcs, tw, List.length_map, c1]
  · by_cases c2 : (f.hi.length : Int) > 50
    · rw [if_pos (.inr (.inl (by omega)))] at hb
      rw [← hb]
      simp only [go_sem, Fv, Fcs, tw, List.length_map, c1, c2]
    · have k1 := long_run [f.g, f.p] (by simp)
      have k2 := long_run f.lo (by omega)
      have k3 := long_run f.hi (by omega)
      simp only [tw] at k2 k3
      simp only [go_sem, Fv, Fcs, tw, vw, List.length_map, c1, c2]
      refine cF k1 6 ⟨.inl ?_, trivial⟩ ?_
      · simp [frz, Heap.cellsAt, tw, vw, Function.comp_def]
      · by_cases c3 : lngB [f.g, f.p] = true
        · rw [if_pos (.inr (.inr c3))] at hb
          rw [← hb, c3]
          simp only [go_sem]
        · rw [if_neg (fun h => h.elim (fun h => c1 (by omega)) (fun h => h.elim (fun h => c2 (by omega)) c3))] at hb
          rw [Bool.not_eq_true] at c3
          rw [c3]
          simp only [go_sem]
          refine cP k2 ?_
          by_cases c4 : lngB f.lo = true
          · rw [c4] at hb ⊢
            rw [← hb]
            simp only [go_sem]
          · rw [Bool.not_eq_true] at c4
            rw [c4] at hb ⊢
            simp only [go_sem]
            refine cP k3 ?_
            rw [← hb]
            simp only [go_sem]
end Go.Proofs

namespace Go.Proofs
open Go Go.Sx Go.Fam
attribute [local irreducible] Run

@[go_sem] theorem upFrom_contains (k n r : Nat) : (upFrom k n).contains r = decide (k ≤ r ∧ r < k + n) := by
  rw [Bool.eq_iff_iff]; simp [upFrom_mem]
@[go_sem] theorem disj_up (k n : Nat) (l : List Nat) : disj (upFrom k n) l = l.all fun r => !decide (k ≤ r ∧ r < k + n) := by
  unfold disj
  rw [Bool.eq_iff_iff]
  simp only [List.all_eq_true, upFrom_mem, Bool.not_eq_true', List.contains_eq_mem, decide_eq_false_iff_not]
  exact ⟨fun h r hr hk => h r hk hr, fun h r hk hr => h r hr hk⟩
@[go_sem] theorem dr_nv (w : Int) : (Dr w).nv = True := eq_true (by unfold Dr; exact row_nv_cells _ _ ⟨.agg _ (by intro i hi; simp at hi; subst hi; exact .int _ _), trivial⟩)
theorem lrg_no {f : Fa} (h : lrgB f = false) : f.g.length ≤ 50 ∧ f.p.length ≤ 50 ∧ f.lo.length ≤ 50 ∧ f.hi.length ≤ 50 := by
  unfold lrgB at h
  by_cases c : 50 < f.lo.length ∨ 50 < f.hi.length ∨ lngB [f.g, f.p] = true
  · rw [if_pos c] at h; cases h
  · have c3 : ¬ lngB [f.g, f.p] = true := fun h => c (.inr (.inr h))
    have : lngB [f.g, f.p] = (decide (50 < f.g.length) || (decide (50 < f.p.length) || false)) := rfl
    rw [this] at c3
    simp at c3
    omega

end Go.Proofs

namespace Go.Proofs
open Go Go.Sx Go.Fam
attribute [local irreducible] Run

end Go.Proofs

namespace Go.Proofs
open Go Go.Sx Go.Fam

theorem at_struct {P : Program} {n : Nat} {t : TypeId} {fs : Array Field} (hu : P.underlying t = some (.struct fs)) {vs : List AVal} (h : AT P (n + 1) t vs) : ATs (AT P n) fs.toList vs := by
  unfold AT at h; rw [hu] at h; exact h
theorem at_int {P : Program} {n : Nat} {t : TypeId} {k : IntKind} (hu : P.underlying t = some (.int k)) {vs : List AVal} (h : AT P (n + 1) t vs) : ∃ m, vs = [.int k m] ∧ (Lit.int k m).wf = true := by
  unfold AT at h; rw [hu] at h; exact h
theorem at_slice {P : Program} {n : Nat} {t e : TypeId} (hu : P.underlying t = some (.slice e)) {vs : List AVal} (h : AT P (n + 1) t vs) : ∃ es, vs = [.view es] ∧ es.length ≤ maxLen ∧ ∀ x ∈ es, if aggT P e = true then ∃ ws, x = .agg ws ∧ AT P n e ws else AT P n e [x] := by
  unfold AT at h; rw [hu] at h; exact h
theorem list_mapQ {α β : Type} {f : α → β} {Q : α → Prop} : ∀ l : List β, (∀ x ∈ l, ∃ a, x = f a ∧ Q a) → ∃ l' : List α, l = l'.map f ∧ ∀ a ∈ l', Q a
  | [], _ => ⟨[], rfl, fun a ha => by simp at ha⟩
  | x :: l, h => by
    obtain ⟨a, rfl, ha⟩ := h x (by simp)
    obtain ⟨l', rfl, h'⟩ := list_mapQ l fun y hy => h y (by simp [hy])
    exact ⟨a :: l', rfl, fun b hb => by
      rcases List.mem_cons.1 hb with rfl | hb
      · exact ha
      · exact h' b hb⟩

attribute [local irreducible] AT
set_option maxRecDepth 100000
theorem atn_int {n : Nat} {vs : List AVal} (h : AT Try.prog (n + 1) 3 vs) : ∃ m, vs = [.int .i64 m] ∧ (Lit.int .i64 m).wf = true := at_int Try.underlying3 h
theorem at_ints {n : Nat} {x : AVal} (h : AT Try.prog (n + 2) 26 [x]) : ∃ l : List Int, x = vw l ∧ l.length ≤ 9223372036854775807 := by
  obtain ⟨es, h1, hl, he⟩ := at_slice Try.underlying26 h
  obtain rfl : x = .view es := by simpa using h1
  have hg : ¬ aggT Try.prog 3 = true := by unfold aggT; rw [Try.underlying3]; decide
  obtain ⟨l, rfl, -⟩ := list_mapQ (f := AVal.int .i64) (Q := fun _ => True) es fun x hx => by
    have := he x hx
    rw [if_neg hg] at this
    obtain ⟨m, hm, -⟩ := atn_int this
    exact ⟨m, by simpa using hm, trivial⟩
  have hm : maxLen = 9223372036854775807 := rfl
  rw [hm] at hl
  exact ⟨l, rfl, by simpa using hl⟩
theorem at_tab {n : Nat} {x : AVal} (h : AT Try.prog (n + 3) 40 [x]) : ∃ l : List (List Int), x = tw l ∧ l.length ≤ 9223372036854775807 ∧ ∀ r ∈ l, r.length ≤ 9223372036854775807 := by
  obtain ⟨es, h1, hl, he⟩ := at_slice Try.underlying40 h
  obtain rfl : x = .view es := by simpa using h1
  have hg : ¬ aggT Try.prog 26 = true := by unfold aggT; rw [Try.underlying26]; decide
  obtain ⟨l, rfl, hq⟩ := list_mapQ (f := vw) (Q := fun r : List Int => r.length ≤ 9223372036854775807) es fun x hx => by
    have := he x hx
    rw [if_neg hg] at this
    obtain ⟨m, hm, hl⟩ := at_ints this
    exact ⟨m, hm, hl⟩
  have hm : maxLen = 9223372036854775807 := rfl
  rw [hm] at hl
  exact ⟨l, rfl, by simpa using hl, hq⟩
structure FaL (f : Fa) : Prop where
  g : f.g.length ≤ 9223372036854775807
  p : f.p.length ≤ 9223372036854775807
  lo : f.lo.length ≤ 9223372036854775807 ∧ ∀ r ∈ f.lo, r.length ≤ 9223372036854775807
  hi : f.hi.length ≤ 9223372036854775807 ∧ ∀ r ∈ f.hi, r.length ≤ 9223372036854775807
theorem at_family {n : Nat} {ws : List AVal} (h : AT Try.prog (n + 4) 42 ws) : ∃ f : Fa, .agg ws = Fv f ∧ FaL f := by
  obtain ⟨a, _, rfl, ha, b, _, rfl, hb, c, _, rfl, hc, d, _, rfl, hd, rfl⟩ := at_struct Try.underlying42 h
  obtain ⟨x, rfl, -⟩ := at_slice Try.underlying26 ha
  obtain ⟨y, rfl, -⟩ := at_slice Try.underlying26 hb
  obtain ⟨z, rfl, -⟩ := at_slice Try.underlying40 hc
  obtain ⟨w, rfl, -⟩ := at_slice Try.underlying40 hd
  obtain ⟨l1, h1, q1⟩ := at_ints ha
  obtain ⟨l2, h2, q2⟩ := at_ints hb
  obtain ⟨l3, h3, q3⟩ := at_tab hc
  obtain ⟨l4, h4, q4⟩ := at_tab hd
  exact ⟨⟨l1, l2, l3, l4⟩, by rw [List.cons_append, h1, List.cons_append, h2, List.cons_append, h3, List.cons_append, h4]; rfl, q1, q2, q3, q4⟩
end Go.Proofs

namespace Go.Proofs
open Go Go.Sx Go.Fam
attribute [local irreducible] Run

end Go.Proofs

namespace Go.Proofs
open Go Go.Sx Go.Fam
attribute [local irreducible] Run

end Go.Proofs

namespace Go.Proofs
open Go Go.Sx

def k_curve_Copy_r0 : List AOper := [
  ⟨some 1, .box (.tmp 0), none, []⟩,
 ⟨some 2, .box (.const (.agg [.nilsl, .nilsl, .nilsl, .nilsl])), none, []⟩]
def k_curve_Copy_r1 : List AOper := [
  ⟨some 3, .fieldAddr 0 (.tmp 1), none, []⟩,
 ⟨some 4, .load none (.tmp 3), none, []⟩,
 ⟨some 5, .call (.const (.fn (.func 79) [] [])) [.tmp 4], none, []⟩,
 ⟨some 6, .fieldAddr 1 (.tmp 1), none, [0, 1, 2]⟩,
 ⟨some 7, .load none (.tmp 6), none, [0, 1, 2]⟩,
 ⟨some 8, .call (.const (.fn (.func 79) [] [])) [.tmp 7], none, []⟩,
 ⟨some 9, .fieldAddr 2 (.tmp 1), none, [0, 1, 2, 3, 4, 5]⟩,
 ⟨some 10, .load none (.tmp 9), none, [0, 1, 2, 3, 4, 5]⟩,
 ⟨some 11, .call (.const (.fn (.func 80) [] [])) [.tmp 10], none, []⟩,
 ⟨some 12, .fieldAddr 3 (.tmp 1), none, [0, 1, 2, 3, 4, 5, 6, 7, 8]⟩,
 ⟨some 13, .load none (.tmp 12), none, [0, 1, 2, 3, 4, 5, 6, 7, 8]⟩,
 ⟨some 14, .call (.const (.fn (.func 80) [] [])) [.tmp 13], none, []⟩,
 ⟨some 15, .build [.nilsl, .nilsl, .nilsl, .nilsl] [(0, 1, .tmp 5), (1, 1, .tmp 8), (2, 1, .tmp 11), (3, 1, .tmp 14)], none, []⟩,
 ⟨none, .store 4 (.tmp 2) (.tmp 15), none, []⟩]
def k_curve_Copy_r1s : List (List AOper) := [
  [
  ⟨some 3, .fieldAddr 0 (.tmp 1), none, []⟩,
 ⟨some 4, .load none (.tmp 3), none, []⟩,
 ⟨some 5, .call (.const (.fn (.func 79) [] [])) [.tmp 4], none, []⟩,
 ⟨some 6, .fieldAddr 1 (.tmp 1), none, [0, 1, 2]⟩,
 ⟨some 7, .load none (.tmp 6), none, [0, 1, 2]⟩,
 ⟨some 8, .call (.const (.fn (.func 79) [] [])) [.tmp 7], none, []⟩,
 ⟨some 9, .fieldAddr 2 (.tmp 1), none, [0, 1, 2, 3, 4, 5]⟩,
 ⟨some 10, .load none (.tmp 9), none, [0, 1, 2, 3, 4, 5]⟩,
 ⟨some 11, .call (.const (.fn (.func 80) [] [])) [.tmp 10], none, []⟩,
 ⟨some 12, .fieldAddr 3 (.tmp 1), none, [0, 1, 2, 3, 4, 5, 6, 7, 8]⟩,
 ⟨some 13, .load none (.tmp 12), none, [0, 1, 2, 3, 4, 5, 6, 7, 8]⟩], 
  [
  ⟨some 14, .call (.const (.fn (.func 80) [] [])) [.tmp 13], none, []⟩], 
  [
  ⟨some 15, .build [.nilsl, .nilsl, .nilsl, .nilsl] [(0, 1, .tmp 5), (1, 1, .tmp 8), (2, 1, .tmp 11), (3, 1, .tmp 14)], none, []⟩], 
  [
  ⟨none, .store 4 (.tmp 2) (.tmp 15), none, []⟩]]
theorem k_curve_Copy_r1_sg : segs k_curve_Copy_r1 = k_curve_Copy_r1s := by kernel_rfl
theorem k_curve_Copy_r1_st : statOK k_curve_Copy_r1 = true := by kernel_rfl
def k_curve_Copy : AFun := { params := 1, ntmps := 16, body := (.seq (.reg k_curve_Copy_r0 false) (.seq (.reg k_curve_Copy_r1 true) .ret)), res := [.cell 2 (some ((some (4))))] }
theorem k_curve_Copy_ok : cfun Try.prog Try.f31 = k_curve_Copy := by kernel_rfl

def k_curve_copiedTable_r0 : List AOper := [
  ⟨some 2, .move (.const (.nilsl)), none, []⟩]
def k_curve_copiedTable_r1 : List AOper := [
  ⟨some 3, .move (.const (.nilsl)), none, []⟩]
def k_curve_copiedTable_r2 : List AOper := [
  ⟨some 6, .move (.tmp 0), none, []⟩,
 ⟨some 7, .len false (.tmp 6), none, []⟩,
 ⟨some 8, .move (.const (.int .i64 0)), none, []⟩]
def k_curve_copiedTable_r3 : List AOper := [
  ⟨some 9, .bin .plain .lss (.tmp 8) (.tmp 7), none, []⟩]
def k_curve_copiedTable_r4 : List AOper := [
  ⟨some 10, .indexAddr 1 (.tmp 6) (.tmp 8), none, []⟩,
 ⟨some 11, .load none (.tmp 10), none, []⟩,
 ⟨some 5, .move (.tmp 11), none, []⟩]
def k_curve_copiedTable_r5 : List AOper := [
  ⟨some 12, .move (.tmp 3), none, []⟩,
 ⟨some 13, .move (.tmp 5), none, []⟩,
 ⟨some 14, .call (.const (.fn (.func 79) [] [])) [.tmp 13], none, []⟩,
 ⟨some 15, .buildSlice 1 [.tmp 14], none, []⟩,
 ⟨some 16, .append 1 24 false (.tmp 12) (.tmp 15), none, []⟩,
 ⟨some 3, .move (.tmp 16), none, []⟩]
def k_curve_copiedTable_r6 : List AOper := [
  ⟨some 17, .bin .plain .add (.tmp 8) (.const (.int .i64 1)), none, []⟩,
 ⟨some 8, .move (.tmp 17), none, []⟩]
def k_curve_copiedTable_r7 : ACode := (.seq (.reg k_curve_copiedTable_r3 false) (.seq (.cond (.tmp 9) .skip (.exit 0)) (.seq (.block 1 (.seq (.reg k_curve_copiedTable_r4 false) (.reg k_curve_copiedTable_r5 false))) (.reg k_curve_copiedTable_r6 false))))
def k_curve_copiedTable_r8 : List AOper := [
  ⟨some 18, .move (.tmp 3), none, []⟩,
 ⟨some 2, .move (.tmp 18), none, []⟩]
def k_curve_copiedTable : AFun := { params := 1, ntmps := 19, body := (.seq (.reg k_curve_copiedTable_r0 false) (.seq (.reg k_curve_copiedTable_r1 false) (.seq (.seq (.reg k_curve_copiedTable_r2 false) (.block 0 (.loop k_curve_copiedTable_r7))) (.seq (.reg k_curve_copiedTable_r8 false) .ret)))), res := [.tmp 2] }
theorem k_curve_copiedTable_ok : cfun Try.prog Try.f80 = k_curve_copiedTable := by kernel_rfl


abbrev n_curve_Copy : Nat := 31
theorem e_curve_Copy : EntryOK Try.prog n_curve_Copy k_curve_Copy := ⟨Try.f31, Try.func31, k_curve_Copy_ok, by kernel_rfl⟩
abbrev n_curve_copiedTable : Nat := 80
theorem e_curve_copiedTable : EntryOK Try.prog n_curve_copiedTable k_curve_copiedTable := ⟨Try.f80, Try.func80, k_curve_copiedTable_ok, by kernel_rfl⟩

attribute [go_sem] k_curve_Copy_r0 k_curve_Copy_r1s
attribute [go_sem] k_curve_copiedTable_r0 k_curve_copiedTable_r1 k_curve_copiedTable_r2 k_curve_copiedTable_r3
attribute [go_sem] k_curve_copiedTable_r4 k_curve_copiedTable_r5 k_curve_copiedTable_r6 k_curve_copiedTable_r8 k_curve_Copy_r1_sg k_curve_Copy_r1_st
attribute [go_sem] k_curve_Copy k_curve_copiedTable
end Go.Proofs

namespace Go.Proofs
open Go Go.Sx

def k_ref02_Copy_r0 : List AOper := [
  ⟨some 1, .box (.tmp 0), none, []⟩,
 ⟨some 2, .box (.const (.agg [.nilsl, .nilsl, .nilsl, .nilsl])), none, []⟩]
def k_ref02_Copy_r1 : List AOper := [
  ⟨some 3, .fieldAddr 0 (.tmp 1), none, []⟩,
 ⟨some 4, .load none (.tmp 3), none, []⟩,
 ⟨some 5, .call (.const (.fn (.func 67) [] [])) [.tmp 4], none, []⟩,
 ⟨some 6, .fieldAddr 1 (.tmp 1), none, [0, 1, 2]⟩,
 ⟨some 7, .load none (.tmp 6), none, [0, 1, 2]⟩,
 ⟨some 8, .call (.const (.fn (.func 67) [] [])) [.tmp 7], none, []⟩,
 ⟨some 9, .fieldAddr 2 (.tmp 1), none, [0, 1, 2, 3, 4, 5]⟩,
 ⟨some 10, .load none (.tmp 9), none, [0, 1, 2, 3, 4, 5]⟩,
 ⟨some 11, .call (.const (.fn (.func 68) [] [])) [.tmp 10], none, []⟩,
 ⟨some 12, .fieldAddr 3 (.tmp 1), none, [0, 1, 2, 3, 4, 5, 6, 7, 8]⟩,
 ⟨some 13, .load none (.tmp 12), none, [0, 1, 2, 3, 4, 5, 6, 7, 8]⟩,
 ⟨some 14, .call (.const (.fn (.func 68) [] [])) [.tmp 13], none, []⟩,
 ⟨some 15, .build [.nilsl, .nilsl, .nilsl, .nilsl] [(0, 1, .tmp 5), (1, 1, .tmp 8), (2, 1, .tmp 11), (3, 1, .tmp 14)], none, []⟩,
 ⟨none, .store 4 (.tmp 2) (.tmp 15), none, []⟩]
def k_ref02_Copy_r1s : List (List AOper) := [
  [
  ⟨some 3, .fieldAddr 0 (.tmp 1), none, []⟩,
 ⟨some 4, .load none (.tmp 3), none, []⟩,
 ⟨some 5, .call (.const (.fn (.func 67) [] [])) [.tmp 4], none, []⟩,
 ⟨some 6, .fieldAddr 1 (.tmp 1), none, [0, 1, 2]⟩,
 ⟨some 7, .load none (.tmp 6), none, [0, 1, 2]⟩,
 ⟨some 8, .call (.const (.fn (.func 67) [] [])) [.tmp 7], none, []⟩,
 ⟨some 9, .fieldAddr 2 (.tmp 1), none, [0, 1, 2, 3, 4, 5]⟩,
 ⟨some 10, .load none (.tmp 9), none, [0, 1, 2, 3, 4, 5]⟩,
 ⟨some 11, .call (.const (.fn (.func 68) [] [])) [.tmp 10], none, []⟩,
 ⟨some 12, .fieldAddr 3 (.tmp 1), none, [0, 1, 2, 3, 4, 5, 6, 7, 8]⟩,
 ⟨some 13, .load none (.tmp 12), none, [0, 1, 2, 3, 4, 5, 6, 7, 8]⟩], 
  [
  ⟨some 14, .call (.const (.fn (.func 68) [] [])) [.tmp 13], none, []⟩], 
  [
  ⟨some 15, .build [.nilsl, .nilsl, .nilsl, .nilsl] [(0, 1, .tmp 5), (1, 1, .tmp 8), (2, 1, .tmp 11), (3, 1, .tmp 14)], none, []⟩], 
  [
  ⟨none, .store 4 (.tmp 2) (.tmp 15), none, []⟩]]
theorem k_ref02_Copy_r1_sg : segs k_ref02_Copy_r1 = k_ref02_Copy_r1s := by kernel_rfl
theorem k_ref02_Copy_r1_st : statOK k_ref02_Copy_r1 = true := by kernel_rfl
def k_ref02_Copy : AFun := { params := 1, ntmps := 16, body := (.seq (.reg k_ref02_Copy_r0 false) (.seq (.reg k_ref02_Copy_r1 true) .ret)), res := [.cell 2 (some ((some (4))))] }
theorem k_ref02_Copy_ok : cfun Try.prog Try.f26 = k_ref02_Copy := by kernel_rfl

def k_ref02_table_r0 : List AOper := [
  ⟨some 2, .move (.const (.nilsl)), none, []⟩]
def k_ref02_table_r1 : List AOper := [
  ⟨some 3, .move (.const (.nilsl)), none, []⟩]
def k_ref02_table_r2 : List AOper := [
  ⟨some 4, .move (.const (.int .i64 0)), none, []⟩]
def k_ref02_table_r3 : List AOper := [
  ⟨some 5, .move (.tmp 4), none, []⟩,
 ⟨some 6, .move (.tmp 0), none, []⟩,
 ⟨some 7, .len false (.tmp 6), none, []⟩,
 ⟨some 8, .bin .plain .lss (.tmp 5) (.tmp 7), none, []⟩]
def k_ref02_table_r4 : List AOper := [
  ⟨some 11, .move (.tmp 3), none, []⟩,
 ⟨some 12, .move (.tmp 0), none, []⟩,
 ⟨some 13, .move (.tmp 4), none, []⟩,
 ⟨some 14, .indexAddr 1 (.tmp 12) (.tmp 13), none, []⟩,
 ⟨some 15, .load none (.tmp 14), none, []⟩,
 ⟨some 16, .call (.const (.fn (.func 67) [] [])) [.tmp 15], none, []⟩,
 ⟨some 17, .buildSlice 1 [.tmp 16], none, []⟩,
 ⟨some 18, .append 1 24 false (.tmp 11) (.tmp 17), none, []⟩,
 ⟨some 3, .move (.tmp 18), none, []⟩]
def k_ref02_table_r5 : List AOper := [
  ⟨some 9, .move (.tmp 4), none, []⟩,
 ⟨some 10, .bin .plain .add (.tmp 9) (.const (.int .i64 1)), none, []⟩,
 ⟨some 4, .move (.tmp 10), none, []⟩]
def k_ref02_table_r6 : ACode := (.seq (.seq (.reg k_ref02_table_r3 false) (.cond (.tmp 8) .skip (.exit 0))) (.seq (.block 1 (.reg k_ref02_table_r4 false)) (.reg k_ref02_table_r5 false)))
def k_ref02_table_r7 : List AOper := [
  ⟨some 19, .move (.tmp 3), none, []⟩,
 ⟨some 2, .move (.tmp 19), none, []⟩]
def k_ref02_table : AFun := { params := 1, ntmps := 20, body := (.seq (.reg k_ref02_table_r0 false) (.seq (.reg k_ref02_table_r1 false) (.seq (.seq (.reg k_ref02_table_r2 false) (.block 0 (.loop k_ref02_table_r6))) (.seq (.reg k_ref02_table_r7 false) .ret)))), res := [.tmp 2] }
theorem k_ref02_table_ok : cfun Try.prog Try.f68 = k_ref02_table := by kernel_rfl

abbrev n_ref02_Copy : Nat := 26
theorem e_ref02_Copy : EntryOK Try.prog n_ref02_Copy k_ref02_Copy := ⟨Try.f26, Try.func26, k_ref02_Copy_ok, by kernel_rfl⟩
abbrev n_ref02_table : Nat := 68
theorem e_ref02_table : EntryOK Try.prog n_ref02_table k_ref02_table := ⟨Try.f68, Try.func68, k_ref02_table_ok, by kernel_rfl⟩
attribute [go_sem] k_ref02_Copy_r0 k_ref02_Copy_r1s
attribute [go_sem] k_ref02_table_r0 k_ref02_table_r1 k_ref02_table_r2 k_ref02_table_r3
attribute [go_sem] k_ref02_table_r4 k_ref02_table_r5 k_ref02_table_r7 k_ref02_Copy_r1_sg
attribute [go_sem] k_ref02_Copy_r1_st k_ref02_Copy
attribute [go_sem] k_ref02_table
end Go.Proofs

namespace Go.Proofs
open Go Go.Sx

end Go.Proofs

namespace Go.Proofs
open Go Go.Sx Go.Fam
attribute [local irreducible] Run

end Go.Proofs

namespace Go.Sx
open Go
end Go.Sx
namespace Go.Proofs
open Go Go.Sx Go.Fam

end Go.Proofs

namespace Go.Proofs
open Go Go.Sx Go.Fam
attribute [local irreducible] Run

end Go.Proofs

namespace Go.Sx
open Go
section
variable {P : Program} {g : FuncId} {c : AVal} {d : Nat} {G : Ctx} {H : Heap} {k : Nat} {rd : Option Nat} {R : Runner} {l : List AOper} {fs : List Frame} {ρ : List AVal} {ms : List Nat} {Q : Goal} {dst : Option Nat}
  {ao : AOper} {lo hi : Nat} {tr : List (List Nat × List Nat)} {ss : List (List AOper)} {args ys : List AVal}
theorem dFD (h : Ans P g ys [] (thaw d 0 c).1 (thaw d 0 c).2) (hp : Pure d c) (e : Nat) (deps : List Nat) (hys : Sx.lss (args.map (frz e (H.onlyR deps))) ys)
    (hK : R (.grp lo l (tr ++ [(deps, upFrom H.length (thaw d H.length c).2.length)]) hi ss) fs ⟨setD ρ ao.dst (thaw d H.length c).1, H ++ (thaw d H.length c).2, ms⟩ Q)
    (hms : ∀ q ∈ ms, q < H.length := by simp) (hd : dynOK ao.free deps (upFrom H.length (thaw d H.length c).2.length) tr lo = true := by first | (simp only [go_sem]; done) | (simp [go_sem]; done) | (simp [go_sem]; omega)) : DCallR P R g args ao lo l tr hi ss fs ρ H ms Q := by
  have hw := thaw_wf 0 hp
  have hσ : ∀ i, outσ [] H.length (0 + i) = H.length + (0 + i) := fun i => by simp [outσ]
  obtain ⟨e1, e2⟩ := thaw_ren (σ := outσ [] H.length) (k' := H.length) 0 0 hp fun i _ => hσ i
  rw [Nat.add_zero] at e1 e2
  have e3 : H.puts (outΔ (outσ [] H.length) 0 (thaw d 0 c).2) = H ++ (thaw d H.length c).2 := by
    rw [puts_from (thaw_rows hp 0) fun i _ => by rw [hσ, Nat.zero_add], e2]
  have e4 : (outΔ (outσ [] H.length) 0 (thaw d 0 c).2).map (·.1) = upFrom H.length (thaw d H.length c).2.length := by
    rw [outΔ_names (N := H.length) (thaw_rows hp 0) fun i _ => by rw [hσ, Nat.zero_add], thaw_len hp 0 H.length]
  have h1 := (h.lss hys).dfrz (H := H) (args := args) e deps rfl (hw.2.1.mono fun r hr => by omega) hw.2.2 (by simpa using full_thaw (A := []) hp 0 rfl fun i hi => by omega) (by simpa using fullnv_thaw (A := []) hp 0 trivial)
  rw [e1] at h1
  refine dcallR (deps := deps) h1 ⟨fun q hq => ?_, fun q hq => ?_, ?_, ?_⟩
  · show q ∉ (outΔ _ _ _).map (·.1)
    rw [e4]
    have := hms q hq
    simp only [upFrom_mem]; omega
  · rw [mem_newNames] at hq
    refine ⟨hq.1, ?_⟩
    show q < (H.puts (outΔ _ _ _)).length
    rw [e3, List.length_append, ← thaw_len hp 0 H.length]
    omega
  · show dynOK _ _ ((outΔ _ _ _).map (·.1)) _ _ = true
    rw [e4]; exact hd
  · show R (.grp lo l (tr ++ [(deps, (outΔ _ _ _).map (·.1))]) hi ss) fs ⟨_, H.puts (outΔ _ _ _), ms⟩ Q
    rw [e4, e3]; exact hK
end
end Go.Sx
namespace Go.Proofs
open Go Go.Sx Go.Fam
attribute [local irreducible] Run
end Go.Proofs

namespace Go.Proofs
open Go Go.Sx Go.Fam
attribute [local irreducible] Run

end Go.Proofs

