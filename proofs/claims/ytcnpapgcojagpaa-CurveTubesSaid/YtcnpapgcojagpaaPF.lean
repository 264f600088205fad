/- A part of the proof. -/
import Derived.Test.YtcnpapgcojagpaaPE
set_option linter.unusedSimpArgs false
set_option linter.unusedVariables false
namespace Go.Proofs
open Go Go.Sx Go.Fam
attribute [local irreducible] Run

structure FmH (J : Heap) (w : Int) (v0 v1 v2 v3 : AVal) : Prop where
  r0 : J[0]? = some (some (Dr w))
  r1 : J[1]? = some (some (.cells false 4 [.agg [.nilsl, .nilsl, .nilsl, .nilsl]]))
  r4 : J[4]? = some (some (.cells false 4 [.agg [v0, v1, v2, v3]]))
def Bd1 (m : Int) (l : List Int) : Prop := ∀ x ∈ l, 0 ≤ x ∧ x ≤ m
theorem Bd1.at1 {m : Int} {l : List Int} (h : Bd1 m l) {i : Nat} (hi : i < l.length) : 0 ≤ Go.Fam.at1 l i ∧ Go.Fam.at1 l i ≤ m := by
  have := get_at hi
  exact h _ (List.mem_of_getElem? this)
theorem FS.g2 {F : Nat → Prop} {J : Heap} {g p : List Int} {L U : List (List Int)} {lo hi : List Int} {v0 v1 v2 v3 v4 v5 : AVal} {κ2 κ3 κ4 κ5 : List Nat} (h : FS F J g p L U lo hi v0 v1 v2 v3 v4 v5 [2] [3] κ2 κ3 κ4 κ5) : v0 = .sl 2 0 g.length ∧ v1 = .sl 3 0 p.length ∧ J[2]? = some (some (.cells true 1 (ivL g))) ∧ J[3]? = some (some (.cells true 1 (ivL p))) := by
  obtain ⟨_, a, e1, e2, e3⟩ := vw_get h.d0
  obtain ⟨_, b, e4, e5, e6⟩ := vw_get h.d1
  obtain rfl : 2 = a := by simpa using e2
  obtain rfl : 3 = b := by simpa using e5
  exact ⟨e1, e4, e3, e6⟩
def fT (gl pl : Nat) : List (Nat × AVal) := [(0, .ptr 0 0 0 1), (2, .ptr 1 0 0 1), (3, .sl 2 0 gl), (4, .sl 3 0 pl), (7, .ptr 4 0 0 1)]
theorem e_mx (a b : Int) : (if b > a then b else a) = mx a b := rfl
theorem cell00 {w a0 b0 wA wB : Int} (h1 : upto w 60 = a0) (h2 : dstep w = wA) (h3 : upto wA 30 = b0) (h4 : dstep wA = wB) : cell w none none = ⟨a0, a0 + mx 0 b0, wB⟩ := by subst h1; subst h2; subst h3; subst h4; rfl
theorem cell01 {w a0 b0 wA wB p1 p2 : Int} (h1 : upto w 60 = a0) (h2 : dstep w = wA) (h3 : upto wA 30 = b0) (h4 : dstep wA = wB) : cell w none (some (p1, p2)) = ⟨mx a0 p1, mx a0 p1 + mx 0 (mx (mx a0 p1 + b0) p2 - mx a0 p1), wB⟩ := by subst h1; subst h2; subst h3; subst h4; rfl
theorem cell10 {w a0 b0 t0 wA wB wC q1 q2 a1 b1 : Int} (h1 : upto w 60 = a0) (h2 : dstep w = wA) (h3 : upto wA 30 = b0) (h4 : dstep wA = wB) (h5 : upto wB 20 = t0) (h6 : dstep wB = wC) (h7 : mx a0 (q1 + t0) = a1) (h8 : mx (a1 + b0) q2 - a1 = b1) :
    cell w (some (q1, q2)) none = ⟨a1, a1 + mx 0 (mx (a1 + b1) q2 - a1), wC⟩ := by subst h1; subst h2; subst h3; subst h4; subst h5; subst h6; subst h7; subst h8; rfl
theorem cell11 {w a0 b0 t0 wA wB wC q1 q2 p1 p2 a1 b1 a2 b2 : Int} (h1 : upto w 60 = a0) (h2 : dstep w = wA) (h3 : upto wA 30 = b0) (h4 : dstep wA = wB) (h5 : upto wB 20 = t0) (h6 : dstep wB = wC) (h7 : mx a0 (q1 + t0) = a1) (h8 : mx (a1 + b0) q2 - a1 = b1) (h9 : mx a1 p1 = a2) (h10 : mx (a2 + b1) p2 - a2 = b2) :
    cell w (some (q1, q2)) (some (p1, p2)) = ⟨a2, a2 + mx 0 (mx (a2 + b2) q2 - a2), wC⟩ := by subst h1; subst h2; subst h3; subst h4; subst h5; subst h6; subst h7; subst h8; subst h9; subst h10; rfl
theorem mx_or (a b : Int) : (a ≤ mx a b ∧ b ≤ mx a b) ∧ (mx a b = a ∨ mx a b = b) := by unfold mx; split <;> omega
theorem Bd1.snoc {m x : Int} {l : List Int} (h : Bd1 m l) (hx : 0 ≤ x ∧ x ≤ m) : Bd1 m (l ++ [x]) := fun y hy => by
  rcases List.mem_append.1 hy with hy | hy
  · exact h y hy
  · obtain rfl : y = x := by simpa using hy
    exact hx
set_option maxHeartbeats 8000000 in
set_option maxRecDepth 20000 in
theorem famOf_any {w w1 w2 : Int} {gL pL : List Int} (k1 : Ans Try.prog n_kit_Lines [.ptr 0 0 0 1, .int .i64 (-9000), .int .i64 3000, .int .i64 5] [some (Dr w)] (.sl 1 0 gL.length) [some (Dr w1), some (.cells true 1 (gL.map (.int .i64)))])
    (k2 : Ans Try.prog n_kit_Lines [.ptr 0 0 0 1, .int .i64 0, .int .i64 300000, .int .i64 5] [some (Dr w1)] (.sl 1 0 pL.length) [some (Dr w2), some (.cells true 1 (pL.map (.int .i64)))]) (gm : gL.length ≤ 5) (pm : pL.length ≤ 5) (g0 : gL ≠ []) (p0 : pL ≠ [])
    (b1 : (upto w2 2 == 0) = false) {w3 : Int} (k3 : Ans Try.prog n_kit_Dice_One [.ptr 0 0 0 1, .int .i64 2] [some (Dr w2)] (.bool (upto w2 2 == 0)) [some (Dr w3)]) {T : TabR} (hT : tabGo pL.length gL.length w3 [] [] = T) :
    Go.Sx.Fn Try.prog n_kit_FamilyOf [.ptr 0 0 0 1] [some (Dr w)] fun v H' => ∃ ι, Dat 6 H' ι v (Fv ⟨gL, pL, T.lo, T.hi⟩) ∧ ι.Nodup ∧ 0 ∉ ι ∧ H'[0]? = some (some (Dr T.w)) := by
  rw [b1] at k3
  refine run_fn e_kit_FamilyOf fun G => ?_
  simp only [go_sem]
  refine cDN k1 ?_ (by rw [bel_sl])
  simp only [go_sem, ren]
  refine cDN k2 ?_ (by rw [bel_sl])
  simp only [go_sem, ren]
  refine cD k3 ?_
  simp only [go_sem]
  refine loop_ind k_kit_FamilyOf_r25.eq_1 (fun a : Nat × Int × Heap × AVal × AVal × AVal × AVal × List (List Int) × List (List Int) => ∃ m, gL.length = a.1 + m ∧ tabGo pL.length m a.2.1 a.2.2.2.2.2.2.2.1 a.2.2.2.2.2.2.2.2 = T ∧ a.2.2.2.2.2.2.2.1.length = a.1 ∧ a.2.2.2.2.2.2.2.2.length = a.1 ∧
      (∀ r ∈ a.2.2.2.2.2.2.2.1, r.length = pL.length ∧ Bd1 (100 * a.1) r) ∧ (∀ r ∈ a.2.2.2.2.2.2.2.2, r.length = pL.length ∧ Bd1 (1000 * a.1) r) ∧
      FmH a.2.2.1 a.2.1 a.2.2.2.1 a.2.2.2.2.1 a.2.2.2.2.2.1 a.2.2.2.2.2.2.1 ∧ ∃ κ2 κ3 κ4 κ5, FS oF a.2.2.1 gL pL a.2.2.2.2.2.2.2.1 a.2.2.2.2.2.2.2.2 [] [] a.2.2.2.1 a.2.2.2.2.1 a.2.2.2.2.2.1 a.2.2.2.2.2.2.1 .nilsl .nilsl [2] [3] κ2 κ3 κ4 κ5) (fun a => gL.length - a.1)
    (fun a => (tsets 140 (fT gL.length pL.length ++ [(8, .int .i64 a.1)]), a.2.2.1)) (0, w3, _, .sl 2 0 gL.length, .sl 3 0 pL.length, .nilsl, .nilsl, [], []) ?_ (by simp [go_sem, fT]) rfl ?_
  · refine ⟨gL.length, by simp, hT, rfl, rfl, by simp, by simp, ⟨rfl, rfl, rfl⟩, [], [], [], [], fun a ha => by unfold oF at ha; simp; omega, vw_put g0 rfl rfl, vw_put p0 rfl rfl, ⟨rfl, rfl, rfl⟩, ⟨rfl, rfl, rfl⟩, ⟨rfl, rfl, rfl⟩, ⟨rfl, rfl, rfl⟩, fun a => ?_, fun a ha => ?_⟩
    · simp only [List.count_cons, List.count_nil, beq_iff_eq]
      split <;> split <;> omega
    · unfold oF at ha
      simp only [List.count_cons, List.count_nil, beq_iff_eq]
      rw [if_neg (by omega), if_neg (by omega)]
  rintro ⟨i, w, J, v0, v1, v2, v3, L, U⟩ ⟨m, hm, hG, hL, hU, bL, bU, ⟨f0, f1, f4⟩, κ2, κ3, κ4, κ5, hF⟩ ih
  dsimp only at hm hG hL hU bL bU f0 f1 f4 hF ih ⊢
  by_cases h1 : i < gL.length
  · obtain ⟨m, rfl⟩ : ∃ n, m = n + 1 := ⟨m - 1, by omega⟩
    have h2 : (i : Int) < gL.length := by omega
    have h3 := idx_next h1 (by omega)
    obtain ⟨Ur, hUr⟩ : ∃ Ur, lastOf L U = Ur := ⟨_, rfl⟩
    simp only [tabGo, hUr] at hG
    obtain ⟨R, hR⟩ : ∃ R, rowGo Ur pL.length w [] [] = R := ⟨_, rfl⟩
    rw [hR] at hG
    obtain ⟨ev0, ev1, f2, f3⟩ := hF.g2
    have c2 := cells_at f2
    simp only [go_sem, fT, h2, c2, List.length_map]
    refine loop_ind k_kit_FamilyOf_r22.eq_1 (fun a : Nat × Int × Heap × AVal × AVal × List Int × List Int => ∃ m, pL.length = a.1 + m ∧ rowGo Ur m a.2.1 a.2.2.2.2.2.1 a.2.2.2.2.2.2 = R ∧ a.2.2.2.2.2.1.length = a.1 ∧ a.2.2.2.2.2.2.length = a.1 ∧ Bd1 (100 * (i + 1)) a.2.2.2.2.2.1 ∧ Bd1 (1000 * (i + 1)) a.2.2.2.2.2.2 ∧
        FmH a.2.2.1 a.2.1 v0 v1 v2 v3 ∧ ∃ κ2 κ3 κ4 κ5, FS oF a.2.2.1 gL pL L U a.2.2.2.2.2.1 a.2.2.2.2.2.2 v0 v1 v2 v3 a.2.2.2.1 a.2.2.2.2.1 [2] [3] κ2 κ3 κ4 κ5) (fun a => pL.length - a.1)
      (fun a => (tsets 140 (fT gL.length pL.length ++ [(8, .int .i64 i), (9, a.2.2.2.1), (10, a.2.2.2.2.1), (11, .int .i64 a.1)]), a.2.2.1)) (0, w, J, .nilsl, .nilsl, [], []) ⟨pL.length, by simp, hR, rfl, rfl, by simp [Bd1], by simp [Bd1], ⟨f0, f1, f4⟩, _, _, _, _, hF⟩ (by simp [go_sem, fT]) rfl ?_
    rintro ⟨k, w, J, v4, v5, lo, hi⟩ ⟨n, hn, hRg, hlo, hhi, blo, bhi, ⟨f0, f1, f4⟩, κ2, κ3, κ4, κ5, hF⟩ ihk
    dsimp only at hn hRg hlo hhi blo bhi f0 f1 f4 hF ihk ⊢
    obtain ⟨-, -, f2, f3⟩ := hF.g2
    have c3 := cells_at f3
    by_cases j1 : k < pL.length
    · obtain ⟨n, rfl⟩ : ∃ q, n = q + 1 := ⟨n - 1, by omega⟩
      have j2 : (k : Int) < pL.length := by omega
      have j3 := idx_next j1 (by omega)
      simp only [rowGo] at hRg
      have u1 := upto_ok w 60 (by omega)
      have t1 := upto_in (w := w) (n := 60) (by omega)
      obtain ⟨a0, ha0⟩ : ∃ x, upto w 60 = x := ⟨_, rfl⟩
      obtain ⟨wA, hwA⟩ : ∃ x, dstep w = x := ⟨_, rfl⟩
      rw [ha0] at u1 t1
      rw [hwA] at u1
      have u2 := upto_ok wA 30 (by omega)
      have t2 := upto_in (w := wA) (n := 30) (by omega)
      obtain ⟨b0, hb0⟩ : ∃ x, upto wA 30 = x := ⟨_, rfl⟩
      obtain ⟨wB, hwB⟩ : ∃ x, dstep wA = x := ⟨_, rfl⟩
      rw [hb0] at u2 t2
      rw [hwB] at u2
      have u3 := upto_ok wB 20 (by omega)
      have t3 := upto_in (w := wB) (n := 20) (by omega)
      obtain ⟨t0, ht0⟩ : ∃ x, upto wB 20 = x := ⟨_, rfl⟩
      obtain ⟨wC, hwC⟩ : ∃ x, dstep wB = x := ⟨_, rfl⟩
      rw [ht0] at u3 t3
      rw [hwC] at u3
      have z4 := (List.getElem?_eq_some_iff.1 f4).1
      have hset : ∀ X : Row, (J.set 0 (some X))[0]? = some (some X) := fun X => List.getElem?_set_self (by omega)
      have off : ∀ {j : Nat} {g : Bool} {sz : Nat} {es : List AVal}, J[j]? = some (some (.cells g sz es)) → j ≠ 0 → ∀ X, Heap.cellsAt (J.set 0 X) j = some (g, sz, es) := fun h hj X => cells_at (by rw [List.getElem?_set_ne (fun e => hj e.symm)]; exact h)
      have hF2 : ∀ X, FS oF (J.set 0 X) gL pL L U lo hi v0 v1 v2 v3 v4 v5 [2] [3] κ2 κ3 κ4 κ5 := fun X => hF.fix (fun q hq => List.getElem?_set_ne (fun e => hq (by simp [oF, ← e]))) (fun a ha => by have := hF.len a ha; simpa using this)
      have hlen : ∀ X, (J.set 0 X).length = J.length := fun X => List.length_set
      by_cases i0 : i = 0
      · have hU0 : Ur = none := by rw [← hUr]; unfold lastOf; rw [if_pos (by omega)]
        rw [hU0] at hRg ihk
        have eu : upOf none lo.length = none := rfl
        rw [eu] at hRg
        have g1 : ¬ (i : Int) > 0 := by omega
        by_cases k0 : k = 0
        · skip
          have g2 : ¬ (k : Int) > 0 := by omega
          have : lo = [] := List.length_eq_zero_iff.1 (by omega)
          subst this
          have : hi = [] := List.length_eq_zero_iff.1 (by omega)
          subst this
          obtain ⟨e4, e5, -⟩ := hF.first
          subst e4; subst e5
          have ec : cell w none (prevOf [] []) = ⟨a0, a0 + mx 0 b0, wB⟩ := cell00 ha0 hwA hb0 hwB
          rw [ec] at hRg
          have m1 := mx_or 0 b0
          have x1 : IntKind.i64.wrap (a0 + mx 0 b0) = a0 + mx 0 b0 := w64 (by omega)
          simp only [go_sem, fT, j2, c3, List.length_map]
          refine cD u1 ?_ (hj := f0) (hk := by omega)
          simp only [go_sem]
          refine cD u2 ?_ (hj := hset _) (hk := by rw [hlen]; omega)
          simp only [go_sem, g1, g2, j3, List.set_set, e_mx, x1]
          refine ⟨by decide, by decide, ?_⟩
          exact ihk (k + 1, wB, _, _, _, [a0], [a0 + mx 0 b0]) (by omega) ⟨n, by omega, hRg, by simp; omega, by simp; omega, Bd1.snoc (l := []) (by simp [Bd1]) (by omega), Bd1.snoc (l := []) (by simp [Bd1]) (by omega), ⟨by rw [List.getElem?_append_left (by rw [hlen]; omega)]; exact hset _, by rw [List.getElem?_append_left (by rw [hlen]; omega), List.getElem?_set_ne (by omega)]; exact f1, by rw [List.getElem?_append_left (by rw [hlen]; omega), List.getElem?_set_ne (by omega)]; exact f4⟩, _, _, _, _,
            (hF2 (Dr wB)).first.2.2 _ ((J.set 0 (some (Dr wB))).length + 1) ((J.set 0 (some (Dr wB))).length + 3) (a0) (a0 + mx 0 b0) (by omega) (by omega) (by omega) (fun q _ hq => List.getElem?_append_left hq) (by rw [get_new rfl]; rfl) (by rw [get_new rfl]; rfl)⟩ _ (by simp [go_sem, fT])
        · skip
          have g2 : (k : Int) > 0 := by omega
          obtain ⟨j, rfl⟩ : ∃ j, k = j + 1 := ⟨k - 1, by omega⟩
          have lo0 : lo ≠ [] := by rintro rfl; simp at hlo
          have hi0 : hi ≠ [] := by rintro rfl; simp at hhi
          obtain ⟨r, s, e4, e5, hrs, hr, hs, g4, g5, -⟩ := hF.next lo0 hi0
          have r0 : r ≠ 0 := by rintro rfl; exact hr (by simp [oF])
          have s0 : s ≠ 0 := by rintro rfl; exact hs (by simp [oF])
          have l1 := get_at (l := lo) (i := j) (by omega)
          have l2 := get_at (l := hi) (i := j) (by omega)
          have l3 := blo.at1 (i := j) (by omega)
          have l4 := bhi.at1 (i := j) (by omega)
          have ep : prevOf lo hi = some (at1 lo j, at1 hi j) := by unfold prevOf; rw [if_neg (by omega), hlo, Nat.add_sub_cancel]
          rw [ep] at hRg
          obtain ⟨p1, hp1⟩ : ∃ x, at1 lo j = x := ⟨_, rfl⟩
          obtain ⟨p2, hp2⟩ : ∃ x, at1 hi j = x := ⟨_, rfl⟩
          rw [hp1] at l1 l3 hRg
          rw [hp2] at l2 l4 hRg
          rw [cell01 ha0 hwA hb0 hwB] at hRg
          have m1 := mx_or a0 p1
          obtain ⟨a2, ha2⟩ : ∃ x, mx a0 p1 = x := ⟨_, rfl⟩
          rw [ha2] at hRg m1
          have m2 := mx_or (a2 + b0) p2
          obtain ⟨h2', hh2⟩ : ∃ x, mx (a2 + b0) p2 = x := ⟨_, rfl⟩
          rw [hh2] at hRg m2
          have m3 := mx_or 0 (h2' - a2)
          have x1 : IntKind.i64.wrap (a2 + b0) = a2 + b0 := w64 (by omega)
          have x2 : IntKind.i64.wrap (h2' - a2) = h2' - a2 := w64 (by omega)
          have x3 : IntKind.i64.wrap (a2 + mx 0 (h2' - a2)) = a2 + mx 0 (h2' - a2) := w64 (by omega)
          have x4 : IntKind.i64.wrap (((j + 1 : Nat) : Int) - 1) = j := by rw [w64 (by omega)]; omega
          have n4 : ¬ (j : Int) < 0 := by omega
          have d1 := off g4 r0
          have d2 := off g5 s0
          have y1 : (j : Int) < lo.length := by omega
          have y2 : (j : Int) < hi.length := by omega
          have y3 : (lo.length + 1) * 8 ≤ 2 ^ 44 := by omega
          have y4 : (hi.length + 1) * 8 ≤ 2 ^ 44 := by omega
          have hrl := (List.getElem?_eq_some_iff.1 g4).1
          have hsl := (List.getElem?_eq_some_iff.1 g5).1
          have q1 := fun X Y => cells_more (d1 X) Y
          have q2 := fun X Y x => put_more (H := J.set 0 X) (j := r) (by rw [List.length_set]; exact hrl) Y x
          have q3 := fun X x Y => cells_more (H := (J.set 0 X).set r x) (j := s) (cells_at (by rw [List.getElem?_set_ne hrs, List.getElem?_set_ne (fun e => s0 e.symm)]; exact g5)) Y
          have q4 := fun X z Y x => put_more (H := (J.set 0 X).set r z) (j := s) (by simpa using hsl) Y x
          obtain ⟨r', s', e4', e5', -, -, -, -, -, hnn⟩ := (hF2 (Dr wB)).next lo0 hi0
          subst e4; subst e5
          obtain rfl : r = r' := by simpa using e4'
          obtain rfl : s = s' := by simpa using e5'
          simp only [go_sem, fT, j2, c3, List.length_map]
          refine cD u1 ?_ (hj := f0) (hk := by omega)
          simp only [go_sem]
          refine cD u2 ?_ (hj := hset _) (hk := by rw [hlen]; omega)
          simp only [go_sem, g1, g2, j3, List.set_set, e_mx, d1, d2, l1, l2, x4, n4, Int.toNat_natCast, ha2, hh2, x1, x2, x3, y1, y2, y3, y4, q1, q2, q3, q4]
          have hrl' : r < (J.set 0 (some (Dr wB))).length := by rw [hlen]; exact hrl
          have hsl' : s < (J.set 0 (some (Dr wB))).length := by rw [hlen]; exact hsl
          have nF : ∀ q, oF q → q ≠ r ∧ q ≠ s := fun q hq => ⟨fun e => hr (by rw [← e]; exact hq), fun e => hs (by rw [← e]; exact hq)⟩
          exact ihk (j + 1 + 1, wB, _, _, _, lo ++ [a2], hi ++ [a2 + mx 0 (h2' - a2)]) (by omega) ⟨n, by omega, hRg, by simp; omega, by simp; omega, blo.snoc (by omega), bhi.snoc (by omega), ⟨by rw [two_off (by rw [hlen]; omega) (nF 0 (by simp [oF])).1 (nF 0 (by simp [oF])).2]; exact hset _, by rw [two_off (by rw [hlen]; omega) (nF 1 (by simp [oF])).1 (nF 1 (by simp [oF])).2, List.getElem?_set_ne (by omega)]; exact f1, by rw [two_off (by rw [hlen]; omega) (nF 4 (by simp [oF])).1 (nF 4 (by simp [oF])).2, List.getElem?_set_ne (by omega)]; exact f4⟩, _, _, _, _,
            hnn _ (a2) (a2 + mx 0 (h2' - a2)) (fun q _ hl a b => two_off hl a b) (two_r hrl' hrs) (two_s hsl') (fun a ha => by have := hF.len a ha; simp; omega)⟩ _ (by simp [go_sem, fT])
      · skip
        have g1 : (i : Int) > 0 := by omega
        obtain ⟨i', rfl⟩ : ∃ q, i = q + 1 := ⟨i - 1, by omega⟩
        have L0 : L ≠ [] := by rintro rfl; simp at hL
        have U0 : U ≠ [] := by rintro rfl; simp at hU
        obtain ⟨ra, hra⟩ : ∃ x, L[i']? = some x := ⟨_, List.getElem?_eq_getElem (by omega)⟩
        obtain ⟨rb, hrb⟩ : ∃ x, U[i']? = some x := ⟨_, List.getElem?_eq_getElem (by omega)⟩
        obtain ⟨la, ba⟩ := bL ra (List.mem_of_getElem? hra)
        obtain ⟨lb, bb⟩ := bU rb (List.mem_of_getElem? hrb)
        have hU0 : Ur = some (ra, rb) := by
          rw [← hUr]; unfold lastOf; rw [if_neg (by omega), hL]
          simp only [Nat.add_sub_cancel]
          rw [List.getD_eq_getElem?_getD, List.getD_eq_getElem?_getD, hra, hrb]; rfl
        rw [hU0] at hRg ihk
        have eu : upOf (some (ra, rb)) lo.length = some (at1 ra k, at1 rb k) := by rw [hlo]; rfl
        rw [eu] at hRg
        obtain ⟨tr, ts, vs, us, ta, tb, ev2, ev3, nr, ns, na, nb, gr, gs, lvs, lus, gva, gub, ga, gb⟩ := hF.read L0 U0 hra hrb
        have tr0 : tr ≠ 0 := by rintro rfl; exact nr (by simp [oF])
        have ts0 : ts ≠ 0 := by rintro rfl; exact ns (by simp [oF])
        have ta0 : ta ≠ 0 := by rintro rfl; exact na (by simp [oF])
        have tb0 : tb ≠ 0 := by rintro rfl; exact nb (by simp [oF])
        have o4 := off f4 (by omega)
        have o1 := off gr tr0
        have o2 := off gs ts0
        have o3 := off ga ta0
        have o5 := off gb tb0
        have l5 := get_at (l := ra) (i := k) (by omega)
        have l6 := get_at (l := rb) (i := k) (by omega)
        have l7 := ba.at1 (i := k) (by omega)
        have l8 := bb.at1 (i := k) (by omega)
        obtain ⟨q1', hq1'⟩ : ∃ x, at1 ra k = x := ⟨_, rfl⟩
        obtain ⟨q2', hq2'⟩ : ∃ x, at1 rb k = x := ⟨_, rfl⟩
        rw [hq1'] at l5 l7 hRg
        rw [hq2'] at l6 l8 hRg
        have x5 : IntKind.i64.wrap (((i' + 1 : Nat) : Int) - 1) = i' := by rw [w64 (by omega)]; omega
        have n5 : ¬ (i' : Int) < 0 := by omega
        have n6 : ¬ (k : Int) < 0 := by omega
        have y5 : (i' : Int) < L.length := by omega
        have y6 : (i' : Int) < U.length := by omega
        have y7 : (k : Int) < ra.length := by omega
        have y8 : (k : Int) < rb.length := by omega
        have m4 := mx_or a0 (q1' + t0)
        obtain ⟨a1, ha1⟩ : ∃ x, mx a0 (q1' + t0) = x := ⟨_, rfl⟩
        rw [ha1] at m4
        have m5 := mx_or (a1 + b0) q2'
        obtain ⟨h1', hh1⟩ : ∃ x, mx (a1 + b0) q2' = x := ⟨_, rfl⟩
        rw [hh1] at m5
        have x6 : IntKind.i64.wrap (q1' + t0) = q1' + t0 := w64 (by omega)
        have x7 : IntKind.i64.wrap (a1 + b0) = a1 + b0 := w64 (by omega)
        have x8 : IntKind.i64.wrap (h1' - a1) = h1' - a1 := w64 (by omega)
        subst ev2; subst ev3
        by_cases k0 : k = 0
        · skip
          have g2 : ¬ (k : Int) > 0 := by omega
          have : lo = [] := List.length_eq_zero_iff.1 (by omega)
          subst this
          have : hi = [] := List.length_eq_zero_iff.1 (by omega)
          subst this
          obtain ⟨e4, e5, -⟩ := hF.first
          subst e4; subst e5
          have ec : cell w (some (q1', q2')) (prevOf [] []) = ⟨a1, a1 + mx 0 (mx (a1 + (h1' - a1)) q2' - a1), wC⟩ := cell10 ha0 hwA hb0 hwB ht0 hwC ha1 (by rw [hh1])
          rw [ec] at hRg
          have m6 := mx_or (a1 + (h1' - a1)) q2'
          obtain ⟨h3', hh3⟩ : ∃ x, mx (a1 + (h1' - a1)) q2' = x := ⟨_, rfl⟩
          rw [hh3] at hRg m6
          have m1 := mx_or 0 (h3' - a1)
          have x9 : IntKind.i64.wrap (a1 + (h1' - a1)) = a1 + (h1' - a1) := w64 (by omega)
          have x10 : IntKind.i64.wrap (h3' - a1) = h3' - a1 := w64 (by omega)
          have x11 : IntKind.i64.wrap (a1 + mx 0 (h3' - a1)) = a1 + mx 0 (h3' - a1) := w64 (by omega)
          simp only [go_sem, fT, j2, c3, List.length_map]
          refine cD u1 ?_ (hj := f0) (hk := by omega)
          simp only [go_sem]
          refine cD u2 ?_ (hj := hset _) (hk := by rw [hlen]; omega)
          simp only [go_sem, g1, g2, List.set_set, e_mx, o1, o2, o3, o4, o5, l5, l6, x5, x6, x7, x8, n5, n6, y5, y6, y7, y8, gva, gub, ha1, hh1, lvs, lus, Int.toNat_natCast]
          refine dD u3 ?_ (hj := hset _) (hd := by simp [go_sem]; exact ⟨tr0, ta0⟩)
          simp only [go_sem, g1, g2, j3, List.set_set, e_mx, o1, o2, o3, o4, o5, l5, l6, x5, x6, x7, x8, n5, n6, y5, y6, y7, y8, gva, gub, ha1, hh1, lvs, lus, Int.toNat_natCast, x9, hh3, x10, x11]
          refine ⟨by decide, by decide, ?_⟩
          exact ihk (k + 1, wC, _, _, _, [a1], [a1 + mx 0 (h3' - a1)]) (by omega) ⟨n, by omega, hRg, by simp; omega, by simp; omega, Bd1.snoc (l := []) (by simp [Bd1]) (by omega), Bd1.snoc (l := []) (by simp [Bd1]) (by omega), ⟨by rw [List.getElem?_append_left (by rw [hlen]; omega)]; exact hset _, by rw [List.getElem?_append_left (by rw [hlen]; omega), List.getElem?_set_ne (by omega)]; exact f1, by rw [List.getElem?_append_left (by rw [hlen]; omega), List.getElem?_set_ne (by omega)]; exact f4⟩, _, _, _, _,
            (hF2 (Dr wC)).first.2.2 _ ((J.set 0 (some (Dr wC))).length + 1) ((J.set 0 (some (Dr wC))).length + 3) (a1) (a1 + mx 0 (h3' - a1)) (by omega) (by omega) (by omega) (fun q _ hq => List.getElem?_append_left hq) (by rw [get_new rfl]; rfl) (by rw [get_new rfl]; rfl)⟩ _ (by simp [go_sem, fT])
        · skip
          have g2 : (k : Int) > 0 := by omega
          obtain ⟨j, rfl⟩ : ∃ j, k = j + 1 := ⟨k - 1, by omega⟩
          have lo0 : lo ≠ [] := by rintro rfl; simp at hlo
          have hi0 : hi ≠ [] := by rintro rfl; simp at hhi
          obtain ⟨r, s, e4, e5, hrs, hr, hs, g4, g5, -⟩ := hF.next lo0 hi0
          have r0 : r ≠ 0 := by rintro rfl; exact hr (by simp [oF])
          have s0 : s ≠ 0 := by rintro rfl; exact hs (by simp [oF])
          have l1 := get_at (l := lo) (i := j) (by omega)
          have l2 := get_at (l := hi) (i := j) (by omega)
          have l3 := blo.at1 (i := j) (by omega)
          have l4 := bhi.at1 (i := j) (by omega)
          have ep : prevOf lo hi = some (at1 lo j, at1 hi j) := by unfold prevOf; rw [if_neg (by omega), hlo, Nat.add_sub_cancel]
          rw [ep] at hRg
          obtain ⟨p1, hp1⟩ : ∃ x, at1 lo j = x := ⟨_, rfl⟩
          obtain ⟨p2, hp2⟩ : ∃ x, at1 hi j = x := ⟨_, rfl⟩
          rw [hp1] at l1 l3 hRg
          rw [hp2] at l2 l4 hRg
          obtain ⟨a2, ha2⟩ : ∃ x, mx a1 p1 = x := ⟨_, rfl⟩
          have m1 := mx_or a1 p1
          rw [ha2] at m1
          obtain ⟨h2', hh2⟩ : ∃ x, mx (a2 + (h1' - a1)) p2 = x := ⟨_, rfl⟩
          have m2 := mx_or (a2 + (h1' - a1)) p2
          rw [hh2] at m2
          rw [cell11 ha0 hwA hb0 hwB ht0 hwC ha1 (by rw [hh1]) ha2 (by rw [hh2])] at hRg
          obtain ⟨h3', hh3⟩ : ∃ x, mx (a2 + (h2' - a2)) q2' = x := ⟨_, rfl⟩
          have m6 := mx_or (a2 + (h2' - a2)) q2'
          rw [hh3] at hRg m6
          have m3 := mx_or 0 (h3' - a2)
          have x1 : IntKind.i64.wrap (a2 + (h1' - a1)) = a2 + (h1' - a1) := w64 (by omega)
          have x2 : IntKind.i64.wrap (h2' - a2) = h2' - a2 := w64 (by omega)
          have x9 : IntKind.i64.wrap (a2 + (h2' - a2)) = a2 + (h2' - a2) := w64 (by omega)
          have x10 : IntKind.i64.wrap (h3' - a2) = h3' - a2 := w64 (by omega)
          have x3 : IntKind.i64.wrap (a2 + mx 0 (h3' - a2)) = a2 + mx 0 (h3' - a2) := w64 (by omega)
          have x4 : IntKind.i64.wrap (((j + 1 : Nat) : Int) - 1) = j := by rw [w64 (by omega)]; omega
          have n4 : ¬ (j : Int) < 0 := by omega
          have d1 := off g4 r0
          have d2 := off g5 s0
          have y1 : (j : Int) < lo.length := by omega
          have y2 : (j : Int) < hi.length := by omega
          have y3 : (lo.length + 1) * 8 ≤ 2 ^ 44 := by omega
          have y4 : (hi.length + 1) * 8 ≤ 2 ^ 44 := by omega
          have hrl := (List.getElem?_eq_some_iff.1 g4).1
          have hsl := (List.getElem?_eq_some_iff.1 g5).1
          have q1 := fun X Y => cells_more (d1 X) Y
          have q2 := fun X Y x => put_more (H := J.set 0 X) (j := r) (by rw [List.length_set]; exact hrl) Y x
          have q3 := fun X x Y => cells_more (H := (J.set 0 X).set r x) (j := s) (cells_at (by rw [List.getElem?_set_ne hrs, List.getElem?_set_ne (fun e => s0 e.symm)]; exact g5)) Y
          have q4 := fun X z Y x => put_more (H := (J.set 0 X).set r z) (j := s) (by simpa using hsl) Y x
          obtain ⟨r', s', e4', e5', -, -, -, -, -, hnn⟩ := (hF2 (Dr wC)).next lo0 hi0
          subst e4; subst e5
          obtain rfl : r = r' := by simpa using e4'
          obtain rfl : s = s' := by simpa using e5'
          simp only [go_sem, fT, j2, c3, List.length_map]
          refine cD u1 ?_ (hj := f0) (hk := by omega)
          simp only [go_sem]
          refine cD u2 ?_ (hj := hset _) (hk := by rw [hlen]; omega)
          simp only [go_sem, g1, g2, List.set_set, e_mx, o1, o2, o3, o4, o5, l5, l6, x5, x6, x7, x8, n5, n6, y5, y6, y7, y8, gva, gub, ha1, hh1, lvs, lus, Int.toNat_natCast]
          refine dD u3 ?_ (hj := hset _) (hd := by simp [go_sem]; exact ⟨tr0, ta0⟩)
          simp only [go_sem, g1, g2, j3, List.set_set, e_mx, o1, o2, o3, o4, o5, l5, l6, x5, x6, x7, x8, n5, n6, y5, y6, y7, y8, gva, gub, ha1, hh1, lvs, lus, Int.toNat_natCast, d1, d2, l1, l2, x4, n4, ha2, hh2, hh3, x1, x2, x3, x9, x10, y1, y2, y3, y4, q1, q2, q3, q4]
          have hrl' : r < (J.set 0 (some (Dr wC))).length := by rw [hlen]; exact hrl
          have hsl' : s < (J.set 0 (some (Dr wC))).length := by rw [hlen]; exact hsl
          have nF : ∀ q, oF q → q ≠ r ∧ q ≠ s := fun q hq => ⟨fun e => hr (by rw [← e]; exact hq), fun e => hs (by rw [← e]; exact hq)⟩
          exact ihk (j + 1 + 1, wC, _, _, _, lo ++ [a2], hi ++ [a2 + mx 0 (h3' - a2)]) (by omega) ⟨n, by omega, hRg, by simp; omega, by simp; omega, blo.snoc (by omega), bhi.snoc (by omega), ⟨by rw [two_off (by rw [hlen]; omega) (nF 0 (by simp [oF])).1 (nF 0 (by simp [oF])).2]; exact hset _, by rw [two_off (by rw [hlen]; omega) (nF 1 (by simp [oF])).1 (nF 1 (by simp [oF])).2, List.getElem?_set_ne (by omega)]; exact f1, by rw [two_off (by rw [hlen]; omega) (nF 4 (by simp [oF])).1 (nF 4 (by simp [oF])).2, List.getElem?_set_ne (by omega)]; exact f4⟩, _, _, _, _,
            hnn _ (a2) (a2 + mx 0 (h3' - a2)) (fun q _ hl a b => two_off hl a b) (two_r hrl' hrs) (two_s hsl') (fun a ha => by have := hF.len a ha; simp; omega)⟩ _ (by simp [go_sem, fT])
    · have j2 : ¬ (k : Int) < pL.length := by omega
      obtain rfl : n = 0 := by omega
      simp only [rowGo] at hRg
      subst hRg
      simp only at hG
      have kp : k = pL.length := by omega
      have lo0 : lo ≠ [] := by rintro rfl; simp at hlo; exact p0 (List.length_eq_zero_iff.1 (by omega))
      have hi0 : hi ≠ [] := by rintro rfl; simp at hhi; exact p0 (List.length_eq_zero_iff.1 (by omega))
      clear ihk
      have bL' : ∀ r ∈ L ++ [lo], r.length = pL.length ∧ Bd1 (100 * ((i + 1 : Nat) : Int)) r := fun r hr => by
        rcases List.mem_append.1 hr with hr | hr
        · exact ⟨(bL r hr).1, fun x hx => by have := (bL r hr).2 x hx; omega⟩
        · obtain rfl : r = lo := by simpa using hr
          exact ⟨by omega, fun x hx => by have := blo x hx; omega⟩
      have bU' : ∀ r ∈ U ++ [hi], r.length = pL.length ∧ Bd1 (1000 * ((i + 1 : Nat) : Int)) r := fun r hr => by
        rcases List.mem_append.1 hr with hr | hr
        · exact ⟨(bU r hr).1, fun x hx => by have := (bU r hr).2 x hx; omega⟩
        · obtain rfl : r = hi := by simpa using hr
          exact ⟨by omega, fun x hx => by have := bhi x hx; omega⟩
      obtain ⟨r4, e4, -, -⟩ := ls_get hF.d4 lo0
      obtain ⟨r5, e5, -, -⟩ := ls_get hF.d5 hi0
      subst e4; subst e5
      have c4 := cells_at f4
      have z0 := hF.len 4 (by simp [oF])
      have hlt4 := (List.getElem?_eq_some_iff.1 f4).1
      have q1 := fun Y => cells_more c4 Y
      subst ev0; subst ev1
      by_cases i0 : i = 0
      · have : L = [] := List.length_eq_zero_iff.1 (by omega)
        subst this
        have : U = [] := List.length_eq_zero_iff.1 (by omega)
        subst this
        obtain ⟨e2, e3, hn⟩ := hF.row1 lo0 hi0
        subst e2; subst e3
        have q2 := fun Y x => put_more (H := J) hlt4 Y x
        have q3 := fun g sz es Y => cells_more (H := J.set 4 (some (Row.cells g sz es))) (j := 4) (cells_at (List.getElem?_set_self hlt4)) Y
        have q4 := fun z Y x => put_more (H := J.set 4 z) (j := 4) (by simpa using hlt4) Y x
        simp only [go_sem, fT, j2, c3, List.length_map, c4, h3, q1, q2, q3, q4, List.set_set]
        refine ⟨by simp; omega, by decide, by simp; omega, by simp; omega, by simp; omega, by decide, by simp; omega, ?_⟩
        have off : ∀ (A : Option Row) (Y : Heap) (q : Nat), q < J.length → q ≠ 4 → (J.set 4 A ++ Y)[q]? = J[q]? := fun A Y q hq hn => by rw [List.getElem?_append_left (by simpa using hq), List.getElem?_set_ne (fun e => hn e.symm)]
        have at4 : ∀ (A : Option Row) (Y : Heap), (J.set 4 A ++ Y)[4]? = some A := fun A Y => by rw [List.getElem?_append_left (by simpa using hlt4), List.getElem?_set_self hlt4]
        exact ih (i + 1, w, _, _, _, _, _, [lo], [hi]) (by omega) ⟨m, by omega, hG, by simp; omega, by simp; omega, bL', bU', ⟨by rw [off _ _ 0 (by omega) (by omega)]; exact f0, by rw [off _ _ 1 (by omega) (by omega)]; exact f1, at4 _ _⟩, _, _, _, _, hn _ (J.length + 1) (J.length + 3) (by omega) (by omega) (by omega) (fun q hnF hq => off _ _ q hq (by rintro rfl; exact hnF (by simp [oF]))) (by rw [get_new (by simp)]; rfl) (by rw [get_new (by simp)]; rfl)⟩ _ (by simp [go_sem, fT])
      · have L0 : L ≠ [] := by rintro rfl; simp at hL; omega
        have U0 : U ≠ [] := by rintro rfl; simp at hU; omega
        obtain ⟨r, s, vs, us, κ2', κ3', e2, e3, hrs, hr, hs, g2, g3, l2, l3, hn⟩ := hF.rows L0 U0 lo0 hi0
        subst e2; subst e3
        have hrl := (List.getElem?_eq_some_iff.1 g2).1
        have hsl := (List.getElem?_eq_some_iff.1 g3).1
        have r4' : r ≠ 4 := by rintro rfl; exact hr (by simp [oF])
        have s4' : s ≠ 4 := by rintro rfl; exact hs (by simp [oF])
        have z1 : (L.length + 1) * 24 ≤ 2 ^ 44 := by omega
        have z2 : (U.length + 1) * 24 ≤ 2 ^ 44 := by omega
        have a1 := fun Y => cells_more (cells_at g2) Y
        have a2 := fun Y x => put_more (H := J) hrl Y x
        have a3 := fun x Y => cells_more (H := J.set r x) (j := 4) (cells_at (by rw [List.getElem?_set_ne r4']; exact f4)) Y
        have a4 := fun x Y => cells_more (H := J.set r x) (j := s) (cells_at (by rw [List.getElem?_set_ne hrs]; exact g3)) Y
        have a5 := fun z Y x => put_more (H := J.set r z) (j := s) (by simpa using hsl) Y x
        have a6 := fun x y Y => cells_more (H := (J.set r x).set s y) (j := 4) (cells_at (by rw [List.getElem?_set_ne s4', List.getElem?_set_ne r4']; exact f4)) Y
        have a7 := fun z y Y x => put_more (H := (J.set r z).set s y) (j := 4) (by simpa using hlt4) Y x
        have a8 := fun x y g sz es Y => cells_more (H := ((J.set r x).set s y).set 4 (some (Row.cells g sz es))) (j := 4) (cells_at (List.getElem?_set_self (by simpa using hlt4))) Y
        have a9 := fun z y w Y x => put_more (H := ((J.set r z).set s y).set 4 w) (j := 4) (by simpa using hlt4) Y x
        simp only [go_sem, fT, j2, c3, List.length_map, c4, h3, q1, a1, a2, a3, a4, a5, a6, a7, a8, a9, List.set_set, z1, z2, l2, l3]
        refine ⟨by simp; omega, by simp; omega, by simp; omega, by simp; omega, by simp; omega, ?_⟩
        have off : ∀ (A B C : Option Row) (Y : Heap) (q : Nat), q < J.length → q ≠ r → q ≠ s → q ≠ 4 → (((J.set r A).set s B).set 4 C ++ Y)[q]? = J[q]? := fun A B C Y q hq n1 n2 n3 => by
          rw [List.getElem?_append_left (by simpa using hq), List.getElem?_set_ne (fun e => n3 e.symm), List.getElem?_set_ne (fun e => n2 e.symm), List.getElem?_set_ne (fun e => n1 e.symm)]
        have at4 : ∀ (A B C : Option Row) (Y : Heap), (((J.set r A).set s B).set 4 C ++ Y)[4]? = some C := fun A B C Y => by rw [List.getElem?_append_left (by simpa using hlt4), List.getElem?_set_self (by simpa using hlt4)]
        have atr : ∀ (A B C : Option Row) (Y : Heap), (((J.set r A).set s B).set 4 C ++ Y)[r]? = some A := fun A B C Y => by
          rw [List.getElem?_append_left (by simpa using hrl), List.getElem?_set_ne (fun e => r4' e.symm), List.getElem?_set_ne (fun e => hrs e.symm), List.getElem?_set_self hrl]
        have ats : ∀ (A B C : Option Row) (Y : Heap), (((J.set r A).set s B).set 4 C ++ Y)[s]? = some B := fun A B C Y => by
          rw [List.getElem?_append_left (by simpa using hsl), List.getElem?_set_ne (fun e => s4' e.symm), List.getElem?_set_self (by simpa using hsl)]
        have nr : ∀ q, oF q → q ≠ r := fun q hq e => hr (by rw [← e]; exact hq)
        have ns : ∀ q, oF q → q ≠ s := fun q hq e => hs (by rw [← e]; exact hq)
        exact ih (i + 1, w, _, _, _, _, _, L ++ [lo], U ++ [hi]) (by omega) ⟨m, by omega, hG, by simp; omega, by simp; omega, bL', bU', ⟨by rw [off _ _ _ _ 0 (by omega) (nr 0 (by simp [oF])) (ns 0 (by simp [oF])) (by omega)]; exact f0, by rw [off _ _ _ _ 1 (by omega) (nr 1 (by simp [oF])) (ns 1 (by simp [oF])) (by omega)]; exact f1, at4 _ _ _ _⟩, _, _, _, _,
          hn _ (fun q hnF hq n1 n2 => off _ _ _ _ q hq n1 n2 (by rintro rfl; exact hnF (by simp [oF]))) (atr _ _ _ _) (ats _ _ _ _) (fun a ha => by have := hF.len a ha; simp; omega)⟩ _ (by simp [go_sem, fT])
  · have h2 : ¬ (i : Int) < gL.length := by omega
    obtain rfl : m = 0 := by omega
    simp only [tabGo] at hG
    subst hG
    have L0 : L ≠ [] := by rintro rfl; simp at hL; exact g0 (List.length_eq_zero_iff.1 (by omega))
    have U0 : U ≠ [] := by rintro rfl; simp at hU; exact g0 (List.length_eq_zero_iff.1 (by omega))
    obtain ⟨ι, hD, hnd, hge⟩ := hF.all L0 U0
    obtain ⟨ev0, ev1, f2, f3⟩ := hF.g2
    obtain ⟨b2, _, _, e2, -, -, -⟩ := tb_get hF.d2 L0
    obtain ⟨b3, _, _, e3, -, -, -⟩ := tb_get hF.d3 U0
    subst ev0; subst ev1; subst e2; subst e3
    have c2 := cells_at f2
    have c4 := cells_at f4
    have c1 := cells_at f1
    have hlt1 := (List.getElem?_eq_some_iff.1 f1).1
    have q1 := fun x => put_lt (H := J) (x := x) hlt1
    have q2 := fun g sz es => cells_at (H := J.set 1 (some (Row.cells g sz es))) (j := 1) (List.getElem?_set_self hlt1)
    simp only [go_sem, fT, h2, c2, List.length_map, c4, c1, q1, q2]
    exact ⟨ι, hD.set _ (fun h => hge 1 h (by simp [oF])), hnd, fun h => hge 0 h (by simp [oF]), by rw [List.getElem?_set_ne (by omega)]; exact f0⟩
end Go.Proofs

namespace Go.Proofs
open Go Go.Sx Go.Fam
attribute [local irreducible] Run

theorem tabGo_ok (n : Nat) : ∀ (m : Nat) (w : Int) (L H : List (List Int)), (∀ r ∈ L, r.length = n) → (∀ r ∈ H, r.length = n) → (tabGo n m w L H).lo.length = L.length + m ∧ (tabGo n m w L H).hi.length = H.length + m ∧ (∀ r ∈ (tabGo n m w L H).lo, r.length = n) ∧ ∀ r ∈ (tabGo n m w L H).hi, r.length = n
  | 0, w, L, H, h1, h2 => ⟨rfl, rfl, h1, h2⟩
  | m + 1, w, L, H, h1, h2 => by
    have hr := rowGo_len (lastOf L H) n w [] []
    obtain ⟨a, b, c, d⟩ := tabGo_ok n m (rowGo (lastOf L H) n w [] []).w (L ++ [(rowGo (lastOf L H) n w [] []).lo]) (H ++ [(rowGo (lastOf L H) n w [] []).hi]) (fun r hr' => by
      rcases List.mem_append.1 hr' with h | h
      · exact h1 r h
      · obtain rfl : r = _ := by simpa using h
        simpa using hr.1) (fun r hr' => by
      rcases List.mem_append.1 hr' with h | h
      · exact h2 r h
      · obtain rfl : r = _ := by simpa using h
        simpa using hr.2)
    simp only [List.length_append, List.length_singleton] at a b
    exact ⟨by simp only [tabGo]; omega, by simp only [tabGo]; omega, c, d⟩
theorem famOf_fn (w : Int) : Go.Sx.Fn Try.prog n_kit_FamilyOf [.ptr 0 0 0 1] [some (Dr w)] fun v H' => ∃ ι, Dat 6 H' ι v (Fv (famOf w)) ∧ ι.Nodup ∧ 0 ∉ ι ∧ H'[0]? = some (some (Dr (famEnd w))) := by
  have k1 := Lines_run w (-9000) 3000 5 (by omega) (by omega)
  have k2 := Lines_run (famW1 w) 0 300000 5 (by omega) (by omega)
  have k3 := one_ok (famW2 w) 2 (by omega)
  unfold famOf famEnd
  by_cases c1 : upto (famW2 w) 2 = 0
  · rw [if_pos c1, if_pos c1]
    have b1 : (upto (famW2 w) 2 == 0) = true := by simp [c1]
    exact famOf_law (w1 := famW1 w) (w2 := famW2 w) (gL := famG w) (pL := famP w) k1 k2 (famG_asc w).1 (famP_asc w).1 (famG_ne w) (famP_ne w) b1 k3 (lawof_ok _) (lawOf_in _)
  · have b1 : (upto (famW2 w) 2 == 0) = false := beq_eq_false_iff_ne.2 c1
    rw [if_neg c1, if_neg c1]
    exact famOf_any (w1 := famW1 w) (w2 := famW2 w) (gL := famG w) (pL := famP w) k1 k2 (famG_asc w).2 (famP_asc w).2 (famG_ne w) (famP_ne w) b1 k3 (T := famT w) rfl
theorem ne_of_len {α : Type} {l : List α} {n : Nat} (h : l.length = n) (hn : 0 < n) : l ≠ [] := by rintro rfl; simp at h; omega
structure FaNE (f : Fa) : Prop where
  g : f.g ≠ [] ∧ f.g.length ≤ 5
  p : f.p ≠ [] ∧ f.p.length ≤ 5
  lo : f.lo.length = f.g.length ∧ ∀ r ∈ f.lo, r.length = f.p.length
  hi : f.hi.length = f.g.length ∧ ∀ r ∈ f.hi, r.length = f.p.length
theorem ofF_ne (l : Lw) {g p : List Int} (hg : g ≠ [] ∧ g.length ≤ 5) (hp : p ≠ [] ∧ p.length ≤ 5) : FaNE (ofF l g p) := by
  have ht : ∀ f, (ofT f l g p).length = g.length ∧ ∀ r ∈ ofT f l g p, r.length = p.length := fun f => ⟨by simp [ofT], fun r hr => by
    obtain ⟨x, _, rfl⟩ := List.mem_map.1 hr; simp⟩
  exact ⟨hg, hp, ht _, ht _⟩
theorem tab_ne {g p : List Int} {w : Int} {T : TabR} (hT : tabGo p.length g.length w [] [] = T) (hg : g ≠ [] ∧ g.length ≤ 5) (hp : p ≠ [] ∧ p.length ≤ 5) : FaNE ⟨g, p, T.lo, T.hi⟩ := by
  have hk := tabGo_ok p.length g.length w [] [] (by simp) (by simp)
  rw [hT] at hk
  obtain ⟨a, b, c, d⟩ := hk
  exact ⟨hg, hp, ⟨by simpa using a, c⟩, ⟨by simpa using b, d⟩⟩
theorem famOf_ne (w : Int) : FaNE (famOf w) := by
  have hg := famG_ne w
  have hp := famP_ne w
  have hg5 := (famG_asc w).2
  have hp5 := (famP_asc w).2
  unfold famOf
  by_cases c1 : upto (famW2 w) 2 = 0
  · rw [if_pos c1]; exact ofF_ne _ ⟨hg, hg5⟩ ⟨hp, hp5⟩
  · rw [if_neg c1]; exact tab_ne (T := famT w) rfl ⟨hg, hg5⟩ ⟨hp, hp5⟩
theorem FaNE.pure {f : Fa} (h : FaNE f) : Pure 6 (Fv f) := by
  have g0 : 0 < f.g.length := List.length_pos_iff.2 h.g.1
  have p0 : 0 < f.p.length := List.length_pos_iff.2 h.p.1
  exact fv_pure h.g.1 h.p.1 (ne_of_len h.lo.1 g0) (ne_of_len h.hi.1 g0) (fun r hr => ne_of_len (h.lo.2 r hr) p0) (fun r hr => ne_of_len (h.hi.2 r hr) p0)
theorem FamilyOf_run (w : Int) : Ans Try.prog n_kit_FamilyOf [.ptr 0 0 0 1] [some (Dr w)] (thaw 6 1 (Fv (famOf w))).1 (some (Dr (famEnd w)) :: (thaw 6 1 (Fv (famOf w))).2) := ans_dat (famOf_ne w).pure (dr_bel _ _) (famOf_fn w)
end Go.Proofs

namespace Go.Proofs
open Go Go.Sx Go.Fam

def mx0 (n : Int) : Int := if 0 < n then n else 0
def riseLo (lo hi : Nat → Nat → Int) (c : Nat) (s : Sp) : Int := wgt s 0 * mx0 (lo (c + 1) s.at_ - hi c s.at_) + wgt s 1 * mx0 (lo (c + 1) (s.at_ + 1) - hi c (s.at_ + 1))
def riseHi (lo hi : Nat → Nat → Int) (c : Nat) (s : Sp) : Int := wgt s 0 * (hi (c + 1) s.at_ - lo c s.at_) + wgt s 1 * (hi (c + 1) (s.at_ + 1) - lo c (s.at_ + 1))
def stp (lo hi : Nat → Nat → Int) (d : Int) (c : Nat) (s : Sp) (u : Int) : Rg := ⟨u * riseLo lo hi c s / (d * s.whole), cup (u * riseHi lo hi c s) (d * s.whole)⟩
def SlK (lo hi : Nat → Nat → Int) (c k : Nat) : Prop := 0 ≤ lo c k ∧ lo c k ≤ hi (c + 1) k ∧ hi (c + 1) k ≤ 1000000 ∧ 0 ≤ hi c k ∧ hi c k ≤ 1000000 ∧ 0 ≤ lo (c + 1) k ∧ lo (c + 1) k ≤ 1000000 ∧ lo c k ≤ hi c k ∧ lo (c + 1) k ≤ hi (c + 1) k
structure SlOK (lo hi : Nat → Nat → Int) (c : Nat) (s : Sp) : Prop where
  here : SlK lo hi c s.at_
  next : 0 < s.part → SlK lo hi c (s.at_ + 1)
theorem mx0_in {n m : Int} (h : n ≤ m) (hm : 0 ≤ m) : 0 ≤ mx0 n ∧ mx0 n ≤ m := by unfold mx0; split <;> omega
theorem rise_in {lo hi : Nat → Nat → Int} {c n : Nat} {M : Int} {s : Sp} (h : SlOK lo hi c s) (hs : SpOK n M s) (hM : M ≤ 2000000) :
    (0 ≤ wgt s 0 * mx0 (lo (c + 1) s.at_ - hi c s.at_) ∧ wgt s 0 * mx0 (lo (c + 1) s.at_ - hi c s.at_) ≤ 2000000000000) ∧ (0 ≤ wgt s 1 * mx0 (lo (c + 1) (s.at_ + 1) - hi c (s.at_ + 1)) ∧ 0 ≤ riseLo lo hi c s ∧ riseLo lo hi c s ≤ 2000000000000) ∧
    (0 ≤ wgt s 0 * (hi (c + 1) s.at_ - lo c s.at_) ∧ wgt s 0 * (hi (c + 1) s.at_ - lo c s.at_) ≤ 2000000000000) ∧ 0 ≤ wgt s 1 * (hi (c + 1) (s.at_ + 1) - lo c (s.at_ + 1)) ∧ 0 ≤ riseHi lo hi c s ∧ riseHi lo hi c s ≤ 2000000000000 := by
  obtain ⟨h1, h2⟩ := h
  obtain ⟨p0, p1⟩ := hs.part
  have pw := hs.whole
  have e0 : wgt s 0 = s.whole - s.part := rfl
  have e1 : wgt s 1 = s.part := rfl
  unfold SlK at h1 h2
  have a := mx0_in (n := lo (c + 1) s.at_ - hi c s.at_) (m := 1000000) (by omega) (by omega)
  obtain ⟨A, hA⟩ : ∃ x, mx0 (lo (c + 1) s.at_ - hi c s.at_) = x := ⟨_, rfl⟩
  obtain ⟨B, hB⟩ : ∃ x, hi (c + 1) s.at_ - lo c s.at_ = x := ⟨_, rfl⟩
  have hB0 : 0 ≤ B ∧ B ≤ 1000000 := by omega
  unfold riseLo riseHi
  rw [e0, e1, hA, hB]
  rw [hA] at a
  have q1 : 0 ≤ (s.whole - s.part) * A := Int.mul_nonneg (by omega) a.1
  have q2 : (s.whole - s.part) * A ≤ (s.whole - s.part) * 1000000 := Int.mul_le_mul_of_nonneg_left a.2 (by omega)
  have q3 : 0 ≤ (s.whole - s.part) * B := Int.mul_nonneg (by omega) hB0.1
  have q4 : (s.whole - s.part) * B ≤ (s.whole - s.part) * 1000000 := Int.mul_le_mul_of_nonneg_left hB0.2 (by omega)
  by_cases hp : 0 < s.part
  · have h2 := h2 hp
    have a' := mx0_in (n := lo (c + 1) (s.at_ + 1) - hi c (s.at_ + 1)) (m := 1000000) (by omega) (by omega)
    obtain ⟨A', hA'⟩ : ∃ x, mx0 (lo (c + 1) (s.at_ + 1) - hi c (s.at_ + 1)) = x := ⟨_, rfl⟩
    obtain ⟨B', hB'⟩ : ∃ x, hi (c + 1) (s.at_ + 1) - lo c (s.at_ + 1) = x := ⟨_, rfl⟩
    have hB0' : 0 ≤ B' ∧ B' ≤ 1000000 := by omega
    rw [hA', hB']
    rw [hA'] at a'
    have q5 : 0 ≤ s.part * A' := Int.mul_nonneg (by omega) a'.1
    have q6 : s.part * A' ≤ s.part * 1000000 := Int.mul_le_mul_of_nonneg_left a'.2 (by omega)
    have q7 : 0 ≤ s.part * B' := Int.mul_nonneg (by omega) hB0'.1
    have q8 : s.part * B' ≤ s.part * 1000000 := Int.mul_le_mul_of_nonneg_left hB0'.2 (by omega)
    omega
  · have h0 : s.part = 0 := by omega
    have hz : ∀ x, s.part * x = 0 := fun x => by rw [h0, Int.zero_mul]
    rw [hz, hz]
    omega
theorem mx0_sub {a b : Int} (h : a ≤ b) (hb : 0 ≤ b) : mx0 a ≤ b := by unfold mx0; split <;> omega
theorem rise_le {lo hi : Nat → Nat → Int} {c n : Nat} {M : Int} {s : Sp} (h : SlOK lo hi c s) (hs : SpOK n M s) : riseLo lo hi c s ≤ riseHi lo hi c s ∧ riseHi lo hi c s ≤ 1000000 * s.whole := by
  obtain ⟨h1, h2⟩ := h
  obtain ⟨p0, p1⟩ := hs.part
  have e0 : wgt s 0 = s.whole - s.part := rfl
  have e1 : wgt s 1 = s.part := rfl
  unfold SlK at h1 h2
  have a := mx0_sub (a := lo (c + 1) s.at_ - hi c s.at_) (b := hi (c + 1) s.at_ - lo c s.at_) (by omega) (by omega)
  obtain ⟨A, hA⟩ : ∃ x, mx0 (lo (c + 1) s.at_ - hi c s.at_) = x := ⟨_, rfl⟩
  obtain ⟨B, hB⟩ : ∃ x, hi (c + 1) s.at_ - lo c s.at_ = x := ⟨_, rfl⟩
  have hB0 : 0 ≤ B ∧ B ≤ 1000000 := by omega
  unfold riseLo riseHi
  rw [e0, e1, hA, hB]
  rw [hA, hB] at a
  have q1 : (s.whole - s.part) * A ≤ (s.whole - s.part) * B := Int.mul_le_mul_of_nonneg_left a (by omega)
  have q4 : (s.whole - s.part) * B ≤ (s.whole - s.part) * 1000000 := Int.mul_le_mul_of_nonneg_left hB0.2 (by omega)
  by_cases hp : 0 < s.part
  · have h2 := h2 hp
    have a' := mx0_sub (a := lo (c + 1) (s.at_ + 1) - hi c (s.at_ + 1)) (b := hi (c + 1) (s.at_ + 1) - lo c (s.at_ + 1)) (by omega) (by omega)
    obtain ⟨A', hA'⟩ : ∃ x, mx0 (lo (c + 1) (s.at_ + 1) - hi c (s.at_ + 1)) = x := ⟨_, rfl⟩
    obtain ⟨B', hB'⟩ : ∃ x, hi (c + 1) (s.at_ + 1) - lo c (s.at_ + 1) = x := ⟨_, rfl⟩
    have hB0' : 0 ≤ B' ∧ B' ≤ 1000000 := by omega
    rw [hA', hB']
    rw [hA', hB'] at a'
    have q5 : s.part * A' ≤ s.part * B' := Int.mul_le_mul_of_nonneg_left a' (by omega)
    have q8 : s.part * B' ≤ s.part * 1000000 := Int.mul_le_mul_of_nonneg_left hB0'.2 (by omega)
    omega
  · have h0 : s.part = 0 := by omega
    have hz : ∀ x, s.part * x = 0 := fun x => by rw [h0, Int.zero_mul]
    rw [hz, hz]
    omega
theorem stp_in {lo hi : Nat → Nat → Int} {c n : Nat} {M d u : Int} {s : Sp} (h : SlOK lo hi c s) (hs : SpOK n M s) (hM : M ≤ 2000000) (hd : 1 ≤ d) (hu : 1 ≤ u ∧ u ≤ 1000000) :
    0 ≤ (stp lo hi d c s u).lo ∧ (stp lo hi d c s u).lo ≤ (stp lo hi d c s u).hi ∧ (stp lo hi d c s u).hi ≤ u * 1000000 := by
  have r1 := rise_in h hs hM
  have r2 := rise_le h hs
  obtain ⟨p0, p1⟩ := hs.part
  have hw : 1 ≤ d * s.whole := Int.mul_pos (by omega) (by omega)
  have hw2 : s.whole ≤ d * s.whole := by have := Int.mul_le_mul_of_nonneg_right hd (show 0 ≤ s.whole by omega); omega
  obtain ⟨W, hW⟩ : ∃ x, d * s.whole = x := ⟨_, rfl⟩
  obtain ⟨A, hA⟩ : ∃ x, riseLo lo hi c s = x := ⟨_, rfl⟩
  obtain ⟨B, hB⟩ : ∃ x, riseHi lo hi c s = x := ⟨_, rfl⟩
  unfold stp
  rw [hW, hA, hB]
  rw [hW] at hw hw2
  rw [hA] at r1 r2
  rw [hB] at r1 r2
  have q1 : 0 ≤ u * A := Int.mul_nonneg (by omega) (by omega)
  have q2 : u * A ≤ u * B := Int.mul_le_mul_of_nonneg_left r2.1 (by omega)
  have q3 : u * B ≤ u * (1000000 * W) := Int.mul_le_mul_of_nonneg_left (by omega) (by omega)
  have q4 : u * (1000000 * W) = u * 1000000 * W := (Int.mul_assoc _ _ _).symm
  refine ⟨Int.ediv_nonneg q1 (by omega), ?_, ?_⟩
  · show u * A / W ≤ cup (u * B) W
    unfold cup
    exact Int.ediv_le_ediv (by omega) (by omega)
  · show cup (u * B) W ≤ u * 1000000
    unfold cup
    have : (u * B + W - 1) / W < u * 1000000 + 1 := Int.ediv_lt_of_lt_mul (by omega) (by rw [Int.add_mul]; omega)
    omega
end Go.Proofs

namespace Go.Proofs
open Go Go.Sx Go.Fam
attribute [local irreducible] Run

theorem byGrid_at_run {m n : Nat} {t : List (List Int)} (hT : Tab m n t) {i k : Nat} (hi : i < m) (hk : k < n) (hm : m ≤ 1000000 ∧ n ≤ 1000000) : Ans Try.prog n_curve_byGrid_at [tw t, .int .i64 i, .int .i64 k] [] (.int .i64 (tg t i k)) [] := by
  obtain ⟨r, hr, hl⟩ := hT.row i hi
  have m0 : ¬ (i : Int) < 0 := by omega
  have m1 : ¬ (k : Int) < 0 := by omega
  have hx := get_at (l := r) (i := k) (by omega)
  rw [tg_get hr]
  refine spec_run e_curve_byGrid_at fun G => ?_
  simp only [go_sem, tw, vw, List.length_map, m0, m1, Int.toNat_natCast, hr, hx]
theorem byPlate_at_run {m n : Nat} {t : List (List Int)} (hT : Tab m n t) {i k : Nat} (hi : i < m) (hk : k < n) (hm : m ≤ 1000000 ∧ n ≤ 1000000) : Ans Try.prog n_curve_byPlate_at [tw t, .int .i64 k, .int .i64 i] [] (.int .i64 (tg t i k)) [] := by
  obtain ⟨r, hr, hl⟩ := hT.row i hi
  have m0 : ¬ (i : Int) < 0 := by omega
  have m1 : ¬ (k : Int) < 0 := by omega
  have hx := get_at (l := r) (i := k) (by omega)
  rw [tg_get hr]
  refine spec_run e_curve_byPlate_at fun G => ?_
  simp only [go_sem, tw, vw, List.length_map, m0, m1, Int.toNat_natCast, hr, hx]
end Go.Proofs

namespace Go.Proofs
open Go Go.Sx Go.Fam
attribute [local irreducible] Run

set_option maxHeartbeats 4000000 in
set_option maxRecDepth 20000 in
theorem steep_byGrid {m n : Nat} {lo hi : List (List Int)} (hlo : Tab m n lo) (hhi : Tab m n hi) {lines others : List Int} (hm : lines.length = m) (hmn : m ≤ 40 ∧ n ≤ 40) {a v M u d : Int} (ha : -1000000 ≤ a ∧ a ≤ 999999) (hO : Asc a others) (hn : others.length = n) (hv : -1000000 ≤ v ∧ v ≤ 1000000)
    {c : Nat} (hc : c + 1 < m) (hs : SpOK n M (spot others v)) (hM : M ≤ 2000000) (hsl : SlOK (tg lo) (tg hi) c (spot others v)) (hd : at1 lines (c + 1) - at1 lines c = d) (hd1 : 1 ≤ d ∧ d ≤ 2000000) (hu : 1 ≤ u ∧ u ≤ 1000000) :
    Ans Try.prog n_curve_steepness_curve_byGrid [tw lo, tw hi, vw lines, vw others, .int .i64 c, .int .i64 v, .int .i64 u] [] (stp (tg lo) (tg hi) d c (spot others v) u).v [] := by
  have k1 := spotOf_run ha hO hv
  obtain ⟨s, hse⟩ : ∃ s, spot others v = s := ⟨_, rfl⟩
  rw [hse] at k1 hs hsl ⊢
  have k2 := weights_run (by omega) hs
  have hr := rise_in hsl hs hM
  try dsimp only at hr
  obtain ⟨p0, p1⟩ := hs.part
  have pw := hs.whole
  have pa := hs.at_
  have hdw : 1 ≤ d * s.whole ∧ d * s.whole ≤ 2000000 * 2000000 := ⟨Int.mul_pos (by omega) (by omega), Int.mul_le_mul hd1.2 (by omega) (by omega) (by omega)⟩
  have wdw : IntKind.i64.wrap (d * s.whole) = d * s.whole := w64 (by omega)
  have x1 := get_at (l := lines) (i := c + 1) (by omega)
  have x2 := get_at (l := lines) (i := c) (by omega)
  have wd : IntKind.i64.wrap (at1 lines (c + 1) - at1 lines c) = d := by rw [hd]; exact w64 (by omega)
  have wc : IntKind.i64.wrap ((c : Int) + 1) = ((c + 1 : Nat) : Int) := idx_next (n := m) (by omega) (by omega)
  have wa : IntKind.i64.wrap ((s.at_ : Int) + 0) = ((s.at_ : Nat) : Int) := by rw [w64 (by omega)]; omega
  have wb : IntKind.i64.wrap ((s.at_ : Int) + 1) = ((s.at_ + 1 : Nat) : Int) := idx_next (n := n) (by omega) (by omega)
  have n0 : ¬ ((c + 1 : Nat) : Int) < 0 := by omega
  have n1 : ¬ (c : Int) < 0 := by omega
  have b0 : (wgt s 0 == 0) = false := beq_eq_false_iff_ne.2 (by show s.whole - s.part ≠ 0; omega)
  have u0 : ¬ wgt s 0 = 0 := by show ¬ s.whole - s.part = 0; omega
  have A1 := byGrid_at_run hlo (i := c + 1) (k := s.at_) (by omega) (by omega) (by omega)
  have A2 := byGrid_at_run hhi (i := c) (k := s.at_) (by omega) (by omega) (by omega)
  have A3 := byGrid_at_run hhi (i := c + 1) (k := s.at_) (by omega) (by omega) (by omega)
  have A4 := byGrid_at_run hlo (i := c) (k := s.at_) (by omega) (by omega) (by omega)
  have hh := hsl.here
  unfold SlK at hh
  try dsimp only at hh
  have w1' : IntKind.i64.wrap 1 = 1 := by decide
  have w2' : IntKind.i64.wrap 2 = 2 := by decide
  have r1 : IntKind.i64.wrap (tg lo (c + 1) s.at_ - tg hi c s.at_) = tg lo (c + 1) s.at_ - tg hi c s.at_ := w64 (by omega)
  have r2 : (if tg lo (c + 1) s.at_ - tg hi c s.at_ > 0 then tg lo (c + 1) s.at_ - tg hi c s.at_ else 0) = mx0 (tg lo (c + 1) s.at_ - tg hi c s.at_) := rfl
  have r3 : IntKind.i64.wrap (wgt s 0 * mx0 (tg lo (c + 1) s.at_ - tg hi c s.at_)) = wgt s 0 * mx0 (tg lo (c + 1) s.at_ - tg hi c s.at_) := w64 (by omega)
  have r4 : IntKind.i64.wrap (tg hi (c + 1) s.at_ - tg lo c s.at_) = tg hi (c + 1) s.at_ - tg lo c s.at_ := w64 (by omega)
  have r5 : IntKind.i64.wrap (wgt s 0 * (tg hi (c + 1) s.at_ - tg lo c s.at_)) = wgt s 0 * (tg hi (c + 1) s.at_ - tg lo c s.at_) := w64 (by omega)
  have q2 : 0 ≤ u * riseLo (tg lo) (tg hi) c s ∧ u * riseLo (tg lo) (tg hi) c s ≤ 1000000 * 2000000000000 := ⟨Int.mul_nonneg (by omega) (by omega), Int.mul_le_mul hu.2 (by omega) (by omega) (by omega)⟩
  have q2' : 0 ≤ u * riseHi (tg lo) (tg hi) c s ∧ u * riseHi (tg lo) (tg hi) c s ≤ 1000000 * 2000000000000 := ⟨Int.mul_nonneg (by omega) (by omega), Int.mul_le_mul hu.2 (by omega) (by omega) (by omega)⟩
  have q1 : IntKind.i64.wrap (u * riseLo (tg lo) (tg hi) c s) = u * riseLo (tg lo) (tg hi) c s := w64 (by omega)
  have q3 : IntKind.i64.wrap (u * riseHi (tg lo) (tg hi) c s) = u * riseHi (tg lo) (tg hi) c s := w64 (by omega)
  have q4 : (u * riseLo (tg lo) (tg hi) c s).tdiv (d * s.whole) = u * riseLo (tg lo) (tg hi) c s / (d * s.whole) := Int.tdiv_eq_ediv_of_nonneg (by omega)
  have q6 : 0 ≤ u * riseLo (tg lo) (tg hi) c s / (d * s.whole) := Int.ediv_nonneg (by omega) (by omega)
  have q7 : u * riseLo (tg lo) (tg hi) c s / (d * s.whole) ≤ u * riseLo (tg lo) (tg hi) c s := Int.ediv_le_self _ (by omega)
  have q5 : IntKind.i64.wrap (u * riseLo (tg lo) (tg hi) c s / (d * s.whole)) = u * riseLo (tg lo) (tg hi) c s / (d * s.whole) := w64 (by omega)
  have z1 : ¬ d * s.whole = 0 := by omega
  have kr := roundUp_run (n := u * riseHi (tg lo) (tg hi) c s) (b := d * s.whole) (by omega) (by omega)
  simp only [vw, Sv] at k1
  simp only [Sv] at k2
  simp only [tw, vw] at A1 A2 A3 A4
  refine spec_run e_curve_steepness_curve_byGrid fun G => ?_
  simp only [go_sem, tw, vw]
  refine cP k1 ?_
  simp only [go_sem]
  refine cP k2 ?_
  simp only [go_sem]
  refine loop_body 3000 k_curve_steepness_curve_byGrid_r11.eq_1 ?_
  simp only [go_sem, b0, u0, wa, wc]
  rw [calleeGM_iface (t := 122) (g := 142) (h := rfl)]
  refine dP A1 ?_
  simp only [go_sem, wa, wc]
  rw [calleeGM_iface (t := 122) (g := 142) (h := rfl)]
  refine dP A2 ?_
  simp only [go_sem, wa, wc, r1, r2, r3, Int.zero_add]
  rw [calleeGM_iface (t := 122) (g := 142) (h := rfl)]
  refine dP A3 ?_
  simp only [go_sem, wa, wc, r1, r2, r3, Int.zero_add]
  rw [calleeGM_iface (t := 122) (g := 142) (h := rfl)]
  refine dP A4 ?_
  simp only [go_sem, wa, wc, r1, r2, r3, r4, r5, Int.zero_add, w1']
  refine loop_body 3000 k_curve_steepness_curve_byGrid_r11.eq_1 ?_
  by_cases hp : 0 < s.part
  · have hq := hsl.next hp
    unfold SlK at hq
    try dsimp only at hq
    have hnx := hs.next hp
    have b1 : (wgt s 1 == 0) = false := beq_eq_false_iff_ne.2 (by show s.part ≠ 0; omega)
    have u1 : ¬ wgt s 1 = 0 := by show ¬ s.part = 0; omega
    have B1 := byGrid_at_run hlo (i := c + 1) (k := s.at_ + 1) (by omega) (by omega) (by omega)
    have B2 := byGrid_at_run hhi (i := c) (k := s.at_ + 1) (by omega) (by omega) (by omega)
    have B3 := byGrid_at_run hhi (i := c + 1) (k := s.at_ + 1) (by omega) (by omega) (by omega)
    have B4 := byGrid_at_run hlo (i := c) (k := s.at_ + 1) (by omega) (by omega) (by omega)
    simp only [tw, vw] at B1 B2 B3 B4
    have s1 : IntKind.i64.wrap (tg lo (c + 1) (s.at_ + 1) - tg hi c (s.at_ + 1)) = tg lo (c + 1) (s.at_ + 1) - tg hi c (s.at_ + 1) := w64 (by omega)
    have s2 : (if tg lo (c + 1) (s.at_ + 1) - tg hi c (s.at_ + 1) > 0 then tg lo (c + 1) (s.at_ + 1) - tg hi c (s.at_ + 1) else 0) = mx0 (tg lo (c + 1) (s.at_ + 1) - tg hi c (s.at_ + 1)) := rfl
    have s4' : wgt s 0 * mx0 (tg lo (c + 1) s.at_ - tg hi c s.at_) + wgt s 1 * mx0 (tg lo (c + 1) (s.at_ + 1) - tg hi c (s.at_ + 1)) = riseLo (tg lo) (tg hi) c s := rfl
    have s3 : IntKind.i64.wrap (wgt s 1 * mx0 (tg lo (c + 1) (s.at_ + 1) - tg hi c (s.at_ + 1))) = wgt s 1 * mx0 (tg lo (c + 1) (s.at_ + 1) - tg hi c (s.at_ + 1)) := w64 (by omega)
    have s4 : IntKind.i64.wrap (riseLo (tg lo) (tg hi) c s) = riseLo (tg lo) (tg hi) c s := w64 (by omega)
    have s5 : IntKind.i64.wrap (tg hi (c + 1) (s.at_ + 1) - tg lo c (s.at_ + 1)) = tg hi (c + 1) (s.at_ + 1) - tg lo c (s.at_ + 1) := w64 (by omega)
    have s7' : wgt s 0 * (tg hi (c + 1) s.at_ - tg lo c s.at_) + wgt s 1 * (tg hi (c + 1) (s.at_ + 1) - tg lo c (s.at_ + 1)) = riseHi (tg lo) (tg hi) c s := rfl
    have s6 : IntKind.i64.wrap (wgt s 1 * (tg hi (c + 1) (s.at_ + 1) - tg lo c (s.at_ + 1))) = wgt s 1 * (tg hi (c + 1) (s.at_ + 1) - tg lo c (s.at_ + 1)) := w64 (by omega)
    have s7 : IntKind.i64.wrap (riseHi (tg lo) (tg hi) c s) = riseHi (tg lo) (tg hi) c s := w64 (by omega)
    simp only [go_sem, b1, u1, wb, wc]
    rw [calleeGM_iface (t := 122) (g := 142) (h := rfl)]
    refine dP B1 ?_
    simp only [go_sem, wb, wc]
    rw [calleeGM_iface (t := 122) (g := 142) (h := rfl)]
    refine dP B2 ?_
    simp only [go_sem, wb, wc, s1, s2, s3, s4', s4]
    rw [calleeGM_iface (t := 122) (g := 142) (h := rfl)]
    refine dP B3 ?_
    simp only [go_sem, wb, wc]
    rw [calleeGM_iface (t := 122) (g := 142) (h := rfl)]
    refine dP B4 ?_
    simp only [go_sem, wb, wc, s5, s6, s7', s7, w2']
    refine loop_body 3000 k_curve_steepness_curve_byGrid_r11.eq_1 ?_
    simp only [go_sem, w1', w2', wc, n0, n1, x1, x2, wd, Int.toNat_natCast, List.length_map, wdw, q1, q3, q4, q5, z1]
    refine dP kr ?_
    simp only [go_sem, stp, Rg.v, q5]
  · have hz : s.part = 0 := by omega
    have b1 : (wgt s 1 == 0) = true := beq_iff_eq.2 hz
    have u1 : wgt s 1 = 0 := hz
    have s4' : wgt s 0 * mx0 (tg lo (c + 1) s.at_ - tg hi c s.at_) = riseLo (tg lo) (tg hi) c s := by unfold riseLo; rw [u1, Int.zero_mul, Int.add_zero]
    have s7' : wgt s 0 * (tg hi (c + 1) s.at_ - tg lo c s.at_) = riseHi (tg lo) (tg hi) c s := by unfold riseHi; rw [u1, Int.zero_mul, Int.add_zero]
    rw [s4', s7']
    simp only [go_sem, b1, u1, w2']
    refine loop_body 3000 k_curve_steepness_curve_byGrid_r11.eq_1 ?_
    simp only [go_sem, w1', w2', wc, n0, n1, x1, x2, wd, Int.toNat_natCast, List.length_map, wdw, q1, q3, q4, q5, z1]
    refine dP kr ?_
    simp only [go_sem, stp, Rg.v, q5]

set_option maxHeartbeats 4000000 in
set_option maxRecDepth 20000 in
theorem steep_byPlate {m n : Nat} {lo hi : List (List Int)} (hlo : Tab n m lo) (hhi : Tab n m hi) {lines others : List Int} (hm : lines.length = m) (hmn : m ≤ 40 ∧ n ≤ 40) {a v M u d : Int} (ha : -1000000 ≤ a ∧ a ≤ 999999) (hO : Asc a others) (hn : others.length = n) (hv : -1000000 ≤ v ∧ v ≤ 1000000)
    {c : Nat} (hc : c + 1 < m) (hs : SpOK n M (spot others v)) (hM : M ≤ 2000000) (hsl : SlOK (fun i k => tg lo k i) (fun i k => tg hi k i) c (spot others v)) (hd : at1 lines (c + 1) - at1 lines c = d) (hd1 : 1 ≤ d ∧ d ≤ 2000000) (hu : 1 ≤ u ∧ u ≤ 1000000) :
    Ans Try.prog n_curve_steepness_curve_byPlate [tw lo, tw hi, vw lines, vw others, .int .i64 c, .int .i64 v, .int .i64 u] [] (stp (fun i k => tg lo k i) (fun i k => tg hi k i) d c (spot others v) u).v [] := by
  have k1 := spotOf_run ha hO hv
  obtain ⟨s, hse⟩ : ∃ s, spot others v = s := ⟨_, rfl⟩
  rw [hse] at k1 hs hsl ⊢
  have k2 := weights_run (by omega) hs
  have hr := rise_in hsl hs hM
  try dsimp only at hr
  obtain ⟨p0, p1⟩ := hs.part
  have pw := hs.whole
  have pa := hs.at_
  have hdw : 1 ≤ d * s.whole ∧ d * s.whole ≤ 2000000 * 2000000 := ⟨Int.mul_pos (by omega) (by omega), Int.mul_le_mul hd1.2 (by omega) (by omega) (by omega)⟩
  have wdw : IntKind.i64.wrap (d * s.whole) = d * s.whole := w64 (by omega)
  have x1 := get_at (l := lines) (i := c + 1) (by omega)
  have x2 := get_at (l := lines) (i := c) (by omega)
  have wd : IntKind.i64.wrap (at1 lines (c + 1) - at1 lines c) = d := by rw [hd]; exact w64 (by omega)
  have wc : IntKind.i64.wrap ((c : Int) + 1) = ((c + 1 : Nat) : Int) := idx_next (n := m) (by omega) (by omega)
  have wa : IntKind.i64.wrap ((s.at_ : Int) + 0) = ((s.at_ : Nat) : Int) := by rw [w64 (by omega)]; omega
  have wb : IntKind.i64.wrap ((s.at_ : Int) + 1) = ((s.at_ + 1 : Nat) : Int) := idx_next (n := n) (by omega) (by omega)
  have n0 : ¬ ((c + 1 : Nat) : Int) < 0 := by omega
  have n1 : ¬ (c : Int) < 0 := by omega
  have b0 : (wgt s 0 == 0) = false := beq_eq_false_iff_ne.2 (by show s.whole - s.part ≠ 0; omega)
  have u0 : ¬ wgt s 0 = 0 := by show ¬ s.whole - s.part = 0; omega
  have A1 := byPlate_at_run hlo (i := s.at_) (k := c + 1) (by omega) (by omega) (by omega)
  have A2 := byPlate_at_run hhi (i := s.at_) (k := c) (by omega) (by omega) (by omega)
  have A3 := byPlate_at_run hhi (i := s.at_) (k := c + 1) (by omega) (by omega) (by omega)
  have A4 := byPlate_at_run hlo (i := s.at_) (k := c) (by omega) (by omega) (by omega)
  have hh := hsl.here
  unfold SlK at hh
  try dsimp only at hh
  have w1' : IntKind.i64.wrap 1 = 1 := by decide
  have w2' : IntKind.i64.wrap 2 = 2 := by decide
  have r1 : IntKind.i64.wrap (tg lo s.at_ (c + 1) - tg hi s.at_ c) = tg lo s.at_ (c + 1) - tg hi s.at_ c := w64 (by omega)
  have r2 : (if tg lo s.at_ (c + 1) - tg hi s.at_ c > 0 then tg lo s.at_ (c + 1) - tg hi s.at_ c else 0) = mx0 (tg lo s.at_ (c + 1) - tg hi s.at_ c) := rfl
  have r3 : IntKind.i64.wrap (wgt s 0 * mx0 (tg lo s.at_ (c + 1) - tg hi s.at_ c)) = wgt s 0 * mx0 (tg lo s.at_ (c + 1) - tg hi s.at_ c) := w64 (by omega)
  have r4 : IntKind.i64.wrap (tg hi s.at_ (c + 1) - tg lo s.at_ c) = tg hi s.at_ (c + 1) - tg lo s.at_ c := w64 (by omega)
  have r5 : IntKind.i64.wrap (wgt s 0 * (tg hi s.at_ (c + 1) - tg lo s.at_ c)) = wgt s 0 * (tg hi s.at_ (c + 1) - tg lo s.at_ c) := w64 (by omega)
  have q2 : 0 ≤ u * riseLo (fun i k => tg lo k i) (fun i k => tg hi k i) c s ∧ u * riseLo (fun i k => tg lo k i) (fun i k => tg hi k i) c s ≤ 1000000 * 2000000000000 := ⟨Int.mul_nonneg (by omega) (by omega), Int.mul_le_mul hu.2 (by omega) (by omega) (by omega)⟩
  have q2' : 0 ≤ u * riseHi (fun i k => tg lo k i) (fun i k => tg hi k i) c s ∧ u * riseHi (fun i k => tg lo k i) (fun i k => tg hi k i) c s ≤ 1000000 * 2000000000000 := ⟨Int.mul_nonneg (by omega) (by omega), Int.mul_le_mul hu.2 (by omega) (by omega) (by omega)⟩
  have q1 : IntKind.i64.wrap (u * riseLo (fun i k => tg lo k i) (fun i k => tg hi k i) c s) = u * riseLo (fun i k => tg lo k i) (fun i k => tg hi k i) c s := w64 (by omega)
  have q3 : IntKind.i64.wrap (u * riseHi (fun i k => tg lo k i) (fun i k => tg hi k i) c s) = u * riseHi (fun i k => tg lo k i) (fun i k => tg hi k i) c s := w64 (by omega)
  have q4 : (u * riseLo (fun i k => tg lo k i) (fun i k => tg hi k i) c s).tdiv (d * s.whole) = u * riseLo (fun i k => tg lo k i) (fun i k => tg hi k i) c s / (d * s.whole) := Int.tdiv_eq_ediv_of_nonneg (by omega)
  have q6 : 0 ≤ u * riseLo (fun i k => tg lo k i) (fun i k => tg hi k i) c s / (d * s.whole) := Int.ediv_nonneg (by omega) (by omega)
  have q7 : u * riseLo (fun i k => tg lo k i) (fun i k => tg hi k i) c s / (d * s.whole) ≤ u * riseLo (fun i k => tg lo k i) (fun i k => tg hi k i) c s := Int.ediv_le_self _ (by omega)
  have q5 : IntKind.i64.wrap (u * riseLo (fun i k => tg lo k i) (fun i k => tg hi k i) c s / (d * s.whole)) = u * riseLo (fun i k => tg lo k i) (fun i k => tg hi k i) c s / (d * s.whole) := w64 (by omega)
  have z1 : ¬ d * s.whole = 0 := by omega
  have kr := roundUp_run (n := u * riseHi (fun i k => tg lo k i) (fun i k => tg hi k i) c s) (b := d * s.whole) (by omega) (by omega)
  simp only [vw, Sv] at k1
  simp only [Sv] at k2
  simp only [tw, vw] at A1 A2 A3 A4
  refine spec_run e_curve_steepness_curve_byPlate fun G => ?_
  simp only [go_sem, tw, vw]
  refine cP k1 ?_
  simp only [go_sem]
  refine cP k2 ?_
  simp only [go_sem]
  refine loop_body 3000 k_curve_steepness_curve_byPlate_r11.eq_1 ?_
  simp only [go_sem, b0, u0, wa, wc]
  rw [calleeGM_iface (t := 124) (g := 143) (h := rfl)]
  refine dP A1 ?_
  simp only [go_sem, wa, wc]
  rw [calleeGM_iface (t := 124) (g := 143) (h := rfl)]
  refine dP A2 ?_
  simp only [go_sem, wa, wc, r1, r2, r3, Int.zero_add]
  rw [calleeGM_iface (t := 124) (g := 143) (h := rfl)]
  refine dP A3 ?_
  simp only [go_sem, wa, wc, r1, r2, r3, Int.zero_add]
  rw [calleeGM_iface (t := 124) (g := 143) (h := rfl)]
  refine dP A4 ?_
  simp only [go_sem, wa, wc, r1, r2, r3, r4, r5, Int.zero_add, w1']
  refine loop_body 3000 k_curve_steepness_curve_byPlate_r11.eq_1 ?_
  by_cases hp : 0 < s.part
  · have hq := hsl.next hp
    unfold SlK at hq
    try dsimp only at hq
    have hnx := hs.next hp
    have b1 : (wgt s 1 == 0) = false := beq_eq_false_iff_ne.2 (by show s.part ≠ 0; omega)
    have u1 : ¬ wgt s 1 = 0 := by show ¬ s.part = 0; omega
    have B1 := byPlate_at_run hlo (i := s.at_ + 1) (k := c + 1) (by omega) (by omega) (by omega)
    have B2 := byPlate_at_run hhi (i := s.at_ + 1) (k := c) (by omega) (by omega) (by omega)
    have B3 := byPlate_at_run hhi (i := s.at_ + 1) (k := c + 1) (by omega) (by omega) (by omega)
    have B4 := byPlate_at_run hlo (i := s.at_ + 1) (k := c) (by omega) (by omega) (by omega)
    simp only [tw, vw] at B1 B2 B3 B4
    have s1 : IntKind.i64.wrap (tg lo (s.at_ + 1) (c + 1) - tg hi (s.at_ + 1) c) = tg lo (s.at_ + 1) (c + 1) - tg hi (s.at_ + 1) c := w64 (by omega)
    have s2 : (if tg lo (s.at_ + 1) (c + 1) - tg hi (s.at_ + 1) c > 0 then tg lo (s.at_ + 1) (c + 1) - tg hi (s.at_ + 1) c else 0) = mx0 (tg lo (s.at_ + 1) (c + 1) - tg hi (s.at_ + 1) c) := rfl
    have s4' : wgt s 0 * mx0 (tg lo s.at_ (c + 1) - tg hi s.at_ c) + wgt s 1 * mx0 (tg lo (s.at_ + 1) (c + 1) - tg hi (s.at_ + 1) c) = riseLo (fun i k => tg lo k i) (fun i k => tg hi k i) c s := rfl
    have s3 : IntKind.i64.wrap (wgt s 1 * mx0 (tg lo (s.at_ + 1) (c + 1) - tg hi (s.at_ + 1) c)) = wgt s 1 * mx0 (tg lo (s.at_ + 1) (c + 1) - tg hi (s.at_ + 1) c) := w64 (by omega)
    have s4 : IntKind.i64.wrap (riseLo (fun i k => tg lo k i) (fun i k => tg hi k i) c s) = riseLo (fun i k => tg lo k i) (fun i k => tg hi k i) c s := w64 (by omega)
    have s5 : IntKind.i64.wrap (tg hi (s.at_ + 1) (c + 1) - tg lo (s.at_ + 1) c) = tg hi (s.at_ + 1) (c + 1) - tg lo (s.at_ + 1) c := w64 (by omega)
    have s7' : wgt s 0 * (tg hi s.at_ (c + 1) - tg lo s.at_ c) + wgt s 1 * (tg hi (s.at_ + 1) (c + 1) - tg lo (s.at_ + 1) c) = riseHi (fun i k => tg lo k i) (fun i k => tg hi k i) c s := rfl
    have s6 : IntKind.i64.wrap (wgt s 1 * (tg hi (s.at_ + 1) (c + 1) - tg lo (s.at_ + 1) c)) = wgt s 1 * (tg hi (s.at_ + 1) (c + 1) - tg lo (s.at_ + 1) c) := w64 (by omega)
    have s7 : IntKind.i64.wrap (riseHi (fun i k => tg lo k i) (fun i k => tg hi k i) c s) = riseHi (fun i k => tg lo k i) (fun i k => tg hi k i) c s := w64 (by omega)
    simp only [go_sem, b1, u1, wb, wc]
    rw [calleeGM_iface (t := 124) (g := 143) (h := rfl)]
    refine dP B1 ?_
    simp only [go_sem, wb, wc]
    rw [calleeGM_iface (t := 124) (g := 143) (h := rfl)]
    refine dP B2 ?_
    simp only [go_sem, wb, wc, s1, s2, s3, s4', s4]
    rw [calleeGM_iface (t := 124) (g := 143) (h := rfl)]
    refine dP B3 ?_
    simp only [go_sem, wb, wc]
    rw [calleeGM_iface (t := 124) (g := 143) (h := rfl)]
    refine dP B4 ?_
    simp only [go_sem, wb, wc, s5, s6, s7', s7, w2']
    refine loop_body 3000 k_curve_steepness_curve_byPlate_r11.eq_1 ?_
    simp only [go_sem, w1', w2', wc, n0, n1, x1, x2, wd, Int.toNat_natCast, List.length_map, wdw, q1, q3, q4, q5, z1]
    refine dP kr ?_
    simp only [go_sem, stp, Rg.v, q5]
  · have hz : s.part = 0 := by omega
    have b1 : (wgt s 1 == 0) = true := beq_iff_eq.2 hz
    have u1 : wgt s 1 = 0 := hz
    have s4' : wgt s 0 * mx0 (tg lo s.at_ (c + 1) - tg hi s.at_ c) = riseLo (fun i k => tg lo k i) (fun i k => tg hi k i) c s := by unfold riseLo; rw [u1, Int.zero_mul, Int.add_zero]
    have s7' : wgt s 0 * (tg hi s.at_ (c + 1) - tg lo s.at_ c) = riseHi (fun i k => tg lo k i) (fun i k => tg hi k i) c s := by unfold riseHi; rw [u1, Int.zero_mul, Int.add_zero]
    rw [s4', s7']
    simp only [go_sem, b1, u1, w2']
    refine loop_body 3000 k_curve_steepness_curve_byPlate_r11.eq_1 ?_
    simp only [go_sem, w1', w2', wc, n0, n1, x1, x2, wd, Int.toNat_natCast, List.length_map, wdw, q1, q3, q4, q5, z1]
    refine dP kr ?_
    simp only [go_sem, stp, Rg.v, q5]
end Go.Proofs

namespace Go.Proofs
open Go Go.Sx Go.Fam
attribute [local irreducible] Run

end Go.Proofs

namespace Go.Proofs
open Go Go.Sx Go.Fam
attribute [local irreducible] Run

def inV (g p : Int) : Prop := (-1000000 ≤ g ∧ g ≤ 1000000) ∧ 0 ≤ p ∧ p ≤ 1000000
instance (g p : Int) : Decidable (inV g p) := by unfold inV; infer_instance
def rgIf (e : Int) (r : Rg) : Rg := if e = 0 then r else ⟨0, 0⟩
def rgA (e : Int) (r : Rg) : AVal := .tup [(rgIf e r).v, .int .i64 e]
theorem rgA_eq (e : Int) (r : Rg) : rgA e r = .tup [.agg [.int .i64 (rgIf e r).lo, .int .i64 (rgIf e r).hi], .int .i64 e] := rfl
theorem rgA_no {e : Int} (r : Rg) (h : e ≠ 0) : rgA e r = .tup [.agg [.int .i64 0, .int .i64 0], .int .i64 e] := by rw [rgA_eq]; unfold rgIf; rw [if_neg h]
theorem rgA_yes {e : Int} (r : Rg) (h : e = 0) : rgA e r = .tup [r.v, .int .i64 0] := by subst h; rw [rgA_eq]; unfold rgIf; rw [if_pos rfl]; rfl

end Go.Proofs

namespace Go.Proofs
open Go Go.Sx Go.Fam
attribute [local irreducible] Run

def slA (f : Fa) (c : Nat) (v : Int) : Rg := stp (tg f.lo) (tg f.hi) (at1 f.g (c + 1) - at1 f.g c) c (spot f.p v) 1000
def ylA (f : Fa) (v : Int) (c : Nat) : Rg := stp (fun i k => tg f.lo k i) (fun i k => tg f.hi k i) (at1 f.p (c + 1) - at1 f.p c) c (spot f.g v) 1000000
theorem sl_ok {f : Fa} (h : FaOK f) {c : Nat} (hc : c + 1 < f.g.length) (v : Int) : SlOK (tg f.lo) (tg f.hi) c (spot f.p v) := by
  have hs : SpOK f.p.length 1000000 (spot f.p v) := spot_ok h.p (by omega)
  have key : ∀ k, k < f.p.length → SlK (tg f.lo) (tg f.hi) c k := fun k hk => by
    have a := h.inn c k (by omega) hk
    have b := h.inn (c + 1) k hc hk
    have d := h.up c k hc hk
    unfold SlK; omega
  exact ⟨key _ hs.at_, fun hp => key _ (hs.next hp)⟩
theorem yl_ok {f : Fa} (h : FaOK f) {c : Nat} (hc : c + 1 < f.p.length) (v : Int) : SlOK (fun i k => tg f.lo k i) (fun i k => tg f.hi k i) c (spot f.g v) := by
  have hs : SpOK f.g.length 2000000 (spot f.g v) := spot_ok h.g (by omega)
  have key : ∀ k, k < f.g.length → SlK (fun i k => tg f.lo k i) (fun i k => tg f.hi k i) c k := fun k hk => by
    have a := h.inn k c hk (by omega)
    have b := h.inn k (c + 1) hk hc
    have d := h.right k c hk hc
    show 0 ≤ tg f.lo k c ∧ _
    dsimp only; omega
  exact ⟨key _ hs.at_, fun hp => key _ (hs.next hp)⟩
theorem gap_g {f : Fa} (h : FaOK f) {c : Nat} (hc : c + 1 < f.g.length) : 1 ≤ at1 f.g (c + 1) - at1 f.g c ∧ at1 f.g (c + 1) - at1 f.g c ≤ 2000000 := by
  have a := h.g.inn c (by omega)
  have b := h.g.inn (c + 1) hc
  have d := h.g.asc c hc
  omega
theorem gap_p {f : Fa} (h : FaOK f) {c : Nat} (hc : c + 1 < f.p.length) : 1 ≤ at1 f.p (c + 1) - at1 f.p c ∧ at1 f.p (c + 1) - at1 f.p c ≤ 2000000 := by
  have a := h.p.inn c (by omega)
  have b := h.p.inn (c + 1) hc
  have d := h.p.asc c hc
  omega
theorem slope_run {f : Fa} (h : FaOK f) {c : Nat} (hc : c + 1 < f.g.length) {v : Int} (hv : 0 ≤ v ∧ v ≤ 1000000) : Ans Try.prog n_curve_slope [Fv f, .int .i64 c, .int .i64 v] [] (slA f c v).v [] := by
  obtain ⟨tL, tH, sL, sH⟩ := h.tabs
  have gm := h.g.most
  have pm := h.p.most
  have k := steep_byGrid tL tH (lines := f.g) (others := f.p) (u := 1000) rfl ⟨gm, pm⟩ (a := 0) (v := v) (by omega) h.p rfl (by omega) hc (spot_ok h.p (by omega)) (by omega) (sl_ok h hc v) rfl (gap_g h hc) (by omega)
  simp only [tw, vw, Rg.v] at k
  refine spec_run e_curve_slope fun G => ?_
  simp only [go_sem, Fv, Fcs, tw, vw]
  refine cP k ?_
  simp only [go_sem, slA, Rg.v]
theorem yield_run {f : Fa} (h : FaOK f) {c : Nat} (hc : c + 1 < f.p.length) {v : Int} (hv : -1000000 ≤ v ∧ v ≤ 1000000) : Ans Try.prog n_curve_yield [Fv f, .int .i64 v, .int .i64 c] [] (ylA f v c).v [] := by
  obtain ⟨tL, tH, sL, sH⟩ := h.tabs
  have gm := h.g.most
  have pm := h.p.most
  have k := steep_byPlate tL tH (lines := f.p) (others := f.g) (u := 1000000) rfl ⟨pm, gm⟩ (a := -1000000) (v := v) (by omega) h.g rfl (by omega) hc (spot_ok h.g (by omega)) (by omega) (yl_ok h hc v) rfl (gap_p h hc) (by omega)
  simp only [tw, vw, Rg.v] at k
  refine spec_run e_curve_yield fun G => ?_
  simp only [go_sem, Fv, Fcs, tw, vw]
  refine cP k ?_
  simp only [go_sem, ylA, Rg.v]
theorem isCell_run (l : List Int) (hl : l.length ≤ 1000000) (c : Int) : Ans Try.prog n_curve_isCell [vw l, .int .i64 c] [] (.bool (decide (0 ≤ c ∧ c ≤ (l.length : Int) - 2))) [] := by
  have w : IntKind.i64.wrap ((l.length : Int) - 2) = (l.length : Int) - 2 := w64 (by omega)
  have k := within_run c 0 ((l.length : Int) - 2)
  refine spec_run e_curve_isCell fun G => ?_
  simp only [go_sem, vw, List.length_map, w]
  refine cP k ?_
  simp only [go_sem]
def cellOK (l : List Int) (c : Int) : Prop := 0 ≤ c ∧ c ≤ (l.length : Int) - 2
instance (l : List Int) (c : Int) : Decidable (cellOK l c) := by unfold cellOK; infer_instance
def slE (f : Fa) (c v : Int) : Int := if famE f = 0 then (if cellOK f.g c then (if 0 ≤ v ∧ v ≤ 1000000 then 0 else 2) else 7) else famE f
def ylE (f : Fa) (v c : Int) : Int := if famE f = 0 then (if -1000000 ≤ v ∧ v ≤ 1000000 then (if cellOK f.p c then 0 else 7) else 2) else famE f
theorem Slope_run (f : Fa) (hg : f.g.length ≤ 1000000) (hp : f.p.length ≤ 1000000) (hl : f.lo.length ≤ 1000000) (hh : f.hi.length ≤ 1000000) (c v : Int) : Ans Try.prog n_curve_Slope [Fv f, .int .i64 c, .int .i64 v] [] (rgA (slE f c v) (slA f c.toNat v)) [] := by
  have k1 := Check_run f hg hp hl hh
  have k2 := isCell_run f.g hg c
  have k3 := rightP_fn v
  obtain ⟨e, he⟩ : ∃ e, slE f c v = e := ⟨_, rfl⟩
  rw [he]
  unfold slE at he
  refine spec_run e_curve_Slope fun G => ?_
  simp only [Fv, Fcs] at k1
  simp only [go_sem, Fv, Fcs]
  refine cP k1 ?_
  by_cases c1 : famE f = 0
  · rw [if_pos c1] at he
    have hf := fam_iff.1 c1
    simp only [go_sem, c1]
    refine cP k2 ?_
    by_cases c2 : cellOK f.g c
    · rw [if_pos c2] at he
      rw [decide_eq_true (show 0 ≤ c ∧ c ≤ (f.g.length : Int) - 2 from c2)]
      simp only [go_sem]
      refine cP k3 ?_
      by_cases c3 : 0 ≤ v ∧ v ≤ 1000000
      · rw [if_pos c3] at he
        subst he
        rw [decide_eq_true c3]
        unfold cellOK at c2
        obtain ⟨cn, rfl⟩ : ∃ n : Nat, c = n := ⟨c.toNat, by omega⟩
        have k4 := slope_run hf (c := cn) (by omega) c3
        rw [rgA_yes _ rfl, Int.toNat_natCast]
        simp only [Fv, Fcs, Rg.v] at k4
        simp only [go_sem]
        refine cP k4 ?_
        simp only [go_sem, Rg.v]
      · rw [if_neg c3] at he
        subst he
        rw [decide_eq_false c3, rgA_no _ (by decide)]
        simp only [go_sem]
    · rw [if_neg c2] at he
      subst he
      rw [decide_eq_false (show ¬ (0 ≤ c ∧ c ≤ (f.g.length : Int) - 2) from c2), rgA_no _ (by decide)]
      simp only [go_sem]
  · rw [if_neg c1] at he
    subst he
    rw [rgA_no _ c1]
    simp only [go_sem, c1]
theorem Yield_run (f : Fa) (hg : f.g.length ≤ 1000000) (hp : f.p.length ≤ 1000000) (hl : f.lo.length ≤ 1000000) (hh : f.hi.length ≤ 1000000) (v c : Int) : Ans Try.prog n_curve_Yield [Fv f, .int .i64 v, .int .i64 c] [] (rgA (ylE f v c) (ylA f v c.toNat)) [] := by
  have k1 := Check_run f hg hp hl hh
  have k2 := isCell_run f.p hp c
  have k3 := rightG_fn v
  obtain ⟨e, he⟩ : ∃ e, ylE f v c = e := ⟨_, rfl⟩
  rw [he]
  unfold ylE at he
  refine spec_run e_curve_Yield fun G => ?_
  simp only [Fv, Fcs] at k1
  simp only [go_sem, Fv, Fcs]
  refine cP k1 ?_
  by_cases c1 : famE f = 0
  · rw [if_pos c1] at he
    have hf := fam_iff.1 c1
    simp only [go_sem, c1]
    refine cP k3 ?_
    by_cases c3 : -1000000 ≤ v ∧ v ≤ 1000000
    · rw [if_pos c3] at he
      rw [decide_eq_true c3]
      simp only [go_sem]
      refine cP k2 ?_
      by_cases c2 : cellOK f.p c
      · rw [if_pos c2] at he
        subst he
        rw [decide_eq_true (show 0 ≤ c ∧ c ≤ (f.p.length : Int) - 2 from c2)]
        unfold cellOK at c2
        obtain ⟨cn, rfl⟩ : ∃ n : Nat, c = n := ⟨c.toNat, by omega⟩
        have k4 := yield_run hf (c := cn) (by omega) c3
        rw [rgA_yes _ rfl, Int.toNat_natCast]
        simp only [Fv, Fcs, Rg.v] at k4
        simp only [go_sem]
        refine cP k4 ?_
        simp only [go_sem, Rg.v]
      · rw [if_neg c2] at he
        subst he
        rw [decide_eq_false (show ¬ (0 ≤ c ∧ c ≤ (f.p.length : Int) - 2) from c2), rgA_no _ (by decide)]
        simp only [go_sem]
    · rw [if_neg c3] at he
      subst he
      rw [decide_eq_false c3, rgA_no _ (by decide)]
      simp only [go_sem]
  · rw [if_neg c1] at he
    subst he
    rw [rgA_no _ c1]
    simp only [go_sem, c1]
end Go.Proofs

namespace Go.Proofs
open Go Go.Sx Go.Fam
attribute [local irreducible] Run

def hl (a b : Rg) : Rg := ⟨if b.lo < a.lo then b.lo else a.lo, if b.hi > a.hi then b.hi else a.hi⟩
theorem hull_run (a b : Rg) : Ans Try.prog n_curve_hull [.agg [.int .i64 a.lo, .int .i64 a.hi], .agg [.int .i64 b.lo, .int .i64 b.hi]] [] (hl a b).v [] := by
  refine spec_run e_curve_hull fun G => ?_
  simp only [go_sem, hl, Rg.v]
def gnS (f : Fa) (i k : Nat) : Rg := hl (slA f i (at1 f.p k)) (slA f i (at1 f.p (k + 1)))
def gnC (f : Fa) (i k : Nat) : Rg := hl (ylA f (at1 f.g i) k) (ylA f (at1 f.g (i + 1)) k)
def gnA (f : Fa) (i k : Nat) : Rg := ⟨1000000 * (gnS f i k).lo / (gnC f i k).hi, cup (1000000 * (gnS f i k).hi) (gnC f i k).lo⟩
def gnE (f : Fa) (i k : Int) : Int := if famE f = 0 then (if cellOK f.g i ∧ cellOK f.p k then (if (gnC f i.toNat k.toNat).lo = 0 then 15 else 0) else 7) else famE f
theorem slA_in {f : Fa} (h : FaOK f) {c : Nat} (hc : c + 1 < f.g.length) (v : Int) : 0 ≤ (slA f c v).lo ∧ (slA f c v).lo ≤ (slA f c v).hi ∧ (slA f c v).hi ≤ 1000 * 1000000 :=
  stp_in (sl_ok h hc v) (spot_ok h.p (by omega)) (by omega) (gap_g h hc).1 (by omega)
theorem ylA_in {f : Fa} (h : FaOK f) {c : Nat} (hc : c + 1 < f.p.length) (v : Int) : 0 ≤ (ylA f v c).lo ∧ (ylA f v c).lo ≤ (ylA f v c).hi ∧ (ylA f v c).hi ≤ 1000000 * 1000000 :=
  stp_in (yl_ok h hc v) (spot_ok h.g (by omega)) (by omega) (gap_p h hc).1 (by omega)
theorem hl_in {a b : Rg} {M : Int} (ha : 0 ≤ a.lo ∧ a.lo ≤ a.hi ∧ a.hi ≤ M) (hb : 0 ≤ b.lo ∧ b.lo ≤ b.hi ∧ b.hi ≤ M) : 0 ≤ (hl a b).lo ∧ (hl a b).lo ≤ (hl a b).hi ∧ (hl a b).hi ≤ M := by
  unfold hl
  dsimp only
  split <;> split <;> omega
set_option maxHeartbeats 4000000 in
set_option maxRecDepth 20000 in
theorem Gain_run (f : Fa) (hg : f.g.length ≤ 1000000) (hp : f.p.length ≤ 1000000) (hl' : f.lo.length ≤ 1000000) (hh : f.hi.length ≤ 1000000) (i k : Int) : Ans Try.prog n_curve_Gain [Fv f, .int .i64 i, .int .i64 k] [] (rgA (gnE f i k) (gnA f i.toNat k.toNat)) [] := by
  have k1 := Check_run f hg hp hl' hh
  have k2 := isCell_run f.g hg i
  have k3 := isCell_run f.p hp k
  obtain ⟨e, he⟩ : ∃ e, gnE f i k = e := ⟨_, rfl⟩
  rw [he]
  unfold gnE at he
  refine spec_run e_curve_Gain fun G => ?_
  simp only [Fv, Fcs] at k1
  simp only [go_sem, Fv, Fcs]
  refine cP k1 ?_
  by_cases c1 : famE f = 0
  · rw [if_pos c1] at he
    have hf := fam_iff.1 c1
    simp only [go_sem, c1]
    refine cP k2 ?_
    by_cases c2 : cellOK f.g i
    · rw [decide_eq_true (show 0 ≤ i ∧ i ≤ (f.g.length : Int) - 2 from c2)]
      simp only [go_sem]
      refine cP k3 ?_
      by_cases c3 : cellOK f.p k
      · rw [if_pos ⟨c2, c3⟩] at he
        rw [decide_eq_true (show 0 ≤ k ∧ k ≤ (f.p.length : Int) - 2 from c3)]
        unfold cellOK at c2 c3
        obtain ⟨a, rfl⟩ : ∃ n : Nat, i = n := ⟨i.toNat, by omega⟩
        obtain ⟨b, rfl⟩ : ∃ n : Nat, k = n := ⟨k.toNat, by omega⟩
        rw [Int.toNat_natCast, Int.toNat_natCast] at he ⊢
        have gm := hf.g.most
        have pm := hf.p.most
        have ga := hf.g.inn a (by omega)
        have ga1 := hf.g.inn (a + 1) (by omega)
        have pb := hf.p.inn b (by omega)
        have pb1 := hf.p.inn (b + 1) (by omega)
        have s1 := slope_run hf (c := a) (by omega) pb
        have s2 := slope_run hf (c := a) (by omega) pb1
        have y1 := yield_run hf (c := b) (by omega) ga
        have y2 := yield_run hf (c := b) (by omega) ga1
        have h1 := hull_run (slA f a (at1 f.p b)) (slA f a (at1 f.p (b + 1)))
        have h2 := hull_run (ylA f (at1 f.g a) b) (ylA f (at1 f.g (a + 1)) b)
        have iS := hl_in (slA_in hf (c := a) (by omega) (at1 f.p b)) (slA_in hf (c := a) (by omega) (at1 f.p (b + 1)))
        have iC := hl_in (ylA_in hf (c := b) (by omega) (at1 f.g a)) (ylA_in hf (c := b) (by omega) (at1 f.g (a + 1)))
        have x1 := get_at (l := f.g) (i := a) (by omega)
        have x2 := get_at (l := f.g) (i := a + 1) (by omega)
        have x3 := get_at (l := f.p) (i := b) (by omega)
        have x4 := get_at (l := f.p) (i := b + 1) (by omega)
        have wa : IntKind.i64.wrap ((a : Int) + 1) = ((a + 1 : Nat) : Int) := idx_next (n := f.g.length) (by omega) (by omega)
        have wb : IntKind.i64.wrap ((b : Int) + 1) = ((b + 1 : Nat) : Int) := idx_next (n := f.p.length) (by omega) (by omega)
        have n0 : ¬ ((a + 1 : Nat) : Int) < 0 := by omega
        have n1 : ¬ (a : Int) < 0 := by omega
        have n2 : ¬ ((b + 1 : Nat) : Int) < 0 := by omega
        have n3 : ¬ (b : Int) < 0 := by omega
        have eS : hl (slA f a (at1 f.p b)) (slA f a (at1 f.p (b + 1))) = gnS f a b := rfl
        have eC : hl (ylA f (at1 f.g a) b) (ylA f (at1 f.g (a + 1)) b) = gnC f a b := rfl
        rw [eS] at h1 iS
        rw [eC] at h2 iC
        simp only [Fv, Fcs, Rg.v, tw, vw] at s1 s2 y1 y2
        simp only [Rg.v] at h1 h2
        simp only [go_sem, tw, vw, n1, n3, x1, x3, Int.toNat_natCast, wa, wb]
        refine dP s1 ?_
        simp only [go_sem, n0, n1, n2, n3, x1, x2, x3, x4, Int.toNat_natCast, wa, wb]
        refine dP s2 ?_
        simp only [go_sem]
        refine dP h1 ?_
        simp only [go_sem, n0, n1, n2, n3, x1, x2, x3, x4, Int.toNat_natCast, wa, wb]
        refine dP y1 ?_
        simp only [go_sem, n0, n1, n2, n3, x1, x2, x3, x4, Int.toNat_natCast, wa, wb]
        refine dP y2 ?_
        simp only [go_sem]
        refine dP h2 ?_
        simp only [go_sem]
        refine ⟨fun z => ?_, fun z => ⟨by omega, ?_⟩⟩
        · rw [if_pos z] at he
          subst he
          rw [rgA_no _ (by decide)]
        · rw [if_neg z] at he
          subst he
          rw [rgA_yes _ rfl]
          unfold gnA
          generalize gnS f a b = S at *
          generalize gnC f a b = C at *
          have q1 : IntKind.i64.wrap (1000000 * S.lo) = 1000000 * S.lo := w64 (by omega)
          have q2 : IntKind.i64.wrap (1000000 * S.hi) = 1000000 * S.hi := w64 (by omega)
          have q3 : (1000000 * S.lo).tdiv C.hi = 1000000 * S.lo / C.hi := Int.tdiv_eq_ediv_of_nonneg (by omega)
          have q4 : 0 ≤ 1000000 * S.lo / C.hi := Int.ediv_nonneg (by omega) (by omega)
          have q5 : 1000000 * S.lo / C.hi ≤ 1000000 * S.lo := Int.ediv_le_self _ (by omega)
          have q6 : IntKind.i64.wrap (1000000 * S.lo / C.hi) = 1000000 * S.lo / C.hi := w64 (by omega)
          have kr := roundUp_run (n := 1000000 * S.hi) (b := C.lo) (by omega) (by omega)
          rw [q2]
          refine dP kr ?_
          simp only [go_sem, Rg.v, q1, q3, q6]
      · rw [if_neg (fun h => c3 h.2)] at he
        subst he
        rw [decide_eq_false (show ¬ (0 ≤ k ∧ k ≤ (f.p.length : Int) - 2) from c3), rgA_no _ (by decide)]
        simp only [go_sem]
    · rw [if_neg (fun h => c2 h.1)] at he
      subst he
      rw [decide_eq_false (show ¬ (0 ≤ i ∧ i ≤ (f.g.length : Int) - 2) from c2), rgA_no _ (by decide)]
      simp only [go_sem]
  · rw [if_neg c1] at he
    subst he
    rw [rgA_no _ c1]
    simp only [go_sem, c1]
end Go.Proofs

namespace Go.Proofs
open Go Go.Sx Go.Fam

theorem mx0_mono {a b : Int} (h : a ≤ b) : mx0 a ≤ mx0 b := by unfold mx0; split <;> split <;> omega
def WnK (lo hi lo' hi' : Nat → Nat → Int) (i k : Nat) : Prop := lo i k ≤ lo' i k ∧ hi' i k ≤ hi i k
theorem rise_wn {lo hi lo' hi' : Nat → Nat → Int} {c n : Nat} {M : Int} {s : Sp} (hs : SpOK n M s) (h0 : WnK lo hi lo' hi' c s.at_ ∧ WnK lo hi lo' hi' (c + 1) s.at_)
    (h1 : 0 < s.part → WnK lo hi lo' hi' c (s.at_ + 1) ∧ WnK lo hi lo' hi' (c + 1) (s.at_ + 1)) : riseLo lo hi c s ≤ riseLo lo' hi' c s ∧ riseHi lo' hi' c s ≤ riseHi lo hi c s := by
  obtain ⟨p0, p1⟩ := hs.part
  have e0 : wgt s 0 = s.whole - s.part := rfl
  have e1 : wgt s 1 = s.part := rfl
  unfold WnK at h0 h1
  have a := mx0_mono (a := lo (c + 1) s.at_ - hi c s.at_) (b := lo' (c + 1) s.at_ - hi' c s.at_) (by omega)
  have q1 : (s.whole - s.part) * mx0 (lo (c + 1) s.at_ - hi c s.at_) ≤ (s.whole - s.part) * mx0 (lo' (c + 1) s.at_ - hi' c s.at_) := Int.mul_le_mul_of_nonneg_left a (by omega)
  have q2 : (s.whole - s.part) * (hi' (c + 1) s.at_ - lo' c s.at_) ≤ (s.whole - s.part) * (hi (c + 1) s.at_ - lo c s.at_) := Int.mul_le_mul_of_nonneg_left (by omega) (by omega)
  unfold riseLo riseHi
  rw [e0, e1]
  by_cases hp : 0 < s.part
  · have h1 := h1 hp
    have a' := mx0_mono (a := lo (c + 1) (s.at_ + 1) - hi c (s.at_ + 1)) (b := lo' (c + 1) (s.at_ + 1) - hi' c (s.at_ + 1)) (by omega)
    have q3 : s.part * mx0 (lo (c + 1) (s.at_ + 1) - hi c (s.at_ + 1)) ≤ s.part * mx0 (lo' (c + 1) (s.at_ + 1) - hi' c (s.at_ + 1)) := Int.mul_le_mul_of_nonneg_left a' (by omega)
    have q4 : s.part * (hi' (c + 1) (s.at_ + 1) - lo' c (s.at_ + 1)) ≤ s.part * (hi (c + 1) (s.at_ + 1) - lo c (s.at_ + 1)) := Int.mul_le_mul_of_nonneg_left (by omega) (by omega)
    omega
  · have hz : ∀ x, s.part * x = 0 := fun x => by rw [show s.part = 0 by omega, Int.zero_mul]
    rw [hz, hz, hz, hz]
    omega
def Wn (a b : Rg) : Prop := b.lo ≤ a.lo ∧ a.hi ≤ b.hi
theorem stp_wn {lo hi lo' hi' : Nat → Nat → Int} {c n : Nat} {M d u : Int} {s : Sp} (hs : SpOK n M s) (hd : 1 ≤ d) (hu : 0 ≤ u) (h0 : WnK lo hi lo' hi' c s.at_ ∧ WnK lo hi lo' hi' (c + 1) s.at_)
    (h1 : 0 < s.part → WnK lo hi lo' hi' c (s.at_ + 1) ∧ WnK lo hi lo' hi' (c + 1) (s.at_ + 1)) : Wn (stp lo' hi' d c s u) (stp lo hi d c s u) := by
  have r := rise_wn hs h0 h1
  obtain ⟨p0, p1⟩ := hs.part
  have hw : 1 ≤ d * s.whole := Int.mul_pos (by omega) (by omega)
  have q1 : u * riseLo lo hi c s ≤ u * riseLo lo' hi' c s := Int.mul_le_mul_of_nonneg_left r.1 hu
  have q2 : u * riseHi lo' hi' c s ≤ u * riseHi lo hi c s := Int.mul_le_mul_of_nonneg_left r.2 hu
  refine ⟨Int.ediv_le_ediv (by omega) q1, ?_⟩
  show cup _ _ ≤ cup _ _
  unfold cup
  exact Int.ediv_le_ediv (by omega) (by omega)
theorem hl_wn {a b a' b' : Rg} (h1 : Wn a' a) (h2 : Wn b' b) : Wn (hl a' b') (hl a b) := by
  unfold Wn hl at *
  dsimp only
  constructor <;> split <;> split <;> omega
structure InF (t f : Fa) : Prop where
  g : t.g = f.g
  p : t.p = f.p
  inn : ∀ i k, i < f.g.length → k < f.p.length → tg f.lo i k ≤ tg t.lo i k ∧ tg t.hi i k ≤ tg f.hi i k
theorem slA_wn {t f : Fa} (hf : FaOK f) (h : InF t f) {c : Nat} (hc : c + 1 < f.g.length) (v : Int) : Wn (slA t c v) (slA f c v) := by
  have hs : SpOK f.p.length 1000000 (spot f.p v) := spot_ok hf.p (by omega)
  have := gap_g hf hc
  unfold slA
  rw [h.g, h.p]
  exact stp_wn hs (by omega) (by omega) ⟨h.inn _ _ (by omega) hs.at_, h.inn _ _ hc hs.at_⟩ fun hp => ⟨h.inn _ _ (by omega) (hs.next hp), h.inn _ _ hc (hs.next hp)⟩
theorem ylA_wn {t f : Fa} (hf : FaOK f) (h : InF t f) {c : Nat} (hc : c + 1 < f.p.length) (v : Int) : Wn (ylA t v c) (ylA f v c) := by
  have hs : SpOK f.g.length 2000000 (spot f.g v) := spot_ok hf.g (by omega)
  have := gap_p hf hc
  unfold ylA
  rw [h.g, h.p]
  exact stp_wn (lo := fun i k => tg f.lo k i) (hi := fun i k => tg f.hi k i) (lo' := fun i k => tg t.lo k i) (hi' := fun i k => tg t.hi k i) hs (by omega) (by omega) ⟨h.inn _ _ hs.at_ (by omega), h.inn _ _ hs.at_ hc⟩ fun hp => ⟨h.inn _ _ (hs.next hp) (by omega), h.inn _ _ (hs.next hp) hc⟩
theorem gnA_wn {t f : Fa} (hf : FaOK f) (ht : FaOK t) (h : InF t f) {i k : Nat} (hi : i + 1 < f.g.length) (hk : k + 1 < f.p.length) (h0 : (gnC f i k).lo ≠ 0) : (gnC t i k).lo ≠ 0 ∧ Wn (gnA t i k) (gnA f i k) := by
  have iS := hl_in (slA_in hf hi (at1 f.p k)) (slA_in hf hi (at1 f.p (k + 1)))
  have iC := hl_in (ylA_in hf hk (at1 f.g i)) (ylA_in hf hk (at1 f.g (i + 1)))
  have wS : Wn (gnS t i k) (gnS f i k) := by
    unfold gnS; rw [h.p]; exact hl_wn (slA_wn hf h hi _) (slA_wn hf h hi _)
  have wC : Wn (gnC t i k) (gnC f i k) := by
    unfold gnC; rw [h.g]; exact hl_wn (ylA_wn hf h hk _) (ylA_wn hf h hk _)
  have hi' : i + 1 < t.g.length := by rw [h.g]; exact hi
  have hk' : k + 1 < t.p.length := by rw [h.p]; exact hk
  have jS : 0 ≤ (gnS t i k).lo ∧ (gnS t i k).lo ≤ (gnS t i k).hi ∧ (gnS t i k).hi ≤ 1000 * 1000000 := hl_in (slA_in ht hi' _) (slA_in ht hi' _)
  have jC : 0 ≤ (gnC t i k).lo ∧ (gnC t i k).lo ≤ (gnC t i k).hi ∧ (gnC t i k).hi ≤ 1000000 * 1000000 := hl_in (ylA_in ht hk' _) (ylA_in ht hk' _)
  have iS : 0 ≤ (gnS f i k).lo ∧ (gnS f i k).lo ≤ (gnS f i k).hi ∧ (gnS f i k).hi ≤ 1000 * 1000000 := iS
  have iC : 0 ≤ (gnC f i k).lo ∧ (gnC f i k).lo ≤ (gnC f i k).hi ∧ (gnC f i k).hi ≤ 1000000 * 1000000 := iC
  unfold gnA
  generalize gnS t i k = S' at *
  generalize gnC t i k = C' at *
  generalize gnS f i k = S at *
  generalize gnC f i k = C at *
  unfold Wn at *
  refine ⟨by omega, ?_, ?_⟩
  · show 1000000 * S.lo / C.hi ≤ 1000000 * S'.lo / C'.hi
    have d1 : 1000000 * S.lo / C.hi ≤ 1000000 * S'.lo / C.hi := Int.ediv_le_ediv (by omega) (by omega)
    have d2 : 1000000 * S'.lo / C.hi ≤ 1000000 * S'.lo / C'.hi := by
      refine (Int.le_ediv_iff_mul_le (by omega)).2 ?_
      have q0 : 0 ≤ 1000000 * S'.lo / C.hi := Int.ediv_nonneg (by omega) (by omega)
      have q1 : 1000000 * S'.lo / C.hi * C'.hi ≤ 1000000 * S'.lo / C.hi * C.hi := Int.mul_le_mul_of_nonneg_left (by omega) q0
      have q2 : 1000000 * S'.lo / C.hi * C.hi ≤ 1000000 * S'.lo := Int.ediv_mul_le _ (by omega)
      omega
    omega
  · show cup (1000000 * S'.hi) C'.lo ≤ cup (1000000 * S.hi) C.lo
    rw [cup_eq _ _ (by omega), cup_eq _ _ (by omega)]
    have d1 : -(1000000 * S.hi) / C.lo ≤ -(1000000 * S'.hi) / C.lo := Int.ediv_le_ediv (by omega) (by omega)
    have d2 : -(1000000 * S'.hi) / C.lo ≤ -(1000000 * S'.hi) / C'.lo := by
      refine (Int.le_ediv_iff_mul_le (by omega)).2 ?_
      have q0 : -(1000000 * S'.hi) / C.lo ≤ 0 := by
        have := Int.ediv_le_ediv (a := -(1000000 * S'.hi)) (b := 0) (c := C.lo) (by omega) (by omega)
        rwa [Int.zero_ediv] at this
      have q1 : -(1000000 * S'.hi) / C.lo * C'.lo ≤ -(1000000 * S'.hi) / C.lo * C.lo := Int.mul_le_mul_of_nonpos_left q0 (by omega)
      have q2 : -(1000000 * S'.hi) / C.lo * C.lo ≤ -(1000000 * S'.hi) := Int.ediv_mul_le _ (by omega)
      omega
    omega
end Go.Proofs

