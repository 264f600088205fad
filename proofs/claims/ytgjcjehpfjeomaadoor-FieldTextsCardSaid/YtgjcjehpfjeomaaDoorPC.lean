/- A part of the proof. -/
import Derived.Test.YtgjcjehpfjeomaaDoorPB
set_option linter.unusedSimpArgs false
set_option linter.unusedVariables false
namespace Go.Proofs
open Go Go.Sx
open Go.Txt (spl cnt spl_len spl_none spl_step okB celB chB rowB rr)
attribute [local irreducible] Run

theorem spl_sum (c : UInt8) : ∀ l : List UInt8, ((spl c l).map List.length).sum + cnt c l = l.length
  | [] => rfl
  | b :: l => by
    have := spl_sum c l
    simp only [spl, cnt]
    split
    · simp only [List.map_cons, List.length_nil, List.sum_cons, List.length_cons]; omega
    · split
      · rename_i p q e; rw [e] at this; simp only [List.map_cons, List.sum_cons, List.length_cons] at this ⊢; omega
      · rename_i e
        have := spl_len c l
        rw [e] at this; simp at this
theorem sum_take : ∀ (l : List Nat) (n : Nat), (l.take n).sum ≤ l.sum
  | [], n => by simp
  | a :: l, 0 => by simp
  | a :: l, n + 1 => by
    have := sum_take l n
    simp only [List.take_succ_cons, List.sum_cons]; omega

def inT (N : Nat) (rsl : AVal) (i k len m : Nat) : List (Nat × AVal) := rdT N rsl i ++ [(59, .sl k 0 len), (60, .int .i64 len), (61, .int .i64 m)]
def byR (r : List UInt8) : Row := .cells true 1 (r.map byteV)
@[go_sem] theorem byR_bel (r : List UInt8) (S : Nat → Prop) : (byR r).bel S = True := by
  unfold byR; rw [row_bel_cells]; exact eq_true (bels_map _ _ fun b => by unfold byteV; exact .int _ _)
def inH (w h : Int) (rd : Bool) (cs : List Int) (R : List (List UInt8)) (r : List UInt8) : Heap :=
  if cs = [] then [some (plR w h rd .nilsl), some (.cells false 1 (strs R)), some (byR r)] else [some (plR w h rd (.sl 2 0 cs.length)), some (.cells false 1 (strs R)), some (.cells true 1 (ivl cs)), some (byR r)]
def inK (cs : List Int) : Nat := if cs = [] then 2 else 3

set_option maxRecDepth 20000 in
theorem in_back {P : Program} {G : Ctx} {rd : Option Nat} {c : ACode} {fs : List Sx.Frame} {Q : Goal} {ρ : List AVal} {H : Heap} {w h : Int} {b : Bool} {cs : List Int} {R : List (List UInt8)} {r : List UInt8} {j k N i m off len : Nat} (hW : Wk ρ (tsets 88 (inT N (.sl 1 off len) i k r.length m)))
    (h0 : H[0]? = some (some (plR w h b (.sl j 0 cs.length)))) (h1 : H[1]? = some (some (.cells false 1 (strs R)))) (hj : H[j]? = some (some (.cells true 1 (ivl cs)))) (hk : H[k]? = some (some (byR r))) (hj1 : 2 ≤ j) (hk1 : 2 ≤ k) (hjk : j ≠ k) (hne : cs ≠ [])
    (h : Sx.Loop P G 0 rd c fs ⟨tsets 88 (inT N (.sl 1 off len) i (inK cs) r.length m), inH w h b cs R r, []⟩ Q) : Sx.Loop P G 0 rd c fs ⟨ρ, H, []⟩ Q := by
  unfold inH inK at h
  rw [if_neg hne, if_neg hne] at h
  refine loop_wk hW (loop_gc (fun i => if i = 0 then 0 else if i = 1 then 1 else if i = 2 then j else k) (fun i hi => by omega) (by simp) (fun i l hi hl e => ?_) ?_ ?_ (fun i x hx => ?_) h)
  · simp only [List.length_cons, List.length_nil] at hi hl
    by_cases a : i = 0 <;> by_cases b : l = 0 <;> by_cases a1 : i = 1 <;> by_cases b1 : l = 1 <;> by_cases a2 : i = 2 <;> by_cases b2 : l = 2 <;> simp [a, b, a1, b1, a2, b2] at e <;> omega
  · simp [go_sem, inT, rdT, ren]
  · simp [go_sem, inT, rdT]
  · have hi := (List.getElem?_eq_some_iff.1 hx).1
    simp only [List.length_cons, List.length_nil] at hi
    obtain rfl | rfl | rfl | rfl : i = 0 ∨ i = 1 ∨ i = 2 ∨ i = 3 := by omega
    · simp only [List.getElem?_cons_zero, Option.some.injEq] at hx
      subst hx
      refine ⟨?_, ?_⟩
      · show H[0]? = _
        rw [h0]; rfl
      · unfold plR; rw [row_bel_cells]; simp [go_sem]
    · simp only [List.getElem?_cons_succ, List.getElem?_cons_zero, Option.some.injEq] at hx
      subst hx
      exact ⟨by rw [Row.ren_same (by simp only [go_sem])]; exact h1, by simp only [go_sem]⟩
    · simp only [List.getElem?_cons_succ, List.getElem?_cons_zero, Option.some.injEq] at hx
      subst hx
      exact ⟨by rw [Row.ren_same (by simp only [go_sem])]; exact hj, by simp only [go_sem]⟩
    · simp only [List.getElem?_cons_succ, List.getElem?_cons_zero, Option.some.injEq] at hx
      subst hx
      exact ⟨by rw [Row.ren_same (by simp only [go_sem])]; exact hk, by simp only [go_sem]⟩

set_option maxHeartbeats 2000000 in
set_option maxRecDepth 20000 in
theorem inner_ok {G : Ctx} {fs : List Sx.Frame} {Q : Goal} {w h : Int} {rd : Bool} {cs : List Int} {R : List (List UInt8)} {r : List UInt8} {N i off len : Nat} (hall : ∀ b ∈ r, okB b = true) (hpos : 0 < r.length) (hlen : cs.length + r.length ≤ 1000000) (hi : i ≤ 1000000)
    (hnext : ∀ ρ', Wk ρ' (tsets 88 (rdT N (.sl 1 off len) (i + 1))) → Sx.Loop Tryd.prog G 0 none k_field_read_r20 fs ⟨ρ', rdH w h rd (cs ++ r.map celB) R, []⟩ Q) {ρ : List AVal} (hρ : Wk ρ (tsets 88 (inT N (.sl 1 off len) i (inK cs) r.length 0))) :
    Sx.Loop Tryd.prog G 0 none k_field_read_r18 (Sx.Frame.blk 2 :: .blk 1 :: .seq (.reg k_field_read_r19 false) :: .rnd k_field_read_r20 :: fs) ⟨ρ, inH w h rd cs R r, []⟩ Q := by
  refine loop_ind k_field_read_r18.eq_1 (fun m : Nat => m ≤ r.length) (fun m => r.length - m)
    (fun m => (tsets 88 (inT N (.sl 1 off len) i (inK (cs ++ (r.take m).map celB)) r.length m), inH w h rd (cs ++ (r.take m).map celB) R r)) 0 (Nat.zero_le _) (by simpa using hρ) (by simp) ?_
  intro m hm ih
  dsimp only at hm ih ⊢
  by_cases h1 : m < r.length
  · have g1 : (m : Int) < r.length := by omega
    have n0 : ¬ (m : Int) < 0 := by omega
    have v1 : IntKind.i64.wrap ((m : Int) + 1) = ((m + 1 : Nat) : Int) := by rw [w64 (by omega)]; rfl
    have hx := byte_get h1
    have htk : cs ++ (r.take (m + 1)).map celB = (cs ++ (r.take m).map celB) ++ [celB r[m]] := by
      have e : r.take (m + 1) = r.take m ++ [r[m]] := by rw [List.take_add_one, List.getElem?_eq_getElem h1]; rfl
      rw [e, List.map_append, List.append_assoc]; rfl
    have hb := hall _ (List.getElem_mem h1)
    have hn := ih (m + 1) (by omega) h1
    rw [htk] at hn
    have hcl : (cs ++ (r.take m).map celB).length ≤ 1000000 := by simp; omega
    obtain ⟨cs', hcs'⟩ : ∃ x, cs ++ (r.take m).map celB = x := ⟨_, rfl⟩
    rw [hcs'] at hn hcl ⊢
    obtain ⟨b, hbe⟩ : ∃ b, r[m] = b := ⟨_, rfl⟩
    rw [hbe] at hx hb hn
    have kc := cellOf_ok hb
    by_cases hc : cs' = []
    · subst hc
      simp only [go_sem, inT, inH, inK, rdT, plR, byR, g1, n0, hx, Int.toNat_natCast, if_true, List.length_map]
      refine dP kc ?_
      simp only [go_sem, v1]
      exact ⟨by decide, in_back (cs := [celB b]) (r := r) (j := 4) (k := 2) (m := m + 1) (by simp [go_sem, inT, rdT]) rfl rfl rfl rfl (by omega) (by omega) (by omega) (by simp) (hn _ (wk_refl _))⟩
    · have bb : (cs'.length + 1) * 8 ≤ 2 ^ 44 := by omega
      have hil : (ivl cs').length = cs'.length := by simp [ivl]
      simp only [go_sem, inT, inH, inK, rdT, plR, byR, g1, n0, hx, Int.toNat_natCast, hc, if_false, List.length_map]
      refine dP kc ?_
      simp only [go_sem, v1, bb, hil]
      have hl1 : (cs' ++ [celB b]).length = cs'.length + 1 := by simp
      exact in_back (cs := cs' ++ [celB b]) (r := r) (j := 2) (k := 3) (m := m + 1) (by simp [go_sem, inT, rdT]) (by rw [hl1]; rfl) rfl (by simp [ivl]) rfl (by omega) (by omega) (by omega) (by simp) (hn _ (wk_refl _))
  · obtain rfl : m = r.length := by omega
    have g1 : ¬ (r.length : Int) < r.length := by omega
    have ht : r.take r.length = r := List.take_length
    have v2 : IntKind.i64.wrap ((i : Int) + 1) = ((i + 1 : Nat) : Int) := by rw [w64 (by omega)]; rfl
    have hne : cs ++ r.map celB ≠ [] := by
      intro e
      have := congrArg List.length e
      rw [List.length_append, List.length_map, List.length_nil] at this; omega
    rw [ht]
    simp only [go_sem, inT, inH, inK, rdT, plR, byR, g1, hne, if_false, v2]
    exact rp_back (cs := cs ++ r.map celB) (j := 2) (by simp [go_sem, rdT]) (by rw [List.length_append, List.length_map]; rfl) rfl rfl (by omega) hne (hnext _ (wk_refl _))
end Go.Proofs

namespace Go.Proofs
open Go Go.Sx
open Go.Txt (spl cnt spl_len spl_none spl_step okB celB chB rowB rr)
attribute [local irreducible] Run

def roundB : List UInt8 := [114, 111, 117, 110, 100]
def flatB : List UInt8 := [102, 108, 97, 116]
structure Rq where
  w : Nat
  h : Int
  rd : Bool
  cs : List Int
  bad : Int
def readR (R : List (List UInt8)) (N : Nat) : Rq :=
  if N = 0 ∨ (R.headD [] ≠ roundB ∧ R.headD [] ≠ flatB) then ⟨0, 0, false, [], 1⟩
  else if (rr ((R.drop 1).take (N - 1)) 2 0 []).2.2 ≠ 0 then ⟨(rr ((R.drop 1).take (N - 1)) 2 0 []).1, N - 1, R.headD [] == roundB, (rr ((R.drop 1).take (N - 1)) 2 0 []).2.1, (rr ((R.drop 1).take (N - 1)) 2 0 []).2.2⟩
  else if N - 1 = 0 ∨ R.getD N [] ≠ [] then ⟨(rr ((R.drop 1).take (N - 1)) 2 0 []).1, N - 1, R.headD [] == roundB, (rr ((R.drop 1).take (N - 1)) 2 0 []).2.1, N + 1⟩
  else ⟨(rr ((R.drop 1).take (N - 1)) 2 0 []).1, N - 1, R.headD [] == roundB, (rr ((R.drop 1).take (N - 1)) 2 0 []).2.1, 0⟩
def Rq.v (q : Rq) : AVal := .tup [.agg [.int .i64 q.w, .int .i64 q.h, .bool q.rd, csV 0 q.cs], .int .i64 q.bad]
def Rq.H (q : Rq) : Heap := if q.cs = [] then [] else [some (.cells true 1 (ivl q.cs))]

theorem strs_get {R : List (List UInt8)} {i : Nat} (h : i < R.length) : (strs R)[i]? = some (.str R[i]) := by simp [strs, h]

theorem rq_keep {q : Rq} {w h : Int} {rd : Bool} {cs : List Int} {R : List (List UInt8)} {bad : Int} {X : Heap} (hq : q.w = w ∧ q.h = h ∧ q.rd = rd ∧ q.cs = cs ∧ q.bad = bad) :
    ∃ σ, Kept [] q.H q.v (.tup [.agg [.int .i64 w, .int .i64 h, .bool rd, csV 2 cs], .int .i64 bad]) (rdH w h rd cs R ++ X) σ := by
  obtain ⟨h1, rfl, rfl, rfl, rfl⟩ := hq
  subst h1
  unfold Rq.H Rq.v csV rdH
  by_cases hc : q.cs = []
  · simp only [hc, if_true]
    exact ⟨fun i => i, fun i hi => rfl, fun i j hi => by simp at hi, rfl, fun i y hy => by simp at hy⟩
  · simp only [hc, if_false]
    exact kept_one 2 rfl (by simp only [go_sem]) rfl

set_option maxHeartbeats 4000000 in
set_option maxRecDepth 20000 in
theorem read_ok (s : List UInt8) (hl : s.length ≤ 1000000) : Ans Tryd.prog n_field_read [.str s] [] (readR (spl 10 s) (cnt 10 s)).v (readR (spl 10 s) (cnt 10 s)).H := by
  have ks := Split_ok s 10 (by omega)
  have hcl := cntT_le 10 s
  have hRl := spl_len 10 s
  obtain ⟨R, hR⟩ : ∃ R, spl 10 s = R := ⟨_, rfl⟩
  obtain ⟨N, hN⟩ : ∃ N, cnt 10 s = N := ⟨_, rfl⟩
  rw [hR, hN] at ks hRl
  rw [hN] at hcl
  rw [hR, hN]
  obtain ⟨q, hq⟩ : ∃ q, readR R N = q := ⟨_, rfl⟩
  rw [hq]
  refine Ans.keep (run_fn e_field_read fun G => ?_) (by simp) (by unfold Rq.v csV Rq.H; split <;> simp [go_sem]) (by unfold Rq.H; split <;> simp [go_sem, Full])
  have u1 : IntKind.i64.wrap (((N + 1 : Nat) : Int) - 1) = N := by rw [w64 (by omega)]; omega
  simp only [go_sem]
  refine cFN ks 6 ⟨.inl rfl, .inl rfl, trivial⟩ ?_
  cases R with
  | nil => simp at hRl
  | cons r0 R =>
    have hR0 : R.length = N := by simpa using hRl
    have hg0 : (strs (r0 :: R))[0]? = some (.str r0) := rfl
    have hz : rdH 0 0 false [] (r0 :: R) = [some (plR 0 0 false .nilsl), some (.cells false 1 (strs (r0 :: R)))] := rfl
    by_cases n0 : N = 0
    · have nz : ((N : Int) == 0) = true := by rw [beq_iff_eq]; omega
      simp only [go_sem, ren, u1, nz]
      have hq' : q = ⟨0, 0, false, [], 1⟩ := by rw [← hq]; unfold readR; rw [if_pos (.inl n0)]
      exact rq_keep (X := []) (w := 0) (h := 0) (rd := false) (cs := []) (R := r0 :: R) (bad := 1) (by rw [hq']; exact ⟨rfl, rfl, rfl, rfl, rfl⟩)
    have nz : ((N : Int) == 0) = false := by rw [beq_eq_false_iff_ne]; omega
    have gN : (0 : Int) < ((N + 1 : Nat) : Int) := by omega
    by_cases hh : r0 ≠ roundB ∧ r0 ≠ flatB
    · have hb : (r0 == [114, 111, 117, 110, 100]) = false := by rw [beq_eq_false_iff_ne]; exact hh.1
      have hf : (r0 == [102, 108, 97, 116]) = false := by rw [beq_eq_false_iff_ne]; exact hh.2
      simp only [go_sem, ren, u1, nz, gN, hg0, hb, hf]
      have hq' : q = ⟨0, 0, false, [], 1⟩ := by rw [← hq]; unfold readR; rw [if_pos (.inr hh)]
      exact rq_keep (X := []) (w := 0) (h := 0) (rd := false) (cs := []) (R := r0 :: R) (bad := 1) (by rw [hq']; exact ⟨rfl, rfl, rfl, rfl, rfl⟩)
    have hcase : ∃ b b' : Bool, (r0 == [114, 111, 117, 110, 100]) = b ∧ (r0 == [102, 108, 97, 116]) = b' ∧ (b = true ∨ b' = true) := by
      refine ⟨_, _, rfl, rfl, ?_⟩
      by_cases h1 : r0 = roundB
      · left; subst h1; rfl
      · right
        have h2 : r0 = flatB := by
          rcases Classical.em (r0 = flatB) with h | h
          · exact h
          · exact absurd ⟨h1, h⟩ hh
        subst h2; rfl
    obtain ⟨b, b', hb, hf, hbb⟩ := hcase
    have u2 : IntKind.i64.wrap ((N : Int) - 1) = (N : Int) - 1 := w64 (by omega)
    have k1 : (0 : Int) ≤ 1 := by omega
    have k2 : (1 : Int) ≤ (N : Int) := by omega
    have k3 : (N : Int) ≤ ((N + 1 : Nat) : Int) := by omega
    have hqe : q = (if (rr (R.take (N - 1)) 2 0 []).2.2 ≠ 0 then ⟨(rr (R.take (N - 1)) 2 0 []).1, N - 1, b, (rr (R.take (N - 1)) 2 0 []).2.1, (rr (R.take (N - 1)) 2 0 []).2.2⟩
        else if N - 1 = 0 ∨ (r0 :: R).getD N [] ≠ [] then ⟨(rr (R.take (N - 1)) 2 0 []).1, N - 1, b, (rr (R.take (N - 1)) 2 0 []).2.1, N + 1⟩
        else ⟨(rr (R.take (N - 1)) 2 0 []).1, N - 1, b, (rr (R.take (N - 1)) 2 0 []).2.1, 0⟩) := by
      rw [← hq]; unfold readR
      rw [if_neg (by rintro (h | h); exact n0 h; exact hh h)]
      have : ((r0 :: R).headD [] == roundB) = b := hb
      rw [this]; rfl
    have hbb : b = true ∨ (b = false ∧ b' = true) := by cases b with
      | true => exact .inl rfl
      | false => rcases hbb with h | h
                 · cases h
                 · exact .inr ⟨rfl, h⟩
    rcases hbb with rfl | ⟨rfl, rfl⟩
    · by_cases n1 : N = 1
      · have e1 : ((1 : Int) = (N : Int)) = True := eq_true (by omega)
        have e3 : (N : Int) - 1 = 0 := by omega
        have w0 : IntKind.i64.wrap 0 = 0 := rfl
        simp only [go_sem, ren, u1, nz, gN, hg0, hb, hf, u2, k1, k2, k3, e1, e3]
        refine loop_body 800 k_field_read_r20.eq_1 ?_
        simp only [go_sem, w0]
        have hR1 : R.take (N - 1) = [] := by rw [n1]; rfl
        rw [hR1] at hqe
        have hN1 : N - 1 = 0 := by omega
        have hrr : rr ([] : List (List UInt8)) 2 0 [] = (0, [], 0) := rfl
        rw [hrr, if_neg (show ¬ ((0 : Nat), ([] : List Int), (0 : Nat)).2.2 ≠ 0 from fun h => h rfl), if_pos (Or.inl hN1)] at hqe
        exact rq_keep (X := []) (w := 0) (h := 0) (rd := true) (cs := []) (R := r0 :: R) (bad := ((N + 1 : Nat) : Int)) (by rw [hqe]; exact ⟨rfl, e3, rfl, rfl, rfl⟩)
      · have e1 : ¬ (1 : Int) = (N : Int) := by omega
        have e2 : 1 + (N - 1) = N := by omega
        have e3 : ((N - 1 : Nat) : Int) = (N : Int) - 1 := by omega
        simp only [go_sem, ren, u1, nz, gN, hg0, hb, hf, u2, k1, k2, k3, e1, e3]
        obtain ⟨rows, hrows⟩ : ∃ rows, R.take (N - 1) = rows := ⟨_, rfl⟩
        have hrl : rows.length = N - 1 := by rw [← hrows, List.length_take]; omega
        have hrg : ∀ i, i < N - 1 → ∃ r, rows[i]? = some r ∧ (strs (r0 :: R))[1 + i]? = some (.str r) ∧ rows.drop i = r :: rows.drop (i + 1) := fun i hi => by
          have h1 : i < rows.length := by omega
          refine ⟨rows[i], List.getElem?_eq_getElem h1, ?_, List.drop_eq_getElem_cons h1⟩
          have h2 : rows[i] = R[i]'(by omega) := by subst hrows; simp
          rw [h2, Nat.add_comm 1 i]
          simp [strs]
        rw [hrows] at hqe
        have hflen : (rows.map List.length).sum ≤ s.length := by
          have h1 := spl_sum 10 s
          rw [hR, List.map_cons, List.sum_cons] at h1
          have h2 := sum_take (R.map List.length) (N - 1)
          rw [← List.map_take, hrows] at h2
          omega
        obtain ⟨Q, hQ⟩ : ∃ Q, rr rows 2 0 [] = Q := ⟨_, rfl⟩
        rw [hQ] at hqe
        refine loop_ind k_field_read_r20.eq_1 (fun a : Nat × Nat × List Int => a.1 ≤ N - 1 ∧ rr (rows.drop a.1) (a.1 + 2) a.2.1 a.2.2 = Q ∧ a.2.2.length + ((rows.drop a.1).map List.length).sum ≤ 1000000 ∧ a.2.1 ≤ 1000000) (fun a => N - 1 - a.1)
          (fun a => (tsets 88 (rdT N (.sl 1 1 (N - 1)) a.1), rdH a.2.1 ((N : Int) - 1) true a.2.2 (r0 :: R))) (0, 0, []) ⟨Nat.zero_le _, hQ, by simp only [List.drop_zero, List.length_nil]; omega, by dsimp only; omega⟩ (by simp [go_sem, rdT]) rfl ?_
        rintro ⟨i, w, cs⟩ ⟨hi, hE, hcl2, hw6⟩ ih
        dsimp only at hi hE hcl2 hw6 ih ⊢
        by_cases h1 : i < N - 1
        · obtain ⟨r, hr1, hr2, hr3⟩ := hrg i h1
          have g1 : (i : Int) < (N : Int) - 1 := by omega
          have y0 : ¬ (i : Int) < 0 := by omega
          have y1 : (i : Int) < ((N - 1 : Nat) : Int) := by omega
          rw [hr3] at hE hcl2
          simp only [rr, List.map_cons, List.sum_cons] at hE hcl2
          have ki := isRow_ok r w (by omega)
          have v1 : IntKind.i64.wrap ((i : Int) + 1) = ((i + 1 : Nat) : Int) := by rw [w64 (by omega)]; rfl
          have v2 : IntKind.i64.wrap ((i : Int) + 2) = ((i + 2 : Nat) : Int) := by rw [w64 (by omega)]; rfl
          by_cases hrow : rowB r w = true
          · rw [if_pos hrow] at hE
            have hrall : ∀ b ∈ r, okB b = true := by
              unfold rowB at hrow
              rw [Bool.and_eq_true] at hrow
              exact List.all_eq_true.1 hrow.1
            have hrpos : 0 < r.length := by
              unfold rowB at hrow
              simp only [Bool.and_eq_true, decide_eq_true_eq] at hrow
              exact hrow.2.1
            have hnext := ih (i + 1, r.length, cs ++ r.map celB) (by dsimp only; omega) ⟨h1, hE, by dsimp only; rw [List.length_append, List.length_map]; omega, by dsimp only; omega⟩
            dsimp only at hnext
            by_cases hcs : cs = []
            · subst hcs
              simp only [go_sem, rdT, rdH, plR, g1, y0, y1, e2, Int.toNat_natCast, hr2, if_true, e3]
              refine cP ki ?_
              simp only [go_sem, hrow]
              exact inner_ok (cs := []) (R := r0 :: R) (r := r) (h := (N : Int) - 1) (rd := _) (i := i) hrall hrpos (by simp; omega) (by omega) hnext (by simp [go_sem, inT, rdT, inK])
            · simp only [go_sem, rdT, rdH, plR, g1, y0, y1, e2, Int.toNat_natCast, hr2, hcs, if_false, e3]
              refine cP ki ?_
              simp only [go_sem, hrow]
              have hin := fun (ρ : List AVal) => inner_ok (G := G) (ρ := ρ) (cs := cs) (R := r0 :: R) (r := r) (h := (N : Int) - 1) (i := i) (N := N) (off := 1) (len := N - 1) hrall hrpos (by omega) (by omega) hnext
              simp only [inH, inK, hcs, if_false] at hin
              exact hin _ (by simp [go_sem, inT, rdT])
          · rw [if_neg hrow] at hE
            subst hE
            have hrow' : rowB r w = false := by simpa using hrow
            rw [if_pos (by dsimp only; omega)] at hqe
            by_cases hcs : cs = []
            · subst hcs
              simp only [go_sem, rdT, rdH, plR, g1, y0, y1, e2, Int.toNat_natCast, hr2, if_true, e3]
              refine cP ki ?_
              simp only [go_sem, hrow', v2]
              exact rq_keep (X := []) (w := w) (h := (N : Int) - 1) (rd := true) (cs := []) (R := r0 :: R) (bad := ((i + 2 : Nat) : Int)) (by rw [hqe]; exact ⟨rfl, rfl, rfl, rfl, rfl⟩)
            · simp only [go_sem, rdT, rdH, plR, g1, y0, y1, e2, Int.toNat_natCast, hr2, hcs, if_false, e3]
              refine cP ki ?_
              simp only [go_sem, hrow', v2]
              have hk := rq_keep (q := q) (X := []) (w := w) (h := (N : Int) - 1) (rd := true) (cs := cs) (R := r0 :: R) (bad := ((i + 2 : Nat) : Int)) (by rw [hqe]; exact ⟨rfl, rfl, rfl, rfl, rfl⟩)
              simpa only [csV, rdH, plR, hcs, if_false, List.append_nil] using hk
        · have hd : rows.drop i = [] := List.drop_eq_nil_of_le (by omega)
          rw [hd] at hE
          simp only [rr] at hE
          subst hE
          have g1 : ¬ (i : Int) < (N : Int) - 1 := by omega
          have z1 : ((N : Int) - 1 == 0) = false := by rw [beq_eq_false_iff_ne]; omega
          have q1 : (N : Int) < ((N + 1 : Nat) : Int) := by omega
          have q2 : ¬ (N : Int) < 0 := by omega
          have hgN := strs_get (R := r0 :: R) (i := N) (by simp; omega)
          have hgD : (r0 :: R).getD N [] = (r0 :: R)[N]'(by simp; omega) := by rw [List.getD_eq_getElem?_getD, List.getElem?_eq_getElem (by simp; omega)]; rfl
          obtain ⟨last, hlast⟩ : ∃ l, (r0 :: R)[N]'(by simp; omega) = l := ⟨_, rfl⟩
          rw [hlast] at hgN hgD
          rw [hgD, if_neg (fun h => h rfl)] at hqe
          have hN1 : ¬ N - 1 = 0 := by omega
          by_cases hla : last = []
          · have hlb : (last == []) = true := by rw [hla]; rfl
            rw [if_neg (by rintro (h | h); exact hN1 h; exact h hla)] at hqe
            by_cases hcs : cs = []
            · subst hcs
              simp only [go_sem, rdT, rdH, plR, g1, z1, q1, q2, Int.toNat_natCast, hgN, if_true, hlb]
              exact rq_keep (X := []) (w := w) (h := (N : Int) - 1) (rd := true) (cs := []) (R := r0 :: R) (bad := 0) (by rw [hqe]; exact ⟨rfl, rfl, rfl, rfl, rfl⟩)
            · simp only [go_sem, rdT, rdH, plR, g1, z1, q1, q2, Int.toNat_natCast, hgN, hcs, if_false, hlb]
              have hk := rq_keep (q := q) (X := []) (w := w) (h := (N : Int) - 1) (rd := true) (cs := cs) (R := r0 :: R) (bad := 0) (by rw [hqe]; exact ⟨rfl, rfl, rfl, rfl, rfl⟩)
              simpa only [csV, rdH, plR, hcs, if_false, List.append_nil] using hk
          · have hlb : (last == []) = false := by rw [beq_eq_false_iff_ne]; exact hla
            rw [if_pos (.inr hla)] at hqe
            by_cases hcs : cs = []
            · subst hcs
              simp only [go_sem, rdT, rdH, plR, g1, z1, q1, q2, Int.toNat_natCast, hgN, if_true, hlb]
              exact rq_keep (X := []) (w := w) (h := (N : Int) - 1) (rd := true) (cs := []) (R := r0 :: R) (bad := ((N + 1 : Nat) : Int)) (by rw [hqe]; exact ⟨rfl, rfl, rfl, rfl, rfl⟩)
            · simp only [go_sem, rdT, rdH, plR, g1, z1, q1, q2, Int.toNat_natCast, hgN, hcs, if_false, hlb]
              have hk := rq_keep (q := q) (X := []) (w := w) (h := (N : Int) - 1) (rd := true) (cs := cs) (R := r0 :: R) (bad := ((N + 1 : Nat) : Int)) (by rw [hqe]; exact ⟨rfl, rfl, rfl, rfl, rfl⟩)
              simpa only [csV, rdH, plR, hcs, if_false, List.append_nil] using hk
    · by_cases n1 : N = 1
      · have e1 : ((1 : Int) = (N : Int)) = True := eq_true (by omega)
        have e3 : (N : Int) - 1 = 0 := by omega
        have w0 : IntKind.i64.wrap 0 = 0 := rfl
        simp only [go_sem, ren, u1, nz, gN, hg0, hb, hf, u2, k1, k2, k3, e1, e3]
        refine loop_body 800 k_field_read_r20.eq_1 ?_
        simp only [go_sem, w0]
        have hR1 : R.take (N - 1) = [] := by rw [n1]; rfl
        rw [hR1] at hqe
        have hN1 : N - 1 = 0 := by omega
        have hrr : rr ([] : List (List UInt8)) 2 0 [] = (0, [], 0) := rfl
        rw [hrr, if_neg (show ¬ ((0 : Nat), ([] : List Int), (0 : Nat)).2.2 ≠ 0 from fun h => h rfl), if_pos (Or.inl hN1)] at hqe
        exact rq_keep (X := []) (w := 0) (h := 0) (rd := false) (cs := []) (R := r0 :: R) (bad := ((N + 1 : Nat) : Int)) (by rw [hqe]; exact ⟨rfl, e3, rfl, rfl, rfl⟩)
      · have e1 : ¬ (1 : Int) = (N : Int) := by omega
        have e2 : 1 + (N - 1) = N := by omega
        have e3 : ((N - 1 : Nat) : Int) = (N : Int) - 1 := by omega
        simp only [go_sem, ren, u1, nz, gN, hg0, hb, hf, u2, k1, k2, k3, e1, e3]
        obtain ⟨rows, hrows⟩ : ∃ rows, R.take (N - 1) = rows := ⟨_, rfl⟩
        have hrl : rows.length = N - 1 := by rw [← hrows, List.length_take]; omega
        have hrg : ∀ i, i < N - 1 → ∃ r, rows[i]? = some r ∧ (strs (r0 :: R))[1 + i]? = some (.str r) ∧ rows.drop i = r :: rows.drop (i + 1) := fun i hi => by
          have h1 : i < rows.length := by omega
          refine ⟨rows[i], List.getElem?_eq_getElem h1, ?_, List.drop_eq_getElem_cons h1⟩
          have h2 : rows[i] = R[i]'(by omega) := by subst hrows; simp
          rw [h2, Nat.add_comm 1 i]
          simp [strs]
        rw [hrows] at hqe
        have hflen : (rows.map List.length).sum ≤ s.length := by
          have h1 := spl_sum 10 s
          rw [hR, List.map_cons, List.sum_cons] at h1
          have h2 := sum_take (R.map List.length) (N - 1)
          rw [← List.map_take, hrows] at h2
          omega
        obtain ⟨Q, hQ⟩ : ∃ Q, rr rows 2 0 [] = Q := ⟨_, rfl⟩
        rw [hQ] at hqe
        refine loop_ind k_field_read_r20.eq_1 (fun a : Nat × Nat × List Int => a.1 ≤ N - 1 ∧ rr (rows.drop a.1) (a.1 + 2) a.2.1 a.2.2 = Q ∧ a.2.2.length + ((rows.drop a.1).map List.length).sum ≤ 1000000 ∧ a.2.1 ≤ 1000000) (fun a => N - 1 - a.1)
          (fun a => (tsets 88 (rdT N (.sl 1 1 (N - 1)) a.1), rdH a.2.1 ((N : Int) - 1) false a.2.2 (r0 :: R))) (0, 0, []) ⟨Nat.zero_le _, hQ, by simp only [List.drop_zero, List.length_nil]; omega, by dsimp only; omega⟩ (by simp [go_sem, rdT]) rfl ?_
        rintro ⟨i, w, cs⟩ ⟨hi, hE, hcl2, hw6⟩ ih
        dsimp only at hi hE hcl2 hw6 ih ⊢
        by_cases h1 : i < N - 1
        · obtain ⟨r, hr1, hr2, hr3⟩ := hrg i h1
          have g1 : (i : Int) < (N : Int) - 1 := by omega
          have y0 : ¬ (i : Int) < 0 := by omega
          have y1 : (i : Int) < ((N - 1 : Nat) : Int) := by omega
          rw [hr3] at hE hcl2
          simp only [rr, List.map_cons, List.sum_cons] at hE hcl2
          have ki := isRow_ok r w (by omega)
          have v1 : IntKind.i64.wrap ((i : Int) + 1) = ((i + 1 : Nat) : Int) := by rw [w64 (by omega)]; rfl
          have v2 : IntKind.i64.wrap ((i : Int) + 2) = ((i + 2 : Nat) : Int) := by rw [w64 (by omega)]; rfl
          by_cases hrow : rowB r w = true
          · rw [if_pos hrow] at hE
            have hrall : ∀ b ∈ r, okB b = true := by
              unfold rowB at hrow
              rw [Bool.and_eq_true] at hrow
              exact List.all_eq_true.1 hrow.1
            have hrpos : 0 < r.length := by
              unfold rowB at hrow
              simp only [Bool.and_eq_true, decide_eq_true_eq] at hrow
              exact hrow.2.1
            have hnext := ih (i + 1, r.length, cs ++ r.map celB) (by dsimp only; omega) ⟨h1, hE, by dsimp only; rw [List.length_append, List.length_map]; omega, by dsimp only; omega⟩
            dsimp only at hnext
            by_cases hcs : cs = []
            · subst hcs
              simp only [go_sem, rdT, rdH, plR, g1, y0, y1, e2, Int.toNat_natCast, hr2, if_true, e3]
              refine cP ki ?_
              simp only [go_sem, hrow]
              exact inner_ok (cs := []) (R := r0 :: R) (r := r) (h := (N : Int) - 1) (rd := _) (i := i) hrall hrpos (by simp; omega) (by omega) hnext (by simp [go_sem, inT, rdT, inK])
            · simp only [go_sem, rdT, rdH, plR, g1, y0, y1, e2, Int.toNat_natCast, hr2, hcs, if_false, e3]
              refine cP ki ?_
              simp only [go_sem, hrow]
              have hin := fun (ρ : List AVal) => inner_ok (G := G) (ρ := ρ) (cs := cs) (R := r0 :: R) (r := r) (h := (N : Int) - 1) (i := i) (N := N) (off := 1) (len := N - 1) hrall hrpos (by omega) (by omega) hnext
              simp only [inH, inK, hcs, if_false] at hin
              exact hin _ (by simp [go_sem, inT, rdT])
          · rw [if_neg hrow] at hE
            subst hE
            have hrow' : rowB r w = false := by simpa using hrow
            rw [if_pos (by dsimp only; omega)] at hqe
            by_cases hcs : cs = []
            · subst hcs
              simp only [go_sem, rdT, rdH, plR, g1, y0, y1, e2, Int.toNat_natCast, hr2, if_true, e3]
              refine cP ki ?_
              simp only [go_sem, hrow', v2]
              exact rq_keep (X := []) (w := w) (h := (N : Int) - 1) (rd := false) (cs := []) (R := r0 :: R) (bad := ((i + 2 : Nat) : Int)) (by rw [hqe]; exact ⟨rfl, rfl, rfl, rfl, rfl⟩)
            · simp only [go_sem, rdT, rdH, plR, g1, y0, y1, e2, Int.toNat_natCast, hr2, hcs, if_false, e3]
              refine cP ki ?_
              simp only [go_sem, hrow', v2]
              have hk := rq_keep (q := q) (X := []) (w := w) (h := (N : Int) - 1) (rd := false) (cs := cs) (R := r0 :: R) (bad := ((i + 2 : Nat) : Int)) (by rw [hqe]; exact ⟨rfl, rfl, rfl, rfl, rfl⟩)
              simpa only [csV, rdH, plR, hcs, if_false, List.append_nil] using hk
        · have hd : rows.drop i = [] := List.drop_eq_nil_of_le (by omega)
          rw [hd] at hE
          simp only [rr] at hE
          subst hE
          have g1 : ¬ (i : Int) < (N : Int) - 1 := by omega
          have z1 : ((N : Int) - 1 == 0) = false := by rw [beq_eq_false_iff_ne]; omega
          have q1 : (N : Int) < ((N + 1 : Nat) : Int) := by omega
          have q2 : ¬ (N : Int) < 0 := by omega
          have hgN := strs_get (R := r0 :: R) (i := N) (by simp; omega)
          have hgD : (r0 :: R).getD N [] = (r0 :: R)[N]'(by simp; omega) := by rw [List.getD_eq_getElem?_getD, List.getElem?_eq_getElem (by simp; omega)]; rfl
          obtain ⟨last, hlast⟩ : ∃ l, (r0 :: R)[N]'(by simp; omega) = l := ⟨_, rfl⟩
          rw [hlast] at hgN hgD
          rw [hgD, if_neg (fun h => h rfl)] at hqe
          have hN1 : ¬ N - 1 = 0 := by omega
          by_cases hla : last = []
          · have hlb : (last == []) = true := by rw [hla]; rfl
            rw [if_neg (by rintro (h | h); exact hN1 h; exact h hla)] at hqe
            by_cases hcs : cs = []
            · subst hcs
              simp only [go_sem, rdT, rdH, plR, g1, z1, q1, q2, Int.toNat_natCast, hgN, if_true, hlb]
              exact rq_keep (X := []) (w := w) (h := (N : Int) - 1) (rd := false) (cs := []) (R := r0 :: R) (bad := 0) (by rw [hqe]; exact ⟨rfl, rfl, rfl, rfl, rfl⟩)
            · simp only [go_sem, rdT, rdH, plR, g1, z1, q1, q2, Int.toNat_natCast, hgN, hcs, if_false, hlb]
              have hk := rq_keep (q := q) (X := []) (w := w) (h := (N : Int) - 1) (rd := false) (cs := cs) (R := r0 :: R) (bad := 0) (by rw [hqe]; exact ⟨rfl, rfl, rfl, rfl, rfl⟩)
              simpa only [csV, rdH, plR, hcs, if_false, List.append_nil] using hk
          · have hlb : (last == []) = false := by rw [beq_eq_false_iff_ne]; exact hla
            rw [if_pos (.inr hla)] at hqe
            by_cases hcs : cs = []
            · subst hcs
              simp only [go_sem, rdT, rdH, plR, g1, z1, q1, q2, Int.toNat_natCast, hgN, if_true, hlb]
              exact rq_keep (X := []) (w := w) (h := (N : Int) - 1) (rd := false) (cs := []) (R := r0 :: R) (bad := ((N + 1 : Nat) : Int)) (by rw [hqe]; exact ⟨rfl, rfl, rfl, rfl, rfl⟩)
            · simp only [go_sem, rdT, rdH, plR, g1, z1, q1, q2, Int.toNat_natCast, hgN, hcs, if_false, hlb]
              have hk := rq_keep (q := q) (X := []) (w := w) (h := (N : Int) - 1) (rd := false) (cs := cs) (R := r0 :: R) (bad := ((N + 1 : Nat) : Int)) (by rw [hqe]; exact ⟨rfl, rfl, rfl, rfl, rfl⟩)
              simpa only [csV, rdH, plR, hcs, if_false, List.append_nil] using hk
end Go.Proofs

namespace Go.Proofs
open Go Go.Sx

def k_kit_PlanOf_r0 : List AOper := [
  ⟨some 6, .box (.const (.agg [.int .i64 0, .int .i64 0, .bool false, .nilsl])), none, []⟩]
def k_kit_PlanOf_r1 : List AOper := [
  ⟨some 10, .move (.tmp 0), none, []⟩,
 ⟨some 11, .move (.tmp 1), none, []⟩,
 ⟨some 12, .call (.const (.fn (.func 21) [] [])) [.tmp 10, .const (.int .i64 1), .tmp 11], none, []⟩,
 ⟨some 13, .move (.tmp 0), none, []⟩,
 ⟨some 14, .move (.tmp 2), none, []⟩,
 ⟨some 15, .call (.const (.fn (.func 21) [] [])) [.tmp 13, .const (.int .i64 1), .tmp 14], none, []⟩,
 ⟨some 16, .move (.tmp 0), none, []⟩,
 ⟨some 17, .call (.const (.fn (.func 22) [] [])) [.tmp 16, .const (.int .i64 2)], none, []⟩,
 ⟨some 18, .build [.int .i64 0, .int .i64 0, .bool false, .nilsl] [(0, 1, .tmp 12), (1, 1, .tmp 15), (2, 1, .tmp 17)], none, []⟩,
 ⟨some 7, .box (.const (.agg [.int .i64 0, .int .i64 0, .bool false, .nilsl])), none, []⟩,
 ⟨none, .store 4 (.tmp 7) (.tmp 18), none, []⟩]
def k_kit_PlanOf_r2 : List AOper := [
  ⟨some 8, .move (.const (.int .i64 0)), none, []⟩]
def k_kit_PlanOf_r3 : List AOper := [
  ⟨some 19, .move (.tmp 8), none, []⟩,
 ⟨some 20, .fieldAddr 0 (.tmp 7), none, []⟩,
 ⟨some 21, .load none (.tmp 20), none, []⟩,
 ⟨some 22, .fieldAddr 1 (.tmp 7), none, []⟩,
 ⟨some 23, .load none (.tmp 22), none, []⟩,
 ⟨some 24, .bin .plain .mul (.tmp 21) (.tmp 23), none, []⟩,
 ⟨some 25, .bin .plain .lss (.tmp 19) (.tmp 24), none, []⟩]
def k_kit_PlanOf_r4 : List AOper := [
  ⟨some 9, .move (.const (.int .i64 0)), none, []⟩]
def k_kit_PlanOf_r5 : List AOper := [
  ⟨some 28, .move (.tmp 0), none, []⟩,
 ⟨some 29, .call (.const (.fn (.func 22) [] [])) [.tmp 28, .const (.int .i64 3)], none, []⟩]
def k_kit_PlanOf_r6 : List AOper := [
  ⟨some 30, .move (.tmp 0), none, []⟩,
 ⟨some 31, .call (.const (.fn (.func 21) [] [])) [.tmp 30, .const (.int .i64 1), .const (.int .i64 3)], none, []⟩,
 ⟨some 9, .move (.tmp 31), none, []⟩]
def k_kit_PlanOf_r7 : List AOper := [
  ⟨some 32, .fieldAddr 3 (.tmp 7), none, []⟩,
 ⟨some 33, .load none (.tmp 32), none, []⟩,
 ⟨some 34, .move (.tmp 9), none, []⟩,
 ⟨some 35, .buildSlice 1 [.tmp 34], none, []⟩,
 ⟨some 36, .append 1 8 false (.tmp 33) (.tmp 35), none, []⟩,
 ⟨some 37, .fieldAddr 3 (.tmp 7), none, []⟩,
 ⟨none, .store 1 (.tmp 37) (.tmp 36), none, []⟩]
def k_kit_PlanOf_r8 : List AOper := [
  ⟨some 26, .move (.tmp 8), none, []⟩,
 ⟨some 27, .bin .plain .add (.tmp 26) (.const (.int .i64 1)), none, []⟩,
 ⟨some 8, .move (.tmp 27), none, []⟩]
def k_kit_PlanOf_r9 : ACode := (.seq (.seq (.reg k_kit_PlanOf_r3 false) (.cond (.tmp 25) .skip (.exit 0))) (.seq (.block 1 (.seq (.reg k_kit_PlanOf_r4 false) (.seq (.seq (.reg k_kit_PlanOf_r5 false) (.cond (.tmp 29) (.reg k_kit_PlanOf_r6 false) .skip)) (.reg k_kit_PlanOf_r7 false)))) (.reg k_kit_PlanOf_r8 false)))
def k_kit_PlanOf_r10 : List AOper := [
  ⟨some 38, .fieldAddr 3 (.tmp 7), none, []⟩,
 ⟨some 39, .load none (.tmp 38), none, []⟩,
 ⟨some 40, .fieldAddr 3 (.tmp 7), none, [0, 1]⟩,
 ⟨some 41, .load none (.tmp 40), none, [0, 1]⟩,
 ⟨some 42, .indexAddr 1 (.tmp 41) (.const (.int .i64 0)), none, [0, 1]⟩,
 ⟨some 43, .load none (.tmp 42), none, [0, 1]⟩,
 ⟨some 44, .minmax true [.const (.int .i64 1), .tmp 43], none, [0, 1]⟩,
 ⟨some 45, .indexAddr 1 (.tmp 39) (.const (.int .i64 0)), none, []⟩,
 ⟨none, .store 1 (.tmp 45) (.tmp 44), none, []⟩]
def k_kit_PlanOf_r10s : List (List AOper) := [
  [
  ⟨some 38, .fieldAddr 3 (.tmp 7), none, []⟩,
 ⟨some 39, .load none (.tmp 38), none, []⟩,
 ⟨some 40, .fieldAddr 3 (.tmp 7), none, [0, 1]⟩,
 ⟨some 41, .load none (.tmp 40), none, [0, 1]⟩,
 ⟨some 42, .indexAddr 1 (.tmp 41) (.const (.int .i64 0)), none, [0, 1]⟩,
 ⟨some 43, .load none (.tmp 42), none, [0, 1]⟩,
 ⟨some 44, .minmax true [.const (.int .i64 1), .tmp 43], none, [0, 1]⟩], 
  [
  ⟨some 45, .indexAddr 1 (.tmp 39) (.const (.int .i64 0)), none, []⟩], 
  [
  ⟨none, .store 1 (.tmp 45) (.tmp 44), none, []⟩]]
theorem k_kit_PlanOf_r10_sg : segs k_kit_PlanOf_r10 = k_kit_PlanOf_r10s := by kernel_rfl
theorem k_kit_PlanOf_r10_st : statOK k_kit_PlanOf_r10 = true := by kernel_rfl
def k_kit_PlanOf_r11 : List AOper := [
  ⟨some 46, .load (some (4)) (.tmp 7), none, []⟩,
 ⟨some 47, .call (.const (.fn (.func 23) [] [])) [.tmp 46], none, []⟩,
 ⟨none, .store 4 (.tmp 6) (.tmp 47), none, []⟩]
def k_kit_PlanOf : AFun := { params := 3, ntmps := 48, body := (.seq (.reg k_kit_PlanOf_r0 false) (.seq (.reg k_kit_PlanOf_r1 false) (.seq (.seq (.reg k_kit_PlanOf_r2 false) (.block 0 (.loop k_kit_PlanOf_r9))) (.seq (.reg k_kit_PlanOf_r10 true) (.seq (.reg k_kit_PlanOf_r11 false) .ret))))), res := [.cell 6 (some ((some (4))))] }
theorem k_kit_PlanOf_ok : cfun Tryd.prog Tryd.f7 = k_kit_PlanOf := by kernel_rfl

def k_kit_NewDice_r0 : List AOper := [
  ⟨some 2, .move (.const (.nilptr)), none, []⟩]
def k_kit_NewDice_r1 : List AOper := [
  ⟨some 5, .move (.tmp 0), none, []⟩,
 ⟨some 6, .len false (.tmp 5), none, []⟩,
 ⟨some 7, .toInt .u64 (.tmp 6), none, []⟩,
 ⟨some 8, .bin .plain .add (.tmp 7) (.const (.int .u64 1374496523)), none, []⟩,
 ⟨some 9, .build [.int .u64 0] [(0, 1, .tmp 8)], none, []⟩,
 ⟨some 10, .box (.tmp 9), none, []⟩,
 ⟨some 3, .move (.tmp 10), none, []⟩]
def k_kit_NewDice_r2 : List AOper := [
  ⟨some 4, .move (.const (.int .i64 0)), none, []⟩]
def k_kit_NewDice_r3 : List AOper := [
  ⟨some 11, .move (.tmp 4), none, []⟩,
 ⟨some 12, .move (.tmp 0), none, []⟩,
 ⟨some 13, .len false (.tmp 12), none, []⟩,
 ⟨some 14, .bin .plain .lss (.tmp 11) (.tmp 13), none, []⟩]
def k_kit_NewDice_r4 : List AOper := [
  ⟨some 17, .move (.tmp 3), none, []⟩,
 ⟨some 18, .move (.tmp 3), none, [0]⟩,
 ⟨some 19, .nilCheck (.tmp 18), none, [0]⟩,
 ⟨some 20, .fieldAddr 0 (.tmp 19), none, [0]⟩,
 ⟨some 21, .load none (.tmp 20), none, [0]⟩,
 ⟨some 22, .move (.tmp 0), none, [0, 1, 2, 3, 4]⟩,
 ⟨some 23, .move (.tmp 4), none, [0, 1, 2, 3, 4, 5]⟩,
 ⟨some 24, .indexAddr 1 (.tmp 22) (.tmp 23), none, [0, 1, 2, 3, 4]⟩,
 ⟨some 25, .load none (.tmp 24), none, [0, 1, 2, 3, 4]⟩,
 ⟨some 26, .toInt .u64 (.tmp 25), none, [0, 1, 2, 3, 4]⟩,
 ⟨some 27, .bin .plain .xor (.tmp 21) (.tmp 26), none, [0]⟩,
 ⟨some 28, .nilCheck (.tmp 17), none, []⟩,
 ⟨some 29, .fieldAddr 0 (.tmp 28), none, []⟩,
 ⟨none, .store 1 (.tmp 29) (.tmp 27), none, []⟩]
def k_kit_NewDice_r4s : List (List AOper) := [
  [
  ⟨some 17, .move (.tmp 3), none, []⟩,
 ⟨some 18, .move (.tmp 3), none, [0]⟩,
 ⟨some 19, .nilCheck (.tmp 18), none, [0]⟩,
 ⟨some 20, .fieldAddr 0 (.tmp 19), none, [0]⟩,
 ⟨some 21, .load none (.tmp 20), none, [0]⟩,
 ⟨some 22, .move (.tmp 0), none, [0, 1, 2, 3, 4]⟩,
 ⟨some 23, .move (.tmp 4), none, [0, 1, 2, 3, 4, 5]⟩,
 ⟨some 24, .indexAddr 1 (.tmp 22) (.tmp 23), none, [0, 1, 2, 3, 4]⟩,
 ⟨some 25, .load none (.tmp 24), none, [0, 1, 2, 3, 4]⟩,
 ⟨some 26, .toInt .u64 (.tmp 25), none, [0, 1, 2, 3, 4]⟩,
 ⟨some 27, .bin .plain .xor (.tmp 21) (.tmp 26), none, [0]⟩], 
  [
  ⟨some 28, .nilCheck (.tmp 17), none, []⟩], 
  [
  ⟨some 29, .fieldAddr 0 (.tmp 28), none, []⟩], 
  [
  ⟨none, .store 1 (.tmp 29) (.tmp 27), none, []⟩]]
theorem k_kit_NewDice_r4_sg : segs k_kit_NewDice_r4 = k_kit_NewDice_r4s := by kernel_rfl
theorem k_kit_NewDice_r4_st : statOK k_kit_NewDice_r4 = true := by kernel_rfl
def k_kit_NewDice_r5 : List AOper := [
  ⟨some 30, .move (.tmp 3), none, []⟩,
 ⟨some 31, .call (.const (.fn (.func 24) [] [])) [.tmp 30], none, []⟩]
def k_kit_NewDice_r6 : List AOper := [
  ⟨some 15, .move (.tmp 4), none, []⟩,
 ⟨some 16, .bin .plain .add (.tmp 15) (.const (.int .i64 1)), none, []⟩,
 ⟨some 4, .move (.tmp 16), none, []⟩]
def k_kit_NewDice_r7 : ACode := (.seq (.seq (.reg k_kit_NewDice_r3 false) (.cond (.tmp 14) .skip (.exit 0))) (.seq (.block 1 (.seq (.reg k_kit_NewDice_r4 true) (.reg k_kit_NewDice_r5 false))) (.reg k_kit_NewDice_r6 false)))
def k_kit_NewDice_r8 : List AOper := [
  ⟨some 32, .move (.tmp 3), none, []⟩,
 ⟨some 2, .move (.tmp 32), none, []⟩]
def k_kit_NewDice : AFun := { params := 1, ntmps := 33, body := (.seq (.reg k_kit_NewDice_r0 false) (.seq (.reg k_kit_NewDice_r1 false) (.seq (.seq (.reg k_kit_NewDice_r2 false) (.block 0 (.loop k_kit_NewDice_r7))) (.seq (.reg k_kit_NewDice_r8 false) .ret)))), res := [.tmp 2] }
theorem k_kit_NewDice_ok : cfun Tryd.prog Tryd.f8 = k_kit_NewDice := by kernel_rfl

def k_kit_Mod_r0 : List AOper := [
  ⟨some 4, .move (.const (.int .i64 0)), none, []⟩]
def k_kit_Mod_r1 : List AOper := [
  ⟨some 6, .move (.tmp 1), none, []⟩,
 ⟨some 7, .bin .plain .lss (.tmp 6) (.const (.int .i64 1)), none, []⟩]
def k_kit_Mod_r2 : List AOper := [
  ⟨some 4, .move (.const (.int .i64 0)), none, []⟩]
def k_kit_Mod_r3 : List AOper := [
  ⟨some 8, .move (.tmp 0), none, []⟩,
 ⟨some 9, .move (.tmp 1), none, []⟩,
 ⟨some 10, .bin .plain .rem (.tmp 8) (.tmp 9), none, []⟩,
 ⟨some 5, .move (.tmp 10), none, []⟩]
def k_kit_Mod_r4 : List AOper := [
  ⟨some 11, .move (.tmp 5), none, []⟩,
 ⟨some 12, .bin .plain .lss (.tmp 11) (.const (.int .i64 0)), none, []⟩]
def k_kit_Mod_r5 : List AOper := [
  ⟨some 13, .move (.tmp 5), none, []⟩,
 ⟨some 14, .move (.tmp 1), none, []⟩,
 ⟨some 15, .bin .plain .add (.tmp 13) (.tmp 14), none, []⟩,
 ⟨some 4, .move (.tmp 15), none, []⟩]
def k_kit_Mod_r6 : List AOper := [
  ⟨some 16, .move (.tmp 5), none, []⟩,
 ⟨some 4, .move (.tmp 16), none, []⟩]
def k_kit_Mod : AFun := { params := 2, ntmps := 17, body := (.seq (.reg k_kit_Mod_r0 false) (.seq (.seq (.reg k_kit_Mod_r1 false) (.cond (.tmp 7) (.seq (.reg k_kit_Mod_r2 false) .ret) .skip)) (.seq (.reg k_kit_Mod_r3 false) (.seq (.seq (.reg k_kit_Mod_r4 false) (.cond (.tmp 12) (.seq (.reg k_kit_Mod_r5 false) .ret) .skip)) (.seq (.reg k_kit_Mod_r6 false) .ret))))), res := [.tmp 4] }
theorem k_kit_Mod_ok : cfun Tryd.prog Tryd.f11 = k_kit_Mod := by kernel_rfl

def k_ref01_Same_r0 : List AOper := [
  ⟨some 2, .box (.tmp 0), none, []⟩,
 ⟨some 3, .box (.tmp 1), none, []⟩,
 ⟨some 4, .move (.const (.bool false)), none, []⟩]
def k_ref01_Same_r1 : List AOper := [
  ⟨some 5, .fieldAddr 0 (.tmp 2), none, []⟩,
 ⟨some 6, .load none (.tmp 5), none, []⟩,
 ⟨some 7, .fieldAddr 0 (.tmp 3), none, []⟩,
 ⟨some 8, .load none (.tmp 7), none, []⟩,
 ⟨some 9, .bin .plain .eql (.tmp 6) (.tmp 8), none, []⟩,
 ⟨some 10, .move (.tmp 9), none, []⟩,
 ⟨some 11, .fieldAddr 1 (.tmp 2), (some (10, true)), []⟩,
 ⟨some 12, .load none (.tmp 11), (some (10, true)), []⟩,
 ⟨some 13, .fieldAddr 1 (.tmp 3), (some (10, true)), []⟩,
 ⟨some 14, .load none (.tmp 13), (some (10, true)), []⟩,
 ⟨some 15, .bin .plain .eql (.tmp 12) (.tmp 14), (some (10, true)), []⟩,
 ⟨some 16, .pick (.tmp 10) (.tmp 15) (.const (.bool false)), none, []⟩,
 ⟨some 17, .move (.tmp 16), none, []⟩,
 ⟨some 18, .fieldAddr 2 (.tmp 2), (some (17, true)), []⟩,
 ⟨some 19, .load none (.tmp 18), (some (17, true)), []⟩,
 ⟨some 20, .fieldAddr 2 (.tmp 3), (some (17, true)), []⟩,
 ⟨some 21, .load none (.tmp 20), (some (17, true)), []⟩,
 ⟨some 22, .bin .bool .eql (.tmp 19) (.tmp 21), (some (17, true)), []⟩,
 ⟨some 23, .pick (.tmp 17) (.tmp 22) (.const (.bool false)), none, []⟩,
 ⟨some 24, .move (.tmp 23), none, []⟩,
 ⟨some 25, .fieldAddr 3 (.tmp 2), (some (24, true)), []⟩,
 ⟨some 26, .load none (.tmp 25), (some (24, true)), []⟩,
 ⟨some 27, .fieldAddr 3 (.tmp 3), (some (24, true)), []⟩,
 ⟨some 28, .load none (.tmp 27), (some (24, true)), []⟩,
 ⟨some 29, .call (.const (.fn (.func 32) [] [])) [.tmp 26, .tmp 28], (some (24, true)), []⟩,
 ⟨some 30, .pick (.tmp 24) (.tmp 29) (.const (.bool false)), none, []⟩,
 ⟨some 4, .move (.tmp 30), none, []⟩]
def k_ref01_Same : AFun := { params := 2, ntmps := 31, body := (.seq (.reg k_ref01_Same_r0 false) (.seq (.reg k_ref01_Same_r1 false) .ret)), res := [.tmp 4] }
theorem k_ref01_Same_ok : cfun Tryd.prog Tryd.f14 = k_ref01_Same := by kernel_rfl

def k_kit_Dice_Between_r0 : List AOper := [
  ⟨some 6, .move (.const (.int .i64 0)), none, []⟩]
def k_kit_Dice_Between_r1 : List AOper := [
  ⟨some 7, .move (.tmp 1), none, []⟩,
 ⟨some 8, .move (.tmp 0), none, []⟩,
 ⟨some 9, .move (.tmp 2), none, []⟩,
 ⟨some 10, .move (.tmp 1), none, []⟩,
 ⟨some 11, .bin .plain .sub (.tmp 9) (.tmp 10), none, []⟩,
 ⟨some 12, .bin .plain .add (.tmp 11) (.const (.int .i64 1)), none, []⟩,
 ⟨some 13, .call (.const (.fn (.func 40) [] [])) [.tmp 8, .tmp 12], none, []⟩,
 ⟨some 14, .bin .plain .add (.tmp 7) (.tmp 13), none, []⟩,
 ⟨some 6, .move (.tmp 14), none, []⟩]
def k_kit_Dice_Between : AFun := { params := 3, ntmps := 15, body := (.seq (.reg k_kit_Dice_Between_r0 false) (.seq (.reg k_kit_Dice_Between_r1 false) .ret)), res := [.tmp 6] }
theorem k_kit_Dice_Between_ok : cfun Tryd.prog Tryd.f21 = k_kit_Dice_Between := by kernel_rfl

def k_kit_Dice_One_r0 : List AOper := [
  ⟨some 4, .move (.const (.bool false)), none, []⟩]
def k_kit_Dice_One_r1 : List AOper := [
  ⟨some 5, .move (.tmp 0), none, []⟩,
 ⟨some 6, .move (.tmp 1), none, []⟩,
 ⟨some 7, .call (.const (.fn (.func 40) [] [])) [.tmp 5, .tmp 6], none, []⟩,
 ⟨some 8, .bin .plain .eql (.tmp 7) (.const (.int .i64 0)), none, []⟩,
 ⟨some 4, .move (.tmp 8), none, []⟩]
def k_kit_Dice_One : AFun := { params := 2, ntmps := 9, body := (.seq (.reg k_kit_Dice_One_r0 false) (.seq (.reg k_kit_Dice_One_r1 false) .ret)), res := [.tmp 4] }
theorem k_kit_Dice_One_ok : cfun Tryd.prog Tryd.f22 = k_kit_Dice_One := by kernel_rfl

def k_kit_Opened_r0 : List AOper := [
  ⟨some 1, .box (.tmp 0), none, []⟩,
 ⟨some 2, .box (.const (.agg [.int .i64 0, .int .i64 0, .bool false, .nilsl])), none, []⟩]
def k_kit_Opened_r1 : List AOper := [
  ⟨some 8, .fieldAddr 3 (.tmp 1), none, []⟩,
 ⟨some 9, .load none (.tmp 8), none, []⟩,
 ⟨some 10, .len false (.tmp 9), none, []⟩,
 ⟨some 11, .makeSlice (.bool false) 1 (.tmp 10) (.tmp 10), none, []⟩,
 ⟨some 3, .move (.tmp 11), none, []⟩]
def k_kit_Opened_r2 : List AOper := [
  ⟨some 4, .move (.const (.int .i64 0)), none, []⟩]
def k_kit_Opened_r3 : List AOper := [
  ⟨some 12, .move (.tmp 4), none, []⟩,
 ⟨some 13, .fieldAddr 3 (.tmp 1), none, []⟩,
 ⟨some 14, .load none (.tmp 13), none, []⟩,
 ⟨some 15, .len false (.tmp 14), none, []⟩,
 ⟨some 16, .bin .plain .lss (.tmp 12) (.tmp 15), none, []⟩]
def k_kit_Opened_r4 : List AOper := [
  ⟨some 5, .move (.const (.int .i64 0)), none, []⟩]
def k_kit_Opened_r5 : List AOper := [
  ⟨some 19, .move (.tmp 5), none, []⟩,
 ⟨some 20, .fieldAddr 3 (.tmp 1), none, []⟩,
 ⟨some 21, .load none (.tmp 20), none, []⟩,
 ⟨some 22, .len false (.tmp 21), none, []⟩,
 ⟨some 23, .bin .plain .lss (.tmp 19) (.tmp 22), none, []⟩]
def k_kit_Opened_r6 : List AOper := [
  ⟨some 26, .move (.tmp 5), none, []⟩,
 ⟨some 27, .fieldAddr 0 (.tmp 1), none, []⟩,
 ⟨some 28, .load none (.tmp 27), none, []⟩,
 ⟨some 29, .bin .plain .rem (.tmp 26) (.tmp 28), none, []⟩,
 ⟨some 6, .move (.tmp 29), none, []⟩]
def k_kit_Opened_r7 : List AOper := [
  ⟨some 30, .move (.tmp 3), none, []⟩,
 ⟨some 31, .move (.tmp 5), none, []⟩,
 ⟨some 32, .move (.tmp 3), none, []⟩,
 ⟨some 33, .move (.tmp 5), none, []⟩,
 ⟨some 34, .indexAddr 1 (.tmp 32) (.tmp 33), none, []⟩,
 ⟨some 35, .load none (.tmp 34), none, []⟩,
 ⟨some 36, .move (.tmp 35), none, []⟩,
 ⟨some 37, .fieldAddr 3 (.tmp 1), (some (36, false)), []⟩,
 ⟨some 38, .load none (.tmp 37), (some (36, false)), []⟩,
 ⟨some 39, .move (.tmp 5), (some (36, false)), []⟩,
 ⟨some 40, .indexAddr 1 (.tmp 38) (.tmp 39), (some (36, false)), []⟩,
 ⟨some 41, .load none (.tmp 40), (some (36, false)), []⟩,
 ⟨some 42, .bin .plain .gtr (.tmp 41) (.const (.int .i64 0)), (some (36, false)), []⟩,
 ⟨some 43, .pick (.tmp 36) (.const (.bool true)) (.tmp 42), none, []⟩,
 ⟨some 44, .move (.tmp 43), none, []⟩,
 ⟨some 45, .move (.tmp 6), (some (44, false)), []⟩,
 ⟨some 46, .bin .plain .gtr (.tmp 45) (.const (.int .i64 0)), (some (44, false)), []⟩,
 ⟨some 47, .move (.tmp 46), (some (44, false)), []⟩,
 ⟨some 48, .move (.tmp 3), (some (47, true)), []⟩,
 ⟨some 49, .move (.tmp 5), (some (47, true)), []⟩,
 ⟨some 50, .bin .plain .sub (.tmp 49) (.const (.int .i64 1)), (some (47, true)), []⟩,
 ⟨some 51, .indexAddr 1 (.tmp 48) (.tmp 50), (some (47, true)), []⟩,
 ⟨some 52, .load none (.tmp 51), (some (47, true)), []⟩,
 ⟨some 53, .pick (.tmp 47) (.tmp 52) (.const (.bool false)), (some (44, false)), []⟩,
 ⟨some 54, .pick (.tmp 44) (.const (.bool true)) (.tmp 53), none, []⟩,
 ⟨some 55, .move (.tmp 54), none, []⟩,
 ⟨some 56, .move (.tmp 6), (some (55, false)), []⟩,
 ⟨some 57, .fieldAddr 0 (.tmp 1), (some (55, false)), []⟩,
 ⟨some 58, .load none (.tmp 57), (some (55, false)), []⟩,
 ⟨some 59, .bin .plain .sub (.tmp 58) (.const (.int .i64 1)), (some (55, false)), []⟩,
 ⟨some 60, .bin .plain .lss (.tmp 56) (.tmp 59), (some (55, false)), []⟩,
 ⟨some 61, .move (.tmp 60), (some (55, false)), []⟩,
 ⟨some 62, .move (.tmp 3), (some (61, true)), []⟩,
 ⟨some 63, .move (.tmp 5), (some (61, true)), []⟩,
 ⟨some 64, .bin .plain .add (.tmp 63) (.const (.int .i64 1)), (some (61, true)), []⟩,
 ⟨some 65, .indexAddr 1 (.tmp 62) (.tmp 64), (some (61, true)), []⟩,
 ⟨some 66, .load none (.tmp 65), (some (61, true)), []⟩,
 ⟨some 67, .pick (.tmp 61) (.tmp 66) (.const (.bool false)), (some (55, false)), []⟩,
 ⟨some 68, .pick (.tmp 55) (.const (.bool true)) (.tmp 67), none, []⟩,
 ⟨some 69, .move (.tmp 68), none, []⟩,
 ⟨some 70, .move (.tmp 5), (some (69, false)), []⟩,
 ⟨some 71, .fieldAddr 0 (.tmp 1), (some (69, false)), []⟩,
 ⟨some 72, .load none (.tmp 71), (some (69, false)), []⟩,
 ⟨some 73, .bin .plain .geq (.tmp 70) (.tmp 72), (some (69, false)), []⟩,
 ⟨some 74, .move (.tmp 73), (some (69, false)), []⟩,
 ⟨some 75, .move (.tmp 3), (some (74, true)), []⟩,
 ⟨some 76, .move (.tmp 5), (some (74, true)), []⟩,
 ⟨some 77, .fieldAddr 0 (.tmp 1), (some (74, true)), []⟩,
 ⟨some 78, .load none (.tmp 77), (some (74, true)), []⟩,
 ⟨some 79, .bin .plain .sub (.tmp 76) (.tmp 78), (some (74, true)), []⟩,
 ⟨some 80, .indexAddr 1 (.tmp 75) (.tmp 79), (some (74, true)), []⟩,
 ⟨some 81, .load none (.tmp 80), (some (74, true)), []⟩,
 ⟨some 82, .pick (.tmp 74) (.tmp 81) (.const (.bool false)), (some (69, false)), []⟩,
 ⟨some 83, .pick (.tmp 69) (.const (.bool true)) (.tmp 82), none, []⟩,
 ⟨some 84, .move (.tmp 83), none, []⟩,
 ⟨some 85, .move (.tmp 5), (some (84, false)), []⟩,
 ⟨some 86, .fieldAddr 0 (.tmp 1), (some (84, false)), []⟩,
 ⟨some 87, .load none (.tmp 86), (some (84, false)), []⟩,
 ⟨some 88, .bin .plain .add (.tmp 85) (.tmp 87), (some (84, false)), []⟩,
 ⟨some 89, .fieldAddr 3 (.tmp 1), (some (84, false)), []⟩,
 ⟨some 90, .load none (.tmp 89), (some (84, false)), []⟩,
 ⟨some 91, .len false (.tmp 90), (some (84, false)), []⟩,
 ⟨some 92, .bin .plain .lss (.tmp 88) (.tmp 91), (some (84, false)), []⟩,
 ⟨some 93, .move (.tmp 92), (some (84, false)), []⟩,
 ⟨some 94, .move (.tmp 3), (some (93, true)), []⟩,
 ⟨some 95, .move (.tmp 5), (some (93, true)), []⟩,
 ⟨some 96, .fieldAddr 0 (.tmp 1), (some (93, true)), []⟩,
 ⟨some 97, .load none (.tmp 96), (some (93, true)), []⟩,
 ⟨some 98, .bin .plain .add (.tmp 95) (.tmp 97), (some (93, true)), []⟩,
 ⟨some 99, .indexAddr 1 (.tmp 94) (.tmp 98), (some (93, true)), []⟩,
 ⟨some 100, .load none (.tmp 99), (some (93, true)), []⟩,
 ⟨some 101, .pick (.tmp 93) (.tmp 100) (.const (.bool false)), (some (84, false)), []⟩,
 ⟨some 102, .pick (.tmp 84) (.const (.bool true)) (.tmp 101), none, []⟩,
 ⟨some 103, .indexAddr 1 (.tmp 30) (.tmp 31), none, []⟩,
 ⟨none, .store 1 (.tmp 103) (.tmp 102), none, []⟩]
def k_kit_Opened_r8 : List AOper := [
  ⟨some 24, .move (.tmp 5), none, []⟩,
 ⟨some 25, .bin .plain .add (.tmp 24) (.const (.int .i64 1)), none, []⟩,
 ⟨some 5, .move (.tmp 25), none, []⟩]
def k_kit_Opened_r9 : ACode := (.seq (.seq (.reg k_kit_Opened_r5 false) (.cond (.tmp 23) .skip (.exit 2))) (.seq (.block 3 (.seq (.reg k_kit_Opened_r6 false) (.reg k_kit_Opened_r7 false))) (.reg k_kit_Opened_r8 false)))
def k_kit_Opened_r10 : List AOper := [
  ⟨some 17, .move (.tmp 4), none, []⟩,
 ⟨some 18, .bin .plain .add (.tmp 17) (.const (.int .i64 1)), none, []⟩,
 ⟨some 4, .move (.tmp 18), none, []⟩]
def k_kit_Opened_r11 : ACode := (.seq (.seq (.reg k_kit_Opened_r3 false) (.cond (.tmp 16) .skip (.exit 0))) (.seq (.block 1 (.seq (.reg k_kit_Opened_r4 false) (.block 2 (.loop k_kit_Opened_r9)))) (.reg k_kit_Opened_r10 false)))
def k_kit_Opened_r12 : List AOper := [
  ⟨some 7, .move (.const (.int .i64 0)), none, []⟩]
def k_kit_Opened_r13 : List AOper := [
  ⟨some 104, .move (.tmp 7), none, []⟩,
 ⟨some 105, .fieldAddr 3 (.tmp 1), none, []⟩,
 ⟨some 106, .load none (.tmp 105), none, []⟩,
 ⟨some 107, .len false (.tmp 106), none, []⟩,
 ⟨some 108, .bin .plain .lss (.tmp 104) (.tmp 107), none, []⟩]
def k_kit_Opened_r14 : List AOper := [
  ⟨some 111, .move (.tmp 3), none, []⟩,
 ⟨some 112, .move (.tmp 7), none, []⟩,
 ⟨some 113, .indexAddr 1 (.tmp 111) (.tmp 112), none, []⟩,
 ⟨some 114, .load none (.tmp 113), none, []⟩,
 ⟨some 115, .not (.tmp 114), none, []⟩]
def k_kit_Opened_r15 : List AOper := [
  ⟨some 116, .fieldAddr 3 (.tmp 1), none, []⟩,
 ⟨some 117, .load none (.tmp 116), none, []⟩,
 ⟨some 118, .move (.tmp 7), none, []⟩,
 ⟨some 119, .indexAddr 1 (.tmp 117) (.tmp 118), none, []⟩,
 ⟨none, .store 1 (.tmp 119) (.const (.int .i64 1)), none, []⟩]
def k_kit_Opened_r16 : List AOper := [
  ⟨some 109, .move (.tmp 7), none, []⟩,
 ⟨some 110, .bin .plain .add (.tmp 109) (.const (.int .i64 1)), none, []⟩,
 ⟨some 7, .move (.tmp 110), none, []⟩]
def k_kit_Opened_r17 : ACode := (.seq (.seq (.reg k_kit_Opened_r13 false) (.cond (.tmp 108) .skip (.exit 4))) (.seq (.block 5 (.seq (.reg k_kit_Opened_r14 false) (.cond (.tmp 115) (.reg k_kit_Opened_r15 false) .skip))) (.reg k_kit_Opened_r16 false)))
def k_kit_Opened_r18 : List AOper := [
  ⟨some 120, .load (some (4)) (.tmp 1), none, []⟩,
 ⟨none, .store 4 (.tmp 2) (.tmp 120), none, []⟩]
def k_kit_Opened : AFun := { params := 1, ntmps := 121, body := (.seq (.reg k_kit_Opened_r0 false) (.seq (.reg k_kit_Opened_r1 false) (.seq (.seq (.reg k_kit_Opened_r2 false) (.block 0 (.loop k_kit_Opened_r11))) (.seq (.seq (.reg k_kit_Opened_r12 false) (.block 4 (.loop k_kit_Opened_r17))) (.seq (.reg k_kit_Opened_r18 false) .ret))))), res := [.cell 2 (some ((some (4))))] }
theorem k_kit_Opened_ok : cfun Tryd.prog Tryd.f23 = k_kit_Opened := by kernel_rfl

def k_kit_Dice_next_r0 : List AOper := [
  ⟨some 2, .move (.const (.int .u64 0)), none, []⟩]
def k_kit_Dice_next_r1 : List AOper := [
  ⟨some 4, .move (.tmp 0), none, []⟩,
 ⟨some 5, .move (.tmp 0), none, []⟩,
 ⟨some 6, .nilCheck (.tmp 5), none, []⟩,
 ⟨some 7, .fieldAddr 0 (.tmp 6), none, []⟩,
 ⟨some 8, .load none (.tmp 7), none, []⟩,
 ⟨some 9, .bin .plain .add (.tmp 8) (.const (.int .u64 11400714819323198485)), none, []⟩,
 ⟨some 10, .nilCheck (.tmp 4), none, []⟩,
 ⟨some 11, .fieldAddr 0 (.tmp 10), none, []⟩,
 ⟨none, .store 1 (.tmp 11) (.tmp 9), none, []⟩]
def k_kit_Dice_next_r2 : List AOper := [
  ⟨some 12, .move (.tmp 0), none, []⟩,
 ⟨some 13, .nilCheck (.tmp 12), none, []⟩,
 ⟨some 14, .fieldAddr 0 (.tmp 13), none, []⟩,
 ⟨some 15, .load none (.tmp 14), none, []⟩,
 ⟨some 3, .move (.tmp 15), none, []⟩]
def k_kit_Dice_next_r3 : List AOper := [
  ⟨some 16, .move (.tmp 3), none, []⟩,
 ⟨some 17, .move (.tmp 3), none, []⟩,
 ⟨some 18, .bin .plain .shr (.tmp 17) (.const (.int .u64 30)), none, []⟩,
 ⟨some 19, .bin .plain .xor (.tmp 16) (.tmp 18), none, []⟩,
 ⟨some 20, .bin .plain .mul (.tmp 19) (.const (.int .u64 13787848793156543929)), none, []⟩,
 ⟨some 3, .move (.tmp 20), none, []⟩]
def k_kit_Dice_next_r4 : List AOper := [
  ⟨some 21, .move (.tmp 3), none, []⟩,
 ⟨some 22, .move (.tmp 3), none, []⟩,
 ⟨some 23, .bin .plain .shr (.tmp 22) (.const (.int .u64 27)), none, []⟩,
 ⟨some 24, .bin .plain .xor (.tmp 21) (.tmp 23), none, []⟩,
 ⟨some 25, .bin .plain .mul (.tmp 24) (.const (.int .u64 10723151780598845931)), none, []⟩,
 ⟨some 3, .move (.tmp 25), none, []⟩]
def k_kit_Dice_next_r5 : List AOper := [
  ⟨some 26, .move (.tmp 3), none, []⟩,
 ⟨some 27, .move (.tmp 3), none, []⟩,
 ⟨some 28, .bin .plain .shr (.tmp 27) (.const (.int .u64 31)), none, []⟩,
 ⟨some 29, .bin .plain .xor (.tmp 26) (.tmp 28), none, []⟩,
 ⟨some 2, .move (.tmp 29), none, []⟩]
def k_kit_Dice_next : AFun := { params := 1, ntmps := 30, body := (.seq (.reg k_kit_Dice_next_r0 false) (.seq (.reg k_kit_Dice_next_r1 false) (.seq (.reg k_kit_Dice_next_r2 false) (.seq (.reg k_kit_Dice_next_r3 false) (.seq (.reg k_kit_Dice_next_r4 false) (.seq (.reg k_kit_Dice_next_r5 false) .ret)))))), res := [.tmp 2] }
theorem k_kit_Dice_next_ok : cfun Tryd.prog Tryd.f24 = k_kit_Dice_next := by kernel_rfl

def k_ref01_SameInts_r0 : List AOper := [
  ⟨some 4, .move (.const (.bool false)), none, []⟩]
def k_ref01_SameInts_r1 : List AOper := [
  ⟨some 6, .move (.tmp 0), none, []⟩,
 ⟨some 7, .len false (.tmp 6), none, []⟩,
 ⟨some 8, .move (.tmp 1), none, []⟩,
 ⟨some 9, .len false (.tmp 8), none, []⟩,
 ⟨some 10, .bin .plain .neq (.tmp 7) (.tmp 9), none, []⟩]
def k_ref01_SameInts_r2 : List AOper := [
  ⟨some 4, .move (.const (.bool false)), none, []⟩]
def k_ref01_SameInts_r3 : List AOper := [
  ⟨some 5, .move (.const (.int .i64 0)), none, []⟩]
def k_ref01_SameInts_r4 : List AOper := [
  ⟨some 11, .move (.tmp 5), none, []⟩,
 ⟨some 12, .move (.tmp 0), none, []⟩,
 ⟨some 13, .len false (.tmp 12), none, []⟩,
 ⟨some 14, .bin .plain .lss (.tmp 11) (.tmp 13), none, []⟩]
def k_ref01_SameInts_r5 : List AOper := [
  ⟨some 17, .move (.tmp 0), none, []⟩,
 ⟨some 18, .move (.tmp 5), none, [0]⟩,
 ⟨some 19, .indexAddr 1 (.tmp 17) (.tmp 18), none, []⟩,
 ⟨some 20, .load none (.tmp 19), none, []⟩,
 ⟨some 21, .move (.tmp 1), none, [0, 1, 2, 3]⟩,
 ⟨some 22, .move (.tmp 5), none, [0, 1, 2, 3, 4]⟩,
 ⟨some 23, .indexAddr 1 (.tmp 21) (.tmp 22), none, [0, 1, 2, 3]⟩,
 ⟨some 24, .load none (.tmp 23), none, [0, 1, 2, 3]⟩,
 ⟨some 25, .bin .plain .neq (.tmp 20) (.tmp 24), none, []⟩]
def k_ref01_SameInts_r5s : List (List AOper) := [
  [
  ⟨some 17, .move (.tmp 0), none, []⟩,
 ⟨some 18, .move (.tmp 5), none, [0]⟩,
 ⟨some 19, .indexAddr 1 (.tmp 17) (.tmp 18), none, []⟩,
 ⟨some 20, .load none (.tmp 19), none, []⟩,
 ⟨some 21, .move (.tmp 1), none, [0, 1, 2, 3]⟩,
 ⟨some 22, .move (.tmp 5), none, [0, 1, 2, 3, 4]⟩,
 ⟨some 23, .indexAddr 1 (.tmp 21) (.tmp 22), none, [0, 1, 2, 3]⟩,
 ⟨some 24, .load none (.tmp 23), none, [0, 1, 2, 3]⟩], 
  [
  ⟨some 25, .bin .plain .neq (.tmp 20) (.tmp 24), none, []⟩]]
theorem k_ref01_SameInts_r5_sg : segs k_ref01_SameInts_r5 = k_ref01_SameInts_r5s := by kernel_rfl
theorem k_ref01_SameInts_r5_st : statOK k_ref01_SameInts_r5 = true := by kernel_rfl
def k_ref01_SameInts_r6 : List AOper := [
  ⟨some 4, .move (.const (.bool false)), none, []⟩]
def k_ref01_SameInts_r7 : List AOper := [
  ⟨some 15, .move (.tmp 5), none, []⟩,
 ⟨some 16, .bin .plain .add (.tmp 15) (.const (.int .i64 1)), none, []⟩,
 ⟨some 5, .move (.tmp 16), none, []⟩]
def k_ref01_SameInts_r8 : ACode := (.seq (.seq (.reg k_ref01_SameInts_r4 false) (.cond (.tmp 14) .skip (.exit 0))) (.seq (.block 1 (.seq (.reg k_ref01_SameInts_r5 true) (.cond (.tmp 25) (.seq (.reg k_ref01_SameInts_r6 false) .ret) .skip))) (.reg k_ref01_SameInts_r7 false)))
def k_ref01_SameInts_r9 : List AOper := [
  ⟨some 4, .move (.const (.bool true)), none, []⟩]
def k_ref01_SameInts : AFun := { params := 2, ntmps := 26, body := (.seq (.reg k_ref01_SameInts_r0 false) (.seq (.seq (.reg k_ref01_SameInts_r1 false) (.cond (.tmp 10) (.seq (.reg k_ref01_SameInts_r2 false) .ret) .skip)) (.seq (.seq (.reg k_ref01_SameInts_r3 false) (.block 0 (.loop k_ref01_SameInts_r8))) (.seq (.reg k_ref01_SameInts_r9 false) .ret)))), res := [.tmp 4] }
theorem k_ref01_SameInts_ok : cfun Tryd.prog Tryd.f32 = k_ref01_SameInts := by kernel_rfl

def k_kit_Dice_Upto_r0 : List AOper := [
  ⟨some 4, .move (.const (.int .i64 0)), none, []⟩]
def k_kit_Dice_Upto_r1 : List AOper := [
  ⟨some 6, .move (.tmp 0), none, []⟩,
 ⟨some 7, .call (.const (.fn (.func 24) [] [])) [.tmp 6], none, []⟩,
 ⟨some 5, .move (.tmp 7), none, []⟩]
def k_kit_Dice_Upto_r2 : List AOper := [
  ⟨some 8, .move (.tmp 1), none, []⟩,
 ⟨some 9, .bin .plain .lss (.tmp 8) (.const (.int .i64 1)), none, []⟩]
def k_kit_Dice_Upto_r3 : List AOper := [
  ⟨some 4, .move (.const (.int .i64 0)), none, []⟩]
def k_kit_Dice_Upto_r4 : List AOper := [
  ⟨some 10, .move (.tmp 5), none, []⟩,
 ⟨some 11, .move (.tmp 1), none, []⟩,
 ⟨some 12, .toInt .u64 (.tmp 11), none, []⟩,
 ⟨some 13, .bin .plain .rem (.tmp 10) (.tmp 12), none, []⟩,
 ⟨some 14, .toInt .i64 (.tmp 13), none, []⟩,
 ⟨some 4, .move (.tmp 14), none, []⟩]
def k_kit_Dice_Upto : AFun := { params := 2, ntmps := 15, body := (.seq (.reg k_kit_Dice_Upto_r0 false) (.seq (.reg k_kit_Dice_Upto_r1 false) (.seq (.seq (.reg k_kit_Dice_Upto_r2 false) (.cond (.tmp 9) (.seq (.reg k_kit_Dice_Upto_r3 false) .ret) .skip)) (.seq (.reg k_kit_Dice_Upto_r4 false) .ret)))), res := [.tmp 4] }
theorem k_kit_Dice_Upto_ok : cfun Tryd.prog Tryd.f40 = k_kit_Dice_Upto := by kernel_rfl


abbrev n_kit_PlanOf : Nat := 7
theorem e_kit_PlanOf : EntryOK Tryd.prog n_kit_PlanOf k_kit_PlanOf := ⟨Tryd.f7, Tryd.func7, k_kit_PlanOf_ok, by kernel_rfl⟩
abbrev n_kit_NewDice : Nat := 8
theorem e_kit_NewDice : EntryOK Tryd.prog n_kit_NewDice k_kit_NewDice := ⟨Tryd.f8, Tryd.func8, k_kit_NewDice_ok, by kernel_rfl⟩
abbrev n_kit_Mod : Nat := 11
theorem e_kit_Mod : EntryOK Tryd.prog n_kit_Mod k_kit_Mod := ⟨Tryd.f11, Tryd.func11, k_kit_Mod_ok, by kernel_rfl⟩
abbrev n_ref01_Same : Nat := 14
theorem e_ref01_Same : EntryOK Tryd.prog n_ref01_Same k_ref01_Same := ⟨Tryd.f14, Tryd.func14, k_ref01_Same_ok, by kernel_rfl⟩
abbrev n_kit_Dice_Between : Nat := 21
theorem e_kit_Dice_Between : EntryOK Tryd.prog n_kit_Dice_Between k_kit_Dice_Between := ⟨Tryd.f21, Tryd.func21, k_kit_Dice_Between_ok, by kernel_rfl⟩
abbrev n_kit_Dice_One : Nat := 22
theorem e_kit_Dice_One : EntryOK Tryd.prog n_kit_Dice_One k_kit_Dice_One := ⟨Tryd.f22, Tryd.func22, k_kit_Dice_One_ok, by kernel_rfl⟩
abbrev n_kit_Opened : Nat := 23
theorem e_kit_Opened : EntryOK Tryd.prog n_kit_Opened k_kit_Opened := ⟨Tryd.f23, Tryd.func23, k_kit_Opened_ok, by kernel_rfl⟩
abbrev n_kit_Dice_next : Nat := 24
theorem e_kit_Dice_next : EntryOK Tryd.prog n_kit_Dice_next k_kit_Dice_next := ⟨Tryd.f24, Tryd.func24, k_kit_Dice_next_ok, by kernel_rfl⟩
abbrev n_ref01_SameInts : Nat := 32
theorem e_ref01_SameInts : EntryOK Tryd.prog n_ref01_SameInts k_ref01_SameInts := ⟨Tryd.f32, Tryd.func32, k_ref01_SameInts_ok, by kernel_rfl⟩
abbrev n_kit_Dice_Upto : Nat := 40
theorem e_kit_Dice_Upto : EntryOK Tryd.prog n_kit_Dice_Upto k_kit_Dice_Upto := ⟨Tryd.f40, Tryd.func40, k_kit_Dice_Upto_ok, by kernel_rfl⟩

attribute [go_sem] k_kit_PlanOf_r0 k_kit_PlanOf_r1 k_kit_PlanOf_r2 k_kit_PlanOf_r3 k_kit_PlanOf_r4 k_kit_PlanOf_r5 k_kit_PlanOf_r6 k_kit_PlanOf_r7 k_kit_PlanOf_r8 k_kit_PlanOf_r10s k_kit_PlanOf_r11
attribute [go_sem] k_kit_NewDice_r0 k_kit_NewDice_r1 k_kit_NewDice_r2 k_kit_NewDice_r3 k_kit_NewDice_r4s k_kit_NewDice_r5 k_kit_NewDice_r6 k_kit_NewDice_r8 k_kit_Mod_r0 k_kit_Mod_r1 k_kit_Mod_r2 k_kit_Mod_r3
attribute [go_sem] k_kit_Mod_r4 k_kit_Mod_r5 k_kit_Mod_r6 k_ref01_Same_r0 k_ref01_Same_r1 k_kit_Dice_Between_r0 k_kit_Dice_Between_r1 k_kit_Dice_One_r0 k_kit_Dice_One_r1 k_kit_Opened_r0 k_kit_Opened_r1 k_kit_Opened_r2
attribute [go_sem] k_kit_Opened_r3 k_kit_Opened_r4 k_kit_Opened_r5 k_kit_Opened_r6 k_kit_Opened_r7 k_kit_Opened_r8 k_kit_Opened_r10 k_kit_Opened_r12 k_kit_Opened_r13 k_kit_Opened_r14 k_kit_Opened_r15 k_kit_Opened_r16
attribute [go_sem] k_kit_Opened_r18 k_kit_Dice_next_r0 k_kit_Dice_next_r1 k_kit_Dice_next_r2 k_kit_Dice_next_r3 k_kit_Dice_next_r4 k_kit_Dice_next_r5 k_ref01_SameInts_r0 k_ref01_SameInts_r1 k_ref01_SameInts_r2 k_ref01_SameInts_r3 k_ref01_SameInts_r4
attribute [go_sem] k_ref01_SameInts_r5s k_ref01_SameInts_r6 k_ref01_SameInts_r7 k_ref01_SameInts_r9 k_kit_Dice_Upto_r0 k_kit_Dice_Upto_r1 k_kit_Dice_Upto_r2 k_kit_Dice_Upto_r3 k_kit_Dice_Upto_r4 k_kit_PlanOf_r10_sg k_kit_NewDice_r4_sg k_ref01_SameInts_r5_sg
attribute [go_sem] k_kit_PlanOf_r10_st k_kit_NewDice_r4_st k_ref01_SameInts_r5_st k_kit_PlanOf k_kit_NewDice k_kit_Mod k_ref01_Same k_kit_Dice_Between k_kit_Dice_One k_kit_Opened k_kit_Dice_next
attribute [go_sem] k_ref01_SameInts k_kit_Dice_Upto
end Go.Proofs

namespace Go.Proofs
open Go Go.Sx

theorem next_ok (w : Int) : Ans Tryd.prog n_kit_Dice_next [.ptr 0 0 0 1] [some (Dr w)] (.int .u64 (dmix (dstep w))) [some (Dr (dstep w))] := by
  refine spec_run e_kit_Dice_next fun G => ?_
  simp only [go_sem, Dr, dmix, dstep]
  exact ⟨_, rfl⟩

theorem upto_ok (w n : Int) (hn : n ≤ 9223372036854775807) : Ans Tryd.prog n_kit_Dice_Upto [.ptr 0 0 0 1, .int .i64 n] [some (Dr w)] (.int .i64 (upto w n)) [some (Dr (dstep w))] := by
  refine spec_run e_kit_Dice_Upto fun G => ?_
  simp only [go_sem]
  refine callD (next_ok w) rfl trivial (.int _ _) (dr_bel _ _) (dr_bel _ _) (by simp) (by simp) ?_
  simp only [go_sem]
  refine ⟨fun h => ⟨by simp [upto, h], by simp⟩, fun h => ?_⟩
  have hm : 0 ≤ dmix (dstep w) := (bitW_u64 _ _ _).1
  have h1 : IntKind.u64.wrap n = n := IntWalk.u64_in n (by omega)
  have h2 : (dmix (dstep w)).tmod n = dmix (dstep w) % n := Int.tmod_eq_emod_of_nonneg hm
  have h3 := Int.emod_nonneg (dmix (dstep w)) (show n ≠ 0 by omega)
  have h4 := Int.emod_lt_of_pos (dmix (dstep w)) (show 0 < n by omega)
  rw [h1, h2, IntWalk.i64_in _ (by omega)]
  refine ⟨by omega, by rw [upto, if_neg h], _, rfl⟩

theorem between_ok (w lo hi : Int) (h1 : -1152921504606846976 ≤ lo) (h2 : lo ≤ hi) (h3 : hi ≤ 1152921504606846976) : Ans Tryd.prog n_kit_Dice_Between [.ptr 0 0 0 1, .int .i64 lo, .int .i64 hi] [some (Dr w)] (.int .i64 (btw w lo hi)) [some (Dr (dstep w))] := by
  refine spec_run e_kit_Dice_Between fun G => ?_
  simp only [go_sem]
  rw [IntWalk.i64_in (hi - lo) (by omega), IntWalk.i64_in (hi - lo + 1) (by omega)]
  refine callD (upto_ok w _ (by omega)) rfl ⟨.int _ _, trivial⟩ (.int _ _) (dr_bel _ _) (dr_bel _ _) (by simp) (by simp) ?_
  have := btw_in (w := w) h2
  unfold btw at this
  simp only [go_sem]
  rw [IntWalk.i64_in _ (by omega)]
  exact ⟨rfl, _, rfl⟩

theorem newdice_ok (xs : List Int) (hl : xs.length ≤ 9223372036854775807) : Ans Tryd.prog n_kit_NewDice [.view (xs.map (.int .i64))] [] (.ptr 0 0 0 1) [some (Dr (seedW xs))] := by
  unfold seedW
  refine spec_run e_kit_NewDice fun G => ?_
  simp only [go_sem]
  have key : ∀ (zs : List Int) (i : Nat) (w : Int), xs.drop i = zs → i ≤ xs.length →
      Sx.Loop Tryd.prog G 0 none k_kit_NewDice_r7 [.blk 0, .seq (.seq (.reg k_kit_NewDice_r8 false) .ret)] ⟨[.view (xs.map (.int .i64)), .any, .nilptr, .ptr 0 0 0 1, .int .i64 i] ++ List.replicate 28 .any, [some (Dr w)], []⟩
        (RetPost [ARes.tmp 2] fun v H' => v = .ptr 0 0 0 1 ∧ ∃ X, H' = some (Dr (feed w zs)) :: X) := by
    intro zs
    induction zs with
    | nil =>
      intro i w hd hi
      have : xs.length ≤ i := by simpa using hd
      have h1 : ¬ (i : Int) < xs.length := by omega
      refine loop_body 200 k_kit_NewDice_r7.eq_1 ?_
      simp only [go_sem, h1, feed]
      exact ⟨_, rfl⟩
    | cons z zs ih =>
      intro i w hd hi
      have hx : xs[i]? = some z := by have := congrArg (·[0]?) hd; simpa using this
      have h1 : i < xs.length := (List.getElem?_eq_some_iff.1 hx).1
      have h2 : (i : Int) < xs.length := by omega
      have h3 : IntKind.i64.wrap ((i : Int) + 1) = ((i + 1 : Nat) : Int) := by rw [IntWalk.i64_in _ (by omega)]; rfl
      have hd' : xs.drop (i + 1) = zs := by have := congrArg (List.drop 1) hd; simpa [Nat.add_comm] using this
      refine loop_body 200 k_kit_NewDice_r7.eq_1 ?_
      simp only [go_sem, hx, h2, Dr]
      refine callD (next_ok _) rfl trivial (.int _ _) (dr_bel _ _) (dr_bel _ _) (by simp) (by simp) ?_
      simp only [go_sem, h3]
      refine loop_wk ?_ (ih (i + 1) _ hd' h1)
      simp [Wk]
  refine loop_wk ?_ (key xs 0 _ rfl (Nat.zero_le _))
  simp [Wk]

theorem mod_ok (a b : Int) (hb : b ≤ 9223372036854775807) : Ans Tryd.prog n_kit_Mod [.int .i64 a, .int .i64 b] [] (.int .i64 (if b < 1 then 0 else a % b)) [] := by
  refine spec_run e_kit_Mod fun G => ?_
  simp only [go_sem]
  refine ⟨fun h => by simp [h], fun h => ?_⟩
  have e := Int.tmod_eq_emod (a := a) (b := b)
  have h1 := Int.emod_nonneg a (show b ≠ 0 by omega)
  have h2 := Int.emod_lt_of_pos a (show 0 < b by omega)
  rw [if_neg h]
  generalize a % b = m at *
  generalize a.tmod b = t at *
  refine ⟨by omega, fun h3 => ?_, fun h3 => ?_⟩
  · rw [IntWalk.i64_in _ (by split at e <;> omega)]
    split at e <;> omega
  · split at e <;> omega

theorem mod_pos (a b : Int) (hb : 1 ≤ b ∧ b ≤ 9223372036854775807) : Ans Tryd.prog n_kit_Mod [.int .i64 a, .int .i64 b] [] (.int .i64 (a % b)) [] := by
  have h := mod_ok a b hb.2
  rwa [if_neg (by omega)] at h
end Go.Proofs

namespace Go.Proofs
open Go Go.Sx

structure Pl where
  w : Nat
  h : Nat
  rd : Bool
  cs : List Int
  deriving Inhabited, DecidableEq

def besW (rd : Bool) (x : Nat) : Int := if rd then 2 * ((x : Int) + 1) else 1
def abvW (rd : Bool) (x : Nat) : Int := if rd then 2 * (x : Int) + 1 else 1

def nbs (p : Pl) (i : Nat) : List (Nat × Int) :=
  (if 0 < i % p.w then [(i - 1, besW p.rd (i % p.w - 1))] else []) ++
  ((if i % p.w + 1 < p.w then [(i + 1, besW p.rd (i % p.w))] else []) ++
  ((if 0 < i / p.w then [(i - p.w, abvW p.rd (i % p.w))] else []) ++
  (if i / p.w + 1 < p.h then [(i + p.w, abvW p.rd (i % p.w))] else [])))

def wsum : List (Nat × Int) → (Nat → Int) → Int
  | [], _ => 0
  | q :: l, f => q.2 * f q.1 + wsum l f
def wtot (l : List (Nat × Int)) : Int := wsum l fun _ => 1

theorem wsum_append (l m : List (Nat × Int)) (f : Nat → Int) : wsum (l ++ m) f = wsum l f + wsum m f := by
  induction l with
  | nil => simp [wsum]
  | cons q l ih => simp only [List.cons_append, wsum, ih]; omega

theorem wsum_mono {l : List (Nat × Int)} {f g : Nat → Int} (h : ∀ q ∈ l, 0 ≤ q.2 ∧ f q.1 ≤ g q.1) : wsum l f ≤ wsum l g := by
  induction l with
  | nil => exact Int.le_refl _
  | cons q l ih =>
    have h1 := h q (by simp)
    have h2 := ih fun q hq => h q (by simp [hq])
    have h3 := Int.mul_le_mul_of_nonneg_left h1.2 h1.1
    simp only [wsum]; omega

theorem wsum_const (l : List (Nat × Int)) (c : Int) : (wsum l fun _ => c) = wtot l * c := by
  unfold wtot
  induction l with
  | nil => simp [wsum]
  | cons q l ih => simp only [wsum, ih, Int.add_mul, Int.mul_one]

theorem wsum_add (l : List (Nat × Int)) (f g : Nat → Int) : (wsum l fun n => f n + g n) = wsum l f + wsum l g := by
  induction l with
  | nil => rfl
  | cons q l ih => simp only [wsum, ih, Int.mul_add]; omega

theorem wsum_neg (l : List (Nat × Int)) (f : Nat → Int) : (wsum l fun n => - f n) = - wsum l f := by
  induction l with
  | nil => rfl
  | cons q l ih => simp only [wsum, ih, Int.mul_neg]; omega

theorem cell_lt {w h i : Nat} (hi : i < w * h) : i % w < w ∧ i / w < h ∧ i / w * w + i % w = i := by
  have hw : 0 < w := by
    rcases Nat.eq_zero_or_pos w with h0 | h0
    · rw [h0] at hi; omega
    · exact h0
  exact ⟨Nat.mod_lt _ hw, Nat.div_lt_of_lt_mul hi, by rw [Nat.mul_comm]; exact Nat.div_add_mod i w⟩

theorem cell_at {w x y : Nat} (hx : x < w) : (y * w + x) % w = x ∧ (y * w + x) / w = y := by
  have hw : 0 < w := by omega
  constructor
  · rw [Nat.add_comm, Nat.add_mul_mod_self_right, Nat.mod_eq_of_lt hx]
  · rw [Nat.add_comm, Nat.add_mul_div_right _ _ hw, Nat.div_eq_of_lt hx, Nat.zero_add]

theorem cell_in {w h x y : Nat} (hx : x < w) (hy : y < h) : y * w + x < w * h := by
  have : (y + 1) * w ≤ h * w := Nat.mul_le_mul_right _ hy
  rw [Nat.add_mul, Nat.one_mul] at this
  rw [Nat.mul_comm w h]; omega

theorem nbs_at (p : Pl) {x y : Nat} (hx : x < p.w) : nbs p (y * p.w + x) =
    (if 0 < x then [(y * p.w + (x - 1), besW p.rd (x - 1))] else []) ++ ((if x + 1 < p.w then [(y * p.w + (x + 1), besW p.rd x)] else []) ++
    ((if 0 < y then [((y - 1) * p.w + x, abvW p.rd x)] else []) ++ (if y + 1 < p.h then [((y + 1) * p.w + x, abvW p.rd x)] else []))) := by
  obtain ⟨e1, e2⟩ := cell_at (y := y) hx
  unfold nbs
  rw [e1, e2]
  congr 1
  · split
    · rename_i h; rw [show y * p.w + x - 1 = y * p.w + (x - 1) by omega]
    · rfl
  congr 1
  congr 1
  · split
    · rename_i h
      have : y * p.w = (y - 1) * p.w + p.w := by
        have : y = y - 1 + 1 := by omega
        conv => lhs; rw [this, Nat.add_mul, Nat.one_mul]
      rw [show y * p.w + x - p.w = (y - 1) * p.w + x by omega]
    · rfl
  · split
    · rw [show y * p.w + x + p.w = (y + 1) * p.w + x by rw [Nat.add_mul]; omega]
    · rfl

inductive Nb (p : Pl) : Nat → Nat → Nat → Nat → Int → Prop where
  | left (x y : Nat) : x + 1 < p.w → Nb p (x + 1) y x y (besW p.rd x)
  | right (x y : Nat) : x + 1 < p.w → Nb p x y (x + 1) y (besW p.rd x)
  | up (x y : Nat) : y + 1 < p.h → Nb p x (y + 1) x y (abvW p.rd x)
  | down (x y : Nat) : y + 1 < p.h → Nb p x y x (y + 1) (abvW p.rd x)

theorem nbs_mem (p : Pl) {x y : Nat} (hx : x < p.w) (hy : y < p.h) (q : Nat × Int) : q ∈ nbs p (y * p.w + x) ↔ ∃ x' y', Nb p x y x' y' q.2 ∧ q.1 = y' * p.w + x' := by
  rw [nbs_at p hx]
  constructor
  · intro h
    simp only [List.mem_append] at h
    rcases h with h | h | h | h
    · split at h
      · simp only [List.mem_singleton] at h
        subst h
        obtain ⟨z, rfl⟩ : ∃ z, x = z + 1 := ⟨x - 1, by omega⟩
        exact ⟨_, _, .left z y hx, rfl⟩
      · simp at h
    · split at h
      · simp only [List.mem_singleton] at h
        subst h
        exact ⟨_, _, .right x y (by assumption), rfl⟩
      · simp at h
    · split at h
      · simp only [List.mem_singleton] at h
        subst h
        obtain ⟨z, rfl⟩ : ∃ z, y = z + 1 := ⟨y - 1, by omega⟩
        exact ⟨_, _, .up x z hy, rfl⟩
      · simp at h
    · split at h
      · simp only [List.mem_singleton] at h
        subst h
        exact ⟨_, _, .down x y (by assumption), rfl⟩
      · simp at h
  · rintro ⟨x', y', h, e⟩
    obtain ⟨n, wt⟩ := q
    dsimp only at h e
    subst e
    cases h with
    | left x y h => simp
    | right _ _ h => simp [h]
    | up x y h => simp
    | down x y h => simp [h]

theorem Nb.symm {p : Pl} {x y x' y' : Nat} {wt : Int} (h : Nb p x y x' y' wt) : Nb p x' y' x y wt := by
  cases h with
  | left a b h => exact .right _ _ h
  | right a b h => exact .left _ _ h
  | up a b h => exact .down _ _ h
  | down a b h => exact .up _ _ h

theorem Nb.in {p : Pl} {x y x' y' : Nat} {wt : Int} (h : Nb p x y x' y' wt) (hx : x < p.w) (hy : y < p.h) : x' < p.w ∧ y' < p.h := by
  cases h <;> omega

theorem Nb.ne {p : Pl} {x y x' y' : Nat} {wt : Int} (h : Nb p x y x' y' wt) : ¬ (x' = x ∧ y' = y) := by
  cases h <;> omega

theorem besW_in (rd : Bool) (x : Nat) (hx : x ≤ 15) : 1 ≤ besW rd x ∧ besW rd x ≤ 32 := by
  unfold besW; split <;> omega
theorem abvW_in (rd : Bool) (x : Nat) (hx : x ≤ 15) : 1 ≤ abvW rd x ∧ abvW rd x ≤ 32 := by
  unfold abvW; split <;> omega

theorem Nb.wt {p : Pl} {x y x' y' : Nat} {wt : Int} (h : Nb p x y x' y' wt) (hw : p.w ≤ 16) (hx : x < p.w) : 1 ≤ wt ∧ wt ≤ 32 := by
  cases h with
  | left x y h => exact besW_in _ _ (by omega)
  | right x y h => exact besW_in _ _ (by omega)
  | up x y h => exact abvW_in _ _ (by omega)
  | down x y h => exact abvW_in _ _ (by omega)

theorem nbs_in (p : Pl) (hw : p.w ≤ 16) {i : Nat} (hi : i < p.w * p.h) : ∀ q ∈ nbs p i, q.1 < p.w * p.h ∧ 1 ≤ q.2 ∧ q.2 ≤ 32 ∧ (i, q.2) ∈ nbs p q.1 ∧ q.1 ≠ i := by
  obtain ⟨h1, h2, h3⟩ := cell_lt hi
  intro q hq
  rw [← h3] at hq
  obtain ⟨x', y', hn, he⟩ := (nbs_mem p h1 h2 q).1 hq
  obtain ⟨h4, h5⟩ := hn.in h1 h2
  obtain ⟨h6, h7⟩ := hn.wt hw h1
  refine ⟨by rw [he]; exact cell_in h4 h5, h6, h7, ?_, ?_⟩
  · rw [he]
    refine (nbs_mem p h4 h5 _).2 ⟨_, _, hn.symm, ?_⟩
    exact h3.symm
  · rw [he]
    conv => rhs; rw [← h3]
    intro e
    have m1 := (cell_at (y := y') h4); have m2 := (cell_at (y := i / p.w) h1)
    rw [e] at m1
    have e1 : x' = i % p.w := by rw [← m1.1, m2.1]
    have e2 : y' = i / p.w := by rw [← m1.2, m2.2]
    exact hn.ne ⟨e1, e2⟩

theorem grid_conn (p : Pl) (S : Nat → Prop) (h0 : ∃ i, i < p.w * p.h ∧ S i) (hs : ∀ i, i < p.w * p.h → S i → ∀ q ∈ nbs p i, S q.1) : ∀ i, i < p.w * p.h → S i := by
  obtain ⟨i, hi, hSi⟩ := h0
  obtain ⟨h1, h2, h3⟩ := cell_lt hi
  have st : ∀ {x y x' y' wt}, x < p.w → y < p.h → Nb p x y x' y' wt → S (y * p.w + x) → S (y' * p.w + x') := fun hx hy hn hS =>
    hs _ (cell_in hx hy) hS _ ((nbs_mem p hx hy (_, _)).2 ⟨_, _, hn, rfl⟩)
  have a1 : ∀ x, x < p.w → S (i / p.w * p.w + x) → S (i / p.w * p.w + 0) := by
    intro x
    induction x with
    | zero => intro _ h; exact h
    | succ x ih => intro hx h; exact ih (by omega) (st hx h2 (.left x _ hx) h)
  have a2 := a1 _ h1 (by rw [h3]; exact hSi)
  have a3 : ∀ y, y < p.h → S (y * p.w + 0) → S (0 * p.w + 0) := by
    intro y
    induction y with
    | zero => intro _ h; exact h
    | succ y ih => intro hy h; exact ih (by omega) (st (by omega) hy (.up 0 y hy) h)
  have a4 := a3 _ h2 a2
  have a5 : ∀ y, y < p.h → S (y * p.w + 0) := by
    intro y
    induction y with
    | zero => intro _; exact a4
    | succ y ih => intro hy; exact st (by omega) (by omega) (.down 0 y hy) (ih (by omega))
  have a6 : ∀ y, y < p.h → ∀ x, x < p.w → S (y * p.w + x) := by
    intro y hy x
    induction x with
    | zero => intro _; exact a5 y hy
    | succ x ih => intro hx; exact st (by omega) hy (.right x y hx) (ih (by omega))
  intro j hj
  obtain ⟨k1, k2, k3⟩ := cell_lt hj
  rw [← k3]
  exact a6 _ k2 _ k1

def SubH (p : Pl) (E : Nat → Prop) (f : Nat → Int) : Prop := ∀ i, i < p.w * p.h → ¬ E i → wtot (nbs p i) * f i ≤ wsum (nbs p i) f
def SupH (p : Pl) (E : Nat → Prop) (f : Nat → Int) : Prop := ∀ i, i < p.w * p.h → ¬ E i → wsum (nbs p i) f ≤ wtot (nbs p i) * f i

theorem SubH.neg {p : Pl} {E : Nat → Prop} {f : Nat → Int} (h : SubH p E f) : SupH p E fun i => - f i := fun i hi hE => by
  have := h i hi hE
  rw [wsum_neg, Int.mul_neg]; omega
theorem SupH.neg {p : Pl} {E : Nat → Prop} {f : Nat → Int} (h : SupH p E f) : SubH p E fun i => - f i := fun i hi hE => by
  have := h i hi hE
  rw [wsum_neg, Int.mul_neg]; omega
theorem SubH.add {p : Pl} {E : Nat → Prop} {f g : Nat → Int} (h : SubH p E f) (h' : SubH p E g) : SubH p E fun i => f i + g i := fun i hi hE => by
  have := h i hi hE
  have := h' i hi hE
  rw [wsum_add, Int.mul_add]; omega
theorem SupH.add {p : Pl} {E : Nat → Prop} {f g : Nat → Int} (h : SupH p E f) (h' : SupH p E g) : SupH p E fun i => f i + g i := fun i hi hE => by
  have := h i hi hE
  have := h' i hi hE
  rw [wsum_add, Int.mul_add]; omega

end Go.Proofs

namespace Go.Proofs
open Go Go.Sx

def gt (l : List Int) (i : Nat) : Int := l.getD i 0
def Pl.n (p : Pl) : Nat := p.w * p.h
def Pl.el (p : Pl) (i : Nat) : Prop := gt p.cs i ≠ 0
instance (p : Pl) (i : Nat) : Decidable (p.el i) := by unfold Pl.el; infer_instance

structure PlOK (p : Pl) : Prop where
  w : 1 ≤ p.w ∧ p.w ≤ 16
  h : 1 ≤ p.h ∧ p.h ≤ 16
  len : p.cs.length = p.w * p.h
  cell : ∀ c ∈ p.cs, 0 ≤ c ∧ c ≤ 6
  some : ∃ i, i < p.w * p.h ∧ p.el i

def vo (v : List Int) (c : Int) : Int := gt v (c - 1).toNat
def VOK (v : List Int) : Prop := ∀ x ∈ v, -1000000 ≤ x ∧ x ≤ 1000000
theorem gt_mem {l : List Int} {i : Nat} (h : i < l.length) : gt l i ∈ l := by
  unfold gt; rw [List.getD_eq_getElem?_getD, List.getElem?_eq_getElem h]; exact List.getElem_mem h
theorem gt_get {l : List Int} {i : Nat} (h : i < l.length) : l[i]? = some (gt l i) := by
  unfold gt; rw [List.getD_eq_getElem?_getD, List.getElem?_eq_getElem h]; rfl
theorem gt_set (l : List Int) (i j : Nat) (x : Int) (h : i < l.length) : gt (l.set i x) j = if j = i then x else gt l j := by
  unfold gt
  rw [List.getD_eq_getElem?_getD, List.getD_eq_getElem?_getD]
  by_cases e : j = i
  · subst e; rw [List.getElem?_set_self h]; simp
  · rw [List.getElem?_set_ne (by omega)]; simp [e]
theorem gt_ext {a b : List Int} (hl : a.length = b.length) (h : ∀ i, i < a.length → gt a i = gt b i) : a = b := by
  refine List.ext_getElem hl fun i h1 h2 => ?_
  have := h i h1
  unfold gt at this
  rw [List.getD_eq_getElem?_getD, List.getD_eq_getElem?_getD, List.getElem?_eq_getElem h1, List.getElem?_eq_getElem h2] at this
  exact this
def ngs (l : List Int) : List Int := l.map fun x => - x
theorem ngs_len (l : List Int) : (ngs l).length = l.length := by simp [ngs]
theorem gt_ngs (l : List Int) (i : Nat) : gt (ngs l) i = - gt l i := by
  unfold gt ngs
  rw [List.getD_eq_getElem?_getD, List.getD_eq_getElem?_getD, List.getElem?_map]
  cases l[i]? <;> simp
theorem ngs_ngs (l : List Int) : ngs (ngs l) = l := by
  have : ((fun x : Int => -x) ∘ fun x => -x) = id := funext fun x => Int.neg_neg x
  simp [ngs, this]
theorem vo_ngs (v : List Int) (c : Int) : vo (ngs v) c = - vo v c := gt_ngs _ _
theorem VOK.neg {v : List Int} (h : VOK v) : VOK (ngs v) := fun x hx => by
  obtain ⟨y, hy, rfl⟩ := List.mem_map.1 hx
  have := h y hy; omega
theorem vo_in {v : List Int} (h : VOK v) (c : Int) : -1000000 ≤ vo v c ∧ vo v c ≤ 1000000 := by
  unfold vo
  by_cases hc : (c - 1).toNat < v.length
  · exact h _ (gt_mem hc)
  · unfold gt
    rw [List.getD_eq_getElem?_getD, List.getElem?_eq_none (by omega)]
    simp

def rdn (n b : Int) : Int := n / b
def rup (n b : Int) : Int := - (- n / b)

def stp (p : Pl) (rnd : Int → Int → Int) (a : List Int) (i : Nat) : List Int := if gt p.cs i = 0 then a.set i (rnd (wsum (nbs p i) (gt a)) (wtot (nbs p i))) else a
def swpTo (p : Pl) (rnd : Int → Int → Int) (a : List Int) : Nat → List Int
  | 0 => a
  | k + 1 => stp p rnd (swpTo p rnd a k) k
def swp (p : Pl) (rnd : Int → Int → Int) (a : List Int) : List Int := swpTo p rnd a p.cs.length
def itr (p : Pl) (rnd : Int → Int → Int) (a : List Int) : Nat → List Int
  | 0 => a
  | k + 1 => swp p rnd (itr p rnd a k)

def at0 (p : Pl) (v : List Int) (first : Int) : List Int := p.cs.map fun c => if c = 0 then first else vo v c
def endLs (v : List Int) (a : Int) : List Int → Int
  | [] => a
  | c :: cs => endLs v (if c = 0 then a else if vo v c < a then vo v c else a) cs
def endMs (v : List Int) (a : Int) : List Int → Int
  | [] => a
  | c :: cs => endMs v (if c = 0 then a else if vo v c > a then vo v c else a) cs
def endL (p : Pl) (v : List Int) : Int := endLs v 1000000 p.cs
def endM (p : Pl) (v : List Int) : Int := endMs v (-1000000) p.cs

def lowB (p : Pl) (v : List Int) (k : Nat) : List Int := itr p rdn (at0 p v (endL p v)) k
def highB (p : Pl) (v : List Int) (k : Nat) : List Int := itr p rup (at0 p v (endM p v)) k

theorem endLs_ngs (v : List Int) : ∀ (cs : List Int) (a : Int), endLs (ngs v) (-a) cs = - endMs v a cs
  | [], a => rfl
  | c :: cs, a => by
    rw [endLs, endMs, ← endLs_ngs v cs, vo_ngs]
    congr 1
    by_cases h : c = 0
    · simp [h]
    · simp only [h, if_false]
      by_cases h2 : vo v c > a
      · rw [if_pos h2, if_pos (by omega)]
      · rw [if_neg h2, if_neg (by omega)]
theorem endL_ngs (p : Pl) (v : List Int) : endL p (ngs v) = - endM p v := by
  have := endLs_ngs v p.cs (-1000000)
  rwa [Int.neg_neg] at this
theorem endM_ngs (p : Pl) (v : List Int) : endM p (ngs v) = - endL p v := by
  have := endL_ngs p (ngs v)
  rw [ngs_ngs] at this
  omega
theorem endLs_in {v : List Int} (hv : VOK v) : ∀ (cs : List Int) (a : Int), -1000000 ≤ a → a ≤ 1000000 → -1000000 ≤ endLs v a cs ∧ endLs v a cs ≤ 1000000
  | [], a, h, h' => ⟨h, h'⟩
  | c :: cs, a, h, h' => by
    rw [endLs]
    have := vo_in hv c
    refine endLs_in hv cs _ ?_ ?_ <;> (split <;> (try split) <;> omega)
theorem endL_in {v : List Int} (hv : VOK v) (p : Pl) : -1000000 ≤ endL p v ∧ endL p v ≤ 1000000 := endLs_in hv _ _ (by omega) (by omega)
theorem endM_in {v : List Int} (hv : VOK v) (p : Pl) : -1000000 ≤ endM p v ∧ endM p v ≤ 1000000 := by
  have := endL_in hv.neg p
  rw [endL_ngs] at this; omega
structure LowOK (p : Pl) (v : List Int) (a : List Int) : Prop where
  len : a.length = p.w * p.h
  elec : ∀ i, i < p.w * p.h → p.el i → gt a i = vo v (gt p.cs i)
  sub : SubH p p.el (gt a)
  bd : ∀ i, i < p.w * p.h → endL p v ≤ gt a i ∧ gt a i ≤ endM p v

theorem PlOK.mem {p : Pl} (hp : PlOK p) {i : Nat} (hi : i < p.w * p.h) : gt p.cs i ∈ p.cs := gt_mem (by rw [hp.len]; exact hi)
structure HighOK (p : Pl) (v : List Int) (a : List Int) : Prop where
  len : a.length = p.w * p.h
  elec : ∀ i, i < p.w * p.h → p.el i → gt a i = vo v (gt p.cs i)
  sup : SupH p p.el (gt a)
  bd : ∀ i, i < p.w * p.h → endL p v ≤ gt a i ∧ gt a i ≤ endM p v

theorem LowOK.neg {p : Pl} {v a : List Int} (h : LowOK p (ngs v) a) : HighOK p v (ngs a) := by
  have e : gt (ngs a) = fun i => - gt a i := funext fun i => gt_ngs a i
  refine ⟨by rw [ngs_len, h.len], fun i hi hE => ?_, ?_, fun i hi => ?_⟩
  · rw [gt_ngs, h.elec i hi hE, vo_ngs]; omega
  · rw [e]; exact h.sub.neg
  · have := h.bd i hi
    rw [endL_ngs, endM_ngs] at this
    rw [gt_ngs]; omega
def stl (p : Pl) (v : List Int) (k : Nat) : Bool := decide (0 < k ∧ lowB p v k = lowB p v (k - 1) ∧ highB p v k = highB p v (k - 1))
def cnt (p : Pl) (v : List Int) : Nat → Nat
  | 0 => 0
  | n + 1 => if stl p v (cnt p v n) = true then cnt p v n else cnt p v n + 1

end Go.Proofs

