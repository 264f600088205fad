/- A part of the proof. -/
import Derived.Test.YtcnpapgcojagpaaPC
set_option linter.unusedSimpArgs false
set_option linter.unusedVariables false
namespace Go.Proofs
open Go Go.Sx Go.Fam
attribute [local irreducible] Run

theorem sized_is (l : List Int) : sizedAll 1 (l.map (.int .i64)) = true := by
  unfold sizedAll
  rw [List.all_eq_true]
  intro e he
  obtain ⟨h, _, rfl⟩ := List.mem_map.1 he; rfl
theorem sized_sub {n : Nat} {l l' : List AVal} (h : sizedAll n l = true) (hs : ∀ v ∈ l', v ∈ l) : sizedAll n l' = true := by
  unfold sizedAll at h ⊢
  rw [List.all_eq_true] at h ⊢
  exact fun v hv => h v (hs v hv)
@[go_sem high] theorem sized_i (l : List Int) : sizedAll 1 (List.map (.int .i64) l) = true := sized_is l
@[go_sem high] theorem sized_it (l : List Int) (m : Nat) : sizedAll 1 (List.take m (List.map (.int .i64) l)) = true := sized_sub (sized_is l) fun v hv => List.mem_of_mem_take hv
@[go_sem high] theorem sized_id (l : List Int) (m : Nat) : sizedAll 1 (List.drop m (List.map (.int .i64) l)) = true := sized_sub (sized_is l) fun v hv => List.mem_of_mem_drop hv
@[go_sem high] theorem sized_itd (l : List Int) (m k : Nat) : sizedAll 1 (List.take m (List.drop k (List.map (.int .i64) l))) = true := sized_sub (sized_is l) fun v hv => List.mem_of_mem_drop (List.mem_of_mem_take hv)
theorem Own_run (l : List Int) (hl : l.length ≤ 1000000) : Ans Try.prog n_kit_Own [vw l] [] (.sl 0 0 l.length) [some (.cells true 1 (l.map (.int .i64)))] := by
  have h8 : l.length * 8 ≤ 2 ^ 44 := by omega
  refine spec_run e_kit_Own fun G => ?_
  simp only [go_sem, vw, List.length_map, h8]
  exact ⟨_, rfl⟩

@[go_sem] theorem rowi_bel (g : Bool) (l : List Int) (S : Nat → Prop) : (Row.cells g 1 (l.map (.int .i64))).bel S = True := by rw [row_bel_cells, bels_ints]
@[go_sem] theorem rowi_nv (g : Bool) (l : List Int) : (Row.cells g 1 (l.map (.int .i64))).nv = True := eq_true (row_nv_cells _ _ (by rw [nvs_ints]; trivial))
@[go_sem] theorem rown_bel (g : Bool) (sz : Nat) (S : Nat → Prop) : (Row.cells g sz []).bel S = True := by rw [row_bel_cells]; rfl
@[go_sem] theorem rown_nv (g : Bool) (sz : Nat) : (Row.cells g sz []).nv = True := eq_true (row_nv_cells _ _ trivial)
def lnV (out : List Int) : AVal := if out = [] then .nilsl else .sl 1 0 out.length
def lnH (w : Int) (out : List Int) : Heap := if out = [] then [some (Dr w)] else [some (Dr w), some (.cells false 1 (out.map (.int .i64)))]
def lnT (lo hi : Int) (most : Int) : List (Nat × AVal) := [(0, .ptr 0 0 0 1), (1, .int .i64 lo), (2, .int .i64 hi), (3, .int .i64 most), (8, .nilsl)]
theorem at_less {n : Int} : ∀ {l : List Int} {i : Nat}, i < cntL n l → at1 l i < n
  | [], i, h => by simp [cntL] at h
  | x :: l, i, h => by
    simp only [cntL] at h
    split at h
    · rename_i hx
      cases i with
      | zero => exact hx
      | succ i => have := at_less (n := n) (l := l) (i := i) (by omega); simpa [at1] using this
    · omega
theorem at_cntL {n : Int} : ∀ {l : List Int}, cntL n l < l.length → n ≤ at1 l (cntL n l)
  | [], h => by simp [cntL] at h
  | x :: l, h => by
    simp only [cntL] at h ⊢
    split
    · rename_i hx
      rw [if_pos hx] at h
      have := at_cntL (n := n) (l := l) (by simpa using h)
      simpa [at1] using this
    · rename_i hx; simp only [at1, List.getD_cons_zero]; omega

theorem wk_refl : ∀ ρ : List AVal, Wk ρ ρ
  | [] => trivial
  | _ :: ρ => ⟨.inr rfl, wk_refl ρ⟩
set_option maxRecDepth 20000 in
theorem ln_back {P : Program} {G : Ctx} {rd : Option Nat} {c : ACode} {fs : List Sx.Frame} {Q : Goal} {ρ : List AVal} {H : Heap} {lo hi most w : Int} {out : List Int} {j m : Nat} (hW : Wk ρ (tsets 62 (lnT lo hi most ++ [(9, .sl j 0 out.length), (10, .int .i64 m)])))
    (h0 : H[0]? = some (some (Dr w))) (hj : H[j]? = some (some (.cells true 1 (out.map (.int .i64))))) (hj1 : 1 ≤ j) (hne : out ≠ []) (h : Sx.Loop P G 1 rd c fs ⟨tsets 62 (lnT lo hi most ++ [(9, lnV out), (10, .int .i64 m)]), lnH w out, []⟩ Q) : Sx.Loop P G 1 rd c fs ⟨ρ, H, []⟩ Q := by
  refine loop_wk hW (loop_gc (ρ' := tsets 62 (lnT lo hi most ++ [(9, .sl 1 0 out.length), (10, .int .i64 m)])) (H' := [some (Dr w), some (.cells true 1 (out.map (.int .i64)))]) (fun i => if i = 0 then 0 else j) (fun i hi => by simp [show i = 0 by omega]) (by simp) (fun i k hi hk e => ?_) ?_ ?_ (fun i x hx => ?_)
    (loop_settle 1 (Nat.le_refl _) (fulfs_mem ?_) (fun i x hx => ?_) ?_))
  · simp only [List.length_cons, List.length_nil] at hi hk
    by_cases a : i = 0 <;> by_cases b : k = 0 <;> simp [a, b] at e <;> omega
  · simp [go_sem, lnT, ren]
  · simp [go_sem, lnT]
  · have hi := (List.getElem?_eq_some_iff.1 hx).1
    simp only [List.length_cons, List.length_nil] at hi
    obtain rfl | rfl : i = 0 ∨ i = 1 := by omega
    · simp only [List.getElem?_cons_zero, Option.some.injEq] at hx
      subst hx
      exact ⟨by rw [Row.ren_same (dr_bel _ _)]; exact h0, dr_bel _ _⟩
    · simp only [List.getElem?_cons_succ, List.getElem?_cons_zero, Option.some.injEq] at hx
      subst hx
      exact ⟨by rw [Row.ren_same (by simp only [go_sem])]; exact hj, by simp only [go_sem]⟩
  · simp [go_sem, lnT]
    exact fulf_sl rfl (by simp)
  · have hi := (List.getElem?_eq_some_iff.1 hx).1
    simp only [List.length_cons, List.length_nil] at hi
    obtain rfl | rfl : i = 0 ∨ i = 1 := by omega
    · simp only [List.getElem?_cons_zero, Option.some.injEq] at hx
      subst hx
      exact ⟨_, _, _, rfl, fun e he => by simp at he; subst he; exact fulf_free (by simp only [go_sem])⟩
    · simp only [List.getElem?_cons_succ, List.getElem?_cons_zero, Option.some.injEq] at hx
      subst hx
      exact ⟨_, _, _, rfl, fulfs_ints _ _⟩
  · have e1 : settleFrom 1 [some (Dr w), some (.cells true 1 (out.map (.int .i64)))] = lnH w out := by unfold lnH; rw [if_neg hne]; rfl
    rw [e1]
    unfold lnV at h
    rwa [if_neg hne] at h
theorem own_frz (w : Int) (out : List Int) {c : Nat} (hc : c ≤ out.length) : frz 6 (Heap.onlyR [some (Dr w), some (Row.cells false 1 (List.map (AVal.int IntKind.i64) out))] [1]) (if 0 = (c : Int) then AVal.view [] else AVal.sl 1 0 (c - 0)) = vw (List.take c out) := by
  by_cases h : c = 0
  · subst h; simp [frz, vw]
  · have h1 : ¬ (0 : Int) = (c : Int) := by omega
    rw [if_neg h1, Nat.sub_zero]
    have e : Heap.cellsAt (Heap.onlyR [some (Dr w), some (Row.cells false 1 (List.map (AVal.int IntKind.i64) out))] [1]) 1 = some (false, 1, List.map (AVal.int IntKind.i64) out) := rfl
    simp only [frz, e, Nat.zero_add, List.length_map, true_or, true_and, hc, if_true, List.drop_zero]
    unfold vw
    rw [← List.map_take, List.map_map]
    congr 1
set_option maxHeartbeats 4000000 in
set_option maxRecDepth 20000 in
theorem Lines_run (w lo hi most : Int) (hb : -1000000 ≤ lo ∧ lo ≤ hi ∧ hi ≤ 1000000) (hm : 1 ≤ most ∧ most ≤ 40) :
    Ans Try.prog n_kit_Lines [.ptr 0 0 0 1, .int .i64 lo, .int .i64 hi, .int .i64 most] [some (Dr w)] (.sl 1 0 (linesOf w lo hi most).length) [some (Dr (linesEnd w lo hi most)), some (.cells true 1 ((linesOf w lo hi most).map (.int .i64)))] := by
  have hbt := btw_in (w := w) hm.1
  have hpos := (linesOf_ok (w := w) (a := lo) hb.2.1 hm (Int.le_refl _) hb.2.2).1.pos
  unfold linesOf linesEnd at *
  obtain ⟨R, hR⟩ : ∃ R, linesGo lo hi (btw w 1 most).toNat (dstep w) [] = R := ⟨_, rfl⟩
  rw [hR] at hpos ⊢
  have k1 := between_ok w 1 most (by omega) hm.1 (by omega)
  refine Ans.loosen (LH' := [some (Dr R.2), some (.cells false 1 (R.1.map (.int .i64)))]) (Ans.keep (run_fn e_kit_Lines fun G => ?_) (by simp) (by rw [bel_sl]; simp) ⟨by simp only [go_sem], by rw [row_bel_cells, bels_ints]; trivial, trivial⟩) rfl (fun i => by
    match i with
    | 0 => exact .inl rfl
    | 1 => exact .inr ⟨false, 1, _, rfl, rfl⟩
    | i + 2 => exact .inl (by simp))
  simp only [go_sem]
  refine cD k1 ?_
  simp only [go_sem]
  refine loop_ind k_kit_Lines_r12.eq_1 (fun a : Nat × Int × List Int => linesGo lo hi a.1 a.2.1 a.2.2 = R ∧ a.2.2.length + a.1 ≤ 40) (fun a => a.1)
    (fun a => (tsets 62 (lnT lo hi most ++ [(9, lnV a.2.2), (10, .int .i64 a.1)]), lnH a.2.1 a.2.2)) ((btw w 1 most).toNat, dstep w, []) ⟨hR, by simp only [List.length_nil]; omega⟩ (by simp [go_sem, lnT, lnV]; omega) (by simp [lnH, List.set]) ?_
  rintro ⟨m, w, out⟩ ⟨hG, hl⟩ ih
  dsimp only at hG hl ih ⊢
  have ho : out.length ≤ 40 := by omega
  cases m with
  | zero =>
    have e0 : ¬ ((0 : Nat) : Int) > 0 := by omega
    simp only [linesGo] at hG
    subst hG
    have hne : out ≠ [] := by rintro rfl; simp at hpos
    simp only [go_sem, lnT, lnV, lnH, hne, if_false, e0]
    refine ⟨fun i => i, fun i _ => rfl, fun i j _ _ h => h, by simp [ren], fun i x hx => ?_⟩
    match i with
    | 0 =>
      simp only [List.getElem?_cons_zero, Option.some.injEq] at hx
      subst hx
      rw [Row.ren_same (dr_bel _ _)]; rfl
    | 1 =>
      simp only [List.getElem?_cons_succ, List.getElem?_cons_zero, Option.some.injEq] at hx
      subst hx
      rw [Row.ren_same (by simp only [go_sem])]; rfl
    | i + 2 => simp at hx
  | succ m =>
    have e0 : ((m + 1 : Nat) : Int) > 0 := by omega
    have e1 : IntKind.i64.wrap (((m + 1 : Nat) : Int) - 1) = m := by rw [w64 (by omega)]; omega
    have kb := between_ok w lo hi (by omega) hb.2.1 (by omega)
    by_cases hne : out = []
    · subst hne
      simp only [go_sem, lnT, lnV, lnH, if_true, e0]
      refine cD kb ?_
      simp only [go_sem]
      refine loop_body 3000 k_kit_Lines_r8.eq_1 ?_
      simp only [go_sem]
      refine dFN (Own_run [] (by simp)) 6 [] (by simp only [go_sem, frz, vw, List.map_nil]) ?_
      simp only [go_sem, ren, e1]
      refine ⟨by decide, by decide, ln_back (lo := lo) (hi := hi) (most := most) (m := m) (j := 1) (out := insL (btw w lo hi) []) (w := dstep w) (by simp [go_sem, lnT, insL]) rfl (by simp [insL]) (Nat.le_refl _) (by simp [insL]) ?_⟩
      exact ih (m, dstep w, insL (btw w lo hi) []) (Nat.lt_succ_self _) ⟨hG, by simp only [insL, List.length_singleton]; simp at hl; omega⟩ _ (wk_refl _)
    · simp only [go_sem, lnT, lnV, lnH, hne, if_false, e0]
      refine cD kb ?_
      simp only [go_sem]
      generalize hn : btw w lo hi = n at *
      have hcl := cntL_le n out
      refine loop_indH k_kit_Lines_r8.eq_1 (fun i : Nat => i ≤ cntL n out) (fun i => cntL n out - i)
        (fun i => tsets 62 (lnT lo hi most ++ [(9, .sl 1 0 out.length), (10, .int .i64 (m + 1 : Nat)), (11, .int .i64 n), (12, .int .i64 i)])) 0 (Nat.zero_le _) (by simp [go_sem, lnT]) ?_
      intro i hiv ihi
      have h3 : IntKind.i64.wrap ((i : Int) + 1) = ((i + 1 : Nat) : Int) := by rw [w64 (by omega)]; omega
      have n0 : ¬ (i : Int) < 0 := by omega
      by_cases c1 : i < cntL n out
      · have h2 : (i : Int) < out.length := by omega
        have hx := get_at (l := out) (i := i) (by omega)
        have hx2 := at_less c1
        simp only [go_sem, lnT, h2, n0, hx, Int.toNat_natCast, hx2, h3, List.length_map]
        exact ihi (i + 1) (by omega) (by omega) _ (by simp [go_sem, lnT])
      · obtain rfl : i = cntL n out := by omega
        by_cases c2 : cntL n out < out.length
        · have h2 : ((cntL n out : Nat) : Int) < out.length := by omega
          have hx := get_at (l := out) (i := cntL n out) c2
          have hx2 := at_cntL c2
          have hx3 : ¬ at1 out (cntL n out) < n := by omega
          have b1 : (((cntL n out : Nat) : Int) == out.length) = false := beq_eq_false_iff_ne.2 (by omega)
          by_cases c3 : at1 out (cntL n out) = n
          · have b2 : (at1 out (cntL n out) == n) = true := by simp [c3]
            have e : insL n out = out := by rw [insL_eq, if_pos (by rw [hx, c3])]
            simp only [go_sem, lnT, h2, n0, hx, Int.toNat_natCast, hx3, List.length_map, b1, bne, b2, e1]
            have q := ih (m, dstep w, out) (Nat.lt_succ_self _) ⟨by simp only [linesGo, hn, e] at hG; exact hG, by dsimp only; omega⟩
            simp only [lnH, lnV, hne, if_false] at q
            exact q _ (by simp [go_sem, lnT])
          · have b2 : (at1 out (cntL n out) == n) = false := beq_eq_false_iff_ne.2 c3
            have e : insL n out = out.take (cntL n out) ++ n :: out.drop (cntL n out) := by rw [insL_eq, if_neg (by rw [hx]; simpa using c3)]
            simp only [go_sem, lnT, h2, n0, hx, Int.toNat_natCast, hx3, List.length_map, b1, bne, b2, e1]
            have q1 : ¬ ((cntL n out : Nat) : Int) = (out.length : Int) := by omega
            refine ⟨by omega, dFN (Own_run (out.take (cntL n out)) (by simp; omega)) 6 [1] ⟨.inl (own_frz _ _ hcl), trivial⟩ ?_ (hx := by rw [rowi_bel]; trivial) (hxn := by rw [rowi_nv]; trivial)⟩
            have q2 : cntL n out + (out.length - cntL n out) ≤ out.length := by omega
            have qt : List.take (out.length - cntL n out) (List.drop (cntL n out) (List.map (AVal.int IntKind.i64) out)) = (out.drop (cntL n out)).map (.int .i64) := by rw [← List.map_drop, List.take_of_length_le (by simp)]
            have hmin : min (cntL n out) out.length = cntL n out := Nat.min_eq_left hcl
            simp only [go_sem, ren, e1, q1, q2, qt, hmin, List.length_map, List.length_take, List.length_drop]
            refine ⟨by omega, by omega, by omega, ln_back (lo := lo) (hi := hi) (most := most) (m := m) (j := 2) (out := insL n out) (w := dstep w) ?_ rfl (by rw [e]; simp) (by omega) (by rw [e]; simp) ?_⟩
            · have el : (insL n out).length = cntL n out + 1 + (out.length - cntL n out) := by rw [e]; simp; omega
              simp [go_sem, lnT, el]
            · exact ih (m, dstep w, insL n out) (Nat.lt_succ_self _) ⟨by simp only [linesGo, hn] at hG; exact hG, by have := (insL_len n out).2; dsimp only; omega⟩ _ (wk_refl _)
        · have h2 : ¬ ((cntL n out : Nat) : Int) < out.length := by omega
          have b1 : (((cntL n out : Nat) : Int) == out.length) = true := by simp; omega
          have q1 : ((cntL n out : Nat) : Int) = (out.length : Int) := by omega
          have e : insL n out = out.take (cntL n out) ++ n :: out.drop (cntL n out) := by rw [insL_eq, if_neg (by rw [List.getElem?_eq_none (by omega)]; simp)]
          simp only [go_sem, lnT, h2, List.length_map, b1, e1]
          refine ⟨by omega, dFN (Own_run (out.take (cntL n out)) (by simp; omega)) 6 [1] ⟨.inl (own_frz _ _ hcl), trivial⟩ ?_ (hx := by rw [rowi_bel]; trivial) (hxn := by rw [rowi_nv]; trivial)⟩
          have hmin : min (cntL n out) out.length = cntL n out := Nat.min_eq_left hcl
          simp only [go_sem, ren, e1, q1, hmin, List.length_map, List.length_take]
          refine ⟨by omega, by omega, by omega, ln_back (lo := lo) (hi := hi) (most := most) (m := m) (j := 2) (out := insL n out) (w := dstep w) ?_ rfl (by rw [e, List.drop_eq_nil_of_le (by omega)]; simp) (by omega) (by rw [e]; simp) ?_⟩
          · have el : (insL n out).length = cntL n out + 1 + (out.length - cntL n out) := by rw [e]; simp; omega
            simp [go_sem, lnT, el]
            omega
          · exact ih (m, dstep w, insL n out) (Nat.lt_succ_self _) ⟨by simp only [linesGo, hn] at hG; exact hG, by have := (insL_len n out).2; dsimp only; omega⟩ _ (wk_refl _)
end Go.Proofs

namespace Go.Proofs
open Go Go.Sx Go.Fam
attribute [local irreducible] Run

end Go.Proofs

namespace Go.Proofs
open Go Go.Sx Go.Fam

def lsC (l : List Int) : AVal := if l = [] then .nilsl else vw l
def tbC (t : List (List Int)) : AVal := if t = [] then .nilsl else tw t
abbrev ivL (l : List Int) : List AVal := l.map (.int .i64)

theorem all3_ints {d : Nat} {H : Heap} : ∀ {ι : List Nat} {vs : List AVal} {l : List Int}, All3 (Dat d H) ι vs (l.map (.int .i64)) → vs = l.map (.int .i64) ∧ ι = []
  | ι, [], [], h => ⟨rfl, h⟩
  | ι, v :: vs, x :: l, h => by
    obtain ⟨κ, κ', rfl, h1, h2⟩ := h
    obtain ⟨rfl, rfl⟩ := all3_ints h2
    cases d with
    | zero => exact h1.elim
    | succ d =>
      obtain ⟨rfl, rfl, _⟩ := h1
      exact ⟨rfl, rfl⟩
  | _, [], _ :: _, h => h.elim
  | _, _ :: _, [], h => h.elim
theorem vw_get {d : Nat} {J : Heap} {κ : List Nat} {v : AVal} {l : List Int} (h : Dat (d + 1) J κ v (vw l)) : l ≠ [] ∧ ∃ r, v = .sl r 0 l.length ∧ κ = [r] ∧ J[r]? = some (some (.cells true 1 (ivL l))) := by
  obtain ⟨h0, r, vs, κ', rfl, rfl, h2, h3⟩ := h
  obtain ⟨rfl, rfl⟩ := all3_ints h3
  have hl : l ≠ [] := by rintro rfl; exact h0 rfl
  refine ⟨hl, r, by simp, rfl, ?_⟩
  cases l with
  | nil => exact absurd rfl hl
  | cons x l => exact h2
theorem vw_put {d : Nat} {J : Heap} {r n : Nat} {l : List Int} (h0 : l ≠ []) (hn : n = l.length) (h : J[r]? = some (some (.cells true 1 (ivL l)))) : Dat (d + 2) J [r] (.sl r 0 n) (vw l) := by
  have : l.map (AVal.int .i64) ≠ [] := by simpa using h0
  refine Dat.list (κ := []) this (by simpa using hn) ?_ h (Dat.ints _ _)
  cases l with
  | nil => exact absurd rfl h0
  | cons x l => rfl
theorem ls_get {d : Nat} {J : Heap} {κ : List Nat} {v : AVal} {l : List Int} (h : Dat (d + 1) J κ v (lsC l)) (h0 : l ≠ []) : ∃ r, v = .sl r 0 l.length ∧ κ = [r] ∧ J[r]? = some (some (.cells true 1 (ivL l))) := by
  unfold lsC at h; rw [if_neg h0] at h; exact (vw_get h).2
theorem ls_put {d : Nat} {J : Heap} {r n : Nat} {l : List Int} (h0 : l ≠ []) (hn : n = l.length) (h : J[r]? = some (some (.cells true 1 (ivL l)))) : Dat (d + 2) J [r] (.sl r 0 n) (lsC l) := by
  unfold lsC; rw [if_neg h0]; exact vw_put h0 hn h
theorem nil_get {d : Nat} {J : Heap} {κ : List Nat} {v : AVal} (h : Dat (d + 1) J κ v .nilsl) : v = .nilsl ∧ κ = [] := ⟨h.1, h.2.1⟩
theorem tb_get {d : Nat} {J : Heap} {κ : List Nat} {v : AVal} {t : List (List Int)} (h : Dat (d + 1) J κ v (tbC t)) (h0 : t ≠ []) : ∃ r vs κ', v = .sl r 0 t.length ∧ κ = κ' ++ [r] ∧ J[r]? = some (some (.cells true 1 vs)) ∧ All3 (Dat d J) κ' vs (t.map vw) := by
  unfold tbC at h; rw [if_neg h0] at h
  obtain ⟨_, r, vs, κ', rfl, rfl, h2, h3⟩ := h
  refine ⟨r, vs, κ', by simp, rfl, ?_, h3⟩
  cases t with
  | nil => exact absurd rfl h0
  | cons x l => exact h2
theorem tb_put {d : Nat} {J : Heap} {r n : Nat} {κ : List Nat} {vs : List AVal} {t : List (List Int)} (h0 : t ≠ []) (hn : n = t.length) (h : J[r]? = some (some (.cells true 1 vs))) (h3 : All3 (Dat d J) κ vs (t.map vw)) : Dat (d + 1) J (κ ++ [r]) (.sl r 0 n) (tbC t) := by
  unfold tbC; rw [if_neg h0]
  refine Dat.list (by simpa using h0) (by simpa using hn) ?_ h h3
  cases t with
  | nil => exact absurd rfl h0
  | cons x l => rfl

structure FS (F : Nat → Prop) (J : Heap) (g p : List Int) (L U : List (List Int)) (lo hi : List Int) (v0 v1 v2 v3 v4 v5 : AVal) (κ0 κ1 κ2 κ3 κ4 κ5 : List Nat) : Prop where
  len : ∀ a, F a → a < J.length
  d0 : Dat 5 J κ0 v0 (vw g)
  d1 : Dat 5 J κ1 v1 (vw p)
  d2 : Dat 5 J κ2 v2 (tbC L)
  d3 : Dat 5 J κ3 v3 (tbC U)
  d4 : Dat 5 J κ4 v4 (lsC lo)
  d5 : Dat 5 J κ5 v5 (lsC hi)
  nd : ∀ a, κ0.count a + κ1.count a + κ2.count a + κ3.count a + κ4.count a + κ5.count a ≤ 1
  ge : ∀ a, F a → κ0.count a + κ1.count a + κ2.count a + κ3.count a + κ4.count a + κ5.count a = 0

section
variable {F : Nat → Prop} {J J' : Heap} {g p : List Int} {L U : List (List Int)} {lo hi : List Int} {v0 v1 v2 v3 v4 v5 : AVal} {κ0 κ1 κ2 κ3 κ4 κ5 : List Nat}
theorem cnt_mem {κ : List Nat} {r : Nat} : r ∈ κ ↔ 0 < κ.count r := List.count_pos_iff.symm
theorem FS.up (h : FS F J g p L U lo hi v0 v1 v2 v3 v4 v5 κ0 κ1 κ2 κ3 κ4 κ5) : (∀ r ∈ κ0, ¬ F r) ∧ (∀ r ∈ κ1, ¬ F r) ∧ (∀ r ∈ κ2, ¬ F r) ∧ (∀ r ∈ κ3, ¬ F r) ∧ (∀ r ∈ κ4, ¬ F r) ∧ ∀ r ∈ κ5, ¬ F r := by
  have := h.ge
  refine ⟨?_, ?_, ?_, ?_, ?_, ?_⟩ <;>
  · intro r hr
    rw [cnt_mem] at hr
    intro hn
    have := h.ge r hn; omega
theorem FS.lt0 (h : FS F J g p L U lo hi v0 v1 v2 v3 v4 v5 κ0 κ1 κ2 κ3 κ4 κ5) {r : Nat} (hr : J.length ≤ r) : κ0.count r + κ1.count r + κ2.count r + κ3.count r + κ4.count r + κ5.count r = 0 := by
  have z : ∀ {κ : List Nat} {v c : AVal}, Dat 5 J κ v c → κ.count r = 0 := fun hd => List.count_eq_zero.2 fun hm => by have := hd.lt r hm; omega
  have := z h.d0; have := z h.d1; have := z h.d2; have := z h.d3; have := z h.d4; have := z h.d5; omega

theorem FS.first (h : FS F J g p L U [] [] v0 v1 v2 v3 v4 v5 κ0 κ1 κ2 κ3 κ4 κ5) : v4 = .nilsl ∧ v5 = .nilsl ∧ ∀ (J' : Heap) (r s : Nat) (x y : Int), r ≠ s → J.length ≤ r → J.length ≤ s → (∀ q, ¬ F q → q < J.length → J'[q]? = J[q]?) →
    J'[r]? = some (some (.cells true 1 [.int .i64 x])) → J'[s]? = some (some (.cells true 1 [.int .i64 y])) → FS F J' g p L U [x] [y] v0 v1 v2 v3 (.sl r 0 1) (.sl s 0 1) κ0 κ1 κ2 κ3 [r] [s] := by
  obtain ⟨e4, k4⟩ := nil_get (J := J) (d := 4) (κ := κ4) (v := v4) (by simpa [lsC] using h.d4)
  obtain ⟨e5, k5⟩ := nil_get (J := J) (d := 4) (κ := κ5) (v := v5) (by simpa [lsC] using h.d5)
  subst e4; subst e5; subst k4; subst k5
  refine ⟨rfl, rfl, fun J' r s x y hrs hr hs hJ h1 h2 => ?_⟩
  obtain ⟨u0, u1, u2, u3, _, _⟩ := h.up
  have l0 := h.len
  have m := fun {κ : List Nat} {v c : AVal} (hd : Dat 5 J κ v c) (hu : ∀ r ∈ κ, ¬ F r) => hd.congr fun q hq => hJ q (hu q hq) (hd.lt q hq)
  have hlt := (List.getElem?_eq_some_iff.1 h1).1
  refine ⟨fun a ha => by have := l0 a ha; omega, m h.d0 u0, m h.d1 u1, m h.d2 u2, m h.d3 u3, ls_put (by simp) rfl h1, ls_put (by simp) rfl h2, fun a => ?_, fun a ha => ?_⟩
  · have h3 := h.nd a
    have h4 := h.lt0 hr
    have h5 := h.lt0 hs
    simp only [List.count_nil, Nat.add_zero, List.count_cons, beq_iff_eq, Nat.zero_add] at *
    by_cases c1 : r = a
    · subst c1
      have c2 : ¬ s = r := fun e => hrs e.symm
      simp only [c2, if_true, if_false]; omega
    · by_cases c2 : s = a
      · subst c2
        simp only [c1, if_true, if_false]; omega
      · simp only [c1, c2, if_false]; omega
  · have h3 := h.ge a ha
    simp only [List.count_nil, Nat.add_zero, List.count_cons, beq_iff_eq, Nat.zero_add] at *
    have c1 : ¬ r = a := by have := l0 a ha; omega
    have c2 : ¬ s = a := by have := l0 a ha; omega
    simp only [c1, c2, if_false]; omega
theorem FS.next (h : FS F J g p L U lo hi v0 v1 v2 v3 v4 v5 κ0 κ1 κ2 κ3 κ4 κ5) (hlo : lo ≠ []) (hhi : hi ≠ []) : ∃ r s, v4 = .sl r 0 lo.length ∧ v5 = .sl s 0 hi.length ∧ r ≠ s ∧ ¬ F r ∧ ¬ F s ∧ J[r]? = some (some (.cells true 1 (ivL lo))) ∧ J[s]? = some (some (.cells true 1 (ivL hi))) ∧
    ∀ (J' : Heap) (x y : Int), (∀ q, ¬ F q → q < J.length → q ≠ r → q ≠ s → J'[q]? = J[q]?) → J'[r]? = some (some (.cells true 1 (ivL lo ++ [.int .i64 x]))) → J'[s]? = some (some (.cells true 1 (ivL hi ++ [.int .i64 y]))) → (∀ a, F a → a < J'.length) →
    FS F J' g p L U (lo ++ [x]) (hi ++ [y]) v0 v1 v2 v3 (.sl r 0 (lo.length + 1)) (.sl s 0 (hi.length + 1)) κ0 κ1 κ2 κ3 κ4 κ5 := by
  obtain ⟨r, e4, k4, g4⟩ := ls_get h.d4 hlo
  obtain ⟨s, e5, k5, g5⟩ := ls_get h.d5 hhi
  obtain ⟨u0, u1, u2, u3, u4, u5⟩ := h.up
  subst e4; subst e5; subst k4; subst k5
  have nr := h.nd r
  have ns := h.nd s
  have hrs : r ≠ s := by
    rintro rfl
    simp [List.count_cons] at nr
  refine ⟨r, s, rfl, rfl, hrs, u4 r (by simp), u5 s (by simp), g4, g5, fun J' x y hJ h1 h2 hn => ?_⟩
  have hsr : ¬ s = r := fun e => hrs e.symm
  simp only [List.count_cons, List.count_nil, beq_iff_eq, hrs, hsr, if_true, if_false] at nr ns
  have m := fun {κ : List Nat} {v c : AVal} (hd : Dat 5 J κ v c) (hu : ∀ r ∈ κ, ¬ F r) (c1 : κ.count r = 0) (c2 : κ.count s = 0) => hd.congr fun q hq => hJ q (hu q hq) (hd.lt q hq) (by rintro rfl; exact List.count_eq_zero.1 c1 hq) (by rintro rfl; exact List.count_eq_zero.1 c2 hq)
  refine ⟨hn, m h.d0 u0 (by omega) (by omega), m h.d1 u1 (by omega) (by omega), m h.d2 u2 (by omega) (by omega), m h.d3 u3 (by omega) (by omega), ls_put (by simp) (by simp) (by simpa using h1), ls_put (by simp) (by simp) (by simpa using h2), h.nd, h.ge⟩

theorem row_one {d : Nat} {J' : Heap} {κ : List Nat} {v : AVal} {lo : List Int} (h : Dat d J' κ v (vw lo)) : All3 (Dat d J') κ [v] ([lo].map vw) := ⟨κ, [], by simp, h, rfl⟩
theorem row_more {d : Nat} {J' : Heap} {κ κ' : List Nat} {v : AVal} {vs : List AVal} {t : List (List Int)} {lo : List Int} (h : All3 (Dat d J') κ vs (t.map vw)) (hv : Dat d J' κ' v (vw lo)) : All3 (Dat d J') (κ ++ κ') (vs ++ [v]) ((t ++ [lo]).map vw) := by
  rw [List.map_append]; exact h.snoc hv

theorem FS.all (h : FS F J g p L U [] [] v0 v1 v2 v3 v4 v5 κ0 κ1 κ2 κ3 κ4 κ5) (hL : L ≠ []) (hU : U ≠ []) : ∃ ι, Dat 6 J ι (.agg [v0, v1, v2, v3]) (Fv ⟨g, p, L, U⟩) ∧ ι.Nodup ∧ ∀ r ∈ ι, ¬ F r := by
  have d2 : Dat 5 J κ2 v2 (tw L) := by have := h.d2; unfold tbC at this; rwa [if_neg hL] at this
  have d3 : Dat 5 J κ3 v3 (tw U) := by have := h.d3; unfold tbC at this; rwa [if_neg hU] at this
  refine ⟨κ0 ++ (κ1 ++ (κ2 ++ (κ3 ++ []))), ⟨_, rfl, κ0, _, rfl, h.d0, κ1, _, rfl, h.d1, κ2, _, rfl, d2, κ3, [], rfl, d3, rfl⟩, List.nodup_iff_count.2 fun a => ?_, fun r hr => ?_⟩
  · have := h.nd a
    simp only [List.count_append, List.count_nil]
    omega
  · obtain ⟨u0, u1, u2, u3, _, _⟩ := h.up
    simp only [List.append_nil, List.mem_append] at hr
    rcases hr with hr | hr | hr | hr
    · exact u0 r hr
    · exact u1 r hr
    · exact u2 r hr
    · exact u3 r hr
end
end Go.Proofs

namespace Go.Proofs
open Go Go.Sx Go.Fam
attribute [local irreducible] Run

def tabGr (g : Nat) : Option AFun := if g = n_slices_Grow_int_int then some k_slices_Grow_int_int else none
theorem tabGr_ok : ∀ g af, tabGr g = some af → EntryOK Try.prog g af := fun g af h => by
  unfold tabGr at h
  split at h
  · rename_i e; subst e; cases h; exact e_slices_Grow_int_int
  · cases h
def growB (n : Nat) : Bool := match exFn tabGr 100 5 n_slices_Grow_int_int [.nilsl, .int .i64 n] [] with
  | some (.sl 1 0 0, [some .dead, some (.cells true 1 [])]) => true
  | _ => false
theorem growB_all : ((List.range 100).all fun n => growB (n + 1)) = true := by kernel_rfl
theorem Grow_run {n : Nat} (h : 1 ≤ n) (hn : n ≤ 100) : Ans Try.prog n_slices_Grow_int_int [.nilsl, .int .i64 n] [] (.sl 0 0 0) [some (.cells true 1 [])] := by
  have hb : growB n = true := by
    have := (List.all_eq_true.1 growB_all) (n - 1) (by simp; omega)
    rwa [show n - 1 + 1 = n by omega] at this
  unfold growB at hb
  split at hb
  · rename_i hx
    refine Ans.keep ((spec_ex mixed tabGr_ok hx).mono fun v H' hv => ?_) (by simp) (by simp [go_sem]) (by simp [go_sem, Full])
    obtain ⟨rfl, X, rfl⟩ := hv
    exact kept_one 1 rfl (by simp only [go_sem]) rfl
  · cases hb
theorem Concat_run (a b : List Int) (h1 : 1 ≤ a.length + b.length) (h2 : a.length + b.length ≤ 100) : Ans Try.prog n_slices_Concat_int_int [tw [a, b]] [] (.sl 0 0 (a.length + b.length)) [some (.cells true 1 (ivL a ++ ivL b))] := by
  have kg := Grow_run h1 h2
  have w1 : IntKind.i64.wrap (0 + (a.length : Int)) = a.length := by rw [Int.zero_add]; exact w64 (by omega)
  have w2 : IntKind.i64.wrap ((a.length : Int) + b.length) = ((a.length + b.length : Nat) : Int) := by rw [w64 (by omega)]; omega
  have w3 : IntKind.i64.wrap 1 = 1 := by decide
  have w4 : IntKind.i64.wrap 2 = 2 := by decide
  have n1 : ¬ ((a.length : Int) < 0) := by omega
  have n2 : ¬ (((a.length + b.length : Nat) : Int) < 0) := by omega
  have z1 : a.length * 8 ≤ 2 ^ 44 := by omega
  have z2 : (a.length + b.length) * 8 ≤ 2 ^ 44 := by omega
  have t1 : ((1 : Int).toNat) = 1 := rfl
  have t0 : ((0 : Int).toNat) = 0 := rfl
  refine spec_run e_slices_Concat_int_int fun G => ?_
  simp only [go_sem, tw, vw, List.map_cons, List.map_nil]
  refine loop_body 3000 k_slices_Concat_int_int_r9.eq_1 ?_
  simp only [go_sem, w1, w2, w3, w4, n1, n2, t0, t1, List.length_map]
  refine loop_body 3000 k_slices_Concat_int_int_r9.eq_1 ?_
  simp only [go_sem, w1, w2, w3, w4, n1, n2, t0, t1, List.length_map]
  refine loop_body 3000 k_slices_Concat_int_int_r9.eq_1 ?_
  simp only [go_sem, w1, w2, w3, w4, n1, n2, t0, t1, List.length_map]
  refine cN1 kg ?_
  simp only [go_sem, w1, w2, w3, w4, n1, n2, t0, t1, List.length_map, ren]
  refine loop_body 3000 k_slices_Concat_int_int_r16.eq_1 ?_
  simp only [go_sem, w1, w2, w3, w4, n1, n2, t0, t1, List.length_map, z1, z2]
  refine loop_body 3000 k_slices_Concat_int_int_r16.eq_1 ?_
  simp only [go_sem, w1, w2, w3, w4, n1, n2, t0, t1, List.length_map, z1, z2]
  refine loop_body 3000 k_slices_Concat_int_int_r16.eq_1 ?_
  simp only [go_sem, w1, w2, w3, w4, n1, n2, t0, t1, List.length_map, z1, z2]
  exact ⟨[], rfl⟩
end Go.Proofs

namespace Go.Proofs
open Go Go.Sx Go.Fam
attribute [local irreducible] Run

theorem cells_more {H : Heap} {j : Nat} {r : Bool × Nat × List AVal} (h : H.cellsAt j = some r) (Y : Heap) : (H ++ Y).cellsAt j = some r := by
  unfold Heap.cellsAt at *
  rcases hj : H[j]? with _ | _ | x
  · rw [hj] at h; simp at h
  · rw [hj] at h; simp at h
  · rw [List.getElem?_append_left (List.getElem?_eq_some_iff.1 hj).1, hj]
    rw [hj] at h
    exact h
theorem put_more {H : Heap} {j : Nat} (h : j < H.length) (Y : Heap) (x : Row) : Heap.put (H ++ Y) j x = H.set j (some x) ++ Y := by
  rw [put_lt (by simp; omega), List.set_append_left _ _ h]

def ofT (f : Rg → Int) (l : Lw) (g p : List Int) : List (List Int) := g.map fun x => p.map fun y => f (curOf l x y)
def ofF (l : Lw) (g p : List Int) : Fa := ⟨g, p, ofT Rg.lo l g p, ofT Rg.hi l g p⟩
def rowT (f : Rg → Int) (l : Lw) (x : Int) (p : List Int) : List Int := p.map fun y => f (curOf l x y)
def oF (a : Nat) : Prop := a = 0 ∨ a = 1 ∨ a = 4
structure OfH (l : Lw) (J : Heap) (v0 v1 v2 v3 : AVal) : Prop where
  r0 : J[0]? = some (some (.cells false 10 [l.v]))
  r1 : J[1]? = some (some (.cells false 4 [.agg [.nilsl, .nilsl, .nilsl, .nilsl]]))
  r4 : J[4]? = some (some (.cells false 4 [.agg [v0, v1, v2, v3]]))
theorem OfH.mono {l : Lw} {J J' : Heap} {v0 v1 v2 v3 : AVal} (h : OfH l J v0 v1 v2 v3) (hJ : ∀ q, oF q → q < J.length → J'[q]? = J[q]?) : OfH l J' v0 v1 v2 v3 :=
  ⟨by rw [hJ 0 (by simp [oF]) (List.getElem?_eq_some_iff.1 h.r0).1]; exact h.r0, by rw [hJ 1 (by simp [oF]) (List.getElem?_eq_some_iff.1 h.r1).1]; exact h.r1, by rw [hJ 4 (by simp [oF]) (List.getElem?_eq_some_iff.1 h.r4).1]; exact h.r4⟩
theorem get_new {A Y : Heap} {n i : Nat} (h : A.length = n) : (A ++ Y)[n + i]? = Y[i]? := by rw [List.getElem?_append_right (by omega), h, Nat.add_sub_cancel_left]
theorem two_off {J Y : Heap} {r s q : Nat} {A B : Option Row} (h : q < J.length) (h1 : q ≠ r) (h2 : q ≠ s) : ((J.set r A).set s B ++ Y)[q]? = J[q]? := by
  rw [List.getElem?_append_left (by simpa using h), List.getElem?_set_ne (fun e => h2 e.symm), List.getElem?_set_ne (fun e => h1 e.symm)]
theorem two_r {J Y : Heap} {r s : Nat} {A B : Option Row} (h : r < J.length) (h1 : r ≠ s) : ((J.set r A).set s B ++ Y)[r]? = some A := by
  rw [List.getElem?_append_left (by simpa using h), List.getElem?_set_ne (fun e => h1 e.symm), List.getElem?_set_self h]
theorem two_s {J Y : Heap} {r s : Nat} {A B : Option Row} (h : s < J.length) : ((J.set r A).set s B ++ Y)[s]? = some B := by
  rw [List.getElem?_append_left (by simpa using h), List.getElem?_set_self (by simpa using h)]
theorem fv_pure {f : Fa} (h0 : f.g ≠ []) (h1 : f.p ≠ []) (h2 : f.lo ≠ []) (h3 : f.hi ≠ []) (h4 : ∀ r ∈ f.lo, r ≠ []) (h5 : ∀ r ∈ f.hi, r ≠ []) : Pure 6 (Fv f) := by
  have iv : ∀ (d : Nat) (l : List Int), l ≠ [] → Pure (d + 2) (vw l) := fun d l hl => ⟨by simpa using hl, fun e he => by obtain ⟨x, _, rfl⟩ := List.mem_map.1 he; rfl⟩
  have tv : ∀ (t : List (List Int)), t ≠ [] → (∀ r ∈ t, r ≠ []) → Pure 5 (tw t) := fun t ht hr => ⟨by simpa using ht, fun e he => by obtain ⟨x, hx, rfl⟩ := List.mem_map.1 he; exact iv _ x (hr x hx)⟩
  intro e he
  simp only [Fcs, List.mem_cons, List.not_mem_nil, or_false] at he
  rcases he with rfl | rfl | rfl | rfl
  · exact iv _ _ h0
  · exact iv _ _ h1
  · exact tv _ h2 h4
  · exact tv _ h3 h5
theorem ofF_pure (l : Lw) {g p : List Int} (g0 : g ≠ []) (p0 : p ≠ []) : Pure 6 (Fv (ofF l g p)) := by
  have r0 : ∀ f : Rg → Int, ofT f l g p ≠ [] := fun f e => g0 (by unfold ofT at e; simpa using e)
  have r1 : ∀ f : Rg → Int, ∀ r ∈ ofT f l g p, r ≠ [] := fun f r hr e => by
    obtain ⟨x, _, rfl⟩ := List.mem_map.1 hr
    exact p0 (by simpa using e)
  exact fv_pure g0 p0 (r0 _) (r0 _) (r1 _) (r1 _)
def ofC (l : Lw) (g p : List Int) : AVal := .tup [Fv (ofF l g p), .int .i64 0]
theorem ofC_pure (l : Lw) {g p : List Int} (g0 : g ≠ []) (p0 : p ≠ []) : Pure 7 (ofC l g p) := by
  intro e he
  simp only [List.mem_cons, List.not_mem_nil, or_false] at he
  rcases he with rfl | rfl
  · exact ofF_pure l g0 p0
  · rfl
end Go.Proofs

namespace Go.Proofs
open Go Go.Sx Go.Fam
attribute [local irreducible] Run

section
variable {P : Program} {G : Ctx} {g : FuncId} {args : List AVal} {H : Heap} {k : Nat} {R : Runner} {l : List AOper} {fs : List Sx.Frame} {ρ : List AVal} {ms : List Nat} {Q : Goal} {dst : Option Nat} {x x' y : Row} {r : AVal} {j : Nat}
theorem cDN (h : Ans P g (.ptr 0 0 0 1 :: args) [some x] r [some x', some y]) (hK : R (.ops l) fs ⟨setD ρ dst (ren (fun _ => H.length) r), H.set j (some x') ++ [some y], ms⟩ Q) (hr : Bel (· = 1) r) (hj : H[j]? = some (some x) := by first | rfl | simp only [go_sem]) (hb : Bels (fun _ => False) args := by simp only [go_sem])
    (hx : x.bel (fun _ => False) := by simp only [go_sem]) (hx' : x'.bel (fun _ => False) := by simp only [go_sem]) (hy : y.bel (fun _ => False) := by simp only [go_sem])
    (hk : k ≤ H.length := by simp) (hms : ∀ q ∈ ms, q ≠ j ∧ H[q]? = some (some .dfr) := by simp) : CallR P G k R g (.ptr j 0 0 1 :: args) dst l fs ρ H ms Q :=
  callDN (Φ := fun _ : Unit => True) (r := fun _ => r) (x' := fun _ => x') (y := fun _ => y) (Ans.toE (a := ()) (r := fun _ : Unit => r) (L' := fun _ => [some x', some y]) h trivial) hj hb hx (fun _ _ => ⟨hr, hx', hy⟩) hk hms fun _ _ => hK
end

theorem thaw_ofC (l : Lw) (g p : List Int) (k : Nat) : thaw 7 k (ofC l g p) = (.tup [(thaw 6 k (Fv (ofF l g p))).1, .int .i64 0], (thaw 6 k (Fv (ofF l g p))).2) := by
  unfold ofC
  simp only [thaw, mapk, List.append_nil]
theorem thaw_fv (f : Fa) (k : Nat) : ∃ a b c d, (thaw 6 k (Fv f)).1 = .agg [.sl a 0 f.g.length, .sl b 0 f.p.length, .sl c 0 f.lo.length, .sl d 0 f.hi.length] := by
  unfold Fv Fcs vw tw
  simp only [thaw, mapk, List.length_map]
  exact ⟨_, _, _, _, rfl⟩

end Go.Proofs

namespace Go.Proofs
open Go Go.Sx Go.Fam
attribute [local irreducible] Run

def Bd1 (m : Int) (l : List Int) : Prop := ∀ x ∈ l, 0 ≤ x ∧ x ≤ m
theorem Bd1.at1 {m : Int} {l : List Int} (h : Bd1 m l) {i : Nat} (hi : i < l.length) : 0 ≤ Go.Fam.at1 l i ∧ Go.Fam.at1 l i ≤ m := by
  have := get_at hi
  exact h _ (List.mem_of_getElem? this)
theorem FS.g2 {F : Nat → Prop} {J : Heap} {g p : List Int} {L U : List (List Int)} {lo hi : List Int} {v0 v1 v2 v3 v4 v5 : AVal} {κ2 κ3 κ4 κ5 : List Nat} (h : FS F J g p L U lo hi v0 v1 v2 v3 v4 v5 [2] [3] κ2 κ3 κ4 κ5) : v0 = .sl 2 0 g.length ∧ v1 = .sl 3 0 p.length ∧ J[2]? = some (some (.cells true 1 (ivL g))) ∧ J[3]? = some (some (.cells true 1 (ivL p))) := by
  obtain ⟨_, a, e1, e2, e3⟩ := vw_get h.d0
  obtain ⟨_, b, e4, e5, e6⟩ := vw_get h.d1
  obtain rfl : 2 = a := by simpa using e2
  obtain rfl : 3 = b := by simpa using e5
  exact ⟨e1, e4, e3, e6⟩
theorem Bd1.snoc {m x : Int} {l : List Int} (h : Bd1 m l) (hx : 0 ≤ x ∧ x ≤ m) : Bd1 m (l ++ [x]) := fun y hy => by
  rcases List.mem_append.1 hy with hy | hy
  · exact h y hy
  · obtain rfl : y = x := by simpa using hy
    exact hx
end Go.Proofs

namespace Go.Proofs
open Go Go.Sx Go.Fam
attribute [local irreducible] Run

end Go.Proofs

namespace Go.Proofs
open Go Go.Sx Go.Fam

end Go.Proofs

namespace Go.Proofs
open Go Go.Sx Go.Fam
attribute [local irreducible] Run

end Go.Proofs

namespace Go.Proofs
open Go Go.Sx Go.Fam
attribute [local irreducible] Run

end Go.Proofs

namespace Go.Proofs
open Go Go.Sx Go.Fam
attribute [local irreducible] Run

def chkR : List (Rg × Int × Int) → Int
  | [] => 0
  | (r, a, b) :: t => if r.hi < r.lo then 11 else if r.lo < a ∨ b < r.hi then 2 else chkR t
theorem chkR_order {r : Rg} {a b : Int} {t : List (Rg × Int × Int)} (h : r.hi < r.lo) : chkR ((r, a, b) :: t) = 11 := by unfold chkR; rw [if_pos h]
theorem chkR_range {r : Rg} {a b : Int} {t : List (Rg × Int × Int)} (h : ¬ r.hi < r.lo) (h2 : r.lo < a ∨ b < r.hi) : chkR ((r, a, b) :: t) = 2 := by unfold chkR; rw [if_neg h, if_pos h2]
theorem chkR_next {r : Rg} {a b : Int} {t : List (Rg × Int × Int)} (h : ¬ r.hi < r.lo) (h1 : ¬ r.lo < a) (h2 : ¬ b < r.hi) : chkR ((r, a, b) :: t) = chkR t := by
  show (if r.hi < r.lo then 11 else if r.lo < a ∨ b < r.hi then 2 else chkR t) = chkR t
  rw [if_neg h, if_neg (by omega)]
def lawE (l : Lw) : Int := chkR [(l.perv, 0, 1000000), (l.gain, 1, 1000000), (l.shift, -1000000, 1000000), (l.full, 0, 1000000), (l.part, 0, 1000000)]
theorem lawE_of {l : Lw} (h : LwOK l) : lawE l = 0 := by
  obtain ⟨a0, a1, a2, a3, a4⟩ := h
  unfold lawE
  rw [chkR_next (by omega) (by omega) (by omega), chkR_next (by omega) (by omega) (by omega), chkR_next (by omega) (by omega) (by omega), chkR_next (by omega) (by omega) (by omega), chkR_next (by omega) (by omega) (by omega)]
  rfl

set_option maxRecDepth 20000 in
theorem checkLaw_raw (l : Lw) : Ans Try.prog n_curve_CheckLaw [l.v] [] (.int .i64 (lawE l)) [] := by
  obtain ⟨R, hR⟩ : ∃ R, lawE l = R := ⟨_, rfl⟩
  rw [hR]
  unfold lawE at hR
  have u1 : IntKind.i64.wrap 1 = 1 := rfl
  have u2 : IntKind.i64.wrap 2 = 2 := rfl
  have u3 : IntKind.i64.wrap 3 = 3 := rfl
  have u4 : IntKind.i64.wrap 4 = 4 := rfl
  have u5 : IntKind.i64.wrap 5 = 5 := rfl
  refine spec_run e_curve_CheckLaw fun G => ?_
  simp only [go_sem, Lw.v, Lw.cs]
  refine loop_body 200 k_curve_CheckLaw_r10.eq_1 ?_
  by_cases o0 : l.perv.hi < l.perv.lo
  · rw [chkR_order o0] at hR; subst hR
    simp only [go_sem, o0]
  by_cases p0 : l.perv.lo < 0
  · rw [chkR_range o0 (.inl p0)] at hR; subst hR
    simp only [go_sem, o0, p0]
  by_cases q0 : 1000000 < l.perv.hi
  · rw [chkR_range o0 (.inr q0)] at hR; subst hR
    simp only [go_sem, o0, p0, q0]
  rw [chkR_next o0 p0 q0] at hR
  simp only [go_sem, o0, p0, q0, u1]
  refine loop_body 200 k_curve_CheckLaw_r10.eq_1 ?_
  by_cases o1 : l.gain.hi < l.gain.lo
  · rw [chkR_order o1] at hR; subst hR
    simp only [go_sem, o1]
  by_cases p1 : l.gain.lo < 1
  · rw [chkR_range o1 (.inl p1)] at hR; subst hR
    simp only [go_sem, o1, p1]
  by_cases q1 : 1000000 < l.gain.hi
  · rw [chkR_range o1 (.inr q1)] at hR; subst hR
    simp only [go_sem, o1, p1, q1]
  rw [chkR_next o1 p1 q1] at hR
  simp only [go_sem, o1, p1, q1, u2]
  refine loop_body 200 k_curve_CheckLaw_r10.eq_1 ?_
  by_cases o2 : l.shift.hi < l.shift.lo
  · rw [chkR_order o2] at hR; subst hR
    simp only [go_sem, o2]
  by_cases p2 : l.shift.lo < -1000000
  · rw [chkR_range o2 (.inl p2)] at hR; subst hR
    simp only [go_sem, o2, p2]
  by_cases q2 : 1000000 < l.shift.hi
  · rw [chkR_range o2 (.inr q2)] at hR; subst hR
    simp only [go_sem, o2, p2, q2]
  rw [chkR_next o2 p2 q2] at hR
  simp only [go_sem, o2, p2, q2, u3]
  refine loop_body 200 k_curve_CheckLaw_r10.eq_1 ?_
  by_cases o3 : l.full.hi < l.full.lo
  · rw [chkR_order o3] at hR; subst hR
    simp only [go_sem, o3]
  by_cases p3 : l.full.lo < 0
  · rw [chkR_range o3 (.inl p3)] at hR; subst hR
    simp only [go_sem, o3, p3]
  by_cases q3 : 1000000 < l.full.hi
  · rw [chkR_range o3 (.inr q3)] at hR; subst hR
    simp only [go_sem, o3, p3, q3]
  rw [chkR_next o3 p3 q3] at hR
  simp only [go_sem, o3, p3, q3, u4]
  refine loop_body 200 k_curve_CheckLaw_r10.eq_1 ?_
  by_cases o4 : l.part.hi < l.part.lo
  · rw [chkR_order o4] at hR; subst hR
    simp only [go_sem, o4]
  by_cases p4 : l.part.lo < 0
  · rw [chkR_range o4 (.inl p4)] at hR; subst hR
    simp only [go_sem, o4, p4]
  by_cases q4 : 1000000 < l.part.hi
  · rw [chkR_range o4 (.inr q4)] at hR; subst hR
    simp only [go_sem, o4, p4, q4]
  rw [chkR_next o4 p4 q4] at hR
  simp only [go_sem, o4, p4, q4, u5]
  refine loop_body 200 k_curve_CheckLaw_r10.eq_1 ?_
  subst hR
  simp only [go_sem, chkR]

end Go.Proofs

namespace Go.Proofs
open Go Go.Sx Go.Fam
attribute [local irreducible] Run

def inV (g p : Int) : Prop := (-1000000 ≤ g ∧ g ≤ 1000000) ∧ 0 ≤ p ∧ p ≤ 1000000
instance (g p : Int) : Decidable (inV g p) := by unfold inV; infer_instance
end Go.Proofs

namespace Go.Proofs
open Go Go.Sx Go.Fam
attribute [local irreducible] Run

def cellOK (l : List Int) (c : Int) : Prop := 0 ≤ c ∧ c ≤ (l.length : Int) - 2
instance (l : List Int) (c : Int) : Decidable (cellOK l c) := by unfold cellOK; infer_instance
end Go.Proofs

namespace Go.Proofs
open Go Go.Sx Go.Fam
attribute [local irreducible] Run

def hl (a b : Rg) : Rg := ⟨if b.lo < a.lo then b.lo else a.lo, if b.hi > a.hi then b.hi else a.hi⟩
end Go.Proofs

namespace Go.Proofs
open Go Go.Sx Go.Fam

structure InF (t f : Fa) : Prop where
  g : t.g = f.g
  p : t.p = f.p
  inn : ∀ i k, i < f.g.length → k < f.p.length → tg f.lo i k ≤ tg t.lo i k ∧ tg t.hi i k ≤ tg f.hi i k
end Go.Proofs

namespace Go.Proofs
open Go Go.Sx Go.Fam

def Nx (q x : Int × Int) : Prop := q.1 ≤ x.1 ∧ q.2 ≤ x.2
structure RowI (E : Nat → Nat → Int × Int → Prop) (i : Nat) (U : Option (List Int × List Int)) (lo hi : List Int) : Prop where
  len : hi.length = lo.length
  e : ∀ j, j < lo.length → E i j (at1 lo j, at1 hi j)
  u : ∀ j q, j < lo.length → upOf U j = some q → Nx q (at1 lo j, at1 hi j)
  r : ∀ j, j + 1 < lo.length → Nx (at1 lo j, at1 hi j) (at1 lo (j + 1), at1 hi (j + 1))
theorem at1_lt {l : List Int} {x : Int} {j : Nat} (h : j < l.length) : at1 (l ++ [x]) j = at1 l j := by
  unfold at1; rw [List.getD_eq_getElem?_getD, List.getD_eq_getElem?_getD, List.getElem?_append_left h]
theorem at1_last {l : List Int} {x : Int} {j : Nat} (h : j = l.length) : at1 (l ++ [x]) j = x := by
  unfold at1; rw [List.getD_eq_getElem?_getD, h, List.getElem?_append_right (Nat.le_refl _)]; simp
theorem RowI.snoc {E : Nat → Nat → Int × Int → Prop} {i : Nat} {U : Option (List Int × List Int)} {lo hi : List Int} {x y : Int} (h : RowI E i U lo hi) (he : E i lo.length (x, y)) (hu : ∀ q, upOf U lo.length = some q → Nx q (x, y)) (hl : ∀ q, prevOf lo hi = some q → Nx q (x, y)) : RowI E i U (lo ++ [x]) (hi ++ [y]) := by
  have hn := h.len
  have lt : ∀ {j}, j < lo.length → at1 (lo ++ [x]) j = at1 lo j ∧ at1 (hi ++ [y]) j = at1 hi j := fun hj => ⟨at1_lt hj, at1_lt (by omega)⟩
  have la : ∀ {j}, j = lo.length → at1 (lo ++ [x]) j = x ∧ at1 (hi ++ [y]) j = y := fun hj => ⟨at1_last hj, at1_last (by omega)⟩
  refine ⟨by simp [hn], fun j hj => ?_, fun j q hj hq => ?_, fun j hj => ?_⟩ <;> simp only [List.length_append, List.length_singleton] at hj
  · by_cases c : j < lo.length
    · rw [(lt c).1, (lt c).2]; exact h.e j c
    · obtain rfl : j = lo.length := by omega
      rw [(la rfl).1, (la rfl).2]; exact he
  · by_cases c : j < lo.length
    · rw [(lt c).1, (lt c).2]; exact h.u j q c hq
    · obtain rfl : j = lo.length := by omega
      rw [(la rfl).1, (la rfl).2]; exact hu q hq
  · by_cases c : j + 1 < lo.length
    · rw [(lt c).1, (lt c).2, (lt (j := j) (by omega)).1, (lt (j := j) (by omega)).2]; exact h.r j c
    · have c' : j + 1 = lo.length := by omega
      rw [(la c').1, (la c').2, (lt (j := j) (by omega)).1, (lt (j := j) (by omega)).2]
      refine hl _ ?_
      unfold prevOf
      rw [if_neg (by omega), ← c', Nat.add_sub_cancel]
structure TabI (E : Nat → Nat → Int × Int → Prop) (N : Nat) (L H : List (List Int)) : Prop where
  len : H.length = L.length
  l : ∀ r ∈ L, r.length = N
  h : ∀ r ∈ H, r.length = N
  e : ∀ i k, i < L.length → k < N → E i k (tg L i k, tg H i k)
  r : ∀ i k, i < L.length → k + 1 < N → Nx (tg L i k, tg H i k) (tg L i (k + 1), tg H i (k + 1))
  u : ∀ i k, i + 1 < L.length → k < N → Nx (tg L i k, tg H i k) (tg L (i + 1) k, tg H (i + 1) k)
theorem tg_lt {t : List (List Int)} {r : List Int} {i k : Nat} (h : i < t.length) : tg (t ++ [r]) i k = tg t i k := by
  unfold tg; rw [List.getD_eq_getElem?_getD (l := t ++ [r]), List.getElem?_append_left h, ← List.getD_eq_getElem?_getD]
theorem tg_last {t : List (List Int)} {r : List Int} {i k : Nat} (h : i = t.length) : tg (t ++ [r]) i k = at1 r k := by
  unfold tg at1; rw [List.getD_eq_getElem?_getD (l := t ++ [r]), h, List.getElem?_append_right (Nat.le_refl _)]; simp
theorem TabI.snoc {E : Nat → Nat → Int × Int → Prop} {N : Nat} {L H : List (List Int)} {lo hi : List Int} (h : TabI E N L H) (hr : RowI E L.length (lastOf L H) lo hi) (hn : lo.length = N) : TabI E N (L ++ [lo]) (H ++ [hi]) := by
  have hl := h.len
  have lt : ∀ {i k}, i < L.length → tg (L ++ [lo]) i k = tg L i k ∧ tg (H ++ [hi]) i k = tg H i k := fun hi => ⟨tg_lt hi, tg_lt (by omega)⟩
  have la : ∀ {i k}, i = L.length → tg (L ++ [lo]) i k = at1 lo k ∧ tg (H ++ [hi]) i k = at1 hi k := fun hi => ⟨tg_last hi, tg_last (by omega)⟩
  have hh := hr.len
  refine ⟨by simp [hl], fun r hr => ?_, fun r hr => ?_, fun i k h1 h2 => ?_, fun i k h1 h2 => ?_, fun i k h1 h2 => ?_⟩
  · rcases List.mem_append.1 hr with h' | h'
    · exact h.l r h'
    · obtain rfl : r = lo := by simpa using h'
      exact hn
  · rcases List.mem_append.1 hr with h' | h'
    · exact h.h r h'
    · obtain rfl : r = hi := by simpa using h'
      omega
  all_goals simp only [List.length_append, List.length_singleton] at h1
  · by_cases c : i < L.length
    · rw [(lt c).1, (lt c).2]; exact h.e i k c h2
    · have c' : i = L.length := by omega
      rw [(la c').1, (la c').2, c']; exact hr.e k (by omega)
  · by_cases c : i < L.length
    · rw [(lt c).1, (lt c).2, (lt c).1, (lt c).2]; exact h.r i k c h2
    · have c' : i = L.length := by omega
      rw [(la c').1, (la c').2, (la c').1, (la c').2]; exact hr.r k (by omega)
  · by_cases c : i + 1 < L.length
    · rw [(lt c).1, (lt c).2, (lt (by omega)).1, (lt (by omega)).2]; exact h.u i k c h2
    · have c' : i + 1 = L.length := by omega
      rw [(la c').1, (la c').2, (lt (by omega)).1, (lt (by omega)).2]
      refine hr.u k _ (by omega) ?_
      unfold lastOf upOf
      rw [if_neg (by omega), ← c', Nat.add_sub_cancel]; rfl
theorem curOf_in {l : Lw} (h : LwOK l) (g p : Int) : 0 ≤ (curOf l g p).lo ∧ (curOf l g p).hi ≤ 1000000 := by
  have hp := h.part
  have hf := h.full
  have hv := h.perv
  have hd0 := (bnd_in (g + l.shift.lo + (1000 * p) / l.gain.hi)).1
  constructor
  · show 0 ≤ curLo l (driveOf l g p)
    unfold curLo
    refine Int.ediv_nonneg (Int.mul_nonneg hp.1 ?_) (by decide)
    have hs : 0 ≤ spaceLo l (driveOf l g p) := Int.ediv_nonneg (Int.mul_nonneg hv.1 (root_ok (Int.mul_nonneg (Int.mul_nonneg hd0 hd0) hd0)).1) (by decide)
    exact (mn_in hs hf.1).1
  · show curHi l (driveOf l g p) ≤ 1000000
    unfold curHi
    have hm : mn (spaceHi l (driveOf l g p)) l.full.hi ≤ 1000000 := by unfold mn; split <;> omega
    have h1 : l.part.hi * mn (spaceHi l (driveOf l g p)) l.full.hi ≤ 1000000 * 1000000 := by
      by_cases c : 0 ≤ mn (spaceHi l (driveOf l g p)) l.full.hi
      · exact Int.mul_le_mul hp.2.2 hm c (by decide)
      · have := Int.mul_nonpos_of_nonneg_of_nonpos (a := l.part.hi) (b := mn (spaceHi l (driveOf l g p)) l.full.hi) (by omega) (by omega)
        omega
    unfold rup
    omega
theorem ofF_ok {l : Lw} (hl : LwOK l) {g p : List Int} (hg : Asc (-1000000) g) (hp : Asc 0 p) : FaOK (ofF l g p) := by
  have tgE : ∀ (f : Rg → Int) i k, i < g.length → k < p.length → tg (ofT f l g p) i k = f (curOf l (at1 g i) (at1 p k)) := fun f i k h1 h2 => by
    unfold tg ofT at1
    simp only [List.getD_eq_getElem?_getD, List.getElem?_map, List.getElem?_eq_getElem h1, Option.map_some, Option.getD_some, List.getElem?_eq_getElem h2]
  have R := fun i k b (hp' : 0 ≤ at1 p k) (hb : 0 ≤ b) => rises hl (g := at1 g i) (p := at1 p k) (b := b) hp' hb
  have P := fun k (hk : k < p.length) => (hp.inn k hk).1
  refine ⟨hg, hp, by simp [ofF, ofT], by simp [ofF, ofT], ?_, ?_, ?_, ?_, ?_⟩
  · intro r hr
    obtain ⟨x, _, rfl⟩ := List.mem_map.1 hr; simp [ofF]
  · intro r hr
    obtain ⟨x, _, rfl⟩ := List.mem_map.1 hr; simp [ofF]
  · intro i k h1 h2
    have := R i k 0 (P k h2) (Int.le_refl _)
    have d0 := curOf_in hl (at1 g i) (at1 p k)
    show 0 ≤ tg (ofT Rg.lo l g p) i k ∧ tg (ofT Rg.lo l g p) i k ≤ tg (ofT Rg.hi l g p) i k ∧ tg (ofT Rg.hi l g p) i k ≤ 1000000
    rw [tgE _ _ _ h1 h2, tgE _ _ _ h1 h2]
    omega
  · intro i k h1 h2
    have := R i k (at1 p (k + 1) - at1 p k) (P k (by dsimp only [ofF] at h2; omega)) (by have := hp.asc k h2; omega)
    show tg (ofT Rg.lo l g p) i k ≤ tg (ofT Rg.lo l g p) i (k + 1) ∧ tg (ofT Rg.hi l g p) i k ≤ tg (ofT Rg.hi l g p) i (k + 1)
    have h3 : k < p.length := by dsimp only [ofF] at h2; omega
    rw [tgE _ _ _ h1 h2, tgE _ _ _ h1 h2, tgE _ _ _ h1 h3, tgE _ _ _ h1 h3]
    rw [show at1 p k + (at1 p (k + 1) - at1 p k) = at1 p (k + 1) by omega] at this
    omega
  · intro i k h1 h2
    have := rises hl (g := at1 g i) (p := at1 p k) (b := at1 g (i + 1) - at1 g i) (P k h2) (by have := hg.asc i h1; omega)
    show tg (ofT Rg.lo l g p) i k ≤ tg (ofT Rg.lo l g p) (i + 1) k ∧ tg (ofT Rg.hi l g p) i k ≤ tg (ofT Rg.hi l g p) (i + 1) k
    have h3 : i < g.length := by dsimp only [ofF] at h1; omega
    rw [tgE _ _ _ h1 h2, tgE _ _ _ h1 h2, tgE _ _ _ h3 h2, tgE _ _ _ h3 h2]
    rw [show at1 g i + (at1 g (i + 1) - at1 g i) = at1 g (i + 1) by omega] at this
    omega
end Go.Proofs

namespace Go.Proofs
open Go Go.Sx Go.Fam
attribute [local irreducible] Run

def loB (f t : Fa) (x y a b : Sp) : Bool := decide (vN t.lo a b * (x.whole * y.whole) < vN f.lo x y * (a.whole * b.whole))
def hiB (f t : Fa) (x y a b : Sp) : Bool := decide (vN f.hi x y * (a.whole * b.whole) < vN t.hi a b * (x.whole * y.whole))
def inAt (f t : Fa) (g p : Int) : Bool := !loB f t (spot f.g g) (spot f.p p) (spot t.g g) (spot t.p p) && !hiB f t (spot f.g g) (spot f.p p) (spot t.g g) (spot t.p p)

theorem vN_in {m n : Nat} {t : List (List Int)} {x y : Sp} (hS : Small m n t) (hx : SpOK m 2000000 x) (hy : SpOK n 1000000 y) : 0 ≤ vN t x y ∧ vN t x y ≤ 4000000000000000000 := by
  have := pacc_in hS hx hy (q := 4) (by omega)
  rw [pacc_all] at this
  omega
set_option maxHeartbeats 4000000 in
set_option maxRecDepth 20000 in
theorem insideAt_run {f t : Fa} (hf : FaOK f) (ht : FaOK t) {g p : Int} (hg : -1000000 ≤ g ∧ g ≤ 1000000) (hp : 0 ≤ p ∧ p ≤ 1000000) : Ans Try.prog n_curve_insideAt [Fv f, Fv t, .int .i64 g, .int .i64 p] [] (.bool (inAt f t g p)) [] := by
  obtain ⟨tL, tH, sL, sH⟩ := hf.tabs
  obtain ⟨uL, uH, rL, rH⟩ := ht.tabs
  have fg := hf.g.most
  have fp := hf.p.most
  have tg := ht.g.most
  have tp := ht.p.most
  have k1 := spotOf_run (a := -1000000) (by omega) hf.g (v := g) hg
  have k2 := spotOf_run (a := 0) (by omega) hf.p (v := p) (by omega)
  have k3 := spotOf_run (a := -1000000) (by omega) ht.g (v := g) hg
  have k4 := spotOf_run (a := 0) (by omega) ht.p (v := p) (by omega)
  have h1 : SpOK f.g.length 2000000 (spot f.g g) := spot_ok hf.g (by omega)
  have h2 : SpOK f.p.length 1000000 (spot f.p p) := spot_ok hf.p (by omega)
  have h3 : SpOK t.g.length 2000000 (spot t.g g) := spot_ok ht.g (by omega)
  have h4 : SpOK t.p.length 1000000 (spot t.p p) := spot_ok ht.p (by omega)
  unfold inAt
  generalize spot f.g g = x at *
  generalize spot f.p p = y at *
  generalize spot t.g g = a at *
  generalize spot t.p p = b at *
  have v1 := value_run uL rL (by omega) h3 h4
  have v2 := value_run tL sL (by omega) h1 h2
  have v3 := value_run tH sH (by omega) h1 h2
  have v4 := value_run uH rH (by omega) h3 h4
  have c1 := vN_in rL h3 h4
  have c2 := vN_in sL h1 h2
  have c3 := vN_in sH h1 h2
  have c4 := vN_in rH h3 h4
  have W : ∀ {m n : Nat} {s q : Sp}, SpOK m 2000000 s → SpOK n 1000000 q → 0 ≤ s.whole * q.whole ∧ s.whole * q.whole ≤ 2000000 * 1000000 := fun {m n s q} hs hq => ⟨Int.mul_nonneg (by have := hs.part; omega) (by have := hq.part; omega), Int.mul_le_mul hs.whole hq.whole (by have := hq.part; omega) (by omega)⟩
  have w1 := W h1 h2
  have w2 := W h3 h4
  have l1 := less_run (vN t.lo a b) (a.whole * b.whole) (vN f.lo x y) (x.whole * y.whole) (by omega) (by omega) (by omega) (by omega)
  have l2 := less_run (vN f.hi x y) (x.whole * y.whole) (vN t.hi a b) (a.whole * b.whole) (by omega) (by omega) (by omega) (by omega)
  have e1 : decide (vN t.lo a b * (x.whole * y.whole) < vN f.lo x y * (a.whole * b.whole)) = loB f t x y a b := rfl
  have e2 : decide (vN f.hi x y * (a.whole * b.whole) < vN t.hi a b * (x.whole * y.whole)) = hiB f t x y a b := rfl
  rw [e1] at l1
  rw [e2] at l2
  generalize loB f t x y a b = B1 at *
  generalize hiB f t x y a b = B2 at *
  simp only [Sv, vw, tw] at k1 k2 k3 k4 v1 v2 v3 v4
  refine spec_run e_curve_insideAt fun G => ?_
  simp only [go_sem, Fv, Fcs, vw, tw]
  refine dP k1 ?_
  simp only [go_sem, vw]
  refine dP k2 ?_
  simp only [go_sem, vw]
  refine dP k3 ?_
  simp only [go_sem, vw]
  refine dP k4 ?_
  simp only [go_sem, vw]
  refine dP v1 ?_
  simp only [go_sem, vw]
  refine cP v2 ?_
  simp only [go_sem, vw]
  refine cP l1 ?_
  simp only [go_sem, vw]
  cases B1
  · simp only [go_sem, vw]
    refine dP v3 ?_
    simp only [go_sem, vw]
    refine cP v4 ?_
    simp only [go_sem, vw]
    refine cP l2 ?_
    simp only [go_sem, vw]
  · simp only [go_sem, vw]
end Go.Proofs

namespace Go.Proofs
open Go Go.Sx Go.Fam
attribute [local irreducible] Run

def insB (f t : Fa) : Bool := decide (famE f = 0) && (decide (famE t = 0) && (f.g ++ t.g).all fun g => (f.p ++ t.p).all fun p => inAt f t g p)
theorem all_take {α : Type} {q : α → Bool} {l : List α} {i : Nat} (h : ∀ j x, j < i → l[j]? = some x → q x = true) (hi : l.length ≤ i) : l.all q = true := by
  rw [List.all_eq_true]
  intro x hx
  obtain ⟨j, hj⟩ := List.mem_iff_getElem?.1 hx
  exact h j x (by have := (List.getElem?_eq_some_iff.1 hj).1; omega) hj
theorem all_not {α : Type} {q : α → Bool} {l : List α} {i : Nat} {x : α} (h : l[i]? = some x) (hq : q x = false) : l.all q = false := by
  rw [Bool.eq_false_iff]
  intro h2
  rw [List.all_eq_true] at h2
  rw [h2 x (List.mem_of_getElem? h)] at hq; cases hq
theorem in_lines {a : Int} {l k : List Int} (h1 : Asc a l) (h2 : Asc a k) {x : Int} {i : Nat} (h : (l ++ k)[i]? = some x) : a ≤ x ∧ x ≤ 1000000 := by
  have : ∀ {l : List Int}, Asc a l → x ∈ l → a ≤ x ∧ x ≤ 1000000 := fun {l} hl hx => by
    obtain ⟨j, hj⟩ := List.mem_iff_getElem?.1 hx
    have hlt := (List.getElem?_eq_some_iff.1 hj).1
    have := hl.inn j hlt
    rw [get_at hlt] at hj
    cases hj; exact this
  rcases List.mem_append.1 (List.mem_of_getElem? h) with hx | hx
  · exact this h1 hx
  · exact this h2 hx
def iT (n : Nat) : List (Nat × AVal) := [(2, .ptr 0 0 0 1), (3, .ptr 1 0 0 1), (22, .sl 3 0 n), (23, .int .i64 n)]
structure InH (f t : Fa) (J : Heap) : Prop where
  r0 : J[0]? = some (some (.cells false 4 [Fv f]))
  r1 : J[1]? = some (some (.cells false 4 [Fv t]))
  r3 : J[3]? = some (some (.cells true 1 (ivL f.g ++ ivL t.g)))
theorem InH.more {f t : Fa} {J : Heap} (h : InH f t J) (Y : Heap) : InH f t (J ++ Y) := by
  have l0 := (List.getElem?_eq_some_iff.1 h.r0).1
  have l1 := (List.getElem?_eq_some_iff.1 h.r1).1
  have l3 := (List.getElem?_eq_some_iff.1 h.r3).1
  exact ⟨by rw [List.getElem?_append_left l0]; exact h.r0, by rw [List.getElem?_append_left l1]; exact h.r1, by rw [List.getElem?_append_left l3]; exact h.r3⟩

set_option maxHeartbeats 4000000 in
set_option maxRecDepth 20000 in
theorem Inside_run (f t : Fa) (hg : f.g.length ≤ 1000000) (hp : f.p.length ≤ 1000000) (hl : f.lo.length ≤ 1000000) (hh : f.hi.length ≤ 1000000) (tg : t.g.length ≤ 1000000) (tp : t.p.length ≤ 1000000) (tl : t.lo.length ≤ 1000000) (th : t.hi.length ≤ 1000000) :
    Ans Try.prog n_curve_Inside [Fv f, Fv t] [] (.bool (insB f t)) [] := by
  have k1 := Check_run f hg hp hl hh
  have k2 := Check_run t tg tp tl th
  simp only [Fv, Fcs, vw, tw] at k1 k2
  refine spec_run e_curve_Inside fun G => ?_
  simp only [go_sem, Fv, Fcs, vw, tw]
  refine cP k1 ?_
  by_cases c1 : famE f = 0
  · rw [c1]
    simp only [go_sem]
    refine cP k2 ?_
    by_cases c2 : famE t = 0
    · rw [c2]
      have hf := fam_iff.1 c1
      have ht := fam_iff.1 c2
      have gp := hf.g.pos
      have gm := hf.g.most
      have pp := hf.p.pos
      have pm := hf.p.most
      have hgp := ht.g.pos
      have hgm := ht.g.most
      have hpp := ht.p.pos
      have hpm := ht.p.most
      have q1 := Concat_run f.g t.g (by omega) (by omega)
      have q2 := Concat_run f.p t.p (by omega) (by omega)
      have glen : (f.g ++ t.g).length = f.g.length + t.g.length := List.length_append
      have plen : (f.p ++ t.p).length = f.p.length + t.p.length := List.length_append
      have eB : insB f t = (f.g ++ t.g).all fun g => (f.p ++ t.p).all fun p => inAt f t g p := by unfold insB; rw [decide_eq_true c1, decide_eq_true c2]; simp
      rw [eB]
      clear eB
      simp only [go_sem]
      refine cFN q1 6 ⟨.inl (by rw [frz_sl (n := 2) (j := 2) (g := false) (sz := 1) (es := [vw f.g, vw t.g]) rfl rfl]; simp [frz, tw, vw, Function.comp_def]), trivial⟩ ?_ (hx := by rw [← List.map_append, rowi_bel]; trivial) (hxn := by rw [← List.map_append, rowi_nv]; trivial)
      simp only [go_sem, ren]
      refine loop_ind k_curve_Inside_r14.eq_1 (fun a : Nat × Heap => a.1 ≤ f.g.length + t.g.length ∧ InH f t a.2 ∧ ∀ j x, j < a.1 → (f.g ++ t.g)[j]? = some x → ((f.p ++ t.p).all fun p => inAt f t x p) = true) (fun a => f.g.length + t.g.length - a.1)
        (fun a => (tsets 47 (iT (f.g.length + t.g.length) ++ [(24, .int .i64 a.1)]), a.2)) (0, [some (.cells false 4 [Fv f]), some (.cells false 4 [Fv t]), some (.cells false 1 [vw f.g, vw t.g]), some (.cells true 1 (ivL f.g ++ ivL t.g))]) ⟨Nat.zero_le _, ⟨rfl, rfl, rfl⟩, fun j x h => by simp at h⟩ (by simp [go_sem, iT]) (by simp [Fv, Fcs, tw, vw]) ?_
      rintro ⟨i, J⟩ ⟨hi, hH, hAll⟩ ih
      dsimp only at hi hH hAll ih ⊢
      have d0 := cells_at hH.r0
      have d1 := cells_at hH.r1
      have d3 := cells_at hH.r3
      simp only [Fv, Fcs, vw, tw] at d0 d1
      by_cases h1 : i < f.g.length + t.g.length
      · have h2 : (i : Int) < ((f.g.length + t.g.length : Nat) : Int) := by omega
        have h3 := idx_next h1 (by omega)
        have m0 : ¬ (i : Int) < 0 := by omega
        obtain ⟨x, hx⟩ : ∃ x, (f.g ++ t.g)[i]? = some x := ⟨_, List.getElem?_eq_getElem (by omega)⟩
        have hx2 : (ivL f.g ++ ivL t.g)[i]? = some (.int .i64 x) := by rw [← List.map_append, List.getElem?_map, hx]; rfl
        have bx := in_lines hf.g ht.g hx
        have e3 := fun Y => cells_more d3 Y
        have e0 := fun Y => cells_more d0 Y
        have e1 := fun Y => cells_more d1 Y
        have hlt := (List.getElem?_eq_some_iff.1 hH.r3).1
        simp only [go_sem, iT, h2, m0, d0, d1, d3, hx2, Int.toNat_natCast, List.length_map]
        refine cFN q2 6 ⟨.inl (by rw [frz_sl (n := 2) (es := [vw f.p, vw t.p]) (H := J ++ [some (Row.cells false 1 [AVal.view (ivL f.p), AVal.view (ivL t.p)])]) (j := J.length) (by rw [List.getElem?_append_right (Nat.le_refl _), Nat.sub_self]; rfl) rfl]; simp [frz, tw, vw, Function.comp_def]), trivial⟩ ?_ (hx := by rw [← List.map_append, rowi_bel]; trivial) (hxn := by rw [← List.map_append, rowi_nv]; trivial)
        simp only [go_sem, ren]
        have hK : ∃ K, K = J ++ [some (Row.cells false 1 [AVal.view (ivL f.p), AVal.view (ivL t.p)]), some (Row.cells true 1 (ivL f.p ++ ivL t.p))] := ⟨_, rfl⟩
        obtain ⟨K, hK⟩ := hK
        have g0 := e0 [some (Row.cells false 1 [AVal.view (ivL f.p), AVal.view (ivL t.p)]), some (Row.cells true 1 (ivL f.p ++ ivL t.p))]
        have g1 := e1 [some (Row.cells false 1 [AVal.view (ivL f.p), AVal.view (ivL t.p)]), some (Row.cells true 1 (ivL f.p ++ ivL t.p))]
        rw [← hK] at g0 g1
        have g3 : Heap.cellsAt K (J.length + 1) = some (true, 1, ivL f.p ++ ivL t.p) := by rw [hK]; exact cells_at (by rw [get_new rfl]; rfl)
        have hK3 : InH f t K := by rw [hK]; exact hH.more _
        refine loop_ind k_curve_Inside_r12.eq_1 (fun k : Nat => k ≤ f.p.length + t.p.length ∧ ∀ j p, j < k → (f.p ++ t.p)[j]? = some p → inAt f t x p = true) (fun k => f.p.length + t.p.length - k)
          (fun k => (tsets 47 (iT (f.g.length + t.g.length) ++ [(6, .int .i64 x), (24, .int .i64 i), (33, .sl (J.length + 1) 0 (f.p.length + t.p.length)), (34, .int .i64 ((f.p.length + t.p.length : Nat) : Int)), (35, .int .i64 k)]), K)) 0 ⟨Nat.zero_le _, fun j p h => by omega⟩ (by simp [go_sem, iT]) hK.symm ?_
        rintro k ⟨hk, hAllk⟩ ihk
        dsimp only at hk hAllk ihk ⊢
        by_cases j1 : k < f.p.length + t.p.length
        · have j2 : (k : Int) < ((f.p.length + t.p.length : Nat) : Int) := by omega
          have j3 := idx_next j1 (by omega)
          have m1 : ¬ (k : Int) < 0 := by omega
          obtain ⟨y, hy⟩ : ∃ y, (f.p ++ t.p)[k]? = some y := ⟨_, List.getElem?_eq_getElem (by omega)⟩
          have hy2 : (ivL f.p ++ ivL t.p)[k]? = some (.int .i64 y) := by rw [← List.map_append, List.getElem?_map, hy]; rfl
          have byy := in_lines hf.p ht.p hy
          have ki := insideAt_run hf ht bx byy
          simp only [Fv, Fcs, vw, tw] at ki
          simp only [go_sem, iT, j2, m1, g0, g1, g3, hy2, Int.toNat_natCast, List.length_append, List.length_map]
          refine cP ki ?_
          cases hb : inAt f t x y
          · have hE : ((f.g ++ t.g).all fun g => (f.p ++ t.p).all fun p => inAt f t g p) = false := all_not hx (all_not hy hb)
            rw [hE]
            simp only [go_sem]
          · simp only [go_sem, j3]
            refine ihk (k + 1) (by omega) ⟨by omega, fun j p hj hp' => ?_⟩ _ (by simp [go_sem, iT])
            by_cases c : j < k
            · exact hAllk j p c hp'
            · obtain rfl : j = k := by omega
              rw [hy] at hp'; cases hp'; exact hb
        · have j2 : ¬ (k : Int) < ((f.p.length + t.p.length : Nat) : Int) := by omega
          simp only [go_sem, iT, j2, h3]
          refine ih (i + 1, K) (by omega) ⟨by omega, hK3, fun j z hj hz => ?_⟩ _ (by simp [go_sem, iT])
          by_cases c : j < i
          · exact hAll j z c hz
          · obtain rfl : j = i := by omega
            rw [hx] at hz; cases hz
            exact all_take hAllk (by omega)
      · have h2 : ¬ (i : Int) < ((f.g.length + t.g.length : Nat) : Int) := by omega
        have hB := all_take hAll (by omega)
        rw [hB]
        simp only [go_sem, iT, h2]
    · have b2 : (famE t == 0) = false := beq_eq_false_iff_ne.2 c2
      have eB : insB f t = false := by unfold insB; rw [decide_eq_false c2]; simp
      rw [eB]
      simp only [go_sem, bne, b2]
  · have b1 : (famE f == 0) = false := beq_eq_false_iff_ne.2 c1
    have eB : insB f t = false := by unfold insB; rw [decide_eq_false c1]; simp
    rw [eB]
    simp only [go_sem, bne, b1]
end Go.Proofs

namespace Go.Proofs
open Go Go.Sx Go.Fam

def lin (x : Sp) (φ : Nat → Int) : Int := (x.whole - x.part) * φ x.at_ + x.part * φ (x.at_ + 1)
theorem vN_lin (t : List (List Int)) (x y : Sp) : vN t x y = lin x fun i => lin y fun k => tg t i k := by
  unfold lin vN
  generalize x.whole - x.part = a
  generalize y.whole - y.part = b
  generalize x.part = c
  generalize y.part = d
  simp only [Int.mul_add, ← Int.mul_assoc]
  omega
theorem lin_mono {n : Nat} {M : Int} {x : Sp} (h : SpOK n M x) {φ ψ : Nat → Int} (hφ : ∀ i, i < n → φ i ≤ ψ i) : lin x φ ≤ lin x ψ := by
  obtain ⟨p0, p1⟩ := h.part
  unfold lin
  have a1 : (x.whole - x.part) * φ x.at_ ≤ (x.whole - x.part) * ψ x.at_ := Int.mul_le_mul_of_nonneg_left (hφ _ h.at_) (by omega)
  by_cases hp : 0 < x.part
  · have a2 : x.part * φ (x.at_ + 1) ≤ x.part * ψ (x.at_ + 1) := Int.mul_le_mul_of_nonneg_left (hφ _ (h.next hp)) (by omega)
    omega
  · have e : x.part = 0 := by omega
    rw [e] at a1 ⊢
    rw [Int.zero_mul, Int.zero_mul]
    omega
theorem sp_g {f : Fa} (hf : FaOK f) (g : Int) : SpOK f.g.length 2000000 (spot f.g g) := spot_ok hf.g (by omega)
theorem sp_p {f : Fa} (hf : FaOK f) (p : Int) : SpOK f.p.length 1000000 (spot f.p p) := spot_ok hf.p (by omega)
theorem vN_wn {f : Fa} {t : Fa} (hi : InF t f) {x y : Sp} (hx : SpOK f.g.length 2000000 x) (hy : SpOK f.p.length 1000000 y) : vN f.lo x y ≤ vN t.lo x y ∧ vN t.hi x y ≤ vN f.hi x y := by
  rw [vN_lin, vN_lin, vN_lin t.hi, vN_lin f.hi]
  exact ⟨lin_mono hx fun i h1 => lin_mono hy fun k h2 => (hi.inn i k h1 h2).1, lin_mono hx fun i h1 => lin_mono hy fun k h2 => (hi.inn i k h1 h2).2⟩
theorem in_wn {f : Fa} (hf : FaOK f) {t : Fa} (hi : InF t f) (g p : Int) : inAt f t g p = true := by
  have hx := sp_g hf g
  have hy := sp_p hf p
  unfold inAt loB hiB
  rw [hi.g, hi.p]
  generalize spot f.g g = x at *
  generalize spot f.p p = y at *
  have w1 : 0 < x.whole := by have := hx.part; omega
  have w3 : 0 < y.whole := by have := hy.part; omega
  obtain ⟨a, b⟩ := vN_wn hi hx hy
  have hw : 0 ≤ x.whole * y.whole := Int.le_of_lt (Int.mul_pos w1 w3)
  have a' := Int.mul_le_mul_of_nonneg_right a hw
  have b' := Int.mul_le_mul_of_nonneg_right b hw
  rw [decide_eq_false (by omega), decide_eq_false (by omega)]; rfl
theorem insB_wn {f : Fa} (hf : FaOK f) {t : Fa} (ht : FaOK t) (hi : InF t f) : insB f t = true := by
  unfold insB
  rw [decide_eq_true (fam_iff.2 hf), decide_eq_true (fam_iff.2 ht), Bool.true_and, Bool.true_and, List.all_eq_true]
  exact fun g _ => List.all_eq_true.2 fun p _ => in_wn hf hi g p
theorem spot_line {a : Int} {l : List Int} (h : Asc a l) {i : Nat} (hi : i < l.length) : (spot l (at1 l i)).at_ = i ∧ (spot l (at1 l i)).part = 0 ∧ 0 < (spot l (at1 l i)).whole := by
  have hc : cnt (at1 l i) l = i + 1 := cnt_eq h hi (fun j hj => h.le (by omega) hi) fun hlt => h.lt (by omega) hlt
  unfold spot
  rw [hc, if_neg (by omega)]
  by_cases c : i + 1 = l.length
  · rw [if_pos c]; exact ⟨by dsimp only; omega, rfl, Int.zero_lt_one⟩
  · rw [if_neg c]
    have := h.lt (i := i) (j := i + 1) (by omega) (by omega)
    exact ⟨by dsimp only; omega, by dsimp only; rw [Nat.add_sub_cancel]; omega, by dsimp only; rw [Nat.add_sub_cancel]; omega⟩
theorem vN_line {t : List (List Int)} {x y : Sp} (hx : x.part = 0) (hy : y.part = 0) : vN t x y = x.whole * y.whole * tg t x.at_ y.at_ := by
  unfold vN; rw [hx, hy]; simp
theorem at_line {f : Fa} (hf : FaOK f) {i k : Nat} (hi : i < f.g.length) (hk : k < f.p.length) : atV f (at1 f.g i) (at1 f.p k) = (tg f.lo i k, tg f.hi i k) := by
  obtain ⟨a1, a2, a3⟩ := spot_line hf.g hi
  obtain ⟨b1, b2, b3⟩ := spot_line hf.p hk
  have hw := Int.mul_pos a3 b3
  unfold atV atR
  rw [vN_line a2 b2, vN_line a2 b2, a1, b1]
  generalize (spot f.g (at1 f.g i)).whole * (spot f.p (at1 f.p k)).whole = D at *
  rw [cup_eq _ _ hw, ← Int.mul_neg, Int.mul_ediv_cancel_left _ (by omega), Int.mul_ediv_cancel_left _ (by omega)]
  simp
end Go.Proofs

namespace Go.Proofs
open Go Go.Sx Go.Fam
attribute [local irreducible] Run

def wF (a : Nat) : Prop := a = 0 ∨ a = 1 ∨ a = 2 ∨ a = 5
structure WnH (f : Fa) (J : Heap) (w : Int) (v0 v1 v2 v3 : AVal) : Prop where
  r0 : J[0]? = some (some (Dr w))
  r1 : J[1]? = some (some (.cells false 4 [Fv f]))
  r2 : J[2]? = some (some (.cells false 4 [.agg [.nilsl, .nilsl, .nilsl, .nilsl]]))
  r5 : J[5]? = some (some (.cells false 4 [.agg [v0, v1, v2, v3]]))
theorem WnH.mono {f : Fa} {J J' : Heap} {w w' : Int} {v0 v1 v2 v3 : AVal} (h : WnH f J w v0 v1 v2 v3) (h0 : J'[0]? = some (some (Dr w'))) (hJ : ∀ q, wF q → q ≠ 0 → q < J.length → J'[q]? = J[q]?) : WnH f J' w' v0 v1 v2 v3 :=
  ⟨h0, by rw [hJ 1 (by simp [wF]) (by decide) (List.getElem?_eq_some_iff.1 h.r1).1]; exact h.r1, by rw [hJ 2 (by simp [wF]) (by decide) (List.getElem?_eq_some_iff.1 h.r2).1]; exact h.r2, by rw [hJ 5 (by simp [wF]) (by decide) (List.getElem?_eq_some_iff.1 h.r5).1]; exact h.r5⟩
end Go.Proofs

namespace Go.Proofs
open Go Go.Sx Go.Fam
attribute [local irreducible] Run

end Go.Proofs

namespace Go.Proofs
open Go Go.Sx Go.Fam
attribute [local irreducible] Run

end Go.Proofs

namespace Go.Proofs
open Go Go.Sx Go.Fam
attribute [local irreducible] Run

instance : DecidableEq Fa := fun a b => decidable_of_iff (a.g = b.g ∧ a.p = b.p ∧ a.lo = b.lo ∧ a.hi = b.hi) ⟨fun ⟨h1, h2, h3, h4⟩ => by cases a; cases b; simp_all, by rintro rfl; exact ⟨rfl, rfl, rfl, rfl⟩⟩
end Go.Proofs

namespace Go.Sx
open Go
theorem Less.loosen {P : Program} {G : Ctx} {k : Nat} {ρ : List AVal} {H H' : Heap} (hlen : H'.length = H.length) (hl : Loose H H') : Less P G k ⟨ρ, H, []⟩ ⟨ρ, H', []⟩ := fun μ a w hR => by
  refine ⟨μ, ⟨hR.tr, hR.hr.loosen hl, fun r hr => ?_, ?_, fun r hr => by simp at hr⟩, Mu.leB_refl _ _⟩
  · show r < H'.length
    rw [hlen]; exact hR.dom r hr
  · have := hR.mk'; simpa using this
def looseAll (H : Heap) : Heap := H.map fun o => o.map fun x => match x with | .cells _ sz es => .cells true sz es | x => x
theorem looseAll_len (H : Heap) : (looseAll H).length = H.length := by simp [looseAll]
theorem looseAll_ok (H : Heap) : Loose H (looseAll H) := fun i => by
  unfold looseAll
  rw [List.getElem?_map]
  cases h : H[i]? with
  | none => exact .inl rfl
  | some o => cases o with
    | none => exact .inl rfl
    | some x => cases x with
      | cells g sz es => exact .inr ⟨g, sz, es, rfl, rfl⟩
      | _ => exact .inl rfl
theorem looseAll_c (g : Bool) (sz : Nat) (es : List AVal) (Y : Heap) : looseAll (some (.cells g sz es) :: Y) = some (.cells true sz es) :: looseAll Y := (rfl)
theorem looseAll_n : looseAll [] = [] := (rfl)
theorem loop_loosen {P : Program} {G : Ctx} {k : Nat} {ρ : List AVal} {J Y Y' : Heap} {rd : Option Nat} {c : ACode} {fs : List Frame} {Q : Goal} (hY : looseAll Y = Y') (h : Loop P G k rd c fs ⟨ρ, J ++ Y', []⟩ Q) : Loop P G k rd c fs ⟨ρ, J ++ Y, []⟩ Q := by
  subst hY
  refine loop_less (Less.loosen (by simp [looseAll_len]) fun i => ?_) h
  by_cases hi : i < J.length
  · left; rw [List.getElem?_append_left hi, List.getElem?_append_left hi]
  · rw [List.getElem?_append_right (by omega), List.getElem?_append_right (by omega)]; exact looseAll_ok Y _
end Go.Sx
namespace Go.Proofs
open Go Go.Sx Go.Fam

section
variable {F : Nat → Prop} {J J' : Heap} {g p : List Int} {L U : List (List Int)} {lo hi : List Int} {v0 v1 v2 v3 v4 v5 : AVal} {κ0 κ1 κ2 κ3 κ4 κ5 : List Nat}
theorem FS.add1 (h : FS F J g p [] [] [] [] v0 v1 v2 v3 v4 v5 κ0 κ1 κ2 κ3 κ4 κ5) (hlo : lo ≠ []) (hhi : hi ≠ []) : v2 = .nilsl ∧ v3 = .nilsl ∧ ∀ (J' : Heap) (r s a b : Nat), a < r → r < b → b < s → J.length ≤ a → (∀ q, ¬ F q → q < J.length → J'[q]? = J[q]?) →
    J'[a]? = some (some (.cells true 1 (ivL lo))) → J'[b]? = some (some (.cells true 1 (ivL hi))) → J'[r]? = some (some (.cells true 1 [.sl a 0 lo.length])) → J'[s]? = some (some (.cells true 1 [.sl b 0 hi.length])) →
    FS F J' g p [lo] [hi] [] [] v0 v1 (.sl r 0 1) (.sl s 0 1) .nilsl .nilsl κ0 κ1 ([a] ++ [r]) ([b] ++ [s]) [] [] := by
  obtain ⟨e2, k2⟩ := nil_get (J := J) (d := 4) (κ := κ2) (v := v2) (by simpa [tbC] using h.d2)
  obtain ⟨e3, k3⟩ := nil_get (J := J) (d := 4) (κ := κ3) (v := v3) (by simpa [tbC] using h.d3)
  obtain ⟨e4, k4⟩ := nil_get (J := J) (d := 4) (κ := κ4) (v := v4) (by simpa [lsC] using h.d4)
  obtain ⟨e5, k5⟩ := nil_get (J := J) (d := 4) (κ := κ5) (v := v5) (by simpa [lsC] using h.d5)
  subst e2; subst e3; subst k2; subst k3; subst e4; subst e5; subst k4; subst k5
  refine ⟨rfl, rfl, fun J' r s a b o1 o2 o3 ha hJ h1 h2 h3 h4 => ?_⟩
  obtain ⟨u0, u1, _, _, _, _⟩ := h.up
  have l0 := h.len
  have m := fun {κ : List Nat} {v c : AVal} (hd : Dat 5 J κ v c) (hu : ∀ r ∈ κ, ¬ F r) => hd.congr fun q hq => hJ q (hu q hq) (hd.lt q hq)
  have hlt := (List.getElem?_eq_some_iff.1 h4).1
  have w4 : Dat 4 J' [a] (.sl a 0 lo.length) (vw lo) := vw_put hlo rfl h1
  have w5 : Dat 4 J' [b] (.sl b 0 hi.length) (vw hi) := vw_put hhi rfl h2
  refine ⟨fun a ha => by have := l0 a ha; omega, m h.d0 u0, m h.d1 u1, tb_put (by simp) rfl h3 (row_one w4), tb_put (by simp) rfl h4 (row_one w5), ⟨rfl, rfl, rfl⟩, ⟨rfl, rfl, rfl⟩, fun x => ?_, fun x hx => ?_⟩
  · have h5 := h.nd x
    have h6 := h.lt0 (r := x)
    simp only [List.count_nil, Nat.add_zero, List.count_cons, List.count_append, beq_iff_eq, Nat.zero_add] at *
    by_cases c : J.length ≤ x
    · have := h6 c
      split <;> split <;> split <;> split <;> omega
    · rw [if_neg (by omega), if_neg (by omega), if_neg (by omega), if_neg (by omega)]; omega
  · have h5 := h.ge x hx
    have := l0 x hx
    simp only [List.count_nil, Nat.add_zero, List.count_cons, List.count_append, beq_iff_eq, Nat.zero_add] at *
    rw [if_neg (by omega), if_neg (by omega), if_neg (by omega), if_neg (by omega)]; omega
theorem FS.addn (h : FS F J g p L U [] [] v0 v1 v2 v3 v4 v5 κ0 κ1 κ2 κ3 κ4 κ5) (hL : L ≠ []) (hU : U ≠ []) (hlo : lo ≠ []) (hhi : hi ≠ []) : ∃ r s vs us κ2' κ3', v2 = .sl r 0 L.length ∧ v3 = .sl s 0 U.length ∧ r ≠ s ∧ ¬ F r ∧ ¬ F s ∧ J[r]? = some (some (.cells true 1 vs)) ∧ J[s]? = some (some (.cells true 1 us)) ∧
    vs.length = L.length ∧ us.length = U.length ∧ ∀ (J' : Heap) (a b : Nat), a < b → J.length ≤ a → (∀ q, ¬ F q → q < J.length → q ≠ r → q ≠ s → J'[q]? = J[q]?) → J'[a]? = some (some (.cells true 1 (ivL lo))) → J'[b]? = some (some (.cells true 1 (ivL hi))) →
    J'[r]? = some (some (.cells true 1 (vs ++ [.sl a 0 lo.length]))) → J'[s]? = some (some (.cells true 1 (us ++ [.sl b 0 hi.length]))) → (∀ a, F a → a < J'.length) →
    FS F J' g p (L ++ [lo]) (U ++ [hi]) [] [] v0 v1 (.sl r 0 (L.length + 1)) (.sl s 0 (U.length + 1)) .nilsl .nilsl κ0 κ1 (κ2' ++ [a] ++ [r]) (κ3' ++ [b] ++ [s]) [] [] := by
  obtain ⟨r, vs, κ2', e2, k2, g2, a2⟩ := tb_get h.d2 hL
  obtain ⟨s, us, κ3', e3, k3, g3, a3⟩ := tb_get h.d3 hU
  obtain ⟨e4, k4⟩ := nil_get (J := J) (d := 4) (κ := κ4) (v := v4) (by simpa [lsC] using h.d4)
  obtain ⟨e5, k5⟩ := nil_get (J := J) (d := 4) (κ := κ5) (v := v5) (by simpa [lsC] using h.d5)
  obtain ⟨u0, u1, u2, u3, u4, u5⟩ := h.up
  subst e2; subst k2; subst e3; subst k3; subst e4; subst e5; subst k4; subst k5
  have nr := h.nd r
  have ns := h.nd s
  have hrs : r ≠ s := by
    rintro rfl
    simp [List.count_cons, List.count_append] at nr
    omega
  have hsr : ¬ s = r := fun e => hrs e.symm
  have l2 := a2.len
  have l3 := a3.len
  have rlt := (List.getElem?_eq_some_iff.1 g2).1
  have slt := (List.getElem?_eq_some_iff.1 g3).1
  simp only [List.length_map] at l2 l3
  simp only [List.count_cons, List.count_append, List.count_nil, beq_iff_eq, hrs, hsr, if_true, if_false] at nr ns
  refine ⟨r, s, vs, us, κ2', κ3', rfl, rfl, hrs, u2 r (by simp), u3 s (by simp), g2, g3, l2, l3, fun J' a b hab ha hJ h1 h2 h3 h4 hn => ?_⟩
  have m := fun {d : Nat} {κ : List Nat} {v c : AVal} (hd : Dat d J κ v c) (hu : ∀ r ∈ κ, ¬ F r) (c1 : κ.count r = 0) (c2 : κ.count s = 0) => hd.congr fun q hq => hJ q (hu q hq) (hd.lt q hq) (by rintro rfl; exact List.count_eq_zero.1 c1 hq) (by rintro rfl; exact List.count_eq_zero.1 c2 hq)
  have ma := fun {κ : List Nat} {xs es : List AVal} (hd : All3 (Dat 4 J) κ xs es) (hu : ∀ r ∈ κ, ¬ F r) (c1 : κ.count r = 0) (c2 : κ.count s = 0) => hd.mono (R' := Dat 4 J') fun κ' v e hs _ he => he.congr fun q hq => hJ q (hu q (hs q hq)) (he.lt q hq) (by rintro rfl; exact List.count_eq_zero.1 c1 (hs _ hq)) (by rintro rfl; exact List.count_eq_zero.1 c2 (hs _ hq))
  have w4 : Dat 4 J' [a] (.sl a 0 lo.length) (vw lo) := vw_put hlo rfl h1
  have w5 : Dat 4 J' [b] (.sl b 0 hi.length) (vw hi) := vw_put hhi rfl h2
  have q2 := ma a2 (fun r hr => u2 r (by simp [hr])) (by omega) (by omega)
  have q3 := ma a3 (fun r hr => u3 r (by simp [hr])) (by omega) (by omega)
  refine ⟨hn, m h.d0 u0 (by omega) (by omega), m h.d1 u1 (by omega) (by omega), tb_put (by simp) (by simp) h3 (row_more q2 w4), tb_put (by simp) (by simp) h4 (row_more q3 w5), ⟨rfl, rfl, rfl⟩, ⟨rfl, rfl, rfl⟩, fun x => ?_, fun x hx => ?_⟩
  · have h5 := h.nd x
    have h6 := h.lt0 (r := x)
    simp only [List.count_nil, Nat.add_zero, List.count_cons, List.count_append, beq_iff_eq, Nat.zero_add] at *
    by_cases c : J.length ≤ x
    · have := h6 c
      split <;> split <;> split <;> split <;> simp_all <;> omega
    · have c1 : ¬ a = x := by omega
      have c2 : ¬ b = x := by omega
      rw [if_neg c1, if_neg c2]; omega
  · have h5 := h.ge x hx
    have := h.len x hx
    have c1 : ¬ a = x := by omega
    have c2 : ¬ b = x := by omega
    simp only [List.count_nil, Nat.add_zero, List.count_cons, List.count_append, beq_iff_eq, Nat.zero_add] at *
    rw [if_neg c1, if_neg c2]; omega
end
end Go.Proofs

namespace Go.Proofs
open Go Go.Sx Go.Fam
attribute [local irreducible] Run

theorem copied_run (l : List Int) (hl : l.length ≤ 1000000) (h0 : l ≠ []) : Ans Try.prog n_curve_copied [vw l] [] (.sl 0 0 l.length) [some (.cells true 1 (l.map (.int .i64)))] := by
  have h8 : l.length * 8 ≤ 2 ^ 44 := by omega
  have h1 : ¬ l = [] := h0
  refine spec_run e_curve_copied fun G => ?_
  simp only [go_sem, vw, List.length_map, h8, h1]
  simp [h1]
def zeros (n : Nat) : List Int := List.replicate n 0
def zT (m n : Nat) : List (List Int) := List.replicate m (zeros n)
def zF (g p : List Int) : Fa := ⟨g, p, zT g.length p.length, zT g.length p.length⟩
theorem zT_succ (m n : Nat) : zT (m + 1) n = zT m n ++ [zeros n] := List.replicate_succ'
theorem zeros_iv (n : Nat) : ivL (zeros n) = List.replicate n (.int .i64 0) := by unfold ivL zeros; rw [List.map_replicate]
def lF (a : Nat) : Prop := a = 0 ∨ a = 3
structure LnH (J : Heap) (v0 v1 v2 v3 : AVal) : Prop where
  r0 : J[0]? = some (some (.cells false 4 [.agg [.nilsl, .nilsl, .nilsl, .nilsl]]))
  r3 : J[3]? = some (some (.cells false 4 [.agg [v0, v1, v2, v3]]))
def LnI (g p : List Int) (J : Heap) (L U : List (List Int)) (v0 v1 v2 v3 : AVal) : Prop := LnH J v0 v1 v2 v3 ∧ ∃ κ0 κ1 κ2 κ3 κ4 κ5, FS lF J g p L U [] [] v0 v1 v2 v3 .nilsl .nilsl κ0 κ1 κ2 κ3 κ4 κ5
def lT (g p : List Int) : List (Nat × AVal) := [(0, vw g), (1, vw p), (4, .ptr 0 0 0 1), (5, .ptr 3 0 0 1), (12, .int .i64 g.length)]

set_option maxHeartbeats 4000000 in
set_option maxRecDepth 20000 in
theorem linesOf_fn (g p : List Int) (g0 : g ≠ []) (p0 : p ≠ []) (gm : g.length ≤ 40) (pm : p.length ≤ 40) : Go.Sx.Fn Try.prog n_curve_linesOf [vw g, vw p] [] fun v H' => ∃ ι, Dat 6 H' ι v (Fv (zF g p)) ∧ ι.Nodup := by
  have k3 := copied_run g (by omega) g0
  have k4 := copied_run p (by omega) p0
  refine run_fn e_curve_linesOf fun G => ?_
  simp only [go_sem]
  refine cN1 k3 ?_
  simp only [go_sem, ren]
  refine cN1 k4 ?_
  simp only [go_sem, ren, vw, List.length_map]
  have hI0 : LnI g p [some (.cells false 4 [.agg [.nilsl, .nilsl, .nilsl, .nilsl]]), some (.cells true 1 (ivL g)), some (.cells true 1 (ivL p)), some (.cells false 4 [.agg [.sl 1 0 g.length, .sl 2 0 p.length, .nilsl, .nilsl]])] [] []
      (.sl 1 0 g.length) (.sl 2 0 p.length) .nilsl .nilsl := by
    refine ⟨⟨rfl, rfl⟩, [1], [2], [], [], [], [], fun a ha => by unfold lF at ha; simp; omega, vw_put g0 rfl rfl, vw_put p0 rfl rfl, ⟨rfl, rfl, rfl⟩, ⟨rfl, rfl, rfl⟩, ⟨rfl, rfl, rfl⟩, ⟨rfl, rfl, rfl⟩, fun a => ?_, fun a ha => ?_⟩
    · simp only [List.count_cons, List.count_nil, beq_iff_eq]
      split <;> split <;> omega
    · unfold lF at ha
      simp only [List.count_cons, List.count_nil, beq_iff_eq]
      rw [if_neg (by omega), if_neg (by omega)]
  refine loop_ind k_curve_linesOf_r7.eq_1 (fun a : Nat × Heap × AVal × AVal × AVal × AVal => a.1 ≤ g.length ∧ LnI g p a.2.1 (zT a.1 p.length) (zT a.1 p.length) a.2.2.1 a.2.2.2.1 a.2.2.2.2.1 a.2.2.2.2.2) (fun a => g.length - a.1)
    (fun a => (tsets 33 (lT g p ++ [(13, .int .i64 a.1)]), a.2.1)) (0, _, .sl 1 0 g.length, .sl 2 0 p.length, .nilsl, .nilsl) ⟨Nat.zero_le _, hI0⟩ (by simp [go_sem, lT, vw]) (by simp) ?_
  rintro ⟨i, J, v0, v1, v2, v3⟩ ⟨hi, hI⟩ ih
  dsimp only at hi hI ih ⊢
  have lz0 : zeros p.length ≠ [] := by intro e; have := congrArg List.length e; simp [zeros] at this; exact p0 this
  by_cases h1 : i < g.length
  · have h2 : (i : Int) < g.length := by omega
    have h3 := idx_next h1 (by omega)
    obtain ⟨⟨f0, f3⟩, κ0, κ1, κ2, κ3, κ4, κ5, hF⟩ := hI
    have c3 := cells_at f3
    have lt3 := (List.getElem?_eq_some_iff.1 f3).1
    have z1 : (p.length : Int) ≤ 2 ^ 44 := by omega
    have z2 : (p.length : Int) * ((8 : Nat) : Int) ≤ 2 ^ 44 := by omega
    have z3 : (0 : Int) ≤ p.length := by omega
    have ihn := fun J' v0' v1' v2' v3' hh => ih (i + 1, J', v0', v1', v2', v3') (by omega) ⟨h1, hh⟩
    clear ih
    dsimp only at ihn
    rw [zT_succ] at ihn
    by_cases i0 : i = 0
    · subst i0
      obtain ⟨e2, e3, hn⟩ := hF.add1 lz0 lz0
      subst e2; subst e3
      obtain ⟨_, b0, e0, -, -⟩ := vw_get hF.d0
      obtain ⟨_, b1, e1, -, -⟩ := vw_get hF.d1
      subst e0; subst e1
      have h2' : (0 : Int) < g.length := by omega
      have w1' : IntKind.i64.wrap 1 = 1 := by decide
      have q1 := fun Y => cells_more c3 Y
      have q2 := fun Y x => put_more (H := J) lt3 Y x
      have q3 := fun g sz es Y => cells_more (H := J.set 3 (some (Row.cells g sz es))) (j := 3) (cells_at (List.getElem?_set_self lt3)) Y
      have q4 := fun z Y x => put_more (H := J.set 3 z) (j := 3) (by simpa using lt3) Y x
      simp only [go_sem, lT, vw, List.length_map, h2', c3, z1, z2, z3, Int.toNat_natCast, q1, q2, q3, q4, List.set_set, w1']
      simp only [List.length_set]
      refine ⟨⟨by omega, by omega⟩, by simp; omega, by simp; omega, by decide, ⟨by omega, by omega⟩, by rw [show (3 == J.length + 3) = false from beq_eq_false_iff_ne.2 (by omega)]; rfl, by rw [show (3 == J.length + 4) = false from beq_eq_false_iff_ne.2 (by omega)]; rfl, by decide, loop_loosen (by simp only [looseAll_c, looseAll_n]; rfl) ?_⟩
      have off : ∀ (A : Option Row) (Y : Heap) (q : Nat), q < J.length → q ≠ 3 → (J.set 3 A ++ Y)[q]? = J[q]? := fun A Y q hq hn => by rw [List.getElem?_append_left (by simpa using hq), List.getElem?_set_ne (fun e => hn e.symm)]
      have at3 : ∀ (A : Option Row) (Y : Heap), (J.set 3 A ++ Y)[3]? = some A := fun A Y => by rw [List.getElem?_append_left (by simpa using lt3), List.getElem?_set_self lt3]
      have hz : (zeros p.length).length = p.length := by simp [zeros]
      rw [hz] at hn
      refine ihn _ _ _ _ _ ⟨⟨by rw [off _ _ 0 (by omega) (by omega)]; exact f0, at3 _ _⟩, _, _, _, _, _, _, hn _ (J.length + 2) (J.length + 5) (J.length + 0) (J.length + 3) (by omega) (by omega) (by omega) (by omega) (fun q hnF hq => off _ _ q hq (by rintro rfl; exact hnF (by simp [lF]))) (by rw [get_new (by simp), zeros_iv]; rfl) (by rw [get_new (by simp), zeros_iv]; rfl) (by rw [get_new (by simp)]; rfl) (by rw [get_new (by simp)]; rfl)⟩ _ (by simp [go_sem, lT, vw])
    · have zl : ∀ m, (zT m p.length).length = m := fun m => by simp [zT]
      have L0 : zT i p.length ≠ [] := by intro e; have := congrArg List.length e; rw [zl] at this; exact i0 this
      obtain ⟨r, s, vs, us, κ2', κ3', e2, e3, hrs, hr, hs, g2, g3, l2, l3, hn⟩ := hF.addn L0 L0 lz0 lz0
      rw [zl] at e2 e3 l2 l3
      subst e2; subst e3
      obtain ⟨_, b0, e0, -, -⟩ := vw_get hF.d0
      obtain ⟨_, b1, e1, -, -⟩ := vw_get hF.d1
      subst e0; subst e1
      have hrl := (List.getElem?_eq_some_iff.1 g2).1
      have hsl := (List.getElem?_eq_some_iff.1 g3).1
      have r3' : r ≠ 3 := by rintro rfl; exact hr (by simp [lF])
      have s3' : s ≠ 3 := by rintro rfl; exact hs (by simp [lF])
      have y1 : (i + 1) * 24 ≤ 2 ^ 44 := by omega
      have q0 := fun Y => cells_more c3 Y
      have a1 := fun Y => cells_more (cells_at g2) Y
      have a2 := fun Y x => put_more (H := J) hrl Y x
      have a3 := fun x Y => cells_more (H := J.set r x) (j := 3) (cells_at (by rw [List.getElem?_set_ne r3']; exact f3)) Y
      have a4 := fun z Y x => put_more (H := J.set r z) (j := 3) (by simpa using lt3) Y x
      have a5 := fun x g sz es Y => cells_more (H := (J.set r x).set 3 (some (Row.cells g sz es))) (j := 3) (cells_at (List.getElem?_set_self (by simpa using lt3))) Y
      have a6 := fun x y Y => cells_more (H := (J.set r x).set 3 y) (j := s) (cells_at (by rw [List.getElem?_set_ne (fun e => s3' e.symm), List.getElem?_set_ne hrs]; exact g3)) Y
      have a7 := fun z y Y x => put_more (H := (J.set r z).set 3 y) (j := s) (by simpa using hsl) Y x
      have a8 := fun x g sz es y Y => cells_more (H := ((J.set r x).set 3 (some (Row.cells g sz es))).set s y) (j := 3) (cells_at (by rw [List.getElem?_set_ne s3']; exact List.getElem?_set_self (by simpa using lt3))) Y
      have a9 := fun x w y Y z => put_more (H := ((J.set r x).set 3 w).set s y) (j := 3) (by simpa using lt3) Y z
      simp only [go_sem, lT, vw, List.length_map, h2, c3, z1, z2, z3, Int.toNat_natCast, q0, a1, a2, a3, a4, a5, a6, a7, a8, a9, l2, l3, y1, List.set_set, h3]
      simp only [List.length_set]
      refine ⟨⟨by omega, by omega⟩, by simp; omega, by simp; omega, ⟨by omega, by omega⟩, by rw [show (3 == J.length + 2) = false from beq_eq_false_iff_ne.2 (by omega)]; rfl, by rw [show (3 == J.length + 3) = false from beq_eq_false_iff_ne.2 (by omega)]; rfl, loop_loosen (by simp only [looseAll_c, looseAll_n]; rfl) ?_⟩
      have off : ∀ (A B C D : Option Row) (Y : Heap) (q : Nat), q < J.length → q ≠ r → q ≠ s → q ≠ 3 → ((((J.set r A).set 3 B).set s C).set 3 D ++ Y)[q]? = J[q]? := fun A B C D Y q hq n1 n2 n3 => by
        rw [List.getElem?_append_left (by simpa using hq), List.getElem?_set_ne (fun e => n3 e.symm), List.getElem?_set_ne (fun e => n2 e.symm), List.getElem?_set_ne (fun e => n3 e.symm), List.getElem?_set_ne (fun e => n1 e.symm)]
      have at3 : ∀ (A B C D : Option Row) (Y : Heap), ((((J.set r A).set 3 B).set s C).set 3 D ++ Y)[3]? = some D := fun A B C D Y => by rw [List.getElem?_append_left (by simpa using lt3), List.getElem?_set_self (by simpa using lt3)]
      have atr : ∀ (A B C D : Option Row) (Y : Heap), ((((J.set r A).set 3 B).set s C).set 3 D ++ Y)[r]? = some A := fun A B C D Y => by
        rw [List.getElem?_append_left (by simpa using hrl), List.getElem?_set_ne (fun e => r3' e.symm), List.getElem?_set_ne (fun e => hrs e.symm), List.getElem?_set_ne (fun e => r3' e.symm), List.getElem?_set_self hrl]
      have ats : ∀ (A B C D : Option Row) (Y : Heap), ((((J.set r A).set 3 B).set s C).set 3 D ++ Y)[s]? = some C := fun A B C D Y => by
        rw [List.getElem?_append_left (by simpa using hsl), List.getElem?_set_ne (fun e => s3' e.symm), List.getElem?_set_self (by simpa using hsl)]
      have nr : ∀ q, lF q → q ≠ r := fun q hq e => hr (by rw [← e]; exact hq)
      have ns : ∀ q, lF q → q ≠ s := fun q hq e => hs (by rw [← e]; exact hq)
      have hz : (zeros p.length).length = p.length := by simp [zeros]
      rw [hz, zl] at hn
      refine ihn _ _ _ _ _ ⟨⟨by rw [off _ _ _ _ _ 0 (by omega) (nr 0 (by simp [lF])) (ns 0 (by simp [lF])) (by omega)]; exact f0, at3 _ _ _ _ _⟩, _, _, _, _, _, _,
        hn _ (J.length + 0) (J.length + 2) (by omega) (by omega) (fun q hnF hq n1 n2 => off _ _ _ _ _ q hq n1 n2 (by rintro rfl; exact hnF (by simp [lF]))) (by rw [get_new (by simp), zeros_iv]; rfl) (by rw [get_new (by simp), zeros_iv]; rfl) (atr _ _ _ _ _) (ats _ _ _ _ _) (fun a ha => by have := hF.len a ha; simp; omega)⟩ _ (by simp [go_sem, lT, vw])
  · have h2 : ¬ (i : Int) < g.length := by omega
    obtain rfl : i = g.length := by omega
    obtain ⟨⟨f0, f3⟩, κ0, κ1, κ2, κ3, κ4, κ5, hF⟩ := hI
    have hne : zT g.length p.length ≠ [] := by intro e; have := congrArg List.length e; simp [zT] at this; exact g0 this
    obtain ⟨ι, hD, hnd, hge⟩ := hF.all hne hne
    obtain ⟨_, b0, e0, -, -⟩ := vw_get hF.d0
    obtain ⟨_, b1, e1, -, -⟩ := vw_get hF.d1
    obtain ⟨b2, _, _, e2, -, -, -⟩ := tb_get hF.d2 hne
    obtain ⟨b3, _, _, e3, -, -, -⟩ := tb_get hF.d3 hne
    subst e0; subst e1; subst e2; subst e3
    have c3 := cells_at f3
    have c0 := cells_at f0
    have hlt0 := (List.getElem?_eq_some_iff.1 f0).1
    have q1 := fun x => put_lt (H := J) (x := x) hlt0
    have q2 := fun g sz es => cells_at (H := J.set 0 (some (Row.cells g sz es))) (j := 0) (List.getElem?_set_self hlt0)
    simp only [go_sem, lT, h2, vw, List.length_map, c3, c0, q1, q2]
    exact ⟨ι, hD.set _ (fun h => hge 0 h (by simp [lF])), hnd⟩
theorem zF_pure {g p : List Int} (g0 : g ≠ []) (p0 : p ≠ []) : Pure 6 (Fv (zF g p)) := by
  have hne : zT g.length p.length ≠ [] := by intro e; have := congrArg List.length e; simp [zT] at this; exact g0 this
  have hr : ∀ r ∈ zT g.length p.length, r ≠ [] := fun r hr e => by
    unfold zT at hr
    have := List.eq_of_mem_replicate hr
    rw [e] at this
    have := congrArg List.length this
    simp [zeros] at this; exact p0 (List.length_eq_zero_iff.1 this.symm)
  exact fv_pure g0 p0 hne hne hr hr
theorem linesOf_run {g p : List Int} (g0 : g ≠ []) (p0 : p ≠ []) (gm : g.length ≤ 40) (pm : p.length ≤ 40) : Ans Try.prog n_curve_linesOf [vw g, vw p] [] (thaw 6 0 (Fv (zF g p))).1 (thaw 6 0 (Fv (zF g p))).2 :=
  ans_dat0 (zF_pure g0 p0) (linesOf_fn g p g0 p0 gm pm)
end Go.Proofs

