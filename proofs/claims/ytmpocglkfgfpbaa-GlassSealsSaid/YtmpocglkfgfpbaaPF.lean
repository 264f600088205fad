/- A part of the proof. -/
import Derived.Test.YtmpocglkfgfpbaaPE
set_option linter.unusedSimpArgs false
set_option linter.unusedVariables false
namespace Go.Proofs
open Go Go.Sx
attribute [local irreducible] Run

abbrev SL := List (Int × List Zn)
def sv (p : Int × List Zn) : AVal := stV p.1 p.2
def erS (l : SL) (b : Int) (z : List Zn) (s f : Int) (i : Nat) : Int := sfE (l.getD i default).1 (l.getD i default).2 b z s f
def vdS (l : SL) (b : Int) (z : List Zn) (s f : Int) (i : Nat) : Int := (sealR (l.getD i default).1 b (l.getD i default).2 z s f).1
def mtP (l : SL) (b : Int) (z : List Zn) (s f : Int) : Nat → List Int
  | 0 => []
  | k + 1 => if vdS l b z s f k = 1 then mtP l b z s f k ++ [(k : Int)] else mtP l b z s f k
def mtE (l : SL) (b : Int) (z : List Zn) (s f : Int) : Int := if l.length > 12 then 8 else fstE (erS l b z s f) l.length 0
def mtL (l : SL) (b : Int) (z : List Zn) (s f : Int) : List Int := if mtE l b z s f = 0 then mtP l b z s f l.length else []
theorem mtP_len (l : SL) (b : Int) (z : List Zn) (s f : Int) : ∀ k, (mtP l b z s f k).length ≤ k
  | 0 => Nat.le_refl _
  | k + 1 => by
    have := mtP_len l b z s f k
    rw [mtP]; split
    · rw [List.length_append]; simp; omega
    · omega
theorem il_ne {P : List Int} (h : P ≠ []) : il P ≠ [] := fun e => h (by unfold il at e; exact List.map_eq_nil_iff.1 e)
theorem mt_back {rd : Option Nat} {c : ACode} {fs : List Sx.Frame} {Q : Sx.Goal} {G : Ctx} {ρ : List AVal} {H : Heap} {S : Row} (hS : ∀ F : Nat → Prop, S.bel F) {P : List Int} {j : Nat} (T : AVal → List AVal) (hW : Wk ρ (T (slv j (il P))))
    (hT : ∀ (σ : Nat → Nat) v u, v = ren σ u → σ 0 = 0 → WkR σ (T v) (T u)) (hb : ∀ (n : Nat) u, 1 ≤ n → Bel (· < n) u → Bels (· < n) (T u)) (h0 : H[0]? = some (some S)) (hj : P ≠ [] → 1 ≤ j ∧ H[j]? = some (some (.cells true 1 (il P))))
    (h : Sx.Loop Try.prog G 0 rd c fs ⟨T (slv 1 (il P)), some S :: slrG true 1 (il P), []⟩ Q) : Sx.Loop Try.prog G 0 rd c fs ⟨ρ, H, []⟩ Q := by
  refine loop_wk hW ?_
  by_cases hP : P = []
  · subst hP
    have e1 : ∀ j, slv j (il []) = .nilsl := fun j => rfl
    have e2 : slrG true 1 (il []) = [] := rfl
    rw [e1, e2] at h
    rw [e1]
    refine loop_gc (fun i => i) (fun _ _ => rfl) (Nat.zero_le _) (fun _ _ _ _ e => e) (hT _ _ _ (by simp [ren]) rfl) (hb _ _ (by simp) .nilsl) (fun i x hx => ?_) h
    have hi := (List.getElem?_eq_some_iff.1 hx).1
    obtain rfl : i = 0 := by simpa using hi
    simp only [List.getElem?_cons_zero, Option.some.injEq] at hx
    subst hx
    exact ⟨by rw [Row.ren_same (hS _)]; exact h0, hS _⟩
  · obtain ⟨hj1, hjr⟩ := hj hP
    have n1 := il_ne hP
    have e1 : ∀ j, slv j (il P) = .sl j 0 (il P).length := fun j => (slr_some n1 true 1 j).1
    have e2 : slrG true 1 (il P) = [some (.cells true 1 (il P))] := (slr_some n1 true 1 0).2
    have cb : ∀ F : Nat → Prop, (Row.cells true 1 (il P)).bel F := fun F => by rw [row_bel_cells]; unfold il; exact bels_map _ _ fun z => by simp only [go_sem]
    rw [e1, e2] at h
    rw [e1]
    refine loop_gc (fun i => if i = 0 then 0 else j) (fun i hi => by omega) (Nat.zero_le _) (fun i k hi hk e => ?_) (hT _ _ _ (by simp [ren]) rfl) (hb _ _ (by simp) (by simp [go_sem])) (fun i x hx => ?_) h
    · simp only [List.length_cons, List.length_nil] at hi hk
      by_cases a : i = 0 <;> by_cases b : k = 0 <;> simp [a, b] at e <;> omega
    · have hi := (List.getElem?_eq_some_iff.1 hx).1
      simp only [List.length_cons, List.length_nil] at hi
      obtain rfl | rfl : i = 0 ∨ i = 1 := by omega
      · simp only [List.getElem?_cons_zero, Option.some.injEq] at hx
        subst hx
        exact ⟨by rw [Row.ren_same (hS _)]; exact h0, hS _⟩
      · simp only [List.getElem?_cons_succ, List.getElem?_cons_zero, Option.some.injEq] at hx
        subst hx
        exact ⟨by rw [Row.ren_same (cb _)]; exact hjr, cb _⟩
section
variable (l : SL) (b : Int) (z : List Zn) (s f : Int)
def mT (i : Nat) (v : AVal) : List AVal := tsets 46 [(2, .int .i64 s), (3, .int .i64 f), (5, .ptr 0 0 0 1), (8, .nilsl), (9, .int .i64 0), (10, v), (19, .view (l.map sv)), (20, .int .i64 l.length), (21, .int .i64 i)]
def nT (i : Nat) (v : AVal) : List AVal := tsets 60 [(0, .view (l.map sv)), (2, .int .i64 s), (3, .int .i64 f), (5, .ptr 0 0 0 1), (8, .nilsl), (9, .int .i64 0), (12, v), (13, .int .i64 i)]
end
theorem svs_bel (l : SL) (F : Nat → Prop) : Bels F (l.map sv) := bels_map _ _ fun p => by simp only [go_sem, sv, stV]
theorem mT_wk {l : SL} {s f : Int} {i : Nat} (σ : Nat → Nat) (v u : AVal) (h : v = ren σ u) (h0 : σ 0 = 0) : WkR σ (mT l s f i v) (mT l s f i u) := by
  have e : rens σ (l.map sv) = l.map sv := by
    have h := ren_same (f := σ) (v := .view (l.map sv)) (by rw [bel_view]; exact svs_bel l _)
    simpa [ren] using h
  simp [go_sem, mT, ren, h, h0, e]
theorem nT_wk {l : SL} {s f : Int} {i : Nat} (σ : Nat → Nat) (v u : AVal) (h : v = ren σ u) (h0 : σ 0 = 0) : WkR σ (nT l s f i v) (nT l s f i u) := by
  have e : rens σ (l.map sv) = l.map sv := by
    have h := ren_same (f := σ) (v := .view (l.map sv)) (by rw [bel_view]; exact svs_bel l _)
    simpa [ren] using h
  simp [go_sem, nT, ren, h, h0, e]
theorem mT_bel {l : SL} {s f : Int} {i : Nat} (n : Nat) (u : AVal) (h1 : 1 ≤ n) (h : Bel (· < n) u) : Bels (· < n) (mT l s f i u) := by
  have e := svs_bel l (· < n)
  simp [go_sem, mT, h, e]; omega
theorem nT_bel {l : SL} {s f : Int} {i : Nat} (n : Nat) (u : AVal) (h1 : 1 ≤ n) (h : Bel (· < n) u) : Bels (· < n) (nT l s f i u) := by
  have e := svs_bel l (· < n)
  simp [go_sem, nT, h, e]; omega
end Go.Proofs

namespace Go.Proofs
open Go Go.Sx
attribute [local irreducible] Run

theorem wk_refl : ∀ ρ : List AVal, Wk ρ ρ
  | [] => trivial
  | _ :: ρ => ⟨.inr rfl, wk_refl ρ⟩
theorem keptL {E : Int} {L : List Int} {v : AVal} {H' : Heap} {j : Nat} (hv : v = .tup [slv j (il L), .int .i64 E]) (hH : L ≠ [] → H'[j]? = some (some (.cells true 1 (il L)))) : ∃ σ, Kept [] (slrG true 1 (il L)) (.tup [slv 0 (il L), .int .i64 E]) v H' σ := by
  subst hv
  by_cases hL : L = []
  · subst hL
    exact kept_id rfl (by simp [go_sem, slv, il]) fun i x hx => absurd hx (by simp [slrG, il])
  · have n1 := il_ne hL
    rw [(slr_some n1 true 1 j).1, (slr_some n1 true 1 0).1, (slr_some n1 true 1 0).2]
    exact kept_one j (by simp [ren, rens]) (by rw [row_bel_cells]; unfold il; exact bels_map _ _ fun z => by simp only [go_sem]) (hH hL)
set_option maxHeartbeats 8000000 in
set_option maxRecDepth 20000 in
theorem Matches_raw (l : SL) (hz : ∀ p ∈ l, p.2.length ≤ 1000) (b : Int) (z : List Zn) (hz2 : z.length ≤ 1000) (s f : Int) :
    Ans Try.prog n_glass_Matches [.view (l.map sv), stV b z, .int .i64 s, .int .i64 f] [] (.tup [slv 0 (il (mtL l b z s f)), .int .i64 (mtE l b z s f)]) (slrG true 1 (il (mtL l b z s f))) := by
  have sb : ∀ F : Nat → Prop, (Row.cells false 2 [stV b z]).bel F := fun F => by rw [row_bel_cells]; simp only [go_sem, stV]
  have hml : ∀ L : List Int, Bel (· < (slrG true 1 (il L)).length) (.tup [slv 0 (il L), .int .i64 (mtE l b z s f)]) ∧ Full (· < (slrG true 1 (il L)).length) (slrG true 1 (il L)) := fun L => by
    by_cases hL : L = []
    · subst hL; exact ⟨by simp [go_sem, slv, il], by simp [slrG, il]; trivial⟩
    · have n1 := il_ne hL
      rw [(slr_some n1 true 1 0).1, (slr_some n1 true 1 0).2]
      exact ⟨by simp [go_sem], by rw [row_bel_cells]; unfold il; exact bels_map _ _ fun z => by simp only [go_sem], trivial⟩
  refine Ans.keep (run_fn e_glass_Matches fun G => ?_) (Nat.zero_le _) (hml _).1 (hml _).2
  clear hml
  unfold mtL
  by_cases hn : l.length > 12
  · have e : mtE l b z s f = 8 := by unfold mtE; rw [if_pos hn]
    have c1 : (l.length : Int) > 12 := by omega
    rw [e, if_neg (by decide)]
    simp only [go_sem, stV, c1, List.length_map]
    exact keptL (j := 0) rfl fun h => absurd rfl h
  have c1 : ¬ (l.length : Int) > 12 := by omega
  have e : mtE l b z s f = fstE (erS l b z s f) l.length 0 := by unfold mtE; rw [if_neg hn]
  rw [e]
  obtain ⟨RES, hRES⟩ : ∃ R, fstE (erS l b z s f) l.length 0 = R := ⟨_, rfl⟩
  rw [hRES]
  simp only [go_sem, stV, c1, List.length_map]
  refine loop_ind k_glass_Matches_r13.eq_1 (fun i : Nat => i ≤ l.length ∧ fstE (erS l b z s f) (l.length - i) i = RES) (fun i => l.length - i)
    (fun i => (mT l s f i (slv 1 (il (mtP l b z s f i))), some (.cells false 2 [stV b z]) :: slrG true 1 (il (mtP l b z s f i)))) 0 ⟨Nat.zero_le _, hRES⟩ (by simp [go_sem, mT, mtP, il, slv]) rfl ?_
  clear hRES
  rintro i ⟨hi, hR⟩ ih
  dsimp only at hi hR ih ⊢
  by_cases h1 : i < l.length
  · have h2 : (i : Int) < l.length := by omega
    have n0 : ¬ (i : Int) < 0 := by omega
    have h3 : IntKind.i64.wrap ((i : Int) + 1) = ((i + 1 : Nat) : Int) := by rw [w64 (by omega)]; rfl
    obtain ⟨p, hzi⟩ : ∃ p, l[i]? = some p := ⟨_, List.getElem?_eq_getElem h1⟩
    have ez : l.getD i default = p := by rw [List.getD_eq_getElem?_getD, hzi]; rfl
    have hpl := hz p (List.mem_of_getElem? hzi)
    have k1 := Seal_raw p.1 p.2 hpl b z hz2 s f
    have her : erS l b z s f i = sfE p.1 p.2 b z s f := by unfold erS; rw [ez]
    have hvd : vdS l b z s f i = (sealR p.1 b p.2 z s f).1 := by unfold vdS; rw [ez]
    have hpn : mtP l b z s f (i + 1) = if (sealR p.1 b p.2 z s f).1 = 1 then mtP l b z s f i ++ [(i : Int)] else mtP l b z s f i := by rw [mtP, hvd]
    have ihn := fun (h0 : erS l b z s f i = 0) => ih (i + 1) (by omega) ⟨h1, by rw [← fstE_go h1 h0]; exact hR⟩
    have hst := fun (h0 : erS l b z s f i ≠ 0) => (fstE_stop h1 h0).symm.trans hR
    have hlen := mtP_len l b z s f i
    clear ih hR
    rw [hpn] at ihn
    rw [her] at ihn hst
    obtain ⟨P, hP⟩ : ∃ P, mtP l b z s f i = P := ⟨_, rfl⟩
    rw [hP] at ihn hlen
    rw [hP]
    unfold seT at k1
    by_cases c : sfE p.1 p.2 b z s f = 0
    · rw [if_pos c] at k1
      have ihn := ihn c
      obtain ⟨R, hRR⟩ : ∃ R, sealR p.1 b p.2 z s f = R := ⟨_, rfl⟩
      rw [hRR] at k1 ihn
      simp only [i3, stV] at k1
      have back := fun (P' : List Int) (j : Nat) (ρ : List AVal) (H : Heap) hW h0 hj => mt_back (Q := RetPost [.tmp 8, .tmp 9] fun v H' => ∃ σ, Kept [] (slrG true 1 (il (if RES = 0 then mtP l b z s f l.length else []))) (.tup [slv 0 (il (if RES = 0 then mtP l b z s f l.length else [])), .int .i64 RES]) v H' σ)
        (rd := none) (c := k_glass_Matches_r13) (fs := [.blk 0, .seq (.seq (.reg k_glass_Matches_r14 false) .ret)]) (G := G) (ρ := ρ) (H := H) sb (P := P') (j := j) (mT l s f (i + 1)) hW mT_wk mT_bel h0 hj
      by_cases hPe : P = []
      · subst hPe
        have e1 : slv 1 (il []) = .nilsl := rfl
        have e2 : slrG true 1 (il []) = [] := rfl
        rw [e1, e2]
        by_cases v1 : R.1 = 1
        · have q1 : (R.1 == 1) = true := by rw [v1]; rfl
          rw [if_pos v1] at ihn
          have q8 : 8 ≤ 2 ^ 44 := by decide
          simp only [go_sem, mT, h2, n0, hzi, sv, stV]
          refine cP k1 ?_
          simp only [go_sem, q1, h3, q8]
          refine back [(i : Int)] 3 _ _ ?_ rfl (fun _ => ⟨by decide, rfl⟩) (ihn _ (wk_refl _))
          simp [go_sem, mT, slv, il]
        · have q1 : (R.1 == 1) = false := beq_eq_false_iff_ne.2 v1
          rw [if_neg v1] at ihn
          simp only [go_sem, mT, h2, n0, hzi, sv, stV]
          refine cP k1 ?_
          simp only [go_sem, q1, h3]
          refine back [] 1 _ _ ?_ rfl (fun h => absurd rfl h) (ihn _ (wk_refl _))
          simp [go_sem, mT, slv, il]
      · have n1 := il_ne hPe
        rw [(slr_some n1 true 1 1).1, (slr_some n1 true 1 1).2]
        by_cases v1 : R.1 = 1
        · have q1 : (R.1 == 1) = true := by rw [v1]; rfl
          rw [if_pos v1] at ihn
          have q8 : (P.length + 1) * 8 ≤ 2 ^ 44 := by omega
          simp only [go_sem, mT, h2, n0, hzi, sv, stV]
          refine cP k1 ?_
          simp only [go_sem, q1, h3, il_len, q8, il_snoc]
          refine back (P ++ [(i : Int)]) 1 _ _ ?_ rfl (fun _ => ⟨by decide, rfl⟩) (ihn _ (wk_refl _))
          have n2 := il_ne (P := P ++ [(i : Int)]) (by simp)
          rw [(slr_some n2 true 1 1).1]
          simp [go_sem, mT, il_len]
        · have q1 : (R.1 == 1) = false := beq_eq_false_iff_ne.2 v1
          rw [if_neg v1] at ihn
          simp only [go_sem, mT, h2, n0, hzi, sv, stV]
          refine cP k1 ?_
          simp only [go_sem, q1, h3]
          refine back P 1 _ _ ?_ rfl (fun _ => ⟨by decide, rfl⟩) (ihn _ (wk_refl _))
          rw [(slr_some n1 true 1 1).1]
          simp [go_sem, mT, il_len]
    · rw [if_neg c] at k1
      have hst := hst c
      obtain rfl := hst
      have q1 : (sfE p.1 p.2 b z s f != 0) = true := by simpa using c
      rw [if_neg c]
      generalize sfE p.1 p.2 b z s f = E at *
      simp only [i3, stV] at k1
      by_cases hPe : P = []
      · subst hPe
        have e1 : slv 1 (il []) = .nilsl := rfl
        have e2 : slrG true 1 (il []) = [] := rfl
        rw [e1, e2]
        simp only [go_sem, mT, h2, n0, hzi, sv, stV]
        refine cP k1 ?_
        simp only [go_sem, q1]
        exact keptL (j := 0) rfl fun h => absurd rfl h
      · have n1 := il_ne hPe
        rw [(slr_some n1 true 1 1).1, (slr_some n1 true 1 1).2]
        simp only [go_sem, mT, h2, n0, hzi, sv, stV]
        refine cP k1 ?_
        simp only [go_sem, q1]
        exact keptL (j := 0) rfl fun h => absurd rfl h
  · have h2 : ¬ (i : Int) < l.length := by omega
    obtain rfl : i = l.length := by omega
    clear ih
    rw [fstE_end] at hR
    subst hR
    rw [if_pos rfl]
    obtain ⟨P, hP⟩ : ∃ P, mtP l b z s f l.length = P := ⟨_, rfl⟩
    rw [hP]
    by_cases hPe : P = []
    · subst hPe
      have e1 : slv 1 (il []) = .nilsl := rfl
      have e2 : slrG true 1 (il []) = [] := rfl
      rw [e1, e2]
      simp only [go_sem, mT, h2]
      exact keptL (j := 0) rfl fun h => absurd rfl h
    · have n1 := il_ne hPe
      rw [(slr_some n1 true 1 1).1, (slr_some n1 true 1 1).2]
      simp only [go_sem, mT, h2]
      have kk := keptL (E := 0) (L := P) (j := 1) (v := .tup [.sl 1 0 (il P).length, .int .i64 0]) (H' := [some (.cells false 2 [stV b z]), some (.cells true 1 (il P))]) (by rw [(slr_some n1 true 1 1).1]) (fun _ => rfl)
      rw [(slr_some n1 true 1 1).2] at kk
      exact kk
end Go.Proofs

namespace Go.Proofs
open Go Go.Sx
attribute [local irreducible] Run

set_option maxHeartbeats 8000000 in
set_option maxRecDepth 20000 in
theorem rMatches_raw (l : SL) (hz : ∀ p ∈ l, p.2.length ≤ 1000) (b : Int) (z : List Zn) (hz2 : z.length ≤ 1000) (s f : Int) :
    Ans Try.prog n_ref05_Matches [.view (l.map sv), stV b z, .int .i64 s, .int .i64 f] [] (.tup [slv 0 (il (mtL l b z s f)), .int .i64 (mtE l b z s f)]) (slrG true 1 (il (mtL l b z s f))) := by
  have sb : ∀ F : Nat → Prop, (Row.cells false 2 [stV b z]).bel F := fun F => by rw [row_bel_cells]; simp only [go_sem, stV]
  have hml : ∀ L : List Int, Bel (· < (slrG true 1 (il L)).length) (.tup [slv 0 (il L), .int .i64 (mtE l b z s f)]) ∧ Full (· < (slrG true 1 (il L)).length) (slrG true 1 (il L)) := fun L => by
    by_cases hL : L = []
    · subst hL; exact ⟨by simp [go_sem, slv, il], by simp [slrG, il]; trivial⟩
    · have n1 := il_ne hL
      rw [(slr_some n1 true 1 0).1, (slr_some n1 true 1 0).2]
      exact ⟨by simp [go_sem], by rw [row_bel_cells]; unfold il; exact bels_map _ _ fun z => by simp only [go_sem], trivial⟩
  refine Ans.keep (run_fn e_ref05_Matches fun G => ?_) (Nat.zero_le _) (hml _).1 (hml _).2
  clear hml
  unfold mtL
  by_cases hn : l.length > 12
  · have e : mtE l b z s f = 8 := by unfold mtE; rw [if_pos hn]
    have c1 : (l.length : Int) > 12 := by omega
    rw [e, if_neg (by decide)]
    simp only [go_sem, stV, c1, List.length_map]
    exact keptL (j := 0) rfl fun h => absurd rfl h
  have c1 : ¬ (l.length : Int) > 12 := by omega
  have e : mtE l b z s f = fstE (erS l b z s f) l.length 0 := by unfold mtE; rw [if_neg hn]
  rw [e]
  obtain ⟨RES, hRES⟩ : ∃ R, fstE (erS l b z s f) l.length 0 = R := ⟨_, rfl⟩
  rw [hRES]
  simp only [go_sem, stV, c1, List.length_map]
  refine loop_indH k_ref05_Matches_r9.eq_1 (fun i : Nat => i ≤ l.length ∧ fstE (erS l b z s f) (l.length - i) i = RES ∧ ∀ j, j < i → erS l b z s f j = 0) (fun i => l.length - i)
    (fun i => tsets 60 [(0, .view (l.map sv)), (2, .int .i64 s), (3, .int .i64 f), (5, .ptr 0 0 0 1), (8, .nilsl), (9, .int .i64 0), (10, .int .i64 i)]) 0 ⟨Nat.zero_le _, hRES, fun j hj => absurd hj (Nat.not_lt_zero _)⟩ (by simp [go_sem]) ?_
  clear hRES
  rintro i ⟨hi, hR, hz0⟩ ih
  by_cases h1 : i < l.length
  · have h2 : (i : Int) < l.length := by omega
    have n0 : ¬ (i : Int) < 0 := by omega
    have h3 : IntKind.i64.wrap ((i : Int) + 1) = ((i + 1 : Nat) : Int) := by rw [w64 (by omega)]; rfl
    obtain ⟨p, hzi⟩ : ∃ p, l[i]? = some p := ⟨_, List.getElem?_eq_getElem h1⟩
    have ez : l.getD i default = p := by rw [List.getD_eq_getElem?_getD, hzi]; rfl
    have hpl := hz p (List.mem_of_getElem? hzi)
    have k1 := rcheckFrom_raw p.1 p.2 hpl b z hz2 s f
    have her : erS l b z s f i = sfE p.1 p.2 b z s f := by unfold erS; rw [ez]
    have ihn := fun (h0 : erS l b z s f i = 0) => ih (i + 1) (by omega) ⟨h1, by rw [← fstE_go h1 h0]; exact hR, fun j hj => by
      by_cases e : j = i
      · rw [e]; exact h0
      · exact hz0 j (by omega)⟩
    have hst := fun (h0 : erS l b z s f i ≠ 0) => (fstE_stop h1 h0).symm.trans hR
    clear ih hR
    rw [her] at ihn hst
    simp only [stV] at k1
    by_cases c : sfE p.1 p.2 b z s f = 0
    · have ihm := ihn c
      clear ihn
      have q1 : (sfE p.1 p.2 b z s f != 0) = false := by rw [c]; rfl
      generalize sfE p.1 p.2 b z s f = E at *
      simp only [go_sem, h2, n0, hzi, sv, stV, List.length_map]
      refine cP k1 ?_
      simp only [go_sem, q1, h3]
      exact ihm _ (by simp [go_sem])
    · have hst := hst c
      obtain rfl := hst
      have q1 : (sfE p.1 p.2 b z s f != 0) = true := by simpa using c
      rw [if_neg c]
      generalize sfE p.1 p.2 b z s f = E at *
      simp only [go_sem, h2, n0, hzi, sv, stV, List.length_map]
      refine cP k1 ?_
      simp only [go_sem, q1]
      exact keptL (j := 0) rfl fun h => absurd rfl h
  have h2 : ¬ (i : Int) < l.length := by omega
  obtain rfl : i = l.length := by omega
  clear ih
  rw [fstE_end] at hR
  subst hR
  rw [if_pos rfl]
  simp only [go_sem, h2, List.length_map]
  refine loop_ind k_ref05_Matches_r17.eq_1 (fun i : Nat => i ≤ l.length) (fun i => l.length - i)
    (fun i => (nT l s f i (slv 1 (il (mtP l b z s f i))), some (.cells false 2 [stV b z]) :: slrG true 1 (il (mtP l b z s f i)))) 0 (Nat.zero_le _) (by simp [go_sem, nT, mtP, il, slv]) rfl ?_
  clear hi h2
  intro i hi ih
  dsimp only at hi ih ⊢
  by_cases h1 : i < l.length
  · have h2 : (i : Int) < l.length := by omega
    have n0 : ¬ (i : Int) < 0 := by omega
    have h3 : IntKind.i64.wrap ((i : Int) + 1) = ((i + 1 : Nat) : Int) := by rw [w64 (by omega)]; rfl
    obtain ⟨p, hzi⟩ : ∃ p, l[i]? = some p := ⟨_, List.getElem?_eq_getElem h1⟩
    have ez : l.getD i default = p := by rw [List.getD_eq_getElem?_getD, hzi]; rfl
    have her : erS l b z s f i = sfE p.1 p.2 b z s f := by unfold erS; rw [ez]
    obtain ⟨o1, o2, o3, o4⟩ := sfE_ok (her.symm.trans (hz0 i h1))
    have k1 := rseal_run o1 o2 o3 o4
    have hvd : vdS l b z s f i = (sealR p.1 b p.2 z s f).1 := by unfold vdS; rw [ez]
    have hpn : mtP l b z s f (i + 1) = if (sealR p.1 b p.2 z s f).1 = 1 then mtP l b z s f i ++ [(i : Int)] else mtP l b z s f i := by rw [mtP, hvd]
    have ihn := ih (i + 1) (by omega) h1
    have hlen := mtP_len l b z s f i
    clear ih
    rw [hpn] at ihn
    obtain ⟨P, hP⟩ : ∃ P, mtP l b z s f i = P := ⟨_, rfl⟩
    rw [hP] at ihn hlen
    rw [hP]
    obtain ⟨R, hRR⟩ : ∃ R, sealR p.1 b p.2 z s f = R := ⟨_, rfl⟩
    rw [hRR] at k1 ihn
    simp only [stV] at k1
    have back := fun (P' : List Int) (j : Nat) (ρ : List AVal) (H : Heap) hW h0 hj => mt_back (Q := RetPost [.tmp 8, .tmp 9] fun v H' => ∃ σ, Kept [] (slrG true 1 (il (mtP l b z s f l.length))) (.tup [slv 0 (il (mtP l b z s f l.length)), .int .i64 0]) v H' σ)
      (rd := none) (c := k_ref05_Matches_r17) (fs := [.blk 2, .seq (.seq (.reg k_ref05_Matches_r18 false) .ret)]) (G := G) (ρ := ρ) (H := H) sb (P := P') (j := j) (nT l s f (i + 1)) hW nT_wk nT_bel h0 hj
    by_cases hPe : P = []
    · subst hPe
      have e1 : slv 1 (il []) = .nilsl := rfl
      have e2 : slrG true 1 (il []) = [] := rfl
      rw [e1, e2]
      by_cases v1 : R.1 = 1
      · have q1 : (R.1 == 1) = true := by rw [v1]; rfl
        rw [if_pos v1] at ihn
        have q8 : 8 ≤ 2 ^ 44 := by decide
        simp only [go_sem, nT, h2, n0, hzi, sv, stV, List.length_map]
        refine cP k1 ?_
        simp only [go_sem, q1, h3, q8]
        refine back [(i : Int)] 2 _ _ ?_ rfl (fun _ => ⟨by decide, rfl⟩) (ihn _ (wk_refl _))
        simp [go_sem, nT, slv, il]
      · have q1 : (R.1 == 1) = false := beq_eq_false_iff_ne.2 v1
        rw [if_neg v1] at ihn
        simp only [go_sem, nT, h2, n0, hzi, sv, stV, List.length_map]
        refine cP k1 ?_
        simp only [go_sem, q1, h3]
        refine back [] 1 _ _ ?_ rfl (fun h => absurd rfl h) (ihn _ (wk_refl _))
        simp [go_sem, nT, slv, il]
    · have n1 := il_ne hPe
      rw [(slr_some n1 true 1 1).1, (slr_some n1 true 1 1).2]
      by_cases v1 : R.1 = 1
      · have q1 : (R.1 == 1) = true := by rw [v1]; rfl
        rw [if_pos v1] at ihn
        have q8 : (P.length + 1) * 8 ≤ 2 ^ 44 := by omega
        simp only [go_sem, nT, h2, n0, hzi, sv, stV, List.length_map]
        refine cP k1 ?_
        simp only [go_sem, q1, h3, il_len, q8, il_snoc]
        refine back (P ++ [(i : Int)]) 1 _ _ ?_ rfl (fun _ => ⟨by decide, rfl⟩) (ihn _ (wk_refl _))
        have n2 := il_ne (P := P ++ [(i : Int)]) (by simp)
        rw [(slr_some n2 true 1 1).1]
        simp [go_sem, nT, il_len]
      · have q1 : (R.1 == 1) = false := beq_eq_false_iff_ne.2 v1
        rw [if_neg v1] at ihn
        simp only [go_sem, nT, h2, n0, hzi, sv, stV, List.length_map]
        refine cP k1 ?_
        simp only [go_sem, q1, h3]
        refine back P 1 _ _ ?_ rfl (fun _ => ⟨by decide, rfl⟩) (ihn _ (wk_refl _))
        rw [(slr_some n1 true 1 1).1]
        simp [go_sem, nT, il_len]
  · have h2 : ¬ (i : Int) < l.length := by omega
    obtain rfl : i = l.length := by omega
    clear ih
    obtain ⟨P, hP⟩ : ∃ P, mtP l b z s f l.length = P := ⟨_, rfl⟩
    rw [hP]
    by_cases hPe : P = []
    · subst hPe
      have e1 : slv 1 (il []) = .nilsl := rfl
      have e2 : slrG true 1 (il []) = [] := rfl
      rw [e1, e2]
      simp only [go_sem, nT, h2, List.length_map]
      exact keptL (j := 0) rfl fun h => absurd rfl h
    · have n1 := il_ne hPe
      rw [(slr_some n1 true 1 1).1, (slr_some n1 true 1 1).2]
      simp only [go_sem, nT, h2, List.length_map]
      have kk := keptL (E := 0) (L := P) (j := 1) (v := .tup [.sl 1 0 (il P).length, .int .i64 0]) (H' := [some (.cells false 2 [stV b z]), some (.cells true 1 (il P))]) (by rw [(slr_some n1 true 1 1).1]) (fun _ => rfl)
      rw [(slr_some n1 true 1 1).2] at kk
      exact kk
end Go.Proofs

namespace Go.Proofs
open Go Go.Sx
attribute [local irreducible] Run

@[go_sem] theorem svs_belT (l : SL) (F : Nat → Prop) : Bels F (l.map sv) = True := eq_true (svs_bel l F)
theorem il_nil {P : List Int} (h : P = []) : il P = [] := by subst h; rfl
theorem il_bel (P : List Int) (F : Nat → Prop) : Bels F (il P) := by unfold il; exact bels_map _ _ fun z => by simp only [go_sem]
theorem mtL_len (l : SL) (b : Int) (z : List Zn) (s f : Int) : (mtL l b z s f).length ≤ l.length := by
  unfold mtL; split
  · exact mtP_len _ _ _ _ _ _
  · simp
theorem st_frz5 {H : Heap} {b : Int} {zs : List Zn} {j n : Nat} {g : Bool} (h : H[j]? = some (some (.cells g 5 (zs.map Zn.v)))) (hn : n = zs.length) : frz 5 H (.agg [.int .i64 b, .sl j 0 n]) = stV b zs := by
  have h1 : frz 4 H (.sl j 0 n) = .view (zs.map Zn.v) := by
    rw [frz_sl (d := 3) h (by simpa using hn), List.map_map]; rfl
  show AVal.agg [_, frz 4 H (.sl j 0 n)] = _
  rw [h1]; rfl
theorem stl_frz {H : Heap} {b c : Int} {x y : List Zn} {j p q n m : Nat} {g g1 g2 : Bool} (h : H[j]? = some (some (.cells g 2 [.agg [.int .i64 b, .sl p 0 n], .agg [.int .i64 c, .sl q 0 m], .agg [.int .i64 b, .sl p 0 n]])))
    (h1 : H[p]? = some (some (.cells g1 5 (x.map Zn.v)))) (h2 : H[q]? = some (some (.cells g2 5 (y.map Zn.v)))) (hn : n = x.length) (hm : m = y.length) : frz 6 H (.sl j 0 3) = .view ([(b, x), (c, y), (b, x)].map sv) := by
  rw [frz_sl (d := 5) (n := 3) h rfl]
  simp only [List.map_cons, List.map_nil, st_frz5 h1 hn, st_frz5 h2 hm]
  rfl
theorem ksame_nil : Ans Try.prog n_kit_Same [.nilsl, .nilsl] [] (.bool true) [] := by
  refine spec_run e_kit_Same fun G => ?_
  simp only [go_sem]
  refine loop_body 400 k_kit_Same_r8.eq_1 ?_
  simp only [go_sem]
set_option maxHeartbeats 64000000 in
set_option maxRecDepth 20000 in
theorem seals_law (b0 : Int) (z0 : List Zn) (b1 : Int) (z1 : List Zn) (l : SL) (a3 a4 : Int) (ns : List Int) (hl : ns.length ≤ 9223372036854775807) (hz0 : z0.length ≤ 9223372036854775807) (hz1 : z1.length ≤ 9223372036854775807) (hll : l.length ≤ 9223372036854775807) (hlz : ∀ p ∈ l, p.2.length ≤ 9223372036854775807) :
    Ans Try.prog n_law05_GlassSeals [stV b0 z0, stV b1 z1, .view (l.map sv), .int .i64 a3, .int .i64 a4, .view (ns.map (.int .i64))] [] (.bool true) [] := by
  refine spec_run e_law05_GlassSeals fun G => ?_
  by_cases c1 : (z0.length : Int) > 30
  · simp only [go_sem, stV, c1, List.length_map]
    refine cP awake_ok ?_
    simp only [go_sem]
  by_cases c2 : (z1.length : Int) > 30
  · simp only [go_sem, stV, c1, c2, List.length_map]
    refine cP awake_ok ?_
    simp only [go_sem]
  by_cases c3 : (l.length : Int) > 14
  · simp only [go_sem, stV, c1, c2, c3, List.length_map]
    refine cP awake_ok ?_
    simp only [go_sem]
  have h0 : z0.length ≤ 1000 := by omega
  have h1 : z1.length ≤ 1000 := by omega
  have x1 : IntKind.i64.wrap 1 = 1 := by decide
  have x2 : IntKind.i64.wrap 2 = 2 := by decide
  have x3 : IntKind.i64.wrap 3 = 3 := by decide
  have y1 : (1 : Int).toNat = 1 := rfl
  have y2 : (2 : Int).toNat = 2 := rfl
  have kS0 := Seal_raw b0 z0 h0 b1 z1 h1 a3 a4
  have kR0 := rSeal_raw b0 z0 h0 b1 z1 h1 a3 a4
  obtain ⟨V0, hV0⟩ : ∃ V, seT b0 z0 b1 z1 a3 a4 = V := ⟨_, rfl⟩
  rw [hV0] at kS0 kR0
  simp only [stV, i3] at kS0 kR0
  clear hV0
  simp only [go_sem, stV, c1, c2, c3, List.length_map]
  refine loop_indH k_law05_GlassSeals_r8.eq_1 (fun i : Nat => i ≤ l.length ∧ ∀ j p, j < i → l[j]? = some p → p.2.length ≤ 30) (fun i => l.length - i)
    (fun i => tsets 245 [(2, .view (l.map sv)), (3, .int .i64 a3), (4, .int .i64 a4), (5, .view (ns.map (.int .i64))), (6, .ptr 0 0 0 1), (7, .ptr 1 0 0 1), (12, .bool false), (13, .int .i64 i)]) 0 ⟨Nat.zero_le _, fun j p hj => absurd hj (Nat.not_lt_zero _)⟩ (by simp [go_sem]) ?_
  rintro i ⟨hi, hsm⟩ ih
  by_cases i1 : i < l.length
  · have i2 : (i : Int) < l.length := by omega
    have n0 : ¬ (i : Int) < 0 := by omega
    have w9 : IntKind.i64.wrap ((i : Int) + 1) = ((i + 1 : Nat) : Int) := by rw [w64 (by omega)]; rfl
    obtain ⟨p, hzi⟩ : ∃ p, l[i]? = some p := ⟨_, List.getElem?_eq_getElem i1⟩
    by_cases cp : (p.2.length : Int) > 30
    · clear ih
      simp only [go_sem, i2, n0, hzi, sv, stV, cp, List.length_map]
      refine cP awake_ok ?_
      simp only [go_sem]
    · have ihn := ih (i + 1) (by omega) ⟨i1, fun j q hj hq => by
        by_cases e : j = i
        · rw [e, hzi] at hq; cases hq; omega
        · exact hsm j q (by omega) hq⟩
      clear ih
      simp only [go_sem, i2, n0, hzi, sv, stV, cp, List.length_map, w9]
      exact ihn _ (by simp [go_sem])
  have i2 : ¬ (i : Int) < l.length := by omega
  obtain rfl : i = l.length := by omega
  clear ih
  have hlm : ∀ p ∈ l, p.2.length ≤ 1000 := fun p hp => by
    obtain ⟨j, hj⟩ := List.getElem?_of_mem hp
    have := hsm j p (List.getElem?_eq_some_iff.1 hj).1 hj
    omega
  have kM0 := Matches_raw l hlm b1 z1 h1 a3 a4
  have kN0 := rMatches_raw l hlm b1 z1 h1 a3 a4
  obtain ⟨L0, hL0⟩ : ∃ L, mtL l b1 z1 a3 a4 = L := ⟨_, rfl⟩
  obtain ⟨E0, hE0⟩ : ∃ L, mtE l b1 z1 a3 a4 = L := ⟨_, rfl⟩
  have hL0n : L0.length ≤ 1000000 := by rw [← hL0]; exact Nat.le_trans (mtL_len _ _ _ _ _) (by omega)
  rw [hL0, hE0] at kM0 kN0
  simp only [stV] at kM0 kN0
  clear hL0 hE0 hsm hlm
  have svb : ∀ F : Nat → Prop, Bels F (l.map sv) := svs_bel l
  simp only [go_sem, i2, List.length_map]
  refine callN1 (newdice_ok ns hl) (by simp only [go_sem]) (dr_bel _ _) (by simp) (by simp) ?_
  generalize seedW ns = w
  simp only [go_sem]
  refine callDN (stuffOf_run w) rfl (by simp only [go_sem]) (dr_bel _ _) (fun a ha => ⟨by simp [go_sem], dr_bel _ _, by rw [row_bel_cells]; simp only [go_sem]⟩) (by simp) (by simp) ?_
  rintro ⟨bA, zA, wA⟩ hA
  dsimp only at hA ⊢
  simp only [go_sem, ren, rens]
  refine callDN (stuffOf_run wA) rfl (by simp only [go_sem]) (dr_bel _ _) (fun a ha => ⟨by simp [go_sem], dr_bel _ _, by rw [row_bel_cells]; simp only [go_sem]⟩) (by simp) (by simp) ?_
  rintro ⟨bB, zB, wB⟩ hB
  dsimp only at hB ⊢
  simp only [go_sem, ren, rens]
  have lA := hA.zs.len
  have lB := hB.zs.len
  have g1 := btw_in (w := wB) (lo := 300) (hi := 1200) (by decide)
  have g2' := btw_in (w := dstep wB) (lo := 0) (hi := 300) (by decide)
  refine cD (between_ok _ 300 1200 (by decide) (by decide) (by decide)) ?_
  simp only [go_sem]
  refine cD (between_ok _ 0 300 (by decide) (by decide) (by decide)) ?_
  simp only [go_sem]
  obtain ⟨sE, hsE⟩ : ∃ t, btw wB 300 1200 = t := ⟨_, rfl⟩
  obtain ⟨fr, hfr⟩ : ∃ t, btw (dstep wB) 0 300 = t := ⟨_, rfl⟩
  obtain ⟨w2, hw2⟩ : ∃ t, dstep (dstep wB) = t := ⟨_, rfl⟩
  rw [hsE] at g1
  rw [hfr] at g2'
  rw [hsE, hfr, hw2]
  have km := rMismatch_run hA hB (set := sE) (t := fr) (by omega) (by omega)
  have m1 := groR_in hA.zs (f := sE) (t := fr) (by omega) (by omega)
  have m2 := groR_in hB.zs (f := sE) (t := fr) (by omega) (by omega)
  have mb : -400000000 ≤ (misR zA zB sE fr).1 ∧ (misR zA zB sE fr).1 ≤ 400000000 ∧ -400000000 ≤ (misR zA zB sE fr).2 ∧ (misR zA zB sE fr).2 ≤ 400000000 := by unfold misR; dsimp only; omega
  obtain ⟨M, hM⟩ : ∃ M, misR zA zB sE fr = M := ⟨_, rfl⟩
  rw [hM] at km mb
  clear m1 m2 hM hsE hfr hw2
  simp only [r2] at km
  have wn : IntKind.i64.wrap (0 - M.1) = -M.1 := by rw [w64 (by omega)]; omega
  obtain ⟨m1, hm1⟩ : ∃ m, (if -M.1 > M.2 then -M.1 else M.2) = m := ⟨_, rfl⟩
  have m1b : m1 ≤ 400000000 := by rw [← hm1]; split <;> omega
  obtain ⟨x, hx⟩ : ∃ m, (if 1 > m1 then 1 else m1) = m := ⟨_, rfl⟩
  have xb : 1 ≤ x ∧ x ≤ 400000000 := by rw [← hx]; split <;> omega
  have xl : x ≤ 1000000000 := by omega
  refine cF km 6 ⟨.inl (st_frz (g := true) rfl rfl), .inl (st_frz (g := true) rfl rfl), .inl rfl, .inl rfl, trivial⟩ ?_
  simp only [go_sem, wn, hm1, hx, xl]
  refine cD (one_ok w2 2 (by decide)) ?_
  by_cases o : upto w2 2 = 0
  · have o1 : (upto w2 2 == 0) = true := by rw [o]; rfl
    have u3 := upto_in (w := dstep w2) (n := 3) (by decide)
    simp only [go_sem, o1]
    refine cD (upto_ok (dstep w2) 3 (by decide)) ?_
    have wu : IntKind.i64.wrap (x - upto (dstep w2) 3) = x - upto (dstep w2) 3 := w64 (by omega)
    obtain ⟨bN, hbN⟩ : ∃ m, (if x - upto (dstep w2) 3 > 1 then x - upto (dstep w2) 3 else 1) = m := ⟨_, rfl⟩
    simp only [go_sem, wu, hbN]
    have kS1 := Seal_raw bN zA (by omega) x zB (by omega) sE fr
    have kR1 := rSeal_raw bN zA (by omega) x zB (by omega) sE fr
    have kS2 := Seal_raw bN zA (by omega) x zB (by omega) a3 a4
    have kR2 := rSeal_raw bN zA (by omega) x zB (by omega) a3 a4
    obtain ⟨V1, hV1⟩ : ∃ V, seT bN zA x zB sE fr = V := ⟨_, rfl⟩
    obtain ⟨V2, hV2⟩ : ∃ V, seT bN zA x zB a3 a4 = V := ⟨_, rfl⟩
    rw [hV1] at kS1 kR1
    rw [hV2] at kS2 kR2
    simp only [i3] at kS1 kR1 kS2 kR2
    have hm3 : ∀ p ∈ [(bN, zA), (x, zB), (bN, zA)], p.2.length ≤ 1000 := fun p hp => by
      simp at hp
      rcases hp with rfl | rfl | rfl <;> dsimp only <;> omega
    have kM1 := Matches_raw [(bN, zA), (x, zB), (bN, zA)] hm3 x zB (by omega) sE fr
    have kN1 := rMatches_raw [(bN, zA), (x, zB), (bN, zA)] hm3 x zB (by omega) sE fr
    obtain ⟨L1, hL1⟩ : ∃ L, mtL [(bN, zA), (x, zB), (bN, zA)] x zB sE fr = L := ⟨_, rfl⟩
    obtain ⟨E1, hE1⟩ : ∃ L, mtE [(bN, zA), (x, zB), (bN, zA)] x zB sE fr = L := ⟨_, rfl⟩
    have hL1n : L1.length ≤ 1000000 := by rw [← hL1]; exact Nat.le_trans (mtL_len _ _ _ _ _) (by simp)
    rw [hL1, hE1] at kM1 kN1
    clear hV1 hV2 hL1 hE1 hm3
    refine loop_body 400 k_law05_GlassSeals_r24.eq_1 ?_
    simp only [go_sem, x1, x2, x3, y1, y2]
    refine cP kS0 ?_
    simp only [go_sem]
    refine cP kR0 ?_
    simp only [go_sem, bne_self_eq_false, x1, x2, x3]
    refine loop_body 400 k_law05_GlassSeals_r24.eq_1 ?_
    simp only [go_sem, x1, x2, x3, y1, y2]
    refine cF kS1 6 ⟨.inl (st_frz (g := true) rfl rfl), .inl (st_frz (g := true) rfl rfl), .inl rfl, .inl rfl, trivial⟩ ?_
    simp only [go_sem]
    refine cF kR1 6 ⟨.inl (st_frz (g := true) rfl rfl), .inl (st_frz (g := true) rfl rfl), .inl rfl, .inl rfl, trivial⟩ ?_
    simp only [go_sem, bne_self_eq_false, x1, x2, x3]
    refine loop_body 400 k_law05_GlassSeals_r24.eq_1 ?_
    simp only [go_sem, x1, x2, x3, y1, y2]
    refine cF kS2 6 ⟨.inl (st_frz (g := true) rfl rfl), .inl (st_frz (g := true) rfl rfl), .inl rfl, .inl rfl, trivial⟩ ?_
    simp only [go_sem]
    refine cF kR2 6 ⟨.inl (st_frz (g := true) rfl rfl), .inl (st_frz (g := true) rfl rfl), .inl rfl, .inl rfl, trivial⟩ ?_
    simp only [go_sem, bne_self_eq_false, x1, x2, x3]
    refine loop_body 400 k_law05_GlassSeals_r24.eq_1 ?_
    simp only [go_sem, x1, x2, x3, y1, y2]
    by_cases hP0 : L0 = []
    · skip
      rw [(slr_none (il_nil hP0) true 1 0).1, (slr_none (il_nil hP0) true 1 0).2] at kM0 kN0
      refine cP kM0 ?_
      simp only [go_sem]
      refine cP kN0 ?_
      simp only [go_sem]
      by_cases hP1 : L1 = []
      · skip
        rw [(slr_none (il_nil hP1) true 1 0).1, (slr_none (il_nil hP1) true 1 0).2] at kM1 kN1
        refine cF kM1 6 ⟨.inl (stl_frz rfl rfl rfl rfl rfl), .inl (st_frz (g := true) rfl rfl), .inl rfl, .inl rfl, trivial⟩ ?_
        simp only [go_sem]
        refine cF kN1 6 ⟨.inl (stl_frz rfl rfl rfl rfl rfl), .inl (st_frz (g := true) rfl rfl), .inl rfl, .inl rfl, trivial⟩ ?_
        simp only [go_sem]
        refine cP ksame_nil ?_
        simp only [go_sem]
        refine cP ksame_nil ?_
        simp only [go_sem]
        refine cP awake_ok ?_
        simp only [go_sem]
      · skip
        rw [(slr_some (il_ne hP1) true 1 0).1, (slr_some (il_ne hP1) true 1 0).2] at kM1 kN1
        refine cFN kM1 6 ⟨.inl (stl_frz rfl rfl rfl rfl rfl), .inl (st_frz (g := true) rfl rfl), .inl rfl, .inl rfl, trivial⟩ ?_ (hx := by rw [row_bel_cells]; exact il_bel _ _) (hxn := row_nv_cells _ _ (nvs_map _ _ fun z => by simp only [go_sem]))
        simp only [go_sem, ren, rens]
        refine cFN kN1 6 ⟨.inl (stl_frz rfl rfl rfl rfl rfl), .inl (st_frz (g := true) rfl rfl), .inl rfl, .inl rfl, trivial⟩ ?_ (hx := by rw [row_bel_cells]; exact il_bel _ _) (hxn := row_nv_cells _ _ (nvs_map _ _ fun z => by simp only [go_sem]))
        simp only [go_sem, ren, rens]
        refine cP ksame_nil ?_
        simp only [go_sem]
        refine cF (kSame_run hL1n) 6 ⟨.inl (il_frz rfl (il_len _).symm), .inl (il_frz rfl (il_len _).symm), trivial⟩ ?_
        simp only [go_sem]
        refine cP awake_ok ?_
        simp only [go_sem]
    · skip
      rw [(slr_some (il_ne hP0) true 1 0).1, (slr_some (il_ne hP0) true 1 0).2] at kM0 kN0
      refine cN1 kM0 ?_ (hx := by rw [row_bel_cells]; exact il_bel _ _)
      simp only [go_sem, ren, rens]
      refine cN1 kN0 ?_ (hx := by rw [row_bel_cells]; exact il_bel _ _)
      simp only [go_sem, ren, rens]
      by_cases hP1 : L1 = []
      · skip
        rw [(slr_none (il_nil hP1) true 1 0).1, (slr_none (il_nil hP1) true 1 0).2] at kM1 kN1
        refine cF kM1 6 ⟨.inl (stl_frz rfl rfl rfl rfl rfl), .inl (st_frz (g := true) rfl rfl), .inl rfl, .inl rfl, trivial⟩ ?_
        simp only [go_sem]
        refine cF kN1 6 ⟨.inl (stl_frz rfl rfl rfl rfl rfl), .inl (st_frz (g := true) rfl rfl), .inl rfl, .inl rfl, trivial⟩ ?_
        simp only [go_sem]
        refine cF (kSame_run hL0n) 6 ⟨.inl (il_frz rfl (il_len _).symm), .inl (il_frz rfl (il_len _).symm), trivial⟩ ?_
        simp only [go_sem]
        refine cP ksame_nil ?_
        simp only [go_sem]
        refine cP awake_ok ?_
        simp only [go_sem]
      · skip
        rw [(slr_some (il_ne hP1) true 1 0).1, (slr_some (il_ne hP1) true 1 0).2] at kM1 kN1
        refine cFN kM1 6 ⟨.inl (stl_frz rfl rfl rfl rfl rfl), .inl (st_frz (g := true) rfl rfl), .inl rfl, .inl rfl, trivial⟩ ?_ (hx := by rw [row_bel_cells]; exact il_bel _ _) (hxn := row_nv_cells _ _ (nvs_map _ _ fun z => by simp only [go_sem]))
        simp only [go_sem, ren, rens]
        refine cFN kN1 6 ⟨.inl (stl_frz rfl rfl rfl rfl rfl), .inl (st_frz (g := true) rfl rfl), .inl rfl, .inl rfl, trivial⟩ ?_ (hx := by rw [row_bel_cells]; exact il_bel _ _) (hxn := row_nv_cells _ _ (nvs_map _ _ fun z => by simp only [go_sem]))
        simp only [go_sem, ren, rens]
        refine cF (kSame_run hL0n) 6 ⟨.inl (il_frz rfl (il_len _).symm), .inl (il_frz rfl (il_len _).symm), trivial⟩ ?_
        simp only [go_sem]
        refine cF (kSame_run hL1n) 6 ⟨.inl (il_frz rfl (il_len _).symm), .inl (il_frz rfl (il_len _).symm), trivial⟩ ?_
        simp only [go_sem]
        refine cP awake_ok ?_
        simp only [go_sem]
  · have o1 : (upto w2 2 == 0) = false := beq_eq_false_iff_ne.2 o
    simp only [go_sem, o1]
    have kS1 := Seal_raw bA zA (by omega) bB zB (by omega) sE fr
    have kR1 := rSeal_raw bA zA (by omega) bB zB (by omega) sE fr
    have kS2 := Seal_raw bA zA (by omega) bB zB (by omega) a3 a4
    have kR2 := rSeal_raw bA zA (by omega) bB zB (by omega) a3 a4
    obtain ⟨V1, hV1⟩ : ∃ V, seT bA zA bB zB sE fr = V := ⟨_, rfl⟩
    obtain ⟨V2, hV2⟩ : ∃ V, seT bA zA bB zB a3 a4 = V := ⟨_, rfl⟩
    rw [hV1] at kS1 kR1
    rw [hV2] at kS2 kR2
    simp only [i3] at kS1 kR1 kS2 kR2
    have hm3 : ∀ p ∈ [(bA, zA), (bB, zB), (bA, zA)], p.2.length ≤ 1000 := fun p hp => by
      simp at hp
      rcases hp with rfl | rfl | rfl <;> dsimp only <;> omega
    have kM1 := Matches_raw [(bA, zA), (bB, zB), (bA, zA)] hm3 bB zB (by omega) sE fr
    have kN1 := rMatches_raw [(bA, zA), (bB, zB), (bA, zA)] hm3 bB zB (by omega) sE fr
    obtain ⟨L1, hL1⟩ : ∃ L, mtL [(bA, zA), (bB, zB), (bA, zA)] bB zB sE fr = L := ⟨_, rfl⟩
    obtain ⟨E1, hE1⟩ : ∃ L, mtE [(bA, zA), (bB, zB), (bA, zA)] bB zB sE fr = L := ⟨_, rfl⟩
    have hL1n : L1.length ≤ 1000000 := by rw [← hL1]; exact Nat.le_trans (mtL_len _ _ _ _ _) (by simp)
    rw [hL1, hE1] at kM1 kN1
    clear hV1 hV2 hL1 hE1 hm3
    refine loop_body 400 k_law05_GlassSeals_r24.eq_1 ?_
    simp only [go_sem, x1, x2, x3, y1, y2]
    refine cP kS0 ?_
    simp only [go_sem]
    refine cP kR0 ?_
    simp only [go_sem, bne_self_eq_false, x1, x2, x3]
    refine loop_body 400 k_law05_GlassSeals_r24.eq_1 ?_
    simp only [go_sem, x1, x2, x3, y1, y2]
    refine cF kS1 6 ⟨.inl (st_frz (g := true) rfl rfl), .inl (st_frz (g := true) rfl rfl), .inl rfl, .inl rfl, trivial⟩ ?_
    simp only [go_sem]
    refine cF kR1 6 ⟨.inl (st_frz (g := true) rfl rfl), .inl (st_frz (g := true) rfl rfl), .inl rfl, .inl rfl, trivial⟩ ?_
    simp only [go_sem, bne_self_eq_false, x1, x2, x3]
    refine loop_body 400 k_law05_GlassSeals_r24.eq_1 ?_
    simp only [go_sem, x1, x2, x3, y1, y2]
    refine cF kS2 6 ⟨.inl (st_frz (g := true) rfl rfl), .inl (st_frz (g := true) rfl rfl), .inl rfl, .inl rfl, trivial⟩ ?_
    simp only [go_sem]
    refine cF kR2 6 ⟨.inl (st_frz (g := true) rfl rfl), .inl (st_frz (g := true) rfl rfl), .inl rfl, .inl rfl, trivial⟩ ?_
    simp only [go_sem, bne_self_eq_false, x1, x2, x3]
    refine loop_body 400 k_law05_GlassSeals_r24.eq_1 ?_
    simp only [go_sem, x1, x2, x3, y1, y2]
    by_cases hP0 : L0 = []
    · skip
      rw [(slr_none (il_nil hP0) true 1 0).1, (slr_none (il_nil hP0) true 1 0).2] at kM0 kN0
      refine cP kM0 ?_
      simp only [go_sem]
      refine cP kN0 ?_
      simp only [go_sem]
      by_cases hP1 : L1 = []
      · skip
        rw [(slr_none (il_nil hP1) true 1 0).1, (slr_none (il_nil hP1) true 1 0).2] at kM1 kN1
        refine cF kM1 6 ⟨.inl (stl_frz rfl rfl rfl rfl rfl), .inl (st_frz (g := true) rfl rfl), .inl rfl, .inl rfl, trivial⟩ ?_
        simp only [go_sem]
        refine cF kN1 6 ⟨.inl (stl_frz rfl rfl rfl rfl rfl), .inl (st_frz (g := true) rfl rfl), .inl rfl, .inl rfl, trivial⟩ ?_
        simp only [go_sem]
        refine cP ksame_nil ?_
        simp only [go_sem]
        refine cP ksame_nil ?_
        simp only [go_sem]
        refine cP awake_ok ?_
        simp only [go_sem]
      · skip
        rw [(slr_some (il_ne hP1) true 1 0).1, (slr_some (il_ne hP1) true 1 0).2] at kM1 kN1
        refine cFN kM1 6 ⟨.inl (stl_frz rfl rfl rfl rfl rfl), .inl (st_frz (g := true) rfl rfl), .inl rfl, .inl rfl, trivial⟩ ?_ (hx := by rw [row_bel_cells]; exact il_bel _ _) (hxn := row_nv_cells _ _ (nvs_map _ _ fun z => by simp only [go_sem]))
        simp only [go_sem, ren, rens]
        refine cFN kN1 6 ⟨.inl (stl_frz rfl rfl rfl rfl rfl), .inl (st_frz (g := true) rfl rfl), .inl rfl, .inl rfl, trivial⟩ ?_ (hx := by rw [row_bel_cells]; exact il_bel _ _) (hxn := row_nv_cells _ _ (nvs_map _ _ fun z => by simp only [go_sem]))
        simp only [go_sem, ren, rens]
        refine cP ksame_nil ?_
        simp only [go_sem]
        refine cF (kSame_run hL1n) 6 ⟨.inl (il_frz rfl (il_len _).symm), .inl (il_frz rfl (il_len _).symm), trivial⟩ ?_
        simp only [go_sem]
        refine cP awake_ok ?_
        simp only [go_sem]
    · skip
      rw [(slr_some (il_ne hP0) true 1 0).1, (slr_some (il_ne hP0) true 1 0).2] at kM0 kN0
      refine cN1 kM0 ?_ (hx := by rw [row_bel_cells]; exact il_bel _ _)
      simp only [go_sem, ren, rens]
      refine cN1 kN0 ?_ (hx := by rw [row_bel_cells]; exact il_bel _ _)
      simp only [go_sem, ren, rens]
      by_cases hP1 : L1 = []
      · skip
        rw [(slr_none (il_nil hP1) true 1 0).1, (slr_none (il_nil hP1) true 1 0).2] at kM1 kN1
        refine cF kM1 6 ⟨.inl (stl_frz rfl rfl rfl rfl rfl), .inl (st_frz (g := true) rfl rfl), .inl rfl, .inl rfl, trivial⟩ ?_
        simp only [go_sem]
        refine cF kN1 6 ⟨.inl (stl_frz rfl rfl rfl rfl rfl), .inl (st_frz (g := true) rfl rfl), .inl rfl, .inl rfl, trivial⟩ ?_
        simp only [go_sem]
        refine cF (kSame_run hL0n) 6 ⟨.inl (il_frz rfl (il_len _).symm), .inl (il_frz rfl (il_len _).symm), trivial⟩ ?_
        simp only [go_sem]
        refine cP ksame_nil ?_
        simp only [go_sem]
        refine cP awake_ok ?_
        simp only [go_sem]
      · skip
        rw [(slr_some (il_ne hP1) true 1 0).1, (slr_some (il_ne hP1) true 1 0).2] at kM1 kN1
        refine cFN kM1 6 ⟨.inl (stl_frz rfl rfl rfl rfl rfl), .inl (st_frz (g := true) rfl rfl), .inl rfl, .inl rfl, trivial⟩ ?_ (hx := by rw [row_bel_cells]; exact il_bel _ _) (hxn := row_nv_cells _ _ (nvs_map _ _ fun z => by simp only [go_sem]))
        simp only [go_sem, ren, rens]
        refine cFN kN1 6 ⟨.inl (stl_frz rfl rfl rfl rfl rfl), .inl (st_frz (g := true) rfl rfl), .inl rfl, .inl rfl, trivial⟩ ?_ (hx := by rw [row_bel_cells]; exact il_bel _ _) (hxn := row_nv_cells _ _ (nvs_map _ _ fun z => by simp only [go_sem]))
        simp only [go_sem, ren, rens]
        refine cF (kSame_run hL0n) 6 ⟨.inl (il_frz rfl (il_len _).symm), .inl (il_frz rfl (il_len _).symm), trivial⟩ ?_
        simp only [go_sem]
        refine cF (kSame_run hL1n) 6 ⟨.inl (il_frz rfl (il_len _).symm), .inl (il_frz rfl (il_len _).symm), trivial⟩ ?_
        simp only [go_sem]
        refine cP awake_ok ?_
        simp only [go_sem]
end Go.Proofs

namespace Go.Proofs
open Go Go.Sx

set_option maxRecDepth 20000 in
theorem at_stuffs {n : Nat} {x : AVal} (h : AT Try.prog (n + 6) 61 [x]) : ∃ l : SL, x = .view (l.map sv) ∧ l.length ≤ 9223372036854775807 ∧ ∀ p ∈ l, p.2.length ≤ 9223372036854775807 := by
  obtain ⟨es, h1, hl, he⟩ := at_slice Try.underlying61 h
  obtain rfl : x = .view es := by simpa using h1
  have hg : aggT Try.prog 24 = true := by unfold aggT; rw [Try.underlying24]
  obtain ⟨l, rfl, hq⟩ := list_mapQ (f := sv) (Q := fun p => p.2.length ≤ 9223372036854775807) es fun y hy => by
    have := he y hy
    rw [if_pos hg] at this
    obtain ⟨ws, rfl, hw⟩ := this
    obtain ⟨b, zs, e, hz, -⟩ := at_stuff hw
    exact ⟨(b, zs), e, hz⟩
  have hm : maxLen = 9223372036854775807 := rfl
  rw [hm] at hl
  exact ⟨l, rfl, by simpa using hl, hq⟩
end Go.Proofs

