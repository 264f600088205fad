/- A part of the proof. -/
import Derived.Test.YtoipalbjmbkdeaaPF
set_option linter.unusedSimpArgs false
set_option linter.unusedVariables false
namespace Go.Proofs
open Go Go.Sx Go.Fam
attribute [local irreducible] Run

section
variable {P : Program} {G : Ctx} {g : FuncId} {args : List AVal} {H : Heap} {k : Nat} {R : Runner} {l : List AOper} {fs : List Sx.Frame} {ρ : List AVal} {ms : List Nat} {Q : Goal} {dst : Option Nat} {x x' y : Row} {r : AVal} {j : Nat}
theorem cDN (h : Ans P g (.ptr 0 0 0 1 :: args) [some x] r [some x', some y]) (hK : R (.ops l) fs ⟨setD ρ dst (ren (fun _ => H.length) r), H.set j (some x') ++ [some y], ms⟩ Q) (hr : Bel (· = 1) r) (hj : H[j]? = some (some x) := by first | rfl | simp only [go_sem]) (hb : Bels (fun _ => False) args := by simp only [go_sem])
    (hx : x.bel (fun _ => False) := by simp only [go_sem]) (hx' : x'.bel (fun _ => False) := by simp only [go_sem]) (hy : y.bel (fun _ => False) := by simp only [go_sem])
    (hk : k ≤ H.length := by simp) (hms : ∀ q ∈ ms, q ≠ j ∧ H[q]? = some (some .dfr) := by simp) : CallR P G k R g (.ptr j 0 0 1 :: args) dst l fs ρ H ms Q :=
  callDN (Φ := fun _ : Unit => True) (r := fun _ => r) (x' := fun _ => x') (y := fun _ => y) (Ans.toE (a := ()) (r := fun _ : Unit => r) (L' := fun _ => [some x', some y]) h trivial) hj hb hx (fun _ _ => ⟨hr, hx', hy⟩) hk hms fun _ _ => hK
end

theorem FS.fix {F : Nat → Prop} {J J' : Heap} {g p : List Int} {L U : List (List Int)} {lo hi : List Int} {v0 v1 v2 v3 v4 v5 : AVal} {κ0 κ1 κ2 κ3 κ4 κ5 : List Nat} (h : FS F J g p L U lo hi v0 v1 v2 v3 v4 v5 κ0 κ1 κ2 κ3 κ4 κ5) (hJ : ∀ q, ¬ F q → J'[q]? = J[q]?) (hl : ∀ a, F a → a < J'.length) :
    FS F J' g p L U lo hi v0 v1 v2 v3 v4 v5 κ0 κ1 κ2 κ3 κ4 κ5 := by
  obtain ⟨u0, u1, u2, u3, u4, u5⟩ := h.up
  exact ⟨hl, h.d0.congr fun q hq => hJ q (u0 q hq), h.d1.congr fun q hq => hJ q (u1 q hq), h.d2.congr fun q hq => hJ q (u2 q hq), h.d3.congr fun q hq => hJ q (u3 q hq), h.d4.congr fun q hq => hJ q (u4 q hq), h.d5.congr fun q hq => hJ q (u5 q hq), h.nd, h.ge⟩
theorem all3_rows {J : Heap} : ∀ {κ : List Nat} {vs : List AVal} {t : List (List Int)}, All3 (Dat 4 J) κ vs (t.map vw) → ∀ (i : Nat) (row : List Int), t[i]? = some row → ∃ q, vs[i]? = some (.sl q 0 row.length) ∧ q ∈ κ ∧ J[q]? = some (some (.cells true 1 (ivL row))) := by
  intro κ vs t h i row hi
  obtain ⟨κ', v, h1, h2, h3⟩ := h.get i (vw row) (by rw [List.getElem?_map, hi]; rfl)
  obtain ⟨_, q, rfl, rfl, h4⟩ := vw_get h3
  exact ⟨q, h1, h2 q (by simp), h4⟩
theorem FS.read {F : Nat → Prop} {J : Heap} {g p : List Int} {L U : List (List Int)} {lo hi : List Int} {v0 v1 v2 v3 v4 v5 : AVal} {κ0 κ1 κ2 κ3 κ4 κ5 : List Nat} (h : FS F J g p L U lo hi v0 v1 v2 v3 v4 v5 κ0 κ1 κ2 κ3 κ4 κ5) (hL : L ≠ []) (hU : U ≠ []) {i : Nat} {a b : List Int} (ha : L[i]? = some a) (hb : U[i]? = some b) :
    ∃ r s vs us q1 q2, v2 = .sl r 0 L.length ∧ v3 = .sl s 0 U.length ∧ ¬ F r ∧ ¬ F s ∧ ¬ F q1 ∧ ¬ F q2 ∧ J[r]? = some (some (.cells true 1 vs)) ∧ J[s]? = some (some (.cells true 1 us)) ∧ vs.length = L.length ∧ us.length = U.length ∧ vs[i]? = some (.sl q1 0 a.length) ∧ us[i]? = some (.sl q2 0 b.length) ∧
      J[q1]? = some (some (.cells true 1 (ivL a))) ∧ J[q2]? = some (some (.cells true 1 (ivL b))) := by
  obtain ⟨r, vs, κ2', e2, k2, g2, a2⟩ := tb_get h.d2 hL
  obtain ⟨s, us, κ3', e3, k3, g3, a3⟩ := tb_get h.d3 hU
  obtain ⟨u0, u1, u2, u3, u4, u5⟩ := h.up
  obtain ⟨q1, m1, m2, m3⟩ := all3_rows a2 i a ha
  obtain ⟨q2, n1, n2, n3⟩ := all3_rows a3 i b hb
  subst k2; subst k3
  have l2 := a2.len
  have l3 := a3.len
  simp only [List.length_map] at l2 l3
  exact ⟨r, s, vs, us, q1, q2, e2, e3, u2 r (by simp), u3 s (by simp), u2 q1 (by simp [m2]), u3 q2 (by simp [n2]), g2, g3, l2, l3, m1, n1, m3, n3⟩

def famG (w : Int) : List Int := linesOf w (-9000) 3000 5
def famW1 (w : Int) : Int := linesEnd w (-9000) 3000 5
def famP (w : Int) : List Int := linesOf (famW1 w) 0 300000 5
def famW2 (w : Int) : Int := linesEnd (famW1 w) 0 300000 5
def famT (w : Int) : TabR := tabGo (famP w).length (famG w).length (dstep (famW2 w)) [] []
def famOf (w : Int) : Fa := if upto (famW2 w) 2 = 0 then ofF (lawOf (dstep (famW2 w))) (famG w) (famP w) else ⟨famG w, famP w, (famT w).lo, (famT w).hi⟩
def famEnd (w : Int) : Int := if upto (famW2 w) 2 = 0 then lawEnd (dstep (famW2 w)) else (famT w).w
theorem famG_asc (w : Int) : Asc (-1000000) (famG w) ∧ (famG w).length ≤ 5 := linesOf_ok (by omega) (by omega) (by omega) (by omega)
theorem famP_asc (w : Int) : Asc 0 (famP w) ∧ (famP w).length ≤ 5 := linesOf_ok (by omega) (by omega) (by omega) (by omega)
theorem famG_ne (w : Int) : famG w ≠ [] := by have := (famG_asc w).1.pos; intro e; rw [e] at this; simp at this
theorem famP_ne (w : Int) : famP w ≠ [] := by have := (famP_asc w).1.pos; intro e; rw [e] at this; simp at this
theorem thaw_ofC (l : Lw) (g p : List Int) (k : Nat) : thaw 7 k (ofC l g p) = (.tup [(thaw 6 k (Fv (ofF l g p))).1, .int .i64 0], (thaw 6 k (Fv (ofF l g p))).2) := by
  unfold ofC
  simp only [thaw, mapk, List.append_nil]
theorem thaw_fv (f : Fa) (k : Nat) : ∃ a b c d, (thaw 6 k (Fv f)).1 = .agg [.sl a 0 f.g.length, .sl b 0 f.p.length, .sl c 0 f.lo.length, .sl d 0 f.hi.length] := by
  unfold Fv Fcs vw tw
  simp only [thaw, mapk, List.length_map]
  exact ⟨_, _, _, _, rfl⟩

set_option maxHeartbeats 4000000 in
set_option maxRecDepth 20000 in
theorem famOf_law {w w1 w2 : Int} {gL pL : List Int} (k1 : Ans Try.prog n_kit_Lines [.ptr 0 0 0 1, .int .i64 (-9000), .int .i64 3000, .int .i64 5] [some (Dr w)] (.sl 1 0 gL.length) [some (Dr w1), some (.cells true 1 (gL.map (.int .i64)))])
    (k2 : Ans Try.prog n_kit_Lines [.ptr 0 0 0 1, .int .i64 0, .int .i64 300000, .int .i64 5] [some (Dr w1)] (.sl 1 0 pL.length) [some (Dr w2), some (.cells true 1 (pL.map (.int .i64)))]) (hg : Asc (-1000000) gL) (hp : Asc 0 pL) (g0 : gL ≠ []) (p0 : pL ≠ [])
    (b1 : (upto w2 2 == 0) = true) {w3 w4 : Int} (k3 : Ans Try.prog n_kit_Dice_One [.ptr 0 0 0 1, .int .i64 2] [some (Dr w2)] (.bool (upto w2 2 == 0)) [some (Dr w3)]) {l : Lw} (kl : Ans Try.prog n_kit_LawOf [.ptr 0 0 0 1] [some (Dr w3)] l.v [some (Dr w4)]) (hl : LwOK l) :
    Go.Sx.Fn Try.prog n_kit_FamilyOf [.ptr 0 0 0 1] [some (Dr w)] fun v H' => ∃ ι, Dat 6 H' ι v (Fv (ofF l gL pL)) ∧ ι.Nodup ∧ 0 ∉ ι ∧ H'[0]? = some (some (Dr w4)) := by
  have ko := rOf_run l hl hg hp
  rw [b1] at k3
  refine run_fn e_kit_FamilyOf fun G => ?_
  simp only [go_sem]
  refine cDN k1 ?_ (by rw [bel_sl])
  simp only [go_sem, ren]
  refine cDN k2 ?_ (by rw [bel_sl])
  simp only [go_sem, ren]
  refine cD k3 ?_
  simp only [go_sem]
  refine cD kl ?_ (hr := lw_bel _ _)
  simp only [go_sem]
  refine cFD ko (ofC_pure l g0 p0) 8 ⟨.inl ?_, .inl (vw_put (d := 6) (l := gL) g0 rfl rfl).frz, .inl (vw_put (d := 6) (l := pL) p0 rfl rfl).frz, trivial⟩ ?_
  · unfold Lw.v Lw.cs; simp [frz]
  rw [thaw_ofC]
  obtain ⟨a, b, c, d, e⟩ := thaw_fv (ofF l gL pL) 4
  have hpu := ofF_pure l g0 p0
  have hD := fun (A : Heap) (hA : A.length = 4) => thaw_dat (H := A ++ (thaw 6 4 (Fv (ofF l gL pL))).2) 4 hpu fun i hi => by rw [get_new hA]
  simp only [List.length_cons, List.length_nil, e] at hD ⊢
  generalize (thaw 6 4 (Fv (ofF l gL pL))).2 = Y at *
  simp only [go_sem]
  refine ⟨_, (hD [some (Dr w4), some (Row.cells false 4 [AVal.agg [.sl a 0 (ofF l gL pL).g.length, .sl b 0 (ofF l gL pL).p.length, .sl c 0 (ofF l gL pL).lo.length, .sl d 0 (ofF l gL pL).hi.length]]), some (Row.cells true 1 (gL.map (.int .i64))), some (Row.cells true 1 (pL.map (.int .i64)))] rfl).congr fun q hq => ?_, upFrom_nodup _ _, fun h0 => by have := upFrom_mem.1 h0; omega⟩
  have hq' := upFrom_mem.1 hq
  obtain ⟨q, rfl⟩ : ∃ i, q = 4 + i := ⟨q - 4, by omega⟩
  have hl' : q < Y.length := by omega
  simp only [List.cons_append, List.nil_append]
  rw [show 4 + q = q + 1 + 1 + 1 + 1 by omega]
  simp only [List.getElem?_cons_succ]
  rw [List.getElem?_append_left hl']

end Go.Proofs

namespace Go.Proofs
open Go Go.Sx Go.Fam
attribute [local irreducible] Run

def acR (t : List (List Int)) (m k : Nat) : List Int := (List.range m).map fun i => tg t i k
def acT (t : List (List Int)) (n m : Nat) : List (List Int) := (List.range n).map (acR t m)
def acF (f : Fa) : Fa := ⟨f.p, f.g, acT f.lo f.p.length f.g.length, acT f.hi f.p.length f.g.length⟩
theorem acR_len (t : List (List Int)) (m k : Nat) : (acR t m k).length = m := by simp [acR]
theorem acT_len (t : List (List Int)) (n m : Nat) : (acT t n m).length = n := by simp [acT]
theorem acR_succ (t : List (List Int)) (m k : Nat) : acR t (m + 1) k = acR t m k ++ [tg t m k] := by unfold acR; rw [List.range_succ, List.map_append]; rfl
theorem acT_succ (t : List (List Int)) (n m : Nat) : acT t (n + 1) m = acT t n m ++ [acR t m n] := by unfold acT; rw [List.range_succ, List.map_append]; rfl
theorem acT_tab (t : List (List Int)) (n m : Nat) : Tab n m (acT t n m) := ⟨acT_len _ _ _, fun i hi => ⟨acR t m i, by unfold acT; rw [List.getElem?_map, List.getElem?_range hi]; rfl, acR_len _ _ _⟩⟩
theorem acT_tg {t : List (List Int)} {n m : Nat} (h : Tab m n t) : tg (acT t n m) = fun k i => tg t i k := by
  funext k i
  by_cases hk : k < n
  · have : (acT t n m)[k]? = some (acR t m k) := by unfold acT; rw [List.getElem?_map, List.getElem?_range hk]; rfl
    rw [tg_get this]
    by_cases hi : i < m
    · unfold at1 acR
      rw [List.getD_eq_getElem?_getD, List.getElem?_map, List.getElem?_range hi]; rfl
    · unfold at1
      rw [List.getD_eq_getElem?_getD, List.getElem?_eq_none (by rw [acR_len]; omega)]
      unfold tg
      rw [List.getD_eq_getElem?_getD (l := t), List.getElem?_eq_none (by rw [h.len]; omega)]; rfl
  · have e1 : tg (acT t n m) k i = 0 := by
      unfold tg
      rw [List.getD_eq_getElem?_getD (l := acT t n m), List.getElem?_eq_none (by rw [acT_len]; omega)]; rfl
    rw [e1]
    by_cases hi : i < m
    · obtain ⟨r, hr, hl⟩ := h.row i hi
      rw [tg_get hr]
      unfold at1
      rw [List.getD_eq_getElem?_getD, List.getElem?_eq_none (by omega)]; rfl
    · unfold tg
      rw [List.getD_eq_getElem?_getD (l := t), List.getElem?_eq_none (by rw [h.len]; omega)]; rfl
structure AcH (f : Fa) (J : Heap) (v0 v1 v2 v3 : AVal) : Prop where
  r0 : J[0]? = some (some (.cells false 4 [Fv f]))
  r1 : J[1]? = some (some (.cells false 4 [.agg [.nilsl, .nilsl, .nilsl, .nilsl]]))
  r4 : J[4]? = some (some (.cells false 4 [.agg [v0, v1, v2, v3]]))
theorem AcH.mono {f : Fa} {J J' : Heap} {v0 v1 v2 v3 : AVal} (h : AcH f J v0 v1 v2 v3) (hJ : ∀ q, oF q → q < J.length → J'[q]? = J[q]?) : AcH f J' v0 v1 v2 v3 :=
  ⟨by rw [hJ 0 (by simp [oF]) (List.getElem?_eq_some_iff.1 h.r0).1]; exact h.r0, by rw [hJ 1 (by simp [oF]) (List.getElem?_eq_some_iff.1 h.r1).1]; exact h.r1, by rw [hJ 4 (by simp [oF]) (List.getElem?_eq_some_iff.1 h.r4).1]; exact h.r4⟩
def AcI (f : Fa) (J : Heap) (L U : List (List Int)) (lo hi : List Int) (v0 v1 v2 v3 v4 v5 : AVal) : Prop := AcH f J v0 v1 v2 v3 ∧ ∃ κ0 κ1 κ2 κ3 κ4 κ5, FS oF J f.p f.g L U lo hi v0 v1 v2 v3 v4 v5 κ0 κ1 κ2 κ3 κ4 κ5
def aT : List (Nat × AVal) := [(1, .ptr 0 0 0 1), (2, .ptr 1 0 0 1), (3, .ptr 4 0 0 1)]

set_option maxHeartbeats 4000000 in
set_option maxRecDepth 20000 in
theorem across_fn {f : Fa} (hf : FaOK f) : Go.Sx.Fn Try.prog n_ref02_across [Fv f] [] fun v H' => ∃ ι, Dat 6 H' ι v (Fv (acF f)) ∧ ι.Nodup := by
  obtain ⟨tL, tH, sL, sH⟩ := hf.tabs
  have g0 : f.g ≠ [] := by have := hf.g.pos; intro e; rw [e] at this; simp at this
  have p0 : f.p ≠ [] := by have := hf.p.pos; intro e; rw [e] at this; simp at this
  have gl0 := hf.g.pos
  have pl0 := hf.p.pos
  have gm := hf.g.most
  have pm := hf.p.most
  have k3 := rints_run f.p (by omega) p0
  have k4 := rints_run f.g (by omega) g0
  simp only [vw] at k3 k4
  refine run_fn e_ref02_across fun G => ?_
  simp only [go_sem, Fv, Fcs, tw, vw]
  first | refine cN1 k3 ?_ | refine dFN k3 6 [] ?_ ?_
  · exact ⟨.inl (by simp [frz, Function.comp_def]), trivial⟩
  simp only [go_sem, ren]
  refine dFN k4 6 [] ?_ ?_
  · exact ⟨.inl (by simp [frz, Function.comp_def]), trivial⟩
  simp only [go_sem, ren]
  have hI0 : AcI f [some (.cells false 4 [Fv f]), some (.cells false 4 [.agg [.nilsl, .nilsl, .nilsl, .nilsl]]), some (.cells true 1 (ivL f.p)), some (.cells true 1 (ivL f.g)), some (.cells false 4 [.agg [.sl 2 0 f.p.length, .sl 3 0 f.g.length, .nilsl, .nilsl]])] [] [] [] []
      (.sl 2 0 f.p.length) (.sl 3 0 f.g.length) .nilsl .nilsl .nilsl .nilsl := by
    refine ⟨⟨rfl, rfl, rfl⟩, [2], [3], [], [], [], [], fun a ha => by unfold oF at ha; simp; omega, vw_put p0 rfl rfl, vw_put g0 rfl rfl, ⟨rfl, rfl, rfl⟩, ⟨rfl, rfl, rfl⟩, ⟨rfl, rfl, rfl⟩, ⟨rfl, rfl, rfl⟩, fun a => ?_, fun a ha => ?_⟩
    · simp only [List.count_cons, List.count_nil, beq_iff_eq]
      split <;> split <;> omega
    · unfold oF at ha
      simp only [List.count_cons, List.count_nil, beq_iff_eq]
      rw [if_neg (by omega), if_neg (by omega)]
  refine loop_ind k_ref02_across_r12.eq_1 (fun a : Nat × Heap × AVal × AVal × AVal × AVal => a.1 ≤ f.p.length ∧ AcI f a.2.1 (acT f.lo a.1 f.g.length) (acT f.hi a.1 f.g.length) [] [] a.2.2.1 a.2.2.2.1 a.2.2.2.2.1 a.2.2.2.2.2 .nilsl .nilsl) (fun a => f.p.length - a.1)
    (fun a => (tsets 64 (aT ++ [(4, .int .i64 a.1)]), a.2.1)) (0, _, .sl 2 0 f.p.length, .sl 3 0 f.g.length, .nilsl, .nilsl) ⟨Nat.zero_le _, hI0⟩ (by simp [go_sem, aT]) (by simp [Fv, Fcs, tw, vw]) ?_
  rintro ⟨k, J, v0, v1, v2, v3⟩ ⟨hk, hI⟩ ih
  dsimp only at hk hI ih ⊢
  by_cases h1 : k < f.p.length
  · have h2 : (k : Int) < f.p.length := by omega
    have m0 : ¬ (k : Int) < 0 := by omega
    have h3 := idx_next h1 (by omega)
    have c0 := cells_at hI.1.r0
    simp only [Fv, Fcs, vw, tw] at c0
    simp only [go_sem, aT, h2, c0, List.length_map]
    refine loop_ind k_ref02_across_r9.eq_1 (fun a : Nat × Heap × AVal × AVal => a.1 ≤ f.g.length ∧ AcI f a.2.1 (acT f.lo k f.g.length) (acT f.hi k f.g.length) (acR f.lo a.1 k) (acR f.hi a.1 k) v0 v1 v2 v3 a.2.2.1 a.2.2.2) (fun a => f.g.length - a.1)
      (fun a => (tsets 64 (aT ++ [(4, .int .i64 k), (5, a.2.2.1), (6, a.2.2.2), (7, .int .i64 a.1)]), a.2.1)) (0, J, .nilsl, .nilsl) ⟨Nat.zero_le _, hI⟩ (by simp [go_sem, aT]) rfl ?_
    rintro ⟨i, J, v4, v5⟩ ⟨hi', hR⟩ ihk
    clear hI
    dsimp only at hi' hR ihk ⊢
    obtain ⟨⟨f0, f1, f4⟩, κ0, κ1, κ2, κ3, κ4, κ5, hF⟩ := hR
    have c0 := cells_at f0
    simp only [Fv, Fcs, vw, tw] at c0
    by_cases j1 : i < f.g.length
    · have j2 : (i : Int) < f.g.length := by omega
      have m1 : ¬ (i : Int) < 0 := by omega
      have j3 := idx_next j1 (by omega)
      obtain ⟨rl, hrl', ll⟩ := tL.row i j1
      obtain ⟨rh, hrh', lh⟩ := tH.row i j1
      have y1 := get_at (l := rl) (i := k) (by omega)
      have y2 := get_at (l := rh) (i := k) (by omega)
      rw [← tg_get hrl'] at y1
      rw [← tg_get hrh'] at y2
      have ihn := fun J' v4' v5' hh => ihk (i + 1, J', v4', v5') (by omega) ⟨j1, hh⟩
      clear ihk
      dsimp only at ihn
      rw [acR_succ, acR_succ] at ihn
      have hl1 := acR_len f.lo i k
      have hl2 := acR_len f.hi i k
      generalize acR f.lo i k = lo at *
      generalize acR f.hi i k = hi at *
      generalize tg f.lo i k = X at *
      generalize tg f.hi i k = Z at *
      have l0 := (List.getElem?_eq_some_iff.1 f0).1
      have q0 := fun Y => cells_more c0 Y
      by_cases k0 : i = 0
      · have : lo = [] := List.length_eq_zero_iff.1 (by omega)
        subst this
        have : hi = [] := List.length_eq_zero_iff.1 (by omega)
        subst this
        obtain ⟨e4, e5, hn⟩ := hF.first
        subst e4; subst e5
        simp only [go_sem, aT, j2, j3, vw, List.length_map, m0, m1, hrl', hrh', y1, y2, Int.toNat_natCast, c0, q0]
        have z0 := hF.len 4 (by simp [oF])
        refine ⟨by decide, (by first | (simp; done) | (simp; omega)), (by first | (simp; done) | (simp; omega)), (by first | (simp; done) | (simp; omega)), by decide, ?_⟩
        exact ihn _ _ _ ⟨AcH.mono ⟨f0, f1, f4⟩ fun q _ hq => List.getElem?_append_left hq, _, _, _, _, _, _, hn _ (J.length + 1) (J.length + 3) X Z (by omega) (by omega) (by omega) (fun q _ hq => List.getElem?_append_left hq) (by rw [get_new rfl]; rfl) (by rw [get_new rfl]; rfl)⟩ _ (by simp [go_sem, aT])
      · have lo0 : lo ≠ [] := by rintro rfl; simp at hl1; omega
        have hi0 : hi ≠ [] := by rintro rfl; simp at hl2; omega
        obtain ⟨r, s, e4, e5, hrs, hr, hs, g4, g5, hn⟩ := hF.next lo0 hi0
        subst e4; subst e5
        have hrl := (List.getElem?_eq_some_iff.1 g4).1
        have hsl := (List.getElem?_eq_some_iff.1 g5).1
        have r0 : r ≠ 0 := by rintro rfl; exact hr (by simp [oF])
        have q1 := fun Y => cells_more (cells_at g4) Y
        have q2 := fun Y x => put_more (H := J) hrl Y x
        have q3 := fun x Y => cells_more (H := J.set r x) (j := s) (cells_at (by rw [List.getElem?_set_ne hrs]; exact g5)) Y
        have q4 := fun z Y x => put_more (H := J.set r z) (j := s) (by simpa using hsl) Y x
        have q5 := fun x g sz es Y => cells_mid (A := J.set r x) (n := J.length) (by simp) g sz es Y
        have q6 : ∀ (x : Option Row) (Y : Heap), Heap.cellsAt (J.set r x ++ Y) 0 = _ := fun x Y => cells_more (H := J.set r x) (j := 0) (r := (false, 4, [Fv f])) (cells_at (by rw [List.getElem?_set_ne r0]; exact f0)) Y
        simp only [Fv, Fcs, vw, tw] at q6
        have z0 := hF.len 4 (by simp [oF])
        have z1 : (lo.length + 1) * 8 ≤ 2 ^ 44 := by omega
        have z2 : (hi.length + 1) * 8 ≤ 2 ^ 44 := by omega
        have z3 : ¬ r = J.length := by omega
        have z4 : ¬ s = J.length := by omega
        simp only [go_sem, aT, j2, j3, vw, List.length_map, m0, m1, hrl', hrh', y1, y2, Int.toNat_natCast, c0, q0, q1, q2, q3, q4, q5, q6, z1, z2]
        simp only [List.length_set]
        refine ⟨(by first | (simp; done) | (simp; omega)), (by first | (simp; done) | (simp; omega)), (by first | (simp; done) | (simp; omega)), ?_⟩
        exact ihn _ _ _ ⟨AcH.mono ⟨f0, f1, f4⟩ fun q hq hl => two_off hl (fun e => hr (by rw [← e]; exact hq)) (fun e => hs (by rw [← e]; exact hq)), _, _, _, _, _, _, hn _ X Z (fun q _ hl a b => two_off hl a b) (two_r hrl hrs) (two_s hsl) (fun a ha => by have := hF.len a ha; simp; omega)⟩ _ (by simp [go_sem, aT])
    · have j2 : ¬ (i : Int) < f.g.length := by omega
      obtain rfl : i = f.g.length := by omega
      have hl1 := acR_len f.lo f.g.length k
      have hl2 := acR_len f.hi f.g.length k
      have lo0 : acR f.lo f.g.length k ≠ [] := by intro e; rw [e] at hl1; simp at hl1; omega
      have hi0 : acR f.hi f.g.length k ≠ [] := by intro e; rw [e] at hl2; simp at hl2; omega
      have ihn := fun J' v0' v1' v2' v3' hh => ih (k + 1, J', v0', v1', v2', v3') (by omega) ⟨h1, hh⟩
      clear ih ihk
      dsimp only at ihn
      rw [acT_succ, acT_succ] at ihn
      have t1 := acT_len f.lo k f.g.length
      have t2 := acT_len f.hi k f.g.length
      generalize acR f.lo f.g.length k = lo at *
      generalize acR f.hi f.g.length k = hi at *
      generalize acT f.lo k f.g.length = L at *
      generalize acT f.hi k f.g.length = U at *
      have c4 := cells_at f4
      have z0 := hF.len 4 (by simp [oF])
      obtain ⟨r4, e4, -, -⟩ := ls_get hF.d4 lo0
      obtain ⟨r5, e5, -, -⟩ := ls_get hF.d5 hi0
      subst e4; subst e5
      have hlt4 := (List.getElem?_eq_some_iff.1 f4).1
      have q1 := fun Y => cells_more c4 Y
      by_cases i0 : k = 0
      · have : L = [] := List.length_eq_zero_iff.1 (by omega)
        subst this
        have : U = [] := List.length_eq_zero_iff.1 (by omega)
        subst this
        obtain ⟨e2, e3, hn⟩ := hF.row1 lo0 hi0
        subst e2; subst e3
        have q2 := fun Y x => put_more (H := J) hlt4 Y x
        have q3 := fun g sz es Y => cells_more (H := J.set 4 (some (Row.cells g sz es))) (j := 4) (cells_at (List.getElem?_set_self hlt4)) Y
        have q4 := fun z Y x => put_more (H := J.set 4 z) (j := 4) (by simpa using hlt4) Y x
        simp only [go_sem, aT, j2, vw, List.length_map, c0, c4, h3, q1, q2, q3, q4, List.set_set]
        refine ⟨(by first | (simp; done) | (simp; omega)), by decide, (by first | (simp; done) | (simp; omega)), (by first | (simp; done) | (simp; omega)), (by first | (simp; done) | (simp; omega)), by decide, (by first | (simp; done) | (simp; omega)), ?_⟩
        have off : ∀ (A : Option Row) (Y : Heap) (q : Nat), q < J.length → q ≠ 4 → (J.set 4 A ++ Y)[q]? = J[q]? := fun A Y q hq hn => by rw [List.getElem?_append_left (by simpa using hq), List.getElem?_set_ne (fun e => hn e.symm)]
        have at4 : ∀ (A : Option Row) (Y : Heap), (J.set 4 A ++ Y)[4]? = some A := fun A Y => by rw [List.getElem?_append_left (by simpa using hlt4), List.getElem?_set_self hlt4]
        exact ihn _ _ _ _ _ ⟨⟨by rw [off _ _ 0 (by omega) (by omega)]; exact f0, by rw [off _ _ 1 (by omega) (by omega)]; exact f1, at4 _ _⟩, _, _, _, _, _, _, hn _ (J.length + 1) (J.length + 3) (by omega) (by omega) (by omega) (fun q hnF hq => off _ _ q hq (by rintro rfl; exact hnF (by simp [oF]))) (by rw [get_new (by simp)]; rfl) (by rw [get_new (by simp)]; rfl)⟩ _ (by simp [go_sem, aT])
      · have L0 : L ≠ [] := by rintro rfl; simp at t1; omega
        have U0 : U ≠ [] := by rintro rfl; simp at t2; omega
        obtain ⟨r, s, vs, us, κ2', κ3', e2, e3, hrs, hr, hs, g2, g3, l2, l3, hn⟩ := hF.rows L0 U0 lo0 hi0
        subst e2; subst e3
        have hrl := (List.getElem?_eq_some_iff.1 g2).1
        have hsl := (List.getElem?_eq_some_iff.1 g3).1
        have r4' : r ≠ 4 := by rintro rfl; exact hr (by simp [oF])
        have s4' : s ≠ 4 := by rintro rfl; exact hs (by simp [oF])
        have z1 : (L.length + 1) * 24 ≤ 2 ^ 44 := by omega
        have z2 : (U.length + 1) * 24 ≤ 2 ^ 44 := by omega
        have a1 := fun Y => cells_more (cells_at g2) Y
        have a2 := fun Y x => put_more (H := J) hrl Y x
        have a3 := fun x Y => cells_more (H := J.set r x) (j := 4) (cells_at (by rw [List.getElem?_set_ne r4']; exact f4)) Y
        have a4 := fun x Y => cells_more (H := J.set r x) (j := s) (cells_at (by rw [List.getElem?_set_ne hrs]; exact g3)) Y
        have a5 := fun z Y x => put_more (H := J.set r z) (j := s) (by simpa using hsl) Y x
        have a6 := fun x y Y => cells_more (H := (J.set r x).set s y) (j := 4) (cells_at (by rw [List.getElem?_set_ne s4', List.getElem?_set_ne r4']; exact f4)) Y
        have a7 := fun z y Y x => put_more (H := (J.set r z).set s y) (j := 4) (by simpa using hlt4) Y x
        have a8 := fun x y g sz es Y => cells_more (H := ((J.set r x).set s y).set 4 (some (Row.cells g sz es))) (j := 4) (cells_at (List.getElem?_set_self (by simpa using hlt4))) Y
        have a9 := fun z y w Y x => put_more (H := ((J.set r z).set s y).set 4 w) (j := 4) (by simpa using hlt4) Y x
        simp only [go_sem, aT, j2, vw, List.length_map, c0, c4, h3, q1, a1, a2, a3, a4, a5, a6, a7, a8, a9, List.set_set, z1, z2, l2, l3]
        simp only [List.length_set]
        refine ⟨(by first | (simp; done) | (simp; omega)), (by first | (simp; done) | (simp; omega)), (by first | (simp; done) | (simp; omega)), (by first | (simp; done) | (simp; omega)), (by first | (simp; done) | (simp; omega)), ?_⟩
        have off : ∀ (A B C : Option Row) (Y : Heap) (q : Nat), q < J.length → q ≠ r → q ≠ s → q ≠ 4 → (((J.set r A).set s B).set 4 C ++ Y)[q]? = J[q]? := fun A B C Y q hq n1 n2 n3 => by
          rw [List.getElem?_append_left (by simpa using hq), List.getElem?_set_ne (fun e => n3 e.symm), List.getElem?_set_ne (fun e => n2 e.symm), List.getElem?_set_ne (fun e => n1 e.symm)]
        have at4 : ∀ (A B C : Option Row) (Y : Heap), (((J.set r A).set s B).set 4 C ++ Y)[4]? = some C := fun A B C Y => by rw [List.getElem?_append_left (by simpa using hlt4), List.getElem?_set_self (by simpa using hlt4)]
        have atr : ∀ (A B C : Option Row) (Y : Heap), (((J.set r A).set s B).set 4 C ++ Y)[r]? = some A := fun A B C Y => by
          rw [List.getElem?_append_left (by simpa using hrl), List.getElem?_set_ne (fun e => r4' e.symm), List.getElem?_set_ne (fun e => hrs e.symm), List.getElem?_set_self hrl]
        have ats : ∀ (A B C : Option Row) (Y : Heap), (((J.set r A).set s B).set 4 C ++ Y)[s]? = some B := fun A B C Y => by
          rw [List.getElem?_append_left (by simpa using hsl), List.getElem?_set_ne (fun e => s4' e.symm), List.getElem?_set_self (by simpa using hsl)]
        have nr : ∀ q, oF q → q ≠ r := fun q hq e => hr (by rw [← e]; exact hq)
        have ns : ∀ q, oF q → q ≠ s := fun q hq e => hs (by rw [← e]; exact hq)
        exact ihn _ _ _ _ _ ⟨⟨by rw [off _ _ _ _ 0 (by omega) (nr 0 (by simp [oF])) (ns 0 (by simp [oF])) (by omega)]; exact f0, by rw [off _ _ _ _ 1 (by omega) (nr 1 (by simp [oF])) (ns 1 (by simp [oF])) (by omega)]; exact f1, at4 _ _ _ _⟩, _, _, _, _, _, _,
          hn _ (fun q hnF hq n1 n2 => off _ _ _ _ q hq n1 n2 (by rintro rfl; exact hnF (by simp [oF]))) (atr _ _ _ _) (ats _ _ _ _) (fun a ha => by have := hF.len a ha; simp; omega)⟩ _ (by simp [go_sem, aT])
  · have h2 : ¬ (k : Int) < f.p.length := by omega
    obtain rfl : k = f.p.length := by omega
    obtain ⟨⟨f0, f1, f4⟩, κ0, κ1, κ2, κ3, κ4, κ5, hF⟩ := hI
    have hne : ∀ t : List (List Int), acT t f.p.length f.g.length ≠ [] := fun t e => by have := acT_len t f.p.length f.g.length; rw [e] at this; simp at this; omega
    obtain ⟨ι, hD, hnd, hge⟩ := hF.all (hne _) (hne _)
    obtain ⟨_, b0, e0, -, -⟩ := vw_get hF.d0
    obtain ⟨_, b1, e1, -, -⟩ := vw_get hF.d1
    obtain ⟨b2, _, _, e2, -, -, -⟩ := tb_get hF.d2 (hne _)
    obtain ⟨b3, _, _, e3, -, -, -⟩ := tb_get hF.d3 (hne _)
    subst e0; subst e1; subst e2; subst e3
    have c0 := cells_at f0
    simp only [Fv, Fcs, vw, tw] at c0
    have c4 := cells_at f4
    have c1 := cells_at f1
    have hlt1 := (List.getElem?_eq_some_iff.1 f1).1
    have q1 := fun x => put_lt (H := J) (x := x) hlt1
    have q2 := fun g sz es => cells_at (H := J.set 1 (some (Row.cells g sz es))) (j := 1) (List.getElem?_set_self hlt1)
    simp only [go_sem, aT, h2, vw, List.length_map, c0, c4, c1, q1, q2]
    exact ⟨ι, hD.set _ (fun h => hge 1 h (by simp [oF])), hnd⟩
theorem acF_pure {f : Fa} (hf : FaOK f) : Pure 6 (Fv (acF f)) := by
  have gl0 := hf.g.pos
  have pl0 := hf.p.pos
  have g0 : f.g ≠ [] := by intro e; rw [e] at gl0; simp at gl0
  have p0 : f.p ≠ [] := by intro e; rw [e] at pl0; simp at pl0
  have hne : ∀ t : List (List Int), acT t f.p.length f.g.length ≠ [] := fun t e => by have := acT_len t f.p.length f.g.length; rw [e] at this; simp at this; omega
  have hr : ∀ (t : List (List Int)), ∀ r ∈ acT t f.p.length f.g.length, r ≠ [] := fun t r hr e => by
    obtain ⟨k, _, rfl⟩ := List.mem_map.1 hr
    have := acR_len t f.g.length k
    rw [e] at this; simp at this; omega
  exact fv_pure p0 g0 (hne _) (hne _) (hr _) (hr _)
theorem across_run {f : Fa} (hf : FaOK f) : Ans Try.prog n_ref02_across [Fv f] [] (thaw 6 0 (Fv (acF f))).1 (thaw 6 0 (Fv (acF f))).2 := ans_dat0 (acF_pure hf) (across_fn hf)
end Go.Proofs

namespace Go.Proofs
open Go Go.Sx Go.Fam
attribute [local irreducible] Run

theorem byGrid_at_run {m n : Nat} {t : List (List Int)} (hT : Tab m n t) {i k : Nat} (hi : i < m) (hk : k < n) (hm : m ≤ 1000000 ∧ n ≤ 1000000) : Ans Try.prog n_curve_byGrid_at [tw t, .int .i64 i, .int .i64 k] [] (.int .i64 (tg t i k)) [] := by
  obtain ⟨r, hr, hl⟩ := hT.row i hi
  have m0 : ¬ (i : Int) < 0 := by omega
  have m1 : ¬ (k : Int) < 0 := by omega
  have hx := get_at (l := r) (i := k) (by omega)
  rw [tg_get hr]
  refine spec_run e_curve_byGrid_at fun G => ?_
  simp only [go_sem, tw, vw, List.length_map, m0, m1, Int.toNat_natCast, hr, hx]
theorem byPlate_at_run {m n : Nat} {t : List (List Int)} (hT : Tab m n t) {i k : Nat} (hi : i < m) (hk : k < n) (hm : m ≤ 1000000 ∧ n ≤ 1000000) : Ans Try.prog n_curve_byPlate_at [tw t, .int .i64 k, .int .i64 i] [] (.int .i64 (tg t i k)) [] := by
  obtain ⟨r, hr, hl⟩ := hT.row i hi
  have m0 : ¬ (i : Int) < 0 := by omega
  have m1 : ¬ (k : Int) < 0 := by omega
  have hx := get_at (l := r) (i := k) (by omega)
  rw [tg_get hr]
  refine spec_run e_curve_byPlate_at fun G => ?_
  simp only [go_sem, tw, vw, List.length_map, m0, m1, Int.toNat_natCast, hr, hx]
end Go.Proofs

namespace Go.Proofs
open Go Go.Sx Go.Fam
attribute [local irreducible] Run

set_option maxHeartbeats 4000000 in
set_option maxRecDepth 20000 in
theorem steep_byGrid {m n : Nat} {lo hi : List (List Int)} (hlo : Tab m n lo) (hhi : Tab m n hi) {lines others : List Int} (hm : lines.length = m) (hmn : m ≤ 40 ∧ n ≤ 40) {a v M u d : Int} (ha : -1000000 ≤ a ∧ a ≤ 999999) (hO : Asc a others) (hn : others.length = n) (hv : -1000000 ≤ v ∧ v ≤ 1000000)
    {c : Nat} (hc : c + 1 < m) (hs : SpOK n M (spot others v)) (hM : M ≤ 2000000) (hsl : SlOK (tg lo) (tg hi) c (spot others v)) (hd : at1 lines (c + 1) - at1 lines c = d) (hd1 : 1 ≤ d ∧ d ≤ 2000000) (hu : 1 ≤ u ∧ u ≤ 1000000) :
    Ans Try.prog n_curve_steepness_curve_byGrid [tw lo, tw hi, vw lines, vw others, .int .i64 c, .int .i64 v, .int .i64 u] [] (stp (tg lo) (tg hi) d c (spot others v) u).v [] := by
  have k1 := spotOf_run ha hO hv
  obtain ⟨s, hse⟩ : ∃ s, spot others v = s := ⟨_, rfl⟩
  rw [hse] at k1 hs hsl ⊢
  have k2 := weights_run (by omega) hs
  have hr := rise_in hsl hs hM
  try dsimp only at hr
  obtain ⟨p0, p1⟩ := hs.part
  have pw := hs.whole
  have pa := hs.at_
  have hdw : 1 ≤ d * s.whole ∧ d * s.whole ≤ 2000000 * 2000000 := ⟨Int.mul_pos (by omega) (by omega), Int.mul_le_mul hd1.2 (by omega) (by omega) (by omega)⟩
  have wdw : IntKind.i64.wrap (d * s.whole) = d * s.whole := w64 (by omega)
  have x1 := get_at (l := lines) (i := c + 1) (by omega)
  have x2 := get_at (l := lines) (i := c) (by omega)
  have wd : IntKind.i64.wrap (at1 lines (c + 1) - at1 lines c) = d := by rw [hd]; exact w64 (by omega)
  have wc : IntKind.i64.wrap ((c : Int) + 1) = ((c + 1 : Nat) : Int) := idx_next (n := m) (by omega) (by omega)
  have wa : IntKind.i64.wrap ((s.at_ : Int) + 0) = ((s.at_ : Nat) : Int) := by rw [w64 (by omega)]; omega
  have wb : IntKind.i64.wrap ((s.at_ : Int) + 1) = ((s.at_ + 1 : Nat) : Int) := idx_next (n := n) (by omega) (by omega)
  have n0 : ¬ ((c + 1 : Nat) : Int) < 0 := by omega
  have n1 : ¬ (c : Int) < 0 := by omega
  have b0 : (wgt s 0 == 0) = false := beq_eq_false_iff_ne.2 (by show s.whole - s.part ≠ 0; omega)
  have u0 : ¬ wgt s 0 = 0 := by show ¬ s.whole - s.part = 0; omega
  have A1 := byGrid_at_run hlo (i := c + 1) (k := s.at_) (by omega) (by omega) (by omega)
  have A2 := byGrid_at_run hhi (i := c) (k := s.at_) (by omega) (by omega) (by omega)
  have A3 := byGrid_at_run hhi (i := c + 1) (k := s.at_) (by omega) (by omega) (by omega)
  have A4 := byGrid_at_run hlo (i := c) (k := s.at_) (by omega) (by omega) (by omega)
  have hh := hsl.here
  unfold SlK at hh
  try dsimp only at hh
  have w1' : IntKind.i64.wrap 1 = 1 := by decide
  have w2' : IntKind.i64.wrap 2 = 2 := by decide
  have r1 : IntKind.i64.wrap (tg lo (c + 1) s.at_ - tg hi c s.at_) = tg lo (c + 1) s.at_ - tg hi c s.at_ := w64 (by omega)
  have r2 : (if tg lo (c + 1) s.at_ - tg hi c s.at_ > 0 then tg lo (c + 1) s.at_ - tg hi c s.at_ else 0) = mx0 (tg lo (c + 1) s.at_ - tg hi c s.at_) := rfl
  have r3 : IntKind.i64.wrap (wgt s 0 * mx0 (tg lo (c + 1) s.at_ - tg hi c s.at_)) = wgt s 0 * mx0 (tg lo (c + 1) s.at_ - tg hi c s.at_) := w64 (by omega)
  have r4 : IntKind.i64.wrap (tg hi (c + 1) s.at_ - tg lo c s.at_) = tg hi (c + 1) s.at_ - tg lo c s.at_ := w64 (by omega)
  have r5 : IntKind.i64.wrap (wgt s 0 * (tg hi (c + 1) s.at_ - tg lo c s.at_)) = wgt s 0 * (tg hi (c + 1) s.at_ - tg lo c s.at_) := w64 (by omega)
  have q2 : 0 ≤ u * riseLo (tg lo) (tg hi) c s ∧ u * riseLo (tg lo) (tg hi) c s ≤ 1000000 * 2000000000000 := ⟨Int.mul_nonneg (by omega) (by omega), Int.mul_le_mul hu.2 (by omega) (by omega) (by omega)⟩
  have q2' : 0 ≤ u * riseHi (tg lo) (tg hi) c s ∧ u * riseHi (tg lo) (tg hi) c s ≤ 1000000 * 2000000000000 := ⟨Int.mul_nonneg (by omega) (by omega), Int.mul_le_mul hu.2 (by omega) (by omega) (by omega)⟩
  have q1 : IntKind.i64.wrap (u * riseLo (tg lo) (tg hi) c s) = u * riseLo (tg lo) (tg hi) c s := w64 (by omega)
  have q3 : IntKind.i64.wrap (u * riseHi (tg lo) (tg hi) c s) = u * riseHi (tg lo) (tg hi) c s := w64 (by omega)
  have q4 : (u * riseLo (tg lo) (tg hi) c s).tdiv (d * s.whole) = u * riseLo (tg lo) (tg hi) c s / (d * s.whole) := Int.tdiv_eq_ediv_of_nonneg (by omega)
  have q6 : 0 ≤ u * riseLo (tg lo) (tg hi) c s / (d * s.whole) := Int.ediv_nonneg (by omega) (by omega)
  have q7 : u * riseLo (tg lo) (tg hi) c s / (d * s.whole) ≤ u * riseLo (tg lo) (tg hi) c s := Int.ediv_le_self _ (by omega)
  have q5 : IntKind.i64.wrap (u * riseLo (tg lo) (tg hi) c s / (d * s.whole)) = u * riseLo (tg lo) (tg hi) c s / (d * s.whole) := w64 (by omega)
  have z1 : ¬ d * s.whole = 0 := by omega
  have kr := roundUp_run (n := u * riseHi (tg lo) (tg hi) c s) (b := d * s.whole) (by omega) (by omega)
  simp only [vw, Sv] at k1
  simp only [Sv] at k2
  simp only [tw, vw] at A1 A2 A3 A4
  refine spec_run e_curve_steepness_curve_byGrid fun G => ?_
  simp only [go_sem, tw, vw]
  refine cP k1 ?_
  simp only [go_sem]
  refine cP k2 ?_
  simp only [go_sem]
  refine loop_body 3000 k_curve_steepness_curve_byGrid_r11.eq_1 ?_
  simp only [go_sem, b0, u0, wa, wc]
  rw [calleeGM_iface (t := 122) (g := 142) (h := rfl)]
  refine dP A1 ?_
  simp only [go_sem, wa, wc]
  rw [calleeGM_iface (t := 122) (g := 142) (h := rfl)]
  refine dP A2 ?_
  simp only [go_sem, wa, wc, r1, r2, r3, Int.zero_add]
  rw [calleeGM_iface (t := 122) (g := 142) (h := rfl)]
  refine dP A3 ?_
  simp only [go_sem, wa, wc, r1, r2, r3, Int.zero_add]
  rw [calleeGM_iface (t := 122) (g := 142) (h := rfl)]
  refine dP A4 ?_
  simp only [go_sem, wa, wc, r1, r2, r3, r4, r5, Int.zero_add, w1']
  refine loop_body 3000 k_curve_steepness_curve_byGrid_r11.eq_1 ?_
  by_cases hp : 0 < s.part
  · have hq := hsl.next hp
    unfold SlK at hq
    try dsimp only at hq
    have hnx := hs.next hp
    have b1 : (wgt s 1 == 0) = false := beq_eq_false_iff_ne.2 (by show s.part ≠ 0; omega)
    have u1 : ¬ wgt s 1 = 0 := by show ¬ s.part = 0; omega
    have B1 := byGrid_at_run hlo (i := c + 1) (k := s.at_ + 1) (by omega) (by omega) (by omega)
    have B2 := byGrid_at_run hhi (i := c) (k := s.at_ + 1) (by omega) (by omega) (by omega)
    have B3 := byGrid_at_run hhi (i := c + 1) (k := s.at_ + 1) (by omega) (by omega) (by omega)
    have B4 := byGrid_at_run hlo (i := c) (k := s.at_ + 1) (by omega) (by omega) (by omega)
    simp only [tw, vw] at B1 B2 B3 B4
    have s1 : IntKind.i64.wrap (tg lo (c + 1) (s.at_ + 1) - tg hi c (s.at_ + 1)) = tg lo (c + 1) (s.at_ + 1) - tg hi c (s.at_ + 1) := w64 (by omega)
    have s2 : (if tg lo (c + 1) (s.at_ + 1) - tg hi c (s.at_ + 1) > 0 then tg lo (c + 1) (s.at_ + 1) - tg hi c (s.at_ + 1) else 0) = mx0 (tg lo (c + 1) (s.at_ + 1) - tg hi c (s.at_ + 1)) := rfl
    have s4' : wgt s 0 * mx0 (tg lo (c + 1) s.at_ - tg hi c s.at_) + wgt s 1 * mx0 (tg lo (c + 1) (s.at_ + 1) - tg hi c (s.at_ + 1)) = riseLo (tg lo) (tg hi) c s := rfl
    have s3 : IntKind.i64.wrap (wgt s 1 * mx0 (tg lo (c + 1) (s.at_ + 1) - tg hi c (s.at_ + 1))) = wgt s 1 * mx0 (tg lo (c + 1) (s.at_ + 1) - tg hi c (s.at_ + 1)) := w64 (by omega)
    have s4 : IntKind.i64.wrap (riseLo (tg lo) (tg hi) c s) = riseLo (tg lo) (tg hi) c s := w64 (by omega)
    have s5 : IntKind.i64.wrap (tg hi (c + 1) (s.at_ + 1) - tg lo c (s.at_ + 1)) = tg hi (c + 1) (s.at_ + 1) - tg lo c (s.at_ + 1) := w64 (by omega)
    have s7' : wgt s 0 * (tg hi (c + 1) s.at_ - tg lo c s.at_) + wgt s 1 * (tg hi (c + 1) (s.at_ + 1) - tg lo c (s.at_ + 1)) = riseHi (tg lo) (tg hi) c s := rfl
    have s6 : IntKind.i64.wrap (wgt s 1 * (tg hi (c + 1) (s.at_ + 1) - tg lo c (s.at_ + 1))) = wgt s 1 * (tg hi (c + 1) (s.at_ + 1) - tg lo c (s.at_ + 1)) := w64 (by omega)
    have s7 : IntKind.i64.wrap (riseHi (tg lo) (tg hi) c s) = riseHi (tg lo) (tg hi) c s := w64 (by omega)
    simp only [go_sem, b1, u1, wb, wc]
    rw [calleeGM_iface (t := 122) (g := 142) (h := rfl)]
    refine dP B1 ?_
    simp only [go_sem, wb, wc]
    rw [calleeGM_iface (t := 122) (g := 142) (h := rfl)]
    refine dP B2 ?_
    simp only [go_sem, wb, wc, s1, s2, s3, s4', s4]
    rw [calleeGM_iface (t := 122) (g := 142) (h := rfl)]
    refine dP B3 ?_
    simp only [go_sem, wb, wc]
    rw [calleeGM_iface (t := 122) (g := 142) (h := rfl)]
    refine dP B4 ?_
    simp only [go_sem, wb, wc, s5, s6, s7', s7, w2']
    refine loop_body 3000 k_curve_steepness_curve_byGrid_r11.eq_1 ?_
    simp only [go_sem, w1', w2', wc, n0, n1, x1, x2, wd, Int.toNat_natCast, List.length_map, wdw, q1, q3, q4, q5, z1]
    refine dP kr ?_
    simp only [go_sem, stp, Rg.v, q5]
  · have hz : s.part = 0 := by omega
    have b1 : (wgt s 1 == 0) = true := beq_iff_eq.2 hz
    have u1 : wgt s 1 = 0 := hz
    have s4' : wgt s 0 * mx0 (tg lo (c + 1) s.at_ - tg hi c s.at_) = riseLo (tg lo) (tg hi) c s := by unfold riseLo; rw [u1, Int.zero_mul, Int.add_zero]
    have s7' : wgt s 0 * (tg hi (c + 1) s.at_ - tg lo c s.at_) = riseHi (tg lo) (tg hi) c s := by unfold riseHi; rw [u1, Int.zero_mul, Int.add_zero]
    rw [s4', s7']
    simp only [go_sem, b1, u1, w2']
    refine loop_body 3000 k_curve_steepness_curve_byGrid_r11.eq_1 ?_
    simp only [go_sem, w1', w2', wc, n0, n1, x1, x2, wd, Int.toNat_natCast, List.length_map, wdw, q1, q3, q4, q5, z1]
    refine dP kr ?_
    simp only [go_sem, stp, Rg.v, q5]

set_option maxHeartbeats 4000000 in
set_option maxRecDepth 20000 in
theorem steep_byPlate {m n : Nat} {lo hi : List (List Int)} (hlo : Tab n m lo) (hhi : Tab n m hi) {lines others : List Int} (hm : lines.length = m) (hmn : m ≤ 40 ∧ n ≤ 40) {a v M u d : Int} (ha : -1000000 ≤ a ∧ a ≤ 999999) (hO : Asc a others) (hn : others.length = n) (hv : -1000000 ≤ v ∧ v ≤ 1000000)
    {c : Nat} (hc : c + 1 < m) (hs : SpOK n M (spot others v)) (hM : M ≤ 2000000) (hsl : SlOK (fun i k => tg lo k i) (fun i k => tg hi k i) c (spot others v)) (hd : at1 lines (c + 1) - at1 lines c = d) (hd1 : 1 ≤ d ∧ d ≤ 2000000) (hu : 1 ≤ u ∧ u ≤ 1000000) :
    Ans Try.prog n_curve_steepness_curve_byPlate [tw lo, tw hi, vw lines, vw others, .int .i64 c, .int .i64 v, .int .i64 u] [] (stp (fun i k => tg lo k i) (fun i k => tg hi k i) d c (spot others v) u).v [] := by
  have k1 := spotOf_run ha hO hv
  obtain ⟨s, hse⟩ : ∃ s, spot others v = s := ⟨_, rfl⟩
  rw [hse] at k1 hs hsl ⊢
  have k2 := weights_run (by omega) hs
  have hr := rise_in hsl hs hM
  try dsimp only at hr
  obtain ⟨p0, p1⟩ := hs.part
  have pw := hs.whole
  have pa := hs.at_
  have hdw : 1 ≤ d * s.whole ∧ d * s.whole ≤ 2000000 * 2000000 := ⟨Int.mul_pos (by omega) (by omega), Int.mul_le_mul hd1.2 (by omega) (by omega) (by omega)⟩
  have wdw : IntKind.i64.wrap (d * s.whole) = d * s.whole := w64 (by omega)
  have x1 := get_at (l := lines) (i := c + 1) (by omega)
  have x2 := get_at (l := lines) (i := c) (by omega)
  have wd : IntKind.i64.wrap (at1 lines (c + 1) - at1 lines c) = d := by rw [hd]; exact w64 (by omega)
  have wc : IntKind.i64.wrap ((c : Int) + 1) = ((c + 1 : Nat) : Int) := idx_next (n := m) (by omega) (by omega)
  have wa : IntKind.i64.wrap ((s.at_ : Int) + 0) = ((s.at_ : Nat) : Int) := by rw [w64 (by omega)]; omega
  have wb : IntKind.i64.wrap ((s.at_ : Int) + 1) = ((s.at_ + 1 : Nat) : Int) := idx_next (n := n) (by omega) (by omega)
  have n0 : ¬ ((c + 1 : Nat) : Int) < 0 := by omega
  have n1 : ¬ (c : Int) < 0 := by omega
  have b0 : (wgt s 0 == 0) = false := beq_eq_false_iff_ne.2 (by show s.whole - s.part ≠ 0; omega)
  have u0 : ¬ wgt s 0 = 0 := by show ¬ s.whole - s.part = 0; omega
  have A1 := byPlate_at_run hlo (i := s.at_) (k := c + 1) (by omega) (by omega) (by omega)
  have A2 := byPlate_at_run hhi (i := s.at_) (k := c) (by omega) (by omega) (by omega)
  have A3 := byPlate_at_run hhi (i := s.at_) (k := c + 1) (by omega) (by omega) (by omega)
  have A4 := byPlate_at_run hlo (i := s.at_) (k := c) (by omega) (by omega) (by omega)
  have hh := hsl.here
  unfold SlK at hh
  try dsimp only at hh
  have w1' : IntKind.i64.wrap 1 = 1 := by decide
  have w2' : IntKind.i64.wrap 2 = 2 := by decide
  have r1 : IntKind.i64.wrap (tg lo s.at_ (c + 1) - tg hi s.at_ c) = tg lo s.at_ (c + 1) - tg hi s.at_ c := w64 (by omega)
  have r2 : (if tg lo s.at_ (c + 1) - tg hi s.at_ c > 0 then tg lo s.at_ (c + 1) - tg hi s.at_ c else 0) = mx0 (tg lo s.at_ (c + 1) - tg hi s.at_ c) := rfl
  have r3 : IntKind.i64.wrap (wgt s 0 * mx0 (tg lo s.at_ (c + 1) - tg hi s.at_ c)) = wgt s 0 * mx0 (tg lo s.at_ (c + 1) - tg hi s.at_ c) := w64 (by omega)
  have r4 : IntKind.i64.wrap (tg hi s.at_ (c + 1) - tg lo s.at_ c) = tg hi s.at_ (c + 1) - tg lo s.at_ c := w64 (by omega)
  have r5 : IntKind.i64.wrap (wgt s 0 * (tg hi s.at_ (c + 1) - tg lo s.at_ c)) = wgt s 0 * (tg hi s.at_ (c + 1) - tg lo s.at_ c) := w64 (by omega)
  have q2 : 0 ≤ u * riseLo (fun i k => tg lo k i) (fun i k => tg hi k i) c s ∧ u * riseLo (fun i k => tg lo k i) (fun i k => tg hi k i) c s ≤ 1000000 * 2000000000000 := ⟨Int.mul_nonneg (by omega) (by omega), Int.mul_le_mul hu.2 (by omega) (by omega) (by omega)⟩
  have q2' : 0 ≤ u * riseHi (fun i k => tg lo k i) (fun i k => tg hi k i) c s ∧ u * riseHi (fun i k => tg lo k i) (fun i k => tg hi k i) c s ≤ 1000000 * 2000000000000 := ⟨Int.mul_nonneg (by omega) (by omega), Int.mul_le_mul hu.2 (by omega) (by omega) (by omega)⟩
  have q1 : IntKind.i64.wrap (u * riseLo (fun i k => tg lo k i) (fun i k => tg hi k i) c s) = u * riseLo (fun i k => tg lo k i) (fun i k => tg hi k i) c s := w64 (by omega)
  have q3 : IntKind.i64.wrap (u * riseHi (fun i k => tg lo k i) (fun i k => tg hi k i) c s) = u * riseHi (fun i k => tg lo k i) (fun i k => tg hi k i) c s := w64 (by omega)
  have q4 : (u * riseLo (fun i k => tg lo k i) (fun i k => tg hi k i) c s).tdiv (d * s.whole) = u * riseLo (fun i k => tg lo k i) (fun i k => tg hi k i) c s / (d * s.whole) := Int.tdiv_eq_ediv_of_nonneg (by omega)
  have q6 : 0 ≤ u * riseLo (fun i k => tg lo k i) (fun i k => tg hi k i) c s / (d * s.whole) := Int.ediv_nonneg (by omega) (by omega)
  have q7 : u * riseLo (fun i k => tg lo k i) (fun i k => tg hi k i) c s / (d * s.whole) ≤ u * riseLo (fun i k => tg lo k i) (fun i k => tg hi k i) c s := Int.ediv_le_self _ (by omega)
  have q5 : IntKind.i64.wrap (u * riseLo (fun i k => tg lo k i) (fun i k => tg hi k i) c s / (d * s.whole)) = u * riseLo (fun i k => tg lo k i) (fun i k => tg hi k i) c s / (d * s.whole) := w64 (by omega)
  have z1 : ¬ d * s.whole = 0 := by omega
  have kr := roundUp_run (n := u * riseHi (fun i k => tg lo k i) (fun i k => tg hi k i) c s) (b := d * s.whole) (by omega) (by omega)
  simp only [vw, Sv] at k1
  simp only [Sv] at k2
  simp only [tw, vw] at A1 A2 A3 A4
  refine spec_run e_curve_steepness_curve_byPlate fun G => ?_
  simp only [go_sem, tw, vw]
  refine cP k1 ?_
  simp only [go_sem]
  refine cP k2 ?_
  simp only [go_sem]
  refine loop_body 3000 k_curve_steepness_curve_byPlate_r11.eq_1 ?_
  simp only [go_sem, b0, u0, wa, wc]
  rw [calleeGM_iface (t := 124) (g := 143) (h := rfl)]
  refine dP A1 ?_
  simp only [go_sem, wa, wc]
  rw [calleeGM_iface (t := 124) (g := 143) (h := rfl)]
  refine dP A2 ?_
  simp only [go_sem, wa, wc, r1, r2, r3, Int.zero_add]
  rw [calleeGM_iface (t := 124) (g := 143) (h := rfl)]
  refine dP A3 ?_
  simp only [go_sem, wa, wc, r1, r2, r3, Int.zero_add]
  rw [calleeGM_iface (t := 124) (g := 143) (h := rfl)]
  refine dP A4 ?_
  simp only [go_sem, wa, wc, r1, r2, r3, r4, r5, Int.zero_add, w1']
  refine loop_body 3000 k_curve_steepness_curve_byPlate_r11.eq_1 ?_
  by_cases hp : 0 < s.part
  · have hq := hsl.next hp
    unfold SlK at hq
    try dsimp only at hq
    have hnx := hs.next hp
    have b1 : (wgt s 1 == 0) = false := beq_eq_false_iff_ne.2 (by show s.part ≠ 0; omega)
    have u1 : ¬ wgt s 1 = 0 := by show ¬ s.part = 0; omega
    have B1 := byPlate_at_run hlo (i := s.at_ + 1) (k := c + 1) (by omega) (by omega) (by omega)
    have B2 := byPlate_at_run hhi (i := s.at_ + 1) (k := c) (by omega) (by omega) (by omega)
    have B3 := byPlate_at_run hhi (i := s.at_ + 1) (k := c + 1) (by omega) (by omega) (by omega)
    have B4 := byPlate_at_run hlo (i := s.at_ + 1) (k := c) (by omega) (by omega) (by omega)
    simp only [tw, vw] at B1 B2 B3 B4
    have s1 : IntKind.i64.wrap (tg lo (s.at_ + 1) (c + 1) - tg hi (s.at_ + 1) c) = tg lo (s.at_ + 1) (c + 1) - tg hi (s.at_ + 1) c := w64 (by omega)
    have s2 : (if tg lo (s.at_ + 1) (c + 1) - tg hi (s.at_ + 1) c > 0 then tg lo (s.at_ + 1) (c + 1) - tg hi (s.at_ + 1) c else 0) = mx0 (tg lo (s.at_ + 1) (c + 1) - tg hi (s.at_ + 1) c) := rfl
    have s4' : wgt s 0 * mx0 (tg lo s.at_ (c + 1) - tg hi s.at_ c) + wgt s 1 * mx0 (tg lo (s.at_ + 1) (c + 1) - tg hi (s.at_ + 1) c) = riseLo (fun i k => tg lo k i) (fun i k => tg hi k i) c s := rfl
    have s3 : IntKind.i64.wrap (wgt s 1 * mx0 (tg lo (s.at_ + 1) (c + 1) - tg hi (s.at_ + 1) c)) = wgt s 1 * mx0 (tg lo (s.at_ + 1) (c + 1) - tg hi (s.at_ + 1) c) := w64 (by omega)
    have s4 : IntKind.i64.wrap (riseLo (fun i k => tg lo k i) (fun i k => tg hi k i) c s) = riseLo (fun i k => tg lo k i) (fun i k => tg hi k i) c s := w64 (by omega)
    have s5 : IntKind.i64.wrap (tg hi (s.at_ + 1) (c + 1) - tg lo (s.at_ + 1) c) = tg hi (s.at_ + 1) (c + 1) - tg lo (s.at_ + 1) c := w64 (by omega)
    have s7' : wgt s 0 * (tg hi s.at_ (c + 1) - tg lo s.at_ c) + wgt s 1 * (tg hi (s.at_ + 1) (c + 1) - tg lo (s.at_ + 1) c) = riseHi (fun i k => tg lo k i) (fun i k => tg hi k i) c s := rfl
    have s6 : IntKind.i64.wrap (wgt s 1 * (tg hi (s.at_ + 1) (c + 1) - tg lo (s.at_ + 1) c)) = wgt s 1 * (tg hi (s.at_ + 1) (c + 1) - tg lo (s.at_ + 1) c) := w64 (by omega)
    have s7 : IntKind.i64.wrap (riseHi (fun i k => tg lo k i) (fun i k => tg hi k i) c s) = riseHi (fun i k => tg lo k i) (fun i k => tg hi k i) c s := w64 (by omega)
    simp only [go_sem, b1, u1, wb, wc]
    rw [calleeGM_iface (t := 124) (g := 143) (h := rfl)]
    refine dP B1 ?_
    simp only [go_sem, wb, wc]
    rw [calleeGM_iface (t := 124) (g := 143) (h := rfl)]
    refine dP B2 ?_
    simp only [go_sem, wb, wc, s1, s2, s3, s4', s4]
    rw [calleeGM_iface (t := 124) (g := 143) (h := rfl)]
    refine dP B3 ?_
    simp only [go_sem, wb, wc]
    rw [calleeGM_iface (t := 124) (g := 143) (h := rfl)]
    refine dP B4 ?_
    simp only [go_sem, wb, wc, s5, s6, s7', s7, w2']
    refine loop_body 3000 k_curve_steepness_curve_byPlate_r11.eq_1 ?_
    simp only [go_sem, w1', w2', wc, n0, n1, x1, x2, wd, Int.toNat_natCast, List.length_map, wdw, q1, q3, q4, q5, z1]
    refine dP kr ?_
    simp only [go_sem, stp, Rg.v, q5]
  · have hz : s.part = 0 := by omega
    have b1 : (wgt s 1 == 0) = true := beq_iff_eq.2 hz
    have u1 : wgt s 1 = 0 := hz
    have s4' : wgt s 0 * mx0 (tg lo s.at_ (c + 1) - tg hi s.at_ c) = riseLo (fun i k => tg lo k i) (fun i k => tg hi k i) c s := by unfold riseLo; rw [u1, Int.zero_mul, Int.add_zero]
    have s7' : wgt s 0 * (tg hi s.at_ (c + 1) - tg lo s.at_ c) = riseHi (fun i k => tg lo k i) (fun i k => tg hi k i) c s := by unfold riseHi; rw [u1, Int.zero_mul, Int.add_zero]
    rw [s4', s7']
    simp only [go_sem, b1, u1, w2']
    refine loop_body 3000 k_curve_steepness_curve_byPlate_r11.eq_1 ?_
    simp only [go_sem, w1', w2', wc, n0, n1, x1, x2, wd, Int.toNat_natCast, List.length_map, wdw, q1, q3, q4, q5, z1]
    refine dP kr ?_
    simp only [go_sem, stp, Rg.v, q5]
end Go.Proofs

namespace Go.Proofs
open Go Go.Sx Go.Fam
attribute [local irreducible] Run

def slA (f : Fa) (c : Nat) (v : Int) : Rg := stp (tg f.lo) (tg f.hi) (at1 f.g (c + 1) - at1 f.g c) c (spot f.p v) 1000
def ylA (f : Fa) (v : Int) (c : Nat) : Rg := stp (fun i k => tg f.lo k i) (fun i k => tg f.hi k i) (at1 f.p (c + 1) - at1 f.p c) c (spot f.g v) 1000000
theorem sl_ok {f : Fa} (h : FaOK f) {c : Nat} (hc : c + 1 < f.g.length) (v : Int) : SlOK (tg f.lo) (tg f.hi) c (spot f.p v) := by
  have hs : SpOK f.p.length 1000000 (spot f.p v) := spot_ok h.p (by omega)
  have key : ∀ k, k < f.p.length → SlK (tg f.lo) (tg f.hi) c k := fun k hk => by
    have a := h.inn c k (by omega) hk
    have b := h.inn (c + 1) k hc hk
    have d := h.up c k hc hk
    unfold SlK; omega
  exact ⟨key _ hs.at_, fun hp => key _ (hs.next hp)⟩
theorem yl_ok {f : Fa} (h : FaOK f) {c : Nat} (hc : c + 1 < f.p.length) (v : Int) : SlOK (fun i k => tg f.lo k i) (fun i k => tg f.hi k i) c (spot f.g v) := by
  have hs : SpOK f.g.length 2000000 (spot f.g v) := spot_ok h.g (by omega)
  have key : ∀ k, k < f.g.length → SlK (fun i k => tg f.lo k i) (fun i k => tg f.hi k i) c k := fun k hk => by
    have a := h.inn k c hk (by omega)
    have b := h.inn k (c + 1) hk hc
    have d := h.right k c hk hc
    show 0 ≤ tg f.lo k c ∧ _
    dsimp only; omega
  exact ⟨key _ hs.at_, fun hp => key _ (hs.next hp)⟩
theorem gap_g {f : Fa} (h : FaOK f) {c : Nat} (hc : c + 1 < f.g.length) : 1 ≤ at1 f.g (c + 1) - at1 f.g c ∧ at1 f.g (c + 1) - at1 f.g c ≤ 2000000 := by
  have a := h.g.inn c (by omega)
  have b := h.g.inn (c + 1) hc
  have d := h.g.asc c hc
  omega
theorem gap_p {f : Fa} (h : FaOK f) {c : Nat} (hc : c + 1 < f.p.length) : 1 ≤ at1 f.p (c + 1) - at1 f.p c ∧ at1 f.p (c + 1) - at1 f.p c ≤ 2000000 := by
  have a := h.p.inn c (by omega)
  have b := h.p.inn (c + 1) hc
  have d := h.p.asc c hc
  omega
theorem slope_run {f : Fa} (h : FaOK f) {c : Nat} (hc : c + 1 < f.g.length) {v : Int} (hv : 0 ≤ v ∧ v ≤ 1000000) : Ans Try.prog n_curve_slope [Fv f, .int .i64 c, .int .i64 v] [] (slA f c v).v [] := by
  obtain ⟨tL, tH, sL, sH⟩ := h.tabs
  have gm := h.g.most
  have pm := h.p.most
  have k := steep_byGrid tL tH (lines := f.g) (others := f.p) (u := 1000) rfl ⟨gm, pm⟩ (a := 0) (v := v) (by omega) h.p rfl (by omega) hc (spot_ok h.p (by omega)) (by omega) (sl_ok h hc v) rfl (gap_g h hc) (by omega)
  simp only [tw, vw, Rg.v] at k
  refine spec_run e_curve_slope fun G => ?_
  simp only [go_sem, Fv, Fcs, tw, vw]
  refine cP k ?_
  simp only [go_sem, slA, Rg.v]
theorem yield_run {f : Fa} (h : FaOK f) {c : Nat} (hc : c + 1 < f.p.length) {v : Int} (hv : -1000000 ≤ v ∧ v ≤ 1000000) : Ans Try.prog n_curve_yield [Fv f, .int .i64 v, .int .i64 c] [] (ylA f v c).v [] := by
  obtain ⟨tL, tH, sL, sH⟩ := h.tabs
  have gm := h.g.most
  have pm := h.p.most
  have k := steep_byPlate tL tH (lines := f.p) (others := f.g) (u := 1000000) rfl ⟨pm, gm⟩ (a := -1000000) (v := v) (by omega) h.g rfl (by omega) hc (spot_ok h.g (by omega)) (by omega) (yl_ok h hc v) rfl (gap_p h hc) (by omega)
  simp only [tw, vw, Rg.v] at k
  refine spec_run e_curve_yield fun G => ?_
  simp only [go_sem, Fv, Fcs, tw, vw]
  refine cP k ?_
  simp only [go_sem, ylA, Rg.v]
theorem isCell_run (l : List Int) (hl : l.length ≤ 1000000) (c : Int) : Ans Try.prog n_curve_isCell [vw l, .int .i64 c] [] (.bool (decide (0 ≤ c ∧ c ≤ (l.length : Int) - 2))) [] := by
  have w : IntKind.i64.wrap ((l.length : Int) - 2) = (l.length : Int) - 2 := w64 (by omega)
  have k := within_run c 0 ((l.length : Int) - 2)
  refine spec_run e_curve_isCell fun G => ?_
  simp only [go_sem, vw, List.length_map, w]
  refine cP k ?_
  simp only [go_sem]
def cellOK (l : List Int) (c : Int) : Prop := 0 ≤ c ∧ c ≤ (l.length : Int) - 2
instance (l : List Int) (c : Int) : Decidable (cellOK l c) := by unfold cellOK; infer_instance
def slE (f : Fa) (c v : Int) : Int := if famE f = 0 then (if cellOK f.g c then (if 0 ≤ v ∧ v ≤ 1000000 then 0 else 2) else 7) else famE f
def ylE (f : Fa) (v c : Int) : Int := if famE f = 0 then (if -1000000 ≤ v ∧ v ≤ 1000000 then (if cellOK f.p c then 0 else 7) else 2) else famE f
theorem Slope_run (f : Fa) (hg : f.g.length ≤ 1000000) (hp : f.p.length ≤ 1000000) (hl : f.lo.length ≤ 1000000) (hh : f.hi.length ≤ 1000000) (c v : Int) : Ans Try.prog n_curve_Slope [Fv f, .int .i64 c, .int .i64 v] [] (rgA (slE f c v) (slA f c.toNat v)) [] := by
  have k1 := Check_run f hg hp hl hh
  have k2 := isCell_run f.g hg c
  have k3 := rightP_fn v
  obtain ⟨e, he⟩ : ∃ e, slE f c v = e := ⟨_, rfl⟩
  rw [he]
  unfold slE at he
  refine spec_run e_curve_Slope fun G => ?_
  simp only [Fv, Fcs] at k1
  simp only [go_sem, Fv, Fcs]
  refine cP k1 ?_
  by_cases c1 : famE f = 0
  · rw [if_pos c1] at he
    have hf := fam_iff.1 c1
    simp only [go_sem, c1]
    refine cP k2 ?_
    by_cases c2 : cellOK f.g c
    · rw [if_pos c2] at he
      rw [decide_eq_true (show 0 ≤ c ∧ c ≤ (f.g.length : Int) - 2 from c2)]
      simp only [go_sem]
      refine cP k3 ?_
      by_cases c3 : 0 ≤ v ∧ v ≤ 1000000
      · rw [if_pos c3] at he
        subst he
        rw [decide_eq_true c3]
        unfold cellOK at c2
        obtain ⟨cn, rfl⟩ : ∃ n : Nat, c = n := ⟨c.toNat, by omega⟩
        have k4 := slope_run hf (c := cn) (by omega) c3
        rw [rgA_yes _ rfl, Int.toNat_natCast]
        simp only [Fv, Fcs, Rg.v] at k4
        simp only [go_sem]
        refine cP k4 ?_
        simp only [go_sem, Rg.v]
      · rw [if_neg c3] at he
        subst he
        rw [decide_eq_false c3, rgA_no _ (by decide)]
        simp only [go_sem]
    · rw [if_neg c2] at he
      subst he
      rw [decide_eq_false (show ¬ (0 ≤ c ∧ c ≤ (f.g.length : Int) - 2) from c2), rgA_no _ (by decide)]
      simp only [go_sem]
  · rw [if_neg c1] at he
    subst he
    rw [rgA_no _ c1]
    simp only [go_sem, c1]
theorem Yield_run (f : Fa) (hg : f.g.length ≤ 1000000) (hp : f.p.length ≤ 1000000) (hl : f.lo.length ≤ 1000000) (hh : f.hi.length ≤ 1000000) (v c : Int) : Ans Try.prog n_curve_Yield [Fv f, .int .i64 v, .int .i64 c] [] (rgA (ylE f v c) (ylA f v c.toNat)) [] := by
  have k1 := Check_run f hg hp hl hh
  have k2 := isCell_run f.p hp c
  have k3 := rightG_fn v
  obtain ⟨e, he⟩ : ∃ e, ylE f v c = e := ⟨_, rfl⟩
  rw [he]
  unfold ylE at he
  refine spec_run e_curve_Yield fun G => ?_
  simp only [Fv, Fcs] at k1
  simp only [go_sem, Fv, Fcs]
  refine cP k1 ?_
  by_cases c1 : famE f = 0
  · rw [if_pos c1] at he
    have hf := fam_iff.1 c1
    simp only [go_sem, c1]
    refine cP k3 ?_
    by_cases c3 : -1000000 ≤ v ∧ v ≤ 1000000
    · rw [if_pos c3] at he
      rw [decide_eq_true c3]
      simp only [go_sem]
      refine cP k2 ?_
      by_cases c2 : cellOK f.p c
      · rw [if_pos c2] at he
        subst he
        rw [decide_eq_true (show 0 ≤ c ∧ c ≤ (f.p.length : Int) - 2 from c2)]
        unfold cellOK at c2
        obtain ⟨cn, rfl⟩ : ∃ n : Nat, c = n := ⟨c.toNat, by omega⟩
        have k4 := yield_run hf (c := cn) (by omega) c3
        rw [rgA_yes _ rfl, Int.toNat_natCast]
        simp only [Fv, Fcs, Rg.v] at k4
        simp only [go_sem]
        refine cP k4 ?_
        simp only [go_sem, Rg.v]
      · rw [if_neg c2] at he
        subst he
        rw [decide_eq_false (show ¬ (0 ≤ c ∧ c ≤ (f.p.length : Int) - 2) from c2), rgA_no _ (by decide)]
        simp only [go_sem]
    · rw [if_neg c3] at he
      subst he
      rw [decide_eq_false c3, rgA_no _ (by decide)]
      simp only [go_sem]
  · rw [if_neg c1] at he
    subst he
    rw [rgA_no _ c1]
    simp only [go_sem, c1]
end Go.Proofs

namespace Go.Proofs
open Go Go.Sx Go.Fam
attribute [local irreducible] Run

def hl (a b : Rg) : Rg := ⟨if b.lo < a.lo then b.lo else a.lo, if b.hi > a.hi then b.hi else a.hi⟩
theorem hull_run (a b : Rg) : Ans Try.prog n_curve_hull [.agg [.int .i64 a.lo, .int .i64 a.hi], .agg [.int .i64 b.lo, .int .i64 b.hi]] [] (hl a b).v [] := by
  refine spec_run e_curve_hull fun G => ?_
  simp only [go_sem, hl, Rg.v]
def gnS (f : Fa) (i k : Nat) : Rg := hl (slA f i (at1 f.p k)) (slA f i (at1 f.p (k + 1)))
def gnC (f : Fa) (i k : Nat) : Rg := hl (ylA f (at1 f.g i) k) (ylA f (at1 f.g (i + 1)) k)
def gnA (f : Fa) (i k : Nat) : Rg := ⟨1000000 * (gnS f i k).lo / (gnC f i k).hi, cup (1000000 * (gnS f i k).hi) (gnC f i k).lo⟩
def gnE (f : Fa) (i k : Int) : Int := if famE f = 0 then (if cellOK f.g i ∧ cellOK f.p k then (if (gnC f i.toNat k.toNat).lo = 0 then 15 else 0) else 7) else famE f
theorem slA_in {f : Fa} (h : FaOK f) {c : Nat} (hc : c + 1 < f.g.length) (v : Int) : 0 ≤ (slA f c v).lo ∧ (slA f c v).lo ≤ (slA f c v).hi ∧ (slA f c v).hi ≤ 1000 * 1000000 :=
  stp_in (sl_ok h hc v) (spot_ok h.p (by omega)) (by omega) (gap_g h hc).1 (by omega)
theorem ylA_in {f : Fa} (h : FaOK f) {c : Nat} (hc : c + 1 < f.p.length) (v : Int) : 0 ≤ (ylA f v c).lo ∧ (ylA f v c).lo ≤ (ylA f v c).hi ∧ (ylA f v c).hi ≤ 1000000 * 1000000 :=
  stp_in (yl_ok h hc v) (spot_ok h.g (by omega)) (by omega) (gap_p h hc).1 (by omega)
theorem hl_in {a b : Rg} {M : Int} (ha : 0 ≤ a.lo ∧ a.lo ≤ a.hi ∧ a.hi ≤ M) (hb : 0 ≤ b.lo ∧ b.lo ≤ b.hi ∧ b.hi ≤ M) : 0 ≤ (hl a b).lo ∧ (hl a b).lo ≤ (hl a b).hi ∧ (hl a b).hi ≤ M := by
  unfold hl
  dsimp only
  split <;> split <;> omega
set_option maxHeartbeats 4000000 in
set_option maxRecDepth 20000 in
theorem Gain_run (f : Fa) (hg : f.g.length ≤ 1000000) (hp : f.p.length ≤ 1000000) (hl' : f.lo.length ≤ 1000000) (hh : f.hi.length ≤ 1000000) (i k : Int) : Ans Try.prog n_curve_Gain [Fv f, .int .i64 i, .int .i64 k] [] (rgA (gnE f i k) (gnA f i.toNat k.toNat)) [] := by
  have k1 := Check_run f hg hp hl' hh
  have k2 := isCell_run f.g hg i
  have k3 := isCell_run f.p hp k
  obtain ⟨e, he⟩ : ∃ e, gnE f i k = e := ⟨_, rfl⟩
  rw [he]
  unfold gnE at he
  refine spec_run e_curve_Gain fun G => ?_
  simp only [Fv, Fcs] at k1
  simp only [go_sem, Fv, Fcs]
  refine cP k1 ?_
  by_cases c1 : famE f = 0
  · rw [if_pos c1] at he
    have hf := fam_iff.1 c1
    simp only [go_sem, c1]
    refine cP k2 ?_
    by_cases c2 : cellOK f.g i
    · rw [decide_eq_true (show 0 ≤ i ∧ i ≤ (f.g.length : Int) - 2 from c2)]
      simp only [go_sem]
      refine cP k3 ?_
      by_cases c3 : cellOK f.p k
      · rw [if_pos ⟨c2, c3⟩] at he
        rw [decide_eq_true (show 0 ≤ k ∧ k ≤ (f.p.length : Int) - 2 from c3)]
        unfold cellOK at c2 c3
        obtain ⟨a, rfl⟩ : ∃ n : Nat, i = n := ⟨i.toNat, by omega⟩
        obtain ⟨b, rfl⟩ : ∃ n : Nat, k = n := ⟨k.toNat, by omega⟩
        rw [Int.toNat_natCast, Int.toNat_natCast] at he ⊢
        have gm := hf.g.most
        have pm := hf.p.most
        have ga := hf.g.inn a (by omega)
        have ga1 := hf.g.inn (a + 1) (by omega)
        have pb := hf.p.inn b (by omega)
        have pb1 := hf.p.inn (b + 1) (by omega)
        have s1 := slope_run hf (c := a) (by omega) pb
        have s2 := slope_run hf (c := a) (by omega) pb1
        have y1 := yield_run hf (c := b) (by omega) ga
        have y2 := yield_run hf (c := b) (by omega) ga1
        have h1 := hull_run (slA f a (at1 f.p b)) (slA f a (at1 f.p (b + 1)))
        have h2 := hull_run (ylA f (at1 f.g a) b) (ylA f (at1 f.g (a + 1)) b)
        have iS := hl_in (slA_in hf (c := a) (by omega) (at1 f.p b)) (slA_in hf (c := a) (by omega) (at1 f.p (b + 1)))
        have iC := hl_in (ylA_in hf (c := b) (by omega) (at1 f.g a)) (ylA_in hf (c := b) (by omega) (at1 f.g (a + 1)))
        have x1 := get_at (l := f.g) (i := a) (by omega)
        have x2 := get_at (l := f.g) (i := a + 1) (by omega)
        have x3 := get_at (l := f.p) (i := b) (by omega)
        have x4 := get_at (l := f.p) (i := b + 1) (by omega)
        have wa : IntKind.i64.wrap ((a : Int) + 1) = ((a + 1 : Nat) : Int) := idx_next (n := f.g.length) (by omega) (by omega)
        have wb : IntKind.i64.wrap ((b : Int) + 1) = ((b + 1 : Nat) : Int) := idx_next (n := f.p.length) (by omega) (by omega)
        have n0 : ¬ ((a + 1 : Nat) : Int) < 0 := by omega
        have n1 : ¬ (a : Int) < 0 := by omega
        have n2 : ¬ ((b + 1 : Nat) : Int) < 0 := by omega
        have n3 : ¬ (b : Int) < 0 := by omega
        have eS : hl (slA f a (at1 f.p b)) (slA f a (at1 f.p (b + 1))) = gnS f a b := rfl
        have eC : hl (ylA f (at1 f.g a) b) (ylA f (at1 f.g (a + 1)) b) = gnC f a b := rfl
        rw [eS] at h1 iS
        rw [eC] at h2 iC
        simp only [Fv, Fcs, Rg.v, tw, vw] at s1 s2 y1 y2
        simp only [Rg.v] at h1 h2
        simp only [go_sem, tw, vw, n1, n3, x1, x3, Int.toNat_natCast, wa, wb]
        refine dP s1 ?_
        simp only [go_sem, n0, n1, n2, n3, x1, x2, x3, x4, Int.toNat_natCast, wa, wb]
        refine dP s2 ?_
        simp only [go_sem]
        refine dP h1 ?_
        simp only [go_sem, n0, n1, n2, n3, x1, x2, x3, x4, Int.toNat_natCast, wa, wb]
        refine dP y1 ?_
        simp only [go_sem, n0, n1, n2, n3, x1, x2, x3, x4, Int.toNat_natCast, wa, wb]
        refine dP y2 ?_
        simp only [go_sem]
        refine dP h2 ?_
        simp only [go_sem]
        refine ⟨fun z => ?_, fun z => ⟨by omega, ?_⟩⟩
        · rw [if_pos z] at he
          subst he
          rw [rgA_no _ (by decide)]
        · rw [if_neg z] at he
          subst he
          rw [rgA_yes _ rfl]
          unfold gnA
          generalize gnS f a b = S at *
          generalize gnC f a b = C at *
          have q1 : IntKind.i64.wrap (1000000 * S.lo) = 1000000 * S.lo := w64 (by omega)
          have q2 : IntKind.i64.wrap (1000000 * S.hi) = 1000000 * S.hi := w64 (by omega)
          have q3 : (1000000 * S.lo).tdiv C.hi = 1000000 * S.lo / C.hi := Int.tdiv_eq_ediv_of_nonneg (by omega)
          have q4 : 0 ≤ 1000000 * S.lo / C.hi := Int.ediv_nonneg (by omega) (by omega)
          have q5 : 1000000 * S.lo / C.hi ≤ 1000000 * S.lo := Int.ediv_le_self _ (by omega)
          have q6 : IntKind.i64.wrap (1000000 * S.lo / C.hi) = 1000000 * S.lo / C.hi := w64 (by omega)
          have kr := roundUp_run (n := 1000000 * S.hi) (b := C.lo) (by omega) (by omega)
          rw [q2]
          refine dP kr ?_
          simp only [go_sem, Rg.v, q1, q3, q6]
      · rw [if_neg (fun h => c3 h.2)] at he
        subst he
        rw [decide_eq_false (show ¬ (0 ≤ k ∧ k ≤ (f.p.length : Int) - 2) from c3), rgA_no _ (by decide)]
        simp only [go_sem]
    · rw [if_neg (fun h => c2 h.1)] at he
      subst he
      rw [decide_eq_false (show ¬ (0 ≤ i ∧ i ≤ (f.g.length : Int) - 2) from c2), rgA_no _ (by decide)]
      simp only [go_sem]
  · rw [if_neg c1] at he
    subst he
    rw [rgA_no _ c1]
    simp only [go_sem, c1]
end Go.Proofs

namespace Go.Proofs
open Go Go.Sx Go.Fam
attribute [local irreducible] Run

theorem rspot_sl {lo hi : Nat → Nat → Int} {c : Nat} {l : List Int} {v : Int} (h : SlOK lo hi c (spot l v)) : SlOK lo hi c (rspot l v) := by
  unfold rspot
  split
  · exact ⟨h.here, fun hp => by simp at hp⟩
  · exact h
theorem rspot_stp (lo hi : Nat → Nat → Int) {d : Int} (hd : 0 < d) (c : Nat) {l : List Int} {v : Int} (hs : 0 < (spot l v).whole) (u : Int) : stp lo hi d c (rspot l v) u = stp lo hi d c (spot l v) u := by
  unfold rspot; exact stp_r lo hi hd c hs u
theorem rsl_run {f : Fa} (h : FaOK f) {c : Nat} (hc : c + 1 < f.g.length) {v : Int} (hv : 0 ≤ v ∧ v ≤ 1000000) : Ans Try.prog n_ref02_slope [Fv f, .int .i64 c, .int .i64 v, .int .i64 1000] [] (slA f c v).v [] := by
  obtain ⟨tL, tH, sL, sH⟩ := h.tabs
  have gm := h.g.most
  have pm := h.p.most
  have os : SpOK f.p.length 1000000 (spot f.p v) := spot_ok h.p (by omega)
  have k := rslope_run tL tH rfl rfl ⟨gm, pm⟩ (a := 0) (v := v) (u := 1000) (by omega) h.p (by omega) hc (rspot_ok os) (by omega) (rspot_sl (sl_ok h hc v)) rfl (gap_g h hc) (by omega)
  rw [rspot_stp _ _ (by have := (gap_g h hc).1; omega) _ (by have := os.part; omega)] at k
  exact k
theorem ryl_run {f : Fa} (h : FaOK f) {c : Nat} (hc : c + 1 < f.p.length) {v : Int} (hv : -1000000 ≤ v ∧ v ≤ 1000000) : Ans Try.prog n_ref02_slope [Fv (acF f), .int .i64 c, .int .i64 v, .int .i64 1000000] [] (ylA f v c).v [] := by
  obtain ⟨tL, tH, sL, sH⟩ := h.tabs
  have gm := h.g.most
  have pm := h.p.most
  have os : SpOK f.g.length 2000000 (spot f.g v) := spot_ok h.g (by omega)
  have e1 : tg (acF f).lo = fun k i => tg f.lo i k := acT_tg tL
  have e2 : tg (acF f).hi = fun k i => tg f.hi i k := acT_tg tH
  have k := rslope_run (F := acF f) (acT_tab _ _ _) (acT_tab _ _ _) rfl rfl ⟨pm, gm⟩ (a := -1000000) (v := v) (u := 1000000) (c := c) (by omega) h.g (by omega) hc (rspot_ok os) (by omega) (by rw [e1, e2]; exact rspot_sl (yl_ok h hc v)) rfl (gap_p h hc) (by omega)
  rw [e1, e2, rspot_stp _ _ (by have := (gap_p h hc).1; show 0 < at1 f.p (c + 1) - at1 f.p c; omega) _ (by show 0 < (spot f.g v).whole; have := os.part; omega)] at k
  exact k
theorem rhull_run (a b : Rg) : Ans Try.prog n_ref02_hull [.agg [.int .i64 a.lo, .int .i64 a.hi], .agg [.int .i64 b.lo, .int .i64 b.hi]] [] (hl a b).v [] := by
  refine spec_run e_ref02_hull fun G => ?_
  simp only [go_sem, hl, Rg.v]
set_option maxRecDepth 20000 in
theorem rSlope_run (f : Fa) (hg : f.g.length ≤ 1000000) (hp : f.p.length ≤ 1000000) (hl : f.lo.length ≤ 1000000) (hh : f.hi.length ≤ 1000000) (c v : Int) : Ans Try.prog n_ref02_Slope [Fv f, .int .i64 c, .int .i64 v] [] (rgA (slE f c v) (slA f c.toNat v)) [] := by
  have k1 := rCheck_run f hg hp hl hh
  have k3 := rright_raw 0 v
  have w : IntKind.i64.wrap ((f.g.length : Int) - 2) = (f.g.length : Int) - 2 := w64 (by omega)
  obtain ⟨e, he⟩ : ∃ e, slE f c v = e := ⟨_, rfl⟩
  rw [he]
  unfold slE at he
  refine spec_run e_ref02_Slope fun G => ?_
  simp only [Fv, Fcs] at k1
  simp only [go_sem, Fv, Fcs]
  refine cP k1 ?_
  by_cases c1 : famE f = 0
  · rw [if_pos c1] at he
    have hf := fam_iff.1 c1
    by_cases c2 : cellOK f.g c
    · rw [if_pos c2] at he
      unfold cellOK at c2
      have a1 : ¬ c < 0 := by omega
      have a2 : ¬ c > (f.g.length : Int) - 2 := by omega
      simp only [go_sem, c1, vw, List.length_map, w, a1, a2]
      refine cP k3 ?_
      by_cases c3 : 0 ≤ v ∧ v ≤ 1000000
      · rw [if_pos c3] at he
        subst he
        rw [decide_eq_true (show inV 0 v from ⟨by omega, c3⟩)]
        obtain ⟨cn, rfl⟩ : ∃ n : Nat, c = n := ⟨c.toNat, by omega⟩
        have k4 := rsl_run hf (c := cn) (by omega) c3
        rw [rgA_yes _ rfl, Int.toNat_natCast]
        simp only [Fv, Fcs, Rg.v, vw] at k4
        simp only [go_sem]
        refine cP k4 ?_
        simp only [go_sem, Rg.v]
      · rw [if_neg c3] at he
        subst he
        rw [decide_eq_false (show ¬ inV 0 v from fun h => c3 h.2), rgA_no _ (by decide)]
        simp only [go_sem]
    · rw [if_neg c2] at he
      subst he
      rw [rgA_no _ (by decide)]
      unfold cellOK at c2
      by_cases a1 : c < 0
      · simp only [go_sem, c1, vw, List.length_map, w, a1]
      · have a2 : c > (f.g.length : Int) - 2 := by omega
        simp only [go_sem, c1, vw, List.length_map, w, a1, a2]
  · rw [if_neg c1] at he
    subst he
    rw [rgA_no _ c1]
    simp only [go_sem, c1]
end Go.Proofs

