/- A part of the proof. -/
import Derived.Test.YtnfiahhdjilboaaPD
set_option linter.unusedSimpArgs false
set_option linter.unusedVariables false
namespace Go.Proofs
open Go Go.Sx
attribute [local irreducible] Run

theorem rbeyond_no {n a b : Int} (h : a ≤ n ∧ n ≤ b) : Ans Try.prog n_ref05_beyond [.int .i64 n, .int .i64 a, .int .i64 b] [] (.bool false) [] := by
  have h1 : ¬ n < a := by omega
  have h2 : ¬ n > b := by omega
  refine spec_run e_ref05_beyond fun G => ?_
  simp [go_sem, h1, h2]
theorem rcheckRange_yes {a b m : Int} (h : 0 ≤ a ∧ a ≤ b ∧ b ≤ m) : Ans Try.prog n_ref05_checkRange [r2 a b, .int .i64 m] [] (.int .i64 0) [] := by
  refine spec_run e_ref05_checkRange fun G => ?_
  simp only [go_sem, r2]
  refine cP (rbeyond_no (n := a) (a := 0) (b := m) (by omega)) ?_
  simp only [go_sem]
  refine cP (rbeyond_no (n := b) (a := 0) (b := m) (by omega)) ?_
  have : ¬ a > b := by omega
  simp only [go_sem, this]
theorem rminus_run (a b : Int) (h : -1000000000000 ≤ a ∧ a ≤ 1000000000000 ∧ -1000000000000 ≤ b ∧ b ≤ 1000000000000) : Ans Try.prog n_ref05_minus [r2 a b] [] (r2 (-b) (-a)) [] := by
  have w1 : IntKind.i64.wrap (0 - a) = -a := by rw [w64 (by omega)]; omega
  have w2 : IntKind.i64.wrap (0 - b) = -b := by rw [w64 (by omega)]; omega
  refine spec_run e_ref05_minus fun G => ?_
  simp only [go_sem, r2, w1, w2]
theorem rless_run (a b c d : Int) (h : -1000000000000 ≤ a ∧ a ≤ 1000000000000 ∧ -1000000000000 ≤ b ∧ b ≤ 1000000000000 ∧ -1000000000000 ≤ c ∧ c ≤ 1000000000000 ∧ -1000000000000 ≤ d ∧ d ≤ 1000000000000) : Ans Try.prog n_ref05_less [r2 a b, r2 c d] [] (r2 (a - d) (b - c)) [] := by
  have w1 : IntKind.i64.wrap (a - d) = a - d := w64 (by omega)
  have w2 : IntKind.i64.wrap (b - c) = b - c := w64 (by omega)
  refine spec_run e_ref05_less fun G => ?_
  simp only [go_sem, r2, w1, w2]
set_option maxHeartbeats 4000000 in
set_option maxRecDepth 10000 in
theorem rgrowth_up (brk : Int) {zs : List Zn} (hz : ZsOK zs) {f t : Int} (hf : 0 ≤ f ∧ f ≤ t) (ht : t ≤ 2000) : Ans Try.prog n_ref05_growth [stV brk zs, .int .i64 f, .int .i64 t] [] (r2 (sumD (gLo zs) t (t - f).toNat) (sumD (gHi zs) t (t - f).toNat)) [] := by
  have c0 : ¬ f > t := by omega
  have sL := fun a n => sumD_in (f := gLo zs) (B := 100000) (by omega) (fun t => by have := g_in hz t; omega) a n
  have sH := fun a n => sumD_in (f := gHi zs) (B := 100000) (by omega) (fun t => by have := g_in hz t; omega) a n
  refine spec_run e_ref05_growth fun G => ?_
  simp only [go_sem, stV, c0]
  refine loop_ind k_ref05_growth_r9.eq_1 (fun a : Nat × Heap => f + a.1 ≤ t) (fun a => (t - f).toNat - a.1)
    (fun a => (tsets 42 [(1, .int .i64 f), (2, .int .i64 t), (3, .ptr 0 0 0 1), (6, .ptr 1 0 0 1), (7, .ptr 2 0 0 1), (8, .int .i64 (f + a.1))],
      some (.cells false 2 [.agg [.int .i64 brk, .view (zs.map Zn.v)]]) :: some (.cells false 2 [.agg [.int .i64 0, .int .i64 0]]) :: some (.cells false 2 [.agg [.int .i64 (sumD (gLo zs) (f + a.1) a.1), .int .i64 (sumD (gHi zs) (f + a.1) a.1)]]) :: a.2)) (0, []) (by dsimp only; omega) (by simp [go_sem]) (by simp [sumD]) ?_
  rintro ⟨k, X⟩ hk ih
  dsimp only at hk ih ⊢
  have bL := sL (f + k) k
  have bH := sH (f + k) k
  by_cases c : f + (k : Int) < t
  · have zo := rZoneOf_run brk hz (t := f + k) (by omega)
    have hg := g_in hz (f + k)
    have uL : sumD (gLo zs) (f + ((k + 1 : Nat) : Int)) (k + 1) = sumD (gLo zs) (f + k) k + gLo zs (f + k) := by
      rw [← sumD_up]; congr 1; omega
    have uH : sumD (gHi zs) (f + ((k + 1 : Nat) : Int)) (k + 1) = sumD (gHi zs) (f + k) k + gHi zs (f + k) := by
      rw [← sumD_up]; congr 1; omega
    have ihn := fun Y => ih (k + 1, Y) (by dsimp only; omega) (by dsimp only; omega)
    clear ih
    dsimp only at ihn
    rw [uL, uH] at ihn
    have eL : gLo zs (f + k) = (zAt zs (f + k)).glo := rfl
    have eH : gHi zs (f + k) = (zAt zs (f + k)).ghi := rfl
    rw [eL, eH] at ihn hg
    obtain ⟨z, hze⟩ : ∃ z, zAt zs (f + k) = z := ⟨_, rfl⟩
    rw [hze] at ihn hg zo
    have w1 : IntKind.i64.wrap (sumD (gLo zs) (f + k) k + z.glo) = sumD (gLo zs) (f + k) k + z.glo := w64 (by omega)
    have w2 : IntKind.i64.wrap (sumD (gHi zs) (f + k) k + z.ghi) = sumD (gHi zs) (f + k) k + z.ghi := w64 (by omega)
    have w3 : IntKind.i64.wrap (f + (k : Int) + 1) = f + ((k + 1 : Nat) : Int) := by rw [w64 (by omega)]; omega
    simp only [stV, Zn.v, Zn.cs] at zo
    simp only [go_sem, c]
    refine cP zo ?_
    simp only [go_sem, w1, w2, w3]
    have hx : (List.length X + 1 + 1 + 1 == 2) = false := beq_eq_false_iff_ne.2 (by omega)
    refine ⟨by simp [hx], ?_⟩
    exact ihn _ _ (by simp [go_sem])
  · have e : f + (k : Int) = t := by omega
    have ek : k = (t - f).toNat := by omega
    rw [e, ek]
    simp only [go_sem, c0, Int.lt_irrefl, r2]
theorem rgrowth_run (brk : Int) {zs : List Zn} (hz : ZsOK zs) {f t : Int} (hf : 0 ≤ f ∧ f ≤ 2000) (ht : 0 ≤ t ∧ t ≤ 2000) : Ans Try.prog n_ref05_growth [stV brk zs, .int .i64 f, .int .i64 t] [] (r2 (groR zs f t).1 (groR zs f t).2) [] := by
  by_cases c : t < f
  · have k1 := rgrowth_up brk hz (f := t) (t := f) (by omega) (by omega)
    have sL := sumD_in (f := gLo zs) (B := 100000) (by omega) (fun t => by have := g_in hz t; omega) f (f - t).toNat
    have sH := sumD_in (f := gHi zs) (B := 100000) (by omega) (fun t => by have := g_in hz t; omega) f (f - t).toNat
    have k2 := rminus_run (sumD (gLo zs) f (f - t).toNat) (sumD (gHi zs) f (f - t).toNat) (by omega)
    have c1 : f > t := c
    unfold groR
    rw [if_pos c]
    refine spec_run e_ref05_growth fun G => ?_
    simp only [stV, r2] at k1 k2
    simp only [go_sem, stV, c1]
    refine cP k1 ?_
    simp only [go_sem]
    refine cP k2 ?_
    simp only [go_sem, r2]
  · have k1 := rgrowth_up brk hz (f := f) (t := t) (by omega) (by omega)
    unfold groR
    rw [if_neg c]
    exact k1
set_option maxHeartbeats 4000000 in
set_option maxRecDepth 10000 in
theorem rCheck_run {brk : Int} (hb : 1 ≤ brk ∧ brk ≤ 1000000000) {zs : List Zn} (hz : ZsOK zs) : Ans Try.prog n_ref05_Check [stV brk zs] [] (.int .i64 0) [] := by
  have hn := hz.len
  refine spec_run e_ref05_Check fun G => ?_
  simp only [go_sem, stV]
  refine cP (rbeyond_no hb) ?_
  have n1 : ((zs.length : Int) == 0) = false := beq_eq_false_iff_ne.2 (by omega)
  have n2 : ¬ (zs.length : Int) > 16 := by omega
  simp only [go_sem, n1, n2, List.length_map]
  refine loop_ind k_ref05_Check_r23.eq_1 (fun s : Nat × Int × Heap => s.1 ≤ zs.length ∧ (s.1 = 0 → s.2.1 = -1) ∧ (∀ y, 0 < s.1 → zs[s.1 - 1]? = some y → s.2.1 = y.f)) (fun s => zs.length - s.1)
    (fun s => (tsets 61 [(1, .ptr 0 0 0 1), (2, .int .i64 0), (3, .int .i64 s.2.1), (4, .int .i64 s.1)], some (.cells false 2 [.agg [.int .i64 brk, .view (zs.map Zn.v)]]) :: s.2.2)) (0, -1, []) ⟨Nat.zero_le _, fun _ => rfl, fun y h => absurd h (by dsimp only; omega)⟩ (by simp [go_sem]) rfl ?_
  rintro ⟨i, last, X⟩ ⟨hi, hl0, hl1⟩ ih
  dsimp only at hi hl0 hl1 ih ⊢
  by_cases h1 : i < zs.length
  · have h2 : (i : Int) < zs.length := by omega
    have n0 : ¬ (i : Int) < 0 := by omega
    have h3 : IntKind.i64.wrap ((i : Int) + 1) = ((i + 1 : Nat) : Int) := by rw [w64 (by omega)]; rfl
    obtain ⟨z, hzi⟩ : ∃ z, zs[i]? = some z := ⟨_, List.getElem?_eq_getElem h1⟩
    have hzo := hz.all z (List.mem_of_getElem? hzi)
    have hlast : last < z.f := by
      rcases i with _ | j
      · have := hl0 rfl; have := hzo.f; omega
      · obtain ⟨y, hy⟩ : ∃ y, zs[j]? = some y := ⟨_, List.getElem?_eq_getElem (by omega)⟩
        have e1 := hl1 y (by omega) (by simpa using hy)
        have := hz.asc j y z hy hzi
        omega
    have hzero : i = 0 → z.f = 0 := fun e => by subst e; exact hz.zero z hzi
    have ihn := fun Y => ih (i + 1, z.f, Y) (by dsimp only; omega) ⟨h1, fun h => absurd h (by dsimp only; omega), fun y _ hy => by
      dsimp only at hy
      rw [Nat.add_sub_cancel, hzi] at hy; cases hy; rfl⟩
    clear ih
    have k1 := rcheckRange_yes (a := z.glo) (b := z.ghi) (m := 100000) hzo.g
    have k2 := rcheckRange_yes (a := z.rlo) (b := z.rhi) (m := 1000000) hzo.r
    simp only [r2] at k1 k2
    have q1 : ¬ z.f ≤ last := by omega
    simp only [go_sem, h2, n0, hzi, Zn.v, Zn.cs]
    refine cP (rbeyond_no hzo.f) ?_
    by_cases h0 : i = 0
    · have q2 : z.f = 0 := hzero h0
      subst h0
      have e0 : (((0 : Nat) : Int) == 0) = true := rfl
      rw [q2] at ihn q1
      simp only [go_sem, e0, q1, q2]
      refine cP k1 ?_
      simp only [go_sem]
      refine cP k2 ?_
      simp only [go_sem, h3]
      exact ihn _ _ (by simp [go_sem]; rfl)
    · have e0 : ((i : Int) == 0) = false := beq_eq_false_iff_ne.2 (by omega)
      simp only [go_sem, e0, q1]
      refine cP k1 ?_
      simp only [go_sem]
      refine cP k2 ?_
      simp only [go_sem, h3]
      exact ihn _ _ (by simp [go_sem])
  · have h2 : ¬ (i : Int) < zs.length := by omega
    simp only [go_sem, h2]
theorem rcheckSeal_yes {b1 b2 : Int} {z1 z2 : List Zn} (h1 : StOK b1 z1) (h2 : StOK b2 z2) {set t : Int} (hs : 0 ≤ set ∧ set ≤ 2000) (ht : 0 ≤ t ∧ t ≤ 2000) : Ans Try.prog n_ref05_checkSeal [stV b1 z1, stV b2 z2, .int .i64 set, .int .i64 t] [] (.int .i64 0) [] := by
  have k1 := rCheck_run h1.brk h1.zs
  have k2 := rCheck_run h2.brk h2.zs
  refine spec_run e_ref05_checkSeal fun G => ?_
  simp only [stV] at k1 k2
  simp only [go_sem, stV]
  refine cP k1 ?_
  simp only [go_sem]
  refine cP k2 ?_
  simp only [go_sem]
  refine cP (rbeyond_no hs) ?_
  simp only [go_sem]
  refine cP (rbeyond_no ht) ?_
  simp only [go_sem]
theorem rMismatch_run {b1 b2 : Int} {z1 z2 : List Zn} (h1 : StOK b1 z1) (h2 : StOK b2 z2) {set t : Int} (hs : 0 ≤ set ∧ set ≤ 2000) (ht : 0 ≤ t ∧ t ≤ 2000) : Ans Try.prog n_ref05_Mismatch [stV b1 z1, stV b2 z2, .int .i64 set, .int .i64 t] [] (.tup [r2 (misR z1 z2 set t).1 (misR z1 z2 set t).2, .int .i64 0]) [] := by
  have k1 := rcheckSeal_yes h1 h2 hs ht
  have k2 := rgrowth_run b1 h1.zs hs ht
  have k3 := rgrowth_run b2 h2.zs hs ht
  have i1 := groR_in h1.zs hs ht
  have i2 := groR_in h2.zs hs ht
  have k4 := rless_run (groR z1 set t).1 (groR z1 set t).2 (groR z2 set t).1 (groR z2 set t).2 (by omega)
  refine spec_run e_ref05_Mismatch fun G => ?_
  simp only [stV, r2] at k1 k2 k3 k4
  simp only [go_sem, stV, r2, misR]
  refine cP k1 ?_
  simp only [go_sem]
  refine dP k2 ?_
  simp only [go_sem]
  refine cP k3 ?_
  simp only [go_sem]
  refine cP k4 ?_
  simp only [go_sem]
end Go.Proofs

namespace Go.Proofs
open Go Go.Sx
attribute [local irreducible] Run

section
variable {P : Program} {g : FuncId} {args largs : List AVal} {H : Heap} {R : Runner} {l : List AOper} {fs : List Sx.Frame} {ρ : List AVal} {ms : List Nat} {Q : Sx.Goal} {ao : AOper} {lo hi : Nat} {tr : List (List Nat × List Nat)} {ss : List (List AOper)}
theorem dR1g {x0 x1 x' y : Row} {r : AVal} {j0 j1 : Nat} (h : Ans P g largs [some x0, some x1] r [some x', some x1, some y]) (hargs : args = largs.map (ren (nth [j0, j1]))) (hb : Bels (· < 2) largs)
    (h0 : H[j0]? = some (some x0)) (h1 : H[j1]? = some (some x1)) (hx0 : x0.bel (fun _ => False)) (hx1 : x1.bel (fun _ => False)) (hn : [j0, j1].Nodup)
    (hr : Bel (· = 2) r) (hx' : x'.bel (fun _ => False)) (hy : y.bel (fun _ => False)) (hms : ∀ q ∈ ms, q ∉ [j0, j1] ∧ q ≠ H.length) (hd : dynOK ao.free [j0, j1] [j0, j1, H.length] tr lo = true)
    (hK : R (.grp lo l (tr ++ [([j0, j1], [j0, j1, H.length])]) hi ss) fs ⟨setD ρ ao.dst (ren (fun _ => H.length) r), H.set j0 (some x') ++ [some y], ms⟩ Q) : DCallR P R g args ao lo l tr hi ss fs ρ H ms Q := by
  have hlt0 := (List.getElem?_eq_some_iff.1 h0).1
  have hlt1 := (List.getElem?_eq_some_iff.1 h1).1
  have n1 : j0 ≠ j1 := by simpa using hn
  have e : outΔ (outσ [j0, j1] H.length) 0 [some x', some x1, some y] = [(j0, x'), (j1, x1), (H.length, y)] := by
    simp only [outΔ, Row.ren_same hx', Row.ren_same hy, Row.ren_same hx1]
    rfl
  have q1 : (H.set j0 (some x'))[j1]? = some (some x1) := by rw [List.getElem?_set_ne n1]; exact h1
  have e3 : Heap.put (H.set j0 (some x')) H.length y = H.set j0 (some x') ++ [some y] := by
    have := Heap.put_end (H.set j0 (some x')) y
    rwa [List.length_set] at this
  have e2 : ren (outσ [j0, j1] H.length) r = ren (fun _ => H.length) r := ren_agree (fun q hq => by subst hq; simp [outσ]) hr
  have h2 := h.dcall (H := H) (args := args) [j0, j1] hn ⟨by rw [Row.ren_same hx0]; exact h0, by rw [Row.ren_same hx1]; exact h1, trivial⟩ hargs hb ⟨bel_mono_row hx0 fun _ h => h.elim, bel_mono_row hx1 fun _ h => h.elim, trivial⟩
    (by simp) (hr.mono fun q hq => by subst hq; simp) ⟨bel_mono_row hx' fun _ h => h.elim, bel_mono_row hx1 fun _ h => h.elim, bel_mono_row hy fun _ h => h.elim, trivial⟩ (by simp; omega)
  have e4 : newNames H.length ([some x', some x1, some y].length - [j0, j1].length) = [H.length] := rfl
  rw [e, e2, e4] at h2
  refine dcallR (deps := [j0, j1]) h2 ⟨fun q hq => ?_, fun q hq => ?_, hd, ?_⟩
  · have := hms q hq
    simp only [List.mem_cons, List.not_mem_nil, or_false, not_or] at this
    simp [Oc.rows, this.1.1, this.1.2, this.2]
  · simp only [List.mem_singleton] at hq
    subst hq
    refine ⟨Nat.le_refl _, ?_⟩
    simp only [Heap.puts, put_lt hlt0, put_same q1, e3]
    simp
  · simp only [Heap.puts, put_lt hlt0, put_same q1, e3]
    exact hK
end

def sel (st a b c : Int) : Int := if st = 0 then a else if st = 1 then b else c
theorem sel_at (st a b c : Int) (h : 0 ≤ st ∧ st < 3) : [AVal.int .i64 a, .int .i64 b, .int .i64 c][st.toNat]? = some (.int .i64 (sel st a b c)) := by
  obtain rfl | rfl | rfl : st = 0 ∨ st = 1 ∨ st = 2 := by omega
  · rfl
  · rfl
  · rfl
theorem sel_in {st a b c : Int} (h : a ≤ c ∧ c ≤ b) : a ≤ sel st a b c ∧ sel st a b c ≤ b := by
  unfold sel; split
  · omega
  · split <;> omega
def trS (zs : List Zn) (st w1 : Int) : Nat → Int × List Int
  | 0 => (w1, List.replicate 2001 0)
  | i + 1 => (dstep (trS zs st w1 i).1, (trS zs st w1 i).2.set i (sel st (zAt zs i).glo (zAt zs i).ghi (btw (trS zs st w1 i).1 (zAt zs i).glo (zAt zs i).ghi)))
theorem trS_zero (zs : List Zn) (st w1 : Int) : trS zs st w1 0 = (w1, List.replicate 2001 0) := rfl
theorem trS_succ (zs : List Zn) (st w1 : Int) (i : Nat) : trS zs st w1 (i + 1) = (dstep (trS zs st w1 i).1, (trS zs st w1 i).2.set i (sel st (zAt zs i).glo (zAt zs i).ghi (btw (trS zs st w1 i).1 (zAt zs i).glo (zAt zs i).ghi))) := rfl
theorem trS_ok {zs : List Zn} (hz : ZsOK zs) (st w1 : Int) : ∀ n : Nat, n ≤ 2001 → TrOK zs n (trS zs st w1 n).2
  | 0, _ => ⟨by rw [trS_zero, List.length_replicate], fun i hi => by omega⟩
  | n + 1, h => by
    have ih := trS_ok hz st w1 n (by omega)
    rw [trS_succ]
    have hg := (zAt_ok hz n).g
    have hb := btw_in (w := (trS zs st w1 n).1) (lo := (zAt zs n).glo) (hi := (zAt zs n).ghi) hg.2.1
    exact ih.snoc (sel_in hb) (by omega)
attribute [local irreducible] trS
set_option maxHeartbeats 4000000 in
set_option maxRecDepth 10000 in
theorem truly_det (w b : Int) {zs : List Zn} (hz : ZsOK zs) (g : Bool) : Ans Try.prog n_law05_truly [.ptr 0 0 0 1, .agg [.int .i64 b, .sl 1 0 zs.length]] [some (Dr w), some (.cells g 5 (zs.map Zn.v))] (.sl 2 0 2001)
    [some (Dr (trS zs (upto w 3) (dstep w) 2001).1), some (.cells g 5 (zs.map Zn.v)), some (.cells false 1 (il (trS zs (upto w 3) (dstep w) 2001).2))] := by
  have zb : ∀ S : Nat → Prop, (Row.cells g 5 (zs.map Zn.v)).bel S := fun S => by rw [row_bel_cells]; simp only [go_sem]
  have ib : ∀ (l : List Int) (S : Nat → Prop), (Row.cells false 1 (il l)).bel S := fun l S => by rw [row_bel_cells]; exact bels_map _ _ fun z => by simp only [go_sem]
  refine Ans.keep (run_fn e_law05_truly fun G => ?_) (by simp) (by simp [go_sem]) ⟨dr_bel _ _, zb _, ib _ _, trivial⟩
  have hs3 := upto_in (w := w) (n := 3) (by decide)
  have hu := upto_ok w 3 (by decide)
  obtain ⟨st, hst⟩ : ∃ st, upto w 3 = st := ⟨_, rfl⟩
  rw [hst] at hs3 hu ⊢
  obtain ⟨w1, hw1⟩ : ∃ w1, dstep w = w1 := ⟨_, rfl⟩
  rw [hw1] at hu ⊢
  rw [show List.replicate (k_law05_truly.ntmps - [AVal.ptr 0 0 0 1, .agg [.int .i64 b, .sl 1 0 zs.length]].length) AVal.any = [.any, .any, .any, .any, .any, .any, .any, .any, .any, .any, .any, .any, .any, .any, .any, .any, .any, .any, .any, .any, .any, .any, .any, .any, .any, .any, .any, .any, .any, .any, .any, .any, .any, .any, .any] from rfl]
  obtain ⟨l0, hl0⟩ : ∃ l0 : List Int, List.replicate 2001 0 = l0 := ⟨_, rfl⟩
  have hlen0 : l0.length = 2001 := by rw [← hl0, List.length_replicate]
  have e1 : List.replicate 2001 (AVal.int IntKind.i64 0) = il l0 := by rw [← hl0]; unfold il; rw [List.map_replicate]
  have e2 : List.replicate (Int.toNat 2001) (AVal.int IntKind.i64 0) = il l0 := e1
  have hll0 : (il l0).length = 2001 := by unfold il; rw [List.length_map]; exact hlen0
  simp only [go_sem, ↓e1, ↓e2, hll0]
  refine ⟨by decide, ?_⟩
  refine cD hu ?_
  simp only [go_sem, hll0]
  refine loop_ind k_law05_truly_r8.eq_1 (fun a : Nat × Int × List Int × Heap => a.1 ≤ 2001 ∧ a.2.1 = (trS zs st w1 a.1).1 ∧ a.2.2.1 = (trS zs st w1 a.1).2 ∧ a.2.2.1.length = 2001) (fun a => 2001 - a.1)
    (fun a => (tsets 37 [(0, .ptr 0 0 0 1), (3, .ptr 2 0 0 1), (4, .nilsl), (5, .sl 3 0 2001), (6, .int .i64 st), (7, .int .i64 a.1)],
      some (Dr a.2.1) :: some (.cells g 5 (zs.map Zn.v)) :: some (.cells false 2 [.agg [.int .i64 b, .sl 1 0 zs.length]]) :: some (.cells false 1 (il a.2.2.1)) :: a.2.2.2)) (0, w1, l0, []) ⟨Nat.zero_le _, by rw [trS_zero], by rw [trS_zero, hl0], hlen0⟩ (by simp [go_sem]) rfl ?_
  rintro ⟨i, wi, l, X⟩ ⟨hi, hw, hl, ll⟩ ih
  dsimp only at hi hw hl ll ih ⊢
  by_cases h1 : i < 2001
  · have h2 : (i : Int) < 2001 := by omega
    have n0 : ¬ (i : Int) < 0 := by omega
    have h3 : IntKind.i64.wrap ((i : Int) + 1) = ((i + 1 : Nat) : Int) := by rw [w64 (by omega)]; rfl
    have kz := rZoneOf_run b hz (t := i) (by omega)
    have hzo := zAt_ok hz i
    have hg := hzo.g
    have hS := trS_succ zs st w1 i
    rw [← hw, ← hl] at hS
    obtain ⟨z, hze⟩ : ∃ z, zAt zs i = z := ⟨_, rfl⟩
    rw [hze] at kz hzo hg hS
    have hbw := btw_in (w := wi) (lo := z.glo) (hi := z.ghi) hg.2.1
    have kin := in_ok wi z.glo z.ghi (by omega)
    obtain ⟨bv, hbv⟩ : ∃ v, btw wi z.glo z.ghi = v := ⟨_, rfl⟩
    rw [hbv] at hbw kin hS
    have sv := sel_at st z.glo z.ghi bv hs3
    obtain ⟨v, hv⟩ : ∃ v, sel st z.glo z.ghi bv = v := ⟨_, rfl⟩
    rw [hv] at sv hS
    have s0 : ¬ st < 0 := by omega
    have hli : (il l)[i]? = some (.int .i64 (l.getD i 0)) := by
      unfold il; rw [List.getElem?_map, List.getD_eq_getElem?_getD, List.getElem?_eq_getElem (by omega)]; rfl
    have hls : (il l).set i (.int .i64 v) = il (l.set i v) := by unfold il; rw [List.map_set]
    have hll : (il l).length = 2001 := by unfold il; rw [List.length_map]; exact ll
    have ihn := fun Y => ih (i + 1, dstep wi, l.set i v, Y) (by dsimp only; omega) ⟨h1, by dsimp only; rw [hS], by dsimp only; rw [hS], by dsimp only; rw [List.length_set]; exact ll⟩
    clear ih
    simp only [Zn.v, Zn.cs] at kz
    simp only [r2] at kin
    simp only [go_sem, h2]
    refine cF kz 6 ⟨.inl (st_frz (g := g) rfl rfl), .inl rfl, trivial⟩ ?_
    simp only [go_sem]
    refine dD kin ?_
    simp only [go_sem, s0, hs3, sv, h1, h2, n0, hli, hls, hll, h3]
    exact ihn _ _ (by simp [go_sem])
  · have h2 : ¬ (i : Int) < 2001 := by omega
    obtain rfl : i = 2001 := by omega
    simp only [go_sem, h2]
    rw [← hw, ← hl]
    refine kept_new (A := [some (Dr wi), some (.cells g 5 (zs.map Zn.v))]) 2 3 rfl rfl (by omega) rfl (fun i x hx => ?_) (ib _ _) rfl
    match i, hx with
    | 0, hx => simp at hx; subst hx; exact ⟨dr_bel _ _, rfl⟩
    | 1, hx => simp at hx; subst hx; exact ⟨zb _, rfl⟩
end Go.Proofs

namespace Go.Proofs
open Go Go.Sx
attribute [local irreducible] Run trS

theorem jV_one {z1 z2 : List Zn} {sE lim : Int} : ∀ k : Nat, ((jV z1 z2 sE lim k).1 = 1 → ∀ i, i < k → holA z1 z2 sE lim i = true) ∧ (jV z1 z2 sE lim k).1 ≠ 2
  | 0 => ⟨fun _ i hi => by omega, by show (1 : Int) ≠ 2; decide⟩
  | k + 1 => by
    obtain ⟨h1, h2⟩ := jV_one (z1 := z1) (z2 := z2) (sE := sE) (lim := lim) k
    rw [jV]
    by_cases c : (jV z1 z2 sE lim k).1 = 1 ∧ holA z1 z2 sE lim k = false
    · rw [if_pos c]
      exact ⟨fun h => by simp at h, by simp⟩
    · rw [if_neg c]
      refine ⟨fun h i hi => ?_, h2⟩
      by_cases e : i = k
      · subst e
        cases hh : holA z1 z2 sE lim i with
        | true => rfl
        | false => exact absurd ⟨h, hh⟩ c
      · exact h1 h i (by omega)
theorem jFrom_one {z1 z2 : List Zn} {sE lim : Int} : ∀ n k : Nat, (jFrom z1 z2 sE lim n k).1 = 1 → ∀ i, i < k + n → holA z1 z2 sE lim i = true
  | 0, k, h, i, hi => (jV_one k).1 h i (by omega)
  | n + 1, k, h, i, hi => by
    rw [jFrom] at h
    by_cases c : brkA z1 z2 sE lim k = true
    · rw [if_pos c] at h; simp at h
    · rw [if_neg c] at h
      exact jFrom_one n (k + 1) h i (by omega)
theorem jFrom_two {z1 z2 : List Zn} {sE lim : Int} : ∀ n k : Nat, (jFrom z1 z2 sE lim n k).1 = 2 → ∃ i, k ≤ i ∧ i < k + n ∧ (jFrom z1 z2 sE lim n k).2 = sE - i ∧ brkA z1 z2 sE lim i = true
  | 0, k, h => absurd h (jV_one k).2
  | n + 1, k, h => by
    rw [jFrom] at h ⊢
    by_cases c : brkA z1 z2 sE lim k = true
    · rw [if_pos c]
      exact ⟨k, Nat.le_refl _, by omega, rfl, c⟩
    · rw [if_neg c] at h ⊢
      obtain ⟨i, a1, a2, a3, a4⟩ := jFrom_two n (k + 1) h
      exact ⟨i, by omega, by omega, a3, a4⟩
theorem sumD_sub (f g : Int → Int) (a : Int) : ∀ n : Nat, sumD (fun x => f x - g x) a n = sumD f a n - sumD g a n
  | 0 => rfl
  | n + 1 => by rw [sumD, sumD, sumD, sumD_sub f g a n]; omega
theorem grn_dn (l : List Int) {s : Int} {i : Nat} : grnV l s (s - i) = - sumD (lat l) s i := by
  unfold grnV
  by_cases c : s - (i : Int) < s
  · rw [if_pos c]; congr 2; omega
  · have e : i = 0 := by omega
    subst e
    rw [if_neg c]
    simp [sumD]
theorem truth_in {z1 z2 : List Zn} {p q : List Int} (hp : TrOK z1 2001 p) (hq : TrOK z2 2001 q) {s : Int} {i : Nat} (h0 : 0 ≤ s - i) (h1 : s ≤ 2000) :
    sumD (mLo z1 z2) s i ≤ grnV p s (s - i) - grnV q s (s - i) ∧ grnV p s (s - i) - grnV q s (s - i) ≤ sumD (mHi z1 z2) s i := by
  have e : grnV p s (s - i) - grnV q s (s - i) = sumD (fun x => lat q x - lat p x) s i := by
    rw [grn_dn, grn_dn, sumD_sub]; omega
  rw [e]
  have hb := fun x (h2 : s - (i : Int) ≤ x) (h3 : x < s) => And.intro (lat_in hp (x := x) (by omega) (by omega)) (lat_in hq (x := x) (by omega) (by omega))
  refine ⟨sumD_mono s i fun x hx hx2 => ?_, sumD_mono s i fun x hx hx2 => ?_⟩
  · have := hb x hx hx2
    unfold mLo; omega
  · have := hb x hx hx2
    unfold mHi; omega
theorem holds_at {z1 z2 : List Zn} {p q : List Int} (hp : TrOK z1 2001 p) (hq : TrOK z2 2001 q) {b1 b2 s f : Int} (hf : 0 ≤ f ∧ f ≤ s) (hs : s ≤ 2000) {t : Int} (ht : f ≤ t ∧ t ≤ s) :
    ((sealR b1 b2 z1 z2 s f).1 = 1 → grnV p s t - grnV q s t ≥ - min b1 b2 ∧ grnV p s t - grnV q s t ≤ min b1 b2) ∧
    ((sealR b1 b2 z1 z2 s f).1 = 2 → t = (sealR b1 b2 z1 z2 s f).2 → ¬ (grnV p s t - grnV q s t ≥ - min b1 b2 ∧ grnV p s t - grnV q s t ≤ min b1 b2)) := by
  obtain ⟨i, hi⟩ : ∃ i : Nat, s - t = i := ⟨(s - t).toNat, by omega⟩
  have et : t = s - i := by omega
  have tr := truth_in hp hq (s := s) (i := i) (by omega) hs
  rw [← et] at tr
  refine ⟨fun h => ?_, fun h h2 => ?_⟩
  · have := jFrom_one _ _ h i (by omega)
    unfold holA at this
    simp only [Bool.and_eq_true, decide_eq_true_eq] at this
    omega
  · obtain ⟨j, a1, a2, a3, a4⟩ := jFrom_two _ _ h
    have e3 : (sealR b1 b2 z1 z2 s f).2 = s - j := a3
    have ej : j = i := by omega
    subst ej
    unfold brkA at a4
    simp only [Bool.or_eq_true, decide_eq_true_eq] at a4
    omega
theorem seal_heat {z1 z2 : List Zn} {b1 b2 s f : Int} (hf : f ≤ s) (h : (sealR b1 b2 z1 z2 s f).1 = 2) : f ≤ (sealR b1 b2 z1 z2 s f).2 ∧ (sealR b1 b2 z1 z2 s f).2 ≤ s := by
  obtain ⟨j, a1, a2, a3, a4⟩ := jFrom_two _ _ h
  have e3 : (sealR b1 b2 z1 z2 s f).2 = s - j := a3
  omega
theorem grn_bd {zs : List Zn} (hz : ZsOK zs) {l : List Int} (h : TrOK zs 2001 l) {f t : Int} (hf : 0 ≤ f ∧ f ≤ 2000) (ht : 0 ≤ t ∧ t ≤ 2000) : -200000000 ≤ grnV l f t ∧ grnV l f t ≤ 200000000 := by
  have h1 := grn_in h hf ht
  have h2 := groR_in hz hf ht
  omega
set_option maxHeartbeats 4000000 in
set_option maxRecDepth 10000 in
theorem holds_law (ns : List Int) (hl : ns.length ≤ 9223372036854775807) : Ans Try.prog n_law05_GlassHolds [.view (ns.map (.int .i64))] [] (.bool true) [] := by
  refine spec_run e_law05_GlassHolds fun G => ?_
  simp only [go_sem]
  refine callN1 (newdice_ok ns hl) (by simp only [go_sem]) (dr_bel _ _) (by simp) (by simp) ?_
  obtain ⟨w, hw⟩ : ∃ w, seedW ns = w := ⟨_, rfl⟩
  rw [hw]
  simp only [go_sem]
  refine callDN (stuffOf_run w) rfl (by simp only [go_sem]) (dr_bel _ _) (fun a ha => ⟨by simp [go_sem], dr_bel _ _, by rw [row_bel_cells]; simp only [go_sem]⟩) (by simp) (by simp) ?_
  rintro ⟨b1, z1, w1⟩ h1
  dsimp only at h1 ⊢
  simp only [go_sem, ren, rens]
  refine callDN (stuffOf_run w1) rfl (by simp only [go_sem]) (dr_bel _ _) (fun a ha => ⟨by simp [go_sem], dr_bel _ _, by rw [row_bel_cells]; simp only [go_sem]⟩) (by simp) (by simp) ?_
  rintro ⟨b2, z2, w2⟩ h2
  dsimp only at h2 ⊢
  have ks := between_ok w2 300 1200 (by decide) (by decide) (by decide)
  have kf := between_ok (dstep w2) 0 300 (by decide) (by decide) (by decide)
  have is := btw_in (w := w2) (lo := 300) (hi := 1200) (by decide)
  have jf := btw_in (w := dstep w2) (lo := 0) (hi := 300) (by decide)
  obtain ⟨s, hs⟩ : ∃ s, btw w2 300 1200 = s := ⟨_, rfl⟩
  obtain ⟨f, hf⟩ : ∃ f, btw (dstep w2) 0 300 = f := ⟨_, rfl⟩
  rw [hs] at ks is
  rw [hf] at kf jf
  have kr := rMismatch_run h1 h2 (set := s) (t := f) (by omega) (by omega)
  have mb : -400000000 ≤ (misR z1 z2 s f).1 ∧ (misR z1 z2 s f).1 ≤ 400000000 ∧ -400000000 ≤ (misR z1 z2 s f).2 ∧ (misR z1 z2 s f).2 ≤ 400000000 := by
    have i1 := groR_in h1.zs (f := s) (t := f) (by omega) (by omega)
    have i2 := groR_in h2.zs (f := s) (t := f) (by omega) (by omega)
    unfold misR; dsimp only; omega
  obtain ⟨P, hP⟩ : ∃ P, misR z1 z2 s f = P := ⟨_, rfl⟩
  rw [hP] at kr mb
  obtain ⟨n, hn⟩ : ∃ n, max (max P.2 (-P.1)) 1 = n := ⟨_, rfl⟩
  have hnb : 1 ≤ n ∧ n ≤ 1000000000 := by omega
  simp only [r2] at kr
  simp only [go_sem, ren, rens]
  refine cD ks ?_
  simp only [go_sem]
  refine cD kf ?_
  simp only [go_sem]
  refine cF kr 6 ⟨.inl (st_frz (g := true) rfl rfl), .inl (st_frz (g := true) rfl rfl), .inl rfl, .inl rfl, trivial⟩ ?_
  have x1 : IntKind.i64.wrap (0 - P.1) = -P.1 := by rw [w64 (by omega)]; omega
  have en : (if 1 > (if -P.1 > P.2 then -P.1 else P.2) then 1 else (if -P.1 > P.2 then -P.1 else P.2)) = n := by
    rw [← hn]; split <;> split at * <;> omega
  simp only [go_sem, x1, en, hnb.2]
  have ku := upto_ok (dstep (dstep w2)) 3 (by decide)
  have iu := upto_in (w := dstep (dstep w2)) (n := 3) (by decide)
  obtain ⟨u, hu⟩ : ∃ u, upto (dstep (dstep w2)) 3 = u := ⟨_, rfl⟩
  rw [hu] at ku iu
  refine cD ku ?_
  obtain ⟨w5, hw5⟩ : ∃ w5, dstep (dstep (dstep w2)) = w5 := ⟨_, rfl⟩
  rw [hw5]
  have x2 : IntKind.i64.wrap (n - u) = n - u := w64 (by omega)
  obtain ⟨c1, hc1⟩ : ∃ c1, max 1 (n - u) = c1 := ⟨_, rfl⟩
  have ec : (if n - u > 1 then n - u else 1) = c1 := by rw [← hc1]; split <;> omega
  simp only [go_sem, x2, ec]
  have g1 : StOK c1 z1 := ⟨by omega, h1.zs⟩
  have g2 : StOK n z2 := ⟨by omega, h2.zs⟩
  have kv := Seal_run g1 g2 (sE := s) (fr := f) (by omega) (by omega)
  have hat := fun (p q : List Int) (hp : TrOK z1 2001 p) (hq : TrOK z2 2001 q) (t : Int) (h3 : f ≤ t ∧ t ≤ s) => holds_at hp hq (b1 := c1) (b2 := n) (s := s) (f := f) (by omega) (by omega) h3
  have hht := seal_heat (z1 := z1) (z2 := z2) (b1 := c1) (b2 := n) (s := s) (f := f) (by omega)
  obtain ⟨V, hV⟩ : ∃ V, sealR c1 n z1 z2 s f = V := ⟨_, rfl⟩
  rw [hV] at kv hat hht
  refine cF kv 6 ⟨.inl (st_frz (g := true) rfl rfl), .inl (st_frz (g := true) rfl rfl), .inl rfl, .inl rfl, trivial⟩ ?_
  have zb1 : ∀ S : Nat → Prop, (Row.cells true 5 (z1.map Zn.v)).bel S := fun S => by rw [row_bel_cells]; simp only [go_sem]
  have zb2 : ∀ S : Nat → Prop, (Row.cells true 5 (z2.map Zn.v)).bel S := fun S => by rw [row_bel_cells]; simp only [go_sem]
  have ib : ∀ (l : List Int) (S : Nat → Prop), (Row.cells false 1 (il l)).bel S := fun l S => by rw [row_bel_cells]; exact bels_map _ _ fun z => by simp only [go_sem]
  have T1 := truly_det w5 c1 h1.zs true
  have hp := trS_ok h1.zs (upto w5 3) (dstep w5) 2001 (by omega)
  obtain ⟨S1, hS1⟩ : ∃ S, trS z1 (upto w5 3) (dstep w5) 2001 = S := ⟨_, rfl⟩
  rw [hS1] at T1 hp
  obtain ⟨lim, hlim⟩ : ∃ lim, min c1 n = lim := ⟨_, rfl⟩
  rw [hlim] at hat
  by_cases v2 : V.1 = 2
  · obtain ⟨q1, q2⟩ := hht v2
    have e2 : (V.1 == 2) = true := by rw [v2]; rfl
    have e1 : (V.1 == 1) = false := by rw [v2]; rfl
    have q3 : ¬ V.2 < f := by omega
    have q4 : ¬ V.2 > s := by omega
    simp only [go_sem, e2, q3, q4]
    refine dR1g T1 (j0 := 0) (j1 := 1) rfl (by simp [go_sem]) rfl rfl (dr_bel _ _) (zb1 _) (by decide) (by simp [go_sem]) (dr_bel _ _) (ib _ _) (by simp) (by simp [go_sem]) ?_
    simp only [go_sem, ren, rens]
    refine callR1 (truly_run S1.1 n h2.zs true) (j0 := 0) (j1 := 2) rfl (by simp [go_sem]) rfl rfl (dr_bel _ _) (zb2 _) (by decide) (fun q hq => ⟨by simp [go_sem], dr_bel _ _, ib _ _⟩) (by simp) (by simp) ?_
    rintro ⟨w7, q⟩ hq
    dsimp only at hq ⊢
    have hat2 := hat S1.2 q hp hq
    have el : (if n < c1 then n else c1) = lim := by rw [← hlim]; split <;> omega
    simp only [go_sem, ren, rens, el]
    refine loop_ind k_law05_GlassHolds_r20.eq_1 (fun k : Nat => f + k ≤ s + 1) (fun k => (s + 1 - f).toNat - k)
      (fun k => (tsets 133 [(2, .bool false), (6, .int .i64 s), (7, .int .i64 f), (11, .int .i64 V.1), (12, .int .i64 V.2), (14, .sl 6 0 2001), (15, .sl 7 0 2001), (16, .int .i64 lim), (17, .int .i64 (f + k))],
        [some (Dr w7), some (Row.cells true 5 (List.map Zn.v z1)), some (Row.cells true 5 (List.map Zn.v z2)),
          some (Row.cells false 2 [AVal.agg [AVal.int IntKind.i64 c1, AVal.sl 1 0 z1.length]]),
          some (Row.cells false 2 [AVal.agg [AVal.int IntKind.i64 n, AVal.sl 2 0 z2.length]]),
          some (Row.cells false 2 [AVal.agg [AVal.int IntKind.i64 P.1, AVal.int IntKind.i64 P.2]]),
          some (Row.cells false 1 (il S1.2)), some (Row.cells false 1 (il q))])) 0 (by omega) (by simp [go_sem]) rfl ?_
    intro k hk ih
    dsimp only at hk ih ⊢
    by_cases k1 : f + (k : Int) ≤ s
    · have ga := grown_run hp.len (lat_bd h1.zs hp) (f := s) (t := f + k) (by omega) (by omega)
      have gb := grown_run hq.len (lat_bd h2.zs hq) (f := s) (t := f + k) (by omega) (by omega)
      have ia := grn_bd h1.zs hp (f := s) (t := f + k) (by omega) (by omega)
      have ib2 := grn_bd h2.zs hq (f := s) (t := f + k) (by omega) (by omega)
      have ha := hat2 (f + k) (by omega)
      obtain ⟨ma, hma⟩ : ∃ m, grnV S1.2 s (f + k) = m := ⟨_, rfl⟩
      obtain ⟨mb2, hmb⟩ : ∃ m, grnV q s (f + k) = m := ⟨_, rfl⟩
      rw [hma] at ga ia ha
      rw [hmb] at gb ib2 ha
      obtain ⟨m, hm⟩ : ∃ m, ma - mb2 = m := ⟨_, rfl⟩
      have y1 : IntKind.i64.wrap (ma - mb2) = m := by rw [hm]; exact w64 (by omega)
      have y2 : IntKind.i64.wrap (0 - lim) = -lim := by rw [w64 (by omega)]; omega
      have y3 : IntKind.i64.wrap (f + (k : Int) + 1) = f + ((k + 1 : Nat) : Int) := by rw [w64 (by omega)]; omega
      rw [hm] at ha
      have ihn := ih (k + 1) (by omega) (by omega)
      clear ih
      simp only [go_sem, k1]
      refine cF ga 6 ⟨.inl (il_frz (g := false) rfl hp.len), .inl rfl, .inl rfl, trivial⟩ ?_
      simp only [go_sem]
      refine cF gb 6 ⟨.inl (il_frz (g := false) rfl hq.len), .inl rfl, .inl rfl, trivial⟩ ?_
      by_cases a3 : f + (k : Int) = V.2
      · have a4 : (f + (k : Int) == V.2) = true := by rw [a3]; simp
        have ha2 := ha.2 v2 a3
        by_cases a1 : m ≥ -lim
        · have a2 : ¬ m ≤ lim := fun h => ha2 ⟨a1, h⟩
          simp only [go_sem, y1, y2, a1, a2, e1, e2, a4, y3]
          exact ihn _ (by simp [go_sem])
        · simp only [go_sem, y1, y2, a1, e1, e2, a4, y3]
          exact ihn _ (by simp [go_sem])
      · have a4 : (f + (k : Int) == V.2) = false := beq_eq_false_iff_ne.2 a3
        by_cases a1 : m ≥ -lim
        · by_cases a2 : m ≤ lim
          · simp only [go_sem, y1, y2, a1, a2, e1, e2, a4, y3]
            exact ihn _ (by simp [go_sem])
          · simp only [go_sem, y1, y2, a1, a2, e1, e2, a4, y3]
            exact ihn _ (by simp [go_sem])
        · simp only [go_sem, y1, y2, a1, e1, e2, a4, y3]
          exact ihn _ (by simp [go_sem])
    · simp only [go_sem, k1]
      refine cP awake_ok ?_
      simp only [go_sem]
  · have e2 : (V.1 == 2) = false := beq_eq_false_iff_ne.2 v2
    simp only [go_sem, e2]
    refine dR1g T1 (j0 := 0) (j1 := 1) rfl (by simp [go_sem]) rfl rfl (dr_bel _ _) (zb1 _) (by decide) (by simp [go_sem]) (dr_bel _ _) (ib _ _) (by simp) (by simp [go_sem]) ?_
    simp only [go_sem, ren, rens]
    refine callR1 (truly_run S1.1 n h2.zs true) (j0 := 0) (j1 := 2) rfl (by simp [go_sem]) rfl rfl (dr_bel _ _) (zb2 _) (by decide) (fun q hq => ⟨by simp [go_sem], dr_bel _ _, ib _ _⟩) (by simp) (by simp) ?_
    rintro ⟨w7, q⟩ hq
    dsimp only at hq ⊢
    have hat2 := hat S1.2 q hp hq
    have el : (if n < c1 then n else c1) = lim := by rw [← hlim]; split <;> omega
    simp only [go_sem, ren, rens, el]
    refine loop_ind k_law05_GlassHolds_r20.eq_1 (fun k : Nat => f + k ≤ s + 1) (fun k => (s + 1 - f).toNat - k)
      (fun k => (tsets 133 [(2, .bool false), (6, .int .i64 s), (7, .int .i64 f), (11, .int .i64 V.1), (12, .int .i64 V.2), (14, .sl 6 0 2001), (15, .sl 7 0 2001), (16, .int .i64 lim), (17, .int .i64 (f + k))],
        [some (Dr w7), some (Row.cells true 5 (List.map Zn.v z1)), some (Row.cells true 5 (List.map Zn.v z2)),
          some (Row.cells false 2 [AVal.agg [AVal.int IntKind.i64 c1, AVal.sl 1 0 z1.length]]),
          some (Row.cells false 2 [AVal.agg [AVal.int IntKind.i64 n, AVal.sl 2 0 z2.length]]),
          some (Row.cells false 2 [AVal.agg [AVal.int IntKind.i64 P.1, AVal.int IntKind.i64 P.2]]),
          some (Row.cells false 1 (il S1.2)), some (Row.cells false 1 (il q))])) 0 (by omega) (by simp [go_sem]) rfl ?_
    intro k hk ih
    dsimp only at hk ih ⊢
    by_cases k1 : f + (k : Int) ≤ s
    · have ga := grown_run hp.len (lat_bd h1.zs hp) (f := s) (t := f + k) (by omega) (by omega)
      have gb := grown_run hq.len (lat_bd h2.zs hq) (f := s) (t := f + k) (by omega) (by omega)
      have ia := grn_bd h1.zs hp (f := s) (t := f + k) (by omega) (by omega)
      have ib2 := grn_bd h2.zs hq (f := s) (t := f + k) (by omega) (by omega)
      have ha := hat2 (f + k) (by omega)
      obtain ⟨ma, hma⟩ : ∃ m, grnV S1.2 s (f + k) = m := ⟨_, rfl⟩
      obtain ⟨mb2, hmb⟩ : ∃ m, grnV q s (f + k) = m := ⟨_, rfl⟩
      rw [hma] at ga ia ha
      rw [hmb] at gb ib2 ha
      obtain ⟨m, hm⟩ : ∃ m, ma - mb2 = m := ⟨_, rfl⟩
      have y1 : IntKind.i64.wrap (ma - mb2) = m := by rw [hm]; exact w64 (by omega)
      have y2 : IntKind.i64.wrap (0 - lim) = -lim := by rw [w64 (by omega)]; omega
      have y3 : IntKind.i64.wrap (f + (k : Int) + 1) = f + ((k + 1 : Nat) : Int) := by rw [w64 (by omega)]; omega
      rw [hm] at ha
      have ihn := ih (k + 1) (by omega) (by omega)
      clear ih
      simp only [go_sem, k1]
      refine cF ga 6 ⟨.inl (il_frz (g := false) rfl hp.len), .inl rfl, .inl rfl, trivial⟩ ?_
      simp only [go_sem]
      refine cF gb 6 ⟨.inl (il_frz (g := false) rfl hq.len), .inl rfl, .inl rfl, trivial⟩ ?_
      by_cases v1 : V.1 = 1
      · have e1 : (V.1 == 1) = true := by rw [v1]; rfl
        obtain ⟨a1, a2⟩ := ha.1 v1
        simp only [go_sem, y1, y2, a1, a2, e1, e2, y3]
        exact ihn _ (by simp [go_sem])
      · have e1 : (V.1 == 1) = false := beq_eq_false_iff_ne.2 v1
        by_cases a1 : m ≥ -lim
        · by_cases a2 : m ≤ lim
          · simp only [go_sem, y1, y2, a1, a2, e1, e2, y3]
            exact ihn _ (by simp [go_sem])
          · simp only [go_sem, y1, y2, a1, a2, e1, e2, y3]
            exact ihn _ (by simp [go_sem])
        · simp only [go_sem, y1, y2, a1, e1, e2, y3]
          exact ihn _ (by simp [go_sem])
    · simp only [go_sem, k1]
      refine cP awake_ok ?_
      simp only [go_sem]
end Go.Proofs

