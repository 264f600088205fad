/- A part of the proof. -/
import Derived.Test.YtmkijjaecnnonaaPC
set_option linter.unusedSimpArgs false
set_option linter.unusedVariables false
namespace Go.Proofs
open Go Go.Sx
attribute [local irreducible] Run

section
variable {P : Program} {g : FuncId} {args largs : List AVal} {H : Heap} {R : Runner} {l : List AOper} {fs : List Sx.Frame} {ρ : List AVal} {ms : List Nat} {Q : Sx.Goal} {ao : AOper} {lo hi : Nat} {tr : List (List Nat × List Nat)} {ss : List (List AOper)}
/-- In a drawn region: one row that is changed, one that is read, a new one. -/
theorem dR1 {x0 x1 x' y : Row} {r : AVal} {j0 j1 : Nat} (h : Ans P g largs [some x0, some x1] r [some x', some x1, some y]) (hargs : args = largs.map (ren (nth [j0, j1]))) (hb : Bels (· < 2) largs)
    (h0 : H[j0]? = some (some x0)) (h1 : H[j1]? = some (some x1)) (hx0 : x0.bel (fun _ => False)) (hx1 : x1.bel (fun _ => False)) (hn : [j0, j1].Nodup)
    (hr : Bel (· = 2) r) (hx' : x'.bel (fun _ => False)) (hy : y.bel (fun _ => False)) (hms : ∀ q ∈ ms, q ∉ [j0, j1] ∧ q ≠ H.length) (hd : dynOK ao.free [j0, j1] [j0, j1, H.length] tr lo = true)
    (hK : R (.grp lo l (tr ++ [([j0, j1], [j0, j1, H.length])]) hi ss) fs ⟨setD ρ ao.dst (ren (fun _ => H.length) r), H.set j0 (some x') ++ [some y], ms⟩ Q) : DCallR P R g args ao lo l tr hi ss fs ρ H ms Q := by
  have hlt0 := (List.getElem?_eq_some_iff.1 h0).1
  have hlt1 := (List.getElem?_eq_some_iff.1 h1).1
  have n1 : j0 ≠ j1 := by simpa using hn
  have e : outΔ (outσ [j0, j1] H.length) 0 [some x', some x1, some y] = [(j0, x'), (j1, x1), (H.length, y)] := by
    simp only [outΔ, Row.ren_same hx', Row.ren_same hy, Row.ren_same hx1]
    rfl
  have q1 : (H.set j0 (some x'))[j1]? = some (some x1) := by rw [List.getElem?_set_ne n1]; exact h1
  have e3 : Heap.put (H.set j0 (some x')) H.length y = H.set j0 (some x') ++ [some y] := by
    have := Heap.put_end (H.set j0 (some x')) y
    rwa [List.length_set] at this
  have e2 : ren (outσ [j0, j1] H.length) r = ren (fun _ => H.length) r := ren_agree (fun q hq => by subst hq; simp [outσ]) hr
  have h2 := h.dcall (H := H) (args := args) [j0, j1] hn ⟨by rw [Row.ren_same hx0]; exact h0, by rw [Row.ren_same hx1]; exact h1, trivial⟩ hargs hb ⟨bel_mono_row hx0 fun _ h => h.elim, bel_mono_row hx1 fun _ h => h.elim, trivial⟩
    (by simp) (hr.mono fun q hq => by subst hq; simp) ⟨bel_mono_row hx' fun _ h => h.elim, bel_mono_row hx1 fun _ h => h.elim, bel_mono_row hy fun _ h => h.elim, trivial⟩ (by simp; omega)
  have e4 : newNames H.length ([some x', some x1, some y].length - [j0, j1].length) = [H.length] := rfl
  rw [e, e2, e4] at h2
  refine dcallR (deps := [j0, j1]) h2 ⟨fun q hq => ?_, fun q hq => ?_, hd, ?_⟩
  · have := hms q hq
    simp only [List.mem_cons, List.not_mem_nil, or_false, not_or] at this
    simp [Oc.rows, this.1.1, this.1.2, this.2]
  · simp only [List.mem_singleton] at hq
    subst hq
    refine ⟨Nat.le_refl _, ?_⟩
    simp only [Heap.puts, put_lt hlt0, put_same q1, e3]
    simp
  · simp only [Heap.puts, put_lt hlt0, put_same q1, e3]
    exact hK
end

def volX (w : Int) : Int := gt [0, btw w (-100) 100, btw (dstep w) (-1000000) 1000000, 1000000] (upto (dstep (dstep w)) 4).toNat
theorem volX_in (w : Int) : -1000000 ≤ volX w ∧ volX w ≤ 1000000 := by
  have b1 := btw_in (w := w) (show (-100 : Int) ≤ 100 by omega)
  have b2 := btw_in (w := dstep w) (show (-1000000 : Int) ≤ 1000000 by omega)
  have b3 := upto_in (w := dstep (dstep w)) (n := 4) (by omega)
  unfold volX
  generalize btw w (-100) 100 = va at *
  generalize btw (dstep w) (-1000000) 1000000 = vb at *
  generalize upto (dstep (dstep w)) 4 = u at *
  have g0 : gt [0, va, vb, 1000000] 0 = 0 := by simp only [gt, List.getD_cons_zero]
  have g1 : gt [0, va, vb, 1000000] 1 = va := by simp only [gt, List.getD_cons_zero, List.getD_cons_succ]
  have g2 : gt [0, va, vb, 1000000] 2 = vb := by simp only [gt, List.getD_cons_zero, List.getD_cons_succ]
  have g3 : gt [0, va, vb, 1000000] 3 = 1000000 := by simp only [gt, List.getD_cons_zero, List.getD_cons_succ]
  have hu : u.toNat = 0 ∨ u.toNat = 1 ∨ u.toNat = 2 ∨ u.toNat = 3 := by omega
  rcases hu with h | h | h | h <;> rw [h]
  · rw [g0]; omega
  · rw [g1]; omega
  · rw [g2]; omega
  · rw [g3]; omega
def volRun : Nat → Nat → Int → List Int → Int × List Int
  | 0, _, w, l => (w, l)
  | n + 1, i, w, l => volRun n (i + 1) (dstep (dstep (dstep w))) (l.set i (volX w))
theorem volRun_ok : ∀ (n i : Nat) (w : Int) (l : List Int), VOK l → (volRun n i w l).2.length = l.length ∧ VOK (volRun n i w l).2
  | 0, _, _, l, h => ⟨rfl, h⟩
  | n + 1, i, w, l, h => by
    have := volRun_ok n (i + 1) (dstep (dstep (dstep w))) (l.set i (volX w)) fun y hy => by
      rcases List.mem_or_eq_of_mem_set hy with h1 | h1
      · exact h y h1
      · subst h1; exact volX_in w
    rw [List.length_set] at this
    exact this
def volsD (w m : Int) : Int × List Int := volRun (min 8 m).toNat 0 w (List.replicate (min 8 m).toNat 0)
theorem volsD_of (w : Int) {p : Pl} (h0 : 0 ≤ gmax p.cs) : VolsOf p (volsD w (gmax p.cs)).2 := by
  have := volRun_ok (min 8 (gmax p.cs)).toNat 0 w (List.replicate (min 8 (gmax p.cs)).toNat 0) fun x hx => by rw [List.mem_replicate] at hx; omega
  refine ⟨?_, this.2⟩
  rw [volsD, this.1, List.length_replicate]
  omega

set_option maxHeartbeats 2000000 in
theorem VoltsD_ok (w : Int) {p : Pl} (hlen : p.cs.length ≤ 1000000) (h0 : 0 ≤ gmax p.cs) (g : Bool) : Ans Try.prog n_kit_VoltsOf [.ptr 0 0 0 1, p.a (.sl 1 0 p.cs.length)] [some (Dr w), some (.cells g 1 (iv p.cs))] (.sl 2 0 (volsD w (gmax p.cs)).2.length)
    [some (Dr (volsD w (gmax p.cs)).1), some (.cells g 1 (iv p.cs)), some (.cells false 1 (iv (volsD w (gmax p.cs)).2))] := by
  suffices h : AnsE Try.prog n_kit_VoltsOf [.ptr 0 0 0 1, p.a (.sl 1 0 p.cs.length)] [some (Dr w), some (.cells g 1 (iv p.cs))] (fun a : Int × List Int => a = volsD w (gmax p.cs)) (fun a => .sl 2 0 a.2.length)
      (fun a => [some (Dr a.1), some (.cells g 1 (iv p.cs)), some (.cells false 1 (iv a.2))]) by
    refine h.mono fun v H' => ?_
    rintro ⟨a, rfl, h2⟩
    exact h2
  refine AnsE.keep (run_fn e_kit_VoltsOf fun G => ?_) (fun a ha => ⟨by simp, by simp [go_sem], by simp only [go_sem], iv_row _ _ _, iv_row _ _ _, trivial⟩)
  have hG := Greatest_ok hlen
  unfold volsD
  generalize hgm : gmax p.cs = m at *
  generalize hk : (min 8 m).toNat = k
  generalize hRES : volRun k 0 w (List.replicate k 0) = RES
  have hkm : min 8 m = (k : Int) := by omega
  have hmm : (if m < 8 then m else 8) = (k : Int) := by rw [← hkm]; split <;> omega
  have hk8 : k ≤ 8 := by omega
  simp only [go_sem, Pl.a, Pl.c4]
  refine cF hG 6 ⟨.inl (pla_frz 3 (j := 1) (g := g) (p := p) rfl rfl), trivial⟩ ?_
  have q1 : (0 : Int) ≤ k := by omega
  have q2 : (k : Int) ≤ 2 ^ 44 := by omega
  have q3 : (k : Int) * 8 ≤ 2 ^ 44 := by omega
  simp only [go_sem, hmm, q1, q2, q3, Int.toNat_natCast]
  refine ⟨Int.le_refl _, ?_⟩
  refine loop_ind k_kit_VoltsOf_r6.eq_1 (fun a : Nat × Int × List Int × Heap => a.1 ≤ k ∧ a.2.2.1.length = k ∧ volRun (k - a.1) a.1 a.2.1 a.2.2.1 = RES) (fun a => k - a.1)
    (fun a => (tsets 30 [(0, .ptr 0 0 0 1), (5, .sl 3 0 k), (6, .int .i64 a.1)], some (Dr a.2.1) :: some (.cells g 1 (iv p.cs)) :: some (.cells false 4 [p.a (.sl 1 0 p.cs.length)]) :: some (.cells false 1 (iv a.2.2.1)) :: a.2.2.2)) (0, w, List.replicate k 0, []) ⟨Nat.zero_le _, by simp, hRES⟩ (by simp [go_sem]) (by simp [Pl.a, Pl.c4, iv]) ?_
  rintro ⟨i, w, l, X⟩ ⟨hi, hl, hv⟩ ih
  dsimp only at hi hl hv ih ⊢
  by_cases h1 : i < k
  · have h2 : (i : Int) < k := by omega
    have h3 := idx_next h1 (by omega)
    have n0 : ¬ (i : Int) < 0 := by omega
    obtain ⟨c, hc⟩ : ∃ c, k - i = c + 1 := ⟨k - i - 1, by omega⟩
    rw [hc, volRun, show c = k - (i + 1) by omega] at hv
    have ihn := fun X => ih (i + 1, dstep (dstep (dstep w)), l.set i (volX w), X) (by dsimp only; omega) ⟨h1, by simpa using hl, hv⟩
    clear ih hv
    have b3 := upto_in (w := dstep (dstep w)) (n := 4) (by omega)
    have t1 := between_ok w (-100) 100 (by omega) (by omega) (by omega)
    have t2 := between_ok (dstep w) (-1000000) 1000000 (by omega) (by omega) (by omega)
    have t3 := upto_ok (dstep (dstep w)) 4 (by omega)
    unfold volX at ihn
    generalize btw w (-100) 100 = va at *
    generalize btw (dstep w) (-1000000) 1000000 = vb at *
    generalize upto (dstep (dstep w)) 4 = u at *
    have hx : [AVal.int .i64 0, .int .i64 va, .int .i64 vb, .int .i64 1000000][u.toNat]? = some (.int .i64 (gt [0, va, vb, 1000000] u.toNat)) :=
      iv_get (l := [0, va, vb, 1000000]) (show u.toNat < 4 by omega)
    generalize gt [0, va, vb, 1000000] u.toNat = x at *
    have u1 : ¬ u < 0 := by omega
    have u2 : u < 4 := by omega
    have hgi := iv_get (l := l) (i := i) (by omega)
    simp only [go_sem, h2]
    refine cD t1 ?_
    simp only [go_sem]
    refine cD t2 ?_
    simp only [go_sem]
    refine cD t3 ?_
    simp only [go_sem, u1, u2, hx, n0, h2, hgi, iv_set, h3]
    exact ihn _ _ (by simp [go_sem])
  · have h2 : ¬ (i : Int) < k := by omega
    have hki : k - i = 0 := by omega
    rw [hki] at hv
    rw [volRun] at hv
    clear hRES ih
    subst hv
    simp only [go_sem, h2]
    refine kept_new (A := [some (Dr w), some (.cells g 1 (iv p.cs))]) 2 3 rfl rfl (by omega) (by rw [hl]; rfl) (fun i x hx => ?_) (iv_row _ _ _) rfl
    match i, hx with
    | 0, hx => simp at hx; subst hx; exact ⟨dr_bel _ _, rfl⟩
    | 1, hx => simp at hx; subst hx; exact ⟨iv_row _ _ _, rfl⟩
end Go.Proofs
namespace Go.Proofs
open Go Go.Sx

-- 11: thermion/thermionlaw01.FieldNarrows
def k_law01_FieldNarrows_r0 : List AOper := [
  ⟨(some (6)), .move (.const (.bool false)), none, []⟩]
def k_law01_FieldNarrows_r1 : List AOper := [
  ⟨(some (17)), .move (.tmp 0), none, []⟩, 
  ⟨(some (18)), .call (.const (.fn (.func 22) [] [])) [.tmp 17], none, []⟩, 
  ⟨(some (7)), .move (.tmp 18), none, []⟩]
def k_law01_FieldNarrows_r2 : List AOper := [
  ⟨(some (19)), .move (.tmp 7), none, []⟩, 
  ⟨(some (20)), .call (.const (.fn (.func 21) [] [])) [.tmp 19, .const (.int .i64 8), .const (.int .i64 6)], none, []⟩, 
  ⟨(some (8)), .box (.const (.agg [.int .i64 0, .int .i64 0, .bool false, .nilsl])), none, []⟩, 
  ⟨none, .store 4 (.tmp 8) (.tmp 20), none, []⟩]
def k_law01_FieldNarrows_r3 : List AOper := [
  ⟨(some (21)), .move (.tmp 7), none, []⟩, 
  ⟨(some (22)), .load (some (4)) (.tmp 8), none, []⟩, 
  ⟨(some (23)), .call (.const (.fn (.func 37) [] [])) [.tmp 21, .tmp 22], none, []⟩, 
  ⟨(some (9)), .move (.tmp 23), none, []⟩]
def k_law01_FieldNarrows_r4 : List AOper := [
  ⟨(some (24)), .move (.tmp 1), none, []⟩, 
  ⟨(some (25)), .call (.const (.fn (.func 23) [] [])) [.tmp 24, .const (.int .i64 41)], none, []⟩, 
  ⟨(some (26)), .move (.tmp 2), none, []⟩, 
  ⟨(some (27)), .call (.const (.fn (.func 23) [] [])) [.tmp 26, .const (.int .i64 21)], none, []⟩, 
  ⟨(some (10)), .move (.tmp 25), none, []⟩, 
  ⟨(some (11)), .move (.tmp 27), none, []⟩]
def k_law01_FieldNarrows_r5 : List AOper := [
  ⟨(some (29)), .load (some (4)) (.tmp 8), none, []⟩, 
  ⟨(some (30)), .move (.tmp 9), none, []⟩, 
  ⟨(some (31)), .move (.tmp 10), none, []⟩, 
  ⟨(some (32)), .call (.const (.fn (.func 38) [] [])) [.tmp 29, .tmp 30, .tmp 31], none, []⟩, 
  ⟨(some (28)), .move (.tmp 32), none, []⟩, 
  ⟨(some (33)), .extract (.tmp 28) 0, none, []⟩, 
  ⟨(some (34)), .extract (.tmp 28) 1, none, []⟩, 
  ⟨(some (12)), .box (.const (.agg [.nilsl, .nilsl, .int .i64 0, .bool false])), none, []⟩, 
  ⟨none, .store 4 (.tmp 12) (.tmp 33), none, []⟩, 
  ⟨(some (13)), .move (.tmp 34), none, []⟩]
def k_law01_FieldNarrows_r6 : List AOper := [
  ⟨(some (36)), .load (some (4)) (.tmp 8), none, []⟩, 
  ⟨(some (37)), .move (.tmp 9), none, []⟩, 
  ⟨(some (38)), .move (.tmp 10), none, []⟩, 
  ⟨(some (39)), .move (.tmp 11), none, []⟩, 
  ⟨(some (40)), .bin .plain .add (.tmp 38) (.tmp 39), none, []⟩, 
  ⟨(some (41)), .call (.const (.fn (.func 38) [] [])) [.tmp 36, .tmp 37, .tmp 40], none, []⟩, 
  ⟨(some (35)), .move (.tmp 41), none, []⟩, 
  ⟨(some (42)), .extract (.tmp 35) 0, none, []⟩, 
  ⟨(some (43)), .extract (.tmp 35) 1, none, []⟩, 
  ⟨(some (14)), .box (.const (.agg [.nilsl, .nilsl, .int .i64 0, .bool false])), none, []⟩, 
  ⟨none, .store 4 (.tmp 14) (.tmp 42), none, []⟩, 
  ⟨(some (15)), .move (.tmp 43), none, []⟩]
def k_law01_FieldNarrows_r7 : List AOper := [
  ⟨(some (44)), .move (.tmp 13), none, []⟩, 
  ⟨(some (45)), .bin .plain .neq (.tmp 44) (.const (.int .i64 0)), none, []⟩, 
  ⟨(some (46)), .move (.tmp 45), none, []⟩, 
  ⟨(some (47)), .move (.tmp 15), (some (46, false)), []⟩, 
  ⟨(some (48)), .bin .plain .neq (.tmp 47) (.const (.int .i64 0)), (some (46, false)), []⟩, 
  ⟨(some (49)), .pick (.tmp 46) (.const (.bool true)) (.tmp 48), none, []⟩, 
  ⟨(some (50)), .move (.tmp 49), none, []⟩, 
  ⟨(some (51)), .fieldAddr 0 (.tmp 12), (some (50, false)), []⟩, 
  ⟨(some (52)), .load none (.tmp 51), (some (50, false)), []⟩, 
  ⟨(some (53)), .len false (.tmp 52), (some (50, false)), []⟩, 
  ⟨(some (54)), .fieldAddr 0 (.tmp 14), (some (50, false)), []⟩, 
  ⟨(some (55)), .load none (.tmp 54), (some (50, false)), []⟩, 
  ⟨(some (56)), .len false (.tmp 55), (some (50, false)), []⟩, 
  ⟨(some (57)), .bin .plain .neq (.tmp 53) (.tmp 56), (some (50, false)), []⟩, 
  ⟨(some (58)), .pick (.tmp 50) (.const (.bool true)) (.tmp 57), none, []⟩, 
  ⟨(some (59)), .move (.tmp 58), none, []⟩, 
  ⟨(some (60)), .fieldAddr 1 (.tmp 12), (some (59, false)), []⟩, 
  ⟨(some (61)), .load none (.tmp 60), (some (59, false)), []⟩, 
  ⟨(some (62)), .len false (.tmp 61), (some (59, false)), []⟩, 
  ⟨(some (63)), .fieldAddr 1 (.tmp 14), (some (59, false)), []⟩, 
  ⟨(some (64)), .load none (.tmp 63), (some (59, false)), []⟩, 
  ⟨(some (65)), .len false (.tmp 64), (some (59, false)), []⟩, 
  ⟨(some (66)), .bin .plain .neq (.tmp 62) (.tmp 65), (some (59, false)), []⟩, 
  ⟨(some (67)), .pick (.tmp 59) (.const (.bool true)) (.tmp 66), none, []⟩, 
  ⟨(some (68)), .move (.tmp 67), none, []⟩, 
  ⟨(some (69)), .fieldAddr 0 (.tmp 12), (some (68, false)), []⟩, 
  ⟨(some (70)), .load none (.tmp 69), (some (68, false)), []⟩, 
  ⟨(some (71)), .len false (.tmp 70), (some (68, false)), []⟩, 
  ⟨(some (72)), .fieldAddr 3 (.tmp 8), (some (68, false)), []⟩, 
  ⟨(some (73)), .load none (.tmp 72), (some (68, false)), []⟩, 
  ⟨(some (74)), .len false (.tmp 73), (some (68, false)), []⟩, 
  ⟨(some (75)), .bin .plain .neq (.tmp 71) (.tmp 74), (some (68, false)), []⟩, 
  ⟨(some (76)), .pick (.tmp 68) (.const (.bool true)) (.tmp 75), none, []⟩, 
  ⟨(some (77)), .move (.tmp 76), none, []⟩, 
  ⟨(some (78)), .fieldAddr 1 (.tmp 12), (some (77, false)), []⟩, 
  ⟨(some (79)), .load none (.tmp 78), (some (77, false)), []⟩, 
  ⟨(some (80)), .len false (.tmp 79), (some (77, false)), []⟩, 
  ⟨(some (81)), .fieldAddr 3 (.tmp 8), (some (77, false)), []⟩, 
  ⟨(some (82)), .load none (.tmp 81), (some (77, false)), []⟩, 
  ⟨(some (83)), .len false (.tmp 82), (some (77, false)), []⟩, 
  ⟨(some (84)), .bin .plain .neq (.tmp 80) (.tmp 83), (some (77, false)), []⟩, 
  ⟨(some (85)), .pick (.tmp 77) (.const (.bool true)) (.tmp 84), none, []⟩]
def k_law01_FieldNarrows_r8 : List AOper := [
  ⟨(some (6)), .move (.const (.bool false)), none, []⟩]
def k_law01_FieldNarrows_r9 : List AOper := [
  ⟨(some (16)), .move (.const (.int .i64 0)), none, []⟩]
def k_law01_FieldNarrows_r10 : List AOper := [
  ⟨(some (86)), .move (.tmp 16), none, []⟩, 
  ⟨(some (87)), .fieldAddr 0 (.tmp 12), none, []⟩, 
  ⟨(some (88)), .load none (.tmp 87), none, []⟩, 
  ⟨(some (89)), .len false (.tmp 88), none, []⟩, 
  ⟨(some (90)), .bin .plain .lss (.tmp 86) (.tmp 89), none, []⟩]
def k_law01_FieldNarrows_r11 : List AOper := [
  ⟨(some (93)), .fieldAddr 0 (.tmp 14), none, []⟩, 
  ⟨(some (94)), .load none (.tmp 93), none, []⟩, 
  ⟨(some (95)), .move (.tmp 16), none, [0, 1]⟩, 
  ⟨(some (96)), .indexAddr 1 (.tmp 94) (.tmp 95), none, []⟩, 
  ⟨(some (97)), .load none (.tmp 96), none, []⟩, 
  ⟨(some (98)), .fieldAddr 0 (.tmp 12), none, [0, 1, 2, 3, 4]⟩, 
  ⟨(some (99)), .load none (.tmp 98), none, [0, 1, 2, 3, 4]⟩, 
  ⟨(some (100)), .move (.tmp 16), none, [0, 1, 2, 3, 4, 5, 6]⟩, 
  ⟨(some (101)), .indexAddr 1 (.tmp 99) (.tmp 100), none, [0, 1, 2, 3, 4]⟩, 
  ⟨(some (102)), .load none (.tmp 101), none, [0, 1, 2, 3, 4]⟩, 
  ⟨(some (103)), .bin .plain .lss (.tmp 97) (.tmp 102), none, []⟩, 
  ⟨(some (104)), .move (.tmp 103), none, []⟩, 
  ⟨(some (105)), .fieldAddr 1 (.tmp 14), (some (104, false)), []⟩, 
  ⟨(some (106)), .load none (.tmp 105), (some (104, false)), []⟩, 
  ⟨(some (107)), .move (.tmp 16), (some (104, false)), [12, 13]⟩, 
  ⟨(some (108)), .indexAddr 1 (.tmp 106) (.tmp 107), (some (104, false)), []⟩, 
  ⟨(some (109)), .load none (.tmp 108), (some (104, false)), []⟩, 
  ⟨(some (110)), .fieldAddr 1 (.tmp 12), (some (104, false)), [12, 13, 14, 15, 16]⟩, 
  ⟨(some (111)), .load none (.tmp 110), (some (104, false)), [12, 13, 14, 15, 16]⟩, 
  ⟨(some (112)), .move (.tmp 16), (some (104, false)), [12, 13, 14, 15, 16, 17, 18]⟩, 
  ⟨(some (113)), .indexAddr 1 (.tmp 111) (.tmp 112), (some (104, false)), [12, 13, 14, 15, 16]⟩, 
  ⟨(some (114)), .load none (.tmp 113), (some (104, false)), [12, 13, 14, 15, 16]⟩, 
  ⟨(some (115)), .bin .plain .gtr (.tmp 109) (.tmp 114), (some (104, false)), []⟩, 
  ⟨(some (116)), .pick (.tmp 104) (.const (.bool true)) (.tmp 115), none, []⟩]
def k_law01_FieldNarrows_r11s : List (List AOper) := [
  [
  ⟨(some (93)), .fieldAddr 0 (.tmp 14), none, []⟩, 
  ⟨(some (94)), .load none (.tmp 93), none, []⟩, 
  ⟨(some (95)), .move (.tmp 16), none, [0, 1]⟩, 
  ⟨(some (96)), .indexAddr 1 (.tmp 94) (.tmp 95), none, []⟩, 
  ⟨(some (97)), .load none (.tmp 96), none, []⟩, 
  ⟨(some (98)), .fieldAddr 0 (.tmp 12), none, [0, 1, 2, 3, 4]⟩, 
  ⟨(some (99)), .load none (.tmp 98), none, [0, 1, 2, 3, 4]⟩, 
  ⟨(some (100)), .move (.tmp 16), none, [0, 1, 2, 3, 4, 5, 6]⟩, 
  ⟨(some (101)), .indexAddr 1 (.tmp 99) (.tmp 100), none, [0, 1, 2, 3, 4]⟩, 
  ⟨(some (102)), .load none (.tmp 101), none, [0, 1, 2, 3, 4]⟩], 
  [
  ⟨(some (103)), .bin .plain .lss (.tmp 97) (.tmp 102), none, []⟩], 
  [
  ⟨(some (104)), .move (.tmp 103), none, []⟩], 
  [
  ⟨(some (105)), .fieldAddr 1 (.tmp 14), (some (104, false)), []⟩, 
  ⟨(some (106)), .load none (.tmp 105), (some (104, false)), []⟩, 
  ⟨(some (107)), .move (.tmp 16), (some (104, false)), [12, 13]⟩, 
  ⟨(some (108)), .indexAddr 1 (.tmp 106) (.tmp 107), (some (104, false)), []⟩, 
  ⟨(some (109)), .load none (.tmp 108), (some (104, false)), []⟩, 
  ⟨(some (110)), .fieldAddr 1 (.tmp 12), (some (104, false)), [12, 13, 14, 15, 16]⟩, 
  ⟨(some (111)), .load none (.tmp 110), (some (104, false)), [12, 13, 14, 15, 16]⟩, 
  ⟨(some (112)), .move (.tmp 16), (some (104, false)), [12, 13, 14, 15, 16, 17, 18]⟩, 
  ⟨(some (113)), .indexAddr 1 (.tmp 111) (.tmp 112), (some (104, false)), [12, 13, 14, 15, 16]⟩, 
  ⟨(some (114)), .load none (.tmp 113), (some (104, false)), [12, 13, 14, 15, 16]⟩], 
  [
  ⟨(some (115)), .bin .plain .gtr (.tmp 109) (.tmp 114), (some (104, false)), []⟩], 
  [
  ⟨(some (116)), .pick (.tmp 104) (.const (.bool true)) (.tmp 115), none, []⟩]]
theorem k_law01_FieldNarrows_r11_sg : segs k_law01_FieldNarrows_r11 = k_law01_FieldNarrows_r11s := by kernel_rfl
theorem k_law01_FieldNarrows_r11_st : statOK k_law01_FieldNarrows_r11 = true := by kernel_rfl
def k_law01_FieldNarrows_r12 : List AOper := [
  ⟨(some (6)), .move (.const (.bool false)), none, []⟩]
def k_law01_FieldNarrows_r13 : List AOper := [
  ⟨(some (91)), .move (.tmp 16), none, []⟩, 
  ⟨(some (92)), .bin .plain .add (.tmp 91) (.const (.int .i64 1)), none, []⟩, 
  ⟨(some (16)), .move (.tmp 92), none, []⟩]
def k_law01_FieldNarrows_r14 : ACode := (.seq (.seq (.reg k_law01_FieldNarrows_r10 false) (.cond (.tmp 90) .skip (.exit 0))) (.seq (.block 1 (.seq (.reg k_law01_FieldNarrows_r11 true) (.cond (.tmp 116) (.seq (.reg k_law01_FieldNarrows_r12 false) .ret) .skip))) (.reg k_law01_FieldNarrows_r13 false)))
def k_law01_FieldNarrows_r15 : List AOper := [
  ⟨(some (117)), .fieldAddr 3 (.tmp 12), none, []⟩, 
  ⟨(some (118)), .load none (.tmp 117), none, []⟩, 
  ⟨(some (119)), .not (.tmp 118), none, []⟩, 
  ⟨(some (120)), .move (.tmp 119), none, []⟩, 
  ⟨(some (121)), .load (some (4)) (.tmp 12), (some (120, false)), []⟩, 
  ⟨(some (122)), .load (some (4)) (.tmp 14), (some (120, false)), []⟩, 
  ⟨(some (123)), .call (.const (.fn (.func 40) [] [])) [.tmp 121, .tmp 122], (some (120, false)), []⟩, 
  ⟨(some (124)), .pick (.tmp 120) (.const (.bool true)) (.tmp 123), none, []⟩, 
  ⟨(some (125)), .move (.tmp 124), none, []⟩, 
  ⟨(some (126)), .fieldAddr 2 (.tmp 14), (some (125, true)), []⟩, 
  ⟨(some (127)), .load none (.tmp 126), (some (125, true)), []⟩, 
  ⟨(some (128)), .fieldAddr 2 (.tmp 12), (some (125, true)), []⟩, 
  ⟨(some (129)), .load none (.tmp 128), (some (125, true)), []⟩, 
  ⟨(some (130)), .bin .plain .geq (.tmp 127) (.tmp 129), (some (125, true)), []⟩, 
  ⟨(some (131)), .pick (.tmp 125) (.tmp 130) (.const (.bool false)), none, []⟩, 
  ⟨(some (132)), .move (.tmp 131), none, []⟩, 
  ⟨(some (133)), .fieldAddr 2 (.tmp 14), (some (132, true)), []⟩, 
  ⟨(some (134)), .load none (.tmp 133), (some (132, true)), []⟩, 
  ⟨(some (135)), .move (.tmp 10), (some (132, true)), []⟩, 
  ⟨(some (136)), .move (.tmp 11), (some (132, true)), []⟩, 
  ⟨(some (137)), .bin .plain .add (.tmp 135) (.tmp 136), (some (132, true)), []⟩, 
  ⟨(some (138)), .bin .plain .leq (.tmp 134) (.tmp 137), (some (132, true)), []⟩, 
  ⟨(some (139)), .pick (.tmp 132) (.tmp 138) (.const (.bool false)), none, []⟩, 
  ⟨(some (140)), .move (.tmp 139), none, []⟩, 
  ⟨(some (141)), .call (.const (.fn (.func 20) [] [])) [], (some (140, true)), []⟩, 
  ⟨(some (142)), .pick (.tmp 140) (.tmp 141) (.const (.bool false)), none, []⟩, 
  ⟨(some (6)), .move (.tmp 142), none, []⟩]
def k_law01_FieldNarrows : AFun := { params := 3, ntmps := 143, body := (.seq (.reg k_law01_FieldNarrows_r0 false) (.seq (.reg k_law01_FieldNarrows_r1 false) (.seq (.reg k_law01_FieldNarrows_r2 false) (.seq (.reg k_law01_FieldNarrows_r3 false) (.seq (.reg k_law01_FieldNarrows_r4 false) (.seq (.reg k_law01_FieldNarrows_r5 false) (.seq (.reg k_law01_FieldNarrows_r6 false) (.seq (.seq (.reg k_law01_FieldNarrows_r7 false) (.cond (.tmp 85) (.seq (.reg k_law01_FieldNarrows_r8 false) .ret) .skip)) (.seq (.seq (.reg k_law01_FieldNarrows_r9 false) (.block 0 (.loop k_law01_FieldNarrows_r14))) (.seq (.reg k_law01_FieldNarrows_r15 false) .ret)))))))))), res := [.tmp 6] }
theorem k_law01_FieldNarrows_ok : cfun Try.prog Try.f11 = k_law01_FieldNarrows := by kernel_rfl


abbrev n_law01_FieldNarrows : Nat := 11
theorem e_law01_FieldNarrows : EntryOK Try.prog n_law01_FieldNarrows k_law01_FieldNarrows := ⟨Try.f11, Try.func11, k_law01_FieldNarrows_ok, by kernel_rfl⟩

attribute [go_sem] k_law01_FieldNarrows_r0 k_law01_FieldNarrows_r1 k_law01_FieldNarrows_r2 k_law01_FieldNarrows_r3 k_law01_FieldNarrows_r4 k_law01_FieldNarrows_r5 k_law01_FieldNarrows_r6 k_law01_FieldNarrows_r7 k_law01_FieldNarrows_r8 k_law01_FieldNarrows_r9 k_law01_FieldNarrows_r10 k_law01_FieldNarrows_r11s
attribute [go_sem] k_law01_FieldNarrows_r12 k_law01_FieldNarrows_r13 k_law01_FieldNarrows_r15 k_law01_FieldNarrows_r11_sg k_law01_FieldNarrows_r11_st k_law01_FieldNarrows
end Go.Proofs
namespace Go.Proofs
open Go Go.Sx
attribute [local irreducible] Run

theorem mod_in (a b : Int) (hb : 1 ≤ b) : 0 ≤ a % b ∧ a % b < b := ⟨Int.emod_nonneg _ (by omega), Int.emod_lt_of_pos _ (by omega)⟩
theorem VolsOf.len {p : Pl} {a b : Int} (hp : PlMade a b p) {v : List Int} (h : VolsOf p v) : (v.length : Int) = gmax p.cs := by
  have := hp.ok.max
  have := h.1
  omega
theorem pla_bel (p : Pl) (j n : Nat) (S : Nat → Prop) (h : S j) : Bel S (p.a (.sl j 0 n)) := by unfold Pl.a Pl.c4; simp only [go_sem, h]

set_option maxHeartbeats 4000000 in
set_option maxRecDepth 10000 in
theorem narrows_ok (zs : List Int) (hl : zs.length ≤ 9223372036854775807) (a1 a2 : Int) : Ans Try.prog n_law01_FieldNarrows [.view (zs.map (.int .i64)), .int .i64 a1, .int .i64 a2] [] (.bool true) [] := by
  have m1 := mod_in a1 41 (by omega)
  have m2 := mod_in a2 21 (by omega)
  have e1 := mod_pos a1 41 (by omega)
  have e2 := mod_pos a2 21 (by omega)
  generalize a1 % 41 = n1 at *
  generalize a2 % 21 = n2 at *
  obtain ⟨n, rfl⟩ : ∃ n : Nat, n1 = n := ⟨n1.toNat, by omega⟩
  obtain ⟨m, rfl⟩ : ∃ m : Nat, n2 = m := ⟨n2.toNat, by omega⟩
  refine spec_run e_law01_FieldNarrows fun G => ?_
  simp only [go_sem]
  refine callN1 (newdice_ok zs hl) (by simp only [go_sem]) (dr_bel _ _) (by simp) (by simp) ?_
  generalize seedW zs = w
  simp only [go_sem]
  refine callDN (PlanOf_ok w 8 6 (by omega) (by omega)) rfl (by simp only [go_sem]) (dr_bel _ _) (fun q hq => ⟨pla_bel _ _ _ _ rfl, dr_bel _ _, iv_row _ _ _⟩) (by simp) (by simp) ?_
  rintro ⟨w1, p⟩ hp
  dsimp only at hp ⊢
  have hpo := hp.ok
  simp only [go_sem, Pl.a, Pl.c4, ren, rens]
  have hpl : p.cs.length ≤ 1000000 := by
    rw [hpo.len]; have := Nat.mul_le_mul hpo.w.2 hpo.h.2; omega
  have hmx := hpo.max
  refine callR1 (VoltsOf_ok w1 hpl (by omega) true) (j0 := 0) (j1 := 1) rfl (by simp [go_sem, Pl.a, Pl.c4]) rfl rfl (dr_bel _ _) (iv_row _ _ _) (by decide) (fun q hq => ⟨by simp [go_sem], dr_bel _ _, iv_row _ _ _⟩) (by simp) (by simp) ?_
  rintro ⟨w2, v⟩ hvv
  dsimp only at hvv ⊢
  have hv := hvv.2
  have hvl := hvv.len hp
  simp only [go_sem, ren, rens]
  refine cP e1 ?_
  simp only [go_sem]
  refine cP e2 ?_
  simp only [go_sem]
  have w64nm : IntKind.i64.wrap ((n : Int) + m) = ((n + m : Nat) : Int) := by rw [w64 (by omega)]; rfl
  have s1 := Solve_ok hpo hv hvl (n := n) (by omega)
  have s2 := Solve_ok hpo hv hvl (n := n + m) (by omega)
  have lL : ∀ k, (lowB p v k).length = p.cs.length := fun k => by rw [(low_ok hpo v k).len, hpo.len]
  have lH : ∀ k, (highB p v k).length = p.cs.length := fun k => by rw [(high_ok hpo v k).len, hpo.len]
  have hcm := cnt_mono p v n m
  have hcl := cnt_le p v (n + m)
  have hM1 := low_mono hpo v hcm
  have hM2 := high_mono hpo v hcm
  have hst : stl p v (cnt p v n) = true → cnt p v (n + m) = cnt p v n := cnt_same
  have L1 := lL (cnt p v n); have L2 := lL (cnt p v (n + m)); have H1 := lH (cnt p v n); have H2 := lH (cnt p v (n + m))
  have hsame := same_ok (a := lowB p v (cnt p v n)) (b := highB p v (cnt p v n)) (c := lowB p v (cnt p v (n + m))) (d := highB p v (cnt p v (n + m))) (s := cnt p v n) (u := cnt p v (n + m)) (t := stl p v (cnt p v n)) (w := stl p v (cnt p v (n + m))) (by omega) (by omega)
  have hst2 : stl p v (cnt p v n) = true → (decide (lowB p v (cnt p v n) = lowB p v (cnt p v (n + m))) && (decide (highB p v (cnt p v n) = highB p v (cnt p v (n + m))) && (decide (cnt p v n = cnt p v (n + m)) && decide (stl p v (cnt p v n) = stl p v (cnt p v (n + m)))))) = true := fun h => by
    rw [hst h]; simp
  clear hst lL lH
  refine cFN2 s1 6 ⟨.inl (pla_frz 3 (j := 1) (g := true) rfl rfl), .inl (iv_frz_sl (d := 4) (j := 3) (g := false) rfl rfl), .inl rfl, trivial⟩ ?_ (by simp [go_sem, fldV]) (by simp only [go_sem, fldV]) (iv_row _ _ _) (iv_nv _ _) (iv_row _ _ _) (iv_nv _ _)
  simp only [go_sem, ren, rens, fldV, w64nm]
  refine cFN2 s2 6 ⟨.inl (pla_frz 3 (j := 1) (g := true) rfl rfl), .inl (iv_frz_sl (d := 4) (j := 3) (g := false) rfl rfl), .inl rfl, trivial⟩ ?_ (by simp [go_sem, fldV]) (by simp only [go_sem, fldV]) (iv_row _ _ _) (iv_nv _ _) (iv_row _ _ _) (iv_nv _ _)
  clear s1 s2
  generalize cnt p v n = c1 at *
  generalize cnt p v (n + m) = c2 at *
  generalize stl p v c1 = t1 at *
  generalize stl p v c2 = t2 at *
  generalize lowB p v c1 = la at *
  generalize lowB p v c2 = lb at *
  generalize highB p v c1 = ha at *
  generalize highB p v c2 = hb at *
  simp only [go_sem, ren, rens, fldV, bne_self_eq_false, iv_len]
  refine loop_ind k_law01_FieldNarrows_r14.eq_1 (fun i : Nat => i ≤ p.cs.length) (fun i => p.cs.length - i)
    (fun i => (tsets 143 [(8, .ptr 2 0 0 1), (10, .int .i64 n), (11, .int .i64 m), (12, .ptr 6 0 0 1), (14, .ptr 9 0 0 1), (16, .int .i64 i)],
      [some (Dr w2), some (.cells true 1 (iv p.cs)), some (.cells false 4 [p.a (.sl 1 0 p.cs.length)]), some (.cells false 1 (iv v)), some (.cells false 1 (iv la)), some (.cells false 1 (iv ha)), some (.cells false 4 [fldV p.cs.length c1 t1 4 5]), some (.cells false 1 (iv lb)), some (.cells false 1 (iv hb)), some (.cells false 4 [fldV p.cs.length c2 t2 7 8])])) 0 (Nat.zero_le _) (by simp [go_sem]) rfl ?_
  intro i hi ih
  dsimp only at hi ih ⊢
  by_cases h1 : i < p.cs.length
  · have h2 : (i : Int) < p.cs.length := by omega
    have h3 := idx_next h1 (by omega)
    have n0 : ¬ (i : Int) < 0 := by omega
    have ga := iv_get (l := la) (i := i) (by omega)
    have gb := iv_get (l := lb) (i := i) (by omega)
    have gc := iv_get (l := ha) (i := i) (by omega)
    have gd := iv_get (l := hb) (i := i) (by omega)
    have q1 : ¬ gt lb i < gt la i := by have := hM1 i; omega
    have q2 : ¬ gt ha i < gt hb i := by have := hM2 i; omega
    simp only [go_sem, fldV, h2, n0, ga, gb, gc, gd, q1, q2, h3]
    exact ih (i + 1) (by omega) h1 _ (by simp [go_sem])
  · have h2 : ¬ (i : Int) < p.cs.length := by omega
    have g1 : (c1 : Int) ≤ c2 := by omega
    have g2 : (c2 : Int) ≤ ((n + m : Nat) : Int) := by omega
    cases t1 with
    | true =>
      rw [hst2 rfl] at hsame
      simp only [go_sem, fldV, h2]
      refine cF hsame 6 ⟨.inl (fldW_frz (g0 := false) (g1 := false) (j0 := 4) (j1 := 5) rfl rfl (by omega) (by omega)), .inl (fldW_frz (g0 := false) (g1 := false) (j0 := 7) (j1 := 8) rfl rfl (by omega) (by omega)), trivial⟩ ?_
      simp only [go_sem, fldV, g1, g2, w64nm]
      refine cP awake_ok ?_
      simp only [go_sem]
    | false =>
      simp only [go_sem, fldV, h2, g1, g2, w64nm]
      refine cP awake_ok ?_
      simp only [go_sem]
end Go.Proofs
namespace Go.Proofs
open Go Go.Sx

-- 18: thermion/thermionlaw01.FieldSigns
def k_law01_FieldSigns_r0 : List AOper := [
  ⟨(some (6)), .move (.const (.bool false)), none, []⟩]
def k_law01_FieldSigns_r1 : List AOper := [
  ⟨(some (23)), .move (.tmp 0), none, []⟩, 
  ⟨(some (24)), .call (.const (.fn (.func 22) [] [])) [.tmp 23], none, []⟩, 
  ⟨(some (7)), .move (.tmp 24), none, []⟩]
def k_law01_FieldSigns_r2 : List AOper := [
  ⟨(some (25)), .move (.tmp 7), none, []⟩, 
  ⟨(some (26)), .call (.const (.fn (.func 21) [] [])) [.tmp 25, .const (.int .i64 8), .const (.int .i64 6)], none, []⟩, 
  ⟨(some (8)), .box (.const (.agg [.int .i64 0, .int .i64 0, .bool false, .nilsl])), none, []⟩, 
  ⟨none, .store 4 (.tmp 8) (.tmp 26), none, []⟩]
def k_law01_FieldSigns_r3 : List AOper := [
  ⟨(some (27)), .move (.tmp 7), none, []⟩, 
  ⟨(some (28)), .load (some (4)) (.tmp 8), none, []⟩, 
  ⟨(some (29)), .call (.const (.fn (.func 37) [] [])) [.tmp 27, .tmp 28], none, []⟩, 
  ⟨(some (9)), .move (.tmp 29), none, []⟩]
def k_law01_FieldSigns_r4 : List AOper := [
  ⟨(some (30)), .move (.tmp 9), none, []⟩, 
  ⟨(some (31)), .len false (.tmp 30), none, []⟩, 
  ⟨(some (32)), .makeSlice (.int .i64 0) 8 (.tmp 31) (.tmp 31), none, []⟩, 
  ⟨(some (33)), .move (.tmp 9), none, [0, 1, 2]⟩, 
  ⟨(some (34)), .len false (.tmp 33), none, [0, 1, 2]⟩, 
  ⟨(some (35)), .makeSlice (.int .i64 0) 8 (.tmp 34) (.tmp 34), none, [0, 1, 2]⟩, 
  ⟨(some (10)), .move (.tmp 32), none, [3, 4, 5]⟩, 
  ⟨(some (11)), .move (.tmp 35), none, []⟩]
def k_law01_FieldSigns_r4s : List (List AOper) := [
  [
  ⟨(some (30)), .move (.tmp 9), none, []⟩, 
  ⟨(some (31)), .len false (.tmp 30), none, []⟩, 
  ⟨(some (32)), .makeSlice (.int .i64 0) 8 (.tmp 31) (.tmp 31), none, []⟩, 
  ⟨(some (33)), .move (.tmp 9), none, [0, 1, 2]⟩, 
  ⟨(some (34)), .len false (.tmp 33), none, [0, 1, 2]⟩, 
  ⟨(some (35)), .makeSlice (.int .i64 0) 8 (.tmp 34) (.tmp 34), none, [0, 1, 2]⟩, 
  ⟨(some (10)), .move (.tmp 32), none, [3, 4, 5]⟩], 
  [
  ⟨(some (11)), .move (.tmp 35), none, []⟩]]
theorem k_law01_FieldSigns_r4_sg : segs k_law01_FieldSigns_r4 = k_law01_FieldSigns_r4s := by kernel_rfl
theorem k_law01_FieldSigns_r4_st : statOK k_law01_FieldSigns_r4 = true := by kernel_rfl
def k_law01_FieldSigns_r5 : List AOper := [
  ⟨(some (36)), .move (.tmp 2), none, []⟩, 
  ⟨(some (37)), .call (.const (.fn (.func 23) [] [])) [.tmp 36, .const (.int .i64 2000001)], none, []⟩, 
  ⟨(some (38)), .bin .plain .sub (.tmp 37) (.const (.int .i64 1000000)), none, []⟩, 
  ⟨(some (2)), .move (.tmp 38), none, []⟩]
def k_law01_FieldSigns_r6 : List AOper := [
  ⟨(some (12)), .move (.const (.int .i64 0)), none, []⟩]
def k_law01_FieldSigns_r7 : List AOper := [
  ⟨(some (39)), .move (.tmp 12), none, []⟩, 
  ⟨(some (40)), .move (.tmp 9), none, []⟩, 
  ⟨(some (41)), .len false (.tmp 40), none, []⟩, 
  ⟨(some (42)), .bin .plain .lss (.tmp 39) (.tmp 41), none, []⟩]
def k_law01_FieldSigns_r8 : List AOper := [
  ⟨(some (45)), .move (.tmp 10), none, []⟩, 
  ⟨(some (46)), .move (.tmp 12), none, []⟩, 
  ⟨(some (47)), .move (.tmp 11), none, []⟩, 
  ⟨(some (48)), .move (.tmp 12), none, []⟩, 
  ⟨(some (49)), .move (.tmp 9), none, []⟩, 
  ⟨(some (50)), .move (.tmp 12), none, []⟩, 
  ⟨(some (51)), .indexAddr 1 (.tmp 49) (.tmp 50), none, []⟩, 
  ⟨(some (52)), .load none (.tmp 51), none, []⟩, 
  ⟨(some (53)), .neg (.tmp 52), none, []⟩, 
  ⟨(some (54)), .move (.tmp 2), none, []⟩, 
  ⟨(some (55)), .indexAddr 1 (.tmp 45) (.tmp 46), none, []⟩, 
  ⟨none, .store 1 (.tmp 55) (.tmp 53), none, []⟩, 
  ⟨(some (56)), .indexAddr 1 (.tmp 47) (.tmp 48), none, []⟩, 
  ⟨none, .store 1 (.tmp 56) (.tmp 54), none, []⟩]
def k_law01_FieldSigns_r9 : List AOper := [
  ⟨(some (43)), .move (.tmp 12), none, []⟩, 
  ⟨(some (44)), .bin .plain .add (.tmp 43) (.const (.int .i64 1)), none, []⟩, 
  ⟨(some (12)), .move (.tmp 44), none, []⟩]
def k_law01_FieldSigns_r10 : ACode := (.seq (.seq (.reg k_law01_FieldSigns_r7 false) (.cond (.tmp 42) .skip (.exit 0))) (.seq (.block 1 (.reg k_law01_FieldSigns_r8 false)) (.reg k_law01_FieldSigns_r9 false)))
def k_law01_FieldSigns_r11 : List AOper := [
  ⟨(some (57)), .move (.tmp 1), none, []⟩, 
  ⟨(some (58)), .call (.const (.fn (.func 23) [] [])) [.tmp 57, .const (.int .i64 41)], none, []⟩, 
  ⟨(some (13)), .move (.tmp 58), none, []⟩]
def k_law01_FieldSigns_r12 : List AOper := [
  ⟨(some (60)), .load (some (4)) (.tmp 8), none, []⟩, 
  ⟨(some (61)), .move (.tmp 9), none, []⟩, 
  ⟨(some (62)), .move (.tmp 13), none, []⟩, 
  ⟨(some (63)), .call (.const (.fn (.func 38) [] [])) [.tmp 60, .tmp 61, .tmp 62], none, []⟩, 
  ⟨(some (59)), .move (.tmp 63), none, []⟩, 
  ⟨(some (64)), .extract (.tmp 59) 0, none, []⟩, 
  ⟨(some (65)), .extract (.tmp 59) 1, none, []⟩, 
  ⟨(some (14)), .box (.const (.agg [.nilsl, .nilsl, .int .i64 0, .bool false])), none, []⟩, 
  ⟨none, .store 4 (.tmp 14) (.tmp 64), none, []⟩, 
  ⟨(some (15)), .move (.tmp 65), none, []⟩]
def k_law01_FieldSigns_r13 : List AOper := [
  ⟨(some (67)), .load (some (4)) (.tmp 8), none, []⟩, 
  ⟨(some (68)), .move (.tmp 10), none, []⟩, 
  ⟨(some (69)), .move (.tmp 13), none, []⟩, 
  ⟨(some (70)), .call (.const (.fn (.func 38) [] [])) [.tmp 67, .tmp 68, .tmp 69], none, []⟩, 
  ⟨(some (66)), .move (.tmp 70), none, []⟩, 
  ⟨(some (71)), .extract (.tmp 66) 0, none, []⟩, 
  ⟨(some (72)), .extract (.tmp 66) 1, none, []⟩, 
  ⟨(some (16)), .box (.const (.agg [.nilsl, .nilsl, .int .i64 0, .bool false])), none, []⟩, 
  ⟨none, .store 4 (.tmp 16) (.tmp 71), none, []⟩, 
  ⟨(some (17)), .move (.tmp 72), none, []⟩]
def k_law01_FieldSigns_r14 : List AOper := [
  ⟨(some (74)), .load (some (4)) (.tmp 8), none, []⟩, 
  ⟨(some (75)), .move (.tmp 11), none, []⟩, 
  ⟨(some (76)), .move (.tmp 13), none, []⟩, 
  ⟨(some (77)), .call (.const (.fn (.func 38) [] [])) [.tmp 74, .tmp 75, .tmp 76], none, []⟩, 
  ⟨(some (73)), .move (.tmp 77), none, []⟩, 
  ⟨(some (78)), .extract (.tmp 73) 0, none, []⟩, 
  ⟨(some (79)), .extract (.tmp 73) 1, none, []⟩, 
  ⟨(some (18)), .box (.const (.agg [.nilsl, .nilsl, .int .i64 0, .bool false])), none, []⟩, 
  ⟨none, .store 4 (.tmp 18) (.tmp 78), none, []⟩, 
  ⟨(some (19)), .move (.tmp 79), none, []⟩]
def k_law01_FieldSigns_r15 : List AOper := [
  ⟨(some (80)), .move (.tmp 15), none, []⟩, 
  ⟨(some (81)), .bin .plain .neq (.tmp 80) (.const (.int .i64 0)), none, []⟩, 
  ⟨(some (82)), .move (.tmp 81), none, []⟩, 
  ⟨(some (83)), .move (.tmp 17), (some (82, false)), []⟩, 
  ⟨(some (84)), .bin .plain .neq (.tmp 83) (.const (.int .i64 0)), (some (82, false)), []⟩, 
  ⟨(some (85)), .pick (.tmp 82) (.const (.bool true)) (.tmp 84), none, []⟩, 
  ⟨(some (86)), .move (.tmp 85), none, []⟩, 
  ⟨(some (87)), .move (.tmp 19), (some (86, false)), []⟩, 
  ⟨(some (88)), .bin .plain .neq (.tmp 87) (.const (.int .i64 0)), (some (86, false)), []⟩, 
  ⟨(some (89)), .pick (.tmp 86) (.const (.bool true)) (.tmp 88), none, []⟩, 
  ⟨(some (90)), .move (.tmp 89), none, []⟩, 
  ⟨(some (91)), .fieldAddr 2 (.tmp 14), (some (90, false)), []⟩, 
  ⟨(some (92)), .load none (.tmp 91), (some (90, false)), []⟩, 
  ⟨(some (93)), .fieldAddr 2 (.tmp 16), (some (90, false)), []⟩, 
  ⟨(some (94)), .load none (.tmp 93), (some (90, false)), []⟩, 
  ⟨(some (95)), .bin .plain .neq (.tmp 92) (.tmp 94), (some (90, false)), []⟩, 
  ⟨(some (96)), .pick (.tmp 90) (.const (.bool true)) (.tmp 95), none, []⟩, 
  ⟨(some (97)), .move (.tmp 96), none, []⟩, 
  ⟨(some (98)), .fieldAddr 3 (.tmp 14), (some (97, false)), []⟩, 
  ⟨(some (99)), .load none (.tmp 98), (some (97, false)), []⟩, 
  ⟨(some (100)), .fieldAddr 3 (.tmp 16), (some (97, false)), []⟩, 
  ⟨(some (101)), .load none (.tmp 100), (some (97, false)), []⟩, 
  ⟨(some (102)), .bin .bool .neq (.tmp 99) (.tmp 101), (some (97, false)), []⟩, 
  ⟨(some (103)), .pick (.tmp 97) (.const (.bool true)) (.tmp 102), none, []⟩]
def k_law01_FieldSigns_r16 : List AOper := [
  ⟨(some (6)), .move (.const (.bool false)), none, []⟩]
def k_law01_FieldSigns_r17 : List AOper := [
  ⟨(some (104)), .fieldAddr 0 (.tmp 14), none, []⟩, 
  ⟨(some (105)), .load none (.tmp 104), none, []⟩, 
  ⟨(some (106)), .fieldAddr 1 (.tmp 14), none, []⟩, 
  ⟨(some (107)), .load none (.tmp 106), none, []⟩, 
  ⟨(some (108)), .fieldAddr 0 (.tmp 16), none, []⟩, 
  ⟨(some (109)), .load none (.tmp 108), none, []⟩, 
  ⟨(some (110)), .fieldAddr 1 (.tmp 16), none, []⟩, 
  ⟨(some (111)), .load none (.tmp 110), none, []⟩, 
  ⟨(some (112)), .fieldAddr 0 (.tmp 18), none, []⟩, 
  ⟨(some (113)), .load none (.tmp 112), none, []⟩, 
  ⟨(some (114)), .fieldAddr 1 (.tmp 18), none, []⟩, 
  ⟨(some (115)), .load none (.tmp 114), none, []⟩, 
  ⟨(some (116)), .buildSlice 1 [.tmp 105, .tmp 107, .tmp 109, .tmp 111, .tmp 113, .tmp 115], none, []⟩, 
  ⟨(some (20)), .move (.tmp 116), none, []⟩]
def k_law01_FieldSigns_r18 : List AOper := [
  ⟨(some (21)), .move (.const (.int .i64 0)), none, []⟩]
def k_law01_FieldSigns_r19 : List AOper := [
  ⟨(some (117)), .move (.tmp 21), none, []⟩, 
  ⟨(some (118)), .move (.tmp 20), none, []⟩, 
  ⟨(some (119)), .len false (.tmp 118), none, []⟩, 
  ⟨(some (120)), .bin .plain .lss (.tmp 117) (.tmp 119), none, []⟩]
def k_law01_FieldSigns_r20 : List AOper := [
  ⟨(some (123)), .move (.tmp 20), none, []⟩, 
  ⟨(some (124)), .move (.tmp 21), none, [0]⟩, 
  ⟨(some (125)), .indexAddr 1 (.tmp 123) (.tmp 124), none, []⟩, 
  ⟨(some (126)), .load none (.tmp 125), none, []⟩, 
  ⟨(some (127)), .len false (.tmp 126), none, []⟩, 
  ⟨(some (128)), .fieldAddr 3 (.tmp 8), none, [0, 1, 2, 3, 4]⟩, 
  ⟨(some (129)), .load none (.tmp 128), none, [0, 1, 2, 3, 4]⟩, 
  ⟨(some (130)), .len false (.tmp 129), none, [0, 1, 2, 3, 4]⟩, 
  ⟨(some (131)), .bin .plain .neq (.tmp 127) (.tmp 130), none, []⟩]
def k_law01_FieldSigns_r20s : List (List AOper) := [
  [
  ⟨(some (123)), .move (.tmp 20), none, []⟩, 
  ⟨(some (124)), .move (.tmp 21), none, [0]⟩, 
  ⟨(some (125)), .indexAddr 1 (.tmp 123) (.tmp 124), none, []⟩, 
  ⟨(some (126)), .load none (.tmp 125), none, []⟩, 
  ⟨(some (127)), .len false (.tmp 126), none, []⟩, 
  ⟨(some (128)), .fieldAddr 3 (.tmp 8), none, [0, 1, 2, 3, 4]⟩, 
  ⟨(some (129)), .load none (.tmp 128), none, [0, 1, 2, 3, 4]⟩, 
  ⟨(some (130)), .len false (.tmp 129), none, [0, 1, 2, 3, 4]⟩], 
  [
  ⟨(some (131)), .bin .plain .neq (.tmp 127) (.tmp 130), none, []⟩]]
theorem k_law01_FieldSigns_r20_sg : segs k_law01_FieldSigns_r20 = k_law01_FieldSigns_r20s := by kernel_rfl
theorem k_law01_FieldSigns_r20_st : statOK k_law01_FieldSigns_r20 = true := by kernel_rfl
def k_law01_FieldSigns_r21 : List AOper := [
  ⟨(some (6)), .move (.const (.bool false)), none, []⟩]
def k_law01_FieldSigns_r22 : List AOper := [
  ⟨(some (121)), .move (.tmp 21), none, []⟩, 
  ⟨(some (122)), .bin .plain .add (.tmp 121) (.const (.int .i64 1)), none, []⟩, 
  ⟨(some (21)), .move (.tmp 122), none, []⟩]
def k_law01_FieldSigns_r23 : ACode := (.seq (.seq (.reg k_law01_FieldSigns_r19 false) (.cond (.tmp 120) .skip (.exit 2))) (.seq (.block 3 (.seq (.reg k_law01_FieldSigns_r20 true) (.cond (.tmp 131) (.seq (.reg k_law01_FieldSigns_r21 false) .ret) .skip))) (.reg k_law01_FieldSigns_r22 false)))
def k_law01_FieldSigns_r24 : List AOper := [
  ⟨(some (22)), .move (.const (.int .i64 0)), none, []⟩]
def k_law01_FieldSigns_r25 : List AOper := [
  ⟨(some (132)), .move (.tmp 22), none, []⟩, 
  ⟨(some (133)), .fieldAddr 3 (.tmp 8), none, []⟩, 
  ⟨(some (134)), .load none (.tmp 133), none, []⟩, 
  ⟨(some (135)), .len false (.tmp 134), none, []⟩, 
  ⟨(some (136)), .bin .plain .lss (.tmp 132) (.tmp 135), none, []⟩]
def k_law01_FieldSigns_r26 : List AOper := [
  ⟨(some (139)), .fieldAddr 0 (.tmp 14), none, []⟩, 
  ⟨(some (140)), .load none (.tmp 139), none, []⟩, 
  ⟨(some (141)), .move (.tmp 22), none, [0, 1]⟩, 
  ⟨(some (142)), .indexAddr 1 (.tmp 140) (.tmp 141), none, []⟩, 
  ⟨(some (143)), .load none (.tmp 142), none, []⟩, 
  ⟨(some (144)), .fieldAddr 1 (.tmp 16), none, [0, 1, 2, 3, 4]⟩, 
  ⟨(some (145)), .load none (.tmp 144), none, [0, 1, 2, 3, 4]⟩, 
  ⟨(some (146)), .move (.tmp 22), none, [0, 1, 2, 3, 4, 5, 6]⟩, 
  ⟨(some (147)), .indexAddr 1 (.tmp 145) (.tmp 146), none, [0, 1, 2, 3, 4]⟩, 
  ⟨(some (148)), .load none (.tmp 147), none, [0, 1, 2, 3, 4]⟩, 
  ⟨(some (149)), .neg (.tmp 148), none, [0, 1, 2, 3, 4]⟩, 
  ⟨(some (150)), .bin .plain .neq (.tmp 143) (.tmp 149), none, []⟩, 
  ⟨(some (151)), .move (.tmp 150), none, []⟩, 
  ⟨(some (152)), .fieldAddr 1 (.tmp 14), (some (151, false)), []⟩, 
  ⟨(some (153)), .load none (.tmp 152), (some (151, false)), []⟩, 
  ⟨(some (154)), .move (.tmp 22), (some (151, false)), [13, 14]⟩, 
  ⟨(some (155)), .indexAddr 1 (.tmp 153) (.tmp 154), (some (151, false)), []⟩, 
  ⟨(some (156)), .load none (.tmp 155), (some (151, false)), []⟩, 
  ⟨(some (157)), .fieldAddr 0 (.tmp 16), (some (151, false)), [13, 14, 15, 16, 17]⟩, 
  ⟨(some (158)), .load none (.tmp 157), (some (151, false)), [13, 14, 15, 16, 17]⟩, 
  ⟨(some (159)), .move (.tmp 22), (some (151, false)), [13, 14, 15, 16, 17, 18, 19]⟩, 
  ⟨(some (160)), .indexAddr 1 (.tmp 158) (.tmp 159), (some (151, false)), [13, 14, 15, 16, 17]⟩, 
  ⟨(some (161)), .load none (.tmp 160), (some (151, false)), [13, 14, 15, 16, 17]⟩, 
  ⟨(some (162)), .neg (.tmp 161), (some (151, false)), [13, 14, 15, 16, 17]⟩, 
  ⟨(some (163)), .bin .plain .neq (.tmp 156) (.tmp 162), (some (151, false)), []⟩, 
  ⟨(some (164)), .pick (.tmp 151) (.const (.bool true)) (.tmp 163), none, []⟩, 
  ⟨(some (165)), .move (.tmp 164), none, []⟩, 
  ⟨(some (166)), .fieldAddr 0 (.tmp 18), (some (165, false)), []⟩, 
  ⟨(some (167)), .load none (.tmp 166), (some (165, false)), []⟩, 
  ⟨(some (168)), .move (.tmp 22), (some (165, false)), [27, 28]⟩, 
  ⟨(some (169)), .indexAddr 1 (.tmp 167) (.tmp 168), (some (165, false)), []⟩, 
  ⟨(some (170)), .load none (.tmp 169), (some (165, false)), []⟩, 
  ⟨(some (171)), .move (.tmp 2), (some (165, false)), [27, 28, 29, 30, 31]⟩, 
  ⟨(some (172)), .bin .plain .neq (.tmp 170) (.tmp 171), (some (165, false)), []⟩, 
  ⟨(some (173)), .pick (.tmp 165) (.const (.bool true)) (.tmp 172), none, []⟩, 
  ⟨(some (174)), .move (.tmp 173), none, []⟩, 
  ⟨(some (175)), .fieldAddr 1 (.tmp 18), (some (174, false)), []⟩, 
  ⟨(some (176)), .load none (.tmp 175), (some (174, false)), []⟩, 
  ⟨(some (177)), .move (.tmp 22), (some (174, false)), [36, 37]⟩, 
  ⟨(some (178)), .indexAddr 1 (.tmp 176) (.tmp 177), (some (174, false)), []⟩, 
  ⟨(some (179)), .load none (.tmp 178), (some (174, false)), []⟩, 
  ⟨(some (180)), .move (.tmp 2), (some (174, false)), [36, 37, 38, 39, 40]⟩, 
  ⟨(some (181)), .bin .plain .neq (.tmp 179) (.tmp 180), (some (174, false)), []⟩, 
  ⟨(some (182)), .pick (.tmp 174) (.const (.bool true)) (.tmp 181), none, []⟩]
def k_law01_FieldSigns_r26s : List (List AOper) := [
  [
  ⟨(some (139)), .fieldAddr 0 (.tmp 14), none, []⟩, 
  ⟨(some (140)), .load none (.tmp 139), none, []⟩, 
  ⟨(some (141)), .move (.tmp 22), none, [0, 1]⟩, 
  ⟨(some (142)), .indexAddr 1 (.tmp 140) (.tmp 141), none, []⟩, 
  ⟨(some (143)), .load none (.tmp 142), none, []⟩, 
  ⟨(some (144)), .fieldAddr 1 (.tmp 16), none, [0, 1, 2, 3, 4]⟩, 
  ⟨(some (145)), .load none (.tmp 144), none, [0, 1, 2, 3, 4]⟩, 
  ⟨(some (146)), .move (.tmp 22), none, [0, 1, 2, 3, 4, 5, 6]⟩, 
  ⟨(some (147)), .indexAddr 1 (.tmp 145) (.tmp 146), none, [0, 1, 2, 3, 4]⟩, 
  ⟨(some (148)), .load none (.tmp 147), none, [0, 1, 2, 3, 4]⟩, 
  ⟨(some (149)), .neg (.tmp 148), none, [0, 1, 2, 3, 4]⟩], 
  [
  ⟨(some (150)), .bin .plain .neq (.tmp 143) (.tmp 149), none, []⟩], 
  [
  ⟨(some (151)), .move (.tmp 150), none, []⟩], 
  [
  ⟨(some (152)), .fieldAddr 1 (.tmp 14), (some (151, false)), []⟩, 
  ⟨(some (153)), .load none (.tmp 152), (some (151, false)), []⟩, 
  ⟨(some (154)), .move (.tmp 22), (some (151, false)), [13, 14]⟩, 
  ⟨(some (155)), .indexAddr 1 (.tmp 153) (.tmp 154), (some (151, false)), []⟩, 
  ⟨(some (156)), .load none (.tmp 155), (some (151, false)), []⟩, 
  ⟨(some (157)), .fieldAddr 0 (.tmp 16), (some (151, false)), [13, 14, 15, 16, 17]⟩, 
  ⟨(some (158)), .load none (.tmp 157), (some (151, false)), [13, 14, 15, 16, 17]⟩, 
  ⟨(some (159)), .move (.tmp 22), (some (151, false)), [13, 14, 15, 16, 17, 18, 19]⟩, 
  ⟨(some (160)), .indexAddr 1 (.tmp 158) (.tmp 159), (some (151, false)), [13, 14, 15, 16, 17]⟩, 
  ⟨(some (161)), .load none (.tmp 160), (some (151, false)), [13, 14, 15, 16, 17]⟩, 
  ⟨(some (162)), .neg (.tmp 161), (some (151, false)), [13, 14, 15, 16, 17]⟩], 
  [
  ⟨(some (163)), .bin .plain .neq (.tmp 156) (.tmp 162), (some (151, false)), []⟩], 
  [
  ⟨(some (164)), .pick (.tmp 151) (.const (.bool true)) (.tmp 163), none, []⟩], 
  [
  ⟨(some (165)), .move (.tmp 164), none, []⟩], 
  [
  ⟨(some (166)), .fieldAddr 0 (.tmp 18), (some (165, false)), []⟩, 
  ⟨(some (167)), .load none (.tmp 166), (some (165, false)), []⟩, 
  ⟨(some (168)), .move (.tmp 22), (some (165, false)), [27, 28]⟩, 
  ⟨(some (169)), .indexAddr 1 (.tmp 167) (.tmp 168), (some (165, false)), []⟩, 
  ⟨(some (170)), .load none (.tmp 169), (some (165, false)), []⟩, 
  ⟨(some (171)), .move (.tmp 2), (some (165, false)), [27, 28, 29, 30, 31]⟩], 
  [
  ⟨(some (172)), .bin .plain .neq (.tmp 170) (.tmp 171), (some (165, false)), []⟩], 
  [
  ⟨(some (173)), .pick (.tmp 165) (.const (.bool true)) (.tmp 172), none, []⟩], 
  [
  ⟨(some (174)), .move (.tmp 173), none, []⟩], 
  [
  ⟨(some (175)), .fieldAddr 1 (.tmp 18), (some (174, false)), []⟩, 
  ⟨(some (176)), .load none (.tmp 175), (some (174, false)), []⟩, 
  ⟨(some (177)), .move (.tmp 22), (some (174, false)), [36, 37]⟩, 
  ⟨(some (178)), .indexAddr 1 (.tmp 176) (.tmp 177), (some (174, false)), []⟩, 
  ⟨(some (179)), .load none (.tmp 178), (some (174, false)), []⟩, 
  ⟨(some (180)), .move (.tmp 2), (some (174, false)), [36, 37, 38, 39, 40]⟩], 
  [
  ⟨(some (181)), .bin .plain .neq (.tmp 179) (.tmp 180), (some (174, false)), []⟩], 
  [
  ⟨(some (182)), .pick (.tmp 174) (.const (.bool true)) (.tmp 181), none, []⟩]]
theorem k_law01_FieldSigns_r26_sg : segs k_law01_FieldSigns_r26 = k_law01_FieldSigns_r26s := by kernel_rfl
theorem k_law01_FieldSigns_r26_st : statOK k_law01_FieldSigns_r26 = true := by kernel_rfl
def k_law01_FieldSigns_r27 : List AOper := [
  ⟨(some (6)), .move (.const (.bool false)), none, []⟩]
def k_law01_FieldSigns_r28 : List AOper := [
  ⟨(some (137)), .move (.tmp 22), none, []⟩, 
  ⟨(some (138)), .bin .plain .add (.tmp 137) (.const (.int .i64 1)), none, []⟩, 
  ⟨(some (22)), .move (.tmp 138), none, []⟩]
def k_law01_FieldSigns_r29 : ACode := (.seq (.seq (.reg k_law01_FieldSigns_r25 false) (.cond (.tmp 136) .skip (.exit 4))) (.seq (.block 5 (.seq (.reg k_law01_FieldSigns_r26 true) (.cond (.tmp 182) (.seq (.reg k_law01_FieldSigns_r27 false) .ret) .skip))) (.reg k_law01_FieldSigns_r28 false)))
def k_law01_FieldSigns_r30 : List AOper := [
  ⟨(some (183)), .call (.const (.fn (.func 20) [] [])) [], none, []⟩, 
  ⟨(some (6)), .move (.tmp 183), none, []⟩]
def k_law01_FieldSigns : AFun := { params := 3, ntmps := 184, body := (.seq (.reg k_law01_FieldSigns_r0 false) (.seq (.reg k_law01_FieldSigns_r1 false) (.seq (.reg k_law01_FieldSigns_r2 false) (.seq (.reg k_law01_FieldSigns_r3 false) (.seq (.reg k_law01_FieldSigns_r4 true) (.seq (.reg k_law01_FieldSigns_r5 false) (.seq (.seq (.reg k_law01_FieldSigns_r6 false) (.block 0 (.loop k_law01_FieldSigns_r10))) (.seq (.reg k_law01_FieldSigns_r11 false) (.seq (.reg k_law01_FieldSigns_r12 false) (.seq (.reg k_law01_FieldSigns_r13 false) (.seq (.reg k_law01_FieldSigns_r14 false) (.seq (.seq (.reg k_law01_FieldSigns_r15 false) (.cond (.tmp 103) (.seq (.reg k_law01_FieldSigns_r16 false) .ret) .skip)) (.seq (.reg k_law01_FieldSigns_r17 false) (.seq (.seq (.reg k_law01_FieldSigns_r18 false) (.block 2 (.loop k_law01_FieldSigns_r23))) (.seq (.seq (.reg k_law01_FieldSigns_r24 false) (.block 4 (.loop k_law01_FieldSigns_r29))) (.seq (.reg k_law01_FieldSigns_r30 false) .ret)))))))))))))))), res := [.tmp 6] }
theorem k_law01_FieldSigns_ok : cfun Try.prog Try.f18 = k_law01_FieldSigns := by kernel_rfl


abbrev n_law01_FieldSigns : Nat := 18
theorem e_law01_FieldSigns : EntryOK Try.prog n_law01_FieldSigns k_law01_FieldSigns := ⟨Try.f18, Try.func18, k_law01_FieldSigns_ok, by kernel_rfl⟩

attribute [go_sem] k_law01_FieldSigns_r0 k_law01_FieldSigns_r1 k_law01_FieldSigns_r2 k_law01_FieldSigns_r3 k_law01_FieldSigns_r4s k_law01_FieldSigns_r5 k_law01_FieldSigns_r6 k_law01_FieldSigns_r7 k_law01_FieldSigns_r8 k_law01_FieldSigns_r9 k_law01_FieldSigns_r11 k_law01_FieldSigns_r12
attribute [go_sem] k_law01_FieldSigns_r13 k_law01_FieldSigns_r14 k_law01_FieldSigns_r15 k_law01_FieldSigns_r16 k_law01_FieldSigns_r17 k_law01_FieldSigns_r18 k_law01_FieldSigns_r19 k_law01_FieldSigns_r20s k_law01_FieldSigns_r21 k_law01_FieldSigns_r22 k_law01_FieldSigns_r24 k_law01_FieldSigns_r25
attribute [go_sem] k_law01_FieldSigns_r26s k_law01_FieldSigns_r27 k_law01_FieldSigns_r28 k_law01_FieldSigns_r30 k_law01_FieldSigns_r20_sg k_law01_FieldSigns_r26_sg k_law01_FieldSigns_r4_sg k_law01_FieldSigns_r20_st k_law01_FieldSigns_r26_st k_law01_FieldSigns_r4_st k_law01_FieldSigns
end Go.Proofs
namespace Go.Proofs
open Go Go.Sx
attribute [local irreducible] Run

theorem lowB_neg (p : Pl) (v : List Int) (k : Nat) : lowB p (ngs v) k = ngs (highB p v k) := by rw [highB_eq, ngs_ngs]
theorem highB_neg (p : Pl) (v : List Int) (k : Nat) : highB p (ngs v) k = ngs (lowB p v k) := by rw [highB_eq, ngs_ngs]
theorem ngs_inj {a b : List Int} : ngs a = ngs b ↔ a = b := ⟨fun h => by have := congrArg ngs h; rwa [ngs_ngs, ngs_ngs] at this, fun h => by rw [h]⟩
theorem stl_neg (p : Pl) (v : List Int) (k : Nat) : stl p (ngs v) k = stl p v k := by
  unfold stl
  refine decide_eq_decide.2 ?_
  rw [lowB_neg, highB_neg, lowB_neg, highB_neg, ngs_inj, ngs_inj]
  constructor
  · rintro ⟨a, b, c⟩; exact ⟨a, c, b⟩
  · rintro ⟨a, b, c⟩; exact ⟨a, c, b⟩
theorem cnt_neg (p : Pl) (v : List Int) : ∀ n, cnt p (ngs v) n = cnt p v n
  | 0 => rfl
  | n + 1 => by rw [cnt, cnt, cnt_neg p v n, stl_neg]

theorem endLs_ge (v : List Int) (m : Int) : ∀ (cs : List Int) (a : Int), m ≤ a → (∀ c ∈ cs, c ≠ 0 → m ≤ vo v c) → m ≤ endLs v a cs
  | [], a, h, _ => h
  | c :: cs, a, h, h' => by
    rw [endLs]
    refine endLs_ge v m cs _ ?_ fun d hd => h' d (by simp [hd])
    split
    · exact h
    · have := h' c (by simp) (by assumption)
      split <;> omega
theorem vo_rep (x : Int) {n : Nat} {c : Int} (h : 1 ≤ c ∧ c ≤ n) : vo (List.replicate n x) c = x := by
  unfold vo gt
  rw [List.getD_eq_getElem?_getD, List.getElem?_replicate, if_pos (by omega)]; rfl
theorem level_ends {p : Pl} (hp : PlOK p) {x : Int} (hx : -1000000 ≤ x ∧ x ≤ 1000000) {n : Nat} (hn : (n : Int) = gmax p.cs) : endL p (List.replicate n x) = x ∧ endM p (List.replicate n x) = x := by
  have hvo : ∀ y : Int, ∀ c ∈ p.cs, c ≠ 0 → vo (List.replicate n y) c = y := fun y c hc h0 => vo_rep y ⟨by have := (hp.cell c hc).1; omega, by have := hp.max.2.2 c hc; omega⟩
  obtain ⟨j, hj, hE⟩ := hp.some
  have gen : ∀ y : Int, -1000000 ≤ y ∧ y ≤ 1000000 → endL p (List.replicate n y) = y := fun y hy => by
    have h1 := endL_le p (List.replicate n y) (hp.mem hj) hE
    rw [hvo y _ (hp.mem hj) hE] at h1
    have h2 := endLs_ge (List.replicate n y) y p.cs 1000000 hy.2 fun c hc h0 => by rw [hvo y c hc h0]; exact Int.le_refl _
    have h3 : y ≤ endL p (List.replicate n y) := h2
    omega
  refine ⟨gen x hx, ?_⟩
  have h := gen (-x) (by omega)
  have e : List.replicate n (-x) = ngs (List.replicate n x) := by simp [ngs]
  rw [e, endL_ngs] at h
  omega
theorem rep_vok {x : Int} (hx : -1000000 ≤ x ∧ x ≤ 1000000) (n : Nat) : VOK (List.replicate n x) := fun y hy => by
  rw [List.mem_replicate] at hy; omega

set_option maxHeartbeats 8000000 in
set_option maxRecDepth 10000 in
theorem signs_law (zs : List Int) (hl : zs.length ≤ 9223372036854775807) (a1 a2 : Int) : Ans Try.prog n_law01_FieldSigns [.view (zs.map (.int .i64)), .int .i64 a1, .int .i64 a2] [] (.bool true) [] := by
  have m1 := mod_in a1 41 (by omega)
  have e1 := mod_pos a1 41 (by omega)
  have m2 := mod_in a2 2000001 (by omega)
  have e2 := mod_pos a2 2000001 (by omega)
  generalize a1 % 41 = n1 at *
  generalize a2 % 2000001 = x1 at *
  obtain ⟨n, rfl⟩ : ∃ n : Nat, n1 = n := ⟨n1.toNat, by omega⟩
  obtain ⟨x, rfl⟩ : ∃ x : Int, x1 = x + 1000000 := ⟨x1 - 1000000, by omega⟩
  have wx : IntKind.i64.wrap (x + 1000000 - 1000000) = x := by rw [w64 (by omega)]; omega
  have hxb : -1000000 ≤ x ∧ x ≤ 1000000 := by omega
  refine spec_run e_law01_FieldSigns fun G => ?_
  simp only [go_sem]
  refine callN1 (newdice_ok zs hl) (by simp only [go_sem]) (dr_bel _ _) (by simp) (by simp) ?_
  generalize seedW zs = w
  simp only [go_sem]
  refine callDN (PlanOf_ok w 8 6 (by omega) (by omega)) rfl (by simp only [go_sem]) (dr_bel _ _) (fun q hq => ⟨pla_bel _ _ _ _ rfl, dr_bel _ _, iv_row _ _ _⟩) (by simp) (by simp) ?_
  rintro ⟨w1, p⟩ hp
  dsimp only at hp ⊢
  have hpo := hp.ok
  have hpl : p.cs.length ≤ 1000000 := by
    rw [hpo.len]; have := Nat.mul_le_mul hpo.w.2 hpo.h.2; omega
  have hmx := hpo.max
  simp only [go_sem, Pl.a, Pl.c4, ren, rens]
  refine callR1 (VoltsOf_ok w1 hpl (by omega) true) (j0 := 0) (j1 := 1) rfl (by simp [go_sem, Pl.a, Pl.c4]) rfl rfl (dr_bel _ _) (iv_row _ _ _) (by decide) (fun q hq => ⟨by simp [go_sem], dr_bel _ _, iv_row _ _ _⟩) (by simp) (by simp) ?_
  rintro ⟨w2, v⟩ hvv
  dsimp only at hvv ⊢
  have hv := hvv.2
  have hvl := hvv.len hp
  simp only [go_sem, ren, rens]
  have q1 : (0 : Int) ≤ v.length := by omega
  have q2 : (v.length : Int) ≤ 2 ^ 44 := by omega
  have q3 : (v.length : Int) * 8 ≤ 2 ^ 44 := by omega
  have hv8 : v.length ≤ 8 := by omega
  simp only [go_sem, iv_len, q1, q2, q3, Int.toNat_natCast]
  refine ⟨Int.le_refl _, Int.le_refl _, ?_⟩
  refine cP e2 ?_
  simp only [go_sem, wx]
  have hrw : List.replicate v.length (AVal.int IntKind.i64 0) = iv (fillTo (ngs v) 0) := by simp [fillTo, iv, ngs]
  have hrl : List.replicate v.length (AVal.int IntKind.i64 0) = iv (fillTo (List.replicate v.length x) 0) := by simp [fillTo, iv]
  have hng : (ngs v).length = v.length := ngs_len v
  refine loop_ind k_law01_FieldSigns_r10.eq_1 (fun i : Nat => i ≤ v.length) (fun i => v.length - i)
    (fun i => (tsets 184 [(1, .int .i64 a1), (2, .int .i64 x), (8, .ptr 2 0 0 1), (9, .sl 3 0 v.length), (10, .sl 4 0 v.length), (11, .sl 5 0 v.length), (12, .int .i64 i)],
      [some (Dr w2), some (.cells true 1 (iv p.cs)), some (.cells false 4 [p.a (.sl 1 0 p.cs.length)]), some (.cells false 1 (iv v)), some (.cells false 1 (iv (fillTo (ngs v) i))), some (.cells false 1 (iv (fillTo (List.replicate v.length x) i)))])) 0 (Nat.zero_le _) (by simp [go_sem]) (by rw [← hrw, ← hrl]; rfl) ?_
  intro i hi ih
  dsimp only at hi ih ⊢
  by_cases h1 : i < v.length
  · have h2 : (i : Int) < v.length := by omega
    have h3 := idx_next h1 (by omega)
    have n0 : ¬ (i : Int) < 0 := by omega
    have hx := iv_get h1
    have hb := hv _ (gt_mem h1)
    have f1 := fill_len (ngs v) (i := i) (by omega)
    have f2 := fill_len (List.replicate v.length x) (i := i) (by simp; omega)
    have s1 := fill_set (ngs v) (i := i) (by omega)
    have s2 := fill_set (List.replicate v.length x) (i := i) (by simp; omega)
    rw [gt_ngs] at s1
    have e3 : gt (List.replicate v.length x) i = x := by unfold gt; rw [List.getD_eq_getElem?_getD, List.getElem?_replicate, if_pos h1]; rfl
    rw [e3] at s2
    have g1 := iv_get (l := fillTo (ngs v) i) (i := i) (by omega)
    have g2 := iv_get (l := fillTo (List.replicate v.length x) i) (i := i) (by rw [f2]; simp; exact h1)
    rw [List.length_replicate] at f2
    have wn : IntKind.i64.wrap (0 - gt v i) = - gt v i := by rw [w64 (by omega)]; omega
    have ihn := ih (i + 1) (by omega) h1
    rw [← s1, ← s2] at ihn
    clear ih
    generalize fillTo (ngs v) i = wa at *
    generalize fillTo (List.replicate v.length x) i = la at *
    simp only [go_sem, iv_len, h2, n0, hx, wn, f1, f2, hng, g1, g2, iv_set, h3]
    exact ihn _ (by simp [go_sem])
  · have h2 : ¬ (i : Int) < v.length := by omega
    have hie : i = v.length := by omega
    have hf1 : fillTo (ngs v) i = ngs v := by have := fill_end (ngs v); rwa [hng, ← hie] at this
    have hf2 : fillTo (List.replicate v.length x) i = List.replicate v.length x := by
      have := fill_end (List.replicate v.length x)
      rw [List.length_replicate] at this
      rw [hie]; exact this
    rw [hf1, hf2]
    clear ih hrw hrl hf1 hf2
    have s1 := Solve_ok hpo hv hvl (n := n) (by omega)
    have s2 := Solve_ok hpo hv.neg (by rw [hng]; exact hvl) (n := n) (by omega)
    have s3 := Solve_ok hpo (rep_vok hxb v.length) (by rw [List.length_replicate]; exact hvl) (n := n) (by omega)
    obtain ⟨le1, le2⟩ := level_ends hpo hxb hvl
    have b1 := low_ok hpo (List.replicate v.length x) (cnt p (List.replicate v.length x) n)
    have b2 := high_ok hpo (List.replicate v.length x) (cnt p (List.replicate v.length x) n)
    have d1 : ∀ j, j < p.w * p.h → gt (lowB p (List.replicate v.length x) (cnt p (List.replicate v.length x) n)) j = x := fun j hj => by have := b1.bd j hj; rw [le1, le2] at this; omega
    have d2 : ∀ j, j < p.w * p.h → gt (highB p (List.replicate v.length x) (cnt p (List.replicate v.length x) n)) j = x := fun j hj => by have := b2.bd j hj; rw [le1, le2] at this; omega
    have L1 := b1.len; have L2 := b2.len
    have L3 := (low_ok hpo v (cnt p v n)).len; have L4 := (high_ok hpo v (cnt p v n)).len
    rw [cnt_neg, stl_neg, lowB_neg, highB_neg] at s2
    rw [← hpo.len] at L1 L2 L3 L4
    have L5 := ngs_len (lowB p v (cnt p v n)); have L6 := ngs_len (highB p v (cnt p v n))
    have N1 := gt_ngs (lowB p v (cnt p v n)); have N2 := gt_ngs (highB p v (cnt p v n))
    have B1 : ∀ j, j < p.w * p.h → -1000000 ≤ gt (lowB p v (cnt p v n)) j ∧ gt (lowB p v (cnt p v n)) j ≤ 1000000 := fun j hj => by
      have := (low_ok hpo v (cnt p v n)).bd j hj; have := endL_in hv p; have := endM_in hv p; omega
    have B2 : ∀ j, j < p.w * p.h → -1000000 ≤ gt (highB p v (cnt p v n)) j ∧ gt (highB p v (cnt p v n)) j ≤ 1000000 := fun j hj => by
      have := (high_ok hpo v (cnt p v n)).bd j hj; have := endL_in hv p; have := endM_in hv p; omega
    clear b1 b2 le1 le2
    simp only [go_sem, h2]
    refine cP e1 ?_
    simp only [go_sem, Pl.a, Pl.c4]
    refine cFN2 s1 6 ⟨.inl (pla_frz 3 (j := 1) (g := true) rfl rfl), .inl (iv_frz_sl (d := 4) (j := 3) (g := false) rfl rfl), .inl rfl, trivial⟩ ?_ (by simp [go_sem, fldV]) (by simp only [go_sem, fldV]) (iv_row _ _ _) (iv_nv _ _) (iv_row _ _ _) (iv_nv _ _)
    simp only [go_sem, ren, rens, fldV, Pl.a, Pl.c4]
    refine cFN2 s2 6 ⟨.inl (pla_frz 3 (j := 1) (g := true) rfl rfl), .inl (iv_frz_sl (d := 4) (j := 4) (g := false) rfl hng.symm), .inl rfl, trivial⟩ ?_ (by simp [go_sem, fldV]) (by simp only [go_sem, fldV]) (iv_row _ _ _) (iv_nv _ _) (iv_row _ _ _) (iv_nv _ _)
    simp only [go_sem, ren, rens, fldV, Pl.a, Pl.c4]
    refine cFN2 s3 6 ⟨.inl (pla_frz 3 (j := 1) (g := true) rfl rfl), .inl (iv_frz_sl (d := 4) (j := 5) (g := false) rfl (by simp)), .inl rfl, trivial⟩ ?_ (by simp [go_sem, fldV]) (by simp only [go_sem, fldV]) (iv_row _ _ _) (iv_nv _ _) (iv_row _ _ _) (iv_nv _ _)
    clear s1 s2 s3
    generalize lowB p v (cnt p v n) = la at *
    generalize highB p v (cnt p v n) = ha at *
    generalize lowB p (List.replicate v.length x) (cnt p (List.replicate v.length x) n) = lc at *
    generalize highB p (List.replicate v.length x) (cnt p (List.replicate v.length x) n) = hc at *
    generalize stl p v (cnt p v n) = t1 at *
    generalize cnt p v n = c1 at *
    generalize stl p (List.replicate v.length x) (cnt p (List.replicate v.length x) n) = t3 at *
    generalize cnt p (List.replicate v.length x) n = c3 at *
    have ht : (t1 != t1) = false := by simp
    have ht2 : (!(t1 == t1)) = false := by simp
    simp only [go_sem, ren, rens, fldV, bne_self_eq_false, ht, ht2]
    have u1 : IntKind.i64.wrap 1 = 1 := rfl
    have u2 : IntKind.i64.wrap 2 = 2 := rfl
    have u3 : IntKind.i64.wrap 3 = 3 := rfl
    have u4 : IntKind.i64.wrap 4 = 4 := rfl
    have u5 : IntKind.i64.wrap 5 = 5 := rfl
    have u6 : IntKind.i64.wrap 6 = 6 := rfl
    refine loop_body 3000 k_law01_FieldSigns_r23.eq_1 ?_
    simp only [go_sem, fldV, Pl.a, Pl.c4, iv_len, ngs_len, L1, L2, L3, L4, bne_self_eq_false, u1, u2, u3, u4, u5, u6]
    refine loop_body 3000 k_law01_FieldSigns_r23.eq_1 ?_
    simp only [go_sem, fldV, Pl.a, Pl.c4, iv_len, ngs_len, L1, L2, L3, L4, bne_self_eq_false, u1, u2, u3, u4, u5, u6]
    refine loop_body 3000 k_law01_FieldSigns_r23.eq_1 ?_
    simp only [go_sem, fldV, Pl.a, Pl.c4, iv_len, ngs_len, L1, L2, L3, L4, bne_self_eq_false, u1, u2, u3, u4, u5, u6]
    refine loop_body 3000 k_law01_FieldSigns_r23.eq_1 ?_
    simp only [go_sem, fldV, Pl.a, Pl.c4, iv_len, ngs_len, L1, L2, L3, L4, bne_self_eq_false, u1, u2, u3, u4, u5, u6]
    refine loop_body 3000 k_law01_FieldSigns_r23.eq_1 ?_
    simp only [go_sem, fldV, Pl.a, Pl.c4, iv_len, ngs_len, L1, L2, L3, L4, bne_self_eq_false, u1, u2, u3, u4, u5, u6]
    refine loop_body 3000 k_law01_FieldSigns_r23.eq_1 ?_
    simp only [go_sem, fldV, Pl.a, Pl.c4, iv_len, ngs_len, L1, L2, L3, L4, bne_self_eq_false, u1, u2, u3, u4, u5, u6]
    refine loop_body 3000 k_law01_FieldSigns_r23.eq_1 ?_
    simp only [go_sem, fldV, Pl.a, Pl.c4, iv_len, ngs_len, L1, L2, L3, L4, bne_self_eq_false, u1, u2, u3, u4, u5, u6]
    clear u1 u2 u3 u4 u5 u6
    refine loop_ind k_law01_FieldSigns_r29.eq_1 (fun a : Nat => a ≤ p.cs.length) (fun a => p.cs.length - a)
      (fun a => (tsets 184 [(2, .int .i64 x), (8, .ptr 2 0 0 1), (14, .ptr 8 0 0 1), (16, .ptr 11 0 0 1), (18, .ptr 14 0 0 1), (22, .int .i64 a)],
        [some (Dr w2), some (.cells true 1 (iv p.cs)), some (.cells false 4 [p.a (.sl 1 0 p.cs.length)]), some (.cells false 1 (iv v)), some (.cells false 1 (iv (ngs v))), some (.cells false 1 (iv (List.replicate v.length x))),
         some (.cells false 1 (iv la)), some (.cells false 1 (iv ha)), some (.cells false 4 [fldV p.cs.length c1 t1 6 7]),
         some (.cells false 1 (iv (ngs ha))), some (.cells false 1 (iv (ngs la))), some (.cells false 4 [fldV p.cs.length c1 t1 9 10]),
         some (.cells false 1 (iv lc)), some (.cells false 1 (iv hc)), some (.cells false 4 [fldV p.cs.length c3 t3 12 13]),
         some (.cells false 1 [.sl 6 0 p.cs.length, .sl 7 0 p.cs.length, .sl 9 0 p.cs.length, .sl 10 0 p.cs.length, .sl 12 0 p.cs.length, .sl 13 0 p.cs.length])])) 0 (Nat.zero_le _) (by simp [go_sem]) rfl ?_
    clear i hi h1 h2 hie
    intro j hj ih
    dsimp only at hj ih ⊢
    by_cases h4 : j < p.cs.length
    · have h5 : (j : Int) < p.cs.length := by omega
      have h6 := idx_next h4 (by omega)
      have n0 : ¬ (j : Int) < 0 := by omega
      have hjN : j < p.w * p.h := by rw [← hpo.len]; exact h4
      have ga := iv_get (l := la) (i := j) (by omega)
      have gb := iv_get (l := ha) (i := j) (by omega)
      have gc := iv_get (l := ngs ha) (i := j) (by omega)
      have gd := iv_get (l := ngs la) (i := j) (by omega)
      have ge := iv_get (l := lc) (i := j) (by omega)
      have gf := iv_get (l := hc) (i := j) (by omega)
      have q1 := B1 j hjN
      have q2 := B2 j hjN
      rw [d1 j hjN] at ge
      rw [d2 j hjN] at gf
      rw [N2] at gc
      rw [N1] at gd
      generalize gt la j = ya at *
      generalize gt ha j = yb at *
      have r1 : IntKind.i64.wrap (0 - - ya) = ya := by rw [w64 (by omega)]; omega
      have r2 : IntKind.i64.wrap (0 - - yb) = yb := by rw [w64 (by omega)]; omega
      simp only [go_sem, fldV, Pl.a, Pl.c4, iv_len, h5, n0, ga, gb, gc, gd, ge, gf, r1, r2, L1, L2, L3, L4, L5, L6, h6]
      exact ih (j + 1) (by omega) h4 _ (by simp [go_sem])
    · have h5 : ¬ (j : Int) < p.cs.length := by omega
      simp only [go_sem, fldV, Pl.a, Pl.c4, iv_len, h5]
      refine cP awake_ok ?_
      simp only [go_sem]
end Go.Proofs
