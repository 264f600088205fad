/- A part of the proof. -/
import Derived.Test.YtmpocglkfgfpbaaPC
set_option linter.unusedSimpArgs false
set_option linter.unusedVariables false
namespace Go.Proofs
open Go Go.Sx
attribute [local irreducible] Run

section
variable {P : Program} {G : Ctx} {k : Nat} {rd : Option Nat} {R : Runner} {l : List AOper} {fs : List Sx.Frame} {ρ : List AVal} {H : Heap} {ms : List Nat} {Q : Sx.Goal} {dst : Option Nat} {x y : Row} {g : FuncId} {args : List AVal} {r : AVal}
theorem cN2 (h : Ans P g args [] r [some x, some y]) (hK : R (.ops l) fs ⟨setD ρ dst (ren (fun i => H.length + i) r), H ++ [some x, some y], ms⟩ Q)
    (hb : Bels (fun _ => False) args := by simp only [go_sem]) (hr : Bel (· < 2) r := by simp [go_sem]) (hx : x.bel (fun _ => False) := by first | (simp only [go_sem]; done) | (rw [row_bel_cells]; simp only [go_sem])) (hy : y.bel (fun _ => False) := by first | (simp only [go_sem]; done) | (rw [row_bel_cells]; simp only [go_sem])) (hk : k ≤ H.length := by simp) (hms : ∀ q ∈ ms, H[q]? = some (some .dfr) := by simp) : CallR P G k R g args dst l fs ρ H ms Q := by
  have e : outΔ (outσ [] H.length) 0 [some x, some y] = [(H.length, x), (H.length + 1, y)] := by
    simp only [outΔ, Row.ren_same hx, Row.ren_same hy]
    rfl
  have eσ : outσ [] H.length = fun i => H.length + i := by funext i; simp [outσ]
  refine callS h [] (by simp) trivial (by
    conv => lhs; rw [← List.map_id args]
    exact List.map_congr_left fun v hv => (ren_same (bels_mem hb v hv)).symm) (bels_of fun v hv => (bels_mem hb v hv).mono fun _ h => h.elim) trivial (by simp) (by simpa using hr)
    ⟨bel_mono_row hx fun _ h => h.elim, bel_mono_row hy fun _ h => h.elim, trivial⟩ (fun q hq => by simp at hq) hk (fun q hq => ?_) ?_
  · refine ⟨?_, hms q hq⟩
    rw [e]
    have := (List.getElem?_eq_some_iff.1 (hms q hq)).1
    simp; omega
  · rw [e, eσ]
    have e3 : Heap.put (H ++ [some x]) (H.length + 1) y = H ++ [some x, some y] := by
      have := Heap.put_end (H ++ [some x]) y
      simpa using this
    simp only [Heap.puts, Heap.put_end, e3]
    exact hK
end

theorem wcheck_yes {brk : Int} {zs : List Zn} (h : StOK brk zs) {th : Int} (hth : 1 ≤ th ∧ th ≤ 1000) : Ans Try.prog n_glass_wall_check [wlV brk zs th] [] (.int .i64 0) [] := by
  have kc := Check_run h.brk h.zs
  simp only [stV] at kc
  refine spec_run e_glass_wall_check fun G => ?_
  simp only [go_sem, wlV]
  refine cP kc ?_
  simp only [go_sem]
  refine cP (gwithin_yes hth) ?_
  simp only [go_sem]
set_option maxRecDepth 10000 in
theorem CheckOven_yes {f : Int} {ls : List Lg} (h : OvOK f ls) : Ans Try.prog n_glass_CheckOven [ovV f ls] [] (.int .i64 0) [] := by
  have hn := h.len
  refine spec_run e_glass_CheckOven fun G => ?_
  simp only [go_sem, ovV]
  refine cP (isHeat_yes h.f) ?_
  have n2 : ¬ (ls.length : Int) > 20 := by omega
  simp only [go_sem, n2, List.length_map]
  refine loop_ind k_glass_CheckOven_r11.eq_1 (fun s : Nat × Heap => s.1 ≤ ls.length) (fun s => ls.length - s.1)
    (fun s => (tsets 31 [(1, .ptr 0 0 0 1), (2, .int .i64 0), (14, .view (ls.map Lg.v)), (15, .int .i64 ls.length), (16, .int .i64 s.1)], some (.cells false 2 [.agg [.int .i64 f, .view (ls.map Lg.v)]]) :: s.2)) (0, []) (Nat.zero_le _) (by simp [go_sem]) rfl ?_
  rintro ⟨i, X⟩ hi ih
  dsimp only at hi ih ⊢
  by_cases h1 : i < ls.length
  · have h2 : (i : Int) < ls.length := by omega
    have n0 : ¬ (i : Int) < 0 := by omega
    have h3 : IntKind.i64.wrap ((i : Int) + 1) = ((i + 1 : Nat) : Int) := by rw [w64 (by omega)]; rfl
    obtain ⟨z, hzi⟩ : ∃ z, ls[i]? = some z := ⟨_, List.getElem?_eq_getElem h1⟩
    have hzo := h.all z (List.mem_of_getElem? hzi)
    have ihn := fun Y => ih (i + 1, Y) (by dsimp only; omega) h1
    clear ih
    simp only [go_sem, h2, n0, hzi, Lg.v]
    refine cP (gwithin_yes hzo.tk) ?_
    simp only [go_sem]
    refine cP (isHeat_yes hzo.ht) ?_
    simp only [go_sem, h3]
    exact ihn _ _ (by simp [go_sem])
  · have h2 : ¬ (i : Int) < ls.length := by omega
    simp only [go_sem, h2]
theorem checkHeated_yes {brk : Int} {zs : List Zn} (h : StOK brk zs) {th : Int} (hth : 1 ≤ th ∧ th ≤ 1000) {f : Int} {ls : List Lg} (ho : OvOK f ls) : Ans Try.prog n_glass_checkHeated [wlV brk zs th, ovV f ls] [] (.int .i64 0) [] := by
  have k1 := wcheck_yes h hth
  have k2 := CheckOven_yes ho
  simp only [wlV, ovV] at k1 k2
  refine spec_run e_glass_checkHeated fun G => ?_
  simp only [go_sem, wlV, ovV]
  refine cP k1 ?_
  simp only [go_sem]
  refine cP k2 ?_
  simp only [go_sem]
theorem wstrains_run (brk : Int) (zs : List Zn) (th f : Int) (ls : List Lg) : Ans Try.prog n_glass_wall_strains [wlV brk zs th, ovV f ls] [] (.fn (.func n_glass_wall_strains_1) [] [.ptr 1 0 0 1, .ptr 0 0 0 1]) [some (.cells false 3 [wlV brk zs th]), some (.cells false 2 [ovV f ls])] := by
  refine spec_run e_glass_wall_strains fun G => ?_
  simp only [go_sem, ovV, wlV]
  exact ⟨_, rfl⟩

def aftS (zs : List Zn) (th : Int) (ts : List Tk) (n : Nat) : Nat → List (Int × Int)
  | 0 => List.replicate n (0, 0)
  | i + 1 => match ts[i]? with
    | some t => (aftS zs th ts n i).set t.n.toNat (stAt zs th ts (i + 1))
    | none => aftS zs th ts n i
theorem aftS_len {zs : List Zn} {th : Int} {ts : List Tk} {n : Nat} : ∀ i, (aftS zs th ts n i).length = n
  | 0 => by simp [aftS]
  | i + 1 => by
    rw [aftS]; split
    · rw [List.length_set]; exact aftS_len i
    · exact aftS_len i
theorem aftS_succ {zs : List Zn} {th : Int} {ts : List Tk} {n i : Nat} {t : Tk} (h : ts[i]? = some t) : aftS zs th ts n (i + 1) = (aftS zs th ts n i).set t.n.toNat (stAt zs th ts (i + 1)) := by
  rw [aftS, h]
theorem allT_n : ∀ {ls : List Lg} {n b : Int}, ∀ t ∈ allT n b ls, n ≤ t.n ∧ t.n < n + ls.length
  | [], _, _, t, ht => by simp [allT] at ht
  | l :: r, n, b, t, ht => by
    rw [allT] at ht
    rw [List.length_cons]; push_cast
    rcases List.mem_append.1 ht with h1 | h1
    · unfold legT at h1
      obtain ⟨i, _, rfl⟩ := List.mem_map.1 h1
      dsimp only; omega
    · have := allT_n t h1
      omega
def rv (p : Int × Int) : AVal := r2 p.1 p.2
theorem rv_set (l : List (Int × Int)) (i : Nat) (p : Int × Int) : (l.set i p).map rv = (l.map rv).set i (rv p) := List.map_set
def snT : List (Nat × AVal) := [(0, .any), (6, .nilsl), (7, .int .i64 0), (10, .ptr 4 0 0 1), (28, .fn (.func n_glass_wall_strains_1) [] [.ptr 6 0 0 1, .ptr 5 0 0 1])]
def snL (st : LoopState) (pe : Option ACode) : Row := .loop (tsets 36 snT) [29, 30] k_glass_Strain_r10 k_glass_Strain_r11 7 st pe
def snH (brk : Int) (zs : List Zn) (th f : Int) (ls : List Lg) (a : List (Int × Int)) (x : Row) (X : Heap) : Heap :=
  [some (.cells false 2 [stV brk zs]), some (.cells false 2 [ovV f ls]), some (.cells false 3 [wlV brk zs th]), some (.cells false 2 (a.map rv)), some (.cells false 1 [.sl 3 0 ls.length]), some (.cells false 3 [wlV brk zs th]), some (.cells false 2 [ovV f ls]), some .dfr, some x] ++ X

set_option maxHeartbeats 4000000 in
set_option maxRecDepth 10000 in
theorem Strain_run {brk : Int} {zs : List Zn} (h : StOK brk zs) {th : Int} (hth : 1 ≤ th ∧ th ≤ 1000) {f : Int} {ls : List Lg} (ho : OvOK f ls) (hne : ls ≠ []) :
    Ans Try.prog n_glass_Strain [stV brk zs, .int .i64 th, ovV f ls] [] (.tup [.sl 0 0 ls.length, .int .i64 0]) [some (.cells false 2 ((aftS zs th (allT 0 f ls) ls.length (allT 0 f ls).length).map rv))] := by
  have k1 := checkHeated_yes h hth ho
  have k2 := wstrains_run brk zs th f ls
  have hlen := ho.len
  simp only [wlV, ovV] at k1 k2
  have rvb : ∀ (l : List (Int × Int)) (S : Nat → Prop), Bels S (l.map rv) = True := fun l S => eq_true (bels_map _ _ fun z => by simp only [go_sem, rv, r2])
  refine Ans.keep (run_fn e_glass_Strain fun G => ?_) (by simp) (by simp [go_sem]) ⟨by rw [row_bel_cells]; simp only [rvb], trivial⟩
  simp only [go_sem, stV, ovV]
  refine cP k1 ?_
  have hl0 : ¬ (ls.length : Int) < 0 := by omega
  have hmk : (0 : Int) ≤ ls.length ∧ (ls.length : Int) ≤ ls.length ∧ (ls.length : Int) ≤ 2 ^ 44 ∧ (ls.length : Int) * 16 ≤ 2 ^ 44 := by omega
  simp only [go_sem, hl0]
  refine ⟨hmk, ?_⟩
  refine cN2 k2 ?_
  simp only [go_sem, ren, rens]
  have e0 : List.replicate ls.length (AVal.agg [AVal.int IntKind.i64 0, AVal.int IntKind.i64 0]) = (aftS zs th (allT 0 f ls) ls.length 0).map rv := by
    simp [aftS, rv, r2]
  rw [e0]
  refine rangeF 2000 (ρ := tsets 36 snT) (by simp [go_sem, snT]) (by simp only [go_sem, snT]; rfl)
    (strains_iter (r := 8) (jo := 6) (jw := 5) (N := 9) (brk := brk) h.zs hth ho
      (Pre := fun i H => ∃ X, H = snH brk zs th f ls (aftS zs th (allT 0 f ls) ls.length i) (snL .ready none) X)
      (Stop := fun _ => False) ⟨?_, ?_, ?_, ?_, ?_⟩ ⟨[], rfl⟩) (by simp) ?_
  · rintro i H ⟨X, rfl⟩
    exact ⟨by simp [snH], rfl, rfl⟩
  · rintro i H x ⟨X, rfl⟩
    exact ⟨X ++ [x], by simp [snH]⟩
  · rintro i H q x hq ⟨X, rfl⟩
    refine ⟨X.set (q - 9) x, ?_⟩
    unfold snH
    rw [List.set_append_right _ _ (by simp; omega)]; rfl
  · intro H q x _ h; exact h
  · rintro i t H hi ⟨X, rfl⟩
    have hn := allT_n t (List.mem_of_getElem? hi)
    rw [aftS_succ hi]
    have hal := aftS_len (zs := zs) (th := th) (ts := allT 0 f ls) (n := ls.length) i
    generalize aftS zs th (allT 0 f ls) ls.length i = A at *
    generalize stAt zs th (allT 0 f ls) (i + 1) = p at *
    refine RoundW.mono (R := fun w H' => w = .bool true ∧ ∃ Y, H' = snH brk zs th f ls (A.set t.n.toNat p) (snL .ready none) (X ++ Y)) ?_ ?_
    rotate_left
    · rintro w H' ⟨rfl, Y, rfl⟩
      exact ⟨tail_keep rfl rfl, .inl ⟨rfl, _, rfl⟩⟩
    generalize hR : (fun (w : AVal) (H' : Heap) => w = .bool true ∧ ∃ Y, H' = snH brk zs th f ls (A.set t.n.toNat p) (snL .ready none) (X ++ Y)) = R
    have hfin : ∀ Y, R (.bool true) (snH brk zs th f ls (A.set t.n.toNat p) (snL .ready none) (X ++ Y)) := fun Y => by rw [← hR]; exact ⟨rfl, Y, rfl⟩
    clear hR
    have hi0 : ¬ t.n < 0 := by omega
    have hi1 : t.n < (ls.length : Int) := by omega
    have hi2 : t.n.toNat < ls.length := by omega
    refine roundW_run 500 k_glass_Strain_r10.eq_1 rfl rfl (ρ' := tsets 36 (snT ++ [(29, .int .i64 t.n), (30, r2 p.1 p.2)])) rfl ?_
    simp only [go_sem, snT, snH, r2]
    refine roundMid_run 500 k_glass_Strain_r11.eq_1 rfl rfl ?_
    obtain ⟨a, ha⟩ : ∃ a, A[t.n.toNat]? = some a := ⟨_, List.getElem?_eq_getElem (by omega)⟩
    have hs : (A.map rv).set t.n.toNat (AVal.agg [AVal.int IntKind.i64 p.1, AVal.int IntKind.i64 p.2]) = (A.set t.n.toNat p).map rv := (rv_set A _ p).symm
    have ea : rv a = AVal.agg [AVal.int IntKind.i64 a.1, AVal.int IntKind.i64 a.2] := rfl
    simp only [go_sem, hi0, hi1, ha, ea, hs]
    refine roundEnd_on rfl ?_
    simp only [go_sem]
    simp only [snH, snL] at hfin
    exact hfin [_]
  · rintro v H' ⟨rfl, ⟨X, rfl⟩ | h⟩
    · refine ⟨fun q hq => by simp at hq; subst hq; rfl, _, _, _, _, _, _, _, rfl, by decide, ?_⟩
      simp only [go_sem, snH, snT]
      refine ⟨by simp, kept_one 3 ?_ ?_ rfl⟩
      · simp [ren, rens]
      · rw [row_bel_cells]; simp only [rvb]
    · exact h.elim
end Go.Proofs

namespace Go.Proofs
open Go Go.Sx
attribute [local irreducible] Run

theorem span_run (a b : Int) : Ans Try.prog n_law05_span [.int .i64 a, .int .i64 b] [] (r2 a b) [] := by
  refine spec_run e_law05_span fun G => ?_
  simp only [go_sem, r2]
def wallZ : List Zn := [⟨0, 9000, 10000, 0, 0⟩, ⟨700, 20000, 20000, 500000, 500000⟩]
def leadZ : List Zn := [⟨0, 9500, 9500, 0, 0⟩]
def joinsV : AVal := .view [.agg [.int .i64 900, .int .i64 950, .nilsl], .agg [.int .i64 1000, .int .i64 1100, .nilsl], .agg [.int .i64 950, .int .i64 950, .view [.int .i64 0]]]
theorem wall_run : Ans Try.prog n_law05_wall [] [] (.agg [.int .i64 500000, .sl 0 0 2]) [some (.cells false 5 (wallZ.map Zn.v))] := by
  refine Ans.keep (run_fn e_law05_wall fun G => ?_) (by simp) (by simp [go_sem]) ⟨by rw [row_bel_cells]; simp only [go_sem], trivial⟩
  have s1 := span_run 9000 10000
  have s2 := span_run 20000 20000
  have s3 := span_run 500000 500000
  simp only [r2] at s1 s2 s3
  simp only [go_sem]
  refine cP s1 ?_
  simp only [go_sem]
  refine cP s2 ?_
  simp only [go_sem]
  refine cP s3 ?_
  simp only [go_sem]
  refine kept_one 1 ?_ ?_ rfl
  · simp [ren, rens]
  · rw [row_bel_cells]; simp only [go_sem]
theorem lead_run : Ans Try.prog n_law05_lead [] [] (.agg [.int .i64 2000000, .sl 0 0 1]) [some (.cells false 5 (leadZ.map Zn.v))] := by
  refine Ans.keep (run_fn e_law05_lead fun G => ?_) (by simp) (by simp [go_sem]) ⟨by rw [row_bel_cells]; simp only [go_sem], trivial⟩
  have s1 := span_run 9500 9500
  simp only [r2] at s1
  simp only [go_sem]
  refine cP s1 ?_
  simp only [go_sem]
  refine kept_one 1 ?_ ?_ rfl
  · simp [ren, rens]
  · rw [row_bel_cells]; simp only [go_sem]
theorem wall_ok : StOK 500000 wallZ := ⟨by omega, by simp [wallZ], by
  intro z hz
  simp [wallZ] at hz
  rcases hz with rfl | rfl <;> exact ⟨by simp, by simp, by simp⟩, by intro z hz; simp [wallZ] at hz; subst hz; rfl, by
  intro i y z h1 h2
  rcases i with _ | _ | i
  · simp [wallZ] at h1 h2; subst h1; subst h2; decide
  · simp [wallZ] at h2
  · simp [wallZ] at h2⟩
theorem lead_ok : StOK 2000000 leadZ := ⟨by omega, by simp [leadZ], by
  intro z hz
  simp [leadZ] at hz
  subst hz; exact ⟨by simp, by simp, by simp⟩, by intro z hz; simp [leadZ] at hz; subst hz; rfl, by
  intro i y z h1 h2
  rcases i with _ | i
  · simp [leadZ] at h2
  · simp [leadZ] at h2⟩
theorem seal_val : sealR 500000 2000000 wallZ leadZ 800 300 = (2, 752) := by kernel_rfl
def ovL : List Lg := [⟨10, 700⟩, ⟨100, 300⟩]
theorem ov_ok : OvOK 800 ovL := ⟨by omega, by simp [ovL], by
  intro z hz
  simp [ovL] at hz
  rcases hz with rfl | rfl <;> exact ⟨by simp, by simp⟩⟩
theorem strain_val : aftS wallZ 100 (allT 0 800 ovL) 2 (allT 0 800 ovL).length = [(399609, 399610), (3999609, 4399610)] := by kernel_rfl
end Go.Proofs

namespace Go.Proofs
open Go Go.Sx
def fchk : Option (AVal × Heap) → Bool
  | some (.tup [.sl 6 0 3, .int .i64 0], [_, _, _, _, _, _, some (.cells true 1 [.int .i64 1, .int .i64 0, .int .i64 2])]) => true
  | _ => false
theorem fchk_eq {o : Option (AVal × Heap)} (h : fchk o = true) : ∃ H', o = some (.tup [.sl 6 0 3, .int .i64 0], H') ∧ H'[6]? = some (some (.cells true 1 [.int .i64 1, .int .i64 0, .int .i64 2])) := by
  unfold fchk at h
  split at h
  · exact ⟨_, rfl, rfl⟩
  · cases h
theorem first_ex : fchk (exFn tab 3000 40 n_glass_First [joinsV] []) = true := by kernel_rfl
theorem First_run : Ans Try.prog n_glass_First [joinsV] [] (.tup [.sl 0 0 3, .int .i64 0]) [some (.cells true 1 [.int .i64 1, .int .i64 0, .int .i64 2])] := by
  obtain ⟨H', h1, h2⟩ := fchk_eq first_ex
  refine Ans.keep ((spec_ex mixed tab_ok h1).mono fun v H'' hv => ?_) (by simp) (by simp [go_sem]) ⟨by rw [row_bel_cells]; simp only [go_sem], trivial⟩
  obtain ⟨hv1, X, hv2⟩ := hv
  refine kept_one 6 ?_ ?_ ?_
  · rw [hv1]; simp [ren, rens]
  · rw [row_bel_cells]; simp only [go_sem]
  · rw [hv2, List.getElem?_append_left (List.getElem?_eq_some_iff.1 h2).1]; exact h2
end Go.Proofs

namespace Go.Proofs
open Go Go.Sx
attribute [local irreducible] Run

section
variable {P : Program} {G : Ctx} {k : Nat} {rd : Option Nat} {R : Runner} {l : List AOper} {fs : List Sx.Frame} {ρ : List AVal} {H : Heap} {ms : List Nat} {Q : Sx.Goal} {dst : Option Nat} {x y : Row} {g : FuncId} {args : List AVal} {r : AVal}
theorem cN2r (h : Ans P g args [] r [some x, some y]) (hK : R (.ops l) fs ⟨setD ρ dst (ren (fun i => H.length + i) r), H ++ [some x, some (y.ren fun i => H.length + i)], ms⟩ Q)
    (hb : Bels (fun _ => False) args := by simp only [go_sem]) (hr : Bel (· < 2) r := by simp [go_sem]) (hx : x.bel (fun _ => False) := by first | (simp only [go_sem]; done) | (rw [row_bel_cells]; simp only [go_sem])) (hy : y.bel (· < 2)) (hk : k ≤ H.length := by simp) (hms : ∀ q ∈ ms, H[q]? = some (some .dfr) := by simp) : CallR P G k R g args dst l fs ρ H ms Q := by
  have eσ : outσ [] H.length = fun i => H.length + i := by funext i; simp [outσ]
  have e : outΔ (outσ [] H.length) 0 [some x, some y] = [(H.length, x), (H.length + 1, y.ren fun i => H.length + i)] := by
    simp only [outΔ, Row.ren_same hx, eσ]
    rfl
  refine callS h [] (by simp) trivial (by
    conv => lhs; rw [← List.map_id args]
    exact List.map_congr_left fun v hv => (ren_same (bels_mem hb v hv)).symm) (bels_of fun v hv => (bels_mem hb v hv).mono fun _ h => h.elim) trivial (by simp) (by simpa using hr)
    ⟨bel_mono_row hx fun _ h => h.elim, bel_mono_row hy fun _ h => by simpa using h, trivial⟩ (fun q hq => by simp at hq) hk (fun q hq => ?_) ?_
  · refine ⟨?_, hms q hq⟩
    rw [e]
    have := (List.getElem?_eq_some_iff.1 (hms q hq)).1
    simp; omega
  · rw [e, eσ]
    have e3 : Heap.put (H ++ [some x]) (H.length + 1) (y.ren fun i => H.length + i) = H ++ [some x, some (y.ren fun i => H.length + i)] := by
      have := Heap.put_end (H ++ [some x]) (y.ren fun i => H.length + i)
      simpa using this
    simp only [Heap.puts, Heap.put_end, e3]
    exact hK
end

theorem joins_run (h : Int) : Ans Try.prog n_law05_joins [.int .i64 h] [] (.sl 1 0 3) [some (.cells false 1 [.int .i64 0]), some (.cells false 3 [.agg [.int .i64 900, .int .i64 h, .nilsl], .agg [.int .i64 1000, .int .i64 1100, .nilsl], .agg [.int .i64 950, .int .i64 950, .sl 0 0 1]])] := by
  refine spec_run e_law05_joins fun G => ?_
  simp only [go_sem]
  exact ⟨_, rfl⟩
theorem kSame_run {l : List Int} (hl : l.length ≤ 1000000) : Ans Try.prog n_kit_Same [.view (l.map fun x => .int .i64 x), .view (l.map fun x => .int .i64 x)] [] (.bool true) [] := by
  refine spec_run e_kit_Same fun G => ?_
  simp only [go_sem]
  refine loop_ind k_kit_Same_r8.eq_1 (fun i : Nat => i ≤ l.length) (fun i => l.length - i)
    (fun i => (tsets 26 [(0, .view (l.map fun x => .int .i64 x)), (1, .view (l.map fun x => .int .i64 x)), (4, .bool false), (5, .int .i64 i)], [])) 0 (Nat.zero_le _) (by simp [go_sem]) rfl ?_
  intro i hi ih
  dsimp only at hi ih ⊢
  by_cases h1 : i < l.length
  · have h2 : (i : Int) < l.length := by omega
    have n0 : ¬ (i : Int) < 0 := by omega
    have h3 : IntKind.i64.wrap ((i : Int) + 1) = ((i + 1 : Nat) : Int) := by rw [w64 (by omega)]; rfl
    obtain ⟨z, hzi⟩ : ∃ z, l[i]? = some z := ⟨_, List.getElem?_eq_getElem h1⟩
    simp only [go_sem, h2, n0, hzi, h3]
    exact ih (i + 1) (by omega) h1 _ (by simp [go_sem])
  · have h2 : ¬ (i : Int) < l.length := by omega
    simp only [go_sem, h2]
set_option maxHeartbeats 4000000 in
set_option maxRecDepth 10000 in
theorem awake_ok : Ans Try.prog n_law05_awake [] [] (.bool true) [] := by
  have k1 := Seal_run wall_ok lead_ok (sE := 800) (fr := 300) (by omega) (by omega)
  rw [seal_val] at k1
  have k2 := Strain_run wall_ok (th := 100) (by omega) ov_ok (by simp [ovL])
  rw [show ovL.length = 2 from rfl, strain_val] at k2
  simp only [rv, r2, List.map_cons, List.map_nil] at k2
  refine spec_run e_law05_awake fun G => ?_
  simp only [go_sem]
  refine cN1 wall_run ?_
  simp only [go_sem, ren, rens]
  refine cN1 lead_run ?_
  simp only [go_sem, ren, rens]
  refine cF k1 6 ⟨.inl rfl, .inl rfl, .inl rfl, .inl rfl, trivial⟩ ?_
  simp only [go_sem]
  refine cN1 wall_run ?_
  simp only [go_sem, ren, rens]
  refine cFN k2 6 ⟨.inl rfl, .inl rfl, .inl rfl, trivial⟩ ?_ (hx := ?_) (hxn := ?_)
  rotate_left
  · rw [row_bel_cells]; simp only [go_sem]
  · exact row_nv_cells _ _ (by simp only [go_sem])
  simp only [go_sem, ren, rens]
  refine cN2r (joins_run 950) ?_ (hy := ?_)
  rotate_left
  · rw [row_bel_cells]; simp [go_sem]
  simp only [go_sem, ren, rens, Row.ren]
  refine cFN First_run 6 ⟨.inl rfl, trivial⟩ ?_ (hx := ?_) (hxn := ?_)
  rotate_left
  · rw [row_bel_cells]; simp only [go_sem]
  · exact row_nv_cells _ _ (by simp only [go_sem])
  simp only [go_sem, ren, rens]
  have s1 := span_run 399609 399610
  have s2 := span_run 3999609 4399610
  have s3 := kSame_run (l := [1, 0, 2]) (by simp)
  simp only [r2] at s1 s2
  refine dP s1 ?_
  simp only [go_sem]
  refine dP s2 ?_
  simp only [go_sem]
  refine cF s3 6 ⟨.inl rfl, .inl rfl, trivial⟩ ?_
  simp only [go_sem]
end Go.Proofs

namespace Go.Proofs
open Go Go.Sx
attribute [local irreducible] Run

end Go.Proofs

namespace Go.Proofs
open Go Go.Sx

end Go.Proofs

namespace Go.Proofs
open Go Go.Sx
attribute [local irreducible] Run

theorem mod_in (a b : Int) (hb : 1 ≤ b) : 0 ≤ a % b ∧ a % b < b := ⟨Int.emod_nonneg _ (by omega), Int.emod_lt_of_pos _ (by omega)⟩
theorem st_frz {H : Heap} {b : Int} {zs : List Zn} {j n : Nat} {g : Bool} (h : H[j]? = some (some (.cells g 5 (zs.map Zn.v)))) (hn : n = zs.length) : frz 6 H (.agg [.int .i64 b, .sl j 0 n]) = stV b zs := by
  have h1 : frz 5 H (.sl j 0 n) = .view (zs.map Zn.v) := by
    rw [frz_sl (d := 4) h (by simpa using hn), List.map_map]; rfl
  show AVal.agg [_, frz 5 H (.sl j 0 n)] = _
  rw [h1]; rfl

end Go.Proofs

namespace Go.Proofs
open Go Go.Sx

def k_kit_Dice_In_r0 : List AOper := [
  ⟨some 3, .box (.tmp 1), none, []⟩,
 ⟨some 4, .move (.const (.int .i64 0)), none, []⟩]
def k_kit_Dice_In_r1 : List AOper := [
  ⟨some 5, .move (.tmp 0), none, []⟩,
 ⟨some 6, .fieldAddr 0 (.tmp 3), none, []⟩,
 ⟨some 7, .load none (.tmp 6), none, []⟩,
 ⟨some 8, .fieldAddr 0 (.tmp 3), none, []⟩,
 ⟨some 9, .load none (.tmp 8), none, []⟩,
 ⟨some 10, .fieldAddr 1 (.tmp 3), none, []⟩,
 ⟨some 11, .load none (.tmp 10), none, []⟩,
 ⟨some 12, .minmax true [.tmp 9, .tmp 11], none, []⟩,
 ⟨some 13, .call (.const (.fn (.func 44) [] [])) [.tmp 5, .tmp 7, .tmp 12], none, []⟩,
 ⟨some 4, .move (.tmp 13), none, []⟩]
def k_kit_Dice_In : AFun := { params := 2, ntmps := 14, body := (.seq (.reg k_kit_Dice_In_r0 false) (.seq (.reg k_kit_Dice_In_r1 false) .ret)), res := [.tmp 4] }
theorem k_kit_Dice_In_ok : cfun Try.prog Try.f75 = k_kit_Dice_In := by kernel_rfl

def k_ref05_ZoneOf_r0 : List AOper := [
  ⟨some 2, .box (.tmp 0), none, []⟩,
 ⟨some 4, .box (.const (.agg [.int .i64 0, .int .i64 0, .int .i64 0, .int .i64 0, .int .i64 0])), none, []⟩]
def k_ref05_ZoneOf_r1 : List AOper := [
  ⟨some 7, .fieldAddr 1 (.tmp 2), none, []⟩,
 ⟨some 8, .load none (.tmp 7), none, []⟩,
 ⟨some 9, .indexAddr 5 (.tmp 8) (.const (.int .i64 0)), none, []⟩,
 ⟨some 10, .load (some (5)) (.tmp 9), none, []⟩,
 ⟨some 5, .box (.const (.agg [.int .i64 0, .int .i64 0, .int .i64 0, .int .i64 0, .int .i64 0])), none, []⟩,
 ⟨none, .store 5 (.tmp 5) (.tmp 10), none, []⟩]
def k_ref05_ZoneOf_r2 : List AOper := [
  ⟨some 6, .move (.const (.int .i64 0)), none, []⟩]
def k_ref05_ZoneOf_r3 : List AOper := [
  ⟨some 11, .move (.tmp 6), none, []⟩,
 ⟨some 12, .fieldAddr 1 (.tmp 2), none, []⟩,
 ⟨some 13, .load none (.tmp 12), none, []⟩,
 ⟨some 14, .len false (.tmp 13), none, []⟩,
 ⟨some 15, .bin .plain .lss (.tmp 11) (.tmp 14), none, []⟩]
def k_ref05_ZoneOf_r4 : List AOper := [
  ⟨some 18, .fieldAddr 1 (.tmp 2), none, []⟩,
 ⟨some 19, .load none (.tmp 18), none, []⟩,
 ⟨some 20, .move (.tmp 6), none, []⟩,
 ⟨some 21, .indexAddr 5 (.tmp 19) (.tmp 20), none, []⟩,
 ⟨some 22, .fieldAddr 0 (.tmp 21), none, []⟩,
 ⟨some 23, .load none (.tmp 22), none, []⟩,
 ⟨some 24, .move (.tmp 1), none, []⟩,
 ⟨some 25, .bin .plain .leq (.tmp 23) (.tmp 24), none, []⟩]
def k_ref05_ZoneOf_r5 : List AOper := [
  ⟨some 26, .fieldAddr 1 (.tmp 2), none, []⟩,
 ⟨some 27, .load none (.tmp 26), none, []⟩,
 ⟨some 28, .move (.tmp 6), none, []⟩,
 ⟨some 29, .indexAddr 5 (.tmp 27) (.tmp 28), none, []⟩,
 ⟨some 30, .load (some (5)) (.tmp 29), none, []⟩,
 ⟨none, .store 5 (.tmp 5) (.tmp 30), none, []⟩]
def k_ref05_ZoneOf_r6 : List AOper := [
  ⟨some 16, .move (.tmp 6), none, []⟩,
 ⟨some 17, .bin .plain .add (.tmp 16) (.const (.int .i64 1)), none, []⟩,
 ⟨some 6, .move (.tmp 17), none, []⟩]
def k_ref05_ZoneOf_r7 : ACode := (.seq (.seq (.reg k_ref05_ZoneOf_r3 false) (.cond (.tmp 15) .skip (.exit 0))) (.seq (.block 1 (.seq (.reg k_ref05_ZoneOf_r4 false) (.cond (.tmp 25) (.reg k_ref05_ZoneOf_r5 false) .skip))) (.reg k_ref05_ZoneOf_r6 false)))
def k_ref05_ZoneOf_r8 : List AOper := [
  ⟨some 31, .load (some (5)) (.tmp 5), none, []⟩,
 ⟨none, .store 5 (.tmp 4) (.tmp 31), none, []⟩]
def k_ref05_ZoneOf : AFun := { params := 2, ntmps := 32, body := (.seq (.reg k_ref05_ZoneOf_r0 false) (.seq (.reg k_ref05_ZoneOf_r1 false) (.seq (.seq (.reg k_ref05_ZoneOf_r2 false) (.block 0 (.loop k_ref05_ZoneOf_r7))) (.seq (.reg k_ref05_ZoneOf_r8 false) .ret)))), res := [.cell 4 (some ((some (5))))] }
theorem k_ref05_ZoneOf_ok : cfun Try.prog Try.f76 = k_ref05_ZoneOf := by kernel_rfl


abbrev n_kit_Dice_In : Nat := 75
theorem e_kit_Dice_In : EntryOK Try.prog n_kit_Dice_In k_kit_Dice_In := ⟨Try.f75, Try.func75, k_kit_Dice_In_ok, by kernel_rfl⟩
abbrev n_ref05_ZoneOf : Nat := 76
theorem e_ref05_ZoneOf : EntryOK Try.prog n_ref05_ZoneOf k_ref05_ZoneOf := ⟨Try.f76, Try.func76, k_ref05_ZoneOf_ok, by kernel_rfl⟩

attribute [go_sem] k_kit_Dice_In_r0 k_kit_Dice_In_r1 k_ref05_ZoneOf_r0 k_ref05_ZoneOf_r1 k_ref05_ZoneOf_r2
attribute [go_sem] k_ref05_ZoneOf_r3 k_ref05_ZoneOf_r4 k_ref05_ZoneOf_r5 k_ref05_ZoneOf_r6 k_ref05_ZoneOf_r8
attribute [go_sem] k_kit_Dice_In k_ref05_ZoneOf
end Go.Proofs

namespace Go.Proofs
open Go Go.Sx
attribute [local irreducible] Run

def zst (t : Int) (a z : Zn) : Zn := if z.f ≤ t then z else a
theorem zst_over {t : Int} : ∀ (r : List Zn) (a : Zn), (∀ z ∈ r, t < z.f) → r.foldl (zst t) a = a
  | [], _, _ => rfl
  | z :: r, a, h => by
    have h1 := h z List.mem_cons_self
    rw [List.foldl_cons, zst, if_neg (by omega)]
    exact zst_over r a fun y hy => h y (List.mem_cons_of_mem _ hy)
theorem zst_at {t : Int} : ∀ (r : List Zn) (z a : Zn), (∀ i (y x : Zn), (z :: r)[i]? = some y → (z :: r)[i + 1]? = some x → y.f < x.f) → z.f ≤ t → (z :: r).foldl (zst t) a = zAt (z :: r) t
  | [], z, a, _, h => by simp [zst, h, zAt]
  | y :: r, z, a, hs, h => by
    have hs' : ∀ i (u x : Zn), (y :: r)[i]? = some u → (y :: r)[i + 1]? = some x → u.f < x.f := fun i u x h1 h2 => hs (i + 1) u x (by simpa using h1) (by simpa using h2)
    rw [List.foldl_cons]
    have e : zst t a z = z := by rw [zst, if_pos h]
    rw [e]
    show (y :: r).foldl (zst t) z = if y.f ≤ t then zAt (y :: r) t else z
    by_cases hy : y.f ≤ t
    · rw [if_pos hy]; exact zst_at r y z hs' hy
    · rw [if_neg hy]
      refine zst_over _ _ fun x hx => ?_
      obtain ⟨i, hi⟩ := List.mem_iff_getElem?.1 hx
      have := asc_le hs' i 0 y x rfl (by simpa using hi)
      omega
theorem zst_all {zs : List Zn} (hz : ZsOK zs) {t : Int} (ht : 0 ≤ t) (a : Zn) : zs.foldl (zst t) a = zAt zs t := by
  rcases zs with _ | ⟨z, r⟩
  · have := hz.len; simp at this
  · exact zst_at r z a hz.asc (by have := hz.zero z rfl; omega)

set_option maxRecDepth 10000 in
theorem rZoneOf_run (brk : Int) {zs : List Zn} (hz : ZsOK zs) {t : Int} (ht : 0 ≤ t ∧ t ≤ 2000) : Ans Try.prog n_ref05_ZoneOf [stV brk zs, .int .i64 t] [] (zAt zs t).v [] := by
  have hn := hz.len
  obtain ⟨z0, hz0⟩ : ∃ z, zs[0]? = some z := ⟨_, List.getElem?_eq_getElem (by omega)⟩
  have hfin := zst_all hz ht.1 z0
  have hne : ¬ zs.length = 0 := by omega
  have hpos : 0 < zs.length := by omega
  refine spec_run e_ref05_ZoneOf fun G => ?_
  simp only [go_sem, stV, hz0, hne, hpos, List.length_map, Zn.v, Zn.cs]
  refine loop_ind k_ref05_ZoneOf_r7.eq_1 (fun i : Nat => i ≤ zs.length) (fun i => zs.length - i)
    (fun i => (tsets 32 [(1, .int .i64 t), (2, .ptr 0 0 0 1), (4, .ptr 1 0 0 1), (5, .ptr 2 0 0 1), (6, .int .i64 i)],
      [some (.cells false 2 [.agg [.int .i64 brk, .view (zs.map Zn.v)]]), some (.cells false 5 [(⟨0, 0, 0, 0, 0⟩ : Zn).v]), some (.cells false 5 [((zs.take i).foldl (zst t) z0).v])])) 0 (Nat.zero_le _) (by simp [go_sem]) rfl ?_
  intro i hi ih
  dsimp only at hi ih ⊢
  by_cases h1 : i < zs.length
  · have h2 : (i : Int) < zs.length := by omega
    have n0 : ¬ (i : Int) < 0 := by omega
    have h3 : IntKind.i64.wrap ((i : Int) + 1) = ((i + 1 : Nat) : Int) := by rw [w64 (by omega)]; rfl
    obtain ⟨z, hzi⟩ : ∃ z, zs[i]? = some z := ⟨_, List.getElem?_eq_getElem h1⟩
    have hs : (zs.take (i + 1)).foldl (zst t) z0 = zst t ((zs.take i).foldl (zst t) z0) z := by
      rw [List.take_add_one, hzi, Option.toList_some, List.foldl_append]; rfl
    have ihn := ih (i + 1) (by omega) h1
    rw [hs] at ihn
    clear ih
    generalize (zs.take i).foldl (zst t) z0 = u at *
    by_cases c : z.f ≤ t
    · rw [zst, if_pos c] at ihn
      simp only [go_sem, h2, n0, hzi, h3, c, Zn.v, Zn.cs]
      exact ihn _ (by simp [go_sem])
    · rw [zst, if_neg c] at ihn
      simp only [go_sem, h2, n0, hzi, h3, c, Zn.v, Zn.cs]
      exact ihn _ (by simp [go_sem])
  · have h2 : ¬ (i : Int) < zs.length := by omega
    rw [List.take_of_length_le (by omega), hfin]
    simp only [go_sem, h2, Zn.v, Zn.cs]
end Go.Proofs

namespace Go.Proofs
open Go Go.Sx
attribute [local irreducible] Run

structure TrOK (zs : List Zn) (n : Nat) (l : List Int) : Prop where
  len : l.length = 2001
  bd : ∀ i, i < n → gLo zs i ≤ l.getD i 0 ∧ l.getD i 0 ≤ gHi zs i
theorem TrOK.snoc {zs : List Zn} {n : Nat} {l : List Int} (h : TrOK zs n l) {v : Int} (hv : gLo zs n ≤ v ∧ v ≤ gHi zs n) (hn : n < 2001) : TrOK zs (n + 1) (l.set n v) := ⟨by rw [List.length_set]; exact h.len, fun i hi => by
  rw [List.getD_eq_getElem?_getD]
  by_cases e : i = n
  · subst e
    rw [List.getElem?_set_self (by rw [h.len]; exact hn)]; exact hv
  · rw [List.getElem?_set_ne (by omega), ← List.getD_eq_getElem?_getD]; exact h.bd i (by omega)⟩
end Go.Proofs

namespace Go.Proofs
open Go Go.Sx
attribute [local irreducible] Run

end Go.Proofs

namespace Go.Proofs
open Go Go.Sx

end Go.Proofs

namespace Go.Proofs
open Go Go.Sx
attribute [local irreducible] Run

end Go.Proofs

namespace Go.Proofs
open Go Go.Sx
attribute [local irreducible] Run

section
variable {P : Program} {g : FuncId} {args largs : List AVal} {H : Heap} {R : Runner} {l : List AOper} {fs : List Sx.Frame} {ρ : List AVal} {ms : List Nat} {Q : Sx.Goal} {ao : AOper} {lo hi : Nat} {tr : List (List Nat × List Nat)} {ss : List (List AOper)}
end

def sel (st a b c : Int) : Int := if st = 0 then a else if st = 1 then b else c
def trS (zs : List Zn) (st w1 : Int) : Nat → Int × List Int
  | 0 => (w1, List.replicate 2001 0)
  | i + 1 => (dstep (trS zs st w1 i).1, (trS zs st w1 i).2.set i (sel st (zAt zs i).glo (zAt zs i).ghi (btw (trS zs st w1 i).1 (zAt zs i).glo (zAt zs i).ghi)))
attribute [local irreducible] trS
end Go.Proofs

namespace Go.Proofs
open Go Go.Sx
attribute [local irreducible] Run trS

end Go.Proofs

namespace Go.Proofs
open Go Go.Sx

def k_law05_GlassRelaxes_r0 : List AOper := [
  ⟨some 8, .move (.const (.bool false)), none, []⟩]
def k_law05_GlassRelaxes_r1 : List AOper := [
  ⟨some 19, .move (.tmp 0), none, []⟩,
 ⟨some 20, .call (.const (.fn (.func 21) [] [])) [.tmp 19], none, []⟩,
 ⟨some 9, .move (.tmp 20), none, []⟩]
def k_law05_GlassRelaxes_r2 : List AOper := [
  ⟨some 21, .move (.tmp 9), none, []⟩,
 ⟨some 22, .call (.const (.fn (.func 22) [] [])) [.tmp 21], none, []⟩,
 ⟨some 10, .box (.const (.agg [.int .i64 0, .nilsl])), none, []⟩,
 ⟨none, .store 2 (.tmp 10) (.tmp 22), none, []⟩]
def k_law05_GlassRelaxes_r3 : List AOper := [
  ⟨some 23, .move (.tmp 9), none, []⟩,
 ⟨some 24, .buildSlice 1 [.const (.int .i64 99), .const (.int .i64 100000), .const (.int .i64 1099511627776)], none, []⟩,
 ⟨some 25, .move (.tmp 9), none, []⟩,
 ⟨some 26, .call (.const (.fn (.func 26) [] [])) [.tmp 25, .const (.int .i64 3)], none, []⟩,
 ⟨some 27, .indexAddr 1 (.tmp 24) (.tmp 26), none, []⟩,
 ⟨some 28, .load none (.tmp 27), none, []⟩,
 ⟨some 29, .call (.const (.fn (.func 73) [] [])) [.tmp 23, .const (.int .i64 0), .tmp 28], none, []⟩,
 ⟨some 11, .box (.const (.agg [.int .i64 0, .int .i64 0])), none, []⟩,
 ⟨none, .store 2 (.tmp 11) (.tmp 29), none, []⟩]
def k_law05_GlassRelaxes_r4 : List AOper := [
  ⟨some 30, .move (.tmp 1), none, []⟩,
 ⟨some 31, .call (.const (.fn (.func 43) [] [])) [.tmp 30, .const (.int .i64 2001)], none, []⟩,
 ⟨some 32, .move (.tmp 2), none, [0, 1]⟩,
 ⟨some 33, .fieldAddr 1 (.tmp 11), none, [0, 1, 2]⟩,
 ⟨some 34, .load none (.tmp 33), none, [0, 1, 2]⟩,
 ⟨some 35, .bin .plain .add (.tmp 34) (.const (.int .i64 1)), none, [0, 1, 2]⟩,
 ⟨some 36, .call (.const (.fn (.func 43) [] [])) [.tmp 32, .tmp 35], none, []⟩,
 ⟨some 37, .move (.tmp 3), none, [0, 1, 2, 3, 4, 5, 6]⟩,
 ⟨some 38, .fieldAddr 1 (.tmp 11), none, [0, 1, 2, 3, 4, 5, 6, 7]⟩,
 ⟨some 39, .load none (.tmp 38), none, [0, 1, 2, 3, 4, 5, 6, 7]⟩,
 ⟨some 40, .bin .plain .add (.tmp 39) (.const (.int .i64 1)), none, [0, 1, 2, 3, 4, 5, 6, 7]⟩,
 ⟨some 41, .call (.const (.fn (.func 43) [] [])) [.tmp 37, .tmp 40], none, []⟩,
 ⟨some 1, .move (.tmp 31), none, []⟩,
 ⟨some 2, .move (.tmp 36), none, []⟩,
 ⟨some 3, .move (.tmp 41), none, []⟩]
def k_law05_GlassRelaxes_r4s : List (List AOper) := [
  [
  ⟨some 30, .move (.tmp 1), none, []⟩,
 ⟨some 31, .call (.const (.fn (.func 43) [] [])) [.tmp 30, .const (.int .i64 2001)], none, []⟩,
 ⟨some 32, .move (.tmp 2), none, [0, 1]⟩,
 ⟨some 33, .fieldAddr 1 (.tmp 11), none, [0, 1, 2]⟩,
 ⟨some 34, .load none (.tmp 33), none, [0, 1, 2]⟩,
 ⟨some 35, .bin .plain .add (.tmp 34) (.const (.int .i64 1)), none, [0, 1, 2]⟩,
 ⟨some 36, .call (.const (.fn (.func 43) [] [])) [.tmp 32, .tmp 35], none, []⟩,
 ⟨some 37, .move (.tmp 3), none, [0, 1, 2, 3, 4, 5, 6]⟩,
 ⟨some 38, .fieldAddr 1 (.tmp 11), none, [0, 1, 2, 3, 4, 5, 6, 7]⟩,
 ⟨some 39, .load none (.tmp 38), none, [0, 1, 2, 3, 4, 5, 6, 7]⟩,
 ⟨some 40, .bin .plain .add (.tmp 39) (.const (.int .i64 1)), none, [0, 1, 2, 3, 4, 5, 6, 7]⟩], 
  [
  ⟨some 41, .call (.const (.fn (.func 43) [] [])) [.tmp 37, .tmp 40], none, []⟩], 
  [
  ⟨some 1, .move (.tmp 31), none, []⟩], 
  [
  ⟨some 2, .move (.tmp 36), none, []⟩], 
  [
  ⟨some 3, .move (.tmp 41), none, []⟩]]
theorem k_law05_GlassRelaxes_r4_sg : segs k_law05_GlassRelaxes_r4 = k_law05_GlassRelaxes_r4s := by kernel_rfl
theorem k_law05_GlassRelaxes_r4_st : statOK k_law05_GlassRelaxes_r4 = true := by kernel_rfl
def k_law05_GlassRelaxes_r5 : List AOper := [
  ⟨some 43, .load (some (2)) (.tmp 10), none, []⟩,
 ⟨some 44, .load (some (2)) (.tmp 11), none, []⟩,
 ⟨some 45, .move (.tmp 1), none, []⟩,
 ⟨some 46, .move (.tmp 2), none, []⟩,
 ⟨some 47, .move (.tmp 3), none, []⟩,
 ⟨some 48, .minmax false [.tmp 46, .tmp 47], none, []⟩,
 ⟨some 49, .call (.const (.fn (.func 74) [] [])) [.tmp 43, .tmp 44, .tmp 45, .tmp 48], none, []⟩,
 ⟨some 42, .move (.tmp 49), none, []⟩,
 ⟨some 50, .extract (.tmp 42) 0, none, []⟩,
 ⟨some 51, .extract (.tmp 42) 1, none, []⟩,
 ⟨some 12, .box (.const (.agg [.int .i64 0, .int .i64 0])), none, []⟩,
 ⟨none, .store 2 (.tmp 12) (.tmp 50), none, []⟩,
 ⟨some 13, .move (.tmp 51), none, []⟩]
def k_law05_GlassRelaxes_r6 : List AOper := [
  ⟨some 53, .load (some (2)) (.tmp 10), none, []⟩,
 ⟨some 54, .load (some (2)) (.tmp 11), none, []⟩,
 ⟨some 55, .move (.tmp 1), none, []⟩,
 ⟨some 56, .move (.tmp 2), none, []⟩,
 ⟨some 57, .move (.tmp 3), none, []⟩,
 ⟨some 58, .minmax true [.tmp 56, .tmp 57], none, []⟩,
 ⟨some 59, .call (.const (.fn (.func 74) [] [])) [.tmp 53, .tmp 54, .tmp 55, .tmp 58], none, []⟩,
 ⟨some 52, .move (.tmp 59), none, []⟩,
 ⟨some 60, .extract (.tmp 52) 0, none, []⟩,
 ⟨some 61, .extract (.tmp 52) 1, none, []⟩,
 ⟨some 14, .box (.const (.agg [.int .i64 0, .int .i64 0])), none, []⟩,
 ⟨none, .store 2 (.tmp 14) (.tmp 60), none, []⟩,
 ⟨some 15, .move (.tmp 61), none, []⟩]
def k_law05_GlassRelaxes_r7 : List AOper := [
  ⟨some 62, .move (.tmp 13), none, []⟩,
 ⟨some 63, .bin .plain .neq (.tmp 62) (.const (.int .i64 0)), none, []⟩,
 ⟨some 64, .move (.tmp 63), none, []⟩,
 ⟨some 65, .move (.tmp 15), (some (64, false)), []⟩,
 ⟨some 66, .bin .plain .neq (.tmp 65) (.const (.int .i64 0)), (some (64, false)), []⟩,
 ⟨some 67, .pick (.tmp 64) (.const (.bool true)) (.tmp 66), none, []⟩,
 ⟨some 68, .move (.tmp 67), none, []⟩,
 ⟨some 69, .fieldAddr 0 (.tmp 12), (some (68, false)), []⟩,
 ⟨some 70, .load none (.tmp 69), (some (68, false)), []⟩,
 ⟨some 71, .fieldAddr 1 (.tmp 12), (some (68, false)), []⟩,
 ⟨some 72, .load none (.tmp 71), (some (68, false)), []⟩,
 ⟨some 73, .bin .plain .gtr (.tmp 70) (.tmp 72), (some (68, false)), []⟩,
 ⟨some 74, .pick (.tmp 68) (.const (.bool true)) (.tmp 73), none, []⟩,
 ⟨some 75, .move (.tmp 74), none, []⟩,
 ⟨some 76, .fieldAddr 0 (.tmp 14), (some (75, false)), []⟩,
 ⟨some 77, .load none (.tmp 76), (some (75, false)), []⟩,
 ⟨some 78, .fieldAddr 0 (.tmp 12), (some (75, false)), []⟩,
 ⟨some 79, .load none (.tmp 78), (some (75, false)), []⟩,
 ⟨some 80, .bin .plain .gtr (.tmp 77) (.tmp 79), (some (75, false)), []⟩,
 ⟨some 81, .pick (.tmp 75) (.const (.bool true)) (.tmp 80), none, []⟩,
 ⟨some 82, .move (.tmp 81), none, []⟩,
 ⟨some 83, .fieldAddr 1 (.tmp 14), (some (82, false)), []⟩,
 ⟨some 84, .load none (.tmp 83), (some (82, false)), []⟩,
 ⟨some 85, .fieldAddr 1 (.tmp 12), (some (82, false)), []⟩,
 ⟨some 86, .load none (.tmp 85), (some (82, false)), []⟩,
 ⟨some 87, .bin .plain .gtr (.tmp 84) (.tmp 86), (some (82, false)), []⟩,
 ⟨some 88, .pick (.tmp 82) (.const (.bool true)) (.tmp 87), none, []⟩,
 ⟨some 89, .move (.tmp 88), none, []⟩,
 ⟨some 90, .fieldAddr 0 (.tmp 12), (some (89, false)), []⟩,
 ⟨some 91, .load none (.tmp 90), (some (89, false)), []⟩,
 ⟨some 92, .bin .plain .lss (.tmp 91) (.const (.int .i64 0)), (some (89, false)), []⟩,
 ⟨some 93, .pick (.tmp 89) (.const (.bool true)) (.tmp 92), none, []⟩,
 ⟨some 94, .move (.tmp 93), none, []⟩,
 ⟨some 95, .fieldAddr 1 (.tmp 12), (some (94, false)), []⟩,
 ⟨some 96, .load none (.tmp 95), (some (94, false)), []⟩,
 ⟨some 97, .bin .plain .gtr (.tmp 96) (.const (.int .i64 5001)), (some (94, false)), []⟩,
 ⟨some 98, .pick (.tmp 94) (.const (.bool true)) (.tmp 97), none, []⟩]
def k_law05_GlassRelaxes_r8 : List AOper := [
  ⟨some 8, .move (.const (.bool false)), none, []⟩]
def k_law05_GlassRelaxes_r9 : List AOper := [
  ⟨some 99, .fieldAddr 1 (.tmp 12), none, []⟩,
 ⟨some 100, .load none (.tmp 99), none, []⟩,
 ⟨some 101, .bin .plain .gtr (.tmp 100) (.const (.int .i64 5000)), none, []⟩]
def k_law05_GlassRelaxes_r10 : List AOper := [
  ⟨some 102, .call (.const (.fn (.func 20) [] [])) [], none, []⟩,
 ⟨some 8, .move (.tmp 102), none, []⟩]
def k_law05_GlassRelaxes_r11 : List AOper := [
  ⟨some 103, .move (.tmp 9), none, []⟩,
 ⟨some 104, .load (some (2)) (.tmp 11), none, [0]⟩,
 ⟨some 105, .call (.const (.fn (.func 75) [] [])) [.tmp 103, .tmp 104], none, []⟩,
 ⟨some 106, .load (some (2)) (.tmp 10), none, [0, 1, 2]⟩,
 ⟨some 107, .move (.tmp 1), none, [0, 1, 2, 3]⟩,
 ⟨some 108, .call (.const (.fn (.func 76) [] [])) [.tmp 106, .tmp 107], none, []⟩,
 ⟨some 17, .box (.const (.agg [.int .i64 0, .int .i64 0, .int .i64 0, .int .i64 0, .int .i64 0])), none, [0, 1, 2, 3, 4, 5]⟩,
 ⟨some 16, .move (.tmp 105), none, []⟩,
 ⟨none, .store 5 (.tmp 17) (.tmp 108), none, []⟩]
def k_law05_GlassRelaxes_r11s : List (List AOper) := [
  [
  ⟨some 103, .move (.tmp 9), none, []⟩,
 ⟨some 104, .load (some (2)) (.tmp 11), none, [0]⟩,
 ⟨some 105, .call (.const (.fn (.func 75) [] [])) [.tmp 103, .tmp 104], none, []⟩,
 ⟨some 106, .load (some (2)) (.tmp 10), none, [0, 1, 2]⟩,
 ⟨some 107, .move (.tmp 1), none, [0, 1, 2, 3]⟩,
 ⟨some 108, .call (.const (.fn (.func 76) [] [])) [.tmp 106, .tmp 107], none, []⟩,
 ⟨some 17, .box (.const (.agg [.int .i64 0, .int .i64 0, .int .i64 0, .int .i64 0, .int .i64 0])), none, [0, 1, 2, 3, 4, 5]⟩], 
  [
  ⟨some 16, .move (.tmp 105), none, []⟩], 
  [
  ⟨none, .store 5 (.tmp 17) (.tmp 108), none, []⟩]]
theorem k_law05_GlassRelaxes_r11_sg : segs k_law05_GlassRelaxes_r11 = k_law05_GlassRelaxes_r11s := by kernel_rfl
theorem k_law05_GlassRelaxes_r11_st : statOK k_law05_GlassRelaxes_r11 = true := by kernel_rfl
def k_law05_GlassRelaxes_r12 : List AOper := [
  ⟨some 18, .move (.const (.int .i64 0)), none, []⟩]
def k_law05_GlassRelaxes_r13 : List AOper := [
  ⟨some 109, .move (.tmp 18), none, []⟩,
 ⟨some 110, .fieldAddr 1 (.tmp 12), none, []⟩,
 ⟨some 111, .load none (.tmp 110), none, []⟩,
 ⟨some 112, .bin .plain .lss (.tmp 109) (.tmp 111), none, []⟩]
def k_law05_GlassRelaxes_r14 : List AOper := [
  ⟨some 115, .move (.tmp 16), none, []⟩,
 ⟨some 116, .move (.tmp 9), none, []⟩,
 ⟨some 117, .load (some (5)) (.tmp 17), none, []⟩,
 ⟨some 118, .move (.tmp 16), none, []⟩,
 ⟨some 119, .move (.tmp 16), none, []⟩,
 ⟨some 120, .call (.const (.fn (.func 77) [] [])) [.tmp 117, .tmp 118, .tmp 119], none, []⟩,
 ⟨some 121, .call (.const (.fn (.func 75) [] [])) [.tmp 116, .tmp 120], none, []⟩,
 ⟨some 122, .bin .plain .sub (.tmp 115) (.tmp 121), none, []⟩,
 ⟨some 16, .move (.tmp 122), none, []⟩]
def k_law05_GlassRelaxes_r15 : List AOper := [
  ⟨some 113, .move (.tmp 18), none, []⟩,
 ⟨some 114, .bin .plain .add (.tmp 113) (.const (.int .i64 1)), none, []⟩,
 ⟨some 18, .move (.tmp 114), none, []⟩]
def k_law05_GlassRelaxes_r16 : ACode := (.seq (.seq (.reg k_law05_GlassRelaxes_r13 false) (.cond (.tmp 112) .skip (.exit 0))) (.seq (.block 1 (.reg k_law05_GlassRelaxes_r14 false)) (.reg k_law05_GlassRelaxes_r15 false)))
def k_law05_GlassRelaxes_r17 : List AOper := [
  ⟨some 123, .move (.tmp 16), none, []⟩,
 ⟨some 124, .move (.tmp 2), none, []⟩,
 ⟨some 125, .move (.tmp 3), none, []⟩,
 ⟨some 126, .minmax false [.tmp 124, .tmp 125], none, []⟩,
 ⟨some 127, .bin .plain .leq (.tmp 123) (.tmp 126), none, []⟩,
 ⟨some 128, .move (.tmp 127), none, []⟩,
 ⟨some 129, .call (.const (.fn (.func 20) [] [])) [], (some (128, true)), []⟩,
 ⟨some 130, .pick (.tmp 128) (.tmp 129) (.const (.bool false)), none, []⟩,
 ⟨some 8, .move (.tmp 130), none, []⟩]
def k_law05_GlassRelaxes : AFun := { params := 4, ntmps := 131, body := (.seq (.reg k_law05_GlassRelaxes_r0 false) (.seq (.reg k_law05_GlassRelaxes_r1 false) (.seq (.reg k_law05_GlassRelaxes_r2 false) (.seq (.reg k_law05_GlassRelaxes_r3 false) (.seq (.reg k_law05_GlassRelaxes_r4 true) (.seq (.reg k_law05_GlassRelaxes_r5 false) (.seq (.reg k_law05_GlassRelaxes_r6 false) (.seq (.seq (.reg k_law05_GlassRelaxes_r7 false) (.cond (.tmp 98) (.seq (.reg k_law05_GlassRelaxes_r8 false) .ret) .skip)) (.seq (.seq (.reg k_law05_GlassRelaxes_r9 false) (.cond (.tmp 101) (.seq (.reg k_law05_GlassRelaxes_r10 false) .ret) .skip)) (.seq (.reg k_law05_GlassRelaxes_r11 true) (.seq (.seq (.reg k_law05_GlassRelaxes_r12 false) (.block 0 (.loop k_law05_GlassRelaxes_r16))) (.seq (.reg k_law05_GlassRelaxes_r17 false) .ret)))))))))))), res := [.tmp 8] }
theorem k_law05_GlassRelaxes_ok : cfun Try.prog Try.f15 = k_law05_GlassRelaxes := by kernel_rfl

def k_glass_Soak_r0 : List AOper := [
  ⟨some 4, .box (.tmp 0), none, []⟩,
 ⟨some 5, .box (.tmp 1), none, []⟩,
 ⟨some 8, .box (.const (.agg [.int .i64 0, .int .i64 0])), none, []⟩,
 ⟨some 9, .move (.const (.int .i64 0)), none, []⟩]
def k_glass_Soak_r1 : List AOper := [
  ⟨some 13, .load (some (2)) (.tmp 4), none, []⟩,
 ⟨some 14, .call (.const (.fn (.func 30) [] [])) [.tmp 13], none, []⟩,
 ⟨some 10, .move (.tmp 14), none, []⟩]
def k_glass_Soak_r2 : List AOper := [
  ⟨some 15, .move (.tmp 10), none, []⟩,
 ⟨some 16, .bin .plain .neq (.tmp 15) (.const (.int .i64 0)), none, []⟩]
def k_glass_Soak_r3 : List AOper := [
  ⟨some 17, .build [.int .i64 0, .int .i64 0] [], none, []⟩,
 ⟨some 18, .move (.tmp 10), none, []⟩,
 ⟨none, .store 2 (.tmp 8) (.tmp 17), none, []⟩,
 ⟨some 9, .move (.tmp 18), none, []⟩]
def k_glass_Soak_r4 : List AOper := [
  ⟨some 19, .load (some (2)) (.tmp 5), none, []⟩,
 ⟨some 20, .call (.const (.fn (.func 87) [] [])) [.tmp 19, .const (.int .i64 1099511627776)], none, []⟩,
 ⟨some 11, .move (.tmp 20), none, []⟩]
def k_glass_Soak_r5 : List AOper := [
  ⟨some 21, .move (.tmp 11), none, []⟩,
 ⟨some 22, .bin .plain .neq (.tmp 21) (.const (.int .i64 0)), none, []⟩]
def k_glass_Soak_r6 : List AOper := [
  ⟨some 23, .build [.int .i64 0, .int .i64 0] [], none, []⟩,
 ⟨some 24, .move (.tmp 11), none, []⟩,
 ⟨none, .store 2 (.tmp 8) (.tmp 23), none, []⟩,
 ⟨some 9, .move (.tmp 24), none, []⟩]
def k_glass_Soak_r7 : List AOper := [
  ⟨some 25, .move (.tmp 2), none, []⟩,
 ⟨some 26, .call (.const (.fn (.func 86) [] [])) [.tmp 25], none, []⟩,
 ⟨some 27, .not (.tmp 26), none, []⟩,
 ⟨some 28, .move (.tmp 27), none, []⟩,
 ⟨some 29, .move (.tmp 3), (some (28, false)), []⟩,
 ⟨some 30, .call (.const (.fn (.func 104) [] [])) [.tmp 29], (some (28, false)), []⟩,
 ⟨some 31, .not (.tmp 30), (some (28, false)), []⟩,
 ⟨some 32, .pick (.tmp 28) (.const (.bool true)) (.tmp 31), none, []⟩]
def k_glass_Soak_r8 : List AOper := [
  ⟨some 33, .build [.int .i64 0, .int .i64 0] [], none, []⟩,
 ⟨none, .store 2 (.tmp 8) (.tmp 33), none, []⟩,
 ⟨some 9, .move (.const (.int .i64 2)), none, []⟩]
def k_glass_Soak_r9 : List AOper := [
  ⟨some 34, .load (some (2)) (.tmp 4), none, []⟩,
 ⟨some 35, .move (.tmp 2), none, []⟩,
 ⟨some 36, .call (.const (.fn (.func 123) [] [])) [.tmp 34, .tmp 35], none, []⟩,
 ⟨some 12, .box (.const (.agg [.int .i64 0, .int .i64 0, .int .i64 0, .int .i64 0, .int .i64 0])), none, []⟩,
 ⟨none, .store 5 (.tmp 12) (.tmp 36), none, []⟩]
def k_glass_Soak_r10 : List AOper := [
  ⟨some 37, .fieldAddr 0 (.tmp 5), none, []⟩,
 ⟨some 38, .load none (.tmp 37), none, []⟩,
 ⟨some 39, .move (.tmp 3), none, [0, 1]⟩,
 ⟨some 40, .load (some (5)) (.tmp 12), none, [0, 1, 2]⟩,
 ⟨some 41, .call (.const (.fn (.func 124) [] [])) [.tmp 38, .tmp 39, .tmp 40, .const (.fn (.func 125) [] [])], none, []⟩,
 ⟨some 42, .fieldAddr 1 (.tmp 5), none, [0, 1, 2, 3, 4]⟩,
 ⟨some 43, .load none (.tmp 42), none, [0, 1, 2, 3, 4]⟩,
 ⟨some 44, .move (.tmp 3), none, [0, 1, 2, 3, 4, 5, 6]⟩,
 ⟨some 45, .load (some (5)) (.tmp 12), none, [0, 1, 2, 3, 4, 5, 6, 7]⟩,
 ⟨some 46, .call (.const (.fn (.func 124) [] [])) [.tmp 43, .tmp 44, .tmp 45, .const (.fn (.func 126) [] [])], none, []⟩,
 ⟨some 47, .build [.int .i64 0, .int .i64 0] [(0, 1, .tmp 41), (1, 1, .tmp 46)], none, []⟩,
 ⟨none, .store 2 (.tmp 8) (.tmp 47), none, []⟩,
 ⟨some 9, .move (.const (.int .i64 0)), none, []⟩]
def k_glass_Soak_r10s : List (List AOper) := [
  [
  ⟨some 37, .fieldAddr 0 (.tmp 5), none, []⟩,
 ⟨some 38, .load none (.tmp 37), none, []⟩,
 ⟨some 39, .move (.tmp 3), none, [0, 1]⟩,
 ⟨some 40, .load (some (5)) (.tmp 12), none, [0, 1, 2]⟩,
 ⟨some 41, .call (.const (.fn (.func 124) [] [])) [.tmp 38, .tmp 39, .tmp 40, .const (.fn (.func 125) [] [])], none, []⟩,
 ⟨some 42, .fieldAddr 1 (.tmp 5), none, [0, 1, 2, 3, 4]⟩,
 ⟨some 43, .load none (.tmp 42), none, [0, 1, 2, 3, 4]⟩,
 ⟨some 44, .move (.tmp 3), none, [0, 1, 2, 3, 4, 5, 6]⟩,
 ⟨some 45, .load (some (5)) (.tmp 12), none, [0, 1, 2, 3, 4, 5, 6, 7]⟩], 
  [
  ⟨some 46, .call (.const (.fn (.func 124) [] [])) [.tmp 43, .tmp 44, .tmp 45, .const (.fn (.func 126) [] [])], none, []⟩], 
  [
  ⟨some 47, .build [.int .i64 0, .int .i64 0] [(0, 1, .tmp 41), (1, 1, .tmp 46)], none, []⟩], 
  [
  ⟨none, .store 2 (.tmp 8) (.tmp 47), none, []⟩], 
  [
  ⟨some 9, .move (.const (.int .i64 0)), none, []⟩]]
theorem k_glass_Soak_r10_sg : segs k_glass_Soak_r10 = k_glass_Soak_r10s := by kernel_rfl
theorem k_glass_Soak_r10_st : statOK k_glass_Soak_r10 = true := by kernel_rfl
def k_glass_Soak : AFun := { params := 4, ntmps := 48, body := (.seq (.reg k_glass_Soak_r0 false) (.seq (.seq (.reg k_glass_Soak_r1 false) (.seq (.reg k_glass_Soak_r2 false) (.cond (.tmp 16) (.seq (.reg k_glass_Soak_r3 false) .ret) .skip))) (.seq (.seq (.reg k_glass_Soak_r4 false) (.seq (.reg k_glass_Soak_r5 false) (.cond (.tmp 22) (.seq (.reg k_glass_Soak_r6 false) .ret) .skip))) (.seq (.seq (.reg k_glass_Soak_r7 false) (.cond (.tmp 32) (.seq (.reg k_glass_Soak_r8 false) .ret) .skip)) (.seq (.reg k_glass_Soak_r9 false) (.seq (.reg k_glass_Soak_r10 true) .ret)))))), res := [.cell 8 (some ((some (2)))), .tmp 9] }
theorem k_glass_Soak_ok : cfun Try.prog Try.f74 = k_glass_Soak := by kernel_rfl

def k_ref05_Relaxes_r0 : List AOper := [
  ⟨some 3, .box (.tmp 0), none, []⟩,
 ⟨some 6, .box (.const (.agg [.int .i64 0, .int .i64 0])), none, []⟩]
def k_ref05_Relaxes_r1 : List AOper := [
  ⟨some 7, .move (.tmp 1), none, []⟩,
 ⟨some 8, .fieldAddr 3 (.tmp 3), none, [0]⟩,
 ⟨some 9, .fieldAddr 0 (.tmp 8), none, [0]⟩,
 ⟨some 10, .load none (.tmp 9), none, [0]⟩,
 ⟨some 11, .bin .plain .mul (.tmp 7) (.tmp 10), none, []⟩,
 ⟨some 12, .call (.const (.fn (.func 127) [] [])) [.tmp 11, .const (.int .i64 1000000)], none, []⟩,
 ⟨some 13, .move (.tmp 2), none, [0, 1, 2, 3, 4, 5]⟩,
 ⟨some 14, .fieldAddr 3 (.tmp 3), none, [0, 1, 2, 3, 4, 5, 6]⟩,
 ⟨some 15, .fieldAddr 1 (.tmp 14), none, [0, 1, 2, 3, 4, 5, 6]⟩,
 ⟨some 16, .load none (.tmp 15), none, [0, 1, 2, 3, 4, 5, 6]⟩,
 ⟨some 17, .bin .plain .mul (.tmp 13) (.tmp 16), none, [0, 1, 2, 3, 4, 5]⟩,
 ⟨some 18, .call (.const (.fn (.func 128) [] [])) [.tmp 17, .const (.int .i64 1000000)], none, []⟩,
 ⟨some 19, .build [.int .i64 0, .int .i64 0] [(0, 1, .tmp 12), (1, 1, .tmp 18)], none, []⟩,
 ⟨none, .store 2 (.tmp 6) (.tmp 19), none, []⟩]
def k_ref05_Relaxes_r1s : List (List AOper) := [
  [
  ⟨some 7, .move (.tmp 1), none, []⟩,
 ⟨some 8, .fieldAddr 3 (.tmp 3), none, [0]⟩,
 ⟨some 9, .fieldAddr 0 (.tmp 8), none, [0]⟩,
 ⟨some 10, .load none (.tmp 9), none, [0]⟩,
 ⟨some 11, .bin .plain .mul (.tmp 7) (.tmp 10), none, []⟩,
 ⟨some 12, .call (.const (.fn (.func 127) [] [])) [.tmp 11, .const (.int .i64 1000000)], none, []⟩,
 ⟨some 13, .move (.tmp 2), none, [0, 1, 2, 3, 4, 5]⟩,
 ⟨some 14, .fieldAddr 3 (.tmp 3), none, [0, 1, 2, 3, 4, 5, 6]⟩,
 ⟨some 15, .fieldAddr 1 (.tmp 14), none, [0, 1, 2, 3, 4, 5, 6]⟩,
 ⟨some 16, .load none (.tmp 15), none, [0, 1, 2, 3, 4, 5, 6]⟩,
 ⟨some 17, .bin .plain .mul (.tmp 13) (.tmp 16), none, [0, 1, 2, 3, 4, 5]⟩], 
  [
  ⟨some 18, .call (.const (.fn (.func 128) [] [])) [.tmp 17, .const (.int .i64 1000000)], none, []⟩], 
  [
  ⟨some 19, .build [.int .i64 0, .int .i64 0] [(0, 1, .tmp 12), (1, 1, .tmp 18)], none, []⟩], 
  [
  ⟨none, .store 2 (.tmp 6) (.tmp 19), none, []⟩]]
theorem k_ref05_Relaxes_r1_sg : segs k_ref05_Relaxes_r1 = k_ref05_Relaxes_r1s := by kernel_rfl
theorem k_ref05_Relaxes_r1_st : statOK k_ref05_Relaxes_r1 = true := by kernel_rfl
def k_ref05_Relaxes : AFun := { params := 3, ntmps := 20, body := (.seq (.reg k_ref05_Relaxes_r0 false) (.seq (.reg k_ref05_Relaxes_r1 true) .ret)), res := [.cell 6 (some ((some (2))))] }
theorem k_ref05_Relaxes_ok : cfun Try.prog Try.f77 = k_ref05_Relaxes := by kernel_rfl

def k_glass_isStrain_r0 : List AOper := [
  ⟨some 2, .move (.const (.bool false)), none, []⟩]
def k_glass_isStrain_r1 : List AOper := [
  ⟨some 3, .move (.tmp 0), none, []⟩,
 ⟨some 4, .call (.const (.fn (.func 85) [] [])) [.tmp 3, .const (.int .i64 0), .const (.int .i64 1099511627776)], none, []⟩,
 ⟨some 2, .move (.tmp 4), none, []⟩]
def k_glass_isStrain : AFun := { params := 1, ntmps := 5, body := (.seq (.reg k_glass_isStrain_r0 false) (.seq (.reg k_glass_isStrain_r1 false) .ret)), res := [.tmp 2] }
theorem k_glass_isStrain_ok : cfun Try.prog Try.f104 = k_glass_isStrain := by kernel_rfl

def k_glass_soaked_r0 : List AOper := [
  ⟨some 6, .box (.tmp 2), none, []⟩,
 ⟨some 8, .move (.const (.int .i64 0)), none, []⟩]
def k_glass_soaked_r1 : List AOper := [
  ⟨some 9, .move (.const (.int .i64 0)), none, []⟩]
def k_glass_soaked_r2 : List AOper := [
  ⟨some 10, .move (.tmp 0), none, []⟩,
 ⟨some 11, .move (.tmp 1), none, []⟩,
 ⟨some 12, .bin .plain .gtr (.tmp 10) (.tmp 11), none, []⟩,
 ⟨some 13, .move (.tmp 12), none, []⟩,
 ⟨some 14, .move (.tmp 9), (some (13, true)), []⟩,
 ⟨some 15, .bin .plain .leq (.tmp 14) (.const (.int .i64 5000)), (some (13, true)), []⟩,
 ⟨some 16, .pick (.tmp 13) (.tmp 15) (.const (.bool false)), none, []⟩]
def k_glass_soaked_r3 : List AOper := [
  ⟨some 19, .move (.tmp 3), none, []⟩,
 ⟨some 20, .move (.tmp 0), none, []⟩,
 ⟨some 21, .load (some (5)) (.tmp 6), none, []⟩,
 ⟨some 22, .call (.tmp 19) [.tmp 20, .tmp 21], none, []⟩,
 ⟨some 0, .move (.tmp 22), none, []⟩]
def k_glass_soaked_r4 : List AOper := [
  ⟨some 17, .move (.tmp 9), none, []⟩,
 ⟨some 18, .bin .plain .add (.tmp 17) (.const (.int .i64 1)), none, []⟩,
 ⟨some 9, .move (.tmp 18), none, []⟩]
def k_glass_soaked_r5 : ACode := (.seq (.seq (.reg k_glass_soaked_r2 false) (.cond (.tmp 16) .skip (.exit 0))) (.seq (.block 1 (.reg k_glass_soaked_r3 false)) (.reg k_glass_soaked_r4 false)))
def k_glass_soaked_r6 : List AOper := [
  ⟨some 23, .move (.tmp 9), none, []⟩,
 ⟨some 8, .move (.tmp 23), none, []⟩]
def k_glass_soaked : AFun := { params := 4, ntmps := 24, body := (.seq (.reg k_glass_soaked_r0 false) (.seq (.reg k_glass_soaked_r1 false) (.seq (.block 0 (.loop k_glass_soaked_r5)) (.seq (.reg k_glass_soaked_r6 false) .ret)))), res := [.tmp 8] }
theorem k_glass_soaked_ok : cfun Try.prog Try.f124 = k_glass_soaked := by kernel_rfl

def k_ref05_Down_r0 : List AOper := [
  ⟨some 4, .move (.const (.int .i64 0)), none, []⟩]
def k_ref05_Down_r1 : List AOper := [
  ⟨some 6, .move (.tmp 0), none, []⟩,
 ⟨some 7, .move (.tmp 1), none, []⟩,
 ⟨some 8, .bin .plain .quo (.tmp 6) (.tmp 7), none, []⟩,
 ⟨some 5, .move (.tmp 8), none, []⟩]
def k_ref05_Down_r2 : List AOper := [
  ⟨some 9, .move (.tmp 0), none, []⟩,
 ⟨some 10, .move (.tmp 1), none, []⟩,
 ⟨some 11, .bin .plain .rem (.tmp 9) (.tmp 10), none, []⟩,
 ⟨some 12, .bin .plain .lss (.tmp 11) (.const (.int .i64 0)), none, []⟩]
def k_ref05_Down_r3 : List AOper := [
  ⟨some 13, .move (.tmp 5), none, []⟩,
 ⟨some 14, .bin .plain .sub (.tmp 13) (.const (.int .i64 1)), none, []⟩,
 ⟨some 5, .move (.tmp 14), none, []⟩]
def k_ref05_Down_r4 : List AOper := [
  ⟨some 15, .move (.tmp 5), none, []⟩,
 ⟨some 4, .move (.tmp 15), none, []⟩]
def k_ref05_Down : AFun := { params := 2, ntmps := 16, body := (.seq (.reg k_ref05_Down_r0 false) (.seq (.reg k_ref05_Down_r1 false) (.seq (.seq (.reg k_ref05_Down_r2 false) (.cond (.tmp 12) (.reg k_ref05_Down_r3 false) .skip)) (.seq (.reg k_ref05_Down_r4 false) .ret)))), res := [.tmp 4] }
theorem k_ref05_Down_ok : cfun Try.prog Try.f127 = k_ref05_Down := by kernel_rfl

def k_ref05_Up_r0 : List AOper := [
  ⟨some 4, .move (.const (.int .i64 0)), none, []⟩]
def k_ref05_Up_r1 : List AOper := [
  ⟨some 5, .move (.tmp 0), none, []⟩,
 ⟨some 6, .neg (.tmp 5), none, []⟩,
 ⟨some 7, .move (.tmp 1), none, []⟩,
 ⟨some 8, .call (.const (.fn (.func 127) [] [])) [.tmp 6, .tmp 7], none, []⟩,
 ⟨some 9, .neg (.tmp 8), none, []⟩,
 ⟨some 4, .move (.tmp 9), none, []⟩]
def k_ref05_Up : AFun := { params := 2, ntmps := 10, body := (.seq (.reg k_ref05_Up_r0 false) (.seq (.reg k_ref05_Up_r1 false) .ret)), res := [.tmp 4] }
theorem k_ref05_Up_ok : cfun Try.prog Try.f128 = k_ref05_Up := by kernel_rfl


abbrev n_law05_GlassRelaxes : Nat := 15
theorem e_law05_GlassRelaxes : EntryOK Try.prog n_law05_GlassRelaxes k_law05_GlassRelaxes := ⟨Try.f15, Try.func15, k_law05_GlassRelaxes_ok, by kernel_rfl⟩
abbrev n_glass_Soak : Nat := 74
theorem e_glass_Soak : EntryOK Try.prog n_glass_Soak k_glass_Soak := ⟨Try.f74, Try.func74, k_glass_Soak_ok, by kernel_rfl⟩
abbrev n_ref05_Relaxes : Nat := 77
theorem e_ref05_Relaxes : EntryOK Try.prog n_ref05_Relaxes k_ref05_Relaxes := ⟨Try.f77, Try.func77, k_ref05_Relaxes_ok, by kernel_rfl⟩
abbrev n_glass_isStrain : Nat := 104
theorem e_glass_isStrain : EntryOK Try.prog n_glass_isStrain k_glass_isStrain := ⟨Try.f104, Try.func104, k_glass_isStrain_ok, by kernel_rfl⟩
abbrev n_glass_soaked : Nat := 124
theorem e_glass_soaked : EntryOK Try.prog n_glass_soaked k_glass_soaked := ⟨Try.f124, Try.func124, k_glass_soaked_ok, by kernel_rfl⟩
abbrev n_ref05_Down : Nat := 127
theorem e_ref05_Down : EntryOK Try.prog n_ref05_Down k_ref05_Down := ⟨Try.f127, Try.func127, k_ref05_Down_ok, by kernel_rfl⟩
abbrev n_ref05_Up : Nat := 128
theorem e_ref05_Up : EntryOK Try.prog n_ref05_Up k_ref05_Up := ⟨Try.f128, Try.func128, k_ref05_Up_ok, by kernel_rfl⟩

attribute [go_sem] k_law05_GlassRelaxes_r0 k_law05_GlassRelaxes_r1 k_law05_GlassRelaxes_r2 k_law05_GlassRelaxes_r3 k_law05_GlassRelaxes_r4s k_law05_GlassRelaxes_r5 k_law05_GlassRelaxes_r6 k_law05_GlassRelaxes_r7 k_law05_GlassRelaxes_r8 k_law05_GlassRelaxes_r9 k_law05_GlassRelaxes_r10 k_law05_GlassRelaxes_r11s
attribute [go_sem] k_law05_GlassRelaxes_r12 k_law05_GlassRelaxes_r13 k_law05_GlassRelaxes_r14 k_law05_GlassRelaxes_r15 k_law05_GlassRelaxes_r17 k_glass_Soak_r0 k_glass_Soak_r1 k_glass_Soak_r2 k_glass_Soak_r3 k_glass_Soak_r4 k_glass_Soak_r5 k_glass_Soak_r6
attribute [go_sem] k_glass_Soak_r7 k_glass_Soak_r8 k_glass_Soak_r9 k_glass_Soak_r10s k_ref05_Relaxes_r0 k_ref05_Relaxes_r1s k_glass_isStrain_r0 k_glass_isStrain_r1 k_glass_soaked_r0 k_glass_soaked_r1 k_glass_soaked_r2 k_glass_soaked_r3
attribute [go_sem] k_glass_soaked_r4 k_glass_soaked_r6 k_ref05_Down_r0 k_ref05_Down_r1 k_ref05_Down_r2 k_ref05_Down_r3 k_ref05_Down_r4 k_ref05_Up_r0 k_ref05_Up_r1 k_ref05_Relaxes_r1_sg k_law05_GlassRelaxes_r11_sg k_law05_GlassRelaxes_r4_sg
attribute [go_sem] k_glass_Soak_r10_sg k_ref05_Relaxes_r1_st k_law05_GlassRelaxes_r11_st k_law05_GlassRelaxes_r4_st k_glass_Soak_r10_st k_law05_GlassRelaxes k_glass_Soak k_ref05_Relaxes k_glass_isStrain k_glass_soaked k_ref05_Down k_ref05_Up
end Go.Proofs

namespace Go.Proofs
open Go Go.Sx
attribute [local irreducible] Run

def itr (f : Int → Int) : Nat → Int → Int
  | 0, x => x
  | n + 1, x => f (itr f n x)
theorem itr_in (f : Int → Int) (x : Int) : ∀ n, itr f n (f x) = itr f (n + 1) x
  | 0 => rfl
  | n + 1 => by rw [itr, itr_in f x n]; rfl
def skF (f : Int → Int) (lim : Int) : Nat → Int → Nat
  | 0, _ => 0
  | m + 1, x => if x > lim then skF f lim m (f x) + 1 else 0
theorem skF_le (f : Int → Int) (lim : Int) : ∀ m x, skF f lim m x ≤ m
  | 0, _ => Nat.le_refl _
  | m + 1, x => by
    rw [skF]; split
    · have := skF_le f lim m (f x); omega
    · omega
theorem skF_end (f : Int → Int) (lim : Int) : ∀ m x, skF f lim m x < m → itr f (skF f lim m x) x ≤ lim
  | 0, _, h => absurd h (Nat.not_lt_zero _)
  | m + 1, x, h => by
    rw [skF] at h ⊢
    split at h
    · rename_i hx
      rw [if_pos hx, ← itr_in]
      exact skF_end f lim m (f x) (by omega)
    · rename_i hx
      rw [if_neg hx]; show x ≤ lim; omega
theorem skF_step (f : Int → Int) (lim : Int) : ∀ m i x, (∀ k, k < i → itr f k x > lim) → i ≤ m → skF f lim m x = i + skF f lim (m - i) (itr f i x)
  | m, 0, x, _, _ => by simp [itr]
  | 0, i + 1, x, _, h => absurd h (Nat.not_succ_le_zero _)
  | m + 1, i + 1, x, h, hm => by
    have h0 : x > lim := h 0 (by omega)
    rw [skF, if_pos h0, skF_step f lim m i (f x) (fun k hk => by rw [itr_in]; exact h (k + 1) (by omega)) (by omega), itr_in]
    rw [show m + 1 - (i + 1) = m - i by omega]; omega
theorem skF_mono {f g : Int → Int} {lim : Int} (hl : 0 ≤ lim) (h : ∀ x y, 0 ≤ x → x ≤ y → f x ≤ g y) (hf : ∀ x, 0 ≤ x → 0 ≤ f x) : ∀ m x y, 0 ≤ x → x ≤ y → skF f lim m x ≤ skF g lim m y
  | 0, _, _, _, _ => Nat.le_refl _
  | m + 1, x, y, h0, hxy => by
    rw [skF, skF]
    split
    · rename_i hx
      rw [if_pos (by omega)]
      have := skF_mono hl h hf m (f x) (g y) (hf x h0) (h x y h0 hxy)
      omega
    · omega
theorem skF_lim {f : Int → Int} {l l' : Int} (h : l ≤ l') : ∀ m x, skF f l' m x ≤ skF f l m x
  | 0, _ => Nat.le_refl _
  | m + 1, x => by
    rw [skF, skF]
    split
    · rw [if_pos (by omega)]
      have := skF_lim (f := f) h m (f x); omega
    · omega
theorem mostL_mono {x y : Int} {z : Zn} (hz : ZnOK z) (h : x ≤ y) : mostL x z ≤ mostL y z := by
  have hq : 0 ≤ z.rlo ∧ z.rlo ≤ 1000000 := by have := hz.r; omega
  unfold mostL
  have e : y * z.rlo ≤ x * z.rlo + (y - x) * 1000000 := by
    have : (y - x) * z.rlo ≤ (y - x) * 1000000 := Int.mul_le_mul_of_nonneg_left hq.2 (by omega)
    rw [Int.sub_mul] at this; omega
  have := Int.ediv_le_ediv (c := 1000000) (by decide) e
  rw [Int.add_mul_ediv_right _ _ (by decide)] at this
  omega
theorem least_most {x : Int} {z : Zn} (hz : ZnOK z) (hx : 0 ≤ x) : leastL x z ≤ mostL x z := by
  have hq : z.rlo ≤ z.rhi := by have := hz.r; omega
  unfold leastL mostL
  have e : x * z.rlo ≤ x * z.rhi + 999999 := by
    have : x * z.rlo ≤ x * z.rhi := Int.mul_le_mul_of_nonneg_left hq hx
    omega
  have := Int.ediv_le_ediv (c := 1000000) (by decide) e
  omega
set_option maxHeartbeats 1000000 in
set_option maxRecDepth 20000 in
theorem soaked_run {x lim : Int} (hx : 0 ≤ x ∧ x ≤ capS) {z : Zn} (g : Nat) (f : Int → Int) (hf : ∀ y, 0 ≤ y → y ≤ capS → 0 ≤ f y ∧ f y ≤ y) (k : ∀ y, 0 ≤ y ∧ y ≤ capS → Ans Try.prog g [.int .i64 y, z.v] [] (.int .i64 (f y)) []) :
    Ans Try.prog n_glass_soaked [.int .i64 x, .int .i64 lim, z.v, .fn (.func g) [] []] [] (.int .i64 (skF f lim 5001 x)) [] := by
  have it : ∀ i, 0 ≤ itr f i x ∧ itr f i x ≤ capS := fun i => by
    induction i with
    | zero => exact hx
    | succ i ih => have := hf _ ih.1 ih.2; rw [itr]; omega
  refine spec_run e_glass_soaked fun G => ?_
  simp only [go_sem, Zn.v, Zn.cs] at k ⊢
  refine loop_ind k_glass_soaked_r5.eq_1 (fun i : Nat => i ≤ 5001 ∧ ∀ j, j < i → itr f j x > lim) (fun i => 5001 - i)
    (fun i => (tsets 24 [(0, .int .i64 (itr f i x)), (1, .int .i64 lim), (3, .fn (.func g) [] []), (6, .ptr 0 0 0 1), (9, .int .i64 i)], [some (.cells false 5 [.agg [.int .i64 z.f, .int .i64 z.glo, .int .i64 z.ghi, .int .i64 z.rlo, .int .i64 z.rhi]])])) 0 ⟨Nat.zero_le _, fun j hj => absurd hj (Nat.not_lt_zero _)⟩ (by simp [go_sem, itr]) rfl ?_
  intro i ⟨hi, hj⟩ ih
  dsimp only at ih ⊢
  by_cases c1 : itr f i x > lim
  · by_cases c2 : i ≤ 5000
    · have c3 : (i : Int) ≤ 5000 := by omega
      have w5 : IntKind.i64.wrap ((i : Int) + 1) = ((i + 1 : Nat) : Int) := by rw [w64 (by omega)]; rfl
      have ihk := ih (i + 1) (by omega) ⟨by omega, fun j hj2 => by
        rcases Nat.lt_or_ge j i with h | h
        · exact hj j h
        · obtain rfl : j = i := by omega
          exact c1⟩
      clear ih
      have kk := k (itr f i x) (it i)
      simp only [go_sem, c1, c3]
      refine cP kk ?_
      simp only [go_sem, w5]
      exact ihk _ (by simp [go_sem, itr])
    · obtain rfl : i = 5001 := by omega
      clear ih
      have e : skF f lim 5001 x = 5001 := by
        have h := skF_step f lim 5001 5001 x hj (Nat.le_refl _)
        rw [Nat.sub_self] at h
        rw [h]
        rfl
      rw [e]
      simp only [go_sem, c1]
      done
  · clear ih
    have e := skF_step f lim 5001 i x hj hi
    have e2 : skF f lim (5001 - i) (itr f i x) = 0 := by
      match 5001 - i with
      | 0 => rfl
      | m + 1 => rw [skF, if_neg c1]
    rw [e, e2]
    simp only [go_sem, c1]
    done
end Go.Proofs

namespace Go.Proofs
open Go Go.Sx
attribute [local irreducible] Run

theorem isStrain_yes {n : Int} (h : 0 ≤ n ∧ n ≤ capS) : Ans Try.prog n_glass_isStrain [.int .i64 n] [] (.bool true) [] := by
  refine spec_run e_glass_isStrain fun G => ?_
  simp only [go_sem]
  refine cP (gwithin_yes (n := n) (a := 0) (b := 1099511627776) h) ?_
  simp only [go_sem]
def soakL (zs : List Zn) (t lo lim : Int) : Nat := skF (fun x => leastL x (zAt zs t)) lim 5001 lo
def soakH (zs : List Zn) (t hi lim : Int) : Nat := skF (fun x => mostL x (zAt zs t)) lim 5001 hi
set_option maxHeartbeats 1000000 in
set_option maxRecDepth 20000 in
theorem Soak_run {brk : Int} {zs : List Zn} (h : StOK brk zs) {lo hi t lim : Int} (hr : 0 ≤ lo ∧ lo ≤ hi ∧ hi ≤ capS) (ht : 0 ≤ t ∧ t ≤ 2000) (hl : 0 ≤ lim ∧ lim ≤ capS) :
    Ans Try.prog n_glass_Soak [stV brk zs, r2 lo hi, .int .i64 t, .int .i64 lim] [] (.tup [r2 (soakL zs t lo lim) (soakH zs t hi lim), .int .i64 0]) [] := by
  have k1 := Check_run h.brk h.zs
  have k2 := checkRange_yes (m := 1099511627776) hr
  have k3 := isHeat_yes ht
  have k4 := isStrain_yes hl
  have k5 := zoneOf_run brk h.zs ht
  have hz : ZnOK (zAt zs t) := h.zs.all _ (zAt_mem t fun e => by have := h.zs.len; rw [e] at this; simp at this)
  unfold soakL soakH
  generalize zAt zs t = z at *
  have k6 := soaked_run (x := lo) (lim := lim) (by omega) n_glass_leastLeft (fun x => leastL x z) (fun y h0 h1 => leastL_in h0 hz) (fun y hy => leastLeft_run hy hz)
  have k7 := soaked_run (x := hi) (lim := lim) (by omega) n_glass_mostLeft (fun x => mostL x z) (fun y h0 h1 => mostL_in h0 hz) (fun y hy => mostLeft_run hy hz)
  generalize skF (fun x => leastL x z) lim 5001 lo = a at *
  generalize skF (fun x => mostL x z) lim 5001 hi = b at *
  refine spec_run e_glass_Soak fun G => ?_
  simp only [stV, r2, Zn.v, Zn.cs] at k1 k2 k5 k6 k7 ⊢
  simp only [go_sem]
  refine cP k1 ?_
  simp only [go_sem, bne]
  refine cP k2 ?_
  simp only [go_sem, bne]
  refine cP k3 ?_
  simp only [go_sem]
  refine cP k4 ?_
  simp only [go_sem]
  refine cP k5 ?_
  simp only [go_sem]
  refine dP k6 ?_
  simp only [go_sem]
  refine cP k7 ?_
  simp only [go_sem]
theorem down_run {n : Int} (h : -2000000000000000000 ≤ n ∧ n ≤ 2000000000000000000) : Ans Try.prog n_ref05_Down [.int .i64 n, .int .i64 1000000] [] (.int .i64 (n / 1000000)) [] := by
  have h1 := Int.emod_nonneg n (show (1000000 : Int) ≠ 0 by decide)
  have h2 := Int.emod_lt_of_pos n (show (0 : Int) < 1000000 by decide)
  have h3 := Int.mul_ediv_add_emod n 1000000
  have h4 := Int.mul_tdiv_add_tmod n 1000000
  have h5 : -1000000 < n.tmod 1000000 ∧ n.tmod 1000000 < 1000000 := ⟨by have := Int.lt_tmod_of_pos n (show (0 : Int) < 1000000 by decide); omega, Int.tmod_lt_of_pos n (by decide)⟩
  have h6 : 0 ≤ n → 0 ≤ n.tmod 1000000 := fun h => Int.tmod_nonneg _ h
  have h7 : n ≤ 0 → n.tmod 1000000 ≤ 0 := fun h => by
    have := Int.tmod_nonneg (a := -n) 1000000 (by omega)
    rw [Int.neg_tmod] at this; omega
  refine spec_run e_ref05_Down fun G => ?_
  generalize hq : n.tdiv 1000000 = q at *
  generalize hm : n.tmod 1000000 = m at *
  have w1 : IntKind.i64.wrap q = q := w64 (by omega)
  have w2 : IntKind.i64.wrap (q - 1) = q - 1 := w64 (by omega)
  by_cases c : m < 0
  · simp only [go_sem, hq, hm, w1, c, w2]
    omega
  · simp only [go_sem, hq, hm, w1, c]
    omega
theorem up_run {n : Int} (h : 0 ≤ n ∧ n ≤ 2000000000000000000) : Ans Try.prog n_ref05_Up [.int .i64 n, .int .i64 1000000] [] (.int .i64 ((n + 999999) / 1000000)) [] := by
  have k := down_run (n := -n) (by omega)
  have w1 : IntKind.i64.wrap (0 - n) = -n := by rw [w64 (by omega)]; omega
  have e : -(-n / 1000000) = (n + 999999) / 1000000 := by omega
  have w2 : IntKind.i64.wrap (0 - (-n / 1000000)) = (n + 999999) / 1000000 := by rw [show 0 - (-n / 1000000) = (n + 999999) / 1000000 by omega]; exact w64 (by omega)
  refine spec_run e_ref05_Up fun G => ?_
  simp only [go_sem, w1]
  refine cP k ?_
  simp only [go_sem, w2]
theorem relaxes_run {x : Int} (hx : 0 ≤ x ∧ x ≤ capS) {z : Zn} (hz : ZnOK z) : Ans Try.prog n_ref05_Relaxes [z.v, .int .i64 x, .int .i64 x] [] (r2 (x * z.rlo / 1000000) ((x * z.rhi + 999999) / 1000000)) [] := by
  have hr := hz.r
  have m1 := mul_bd (a := x) (b := z.rlo) (A := capS) (B := 1000000) hx (by omega)
  have m2 := mul_bd (a := x) (b := z.rhi) (A := capS) (B := 1000000) hx (by omega)
  unfold capS at m1 m2
  have w1 : IntKind.i64.wrap (x * z.rlo) = x * z.rlo := w64 (by omega)
  have w2 : IntKind.i64.wrap (x * z.rhi) = x * z.rhi := w64 (by omega)
  have k1 := down_run (n := x * z.rlo) (by omega)
  have k2 := up_run (n := x * z.rhi) (by omega)
  refine spec_run e_ref05_Relaxes fun G => ?_
  simp only [go_sem, Zn.v, Zn.cs, r2, w1, w2]
  refine dP k1 ?_
  simp only [go_sem, w2]
  refine cP k2 ?_
  simp only [go_sem]
theorem in_ok2 (w a b : Int) (h : 0 ≤ a ∧ a ≤ b ∧ b ≤ 2000000000000) : Ans Try.prog n_kit_Dice_In [.ptr 0 0 0 1, r2 a b] [some (Dr w)] (.int .i64 (btw w a b)) [some (Dr (dstep w))] := by
  have e : (if b > a then b else a) = b := by split <;> omega
  refine spec_run e_kit_Dice_In fun G => ?_
  simp only [go_sem, r2, e]
  refine cD (between_ok _ a b (by omega) h.2.1 (by omega)) ?_
  simp only [go_sem]
  exact ⟨_, rfl⟩
theorem range_ok (w lo hi : Int) (h1 : -1152921504606846976 ≤ lo) (h2 : lo ≤ hi) (h3 : hi ≤ 1152921504606846976) : Ans Try.prog n_kit_Dice_Range [.ptr 0 0 0 1, .int .i64 lo, .int .i64 hi] [some (Dr w)] (rngR w lo hi).v [some (Dr (dstep (dstep w)))] := by
  refine spec_run e_kit_Dice_Range fun G => ?_
  simp only [go_sem]
  refine callD (between_ok w lo hi h1 h2 h3) rfl ⟨.int _ _, .int _ _, trivial⟩ (.int _ _) (dr_bel _ _) (dr_bel _ _) (by simp) (by simp) ?_
  simp only [go_sem]
  refine callD (between_ok (dstep w) lo hi h1 h2 h3) rfl ⟨.int _ _, .int _ _, trivial⟩ (.int _ _) (dr_bel _ _) (dr_bel _ _) (by simp) (by simp) ?_
  simp only [go_sem]
  exact ⟨rfl, _, rfl⟩
end Go.Proofs

namespace Go.Proofs
open Go Go.Sx
attribute [local irreducible] Run

theorem soak_facts {zs : List Zn} (hz : ZsOK zs) {t lo hi l l' : Int} (h0 : 0 ≤ lo) (h : lo ≤ hi) (hl : 0 ≤ l) (hll : l ≤ l') :
    soakL zs t lo l ≤ soakH zs t hi l ∧ soakL zs t lo l' ≤ soakL zs t lo l ∧ soakH zs t hi l' ≤ soakH zs t hi l ∧ soakH zs t hi l ≤ 5001 := by
  have ok : ZnOK (zAt zs t) := hz.all _ (zAt_mem t fun e => by have := hz.len; rw [e] at this; simp at this)
  refine ⟨?_, skF_lim hll _ _, skF_lim hll _ _, skF_le _ _ _ _⟩
  exact skF_mono hl (fun x y hx hxy => Int.le_trans (least_most ok hx) (mostL_mono ok hxy)) (fun x hx => (leastL_in hx ok).1) _ _ _ h0 h
theorem pick3 {i : Int} (h : 0 ≤ i ∧ i < 3) : ∃ hi : Int, 0 ≤ hi ∧ hi ≤ capS ∧ ([.int .i64 99, .int .i64 100000, .int .i64 1099511627776] : List AVal)[i.toNat]? = some (.int .i64 hi) := by
  obtain rfl | rfl | rfl : i = 0 ∨ i = 1 ∨ i = 2 := by omega
  · exact ⟨99, by decide, by decide, rfl⟩
  · exact ⟨100000, by decide, by decide, rfl⟩
  · exact ⟨1099511627776, by decide, by decide, rfl⟩
theorem min_if (a b : Int) : (if b < a then b else a) ≤ (if b > a then b else a) ∧ (if b < a then b else a) ≤ a ∧ ((if b < a then b else a) = a ∨ (if b < a then b else a) = b) ∧ ((if b > a then b else a) = a ∨ (if b > a then b else a) = b) := by
  split <;> split <;> omega
set_option maxHeartbeats 8000000 in
set_option maxRecDepth 20000 in
theorem relaxes_law (zs : List Int) (hl : zs.length ≤ 9223372036854775807) (a1 a2 a3 : Int) : Ans Try.prog n_law05_GlassRelaxes [.view (zs.map (.int .i64)), .int .i64 a1, .int .i64 a2, .int .i64 a3] [] (.bool true) [] := by
  have m1 := mod_in a1 2001 (by omega)
  have e1 := mod_pos a1 2001 (by omega)
  obtain ⟨t, ht⟩ : ∃ t, a1 % 2001 = t := ⟨_, rfl⟩
  rw [ht] at m1 e1
  refine spec_run e_law05_GlassRelaxes fun G => ?_
  simp only [go_sem]
  refine callN1 (newdice_ok zs hl) (by simp only [go_sem]) (dr_bel _ _) (by simp) (by simp) ?_
  generalize seedW zs = w
  simp only [go_sem]
  refine callDN (stuffOf_run w) rfl (by simp only [go_sem]) (dr_bel _ _) (fun a ha => ⟨by simp [go_sem], dr_bel _ _, by rw [row_bel_cells]; simp only [go_sem]⟩) (by simp) (by simp) ?_
  rintro ⟨brk, z, w1⟩ h1
  dsimp only at h1 ⊢
  simp only [go_sem, ren, rens]
  refine cD (upto_ok w1 3 (by decide)) ?_
  have u1 := upto_in (w := w1) (n := 3) (by decide)
  obtain ⟨i3, hi3⟩ : ∃ i, upto w1 3 = i := ⟨_, rfl⟩
  rw [hi3] at u1 ⊢
  obtain ⟨hi, hi0, hi1, hg⟩ := pick3 u1
  have n3 : ¬ i3 < 0 := by omega
  have l3 : i3 < 3 := by omega
  simp only [go_sem, n3, l3, hg]
  refine cD (range_ok (dstep w1) 0 hi (by decide) hi0 (by unfold capS at hi1; omega)) ?_
  have rb := rngR_in (w := dstep w1) (lo := 0) (hi := hi) hi0
  obtain ⟨r, hr⟩ : ∃ r, rngR (dstep w1) 0 hi = r := ⟨_, rfl⟩
  rw [hr] at rb ⊢
  obtain ⟨w2, hw2⟩ : ∃ w2, dstep (dstep (dstep w1)) = w2 := ⟨_, rfl⟩
  rw [hw2]
  clear hw2 hr hi3 hg n3 l3 u1
  obtain ⟨lo, hh⟩ := r
  dsimp only at rb
  have wh : IntKind.i64.wrap (hh + 1) = hh + 1 := w64 (by unfold capS at hi1; omega)
  have e2 := mod_pos a2 (hh + 1) (by unfold capS at hi1; omega)
  have e3 := mod_pos a3 (hh + 1) (by unfold capS at hi1; omega)
  have m2 := mod_in a2 (hh + 1) (by omega)
  have m3 := mod_in a3 (hh + 1) (by omega)
  obtain ⟨p, hp⟩ : ∃ p, a2 % (hh + 1) = p := ⟨_, rfl⟩
  obtain ⟨q, hq⟩ : ∃ q, a3 % (hh + 1) = q := ⟨_, rfl⟩
  rw [hp] at e2 m2
  rw [hq] at e3 m3
  clear hp hq
  simp only [go_sem, Rg.v]
  refine dP e1 ?_
  simp only [go_sem, wh]
  refine dP e2 ?_
  simp only [go_sem, wh]
  refine cP e3 ?_
  simp only [go_sem]
  have mf := min_if p q
  obtain ⟨lm, hlm⟩ : ∃ l, (if q < p then q else p) = l := ⟨_, rfl⟩
  obtain ⟨lx, hlx⟩ : ∃ l, (if q > p then q else p) = l := ⟨_, rfl⟩
  rw [hlm, hlx] at mf
  simp only [hlm, hlx]
  have k1 := Soak_run h1 (lo := lo) (hi := hh) (t := t) (lim := lm) (by omega) (by omega) (by omega)
  have k2 := Soak_run h1 (lo := lo) (hi := hh) (t := t) (lim := lx) (by omega) (by omega) (by omega)
  have sf := soak_facts h1.zs (t := t) (lo := lo) (hi := hh) (l := lm) (l' := lx) (by omega) (by omega) (by omega) mf.1
  have se : soakH z t hh lm < 5001 → itr (fun x => mostL x (zAt z t)) (soakH z t hh lm) hh ≤ lm := skF_end _ _ _ _
  generalize soakL z t lo lm = s1 at *
  generalize soakH z t hh lm = s2 at *
  generalize soakL z t lo lx = s3 at *
  generalize soakH z t hh lx = s4 at *
  simp only [r2] at k1 k2
  refine cF k1 6 ⟨.inl (st_frz (g := true) rfl rfl), .inl rfl, .inl rfl, .inl rfl, trivial⟩ ?_
  simp only [go_sem, hlx]
  refine cF k2 6 ⟨.inl (st_frz (g := true) rfl rfl), .inl rfl, .inl rfl, .inl rfl, trivial⟩ ?_
  have c1 : ¬ (s1 : Int) > s2 := by omega
  have c2 : ¬ (s3 : Int) > s1 := by omega
  have c3 : ¬ (s4 : Int) > s2 := by omega
  have c4 : ¬ (s1 : Int) < 0 := by omega
  have c5 : ¬ (s2 : Int) > 5001 := by omega
  simp only [go_sem, bne, c1, c2, c3, c4, c5]
  by_cases c6 : (s2 : Int) > 5000
  · simp only [go_sem, c6]
    refine cP awake_ok ?_
    simp only [go_sem]
  simp only [go_sem, c6]
  have se2 := se (by omega)
  clear se sf k1 k2 c1 c2 c3 c4 c5 e1 e2 e3
  refine dD (in_ok2 w2 lo hh (by unfold capS at hi1; omega)) ?_
  have bb := btw_in (w := w2) (lo := lo) (hi := hh) (by omega)
  obtain ⟨n0, hn0⟩ : ∃ n, btw w2 lo hh = n := ⟨_, rfl⟩
  rw [hn0] at bb ⊢
  obtain ⟨w3, hw3⟩ : ∃ w, dstep w2 = w := ⟨_, rfl⟩
  rw [hw3]
  clear hn0 hw3
  have kz := rZoneOf_run brk h1.zs (t := t) (by omega)
  have ok : ZnOK (zAt z t) := h1.zs.all _ (zAt_mem t fun e => by have := h1.zs.len; rw [e] at this; simp at this)
  generalize zAt z t = zn at *
  simp only [go_sem]
  refine dF kz 6 [1] ⟨.inl (st_frz (g := true) rfl rfl), .inl rfl, trivial⟩ ?_ (hr := by unfold Zn.v Zn.cs; simp only [go_sem]) (hnv := by unfold Zn.v Zn.cs; simp only [go_sem])
  simp only [go_sem, Zn.v, Zn.cs]
  refine loop_ind k_law05_GlassRelaxes_r16.eq_1 (fun a : Nat × Int × Int => a.1 ≤ s2 ∧ 0 ≤ a.2.1 ∧ a.2.1 ≤ itr (fun x => mostL x zn) a.1 hh ∧ a.2.1 ≤ capS) (fun a => s2 - a.1)
    (fun a => (tsets 131 [(1, .int .i64 t), (2, .int .i64 p), (3, .int .i64 q), (9, .ptr 0 0 0 1), (12, .ptr 5 0 0 1), (16, .int .i64 a.2.1), (17, .ptr 7 0 0 1), (18, .int .i64 a.1)],
      [some (Dr a.2.2), some (.cells true 5 (z.map Zn.v)), some (.cells false 2 [.agg [.int .i64 brk, .sl 1 0 z.length]]), some (.cells false 1 [.int .i64 99, .int .i64 100000, .int .i64 1099511627776]),
        some (.cells false 2 [.agg [.int .i64 lo, .int .i64 hh]]), some (.cells false 2 [.agg [.int .i64 s1, .int .i64 s2]]), some (.cells false 2 [.agg [.int .i64 s3, .int .i64 s4]]), some (.cells false 5 [.agg [.int .i64 zn.f, .int .i64 zn.glo, .int .i64 zn.ghi, .int .i64 zn.rlo, .int .i64 zn.rhi]])])) (0, n0, w3) ⟨Nat.zero_le _, by dsimp only; omega, bb.2, by dsimp only; unfold capS at *; omega⟩ (by simp [go_sem]) (by rfl) ?_
  rintro ⟨i, n, w'⟩ ⟨hi, hn0, hn1, hn2⟩ ih
  dsimp only at hi hn0 hn1 hn2 ih ⊢
  by_cases i1 : i < s2
  · have i2 : (i : Int) < s2 := by omega
    have w5 : IntKind.i64.wrap ((i : Int) + 1) = ((i + 1 : Nat) : Int) := by rw [w64 (by omega)]; rfl
    have kr := relaxes_run (x := n) ⟨hn0, hn2⟩ ok
    have r1 := left_in (x := n) (q := zn.rlo) (m := 0) hn0 (by have := ok.r; omega) (by decide)
    have r3 := left_in (x := n) (q := zn.rhi) (m := 999999) hn0 (by have := ok.r; omega) (by decide)
    rw [Int.add_zero] at r1
    have lm2 := least_most ok hn0
    have mm := mostL_mono ok hn1
    unfold leastL mostL at lm2
    have ihn := fun n' w'' h => ih (i + 1, n', w'') (by simp only; omega) h
    clear ih
    dsimp only at ihn
    rw [show itr (fun x => mostL x zn) (i + 1) hh = mostL (itr (fun x => mostL x zn) i hh) zn from rfl] at ihn
    generalize itr (fun x => mostL x zn) i hh = top at *
    unfold mostL at mm ihn
    generalize n * zn.rlo / 1000000 = ra at *
    generalize (n * zn.rhi + 999999) / 1000000 = rb' at *
    generalize top * zn.rlo / 1000000 = rt at *
    have kd := in_ok2 w' ra rb' (by unfold capS at hn2; omega)
    have bd := btw_in (w := w') (lo := ra) (hi := rb') (by omega)
    generalize btw w' ra rb' = dd at *
    generalize dstep w' = wn at *
    have ws : IntKind.i64.wrap (n - dd) = n - dd := w64 (by unfold capS at hn2; omega)
    simp only [r2] at kr kd
    simp only [Zn.v, Zn.cs] at kr
    simp only [go_sem, i2]
    refine cP kr ?_
    simp only [go_sem]
    refine cD kd ?_
    simp only [go_sem, ws, w5]
    exact ihn (n - dd) wn ⟨by omega, by omega, by omega, by omega⟩ _ (by simp [go_sem])
  · obtain rfl : i = s2 := by omega
    have i2 : ¬ (i : Int) < i := by omega
    have le : n ≤ lm := by omega
    clear ih
    simp only [go_sem, i2, hlm, le]
    refine cP awake_ok ?_
    simp only [go_sem]
end Go.Proofs

