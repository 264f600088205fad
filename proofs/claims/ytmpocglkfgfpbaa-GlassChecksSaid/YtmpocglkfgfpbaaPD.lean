/- A part of the proof. -/
import Derived.Test.YtmpocglkfgfpbaaPC
set_option linter.unusedSimpArgs false
set_option linter.unusedVariables false
namespace Go.Proofs
open Go Go.Sx
attribute [local irreducible] Run

section
variable {P : Program} {G : Ctx} {k : Nat} {rd : Option Nat} {R : Runner} {l : List AOper} {fs : List Sx.Frame} {ρ : List AVal} {H : Heap} {ms : List Nat} {Q : Sx.Goal} {dst : Option Nat} {x y : Row} {g : FuncId} {args : List AVal} {r : AVal}
theorem cN2 (h : Ans P g args [] r [some x, some y]) (hK : R (.ops l) fs ⟨setD ρ dst (ren (fun i => H.length + i) r), H ++ [some x, some y], ms⟩ Q)
    (hb : Bels (fun _ => False) args := by simp only [go_sem]) (hr : Bel (· < 2) r := by simp [go_sem]) (hx : x.bel (fun _ => False) := by first | (simp only [go_sem]; done) | (rw [row_bel_cells]; simp only [go_sem])) (hy : y.bel (fun _ => False) := by first | (simp only [go_sem]; done) | (rw [row_bel_cells]; simp only [go_sem])) (hk : k ≤ H.length := by simp) (hms : ∀ q ∈ ms, H[q]? = some (some .dfr) := by simp) : CallR P G k R g args dst l fs ρ H ms Q := by
  have e : outΔ (outσ [] H.length) 0 [some x, some y] = [(H.length, x), (H.length + 1, y)] := by
    simp only [outΔ, Row.ren_same hx, Row.ren_same hy]
    rfl
  have eσ : outσ [] H.length = fun i => H.length + i := by funext i; simp [outσ]
  refine callS h [] (by simp) trivial (by
    conv => lhs; rw [← List.map_id args]
    exact List.map_congr_left fun v hv => (ren_same (bels_mem hb v hv)).symm) (bels_of fun v hv => (bels_mem hb v hv).mono fun _ h => h.elim) trivial (by simp) (by simpa using hr)
    ⟨bel_mono_row hx fun _ h => h.elim, bel_mono_row hy fun _ h => h.elim, trivial⟩ (fun q hq => by simp at hq) hk (fun q hq => ?_) ?_
  · refine ⟨?_, hms q hq⟩
    rw [e]
    have := (List.getElem?_eq_some_iff.1 (hms q hq)).1
    simp; omega
  · rw [e, eσ]
    have e3 : Heap.put (H ++ [some x]) (H.length + 1) y = H ++ [some x, some y] := by
      have := Heap.put_end (H ++ [some x]) y
      simpa using this
    simp only [Heap.puts, Heap.put_end, e3]
    exact hK
end

theorem wcheck_yes {brk : Int} {zs : List Zn} (h : StOK brk zs) {th : Int} (hth : 1 ≤ th ∧ th ≤ 1000) : Ans Try.prog n_glass_wall_check [wlV brk zs th] [] (.int .i64 0) [] := by
  have kc := Check_run h.brk h.zs
  simp only [stV] at kc
  refine spec_run e_glass_wall_check fun G => ?_
  simp only [go_sem, wlV]
  refine cP kc ?_
  simp only [go_sem]
  refine cP (gwithin_yes hth) ?_
  simp only [go_sem]
set_option maxRecDepth 10000 in
theorem CheckOven_yes {f : Int} {ls : List Lg} (h : OvOK f ls) : Ans Try.prog n_glass_CheckOven [ovV f ls] [] (.int .i64 0) [] := by
  have hn := h.len
  refine spec_run e_glass_CheckOven fun G => ?_
  simp only [go_sem, ovV]
  refine cP (isHeat_yes h.f) ?_
  have n2 : ¬ (ls.length : Int) > 20 := by omega
  simp only [go_sem, n2, List.length_map]
  refine loop_ind k_glass_CheckOven_r11.eq_1 (fun s : Nat × Heap => s.1 ≤ ls.length) (fun s => ls.length - s.1)
    (fun s => (tsets 31 [(1, .ptr 0 0 0 1), (2, .int .i64 0), (14, .view (ls.map Lg.v)), (15, .int .i64 ls.length), (16, .int .i64 s.1)], some (.cells false 2 [.agg [.int .i64 f, .view (ls.map Lg.v)]]) :: s.2)) (0, []) (Nat.zero_le _) (by simp [go_sem]) rfl ?_
  rintro ⟨i, X⟩ hi ih
  dsimp only at hi ih ⊢
  by_cases h1 : i < ls.length
  · have h2 : (i : Int) < ls.length := by omega
    have n0 : ¬ (i : Int) < 0 := by omega
    have h3 : IntKind.i64.wrap ((i : Int) + 1) = ((i + 1 : Nat) : Int) := by rw [w64 (by omega)]; rfl
    obtain ⟨z, hzi⟩ : ∃ z, ls[i]? = some z := ⟨_, List.getElem?_eq_getElem h1⟩
    have hzo := h.all z (List.mem_of_getElem? hzi)
    have ihn := fun Y => ih (i + 1, Y) (by dsimp only; omega) h1
    clear ih
    simp only [go_sem, h2, n0, hzi, Lg.v]
    refine cP (gwithin_yes hzo.tk) ?_
    simp only [go_sem]
    refine cP (isHeat_yes hzo.ht) ?_
    simp only [go_sem, h3]
    exact ihn _ _ (by simp [go_sem])
  · have h2 : ¬ (i : Int) < ls.length := by omega
    simp only [go_sem, h2]
theorem checkHeated_yes {brk : Int} {zs : List Zn} (h : StOK brk zs) {th : Int} (hth : 1 ≤ th ∧ th ≤ 1000) {f : Int} {ls : List Lg} (ho : OvOK f ls) : Ans Try.prog n_glass_checkHeated [wlV brk zs th, ovV f ls] [] (.int .i64 0) [] := by
  have k1 := wcheck_yes h hth
  have k2 := CheckOven_yes ho
  simp only [wlV, ovV] at k1 k2
  refine spec_run e_glass_checkHeated fun G => ?_
  simp only [go_sem, wlV, ovV]
  refine cP k1 ?_
  simp only [go_sem]
  refine cP k2 ?_
  simp only [go_sem]
theorem wstrains_run (brk : Int) (zs : List Zn) (th f : Int) (ls : List Lg) : Ans Try.prog n_glass_wall_strains [wlV brk zs th, ovV f ls] [] (.fn (.func n_glass_wall_strains_1) [] [.ptr 1 0 0 1, .ptr 0 0 0 1]) [some (.cells false 3 [wlV brk zs th]), some (.cells false 2 [ovV f ls])] := by
  refine spec_run e_glass_wall_strains fun G => ?_
  simp only [go_sem, ovV, wlV]
  exact ⟨_, rfl⟩

def aftS (zs : List Zn) (th : Int) (ts : List Tk) (n : Nat) : Nat → List (Int × Int)
  | 0 => List.replicate n (0, 0)
  | i + 1 => match ts[i]? with
    | some t => (aftS zs th ts n i).set t.n.toNat (stAt zs th ts (i + 1))
    | none => aftS zs th ts n i
theorem aftS_len {zs : List Zn} {th : Int} {ts : List Tk} {n : Nat} : ∀ i, (aftS zs th ts n i).length = n
  | 0 => by simp [aftS]
  | i + 1 => by
    rw [aftS]; split
    · rw [List.length_set]; exact aftS_len i
    · exact aftS_len i
theorem aftS_succ {zs : List Zn} {th : Int} {ts : List Tk} {n i : Nat} {t : Tk} (h : ts[i]? = some t) : aftS zs th ts n (i + 1) = (aftS zs th ts n i).set t.n.toNat (stAt zs th ts (i + 1)) := by
  rw [aftS, h]
theorem allT_n : ∀ {ls : List Lg} {n b : Int}, ∀ t ∈ allT n b ls, n ≤ t.n ∧ t.n < n + ls.length
  | [], _, _, t, ht => by simp [allT] at ht
  | l :: r, n, b, t, ht => by
    rw [allT] at ht
    rw [List.length_cons]; push_cast
    rcases List.mem_append.1 ht with h1 | h1
    · unfold legT at h1
      obtain ⟨i, _, rfl⟩ := List.mem_map.1 h1
      dsimp only; omega
    · have := allT_n t h1
      omega
def rv (p : Int × Int) : AVal := r2 p.1 p.2
theorem rv_set (l : List (Int × Int)) (i : Nat) (p : Int × Int) : (l.set i p).map rv = (l.map rv).set i (rv p) := List.map_set
def snT : List (Nat × AVal) := [(0, .any), (6, .nilsl), (7, .int .i64 0), (10, .ptr 4 0 0 1), (28, .fn (.func n_glass_wall_strains_1) [] [.ptr 6 0 0 1, .ptr 5 0 0 1])]
def snL (st : LoopState) (pe : Option ACode) : Row := .loop (tsets 36 snT) [29, 30] k_glass_Strain_r10 k_glass_Strain_r11 7 st pe
def snH (brk : Int) (zs : List Zn) (th f : Int) (ls : List Lg) (a : List (Int × Int)) (x : Row) (X : Heap) : Heap :=
  [some (.cells false 2 [stV brk zs]), some (.cells false 2 [ovV f ls]), some (.cells false 3 [wlV brk zs th]), some (.cells false 2 (a.map rv)), some (.cells false 1 [.sl 3 0 ls.length]), some (.cells false 3 [wlV brk zs th]), some (.cells false 2 [ovV f ls]), some .dfr, some x] ++ X

set_option maxHeartbeats 4000000 in
set_option maxRecDepth 10000 in
theorem Strain_run {brk : Int} {zs : List Zn} (h : StOK brk zs) {th : Int} (hth : 1 ≤ th ∧ th ≤ 1000) {f : Int} {ls : List Lg} (ho : OvOK f ls) :
    Ans Try.prog n_glass_Strain [stV brk zs, .int .i64 th, ovV f ls] [] (.tup [.sl 0 0 ls.length, .int .i64 0]) [some (.cells false 2 ((aftS zs th (allT 0 f ls) ls.length (allT 0 f ls).length).map rv))] := by
  have k1 := checkHeated_yes h hth ho
  have k2 := wstrains_run brk zs th f ls
  have hlen := ho.len
  simp only [wlV, ovV] at k1 k2
  have rvb : ∀ (l : List (Int × Int)) (S : Nat → Prop), Bels S (l.map rv) = True := fun l S => eq_true (bels_map _ _ fun z => by simp only [go_sem, rv, r2])
  refine Ans.keep (run_fn e_glass_Strain fun G => ?_) (by simp) (by simp [go_sem]) ⟨by rw [row_bel_cells]; simp only [rvb], trivial⟩
  simp only [go_sem, stV, ovV]
  refine cP k1 ?_
  have hl0 : ¬ (ls.length : Int) < 0 := by omega
  have hmk : (0 : Int) ≤ ls.length ∧ (ls.length : Int) ≤ ls.length ∧ (ls.length : Int) ≤ 2 ^ 44 ∧ (ls.length : Int) * 16 ≤ 2 ^ 44 := by omega
  simp only [go_sem, hl0]
  refine ⟨hmk, ?_⟩
  refine cN2 k2 ?_
  simp only [go_sem, ren, rens]
  have e0 : List.replicate ls.length (AVal.agg [AVal.int IntKind.i64 0, AVal.int IntKind.i64 0]) = (aftS zs th (allT 0 f ls) ls.length 0).map rv := by
    simp [aftS, rv, r2]
  rw [e0]
  refine rangeF 2000 (ρ := tsets 36 snT) (by simp [go_sem, snT]) (by simp only [go_sem, snT]; rfl)
    (strains_iter (r := 8) (jo := 6) (jw := 5) (N := 9) (brk := brk) h.zs hth ho
      (Pre := fun i H => ∃ X, H = snH brk zs th f ls (aftS zs th (allT 0 f ls) ls.length i) (snL .ready none) X)
      (Stop := fun _ => False) ⟨?_, ?_, ?_, ?_, ?_⟩ ⟨[], rfl⟩) (by simp) ?_
  · rintro i H ⟨X, rfl⟩
    exact ⟨by simp [snH], rfl, rfl⟩
  · rintro i H x ⟨X, rfl⟩
    exact ⟨X ++ [x], by simp [snH]⟩
  · rintro i H q x hq ⟨X, rfl⟩
    refine ⟨X.set (q - 9) x, ?_⟩
    unfold snH
    rw [List.set_append_right _ _ (by simp; omega)]; rfl
  · intro H q x _ h; exact h
  · rintro i t H hi ⟨X, rfl⟩
    have hn := allT_n t (List.mem_of_getElem? hi)
    rw [aftS_succ hi]
    have hal := aftS_len (zs := zs) (th := th) (ts := allT 0 f ls) (n := ls.length) i
    generalize aftS zs th (allT 0 f ls) ls.length i = A at *
    generalize stAt zs th (allT 0 f ls) (i + 1) = p at *
    refine RoundW.mono (R := fun w H' => w = .bool true ∧ ∃ Y, H' = snH brk zs th f ls (A.set t.n.toNat p) (snL .ready none) (X ++ Y)) ?_ ?_
    rotate_left
    · rintro w H' ⟨rfl, Y, rfl⟩
      exact ⟨tail_keep rfl rfl, .inl ⟨rfl, _, rfl⟩⟩
    generalize hR : (fun (w : AVal) (H' : Heap) => w = .bool true ∧ ∃ Y, H' = snH brk zs th f ls (A.set t.n.toNat p) (snL .ready none) (X ++ Y)) = R
    have hfin : ∀ Y, R (.bool true) (snH brk zs th f ls (A.set t.n.toNat p) (snL .ready none) (X ++ Y)) := fun Y => by rw [← hR]; exact ⟨rfl, Y, rfl⟩
    clear hR
    have hi0 : ¬ t.n < 0 := by omega
    have hi1 : t.n < (ls.length : Int) := by omega
    have hi2 : t.n.toNat < ls.length := by omega
    refine roundW_run 500 k_glass_Strain_r10.eq_1 rfl rfl (ρ' := tsets 36 (snT ++ [(29, .int .i64 t.n), (30, r2 p.1 p.2)])) rfl ?_
    simp only [go_sem, snT, snH, r2]
    refine roundMid_run 500 k_glass_Strain_r11.eq_1 rfl rfl ?_
    obtain ⟨a, ha⟩ : ∃ a, A[t.n.toNat]? = some a := ⟨_, List.getElem?_eq_getElem (by omega)⟩
    have hs : (A.map rv).set t.n.toNat (AVal.agg [AVal.int IntKind.i64 p.1, AVal.int IntKind.i64 p.2]) = (A.set t.n.toNat p).map rv := (rv_set A _ p).symm
    have ea : rv a = AVal.agg [AVal.int IntKind.i64 a.1, AVal.int IntKind.i64 a.2] := rfl
    simp only [go_sem, hi0, hi1, ha, ea, hs]
    refine roundEnd_on rfl ?_
    simp only [go_sem]
    simp only [snH, snL] at hfin
    exact hfin [_]
  · rintro v H' ⟨rfl, ⟨X, rfl⟩ | h⟩
    · refine ⟨fun q hq => by simp at hq; subst hq; rfl, _, _, _, _, _, _, _, rfl, by decide, ?_⟩
      simp only [go_sem, snH, snT]
      refine ⟨by simp, kept_one 3 ?_ ?_ rfl⟩
      · simp [ren, rens]
      · rw [row_bel_cells]; simp only [rvb]
    · exact h.elim
end Go.Proofs

namespace Go.Proofs
open Go Go.Sx
attribute [local irreducible] Run

theorem span_run (a b : Int) : Ans Try.prog n_law05_span [.int .i64 a, .int .i64 b] [] (r2 a b) [] := by
  refine spec_run e_law05_span fun G => ?_
  simp only [go_sem, r2]
def wallZ : List Zn := [⟨0, 9000, 10000, 0, 0⟩, ⟨700, 20000, 20000, 500000, 500000⟩]
def leadZ : List Zn := [⟨0, 9500, 9500, 0, 0⟩]
def joinsV : AVal := .view [.agg [.int .i64 900, .int .i64 950, .nilsl], .agg [.int .i64 1000, .int .i64 1100, .nilsl], .agg [.int .i64 950, .int .i64 950, .view [.int .i64 0]]]
theorem wall_run : Ans Try.prog n_law05_wall [] [] (.agg [.int .i64 500000, .sl 0 0 2]) [some (.cells false 5 (wallZ.map Zn.v))] := by
  refine Ans.keep (run_fn e_law05_wall fun G => ?_) (by simp) (by simp [go_sem]) ⟨by rw [row_bel_cells]; simp only [go_sem], trivial⟩
  have s1 := span_run 9000 10000
  have s2 := span_run 20000 20000
  have s3 := span_run 500000 500000
  simp only [r2] at s1 s2 s3
  simp only [go_sem]
  refine cP s1 ?_
  simp only [go_sem]
  refine cP s2 ?_
  simp only [go_sem]
  refine cP s3 ?_
  simp only [go_sem]
  refine kept_one 1 ?_ ?_ rfl
  · simp [ren, rens]
  · rw [row_bel_cells]; simp only [go_sem]
theorem lead_run : Ans Try.prog n_law05_lead [] [] (.agg [.int .i64 2000000, .sl 0 0 1]) [some (.cells false 5 (leadZ.map Zn.v))] := by
  refine Ans.keep (run_fn e_law05_lead fun G => ?_) (by simp) (by simp [go_sem]) ⟨by rw [row_bel_cells]; simp only [go_sem], trivial⟩
  have s1 := span_run 9500 9500
  simp only [r2] at s1
  simp only [go_sem]
  refine cP s1 ?_
  simp only [go_sem]
  refine kept_one 1 ?_ ?_ rfl
  · simp [ren, rens]
  · rw [row_bel_cells]; simp only [go_sem]
theorem wall_ok : StOK 500000 wallZ := ⟨by omega, by simp [wallZ], by
  intro z hz
  simp [wallZ] at hz
  rcases hz with rfl | rfl <;> exact ⟨by simp, by simp, by simp⟩, by intro z hz; simp [wallZ] at hz; subst hz; rfl, by
  intro i y z h1 h2
  rcases i with _ | _ | i
  · simp [wallZ] at h1 h2; subst h1; subst h2; decide
  · simp [wallZ] at h2
  · simp [wallZ] at h2⟩
theorem lead_ok : StOK 2000000 leadZ := ⟨by omega, by simp [leadZ], by
  intro z hz
  simp [leadZ] at hz
  subst hz; exact ⟨by simp, by simp, by simp⟩, by intro z hz; simp [leadZ] at hz; subst hz; rfl, by
  intro i y z h1 h2
  rcases i with _ | i
  · simp [leadZ] at h2
  · simp [leadZ] at h2⟩
theorem seal_val : sealR 500000 2000000 wallZ leadZ 800 300 = (2, 752) := by kernel_rfl
def ovL : List Lg := [⟨10, 700⟩, ⟨100, 300⟩]
theorem ov_ok : OvOK 800 ovL := ⟨by omega, by simp [ovL], by
  intro z hz
  simp [ovL] at hz
  rcases hz with rfl | rfl <;> exact ⟨by simp, by simp⟩⟩
theorem strain_val : aftS wallZ 100 (allT 0 800 ovL) 2 (allT 0 800 ovL).length = [(399609, 399610), (3999609, 4399610)] := by kernel_rfl
end Go.Proofs

namespace Go.Proofs
open Go Go.Sx
def fchk : Option (AVal × Heap) → Bool
  | some (.tup [.sl 6 0 3, .int .i64 0], [_, _, _, _, _, _, some (.cells true 1 [.int .i64 1, .int .i64 0, .int .i64 2])]) => true
  | _ => false
theorem fchk_eq {o : Option (AVal × Heap)} (h : fchk o = true) : ∃ H', o = some (.tup [.sl 6 0 3, .int .i64 0], H') ∧ H'[6]? = some (some (.cells true 1 [.int .i64 1, .int .i64 0, .int .i64 2])) := by
  unfold fchk at h
  split at h
  · exact ⟨_, rfl, rfl⟩
  · cases h
theorem first_ex : fchk (exFn tab 3000 40 n_glass_First [joinsV] []) = true := by kernel_rfl
theorem First_run : Ans Try.prog n_glass_First [joinsV] [] (.tup [.sl 0 0 3, .int .i64 0]) [some (.cells true 1 [.int .i64 1, .int .i64 0, .int .i64 2])] := by
  obtain ⟨H', h1, h2⟩ := fchk_eq first_ex
  refine Ans.keep ((spec_ex mixed tab_ok h1).mono fun v H'' hv => ?_) (by simp) (by simp [go_sem]) ⟨by rw [row_bel_cells]; simp only [go_sem], trivial⟩
  obtain ⟨hv1, X, hv2⟩ := hv
  refine kept_one 6 ?_ ?_ ?_
  · rw [hv1]; simp [ren, rens]
  · rw [row_bel_cells]; simp only [go_sem]
  · rw [hv2, List.getElem?_append_left (List.getElem?_eq_some_iff.1 h2).1]; exact h2
end Go.Proofs

namespace Go.Proofs
open Go Go.Sx
attribute [local irreducible] Run

section
variable {P : Program} {G : Ctx} {k : Nat} {rd : Option Nat} {R : Runner} {l : List AOper} {fs : List Sx.Frame} {ρ : List AVal} {H : Heap} {ms : List Nat} {Q : Sx.Goal} {dst : Option Nat} {x y : Row} {g : FuncId} {args : List AVal} {r : AVal}
theorem cN2r (h : Ans P g args [] r [some x, some y]) (hK : R (.ops l) fs ⟨setD ρ dst (ren (fun i => H.length + i) r), H ++ [some x, some (y.ren fun i => H.length + i)], ms⟩ Q)
    (hb : Bels (fun _ => False) args := by simp only [go_sem]) (hr : Bel (· < 2) r := by simp [go_sem]) (hx : x.bel (fun _ => False) := by first | (simp only [go_sem]; done) | (rw [row_bel_cells]; simp only [go_sem])) (hy : y.bel (· < 2)) (hk : k ≤ H.length := by simp) (hms : ∀ q ∈ ms, H[q]? = some (some .dfr) := by simp) : CallR P G k R g args dst l fs ρ H ms Q := by
  have eσ : outσ [] H.length = fun i => H.length + i := by funext i; simp [outσ]
  have e : outΔ (outσ [] H.length) 0 [some x, some y] = [(H.length, x), (H.length + 1, y.ren fun i => H.length + i)] := by
    simp only [outΔ, Row.ren_same hx, eσ]
    rfl
  refine callS h [] (by simp) trivial (by
    conv => lhs; rw [← List.map_id args]
    exact List.map_congr_left fun v hv => (ren_same (bels_mem hb v hv)).symm) (bels_of fun v hv => (bels_mem hb v hv).mono fun _ h => h.elim) trivial (by simp) (by simpa using hr)
    ⟨bel_mono_row hx fun _ h => h.elim, bel_mono_row hy fun _ h => by simpa using h, trivial⟩ (fun q hq => by simp at hq) hk (fun q hq => ?_) ?_
  · refine ⟨?_, hms q hq⟩
    rw [e]
    have := (List.getElem?_eq_some_iff.1 (hms q hq)).1
    simp; omega
  · rw [e, eσ]
    have e3 : Heap.put (H ++ [some x]) (H.length + 1) (y.ren fun i => H.length + i) = H ++ [some x, some (y.ren fun i => H.length + i)] := by
      have := Heap.put_end (H ++ [some x]) (y.ren fun i => H.length + i)
      simpa using this
    simp only [Heap.puts, Heap.put_end, e3]
    exact hK
end

theorem joins_run (h : Int) : Ans Try.prog n_law05_joins [.int .i64 h] [] (.sl 1 0 3) [some (.cells false 1 [.int .i64 0]), some (.cells false 3 [.agg [.int .i64 900, .int .i64 h, .nilsl], .agg [.int .i64 1000, .int .i64 1100, .nilsl], .agg [.int .i64 950, .int .i64 950, .sl 0 0 1]])] := by
  refine spec_run e_law05_joins fun G => ?_
  simp only [go_sem]
  exact ⟨_, rfl⟩
theorem kSame_run {l : List Int} (hl : l.length ≤ 1000000) : Ans Try.prog n_kit_Same [.view (l.map fun x => .int .i64 x), .view (l.map fun x => .int .i64 x)] [] (.bool true) [] := by
  refine spec_run e_kit_Same fun G => ?_
  simp only [go_sem]
  refine loop_ind k_kit_Same_r8.eq_1 (fun i : Nat => i ≤ l.length) (fun i => l.length - i)
    (fun i => (tsets 26 [(0, .view (l.map fun x => .int .i64 x)), (1, .view (l.map fun x => .int .i64 x)), (4, .bool false), (5, .int .i64 i)], [])) 0 (Nat.zero_le _) (by simp [go_sem]) rfl ?_
  intro i hi ih
  dsimp only at hi ih ⊢
  by_cases h1 : i < l.length
  · have h2 : (i : Int) < l.length := by omega
    have n0 : ¬ (i : Int) < 0 := by omega
    have h3 : IntKind.i64.wrap ((i : Int) + 1) = ((i + 1 : Nat) : Int) := by rw [w64 (by omega)]; rfl
    obtain ⟨z, hzi⟩ : ∃ z, l[i]? = some z := ⟨_, List.getElem?_eq_getElem h1⟩
    simp only [go_sem, h2, n0, hzi, h3]
    exact ih (i + 1) (by omega) h1 _ (by simp [go_sem])
  · have h2 : ¬ (i : Int) < l.length := by omega
    simp only [go_sem, h2]
set_option maxHeartbeats 4000000 in
set_option maxRecDepth 10000 in
theorem awake_ok : Ans Try.prog n_law05_awake [] [] (.bool true) [] := by
  have k1 := Seal_run wall_ok lead_ok (sE := 800) (fr := 300) (by omega) (by omega)
  rw [seal_val] at k1
  have k2 := Strain_run wall_ok (th := 100) (by omega) ov_ok
  rw [show ovL.length = 2 from rfl, strain_val] at k2
  simp only [rv, r2, List.map_cons, List.map_nil] at k2
  refine spec_run e_law05_awake fun G => ?_
  simp only [go_sem]
  refine cN1 wall_run ?_
  simp only [go_sem, ren, rens]
  refine cN1 lead_run ?_
  simp only [go_sem, ren, rens]
  refine cF k1 6 ⟨.inl rfl, .inl rfl, .inl rfl, .inl rfl, trivial⟩ ?_
  simp only [go_sem]
  refine cN1 wall_run ?_
  simp only [go_sem, ren, rens]
  refine cFN k2 6 ⟨.inl rfl, .inl rfl, .inl rfl, trivial⟩ ?_ (hx := ?_) (hxn := ?_)
  rotate_left
  · rw [row_bel_cells]; simp only [go_sem]
  · exact row_nv_cells _ _ (by simp only [go_sem])
  simp only [go_sem, ren, rens]
  refine cN2r (joins_run 950) ?_ (hy := ?_)
  rotate_left
  · rw [row_bel_cells]; simp [go_sem]
  simp only [go_sem, ren, rens, Row.ren]
  refine cFN First_run 6 ⟨.inl rfl, trivial⟩ ?_ (hx := ?_) (hxn := ?_)
  rotate_left
  · rw [row_bel_cells]; simp only [go_sem]
  · exact row_nv_cells _ _ (by simp only [go_sem])
  simp only [go_sem, ren, rens]
  have s1 := span_run 399609 399610
  have s2 := span_run 3999609 4399610
  have s3 := kSame_run (l := [1, 0, 2]) (by simp)
  simp only [r2] at s1 s2
  refine dP s1 ?_
  simp only [go_sem]
  refine dP s2 ?_
  simp only [go_sem]
  refine cF s3 6 ⟨.inl rfl, .inl rfl, trivial⟩ ?_
  simp only [go_sem]
end Go.Proofs

namespace Go.Proofs
open Go Go.Sx
attribute [local irreducible] Run

end Go.Proofs

namespace Go.Proofs
open Go Go.Sx

end Go.Proofs

namespace Go.Proofs
open Go Go.Sx
attribute [local irreducible] Run

theorem st_frz {H : Heap} {b : Int} {zs : List Zn} {j n : Nat} {g : Bool} (h : H[j]? = some (some (.cells g 5 (zs.map Zn.v)))) (hn : n = zs.length) : frz 6 H (.agg [.int .i64 b, .sl j 0 n]) = stV b zs := by
  have h1 : frz 5 H (.sl j 0 n) = .view (zs.map Zn.v) := by
    rw [frz_sl (d := 4) h (by simpa using hn), List.map_map]; rfl
  show AVal.agg [_, frz 5 H (.sl j 0 n)] = _
  rw [h1]; rfl

end Go.Proofs

namespace Go.Proofs
open Go Go.Sx

end Go.Proofs

namespace Go.Proofs
open Go Go.Sx
attribute [local irreducible] Run

end Go.Proofs

namespace Go.Proofs
open Go Go.Sx
attribute [local irreducible] Run

structure TrOK (zs : List Zn) (n : Nat) (l : List Int) : Prop where
  len : l.length = 2001
  bd : ∀ i, i < n → gLo zs i ≤ l.getD i 0 ∧ l.getD i 0 ≤ gHi zs i
theorem TrOK.snoc {zs : List Zn} {n : Nat} {l : List Int} (h : TrOK zs n l) {v : Int} (hv : gLo zs n ≤ v ∧ v ≤ gHi zs n) (hn : n < 2001) : TrOK zs (n + 1) (l.set n v) := ⟨by rw [List.length_set]; exact h.len, fun i hi => by
  rw [List.getD_eq_getElem?_getD]
  by_cases e : i = n
  · subst e
    rw [List.getElem?_set_self (by rw [h.len]; exact hn)]; exact hv
  · rw [List.getElem?_set_ne (by omega), ← List.getD_eq_getElem?_getD]; exact h.bd i (by omega)⟩
def il (l : List Int) : List AVal := l.map (.int .i64)
end Go.Proofs

namespace Go.Proofs
open Go Go.Sx
attribute [local irreducible] Run

end Go.Proofs

namespace Go.Proofs
open Go Go.Sx

def k_ref05_Check_r0 : List AOper := [
  ⟨some 1, .box (.tmp 0), none, []⟩,
 ⟨some 2, .move (.const (.int .i64 0)), none, []⟩]
def k_ref05_Check_r1 : List AOper := [
  ⟨some 8, .fieldAddr 0 (.tmp 1), none, []⟩,
 ⟨some 9, .load none (.tmp 8), none, []⟩,
 ⟨some 10, .call (.const (.fn (.func 88) [] [])) [.tmp 9, .const (.int .i64 1), .const (.int .i64 1000000000)], none, []⟩]
def k_ref05_Check_r2 : List AOper := [
  ⟨some 2, .move (.const (.int .i64 2)), none, []⟩]
def k_ref05_Check_r3 : List AOper := [
  ⟨some 11, .fieldAddr 1 (.tmp 1), none, []⟩,
 ⟨some 12, .load none (.tmp 11), none, []⟩,
 ⟨some 13, .len false (.tmp 12), none, []⟩,
 ⟨some 14, .bin .plain .eql (.tmp 13) (.const (.int .i64 0)), none, []⟩]
def k_ref05_Check_r4 : List AOper := [
  ⟨some 2, .move (.const (.int .i64 6)), none, []⟩]
def k_ref05_Check_r5 : List AOper := [
  ⟨some 15, .fieldAddr 1 (.tmp 1), none, []⟩,
 ⟨some 16, .load none (.tmp 15), none, []⟩,
 ⟨some 17, .len false (.tmp 16), none, []⟩,
 ⟨some 18, .bin .plain .gtr (.tmp 17) (.const (.int .i64 16)), none, []⟩]
def k_ref05_Check_r6 : List AOper := [
  ⟨some 2, .move (.const (.int .i64 8)), none, []⟩]
def k_ref05_Check_r7 : List AOper := [
  ⟨some 3, .move (.const (.int .i64 (-1))), none, []⟩]
def k_ref05_Check_r8 : List AOper := [
  ⟨some 4, .move (.const (.int .i64 0)), none, []⟩]
def k_ref05_Check_r9 : List AOper := [
  ⟨some 19, .move (.tmp 4), none, []⟩,
 ⟨some 20, .fieldAddr 1 (.tmp 1), none, []⟩,
 ⟨some 21, .load none (.tmp 20), none, []⟩,
 ⟨some 22, .len false (.tmp 21), none, []⟩,
 ⟨some 23, .bin .plain .lss (.tmp 19) (.tmp 22), none, []⟩]
def k_ref05_Check_r10 : List AOper := [
  ⟨some 26, .fieldAddr 1 (.tmp 1), none, []⟩,
 ⟨some 27, .load none (.tmp 26), none, []⟩,
 ⟨some 28, .move (.tmp 4), none, []⟩,
 ⟨some 29, .indexAddr 5 (.tmp 27) (.tmp 28), none, []⟩,
 ⟨some 30, .load (some (5)) (.tmp 29), none, []⟩,
 ⟨some 5, .box (.const (.agg [.int .i64 0, .int .i64 0, .int .i64 0, .int .i64 0, .int .i64 0])), none, []⟩,
 ⟨none, .store 5 (.tmp 5) (.tmp 30), none, []⟩]
def k_ref05_Check_r11 : List AOper := [
  ⟨some 31, .fieldAddr 0 (.tmp 5), none, []⟩,
 ⟨some 32, .load none (.tmp 31), none, []⟩,
 ⟨some 33, .call (.const (.fn (.func 88) [] [])) [.tmp 32, .const (.int .i64 0), .const (.int .i64 2000)], none, []⟩]
def k_ref05_Check_r12 : List AOper := [
  ⟨some 2, .move (.const (.int .i64 2)), none, []⟩]
def k_ref05_Check_r13 : List AOper := [
  ⟨some 34, .move (.tmp 4), none, []⟩,
 ⟨some 35, .bin .plain .eql (.tmp 34) (.const (.int .i64 0)), none, []⟩,
 ⟨some 36, .move (.tmp 35), none, []⟩,
 ⟨some 37, .fieldAddr 0 (.tmp 5), (some (36, true)), []⟩,
 ⟨some 38, .load none (.tmp 37), (some (36, true)), []⟩,
 ⟨some 39, .bin .plain .gtr (.tmp 38) (.const (.int .i64 0)), (some (36, true)), []⟩,
 ⟨some 40, .pick (.tmp 36) (.tmp 39) (.const (.bool false)), none, []⟩,
 ⟨some 41, .move (.tmp 40), none, []⟩,
 ⟨some 42, .fieldAddr 0 (.tmp 5), (some (41, false)), []⟩,
 ⟨some 43, .load none (.tmp 42), (some (41, false)), []⟩,
 ⟨some 44, .move (.tmp 3), (some (41, false)), []⟩,
 ⟨some 45, .bin .plain .leq (.tmp 43) (.tmp 44), (some (41, false)), []⟩,
 ⟨some 46, .pick (.tmp 41) (.const (.bool true)) (.tmp 45), none, []⟩]
def k_ref05_Check_r14 : List AOper := [
  ⟨some 2, .move (.const (.int .i64 11)), none, []⟩]
def k_ref05_Check_r15 : List AOper := [
  ⟨some 47, .fieldAddr 0 (.tmp 5), none, []⟩,
 ⟨some 48, .load none (.tmp 47), none, []⟩,
 ⟨some 3, .move (.tmp 48), none, []⟩]
def k_ref05_Check_r16 : List AOper := [
  ⟨some 49, .fieldAddr 1 (.tmp 5), none, []⟩,
 ⟨some 50, .load (some (2)) (.tmp 49), none, []⟩,
 ⟨some 51, .call (.const (.fn (.func 89) [] [])) [.tmp 50, .const (.int .i64 100000)], none, []⟩,
 ⟨some 6, .move (.tmp 51), none, []⟩]
def k_ref05_Check_r17 : List AOper := [
  ⟨some 52, .move (.tmp 6), none, []⟩,
 ⟨some 53, .bin .plain .neq (.tmp 52) (.const (.int .i64 0)), none, []⟩]
def k_ref05_Check_r18 : List AOper := [
  ⟨some 54, .move (.tmp 6), none, []⟩,
 ⟨some 2, .move (.tmp 54), none, []⟩]
def k_ref05_Check_r19 : List AOper := [
  ⟨some 55, .fieldAddr 3 (.tmp 5), none, []⟩,
 ⟨some 56, .load (some (2)) (.tmp 55), none, []⟩,
 ⟨some 57, .call (.const (.fn (.func 89) [] [])) [.tmp 56, .const (.int .i64 1000000)], none, []⟩,
 ⟨some 7, .move (.tmp 57), none, []⟩]
def k_ref05_Check_r20 : List AOper := [
  ⟨some 58, .move (.tmp 7), none, []⟩,
 ⟨some 59, .bin .plain .neq (.tmp 58) (.const (.int .i64 0)), none, []⟩]
def k_ref05_Check_r21 : List AOper := [
  ⟨some 60, .move (.tmp 7), none, []⟩,
 ⟨some 2, .move (.tmp 60), none, []⟩]
def k_ref05_Check_r22 : List AOper := [
  ⟨some 24, .move (.tmp 4), none, []⟩,
 ⟨some 25, .bin .plain .add (.tmp 24) (.const (.int .i64 1)), none, []⟩,
 ⟨some 4, .move (.tmp 25), none, []⟩]
def k_ref05_Check_r23 : ACode := (.seq (.seq (.reg k_ref05_Check_r9 false) (.cond (.tmp 23) .skip (.exit 0))) (.seq (.block 1 (.seq (.reg k_ref05_Check_r10 false) (.seq (.seq (.reg k_ref05_Check_r11 false) (.cond (.tmp 33) (.seq (.reg k_ref05_Check_r12 false) .ret) .skip)) (.seq (.seq (.reg k_ref05_Check_r13 false) (.cond (.tmp 46) (.seq (.reg k_ref05_Check_r14 false) .ret) .skip)) (.seq (.reg k_ref05_Check_r15 false) (.seq (.seq (.reg k_ref05_Check_r16 false) (.seq (.reg k_ref05_Check_r17 false) (.cond (.tmp 53) (.seq (.reg k_ref05_Check_r18 false) .ret) .skip))) (.seq (.reg k_ref05_Check_r19 false) (.seq (.reg k_ref05_Check_r20 false) (.cond (.tmp 59) (.seq (.reg k_ref05_Check_r21 false) .ret) .skip))))))))) (.reg k_ref05_Check_r22 false)))
def k_ref05_Check_r24 : List AOper := [
  ⟨some 2, .move (.const (.int .i64 0)), none, []⟩]
def k_ref05_Check : AFun := { params := 1, ntmps := 61, body := (.seq (.reg k_ref05_Check_r0 false) (.seq (.seq (.reg k_ref05_Check_r1 false) (.cond (.tmp 10) (.seq (.reg k_ref05_Check_r2 false) .ret) .skip)) (.seq (.seq (.reg k_ref05_Check_r3 false) (.cond (.tmp 14) (.seq (.reg k_ref05_Check_r4 false) .ret) .skip)) (.seq (.seq (.reg k_ref05_Check_r5 false) (.cond (.tmp 18) (.seq (.reg k_ref05_Check_r6 false) .ret) .skip)) (.seq (.reg k_ref05_Check_r7 false) (.seq (.seq (.reg k_ref05_Check_r8 false) (.block 0 (.loop k_ref05_Check_r23))) (.seq (.reg k_ref05_Check_r24 false) .ret))))))), res := [.tmp 2] }
theorem k_ref05_Check_ok : cfun Try.prog Try.f31 = k_ref05_Check := by kernel_rfl

def k_ref05_beyond_r0 : List AOper := [
  ⟨some 6, .move (.const (.bool false)), none, []⟩]
def k_ref05_beyond_r1 : List AOper := [
  ⟨some 7, .move (.tmp 0), none, []⟩,
 ⟨some 8, .move (.tmp 1), none, []⟩,
 ⟨some 9, .bin .plain .lss (.tmp 7) (.tmp 8), none, []⟩,
 ⟨some 10, .move (.tmp 9), none, []⟩,
 ⟨some 11, .move (.tmp 0), (some (10, false)), []⟩,
 ⟨some 12, .move (.tmp 2), (some (10, false)), []⟩,
 ⟨some 13, .bin .plain .gtr (.tmp 11) (.tmp 12), (some (10, false)), []⟩,
 ⟨some 14, .pick (.tmp 10) (.const (.bool true)) (.tmp 13), none, []⟩,
 ⟨some 6, .move (.tmp 14), none, []⟩]
def k_ref05_beyond : AFun := { params := 3, ntmps := 15, body := (.seq (.reg k_ref05_beyond_r0 false) (.seq (.reg k_ref05_beyond_r1 false) .ret)), res := [.tmp 6] }
theorem k_ref05_beyond_ok : cfun Try.prog Try.f88 = k_ref05_beyond := by kernel_rfl

def k_ref05_checkRange_r0 : List AOper := [
  ⟨some 2, .box (.tmp 0), none, []⟩,
 ⟨some 4, .move (.const (.int .i64 0)), none, []⟩]
def k_ref05_checkRange_r1 : List AOper := [
  ⟨some 6, .fieldAddr 0 (.tmp 2), none, []⟩,
 ⟨some 7, .load none (.tmp 6), none, []⟩,
 ⟨some 8, .move (.tmp 1), none, []⟩,
 ⟨some 9, .call (.const (.fn (.func 88) [] [])) [.tmp 7, .const (.int .i64 0), .tmp 8], none, []⟩,
 ⟨some 10, .move (.tmp 9), none, []⟩,
 ⟨some 11, .fieldAddr 1 (.tmp 2), (some (10, false)), []⟩,
 ⟨some 12, .load none (.tmp 11), (some (10, false)), []⟩,
 ⟨some 13, .move (.tmp 1), (some (10, false)), []⟩,
 ⟨some 14, .call (.const (.fn (.func 88) [] [])) [.tmp 12, .const (.int .i64 0), .tmp 13], (some (10, false)), []⟩,
 ⟨some 15, .pick (.tmp 10) (.const (.bool true)) (.tmp 14), none, []⟩,
 ⟨some 5, .move (.tmp 15), none, []⟩]
def k_ref05_checkRange_r2 : List AOper := [
  ⟨some 4, .move (.const (.int .i64 2)), none, []⟩]
def k_ref05_checkRange_r3 : List AOper := [
  ⟨some 17, .fieldAddr 0 (.tmp 2), none, []⟩,
 ⟨some 18, .load none (.tmp 17), none, []⟩,
 ⟨some 19, .fieldAddr 1 (.tmp 2), none, []⟩,
 ⟨some 20, .load none (.tmp 19), none, []⟩,
 ⟨some 21, .bin .plain .gtr (.tmp 18) (.tmp 20), none, []⟩,
 ⟨some 16, .move (.tmp 21), none, []⟩]
def k_ref05_checkRange_r4 : List AOper := [
  ⟨some 4, .move (.const (.int .i64 11)), none, []⟩]
def k_ref05_checkRange_r5 : List AOper := [
  ⟨some 4, .move (.const (.int .i64 0)), none, []⟩]
def k_ref05_checkRange : AFun := { params := 2, ntmps := 22, body := (.seq (.reg k_ref05_checkRange_r0 false) (.seq (.block 0 (.seq (.reg k_ref05_checkRange_r1 false) (.cond (.tmp 5) (.seq (.reg k_ref05_checkRange_r2 false) .ret) (.seq (.reg k_ref05_checkRange_r3 false) (.cond (.tmp 16) (.seq (.reg k_ref05_checkRange_r4 false) .ret) .skip))))) (.seq (.reg k_ref05_checkRange_r5 false) .ret))), res := [.tmp 4] }
theorem k_ref05_checkRange_ok : cfun Try.prog Try.f89 = k_ref05_checkRange := by kernel_rfl

abbrev n_ref05_Check : Nat := 31
theorem e_ref05_Check : EntryOK Try.prog n_ref05_Check k_ref05_Check := ⟨Try.f31, Try.func31, k_ref05_Check_ok, by kernel_rfl⟩
abbrev n_ref05_beyond : Nat := 88
theorem e_ref05_beyond : EntryOK Try.prog n_ref05_beyond k_ref05_beyond := ⟨Try.f88, Try.func88, k_ref05_beyond_ok, by kernel_rfl⟩
abbrev n_ref05_checkRange : Nat := 89
theorem e_ref05_checkRange : EntryOK Try.prog n_ref05_checkRange k_ref05_checkRange := ⟨Try.f89, Try.func89, k_ref05_checkRange_ok, by kernel_rfl⟩
attribute [go_sem] k_ref05_Check_r0 k_ref05_Check_r1 k_ref05_Check_r2
attribute [go_sem] k_ref05_Check_r3 k_ref05_Check_r4 k_ref05_Check_r5 k_ref05_Check_r6 k_ref05_Check_r7 k_ref05_Check_r8 k_ref05_Check_r9 k_ref05_Check_r10 k_ref05_Check_r11 k_ref05_Check_r12 k_ref05_Check_r13 k_ref05_Check_r14
attribute [go_sem] k_ref05_Check_r15 k_ref05_Check_r16 k_ref05_Check_r17 k_ref05_Check_r18 k_ref05_Check_r19 k_ref05_Check_r20 k_ref05_Check_r21 k_ref05_Check_r22 k_ref05_Check_r24
attribute [go_sem] k_ref05_beyond_r0 k_ref05_beyond_r1 k_ref05_checkRange_r0 k_ref05_checkRange_r1 k_ref05_checkRange_r2 k_ref05_checkRange_r3 k_ref05_checkRange_r4 k_ref05_checkRange_r5
attribute [go_sem] k_ref05_Check k_ref05_beyond k_ref05_checkRange
end Go.Proofs

namespace Go.Proofs
open Go Go.Sx
attribute [local irreducible] Run

theorem rbeyond_no {n a b : Int} (h : a ≤ n ∧ n ≤ b) : Ans Try.prog n_ref05_beyond [.int .i64 n, .int .i64 a, .int .i64 b] [] (.bool false) [] := by
  have h1 : ¬ n < a := by omega
  have h2 : ¬ n > b := by omega
  refine spec_run e_ref05_beyond fun G => ?_
  simp [go_sem, h1, h2]
end Go.Proofs

namespace Go.Proofs
open Go Go.Sx
attribute [local irreducible] Run

section
variable {P : Program} {g : FuncId} {args largs : List AVal} {H : Heap} {R : Runner} {l : List AOper} {fs : List Sx.Frame} {ρ : List AVal} {ms : List Nat} {Q : Sx.Goal} {ao : AOper} {lo hi : Nat} {tr : List (List Nat × List Nat)} {ss : List (List AOper)}
end

def sel (st a b c : Int) : Int := if st = 0 then a else if st = 1 then b else c
def trS (zs : List Zn) (st w1 : Int) : Nat → Int × List Int
  | 0 => (w1, List.replicate 2001 0)
  | i + 1 => (dstep (trS zs st w1 i).1, (trS zs st w1 i).2.set i (sel st (zAt zs i).glo (zAt zs i).ghi (btw (trS zs st w1 i).1 (zAt zs i).glo (zAt zs i).ghi)))
attribute [local irreducible] trS
end Go.Proofs

namespace Go.Proofs
open Go Go.Sx
attribute [local irreducible] Run trS

end Go.Proofs

namespace Go.Proofs
open Go Go.Sx

def k_kit_OvenOf_r0 : List AOper := [
  ⟨some 6, .box (.const (.agg [.int .i64 0, .nilsl])), none, []⟩]
def k_kit_OvenOf_r1 : List AOper := [
  ⟨some 9, .move (.tmp 0), none, []⟩,
 ⟨some 10, .call (.const (.fn (.func 44) [] [])) [.tmp 9, .const (.int .i64 300), .const (.int .i64 1200)], none, []⟩,
 ⟨some 11, .build [.int .i64 0, .nilsl] [(0, 1, .tmp 10)], none, []⟩,
 ⟨some 7, .box (.const (.agg [.int .i64 0, .nilsl])), none, []⟩,
 ⟨none, .store 2 (.tmp 7) (.tmp 11), none, []⟩]
def k_kit_OvenOf_r2 : List AOper := [
  ⟨some 12, .move (.tmp 0), none, []⟩,
 ⟨some 13, .move (.tmp 1), none, []⟩,
 ⟨some 14, .bin .plain .add (.tmp 13) (.const (.int .i64 1)), none, []⟩,
 ⟨some 15, .call (.const (.fn (.func 26) [] [])) [.tmp 12, .tmp 14], none, []⟩,
 ⟨some 8, .move (.tmp 15), none, []⟩]
def k_kit_OvenOf_r3 : List AOper := [
  ⟨some 16, .move (.tmp 8), none, []⟩,
 ⟨some 17, .bin .plain .gtr (.tmp 16) (.const (.int .i64 0)), none, []⟩]
def k_kit_OvenOf_r4 : List AOper := [
  ⟨some 20, .fieldAddr 1 (.tmp 7), none, []⟩,
 ⟨some 21, .load none (.tmp 20), none, []⟩,
 ⟨some 22, .move (.tmp 0), none, [0, 1]⟩,
 ⟨some 23, .move (.tmp 2), none, [0, 1, 2]⟩,
 ⟨some 24, .call (.const (.fn (.func 44) [] [])) [.tmp 22, .const (.int .i64 1), .tmp 23], none, [0, 1]⟩,
 ⟨some 25, .move (.tmp 0), none, [0, 1, 2, 3, 4]⟩,
 ⟨some 26, .call (.const (.fn (.func 44) [] [])) [.tmp 25, .const (.int .i64 300), .const (.int .i64 1200)], none, [0, 1]⟩,
 ⟨some 27, .move (.tmp 0), none, [0, 1, 2, 3, 4, 5, 6]⟩,
 ⟨some 28, .call (.const (.fn (.func 26) [] [])) [.tmp 27, .const (.int .i64 2001)], none, [0, 1]⟩,
 ⟨some 29, .fieldAddr 0 (.tmp 7), none, [0, 1, 2, 3, 4, 5, 6, 7, 8]⟩,
 ⟨some 30, .load none (.tmp 29), none, [0, 1, 2, 3, 4, 5, 6, 7, 8]⟩,
 ⟨some 31, .buildSlice 1 [.tmp 26, .tmp 28, .tmp 30], none, [0, 1]⟩,
 ⟨some 32, .move (.tmp 0), none, [0, 1, 2, 3, 4, 5, 6, 7, 8, 9, 10, 11]⟩,
 ⟨some 33, .call (.const (.fn (.func 26) [] [])) [.tmp 32, .const (.int .i64 3)], none, [0, 1, 9, 10, 11]⟩,
 ⟨some 34, .indexAddr 1 (.tmp 31) (.tmp 33), none, [0, 1]⟩,
 ⟨some 35, .load none (.tmp 34), none, [0, 1]⟩,
 ⟨some 36, .build [.int .i64 0, .int .i64 0] [(0, 1, .tmp 24), (1, 1, .tmp 35)], none, [0, 1]⟩,
 ⟨some 37, .buildSlice 2 [.tmp 36], none, [0, 1]⟩,
 ⟨some 38, .append 2 16 true (.tmp 21) (.tmp 37), none, []⟩,
 ⟨some 39, .fieldAddr 1 (.tmp 7), none, []⟩,
 ⟨none, .store 1 (.tmp 39) (.tmp 38), none, []⟩]
def k_kit_OvenOf_r4s : List (List AOper) := [
  [
  ⟨some 20, .fieldAddr 1 (.tmp 7), none, []⟩,
 ⟨some 21, .load none (.tmp 20), none, []⟩,
 ⟨some 22, .move (.tmp 0), none, [0, 1]⟩,
 ⟨some 23, .move (.tmp 2), none, [0, 1, 2]⟩,
 ⟨some 24, .call (.const (.fn (.func 44) [] [])) [.tmp 22, .const (.int .i64 1), .tmp 23], none, [0, 1]⟩,
 ⟨some 25, .move (.tmp 0), none, [0, 1, 2, 3, 4]⟩,
 ⟨some 26, .call (.const (.fn (.func 44) [] [])) [.tmp 25, .const (.int .i64 300), .const (.int .i64 1200)], none, [0, 1]⟩,
 ⟨some 27, .move (.tmp 0), none, [0, 1, 2, 3, 4, 5, 6]⟩,
 ⟨some 28, .call (.const (.fn (.func 26) [] [])) [.tmp 27, .const (.int .i64 2001)], none, [0, 1]⟩,
 ⟨some 29, .fieldAddr 0 (.tmp 7), none, [0, 1, 2, 3, 4, 5, 6, 7, 8]⟩,
 ⟨some 30, .load none (.tmp 29), none, [0, 1, 2, 3, 4, 5, 6, 7, 8]⟩,
 ⟨some 31, .buildSlice 1 [.tmp 26, .tmp 28, .tmp 30], none, [0, 1]⟩,
 ⟨some 32, .move (.tmp 0), none, [0, 1, 2, 3, 4, 5, 6, 7, 8, 9, 10, 11]⟩,
 ⟨some 33, .call (.const (.fn (.func 26) [] [])) [.tmp 32, .const (.int .i64 3)], none, [0, 1, 9, 10, 11]⟩,
 ⟨some 34, .indexAddr 1 (.tmp 31) (.tmp 33), none, [0, 1]⟩,
 ⟨some 35, .load none (.tmp 34), none, [0, 1]⟩,
 ⟨some 36, .build [.int .i64 0, .int .i64 0] [(0, 1, .tmp 24), (1, 1, .tmp 35)], none, [0, 1]⟩,
 ⟨some 37, .buildSlice 2 [.tmp 36], none, [0, 1]⟩], 
  [
  ⟨some 38, .append 2 16 true (.tmp 21) (.tmp 37), none, []⟩], 
  [
  ⟨some 39, .fieldAddr 1 (.tmp 7), none, []⟩], 
  [
  ⟨none, .store 1 (.tmp 39) (.tmp 38), none, []⟩]]
theorem k_kit_OvenOf_r4_sg : segs k_kit_OvenOf_r4 = k_kit_OvenOf_r4s := by kernel_rfl
theorem k_kit_OvenOf_r4_st : statOK k_kit_OvenOf_r4 = true := by kernel_rfl
def k_kit_OvenOf_r5 : List AOper := [
  ⟨some 18, .move (.tmp 8), none, []⟩,
 ⟨some 19, .bin .plain .sub (.tmp 18) (.const (.int .i64 1)), none, []⟩,
 ⟨some 8, .move (.tmp 19), none, []⟩]
def k_kit_OvenOf_r6 : ACode := (.seq (.seq (.reg k_kit_OvenOf_r3 false) (.cond (.tmp 17) .skip (.exit 0))) (.seq (.block 1 (.reg k_kit_OvenOf_r4 true)) (.reg k_kit_OvenOf_r5 false)))
def k_kit_OvenOf_r7 : List AOper := [
  ⟨some 40, .load (some (2)) (.tmp 7), none, []⟩,
 ⟨none, .store 2 (.tmp 6) (.tmp 40), none, []⟩]
def k_kit_OvenOf : AFun := { params := 3, ntmps := 41, body := (.seq (.reg k_kit_OvenOf_r0 false) (.seq (.reg k_kit_OvenOf_r1 false) (.seq (.seq (.reg k_kit_OvenOf_r2 false) (.block 0 (.loop k_kit_OvenOf_r6))) (.seq (.reg k_kit_OvenOf_r7 false) .ret)))), res := [.cell 6 (some ((some (2))))] }
theorem k_kit_OvenOf_ok : cfun Try.prog Try.f23 = k_kit_OvenOf := by kernel_rfl

def k_ref05_CheckOven_r0 : List AOper := [
  ⟨some 1, .box (.tmp 0), none, []⟩,
 ⟨some 2, .move (.const (.int .i64 0)), none, []⟩]
def k_ref05_CheckOven_r1 : List AOper := [
  ⟨some 4, .fieldAddr 0 (.tmp 1), none, []⟩,
 ⟨some 5, .load none (.tmp 4), none, []⟩,
 ⟨some 6, .call (.const (.fn (.func 88) [] [])) [.tmp 5, .const (.int .i64 0), .const (.int .i64 2000)], none, []⟩]
def k_ref05_CheckOven_r2 : List AOper := [
  ⟨some 2, .move (.const (.int .i64 2)), none, []⟩]
def k_ref05_CheckOven_r3 : List AOper := [
  ⟨some 7, .fieldAddr 1 (.tmp 1), none, []⟩,
 ⟨some 8, .load none (.tmp 7), none, []⟩,
 ⟨some 9, .len false (.tmp 8), none, []⟩,
 ⟨some 10, .bin .plain .gtr (.tmp 9) (.const (.int .i64 20)), none, []⟩]
def k_ref05_CheckOven_r4 : List AOper := [
  ⟨some 2, .move (.const (.int .i64 8)), none, []⟩]
def k_ref05_CheckOven_r5 : List AOper := [
  ⟨some 3, .move (.const (.int .i64 0)), none, []⟩]
def k_ref05_CheckOven_r6 : List AOper := [
  ⟨some 11, .move (.tmp 3), none, []⟩,
 ⟨some 12, .fieldAddr 1 (.tmp 1), none, []⟩,
 ⟨some 13, .load none (.tmp 12), none, []⟩,
 ⟨some 14, .len false (.tmp 13), none, []⟩,
 ⟨some 15, .bin .plain .lss (.tmp 11) (.tmp 14), none, []⟩]
def k_ref05_CheckOven_r7 : List AOper := [
  ⟨some 18, .fieldAddr 1 (.tmp 1), none, []⟩,
 ⟨some 19, .load none (.tmp 18), none, []⟩,
 ⟨some 20, .move (.tmp 3), none, []⟩,
 ⟨some 21, .indexAddr 2 (.tmp 19) (.tmp 20), none, []⟩,
 ⟨some 22, .fieldAddr 0 (.tmp 21), none, []⟩,
 ⟨some 23, .load none (.tmp 22), none, []⟩,
 ⟨some 24, .call (.const (.fn (.func 88) [] [])) [.tmp 23, .const (.int .i64 1), .const (.int .i64 2000)], none, []⟩,
 ⟨some 25, .move (.tmp 24), none, []⟩,
 ⟨some 26, .fieldAddr 1 (.tmp 1), (some (25, false)), []⟩,
 ⟨some 27, .load none (.tmp 26), (some (25, false)), []⟩,
 ⟨some 28, .move (.tmp 3), (some (25, false)), []⟩,
 ⟨some 29, .indexAddr 2 (.tmp 27) (.tmp 28), (some (25, false)), []⟩,
 ⟨some 30, .fieldAddr 1 (.tmp 29), (some (25, false)), []⟩,
 ⟨some 31, .load none (.tmp 30), (some (25, false)), []⟩,
 ⟨some 32, .call (.const (.fn (.func 88) [] [])) [.tmp 31, .const (.int .i64 0), .const (.int .i64 2000)], (some (25, false)), []⟩,
 ⟨some 33, .pick (.tmp 25) (.const (.bool true)) (.tmp 32), none, []⟩]
def k_ref05_CheckOven_r8 : List AOper := [
  ⟨some 2, .move (.const (.int .i64 2)), none, []⟩]
def k_ref05_CheckOven_r9 : List AOper := [
  ⟨some 16, .move (.tmp 3), none, []⟩,
 ⟨some 17, .bin .plain .add (.tmp 16) (.const (.int .i64 1)), none, []⟩,
 ⟨some 3, .move (.tmp 17), none, []⟩]
def k_ref05_CheckOven_r10 : ACode := (.seq (.seq (.reg k_ref05_CheckOven_r6 false) (.cond (.tmp 15) .skip (.exit 0))) (.seq (.block 1 (.seq (.reg k_ref05_CheckOven_r7 false) (.cond (.tmp 33) (.seq (.reg k_ref05_CheckOven_r8 false) .ret) .skip))) (.reg k_ref05_CheckOven_r9 false)))
def k_ref05_CheckOven_r11 : List AOper := [
  ⟨some 2, .move (.const (.int .i64 0)), none, []⟩]
def k_ref05_CheckOven : AFun := { params := 1, ntmps := 34, body := (.seq (.reg k_ref05_CheckOven_r0 false) (.seq (.seq (.reg k_ref05_CheckOven_r1 false) (.cond (.tmp 6) (.seq (.reg k_ref05_CheckOven_r2 false) .ret) .skip)) (.seq (.seq (.reg k_ref05_CheckOven_r3 false) (.cond (.tmp 10) (.seq (.reg k_ref05_CheckOven_r4 false) .ret) .skip)) (.seq (.seq (.reg k_ref05_CheckOven_r5 false) (.block 0 (.loop k_ref05_CheckOven_r10))) (.seq (.reg k_ref05_CheckOven_r11 false) .ret))))), res := [.tmp 2] }
theorem k_ref05_CheckOven_ok : cfun Try.prog Try.f33 = k_ref05_CheckOven := by kernel_rfl

abbrev n_kit_OvenOf : Nat := 23
theorem e_kit_OvenOf : EntryOK Try.prog n_kit_OvenOf k_kit_OvenOf := ⟨Try.f23, Try.func23, k_kit_OvenOf_ok, by kernel_rfl⟩
abbrev n_ref05_CheckOven : Nat := 33
theorem e_ref05_CheckOven : EntryOK Try.prog n_ref05_CheckOven k_ref05_CheckOven := ⟨Try.f33, Try.func33, k_ref05_CheckOven_ok, by kernel_rfl⟩
attribute [go_sem] k_kit_OvenOf_r0 k_kit_OvenOf_r1 k_kit_OvenOf_r2 k_kit_OvenOf_r3 k_kit_OvenOf_r4s k_kit_OvenOf_r5
attribute [go_sem] k_kit_OvenOf_r7 k_ref05_CheckOven_r0 k_ref05_CheckOven_r1 k_ref05_CheckOven_r2 k_ref05_CheckOven_r3 k_ref05_CheckOven_r4 k_ref05_CheckOven_r5 k_ref05_CheckOven_r6 k_ref05_CheckOven_r7 k_ref05_CheckOven_r8 k_ref05_CheckOven_r9 k_ref05_CheckOven_r11
attribute [go_sem] k_kit_OvenOf_r4_sg
attribute [go_sem] k_kit_OvenOf_r4_st
attribute [go_sem] k_kit_OvenOf k_ref05_CheckOven
end Go.Proofs

namespace Go.Proofs
open Go Go.Sx
attribute [local irreducible] Run

theorem lg_snoc (xs : List Lg) (a b : Int) : xs.map Lg.v ++ [AVal.agg [.int .i64 a, .int .i64 b]] = (xs ++ [Lg.mk a b]).map Lg.v := by
  rw [List.map_append]; rfl
theorem lgs_snoc {ls : List Lg} (h : ∀ l ∈ ls, LgOK l) {l : Lg} (hl : LgOK l) : ∀ x ∈ ls ++ [l], LgOK x := fun x hx => by
  rcases List.mem_append.1 hx with h1 | h1
  · exact h x h1
  · simp at h1; subst h1; exact hl
set_option maxHeartbeats 4000000 in
set_option maxRecDepth 10000 in
theorem oven_loop {G : Ctx} {f tk : Int} (hf : 300 ≤ f ∧ f ≤ 1200) (htk : 1 ≤ tk ∧ tk ≤ 2000) {lg : Int} {Y1 : Option Row} (hY : Y1 = some (.cells false 2 [.agg [.int .i64 0, .nilsl]])) {M : Nat} (hM : M ≤ 100) {R : AVal → Heap → Prop}
    (hR : ∀ (ls : List Lg) (w' : Int) (q : Nat) (s1 s2 : Option Row) (X : Heap), (∀ l ∈ ls, LgOK l) → 1 ≤ ls.length → ls.length ≤ M → X[q]? = some (some (.cells true 2 (ls.map Lg.v))) → R (.agg [.int .i64 f, .sl (q + 3) 0 ls.length]) (some (Dr w') :: s1 :: s2 :: X))
    {ls : List Lg} {w i : Int} {q : Nat} {X : Heap} (hz : ∀ l ∈ ls, LgOK l) (hl : 1 ≤ ls.length ∧ (ls.length : Int) + i ≤ M) (hi : 0 ≤ i) (hX : X[q]? = some (some (.cells true 2 (ls.map Lg.v)))) :
    Sx.Loop Try.prog G 1 none k_kit_OvenOf_r6 [.blk 0, .seq (.seq (.reg k_kit_OvenOf_r7 false) .ret)]
      ⟨tsets 41 [(0, .ptr 0 0 0 1), (1, .int .i64 lg), (2, .int .i64 tk), (6, .ptr 1 0 0 1), (7, .ptr 2 0 0 1), (8, .int .i64 i)], some (Dr w) :: Y1 :: some (.cells false 2 [.agg [.int .i64 f, .sl (q + 3) 0 ls.length]]) :: X, []⟩ (RetPost [.cell 6 (some (some 2))] R) := by
  subst hY
  refine loop_ind k_kit_OvenOf_r6.eq_1 (fun a : List Lg × Int × Int × Heap => (∀ l ∈ a.1, LgOK l) ∧ (1 ≤ a.1.length ∧ (a.1.length : Int) + a.2.2.1 ≤ M) ∧ 0 ≤ a.2.2.1 ∧ a.2.2.2[q]? = some (some (.cells true 2 (a.1.map Lg.v)))) (fun a => a.2.2.1.toNat)
    (fun a => (tsets 41 [(0, .ptr 0 0 0 1), (1, .int .i64 lg), (2, .int .i64 tk), (6, .ptr 1 0 0 1), (7, .ptr 2 0 0 1), (8, .int .i64 a.2.2.1)], some (Dr a.2.1) :: some (.cells false 2 [.agg [.int .i64 0, .nilsl]]) :: some (.cells false 2 [.agg [.int .i64 f, .sl (q + 3) 0 a.1.length]]) :: a.2.2.2))
    (ls, w, i, X) ⟨hz, hl, hi, hX⟩ (by simp [go_sem]) rfl ?_
  clear hz hl hi hX
  clear ls w i X
  rintro ⟨ls, w, i, X⟩ ⟨hz, hl, hi, hX⟩ ih
  dsimp only at hz hl hi hX ih ⊢
  by_cases c1 : 0 < i
  · have u1 := btw_in (w := w) (lo := 1) (hi := tk) (by omega)
    have u2 := btw_in (w := dstep w) (lo := 300) (hi := 1200) (by decide)
    have u3 := upto_in (w := dstep (dstep w)) (n := 2001) (by decide)
    have u4 := upto_in (w := dstep (dstep (dstep w))) (n := 3) (by decide)
    have k1 := between_ok w 1 tk (by decide) (by omega) (by omega)
    have k2 := between_ok (dstep w) 300 1200 (by decide) (by decide) (by decide)
    have k3 := upto_ok (dstep (dstep w)) 2001 (by decide)
    have k4 := upto_ok (dstep (dstep (dstep w))) 3 (by decide)
    obtain ⟨ht, hht, sb⟩ := sel3i _ (btw (dstep w) 300 1200) (upto (dstep (dstep w)) 2001) f u4
    have hb : 0 ≤ ht ∧ ht ≤ 2000 := by rcases hht with rfl | rfl | rfl <;> omega
    obtain ⟨t, ht1⟩ : ∃ t, btw w 1 tk = t := ⟨_, rfl⟩
    rw [ht1] at u1 k1
    have q1 : ¬ upto (dstep (dstep (dstep w))) 3 < 0 := by omega
    have hlt : q < X.length := (List.getElem?_eq_some_iff.1 hX).1
    have cX := fun Y => cells_more (cells_at hX) Y
    have pX := fun Y x => put_more (H := X) hlt Y x
    have hq : (ls.length + 1) * 16 ≤ 2 ^ 44 := by omega
    have w9 : IntKind.i64.wrap (i - 1) = i - 1 := w64 (by omega)
    have hc : Heap.cellsAt X q = some (true, 2, List.map Lg.v ls) := cells_at hX
    simp only [go_sem, c1]
    refine dD k1 ?_
    simp only [go_sem]
    refine dD k2 ?_
    simp only [go_sem]
    refine dD k3 ?_
    simp only [go_sem]
    refine ⟨by simp <;> omega, ?_⟩
    refine dD k4 ?_
    simp only [go_sem, q1, sb]
    refine ⟨u4.2, by simp <;> omega, ?_⟩
    have ez : ls.map Lg.v ++ [AVal.agg [AVal.int IntKind.i64 t, AVal.int IntKind.i64 ht]] = (ls ++ [Lg.mk t ht]).map Lg.v := lg_snoc ls t ht
    have el : ls.length + 1 = (ls ++ [Lg.mk t ht]).length := by simp
    simp only [go_sem, cX, pX, hq, w9, ez]
    rw [el]
    refine ih (ls ++ [Lg.mk t ht], _, i - 1, _) (by dsimp only; omega) ⟨lgs_snoc hz ⟨by dsimp only; omega, hb⟩, by dsimp only; rw [← el]; omega, by dsimp only; omega, ?_⟩ _ (by simp [go_sem])
    dsimp only
    rw [List.getElem?_append_left (by rw [List.length_set]; exact hlt)]
    exact List.getElem?_set_self hlt
  · simp only [go_sem, c1]
    exact hR ls w q _ _ X hz hl.1 (by omega) hX

def lgL (ls : List Lg) : List AVal := ls.map Lg.v
set_option maxHeartbeats 4000000 in
set_option maxRecDepth 10000 in
theorem ovenOf_run (w lg tk : Int) (hlg : 0 ≤ lg ∧ lg ≤ 99) (htk : 1 ≤ tk ∧ tk ≤ 2000) : AnsE Try.prog n_kit_OvenOf [.ptr 0 0 0 1, .int .i64 lg, .int .i64 tk] [some (Dr w)] (fun a : Int × List Lg × Int => (300 ≤ a.1 ∧ a.1 ≤ 1200) ∧ (a.2.1.length : Int) ≤ lg ∧ ∀ l ∈ a.2.1, LgOK l)
    (fun a => .agg [.int .i64 a.1, slv 1 (lgL a.2.1)]) (fun a => some (Dr a.2.2) :: slrG true 2 (lgL a.2.1)) := by
  refine AnsE.keep (run_fn e_kit_OvenOf fun G => ?_) (fun a ha => ?_)
  rotate_left
  · unfold slv slrG
    split
    · exact ⟨by simp, by simp [go_sem], dr_bel _ _, trivial⟩
    · refine ⟨by simp, by simp [go_sem], dr_bel _ _, by rw [row_bel_cells]; unfold lgL; simp only [go_sem], trivial⟩
  have b1 := btw_in (w := w) (lo := 300) (hi := 1200) (by decide)
  have wl : IntKind.i64.wrap (lg + 1) = lg + 1 := w64 (by omega)
  have b4 := upto_in (w := dstep w) (n := lg + 1) (by omega)
  simp only [go_sem]
  refine cD (between_ok _ 300 1200 (by decide) (by decide) (by decide)) ?_
  simp only [go_sem, wl]
  refine cD (upto_ok _ (lg + 1) (by omega)) ?_
  obtain ⟨f, hf⟩ : ∃ f, btw w 300 1200 = f := ⟨_, rfl⟩
  rw [hf] at b1 ⊢
  obtain ⟨i0, hi0⟩ : ∃ i, upto (dstep w) (lg + 1) = i := ⟨_, rfl⟩
  rw [hi0] at b4 ⊢
  obtain ⟨w0, hw0⟩ : ∃ w0, dstep (dstep w) = w0 := ⟨_, rfl⟩
  rw [hw0]
  simp only [go_sem]
  have hR : ∀ (ls : List Lg) (w' : Int) (q : Nat) (s1 s2 : Option Row) (X : Heap), (∀ l ∈ ls, LgOK l) → 1 ≤ ls.length → ls.length ≤ lg.toNat → X[q]? = some (some (.cells true 2 (ls.map Lg.v))) →
      ∃ a : Int × List Lg × Int, ((300 ≤ a.1 ∧ a.1 ≤ 1200) ∧ (a.2.1.length : Int) ≤ lg ∧ ∀ l ∈ a.2.1, LgOK l) ∧ ∃ σ, Kept [some (Dr w)] (some (Dr a.2.2) :: slrG true 2 (lgL a.2.1)) (AVal.agg [AVal.int IntKind.i64 a.1, slv 1 (lgL a.2.1)]) (.agg [.int .i64 f, .sl (q + 3) 0 ls.length]) (some (Dr w') :: s1 :: s2 :: X) σ := by
    intro ls w' q s1 s2 X hz h1 h2 hX
    have hne : lgL ls ≠ [] := fun e => by unfold lgL at e; rw [List.map_eq_nil_iff] at e; rw [e] at h1; simp at h1
    refine ⟨(f, ls, w'), ⟨b1, by dsimp only; omega, hz⟩, ?_⟩
    dsimp only
    unfold slv slrG
    rw [if_neg hne, if_neg hne]
    refine kept_two (q + 3) (by omega) (by simp [ren, rens, lgL]) (by simp only [go_sem]) (by rw [row_bel_cells]; unfold lgL; simp only [go_sem]) rfl ?_
    unfold lgL; simpa using hX
  have hnil : ∀ (w' : Int) (X : Heap), ∃ a : Int × List Lg × Int, ((300 ≤ a.1 ∧ a.1 ≤ 1200) ∧ (a.2.1.length : Int) ≤ lg ∧ ∀ l ∈ a.2.1, LgOK l) ∧ ∃ σ, Kept [some (Dr w)] (some (Dr a.2.2) :: slrG true 2 (lgL a.2.1)) (AVal.agg [AVal.int IntKind.i64 a.1, slv 1 (lgL a.2.1)]) (.agg [.int .i64 f, .nilsl]) (some (Dr w') :: X) σ := by
    intro w' X
    refine ⟨(f, [], w'), ⟨b1, by simp; omega, fun l hl => by simp at hl⟩, ?_⟩
    exact kept_id rfl (by simp [go_sem, slv, lgL]) fun i x hx => by
      rcases i with _ | i
      · cases hx; exact ⟨dr_bel _ _, rfl⟩
      · exact absurd hx (by simp [slrG, lgL])
  by_cases c1 : 0 < i0
  · refine loop_body 400 k_kit_OvenOf_r6.eq_1 ?_
    have u1 := btw_in (w := w0) (lo := 1) (hi := tk) (by omega)
    have u2 := btw_in (w := dstep w0) (lo := 300) (hi := 1200) (by decide)
    have u3 := upto_in (w := dstep (dstep w0)) (n := 2001) (by decide)
    have u4 := upto_in (w := dstep (dstep (dstep w0))) (n := 3) (by decide)
    have k1 := between_ok w0 1 tk (by decide) (by omega) (by omega)
    have k2 := between_ok (dstep w0) 300 1200 (by decide) (by decide) (by decide)
    have k3 := upto_ok (dstep (dstep w0)) 2001 (by decide)
    have k4 := upto_ok (dstep (dstep (dstep w0))) 3 (by decide)
    obtain ⟨ht, hht, sb⟩ := sel3i _ (btw (dstep w0) 300 1200) (upto (dstep (dstep w0)) 2001) f u4
    have hb : 0 ≤ ht ∧ ht ≤ 2000 := by rcases hht with rfl | rfl | rfl <;> omega
    obtain ⟨t, ht1⟩ : ∃ t, btw w0 1 tk = t := ⟨_, rfl⟩
    rw [ht1] at u1 k1
    have q1 : ¬ upto (dstep (dstep (dstep w0))) 3 < 0 := by omega
    have w9 : IntKind.i64.wrap (i0 - 1) = i0 - 1 := w64 (by omega)
    have h16 : 16 ≤ 2 ^ 44 := by decide
    simp only [go_sem, c1]
    refine dD k1 ?_
    simp only [go_sem]
    refine dD k2 ?_
    simp only [go_sem]
    refine dD k3 ?_
    simp only [go_sem]
    refine dD k4 ?_
    simp only [go_sem, q1, sb]
    refine ⟨u4.2, ?_⟩
    simp only [h16, w9, if_true]
    have ez : [AVal.agg [AVal.int IntKind.i64 t, AVal.int IntKind.i64 ht]] = [Lg.mk t ht].map Lg.v := rfl
    refine ⟨trivial, ?_⟩
    refine loop_wk ?_ (oven_loop (f := f) (tk := tk) (lg := lg) (M := lg.toNat) b1 htk rfl (by omega) hR (q := 2) (ls := [Lg.mk t ht]) (i := i0 - 1) (fun l hl => by simp at hl; subst hl; exact ⟨by dsimp only; omega, hb⟩) ⟨by simp, by simp; omega⟩ (by omega) rfl)
    simp [go_sem]
  · refine loop_body 400 k_kit_OvenOf_r6.eq_1 ?_
    simp only [go_sem, c1]
    exact hnil _ _

section
variable {P : Program} {G : Ctx} {g : FuncId} {largs args : List AVal} {H : Heap} {α : Type} {Φ : α → Prop} {k : Nat} {R : Runner} {l : List AOper} {fs : List Sx.Frame} {ρ : List AVal} {ms : List Nat} {Q : Sx.Goal} {dst : Option Nat}
theorem callDSf {x : Row} {x' : α → Row} {es : α → List AVal} {u : α → AVal} {gr : Bool} {sz j : Nat} (h : AnsE P g (.ptr 0 0 0 1 :: args) [some x] Φ (fun a => .agg [u a, slv 1 (es a)]) fun a => some (x' a) :: slrG gr sz (es a)) (hj : H[j]? = some (some x)) (hb : Bels (fun _ => False) args) (hx : x.bel (fun _ => False))
    (hwf : ∀ a, Φ a → (x' a).bel (fun _ => False) ∧ Bels (fun _ => False) (es a) ∧ Bel (fun _ => False) (u a)) (hk : k ≤ H.length) (hms : ∀ q ∈ ms, q ≠ j ∧ H[q]? = some (some .dfr))
    (hK : ∀ a, Φ a → R (.ops l) fs ⟨setD ρ dst (.agg [u a, slv H.length (es a)]), H.set j (some (x' a)) ++ slrG gr sz (es a), ms⟩ Q) : CallR P G k R g (.ptr j 0 0 1 :: args) dst l fs ρ H ms Q := by
  have hlt : j < H.length := (List.getElem?_eq_some_iff.1 hj).1
  have hargs : args.map (ren (nth [j])) = args := by
    conv => rhs; rw [← List.map_id args]
    exact List.map_congr_left fun v hv => ren_same (bels_mem hb v hv)
  have hrow : ∀ a, Φ a → Row.bel (fun _ => False) (.cells gr sz (es a)) := fun a ha => by rw [row_bel_cells]; exact (hwf a ha).2.1
  have e : ∀ a, Φ a → outΔ (outσ [j] H.length) 0 (some (x' a) :: slrG gr sz (es a)) = (j, x' a) :: if es a = [] then [] else [(H.length, .cells gr sz (es a))] := fun a ha => by
    unfold slrG
    by_cases h0 : es a = []
    · simp only [h0, if_true, outΔ, Row.ren_same (hwf a ha).1]; rfl
    · simp only [h0, if_false, outΔ, Row.ren_same (hwf a ha).1, Row.ren_same (hrow a ha)]; rfl
  refine callE h [j] (by simp) ⟨by rw [Row.ren_same hx]; exact hj, trivial⟩ (by simp only [List.map_cons, hargs]; rfl) ⟨by rw [bel_ptr]; simp, bels_of fun v hv => (bels_mem hb v hv).mono fun _ h => h.elim⟩ ⟨bel_mono_row hx fun _ h => h.elim, trivial⟩
    (fun a ha => ?_) (by simpa using hlt) hk (fun a ha q hq => ?_) fun a ha => ?_
  · refine ⟨by simp, ?_, bel_mono_row (hwf a ha).1 fun _ h => h.elim, ?_⟩
    · have hu : ∀ S : Nat → Prop, Bel S (u a) := fun S => (hwf a ha).2.2.mono fun _ h => h.elim
      unfold slv slrG
      split
      · simp only [go_sem]
        exact hu _
      · simp only [go_sem]
        first | exact hu _ | exact ⟨hu _, by simp⟩
    · unfold slrG
      split
      · trivial
      · exact ⟨bel_mono_row (hrow a ha) fun _ h => h.elim, trivial⟩
  · rw [e a ha]
    have := (List.getElem?_eq_some_iff.1 (hms q hq).2).1
    refine ⟨?_, (hms q hq).2⟩
    have h1 := (hms q hq).1
    split <;> simp [h1]
    omega
  · rw [e a ha]
    have hren : ren (outσ [j] H.length) (.agg [u a, slv 1 (es a)]) = .agg [u a, slv H.length (es a)] := by
      simp only [ren, rens, ren_same (hwf a ha).2.2]
      congr 2
      unfold slv
      split
      · rfl
      · simp [ren, outσ]
    have := hK a ha
    unfold slrG at this
    rw [hren]
    by_cases h0 : es a = []
    · simp only [h0, if_true, List.append_nil] at this ⊢
      simp only [Heap.puts, put_lt hlt]
      exact this
    · simp only [h0, if_false] at this ⊢
      have e3 : Heap.put (H.set j (some (x' a))) H.length (.cells gr sz (es a)) = H.set j (some (x' a)) ++ [some (.cells gr sz (es a))] := by
        have := Heap.put_end (H.set j (some (x' a))) (.cells gr sz (es a))
        rwa [List.length_set] at this
      simp only [Heap.puts, put_lt hlt, e3]
      exact this
end
end Go.Proofs

namespace Go.Proofs
open Go Go.Sx
attribute [local irreducible] Run

def hts (f : Int) (ts : List Tk) : List Int := f :: ts.map (·.t)
theorem il_snoc (l : List Int) (x : Int) : il l ++ [.int .i64 x] = il (l ++ [x]) := by simp [il]
theorem il_len (l : List Int) : (il l).length = l.length := by simp [il]
def g2 (n : Nat) : Bool := decide (2 ≤ n)
end Go.Proofs

namespace Go.Proofs
open Go Go.Sx
attribute [local irreducible] Run

end Go.Proofs

namespace Go.Proofs
open Go Go.Sx
attribute [local irreducible] Run

end Go.Proofs

namespace Go.Proofs
open Go Go.Sx
attribute [local irreducible] Run

structure LiH (brk : Int) (zs : List Zn) (th f : Int) (ls : List Lg) (n N : Nat) (r m : Nat) (lr : Row) (J : Heap) : Prop where
  len : m + 7 ≤ J.length
  y : J[m]? = some (some (.cells false 1 [.yfn r]))
  n : J[m + 1]? = some (some (.cells false 1 [.int .i64 n]))
  t : J[m + 2]? = some (some (.cells false 1 [.int .i64 N]))
  w : J[m + 3]? = some (some (.cells false 3 [wlV brk zs th]))
  o : J[m + 4]? = some (some (.cells false 2 [ovV f ls]))
  d : J[m + 5]? = some (some .dfr)
  l : J[m + 6]? = some (some lr)
section
variable {brk : Int} {zs : List Zn} {th f : Int} {ls : List Lg} {n N r m : Nat} {lr : Row} {J K : Heap}
theorem LiH.mono (h : LiH brk zs th f ls n N r m lr J) (hl : J.length ≤ K.length) (hk : ∀ q, m ≤ q → q < J.length → K[q]? = J[q]?) : LiH brk zs th f ls n N r m lr K :=
  have h1 := h.len
  ⟨by omega, by rw [hk _ (by omega) (by omega)]; exact h.y, by rw [hk _ (by omega) (by omega)]; exact h.n, by rw [hk _ (by omega) (by omega)]; exact h.t, by rw [hk _ (by omega) (by omega)]; exact h.w, by rw [hk _ (by omega) (by omega)]; exact h.o,
    by rw [hk _ (by omega) (by omega)]; exact h.d, by rw [hk _ (by omega) (by omega)]; exact h.l⟩
theorem LiH.off (h : LiH brk zs th f ls n N r m lr J) {q : Nat} (hq : m + 7 ≤ q) (x : Option Row) : LiH brk zs th f ls n N r m lr (J.set q x) :=
  ⟨by rw [List.length_set]; exact h.len, by rw [List.getElem?_set_ne (by omega)]; exact h.y, by rw [List.getElem?_set_ne (by omega)]; exact h.n, by rw [List.getElem?_set_ne (by omega)]; exact h.t, by rw [List.getElem?_set_ne (by omega)]; exact h.w, by rw [List.getElem?_set_ne (by omega)]; exact h.o,
    by rw [List.getElem?_set_ne (by omega)]; exact h.d, by rw [List.getElem?_set_ne (by omega)]; exact h.l⟩
theorem LiH.setL (h : LiH brk zs th f ls n N r m lr J) (x : Row) : LiH brk zs th f ls n N r m x (J.set (m + 6) (some x)) :=
  have h1 := h.len
  ⟨by rw [List.length_set]; exact h.len, by rw [List.getElem?_set_ne (by omega)]; exact h.y, by rw [List.getElem?_set_ne (by omega)]; exact h.n, by rw [List.getElem?_set_ne (by omega)]; exact h.t, by rw [List.getElem?_set_ne (by omega)]; exact h.w, by rw [List.getElem?_set_ne (by omega)]; exact h.o,
    by rw [List.getElem?_set_ne (by omega)]; exact h.d, List.getElem?_set_self (by omega)⟩
end

end Go.Proofs

namespace Go.Proofs
open Go Go.Sx

end Go.Proofs

namespace Go.Proofs
open Go Go.Sx
attribute [local irreducible] Run

section
variable {brk hol : Nat → Bool} {num : Nat → Int}
end
section
variable {P : Program} {G : Ctx} {g : FuncId} {args largs : List AVal} {H : Heap} {r : AVal} {k : Nat} {R : Runner} {l : List AOper} {fs : List Sx.Frame} {ρ : List AVal} {ms : List Nat} {Q : Sx.Goal} {dst : Option Nat}
end
end Go.Proofs

namespace Go.Proofs
open Go Go.Sx
attribute [local irreducible] Run

end Go.Proofs

namespace Go.Proofs
open Go Go.Sx
attribute [local irreducible] Run

theorem vr_nilo {G : Ctx} {μ : Mu} {a : AVal} {x : Value} (h : VR G μ (.agg [a, .nilsl]) x) : VR G μ (.agg [a, .view []]) x := by
  cases h with
  | agg _ vs hl hv =>
    refine .agg _ vs (by simpa using hl) fun i hi => ?_
    match i, hi with
    | 0, _ => exact hv 0 (by simp)
    | 1, _ =>
      have h3 := hv 1 (by simp)
      simp only [List.getD_cons_zero, List.getD_cons_succ] at h3 ⊢
      generalize vs.getD 1 undef = y at *
      cases h3
      exact .viewnil none 0
def lso : List AVal → List AVal → Prop
  | [], [] => True
  | v :: vs, u :: us => (v = u ∨ (∃ a, v = .agg [a, .nilsl] ∧ u = .agg [a, .view []])) ∧ lso vs us
  | _, _ => False
theorem lso_len : ∀ {l l' : List AVal}, lso l l' → l.length = l'.length
  | [], [], _ => rfl
  | v :: l, u :: l', h => by simp [lso_len h.2]
  | [], _ :: _, h => h.elim
  | _ :: _, [], h => h.elim
theorem lso_vr {G : Ctx} {μ : Mu} : ∀ {l l' : List AVal}, lso l l' → ∀ i c, i < l.length → VR G μ (l.getD i .any) c → VR G μ (l'.getD i .any) c
  | [], [], _, i, c, hi, _ => by simp at hi
  | v :: l, u :: l', h, i, c, hi, hv => by
    cases i with
    | zero =>
      simp only [List.getD_cons_zero] at hv ⊢
      rcases h.1 with rfl | ⟨a, rfl, rfl⟩
      · exact hv
      · exact vr_nilo hv
    | succ i =>
      simp only [List.getD_cons_succ] at hv ⊢
      exact lso_vr h.2 i c (by simpa using hi) hv
  | [], _ :: _, h, _, _, _, _ => h.elim
  | _ :: _, [], h, _, _, _, _ => h.elim
theorem Ans.lso {P : Program} {g : FuncId} {args args' : List AVal} {LH LH' : Heap} {r : AVal} (h : Ans P g args LH r LH') (hw : Go.Proofs.lso args' args) : Ans P g args' LH r LH' := h.weak (lso_len hw) fun _ _ i c hi hv => lso_vr hw i c hi hv
theorem ov_frz {H : Heap} {f : Int} {ls : List Lg} {j n : Nat} {g : Bool} (h : H[j]? = some (some (.cells g 2 (ls.map Lg.v)))) (hn : n = ls.length) : frz 6 H (.agg [.int .i64 f, .sl j 0 n]) = ovV f ls := by
  have h1 : frz 5 H (.sl j 0 n) = .view (ls.map Lg.v) := by
    rw [frz_sl (d := 4) h (by simpa using hn), List.map_map]; rfl
  show AVal.agg [_, frz 5 H (.sl j 0 n)] = _
  rw [h1]; rfl
end Go.Proofs

namespace Go.Proofs
open Go Go.Sx
attribute [local irreducible] Run

def fstE (e : Nat → Int) : Nat → Nat → Int
  | 0, _ => 0
  | n + 1, i => if e i = 0 then fstE e n (i + 1) else e i
theorem fstE_go {e : Nat → Int} {n i : Nat} (h : i < n) (h0 : e i = 0) : fstE e (n - i) i = fstE e (n - (i + 1)) (i + 1) := by
  rw [show n - i = (n - (i + 1)) + 1 by omega, fstE, if_pos h0]
theorem fstE_stop {e : Nat → Int} {n i : Nat} (h : i < n) (h0 : e i ≠ 0) : fstE e (n - i) i = e i := by
  rw [show n - i = (n - (i + 1)) + 1 by omega, fstE, if_neg h0]
theorem fstE_end (e : Nat → Int) (n : Nat) : fstE e (n - n) n = 0 := by rw [Nat.sub_self]; rfl
def rgE5 (a b m : Int) : Int := if 0 ≤ a ∧ a ≤ m then (if 0 ≤ b ∧ b ≤ m then (if a > b then 11 else 0) else 2) else 2
theorem gwithin_no {n a b : Int} (h : ¬ (a ≤ n ∧ n ≤ b)) : Ans Try.prog n_glass_within [.int .i64 n, .int .i64 a, .int .i64 b] [] (.bool false) [] := by
  have := gwithin n a b
  rwa [show (decide (a ≤ n) && decide (n ≤ b)) = false by rw [Bool.and_eq_false_iff, decide_eq_false_iff_not, decide_eq_false_iff_not]; omega] at this
theorem isHeat_no {n : Int} (h : ¬ (0 ≤ n ∧ n ≤ 2000)) : Ans Try.prog n_glass_isHeat [.int .i64 n] [] (.bool false) [] := by
  refine spec_run e_glass_isHeat fun G => ?_
  simp only [go_sem]
  refine cP (gwithin_no h) ?_
  simp only [go_sem]
theorem checkRange_raw (a b m : Int) : Ans Try.prog n_glass_checkRange [r2 a b, .int .i64 m] [] (.int .i64 (rgE5 a b m)) [] := by
  unfold rgE5
  refine spec_run e_glass_checkRange fun G => ?_
  by_cases h1 : 0 ≤ a ∧ a ≤ m
  · rw [if_pos h1]
    by_cases h2 : 0 ≤ b ∧ b ≤ m
    · rw [if_pos h2]
      by_cases h3 : a > b
      · simp only [go_sem, r2]
        refine cP (gwithin_yes h1) ?_
        simp only [go_sem]
        refine cP (gwithin_yes h2) ?_
        simp only [go_sem, h3]
      · simp only [go_sem, r2]
        refine cP (gwithin_yes h1) ?_
        simp only [go_sem]
        refine cP (gwithin_yes h2) ?_
        simp only [go_sem, h3]
    · rw [if_neg h2]
      simp only [go_sem, r2]
      refine cP (gwithin_yes h1) ?_
      simp only [go_sem]
      refine cP (gwithin_no h2) ?_
      simp only [go_sem]
  · rw [if_neg h1]
    simp only [go_sem, r2]
    refine cP (gwithin_no h1) ?_
    simp only [go_sem]
theorem rbeyond_yes {n a b : Int} (h : ¬ (a ≤ n ∧ n ≤ b)) : Ans Try.prog n_ref05_beyond [.int .i64 n, .int .i64 a, .int .i64 b] [] (.bool true) [] := by
  refine spec_run e_ref05_beyond fun G => ?_
  by_cases h1 : n < a
  · simp only [go_sem, h1]
  · have h2 : n > b := by omega
    simp only [go_sem, h1, h2]
theorem rcheckRange_raw (a b m : Int) : Ans Try.prog n_ref05_checkRange [r2 a b, .int .i64 m] [] (.int .i64 (rgE5 a b m)) [] := by
  unfold rgE5
  refine spec_run e_ref05_checkRange fun G => ?_
  by_cases h1 : 0 ≤ a ∧ a ≤ m
  · rw [if_pos h1]
    by_cases h2 : 0 ≤ b ∧ b ≤ m
    · rw [if_pos h2]
      by_cases h3 : a > b
      · simp only [go_sem, r2]
        refine cP (rbeyond_no h1) ?_
        simp only [go_sem]
        refine cP (rbeyond_no h2) ?_
        simp only [go_sem, h3]
      · simp only [go_sem, r2]
        refine cP (rbeyond_no h1) ?_
        simp only [go_sem]
        refine cP (rbeyond_no h2) ?_
        simp only [go_sem, h3]
    · rw [if_neg h2]
      simp only [go_sem, r2]
      refine cP (rbeyond_no h1) ?_
      simp only [go_sem]
      refine cP (rbeyond_yes h2) ?_
      simp only [go_sem]
  · rw [if_neg h1]
    simp only [go_sem, r2]
    refine cP (rbeyond_yes h1) ?_
    simp only [go_sem]
def znE (zs : List Zn) (i : Nat) : Int :=
  if 0 ≤ (zs.getD i default).f ∧ (zs.getD i default).f ≤ 2000 then
    (if (i = 0 ∧ (zs.getD i default).f ≠ 0) ∨ (0 < i ∧ (zs.getD i default).f ≤ (zs.getD (i - 1) default).f) then 11 else
      (if rgE5 (zs.getD i default).glo (zs.getD i default).ghi 100000 = 0 then rgE5 (zs.getD i default).rlo (zs.getD i default).rhi 1000000 else rgE5 (zs.getD i default).glo (zs.getD i default).ghi 100000))
  else 2
def stE (brk : Int) (zs : List Zn) : Int := if 1 ≤ brk ∧ brk ≤ 1000000000 then (if zs.length = 0 then 6 else if zs.length > 16 then 8 else fstE (znE zs) zs.length 0) else 2
set_option maxHeartbeats 8000000 in
set_option maxRecDepth 10000 in
theorem Check_raw5 (brk : Int) (zs : List Zn) (hl : zs.length ≤ 1000) : Ans Try.prog n_glass_Check [stV brk zs] [] (.int .i64 (stE brk zs)) [] := by
  unfold stE
  refine spec_run e_glass_Check fun G => ?_
  by_cases hb : 1 ≤ brk ∧ brk ≤ 1000000000
  rotate_left
  · rw [if_neg hb]
    simp only [go_sem, stV]
    refine cP (gwithin_no hb) ?_
    simp only [go_sem]
  rw [if_pos hb]
  simp only [go_sem, stV]
  refine cP (gwithin_yes hb) ?_
  by_cases n1 : zs.length = 0
  · have e1 : ((zs.length : Int) == 0) = true := by rw [n1]; rfl
    rw [if_pos n1]
    simp only [go_sem, e1, List.length_map]
  have e1 : ((zs.length : Int) == 0) = false := beq_eq_false_iff_ne.2 (by omega)
  rw [if_neg n1]
  by_cases n2 : zs.length > 16
  · have e2 : (zs.length : Int) > 16 := by omega
    rw [if_pos n2]
    simp only [go_sem, e1, e2, List.length_map]
  have e2 : ¬ (zs.length : Int) > 16 := by omega
  rw [if_neg n2]
  simp only [go_sem, e1, e2, List.length_map]
  obtain ⟨RES, hRES⟩ : ∃ R, fstE (znE zs) zs.length 0 = R := ⟨_, rfl⟩
  rw [hRES]
  refine loop_ind k_glass_Check_r21.eq_1 (fun s : Nat × Heap => s.1 ≤ zs.length ∧ fstE (znE zs) (zs.length - s.1) s.1 = RES) (fun s => zs.length - s.1)
    (fun s => (tsets 67 [(1, .ptr 0 0 0 1), (2, .int .i64 0), (20, .view (zs.map Zn.v)), (21, .int .i64 zs.length), (22, .int .i64 s.1)], some (.cells false 2 [.agg [.int .i64 brk, .view (zs.map Zn.v)]]) :: s.2)) (0, []) ⟨Nat.zero_le _, hRES⟩ (by simp [go_sem]) rfl ?_
  clear hRES
  rintro ⟨i, X⟩ ⟨hi, hR⟩ ih
  dsimp only at hi hR ih ⊢
  by_cases h1 : i < zs.length
  · have h2 : (i : Int) < zs.length := by omega
    have n0 : ¬ (i : Int) < 0 := by omega
    have h3 : IntKind.i64.wrap ((i : Int) + 1) = ((i + 1 : Nat) : Int) := by rw [w64 (by omega)]; rfl
    obtain ⟨z, hzi⟩ : ∃ z, zs[i]? = some z := ⟨_, List.getElem?_eq_getElem h1⟩
    have ez : zs.getD i default = z := by rw [List.getD_eq_getElem?_getD, hzi]; rfl
    have ihn := fun (h0 : znE zs i = 0) Y => ih (i + 1, Y) (by dsimp only; omega) ⟨h1, by dsimp only; rw [← fstE_go h1 h0]; exact hR⟩
    have hst := fun (h0 : znE zs i ≠ 0) => (fstE_stop h1 h0).symm.trans hR
    clear ih hR
    have k1 := checkRange_raw z.glo z.ghi 100000
    have k2 := checkRange_raw z.rlo z.rhi 1000000
    simp only [r2] at k1 k2
    unfold znE at ihn hst
    rw [ez] at ihn hst
    by_cases c1 : 0 ≤ z.f ∧ z.f ≤ 2000
    rotate_left
    · rw [if_neg c1] at hst
      have hst := hst (by decide)
      subst hst
      simp only [go_sem, h2, n0, hzi, Zn.v, Zn.cs]
      refine cP (isHeat_no c1) ?_
      simp only [go_sem]
    rw [if_pos c1] at hst ihn
    obtain ⟨g, hg⟩ : ∃ g, rgE5 z.glo z.ghi 100000 = g := ⟨_, rfl⟩
    obtain ⟨r, hr⟩ : ∃ g, rgE5 z.rlo z.rhi 1000000 = g := ⟨_, rfl⟩
    rw [hg] at k1 hst ihn
    rw [hr] at k2 hst ihn
    simp only [go_sem, h2, n0, hzi, Zn.v, Zn.cs]
    refine cP (isHeat_yes c1) ?_
    by_cases h0 : i = 0
    · subst h0
      have e0 : (((0 : Nat) : Int) == 0) = true := rfl
      have e3 : ¬ (0 : Int) < ((0 : Nat) : Int) := by omega
      by_cases c2 : z.f = 0
      · have e4 : (z.f != 0) = false := by rw [c2]; rfl
        rw [if_neg (by omega)] at hst ihn
        simp only [go_sem, e0, e3, e4]
        refine cP k1 ?_
        by_cases c3 : g = 0
        · have e5 : (g != 0) = false := by rw [c3]; rfl
          rw [if_pos c3] at hst ihn
          simp only [go_sem, e5]
          refine cP k2 ?_
          by_cases c4 : r = 0
          · have e6 : (r != 0) = false := by rw [c4]; rfl
            simp only [go_sem, e6, h3]
            exact ihn c4 _ _ (by simp [go_sem]; rfl)
          · have e6 : (r != 0) = true := by simpa using c4
            have hst := hst c4
            subst hst
            simp only [go_sem, e6]
        · have e5 : (g != 0) = true := by simpa using c3
          rw [if_neg c3] at hst
          have hst := hst c3
          subst hst
          simp only [go_sem, e5]
      · have e4 : (z.f != 0) = true := by simpa using c2
        rw [if_pos (by omega)] at hst
        have hst := hst (by decide)
        subst hst
        simp only [go_sem, e0, e3, e4]
    · have e0 : ((i : Int) == 0) = false := beq_eq_false_iff_ne.2 (by omega)
      have e3 : (0 : Int) < (i : Int) := by omega
      obtain ⟨j, rfl⟩ : ∃ j, i = j + 1 := ⟨i - 1, by omega⟩
      obtain ⟨y, hy⟩ : ∃ y, zs[j]? = some y := ⟨_, List.getElem?_eq_getElem (by omega)⟩
      have ey : zs.getD (j + 1 - 1) default = y := by rw [Nat.add_sub_cancel, List.getD_eq_getElem?_getD, hy]; rfl
      have e7 : IntKind.i64.wrap (((j + 1 : Nat) : Int) - 1) = j := by rw [w64 (by omega)]; omega
      have e8 : ¬ (j : Int) < 0 := by omega
      rw [ey] at hst ihn
      by_cases c2 : y.f < z.f
      · have e4 : ¬ z.f ≤ y.f := by omega
        rw [if_neg (by omega)] at hst ihn
        simp only [go_sem, e0, e3, e4, e7, e8, hy, Int.toNat_natCast, Zn.v, Zn.cs]
        refine cP k1 ?_
        by_cases c3 : g = 0
        · have e5 : (g != 0) = false := by rw [c3]; rfl
          rw [if_pos c3] at hst ihn
          simp only [go_sem, e5]
          refine cP k2 ?_
          by_cases c4 : r = 0
          · have e6 : (r != 0) = false := by rw [c4]; rfl
            simp only [go_sem, e6, h3]
            exact ihn c4 _ _ (by simp [go_sem])
          · have e6 : (r != 0) = true := by simpa using c4
            have hst := hst c4
            subst hst
            simp only [go_sem, e6]
        · have e5 : (g != 0) = true := by simpa using c3
          rw [if_neg c3] at hst
          have hst := hst c3
          subst hst
          simp only [go_sem, e5]
      · have e4 : z.f ≤ y.f := by omega
        rw [if_pos (by omega)] at hst
        have hst := hst (by decide)
        subst hst
        simp only [go_sem, e0, e3, e4, e7, e8, hy, Int.toNat_natCast, Zn.v, Zn.cs]
  · have h2 : ¬ (i : Int) < zs.length := by omega
    obtain rfl : i = zs.length := by omega
    rw [fstE_end] at hR
    subst hR
    simp only [go_sem, h2]
set_option maxHeartbeats 8000000 in
set_option maxRecDepth 10000 in
theorem rCheck_raw5 (brk : Int) (zs : List Zn) (hl : zs.length ≤ 1000) : Ans Try.prog n_ref05_Check [stV brk zs] [] (.int .i64 (stE brk zs)) [] := by
  unfold stE
  refine spec_run e_ref05_Check fun G => ?_
  by_cases hb : 1 ≤ brk ∧ brk ≤ 1000000000
  rotate_left
  · rw [if_neg hb]
    simp only [go_sem, stV]
    refine cP (rbeyond_yes hb) ?_
    simp only [go_sem]
  rw [if_pos hb]
  simp only [go_sem, stV]
  refine cP (rbeyond_no hb) ?_
  by_cases n1 : zs.length = 0
  · have e1 : ((zs.length : Int) == 0) = true := by rw [n1]; rfl
    rw [if_pos n1]
    simp only [go_sem, e1, List.length_map]
  have e1 : ((zs.length : Int) == 0) = false := beq_eq_false_iff_ne.2 (by omega)
  rw [if_neg n1]
  by_cases n2 : zs.length > 16
  · have e2 : (zs.length : Int) > 16 := by omega
    rw [if_pos n2]
    simp only [go_sem, e1, e2, List.length_map]
  have e2 : ¬ (zs.length : Int) > 16 := by omega
  rw [if_neg n2]
  simp only [go_sem, e1, e2, List.length_map]
  obtain ⟨RES, hRES⟩ : ∃ R, fstE (znE zs) zs.length 0 = R := ⟨_, rfl⟩
  rw [hRES]
  refine loop_ind k_ref05_Check_r23.eq_1 (fun s : Nat × Int × Heap => s.1 ≤ zs.length ∧ fstE (znE zs) (zs.length - s.1) s.1 = RES ∧ (s.1 = 0 → s.2.1 = -1) ∧ (0 < s.1 → s.2.1 = (zs.getD (s.1 - 1) default).f)) (fun s => zs.length - s.1)
    (fun s => (tsets 61 [(1, .ptr 0 0 0 1), (2, .int .i64 0), (3, .int .i64 s.2.1), (4, .int .i64 s.1)], some (.cells false 2 [.agg [.int .i64 brk, .view (zs.map Zn.v)]]) :: s.2.2)) (0, -1, []) ⟨Nat.zero_le _, hRES, fun _ => rfl, fun h => absurd h (by simp)⟩ (by simp [go_sem]) rfl ?_
  clear hRES
  rintro ⟨i, last, X⟩ ⟨hi, hR, hl0, hl1⟩ ih
  dsimp only at hi hR hl0 hl1 ih ⊢
  by_cases h1 : i < zs.length
  · have h2 : (i : Int) < zs.length := by omega
    have n0 : ¬ (i : Int) < 0 := by omega
    have h3 : IntKind.i64.wrap ((i : Int) + 1) = ((i + 1 : Nat) : Int) := by rw [w64 (by omega)]; rfl
    obtain ⟨z, hzi⟩ : ∃ z, zs[i]? = some z := ⟨_, List.getElem?_eq_getElem h1⟩
    have ez : zs.getD i default = z := by rw [List.getD_eq_getElem?_getD, hzi]; rfl
    have ihn := fun (h0 : znE zs i = 0) Y => ih (i + 1, z.f, Y) (by dsimp only; omega) ⟨h1, by dsimp only; rw [← fstE_go h1 h0]; exact hR, fun h => absurd h (by dsimp only; omega), fun _ => by dsimp only; rw [Nat.add_sub_cancel, ez]⟩
    have hst := fun (h0 : znE zs i ≠ 0) => (fstE_stop h1 h0).symm.trans hR
    clear ih hR
    have k1 := rcheckRange_raw z.glo z.ghi 100000
    have k2 := rcheckRange_raw z.rlo z.rhi 1000000
    simp only [r2] at k1 k2
    unfold znE at ihn hst
    rw [ez] at ihn hst
    by_cases c1 : 0 ≤ z.f ∧ z.f ≤ 2000
    rotate_left
    · rw [if_neg c1] at hst
      have hst := hst (by decide)
      subst hst
      simp only [go_sem, h2, n0, hzi, Zn.v, Zn.cs]
      refine cP (rbeyond_yes c1) ?_
      simp only [go_sem]
    rw [if_pos c1] at hst ihn
    obtain ⟨g, hg⟩ : ∃ g, rgE5 z.glo z.ghi 100000 = g := ⟨_, rfl⟩
    obtain ⟨r, hr⟩ : ∃ g, rgE5 z.rlo z.rhi 1000000 = g := ⟨_, rfl⟩
    rw [hg] at k1 hst ihn
    rw [hr] at k2 hst ihn
    obtain ⟨bd, hbd⟩ : ∃ b : Bool, b = (decide (i = 0 ∧ z.f ≠ 0) || decide (0 < i ∧ z.f ≤ (zs.getD (i - 1) default).f)) := ⟨_, rfl⟩
    simp only [go_sem, h2, n0, hzi, Zn.v, Zn.cs]
    refine cP (rbeyond_no c1) ?_
    by_cases c2 : (i = 0 ∧ z.f ≠ 0) ∨ (0 < i ∧ z.f ≤ (zs.getD (i - 1) default).f)
    · rw [if_pos c2] at hst
      have hst := hst (by decide)
      subst hst
      by_cases h0 : i = 0
      · have q1 : 0 < z.f := by omega
        subst h0
        have e0 : (((0 : Nat) : Int) == 0) = true := rfl
        simp only [go_sem, e0, q1]
      · have e0 : ((i : Int) == 0) = false := beq_eq_false_iff_ne.2 (by omega)
        have q1 : z.f ≤ last := by have := hl1 (by omega); omega
        simp only [go_sem, e0, q1]
    · rw [if_neg c2] at hst ihn
      by_cases h0 : i = 0
      · have q2 : z.f = 0 := by omega
        have q1 : ¬ z.f ≤ last := by have := hl0 h0; omega
        subst h0
        have e0 : (((0 : Nat) : Int) == 0) = true := rfl
        rw [q2] at ihn q1
        simp only [go_sem, e0, q1, q2]
        refine cP k1 ?_
        by_cases c3 : g = 0
        · have e5 : (g != 0) = false := by rw [c3]; rfl
          rw [if_pos c3] at hst ihn
          simp only [go_sem, e5]
          refine cP k2 ?_
          by_cases c4 : r = 0
          · have e6 : (r != 0) = false := by rw [c4]; rfl
            simp only [go_sem, e6, h3]
            exact ihn c4 _ _ (by simp [go_sem]; rfl)
          · have e6 : (r != 0) = true := by simpa using c4
            have hst := hst c4
            subst hst
            simp only [go_sem, e6]
        · have e5 : (g != 0) = true := by simpa using c3
          rw [if_neg c3] at hst
          have hst := hst c3
          subst hst
          simp only [go_sem, e5]
      · have e0 : ((i : Int) == 0) = false := beq_eq_false_iff_ne.2 (by omega)
        have q1 : ¬ z.f ≤ last := by have := hl1 (by omega); omega
        simp only [go_sem, e0, q1]
        refine cP k1 ?_
        by_cases c3 : g = 0
        · have e5 : (g != 0) = false := by rw [c3]; rfl
          rw [if_pos c3] at hst ihn
          simp only [go_sem, e5]
          refine cP k2 ?_
          by_cases c4 : r = 0
          · have e6 : (r != 0) = false := by rw [c4]; rfl
            simp only [go_sem, e6, h3]
            exact ihn c4 _ _ (by simp [go_sem])
          · have e6 : (r != 0) = true := by simpa using c4
            have hst := hst c4
            subst hst
            simp only [go_sem, e6]
        · have e5 : (g != 0) = true := by simpa using c3
          rw [if_neg c3] at hst
          have hst := hst c3
          subst hst
          simp only [go_sem, e5]
  · have h2 : ¬ (i : Int) < zs.length := by omega
    obtain rfl : i = zs.length := by omega
    rw [fstE_end] at hR
    subst hR
    simp only [go_sem, h2]
end Go.Proofs

namespace Go.Proofs
open Go Go.Sx
attribute [local irreducible] Run

theorem slr_none {P : List AVal} (h : P = []) (gr : Bool) (sz j : Nat) : slv j P = .nilsl ∧ slrG gr sz P = [] := by subst h; exact ⟨rfl, rfl⟩
theorem slr_some {P : List AVal} (h : P ≠ []) (gr : Bool) (sz j : Nat) : slv j P = .sl j 0 P.length ∧ slrG gr sz P = [some (.cells gr sz P)] := by
  unfold slv slrG; rw [if_neg h, if_neg h]; exact ⟨rfl, rfl⟩
theorem lgL_nil {ls : List Lg} (h : ls = []) : lgL ls = [] := by subst h; rfl
theorem lgL_ne {ls : List Lg} (h : ls ≠ []) : lgL ls ≠ [] := fun e => h (by unfold lgL at e; exact List.map_eq_nil_iff.1 e)
section
variable {P : Program} {G : Ctx} {g : FuncId} {largs args : List AVal} {H : Heap} {α : Type} {Φ : α → Prop} {r : α → AVal} {k : Nat} {R : Runner} {l : List AOper} {fs : List Sx.Frame} {ρ : List AVal} {ms : List Nat} {Q : Sx.Goal} {dst : Option Nat}
end
end Go.Proofs

namespace Go.Proofs
open Go Go.Sx
attribute [local irreducible] Run

structure TsOK (zs : List Zn) (th : Int) (ts : List Tk) (k : Nat) (l : List Int) : Prop where
  len : l.length = k + 1
  bd : ∀ j, j ≤ k → (stAt zs th ts j).1 ≤ l.getD j 0 ∧ l.getD j 0 ≤ (stAt zs th ts j).2
theorem TsOK.snoc {zs : List Zn} {th : Int} {ts : List Tk} {k : Nat} {l : List Int} (h : TsOK zs th ts k l) {v : Int} (hv : (stAt zs th ts (k + 1)).1 ≤ v ∧ v ≤ (stAt zs th ts (k + 1)).2) : TsOK zs th ts (k + 1) (l ++ [v]) := ⟨by rw [List.length_append, h.len]; rfl, fun j hj => by
  have hl := h.len
  rw [List.getD_eq_getElem?_getD]
  by_cases e : j = k + 1
  · subst e
    rw [List.getElem?_append_right (by omega), hl, Nat.sub_self]; exact hv
  · rw [List.getElem?_append_left (by omega), ← List.getD_eq_getElem?_getD]; exact h.bd j (by omega)⟩
section
variable {P : Program} {G : Ctx} {g : FuncId} {largs args : List AVal} {H : Heap} {α : Type} {Φ : α → Prop} {r : α → AVal} {k : Nat} {R : Runner} {l : List AOper} {fs : List Sx.Frame} {ρ : List AVal} {ms : List Nat} {Q : Sx.Goal} {dst : Option Nat}
end
end Go.Proofs

namespace Go.Proofs
open Go Go.Sx
attribute [local irreducible] Run

structure NarZ (y z : Zn) : Prop where
  f : y.f = z.f
  g : z.glo ≤ y.glo ∧ y.glo ≤ y.ghi ∧ y.ghi ≤ z.ghi
  r : z.rlo ≤ y.rlo ∧ y.rlo ≤ y.rhi ∧ y.rhi ≤ z.rhi
def NarL : List Zn → List Zn → Prop
  | [], [] => True
  | y :: a, z :: b => NarZ y z ∧ NarL a b
  | _, _ => False
theorem NarL.zAt : ∀ {a b : List Zn}, NarL a b → b ≠ [] → ∀ t, NarZ (Go.Proofs.zAt a t) (Go.Proofs.zAt b t)
  | [], [], _, h, _ => absurd rfl h
  | [y], [z], h, _, t => h.1
  | y :: y2 :: a, z :: z2 :: b, h, _, t => by
    show NarZ (if y2.f ≤ t then Go.Proofs.zAt (y2 :: a) t else y) (if z2.f ≤ t then Go.Proofs.zAt (z2 :: b) t else z)
    rw [h.2.1.f]
    split
    · exact NarL.zAt h.2 (by simp) t
    · exact h.1
  | [], _ :: _, h, _, _ => h.elim
  | _ :: _, [], h, _, _ => h.elim
  | [_], _ :: _ :: _, h, _, _ => h.2.elim
  | _ :: _ :: _, [_], h, _, _ => h.2.elim
theorem NarL.get : ∀ {a b : List Zn}, NarL a b → a.length = b.length ∧ ∀ (i : Nat) (y : Zn), a[i]? = some y → ∃ z, b[i]? = some z ∧ NarZ y z
  | [], [], _ => ⟨rfl, fun i y h => by simp at h⟩
  | y :: a, z :: b, h => by
    obtain ⟨h1, h2⟩ := NarL.get h.2
    refine ⟨by simp [h1], fun i x hx => ?_⟩
    cases i with
    | zero => simp at hx; subst hx; exact ⟨z, rfl, h.1⟩
    | succ i => simpa using h2 i x (by simpa using hx)
  | [], _ :: _, h => h.elim
  | _ :: _, [], h => h.elim
theorem NarL.ok {a b : List Zn} (h : NarL a b) (hb : ZsOK b) : ZsOK a := by
  obtain ⟨h1, h2⟩ := h.get
  refine ⟨by rw [h1]; exact hb.len, fun y hy => ?_, fun y hy => ?_, fun i y x hy hx => ?_⟩
  · obtain ⟨i, hi⟩ := List.getElem?_of_mem hy
    obtain ⟨z, hz, hn⟩ := h2 i y hi
    have ho := hb.all z (List.mem_of_getElem? hz)
    have hg := hn.g
    have hr := hn.r
    exact ⟨by rw [hn.f]; exact ho.f, by have := ho.g; omega, by have := ho.r; omega⟩
  · obtain ⟨z, hz, hn⟩ := h2 0 y hy
    rw [hn.f]; exact hb.zero z hz
  · obtain ⟨z, hz, hn⟩ := h2 i y hy
    obtain ⟨u, hu, hn2⟩ := h2 (i + 1) x hx
    rw [hn.f, hn2.f]; exact hb.asc i z u hz hu
section
variable {a b : List Zn} (h : NarL a b) (hb : ZsOK b)
include h hb
end
end Go.Proofs

namespace Go.Proofs
open Go Go.Sx

end Go.Proofs

namespace Go.Proofs
open Go Go.Sx
attribute [local irreducible] Run

def t3 (p : Int × Int × Int) : AVal := .tup [r2 p.1 p.2.1, .int .i64 p.2.2]
section
variable (b1 : Int) (z1 : List Zn) (hl1 : z1.length ≤ 1000) (b2 : Int) (z2 : List Zn) (hl2 : z2.length ≤ 1000) (s t : Int)
include hl1 hl2
end
end Go.Proofs

