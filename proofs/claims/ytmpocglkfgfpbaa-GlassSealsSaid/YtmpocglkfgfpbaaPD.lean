/- A part of the proof. -/
import Derived.Test.YtmpocglkfgfpbaaPC
set_option linter.unusedSimpArgs false
set_option linter.unusedVariables false
namespace Go.Proofs
open Go Go.Sx
attribute [local irreducible] Run

section
variable {P : Program} {G : Ctx} {k : Nat} {rd : Option Nat} {R : Runner} {l : List AOper} {fs : List Sx.Frame} {ρ : List AVal} {H : Heap} {ms : List Nat} {Q : Sx.Goal} {dst : Option Nat} {x y : Row} {g : FuncId} {args : List AVal} {r : AVal}
theorem cN2 (h : Ans P g args [] r [some x, some y]) (hK : R (.ops l) fs ⟨setD ρ dst (ren (fun i => H.length + i) r), H ++ [some x, some y], ms⟩ Q)
    (hb : Bels (fun _ => False) args := by simp only [go_sem]) (hr : Bel (· < 2) r := by simp [go_sem]) (hx : x.bel (fun _ => False) := by first | (simp only [go_sem]; done) | (rw [row_bel_cells]; simp only [go_sem])) (hy : y.bel (fun _ => False) := by first | (simp only [go_sem]; done) | (rw [row_bel_cells]; simp only [go_sem])) (hk : k ≤ H.length := by simp) (hms : ∀ q ∈ ms, H[q]? = some (some .dfr) := by simp) : CallR P G k R g args dst l fs ρ H ms Q := by
  have e : outΔ (outσ [] H.length) 0 [some x, some y] = [(H.length, x), (H.length + 1, y)] := by
    simp only [outΔ, Row.ren_same hx, Row.ren_same hy]
    rfl
  have eσ : outσ [] H.length = fun i => H.length + i := by funext i; simp [outσ]
  refine callS h [] (by simp) trivial (by
    conv => lhs; rw [← List.map_id args]
    exact List.map_congr_left fun v hv => (ren_same (bels_mem hb v hv)).symm) (bels_of fun v hv => (bels_mem hb v hv).mono fun _ h => h.elim) trivial (by simp) (by simpa using hr)
    ⟨bel_mono_row hx fun _ h => h.elim, bel_mono_row hy fun _ h => h.elim, trivial⟩ (fun q hq => by simp at hq) hk (fun q hq => ?_) ?_
  · refine ⟨?_, hms q hq⟩
    rw [e]
    have := (List.getElem?_eq_some_iff.1 (hms q hq)).1
    simp; omega
  · rw [e, eσ]
    have e3 : Heap.put (H ++ [some x]) (H.length + 1) y = H ++ [some x, some y] := by
      have := Heap.put_end (H ++ [some x]) y
      simpa using this
    simp only [Heap.puts, Heap.put_end, e3]
    exact hK
end

theorem wcheck_yes {brk : Int} {zs : List Zn} (h : StOK brk zs) {th : Int} (hth : 1 ≤ th ∧ th ≤ 1000) : Ans Try.prog n_glass_wall_check [wlV brk zs th] [] (.int .i64 0) [] := by
  have kc := Check_run h.brk h.zs
  simp only [stV] at kc
  refine spec_run e_glass_wall_check fun G => ?_
  simp only [go_sem, wlV]
  refine cP kc ?_
  simp only [go_sem]
  refine cP (gwithin_yes hth) ?_
  simp only [go_sem]
set_option maxRecDepth 10000 in
theorem CheckOven_yes {f : Int} {ls : List Lg} (h : OvOK f ls) : Ans Try.prog n_glass_CheckOven [ovV f ls] [] (.int .i64 0) [] := by
  have hn := h.len
  refine spec_run e_glass_CheckOven fun G => ?_
  simp only [go_sem, ovV]
  refine cP (isHeat_yes h.f) ?_
  have n2 : ¬ (ls.length : Int) > 20 := by omega
  simp only [go_sem, n2, List.length_map]
  refine loop_ind k_glass_CheckOven_r11.eq_1 (fun s : Nat × Heap => s.1 ≤ ls.length) (fun s => ls.length - s.1)
    (fun s => (tsets 31 [(1, .ptr 0 0 0 1), (2, .int .i64 0), (14, .view (ls.map Lg.v)), (15, .int .i64 ls.length), (16, .int .i64 s.1)], some (.cells false 2 [.agg [.int .i64 f, .view (ls.map Lg.v)]]) :: s.2)) (0, []) (Nat.zero_le _) (by simp [go_sem]) rfl ?_
  rintro ⟨i, X⟩ hi ih
  dsimp only at hi ih ⊢
  by_cases h1 : i < ls.length
  · have h2 : (i : Int) < ls.length := by omega
    have n0 : ¬ (i : Int) < 0 := by omega
    have h3 : IntKind.i64.wrap ((i : Int) + 1) = ((i + 1 : Nat) : Int) := by rw [w64 (by omega)]; rfl
    obtain ⟨z, hzi⟩ : ∃ z, ls[i]? = some z := ⟨_, List.getElem?_eq_getElem h1⟩
    have hzo := h.all z (List.mem_of_getElem? hzi)
    have ihn := fun Y => ih (i + 1, Y) (by dsimp only; omega) h1
    clear ih
    simp only [go_sem, h2, n0, hzi, Lg.v]
    refine cP (gwithin_yes hzo.tk) ?_
    simp only [go_sem]
    refine cP (isHeat_yes hzo.ht) ?_
    simp only [go_sem, h3]
    exact ihn _ _ (by simp [go_sem])
  · have h2 : ¬ (i : Int) < ls.length := by omega
    simp only [go_sem, h2]
theorem checkHeated_yes {brk : Int} {zs : List Zn} (h : StOK brk zs) {th : Int} (hth : 1 ≤ th ∧ th ≤ 1000) {f : Int} {ls : List Lg} (ho : OvOK f ls) : Ans Try.prog n_glass_checkHeated [wlV brk zs th, ovV f ls] [] (.int .i64 0) [] := by
  have k1 := wcheck_yes h hth
  have k2 := CheckOven_yes ho
  simp only [wlV, ovV] at k1 k2
  refine spec_run e_glass_checkHeated fun G => ?_
  simp only [go_sem, wlV, ovV]
  refine cP k1 ?_
  simp only [go_sem]
  refine cP k2 ?_
  simp only [go_sem]
theorem wstrains_run (brk : Int) (zs : List Zn) (th f : Int) (ls : List Lg) : Ans Try.prog n_glass_wall_strains [wlV brk zs th, ovV f ls] [] (.fn (.func n_glass_wall_strains_1) [] [.ptr 1 0 0 1, .ptr 0 0 0 1]) [some (.cells false 3 [wlV brk zs th]), some (.cells false 2 [ovV f ls])] := by
  refine spec_run e_glass_wall_strains fun G => ?_
  simp only [go_sem, ovV, wlV]
  exact ⟨_, rfl⟩

def aftS (zs : List Zn) (th : Int) (ts : List Tk) (n : Nat) : Nat → List (Int × Int)
  | 0 => List.replicate n (0, 0)
  | i + 1 => match ts[i]? with
    | some t => (aftS zs th ts n i).set t.n.toNat (stAt zs th ts (i + 1))
    | none => aftS zs th ts n i
theorem aftS_len {zs : List Zn} {th : Int} {ts : List Tk} {n : Nat} : ∀ i, (aftS zs th ts n i).length = n
  | 0 => by simp [aftS]
  | i + 1 => by
    rw [aftS]; split
    · rw [List.length_set]; exact aftS_len i
    · exact aftS_len i
theorem aftS_succ {zs : List Zn} {th : Int} {ts : List Tk} {n i : Nat} {t : Tk} (h : ts[i]? = some t) : aftS zs th ts n (i + 1) = (aftS zs th ts n i).set t.n.toNat (stAt zs th ts (i + 1)) := by
  rw [aftS, h]
theorem allT_n : ∀ {ls : List Lg} {n b : Int}, ∀ t ∈ allT n b ls, n ≤ t.n ∧ t.n < n + ls.length
  | [], _, _, t, ht => by simp [allT] at ht
  | l :: r, n, b, t, ht => by
    rw [allT] at ht
    rw [List.length_cons]; push_cast
    rcases List.mem_append.1 ht with h1 | h1
    · unfold legT at h1
      obtain ⟨i, _, rfl⟩ := List.mem_map.1 h1
      dsimp only; omega
    · have := allT_n t h1
      omega
def rv (p : Int × Int) : AVal := r2 p.1 p.2
theorem rv_set (l : List (Int × Int)) (i : Nat) (p : Int × Int) : (l.set i p).map rv = (l.map rv).set i (rv p) := List.map_set
def snT : List (Nat × AVal) := [(0, .any), (6, .nilsl), (7, .int .i64 0), (10, .ptr 4 0 0 1), (28, .fn (.func n_glass_wall_strains_1) [] [.ptr 6 0 0 1, .ptr 5 0 0 1])]
def snL (st : LoopState) (pe : Option ACode) : Row := .loop (tsets 36 snT) [29, 30] k_glass_Strain_r10 k_glass_Strain_r11 7 st pe
def snH (brk : Int) (zs : List Zn) (th f : Int) (ls : List Lg) (a : List (Int × Int)) (x : Row) (X : Heap) : Heap :=
  [some (.cells false 2 [stV brk zs]), some (.cells false 2 [ovV f ls]), some (.cells false 3 [wlV brk zs th]), some (.cells false 2 (a.map rv)), some (.cells false 1 [.sl 3 0 ls.length]), some (.cells false 3 [wlV brk zs th]), some (.cells false 2 [ovV f ls]), some .dfr, some x] ++ X

set_option maxHeartbeats 4000000 in
set_option maxRecDepth 10000 in
theorem Strain_run {brk : Int} {zs : List Zn} (h : StOK brk zs) {th : Int} (hth : 1 ≤ th ∧ th ≤ 1000) {f : Int} {ls : List Lg} (ho : OvOK f ls) :
    Ans Try.prog n_glass_Strain [stV brk zs, .int .i64 th, ovV f ls] [] (.tup [.sl 0 0 ls.length, .int .i64 0]) [some (.cells false 2 ((aftS zs th (allT 0 f ls) ls.length (allT 0 f ls).length).map rv))] := by
  have k1 := checkHeated_yes h hth ho
  have k2 := wstrains_run brk zs th f ls
  have hlen := ho.len
  simp only [wlV, ovV] at k1 k2
  have rvb : ∀ (l : List (Int × Int)) (S : Nat → Prop), Bels S (l.map rv) = True := fun l S => eq_true (bels_map _ _ fun z => by simp only [go_sem, rv, r2])
  refine Ans.keep (run_fn e_glass_Strain fun G => ?_) (by simp) (by simp [go_sem]) ⟨by rw [row_bel_cells]; simp only [rvb], trivial⟩
  simp only [go_sem, stV, ovV]
  refine cP k1 ?_
  have hl0 : ¬ (ls.length : Int) < 0 := by omega
  have hmk : (0 : Int) ≤ ls.length ∧ (ls.length : Int) ≤ ls.length ∧ (ls.length : Int) ≤ 2 ^ 44 ∧ (ls.length : Int) * 16 ≤ 2 ^ 44 := by omega
  simp only [go_sem, hl0]
  refine ⟨hmk, ?_⟩
  refine cN2 k2 ?_
  simp only [go_sem, ren, rens]
  have e0 : List.replicate ls.length (AVal.agg [AVal.int IntKind.i64 0, AVal.int IntKind.i64 0]) = (aftS zs th (allT 0 f ls) ls.length 0).map rv := by
    simp [aftS, rv, r2]
  rw [e0]
  refine rangeF 2000 (ρ := tsets 36 snT) (by simp [go_sem, snT]) (by simp only [go_sem, snT]; rfl)
    (strains_iter (r := 8) (jo := 6) (jw := 5) (N := 9) (brk := brk) h.zs hth ho
      (Pre := fun i H => ∃ X, H = snH brk zs th f ls (aftS zs th (allT 0 f ls) ls.length i) (snL .ready none) X)
      (Stop := fun _ => False) ⟨?_, ?_, ?_, ?_, ?_⟩ ⟨[], rfl⟩) (by simp) ?_
  · rintro i H ⟨X, rfl⟩
    exact ⟨by simp [snH], rfl, rfl⟩
  · rintro i H x ⟨X, rfl⟩
    exact ⟨X ++ [x], by simp [snH]⟩
  · rintro i H q x hq ⟨X, rfl⟩
    refine ⟨X.set (q - 9) x, ?_⟩
    unfold snH
    rw [List.set_append_right _ _ (by simp; omega)]; rfl
  · intro H q x _ h; exact h
  · rintro i t H hi ⟨X, rfl⟩
    have hn := allT_n t (List.mem_of_getElem? hi)
    rw [aftS_succ hi]
    have hal := aftS_len (zs := zs) (th := th) (ts := allT 0 f ls) (n := ls.length) i
    generalize aftS zs th (allT 0 f ls) ls.length i = A at *
    generalize stAt zs th (allT 0 f ls) (i + 1) = p at *
    refine RoundW.mono (R := fun w H' => w = .bool true ∧ ∃ Y, H' = snH brk zs th f ls (A.set t.n.toNat p) (snL .ready none) (X ++ Y)) ?_ ?_
    rotate_left
    · rintro w H' ⟨rfl, Y, rfl⟩
      exact ⟨tail_keep rfl rfl, .inl ⟨rfl, _, rfl⟩⟩
    generalize hR : (fun (w : AVal) (H' : Heap) => w = .bool true ∧ ∃ Y, H' = snH brk zs th f ls (A.set t.n.toNat p) (snL .ready none) (X ++ Y)) = R
    have hfin : ∀ Y, R (.bool true) (snH brk zs th f ls (A.set t.n.toNat p) (snL .ready none) (X ++ Y)) := fun Y => by rw [← hR]; exact ⟨rfl, Y, rfl⟩
    clear hR
    have hi0 : ¬ t.n < 0 := by omega
    have hi1 : t.n < (ls.length : Int) := by omega
    have hi2 : t.n.toNat < ls.length := by omega
    refine roundW_run 500 k_glass_Strain_r10.eq_1 rfl rfl (ρ' := tsets 36 (snT ++ [(29, .int .i64 t.n), (30, r2 p.1 p.2)])) rfl ?_
    simp only [go_sem, snT, snH, r2]
    refine roundMid_run 500 k_glass_Strain_r11.eq_1 rfl rfl ?_
    obtain ⟨a, ha⟩ : ∃ a, A[t.n.toNat]? = some a := ⟨_, List.getElem?_eq_getElem (by omega)⟩
    have hs : (A.map rv).set t.n.toNat (AVal.agg [AVal.int IntKind.i64 p.1, AVal.int IntKind.i64 p.2]) = (A.set t.n.toNat p).map rv := (rv_set A _ p).symm
    have ea : rv a = AVal.agg [AVal.int IntKind.i64 a.1, AVal.int IntKind.i64 a.2] := rfl
    simp only [go_sem, hi0, hi1, ha, ea, hs]
    refine roundEnd_on rfl ?_
    simp only [go_sem]
    simp only [snH, snL] at hfin
    exact hfin [_]
  · rintro v H' ⟨rfl, ⟨X, rfl⟩ | h⟩
    · refine ⟨fun q hq => by simp at hq; subst hq; rfl, _, _, _, _, _, _, _, rfl, by decide, ?_⟩
      simp only [go_sem, snH, snT]
      refine ⟨by simp, kept_one 3 ?_ ?_ rfl⟩
      · simp [ren, rens]
      · rw [row_bel_cells]; simp only [rvb]
    · exact h.elim
end Go.Proofs

namespace Go.Proofs
open Go Go.Sx
attribute [local irreducible] Run

theorem span_run (a b : Int) : Ans Try.prog n_law05_span [.int .i64 a, .int .i64 b] [] (r2 a b) [] := by
  refine spec_run e_law05_span fun G => ?_
  simp only [go_sem, r2]
def wallZ : List Zn := [⟨0, 9000, 10000, 0, 0⟩, ⟨700, 20000, 20000, 500000, 500000⟩]
def leadZ : List Zn := [⟨0, 9500, 9500, 0, 0⟩]
def joinsV : AVal := .view [.agg [.int .i64 900, .int .i64 950, .nilsl], .agg [.int .i64 1000, .int .i64 1100, .nilsl], .agg [.int .i64 950, .int .i64 950, .view [.int .i64 0]]]
theorem wall_run : Ans Try.prog n_law05_wall [] [] (.agg [.int .i64 500000, .sl 0 0 2]) [some (.cells false 5 (wallZ.map Zn.v))] := by
  refine Ans.keep (run_fn e_law05_wall fun G => ?_) (by simp) (by simp [go_sem]) ⟨by rw [row_bel_cells]; simp only [go_sem], trivial⟩
  have s1 := span_run 9000 10000
  have s2 := span_run 20000 20000
  have s3 := span_run 500000 500000
  simp only [r2] at s1 s2 s3
  simp only [go_sem]
  refine cP s1 ?_
  simp only [go_sem]
  refine cP s2 ?_
  simp only [go_sem]
  refine cP s3 ?_
  simp only [go_sem]
  refine kept_one 1 ?_ ?_ rfl
  · simp [ren, rens]
  · rw [row_bel_cells]; simp only [go_sem]
theorem lead_run : Ans Try.prog n_law05_lead [] [] (.agg [.int .i64 2000000, .sl 0 0 1]) [some (.cells false 5 (leadZ.map Zn.v))] := by
  refine Ans.keep (run_fn e_law05_lead fun G => ?_) (by simp) (by simp [go_sem]) ⟨by rw [row_bel_cells]; simp only [go_sem], trivial⟩
  have s1 := span_run 9500 9500
  simp only [r2] at s1
  simp only [go_sem]
  refine cP s1 ?_
  simp only [go_sem]
  refine kept_one 1 ?_ ?_ rfl
  · simp [ren, rens]
  · rw [row_bel_cells]; simp only [go_sem]
theorem wall_ok : StOK 500000 wallZ := ⟨by omega, by simp [wallZ], by
  intro z hz
  simp [wallZ] at hz
  rcases hz with rfl | rfl <;> exact ⟨by simp, by simp, by simp⟩, by intro z hz; simp [wallZ] at hz; subst hz; rfl, by
  intro i y z h1 h2
  rcases i with _ | _ | i
  · simp [wallZ] at h1 h2; subst h1; subst h2; decide
  · simp [wallZ] at h2
  · simp [wallZ] at h2⟩
theorem lead_ok : StOK 2000000 leadZ := ⟨by omega, by simp [leadZ], by
  intro z hz
  simp [leadZ] at hz
  subst hz; exact ⟨by simp, by simp, by simp⟩, by intro z hz; simp [leadZ] at hz; subst hz; rfl, by
  intro i y z h1 h2
  rcases i with _ | i
  · simp [leadZ] at h2
  · simp [leadZ] at h2⟩
theorem seal_val : sealR 500000 2000000 wallZ leadZ 800 300 = (2, 752) := by kernel_rfl
def ovL : List Lg := [⟨10, 700⟩, ⟨100, 300⟩]
theorem ov_ok : OvOK 800 ovL := ⟨by omega, by simp [ovL], by
  intro z hz
  simp [ovL] at hz
  rcases hz with rfl | rfl <;> exact ⟨by simp, by simp⟩⟩
theorem strain_val : aftS wallZ 100 (allT 0 800 ovL) 2 (allT 0 800 ovL).length = [(399609, 399610), (3999609, 4399610)] := by kernel_rfl
end Go.Proofs

namespace Go.Proofs
open Go Go.Sx
def fchk : Option (AVal × Heap) → Bool
  | some (.tup [.sl 6 0 3, .int .i64 0], [_, _, _, _, _, _, some (.cells true 1 [.int .i64 1, .int .i64 0, .int .i64 2])]) => true
  | _ => false
theorem fchk_eq {o : Option (AVal × Heap)} (h : fchk o = true) : ∃ H', o = some (.tup [.sl 6 0 3, .int .i64 0], H') ∧ H'[6]? = some (some (.cells true 1 [.int .i64 1, .int .i64 0, .int .i64 2])) := by
  unfold fchk at h
  split at h
  · exact ⟨_, rfl, rfl⟩
  · cases h
theorem first_ex : fchk (exFn tab 3000 40 n_glass_First [joinsV] []) = true := by kernel_rfl
theorem First_run : Ans Try.prog n_glass_First [joinsV] [] (.tup [.sl 0 0 3, .int .i64 0]) [some (.cells true 1 [.int .i64 1, .int .i64 0, .int .i64 2])] := by
  obtain ⟨H', h1, h2⟩ := fchk_eq first_ex
  refine Ans.keep ((spec_ex mixed tab_ok h1).mono fun v H'' hv => ?_) (by simp) (by simp [go_sem]) ⟨by rw [row_bel_cells]; simp only [go_sem], trivial⟩
  obtain ⟨hv1, X, hv2⟩ := hv
  refine kept_one 6 ?_ ?_ ?_
  · rw [hv1]; simp [ren, rens]
  · rw [row_bel_cells]; simp only [go_sem]
  · rw [hv2, List.getElem?_append_left (List.getElem?_eq_some_iff.1 h2).1]; exact h2
end Go.Proofs

namespace Go.Proofs
open Go Go.Sx
attribute [local irreducible] Run

section
variable {P : Program} {G : Ctx} {k : Nat} {rd : Option Nat} {R : Runner} {l : List AOper} {fs : List Sx.Frame} {ρ : List AVal} {H : Heap} {ms : List Nat} {Q : Sx.Goal} {dst : Option Nat} {x y : Row} {g : FuncId} {args : List AVal} {r : AVal}
theorem cN2r (h : Ans P g args [] r [some x, some y]) (hK : R (.ops l) fs ⟨setD ρ dst (ren (fun i => H.length + i) r), H ++ [some x, some (y.ren fun i => H.length + i)], ms⟩ Q)
    (hb : Bels (fun _ => False) args := by simp only [go_sem]) (hr : Bel (· < 2) r := by simp [go_sem]) (hx : x.bel (fun _ => False) := by first | (simp only [go_sem]; done) | (rw [row_bel_cells]; simp only [go_sem])) (hy : y.bel (· < 2)) (hk : k ≤ H.length := by simp) (hms : ∀ q ∈ ms, H[q]? = some (some .dfr) := by simp) : CallR P G k R g args dst l fs ρ H ms Q := by
  have eσ : outσ [] H.length = fun i => H.length + i := by funext i; simp [outσ]
  have e : outΔ (outσ [] H.length) 0 [some x, some y] = [(H.length, x), (H.length + 1, y.ren fun i => H.length + i)] := by
    simp only [outΔ, Row.ren_same hx, eσ]
    rfl
  refine callS h [] (by simp) trivial (by
    conv => lhs; rw [← List.map_id args]
    exact List.map_congr_left fun v hv => (ren_same (bels_mem hb v hv)).symm) (bels_of fun v hv => (bels_mem hb v hv).mono fun _ h => h.elim) trivial (by simp) (by simpa using hr)
    ⟨bel_mono_row hx fun _ h => h.elim, bel_mono_row hy fun _ h => by simpa using h, trivial⟩ (fun q hq => by simp at hq) hk (fun q hq => ?_) ?_
  · refine ⟨?_, hms q hq⟩
    rw [e]
    have := (List.getElem?_eq_some_iff.1 (hms q hq)).1
    simp; omega
  · rw [e, eσ]
    have e3 : Heap.put (H ++ [some x]) (H.length + 1) (y.ren fun i => H.length + i) = H ++ [some x, some (y.ren fun i => H.length + i)] := by
      have := Heap.put_end (H ++ [some x]) (y.ren fun i => H.length + i)
      simpa using this
    simp only [Heap.puts, Heap.put_end, e3]
    exact hK
end

theorem joins_run (h : Int) : Ans Try.prog n_law05_joins [.int .i64 h] [] (.sl 1 0 3) [some (.cells false 1 [.int .i64 0]), some (.cells false 3 [.agg [.int .i64 900, .int .i64 h, .nilsl], .agg [.int .i64 1000, .int .i64 1100, .nilsl], .agg [.int .i64 950, .int .i64 950, .sl 0 0 1]])] := by
  refine spec_run e_law05_joins fun G => ?_
  simp only [go_sem]
  exact ⟨_, rfl⟩
theorem kSame_run {l : List Int} (hl : l.length ≤ 1000000) : Ans Try.prog n_kit_Same [.view (l.map fun x => .int .i64 x), .view (l.map fun x => .int .i64 x)] [] (.bool true) [] := by
  refine spec_run e_kit_Same fun G => ?_
  simp only [go_sem]
  refine loop_ind k_kit_Same_r8.eq_1 (fun i : Nat => i ≤ l.length) (fun i => l.length - i)
    (fun i => (tsets 26 [(0, .view (l.map fun x => .int .i64 x)), (1, .view (l.map fun x => .int .i64 x)), (4, .bool false), (5, .int .i64 i)], [])) 0 (Nat.zero_le _) (by simp [go_sem]) rfl ?_
  intro i hi ih
  dsimp only at hi ih ⊢
  by_cases h1 : i < l.length
  · have h2 : (i : Int) < l.length := by omega
    have n0 : ¬ (i : Int) < 0 := by omega
    have h3 : IntKind.i64.wrap ((i : Int) + 1) = ((i + 1 : Nat) : Int) := by rw [w64 (by omega)]; rfl
    obtain ⟨z, hzi⟩ : ∃ z, l[i]? = some z := ⟨_, List.getElem?_eq_getElem h1⟩
    simp only [go_sem, h2, n0, hzi, h3]
    exact ih (i + 1) (by omega) h1 _ (by simp [go_sem])
  · have h2 : ¬ (i : Int) < l.length := by omega
    simp only [go_sem, h2]
set_option maxHeartbeats 4000000 in
set_option maxRecDepth 10000 in
theorem awake_ok : Ans Try.prog n_law05_awake [] [] (.bool true) [] := by
  have k1 := Seal_run wall_ok lead_ok (sE := 800) (fr := 300) (by omega) (by omega)
  rw [seal_val] at k1
  have k2 := Strain_run wall_ok (th := 100) (by omega) ov_ok
  rw [show ovL.length = 2 from rfl, strain_val] at k2
  simp only [rv, r2, List.map_cons, List.map_nil] at k2
  refine spec_run e_law05_awake fun G => ?_
  simp only [go_sem]
  refine cN1 wall_run ?_
  simp only [go_sem, ren, rens]
  refine cN1 lead_run ?_
  simp only [go_sem, ren, rens]
  refine cF k1 6 ⟨.inl rfl, .inl rfl, .inl rfl, .inl rfl, trivial⟩ ?_
  simp only [go_sem]
  refine cN1 wall_run ?_
  simp only [go_sem, ren, rens]
  refine cFN k2 6 ⟨.inl rfl, .inl rfl, .inl rfl, trivial⟩ ?_ (hx := ?_) (hxn := ?_)
  rotate_left
  · rw [row_bel_cells]; simp only [go_sem]
  · exact row_nv_cells _ _ (by simp only [go_sem])
  simp only [go_sem, ren, rens]
  refine cN2r (joins_run 950) ?_ (hy := ?_)
  rotate_left
  · rw [row_bel_cells]; simp [go_sem]
  simp only [go_sem, ren, rens, Row.ren]
  refine cFN First_run 6 ⟨.inl rfl, trivial⟩ ?_ (hx := ?_) (hxn := ?_)
  rotate_left
  · rw [row_bel_cells]; simp only [go_sem]
  · exact row_nv_cells _ _ (by simp only [go_sem])
  simp only [go_sem, ren, rens]
  have s1 := span_run 399609 399610
  have s2 := span_run 3999609 4399610
  have s3 := kSame_run (l := [1, 0, 2]) (by simp)
  simp only [r2] at s1 s2
  refine dP s1 ?_
  simp only [go_sem]
  refine dP s2 ?_
  simp only [go_sem]
  refine cF s3 6 ⟨.inl rfl, .inl rfl, trivial⟩ ?_
  simp only [go_sem]
end Go.Proofs

namespace Go.Proofs
open Go Go.Sx
attribute [local irreducible] Run

end Go.Proofs

namespace Go.Proofs
open Go Go.Sx

end Go.Proofs

namespace Go.Proofs
open Go Go.Sx
attribute [local irreducible] Run

theorem st_frz {H : Heap} {b : Int} {zs : List Zn} {j n : Nat} {g : Bool} (h : H[j]? = some (some (.cells g 5 (zs.map Zn.v)))) (hn : n = zs.length) : frz 6 H (.agg [.int .i64 b, .sl j 0 n]) = stV b zs := by
  have h1 : frz 5 H (.sl j 0 n) = .view (zs.map Zn.v) := by
    rw [frz_sl (d := 4) h (by simpa using hn), List.map_map]; rfl
  show AVal.agg [_, frz 5 H (.sl j 0 n)] = _
  rw [h1]; rfl

end Go.Proofs

namespace Go.Proofs
open Go Go.Sx

def k_ref05_ZoneOf_r0 : List AOper := [
  ⟨some 2, .box (.tmp 0), none, []⟩,
 ⟨some 4, .box (.const (.agg [.int .i64 0, .int .i64 0, .int .i64 0, .int .i64 0, .int .i64 0])), none, []⟩]
def k_ref05_ZoneOf_r1 : List AOper := [
  ⟨some 7, .fieldAddr 1 (.tmp 2), none, []⟩,
 ⟨some 8, .load none (.tmp 7), none, []⟩,
 ⟨some 9, .indexAddr 5 (.tmp 8) (.const (.int .i64 0)), none, []⟩,
 ⟨some 10, .load (some (5)) (.tmp 9), none, []⟩,
 ⟨some 5, .box (.const (.agg [.int .i64 0, .int .i64 0, .int .i64 0, .int .i64 0, .int .i64 0])), none, []⟩,
 ⟨none, .store 5 (.tmp 5) (.tmp 10), none, []⟩]
def k_ref05_ZoneOf_r2 : List AOper := [
  ⟨some 6, .move (.const (.int .i64 0)), none, []⟩]
def k_ref05_ZoneOf_r3 : List AOper := [
  ⟨some 11, .move (.tmp 6), none, []⟩,
 ⟨some 12, .fieldAddr 1 (.tmp 2), none, []⟩,
 ⟨some 13, .load none (.tmp 12), none, []⟩,
 ⟨some 14, .len false (.tmp 13), none, []⟩,
 ⟨some 15, .bin .plain .lss (.tmp 11) (.tmp 14), none, []⟩]
def k_ref05_ZoneOf_r4 : List AOper := [
  ⟨some 18, .fieldAddr 1 (.tmp 2), none, []⟩,
 ⟨some 19, .load none (.tmp 18), none, []⟩,
 ⟨some 20, .move (.tmp 6), none, []⟩,
 ⟨some 21, .indexAddr 5 (.tmp 19) (.tmp 20), none, []⟩,
 ⟨some 22, .fieldAddr 0 (.tmp 21), none, []⟩,
 ⟨some 23, .load none (.tmp 22), none, []⟩,
 ⟨some 24, .move (.tmp 1), none, []⟩,
 ⟨some 25, .bin .plain .leq (.tmp 23) (.tmp 24), none, []⟩]
def k_ref05_ZoneOf_r5 : List AOper := [
  ⟨some 26, .fieldAddr 1 (.tmp 2), none, []⟩,
 ⟨some 27, .load none (.tmp 26), none, []⟩,
 ⟨some 28, .move (.tmp 6), none, []⟩,
 ⟨some 29, .indexAddr 5 (.tmp 27) (.tmp 28), none, []⟩,
 ⟨some 30, .load (some (5)) (.tmp 29), none, []⟩,
 ⟨none, .store 5 (.tmp 5) (.tmp 30), none, []⟩]
def k_ref05_ZoneOf_r6 : List AOper := [
  ⟨some 16, .move (.tmp 6), none, []⟩,
 ⟨some 17, .bin .plain .add (.tmp 16) (.const (.int .i64 1)), none, []⟩,
 ⟨some 6, .move (.tmp 17), none, []⟩]
def k_ref05_ZoneOf_r7 : ACode := (.seq (.seq (.reg k_ref05_ZoneOf_r3 false) (.cond (.tmp 15) .skip (.exit 0))) (.seq (.block 1 (.seq (.reg k_ref05_ZoneOf_r4 false) (.cond (.tmp 25) (.reg k_ref05_ZoneOf_r5 false) .skip))) (.reg k_ref05_ZoneOf_r6 false)))
def k_ref05_ZoneOf_r8 : List AOper := [
  ⟨some 31, .load (some (5)) (.tmp 5), none, []⟩,
 ⟨none, .store 5 (.tmp 4) (.tmp 31), none, []⟩]
def k_ref05_ZoneOf : AFun := { params := 2, ntmps := 32, body := (.seq (.reg k_ref05_ZoneOf_r0 false) (.seq (.reg k_ref05_ZoneOf_r1 false) (.seq (.seq (.reg k_ref05_ZoneOf_r2 false) (.block 0 (.loop k_ref05_ZoneOf_r7))) (.seq (.reg k_ref05_ZoneOf_r8 false) .ret)))), res := [.cell 4 (some ((some (5))))] }
theorem k_ref05_ZoneOf_ok : cfun Try.prog Try.f76 = k_ref05_ZoneOf := by kernel_rfl


abbrev n_ref05_ZoneOf : Nat := 76
theorem e_ref05_ZoneOf : EntryOK Try.prog n_ref05_ZoneOf k_ref05_ZoneOf := ⟨Try.f76, Try.func76, k_ref05_ZoneOf_ok, by kernel_rfl⟩

attribute [go_sem] k_ref05_ZoneOf_r0 k_ref05_ZoneOf_r1 k_ref05_ZoneOf_r2
attribute [go_sem] k_ref05_ZoneOf_r3 k_ref05_ZoneOf_r4 k_ref05_ZoneOf_r5 k_ref05_ZoneOf_r6 k_ref05_ZoneOf_r8
attribute [go_sem] k_ref05_ZoneOf
end Go.Proofs

namespace Go.Proofs
open Go Go.Sx
attribute [local irreducible] Run

theorem sumD_up (f : Int → Int) (a : Int) : ∀ n : Nat, sumD f (a + 1) (n + 1) = sumD f a n + f a
  | 0 => by simp [sumD]
  | n + 1 => by
    rw [sumD, sumD_up f a n, sumD]
    have e : a + 1 - 1 - ((n + 1 : Nat) : Int) = a - 1 - n := by omega
    rw [e]; omega
def zst (t : Int) (a z : Zn) : Zn := if z.f ≤ t then z else a
theorem zst_over {t : Int} : ∀ (r : List Zn) (a : Zn), (∀ z ∈ r, t < z.f) → r.foldl (zst t) a = a
  | [], _, _ => rfl
  | z :: r, a, h => by
    have h1 := h z List.mem_cons_self
    rw [List.foldl_cons, zst, if_neg (by omega)]
    exact zst_over r a fun y hy => h y (List.mem_cons_of_mem _ hy)
theorem zst_at {t : Int} : ∀ (r : List Zn) (z a : Zn), (∀ i (y x : Zn), (z :: r)[i]? = some y → (z :: r)[i + 1]? = some x → y.f < x.f) → z.f ≤ t → (z :: r).foldl (zst t) a = zAt (z :: r) t
  | [], z, a, _, h => by simp [zst, h, zAt]
  | y :: r, z, a, hs, h => by
    have hs' : ∀ i (u x : Zn), (y :: r)[i]? = some u → (y :: r)[i + 1]? = some x → u.f < x.f := fun i u x h1 h2 => hs (i + 1) u x (by simpa using h1) (by simpa using h2)
    rw [List.foldl_cons]
    have e : zst t a z = z := by rw [zst, if_pos h]
    rw [e]
    show (y :: r).foldl (zst t) z = if y.f ≤ t then zAt (y :: r) t else z
    by_cases hy : y.f ≤ t
    · rw [if_pos hy]; exact zst_at r y z hs' hy
    · rw [if_neg hy]
      refine zst_over _ _ fun x hx => ?_
      obtain ⟨i, hi⟩ := List.mem_iff_getElem?.1 hx
      have := asc_le hs' i 0 y x rfl (by simpa using hi)
      omega
theorem zst_all {zs : List Zn} (hz : ZsOK zs) {t : Int} (ht : 0 ≤ t) (a : Zn) : zs.foldl (zst t) a = zAt zs t := by
  rcases zs with _ | ⟨z, r⟩
  · have := hz.len; simp at this
  · exact zst_at r z a hz.asc (by have := hz.zero z rfl; omega)

set_option maxRecDepth 10000 in
theorem rZoneOf_run (brk : Int) {zs : List Zn} (hz : ZsOK zs) {t : Int} (ht : 0 ≤ t ∧ t ≤ 2000) : Ans Try.prog n_ref05_ZoneOf [stV brk zs, .int .i64 t] [] (zAt zs t).v [] := by
  have hn := hz.len
  obtain ⟨z0, hz0⟩ : ∃ z, zs[0]? = some z := ⟨_, List.getElem?_eq_getElem (by omega)⟩
  have hfin := zst_all hz ht.1 z0
  have hne : ¬ zs.length = 0 := by omega
  have hpos : 0 < zs.length := by omega
  refine spec_run e_ref05_ZoneOf fun G => ?_
  simp only [go_sem, stV, hz0, hne, hpos, List.length_map, Zn.v, Zn.cs]
  refine loop_ind k_ref05_ZoneOf_r7.eq_1 (fun i : Nat => i ≤ zs.length) (fun i => zs.length - i)
    (fun i => (tsets 32 [(1, .int .i64 t), (2, .ptr 0 0 0 1), (4, .ptr 1 0 0 1), (5, .ptr 2 0 0 1), (6, .int .i64 i)],
      [some (.cells false 2 [.agg [.int .i64 brk, .view (zs.map Zn.v)]]), some (.cells false 5 [(⟨0, 0, 0, 0, 0⟩ : Zn).v]), some (.cells false 5 [((zs.take i).foldl (zst t) z0).v])])) 0 (Nat.zero_le _) (by simp [go_sem]) rfl ?_
  intro i hi ih
  dsimp only at hi ih ⊢
  by_cases h1 : i < zs.length
  · have h2 : (i : Int) < zs.length := by omega
    have n0 : ¬ (i : Int) < 0 := by omega
    have h3 : IntKind.i64.wrap ((i : Int) + 1) = ((i + 1 : Nat) : Int) := by rw [w64 (by omega)]; rfl
    obtain ⟨z, hzi⟩ : ∃ z, zs[i]? = some z := ⟨_, List.getElem?_eq_getElem h1⟩
    have hs : (zs.take (i + 1)).foldl (zst t) z0 = zst t ((zs.take i).foldl (zst t) z0) z := by
      rw [List.take_add_one, hzi, Option.toList_some, List.foldl_append]; rfl
    have ihn := ih (i + 1) (by omega) h1
    rw [hs] at ihn
    clear ih
    generalize (zs.take i).foldl (zst t) z0 = u at *
    by_cases c : z.f ≤ t
    · rw [zst, if_pos c] at ihn
      simp only [go_sem, h2, n0, hzi, h3, c, Zn.v, Zn.cs]
      exact ihn _ (by simp [go_sem])
    · rw [zst, if_neg c] at ihn
      simp only [go_sem, h2, n0, hzi, h3, c, Zn.v, Zn.cs]
      exact ihn _ (by simp [go_sem])
  · have h2 : ¬ (i : Int) < zs.length := by omega
    rw [List.take_of_length_le (by omega), hfin]
    simp only [go_sem, h2, Zn.v, Zn.cs]
end Go.Proofs

namespace Go.Proofs
open Go Go.Sx
attribute [local irreducible] Run

structure TrOK (zs : List Zn) (n : Nat) (l : List Int) : Prop where
  len : l.length = 2001
  bd : ∀ i, i < n → gLo zs i ≤ l.getD i 0 ∧ l.getD i 0 ≤ gHi zs i
theorem TrOK.snoc {zs : List Zn} {n : Nat} {l : List Int} (h : TrOK zs n l) {v : Int} (hv : gLo zs n ≤ v ∧ v ≤ gHi zs n) (hn : n < 2001) : TrOK zs (n + 1) (l.set n v) := ⟨by rw [List.length_set]; exact h.len, fun i hi => by
  rw [List.getD_eq_getElem?_getD]
  by_cases e : i = n
  · subst e
    rw [List.getElem?_set_self (by rw [h.len]; exact hn)]; exact hv
  · rw [List.getElem?_set_ne (by omega), ← List.getD_eq_getElem?_getD]; exact h.bd i (by omega)⟩
def il (l : List Int) : List AVal := l.map (.int .i64)
end Go.Proofs

namespace Go.Proofs
open Go Go.Sx
attribute [local irreducible] Run

theorem il_frz {H : Heap} {l : List Int} {j n : Nat} {g : Bool} (h : H[j]? = some (some (.cells g 1 (il l)))) (hn : l.length = n) : frz 6 H (.sl j 0 n) = .view (l.map (.int .i64)) := by
  rw [frz_sl (d := 5) h (by unfold il; rw [List.length_map]; exact hn.symm)]
  unfold il
  rw [List.map_map]; rfl
end Go.Proofs

namespace Go.Proofs
open Go Go.Sx

def k_ref05_Check_r0 : List AOper := [
  ⟨some 1, .box (.tmp 0), none, []⟩,
 ⟨some 2, .move (.const (.int .i64 0)), none, []⟩]
def k_ref05_Check_r1 : List AOper := [
  ⟨some 8, .fieldAddr 0 (.tmp 1), none, []⟩,
 ⟨some 9, .load none (.tmp 8), none, []⟩,
 ⟨some 10, .call (.const (.fn (.func 88) [] [])) [.tmp 9, .const (.int .i64 1), .const (.int .i64 1000000000)], none, []⟩]
def k_ref05_Check_r2 : List AOper := [
  ⟨some 2, .move (.const (.int .i64 2)), none, []⟩]
def k_ref05_Check_r3 : List AOper := [
  ⟨some 11, .fieldAddr 1 (.tmp 1), none, []⟩,
 ⟨some 12, .load none (.tmp 11), none, []⟩,
 ⟨some 13, .len false (.tmp 12), none, []⟩,
 ⟨some 14, .bin .plain .eql (.tmp 13) (.const (.int .i64 0)), none, []⟩]
def k_ref05_Check_r4 : List AOper := [
  ⟨some 2, .move (.const (.int .i64 6)), none, []⟩]
def k_ref05_Check_r5 : List AOper := [
  ⟨some 15, .fieldAddr 1 (.tmp 1), none, []⟩,
 ⟨some 16, .load none (.tmp 15), none, []⟩,
 ⟨some 17, .len false (.tmp 16), none, []⟩,
 ⟨some 18, .bin .plain .gtr (.tmp 17) (.const (.int .i64 16)), none, []⟩]
def k_ref05_Check_r6 : List AOper := [
  ⟨some 2, .move (.const (.int .i64 8)), none, []⟩]
def k_ref05_Check_r7 : List AOper := [
  ⟨some 3, .move (.const (.int .i64 (-1))), none, []⟩]
def k_ref05_Check_r8 : List AOper := [
  ⟨some 4, .move (.const (.int .i64 0)), none, []⟩]
def k_ref05_Check_r9 : List AOper := [
  ⟨some 19, .move (.tmp 4), none, []⟩,
 ⟨some 20, .fieldAddr 1 (.tmp 1), none, []⟩,
 ⟨some 21, .load none (.tmp 20), none, []⟩,
 ⟨some 22, .len false (.tmp 21), none, []⟩,
 ⟨some 23, .bin .plain .lss (.tmp 19) (.tmp 22), none, []⟩]
def k_ref05_Check_r10 : List AOper := [
  ⟨some 26, .fieldAddr 1 (.tmp 1), none, []⟩,
 ⟨some 27, .load none (.tmp 26), none, []⟩,
 ⟨some 28, .move (.tmp 4), none, []⟩,
 ⟨some 29, .indexAddr 5 (.tmp 27) (.tmp 28), none, []⟩,
 ⟨some 30, .load (some (5)) (.tmp 29), none, []⟩,
 ⟨some 5, .box (.const (.agg [.int .i64 0, .int .i64 0, .int .i64 0, .int .i64 0, .int .i64 0])), none, []⟩,
 ⟨none, .store 5 (.tmp 5) (.tmp 30), none, []⟩]
def k_ref05_Check_r11 : List AOper := [
  ⟨some 31, .fieldAddr 0 (.tmp 5), none, []⟩,
 ⟨some 32, .load none (.tmp 31), none, []⟩,
 ⟨some 33, .call (.const (.fn (.func 88) [] [])) [.tmp 32, .const (.int .i64 0), .const (.int .i64 2000)], none, []⟩]
def k_ref05_Check_r12 : List AOper := [
  ⟨some 2, .move (.const (.int .i64 2)), none, []⟩]
def k_ref05_Check_r13 : List AOper := [
  ⟨some 34, .move (.tmp 4), none, []⟩,
 ⟨some 35, .bin .plain .eql (.tmp 34) (.const (.int .i64 0)), none, []⟩,
 ⟨some 36, .move (.tmp 35), none, []⟩,
 ⟨some 37, .fieldAddr 0 (.tmp 5), (some (36, true)), []⟩,
 ⟨some 38, .load none (.tmp 37), (some (36, true)), []⟩,
 ⟨some 39, .bin .plain .gtr (.tmp 38) (.const (.int .i64 0)), (some (36, true)), []⟩,
 ⟨some 40, .pick (.tmp 36) (.tmp 39) (.const (.bool false)), none, []⟩,
 ⟨some 41, .move (.tmp 40), none, []⟩,
 ⟨some 42, .fieldAddr 0 (.tmp 5), (some (41, false)), []⟩,
 ⟨some 43, .load none (.tmp 42), (some (41, false)), []⟩,
 ⟨some 44, .move (.tmp 3), (some (41, false)), []⟩,
 ⟨some 45, .bin .plain .leq (.tmp 43) (.tmp 44), (some (41, false)), []⟩,
 ⟨some 46, .pick (.tmp 41) (.const (.bool true)) (.tmp 45), none, []⟩]
def k_ref05_Check_r14 : List AOper := [
  ⟨some 2, .move (.const (.int .i64 11)), none, []⟩]
def k_ref05_Check_r15 : List AOper := [
  ⟨some 47, .fieldAddr 0 (.tmp 5), none, []⟩,
 ⟨some 48, .load none (.tmp 47), none, []⟩,
 ⟨some 3, .move (.tmp 48), none, []⟩]
def k_ref05_Check_r16 : List AOper := [
  ⟨some 49, .fieldAddr 1 (.tmp 5), none, []⟩,
 ⟨some 50, .load (some (2)) (.tmp 49), none, []⟩,
 ⟨some 51, .call (.const (.fn (.func 89) [] [])) [.tmp 50, .const (.int .i64 100000)], none, []⟩,
 ⟨some 6, .move (.tmp 51), none, []⟩]
def k_ref05_Check_r17 : List AOper := [
  ⟨some 52, .move (.tmp 6), none, []⟩,
 ⟨some 53, .bin .plain .neq (.tmp 52) (.const (.int .i64 0)), none, []⟩]
def k_ref05_Check_r18 : List AOper := [
  ⟨some 54, .move (.tmp 6), none, []⟩,
 ⟨some 2, .move (.tmp 54), none, []⟩]
def k_ref05_Check_r19 : List AOper := [
  ⟨some 55, .fieldAddr 3 (.tmp 5), none, []⟩,
 ⟨some 56, .load (some (2)) (.tmp 55), none, []⟩,
 ⟨some 57, .call (.const (.fn (.func 89) [] [])) [.tmp 56, .const (.int .i64 1000000)], none, []⟩,
 ⟨some 7, .move (.tmp 57), none, []⟩]
def k_ref05_Check_r20 : List AOper := [
  ⟨some 58, .move (.tmp 7), none, []⟩,
 ⟨some 59, .bin .plain .neq (.tmp 58) (.const (.int .i64 0)), none, []⟩]
def k_ref05_Check_r21 : List AOper := [
  ⟨some 60, .move (.tmp 7), none, []⟩,
 ⟨some 2, .move (.tmp 60), none, []⟩]
def k_ref05_Check_r22 : List AOper := [
  ⟨some 24, .move (.tmp 4), none, []⟩,
 ⟨some 25, .bin .plain .add (.tmp 24) (.const (.int .i64 1)), none, []⟩,
 ⟨some 4, .move (.tmp 25), none, []⟩]
def k_ref05_Check_r23 : ACode := (.seq (.seq (.reg k_ref05_Check_r9 false) (.cond (.tmp 23) .skip (.exit 0))) (.seq (.block 1 (.seq (.reg k_ref05_Check_r10 false) (.seq (.seq (.reg k_ref05_Check_r11 false) (.cond (.tmp 33) (.seq (.reg k_ref05_Check_r12 false) .ret) .skip)) (.seq (.seq (.reg k_ref05_Check_r13 false) (.cond (.tmp 46) (.seq (.reg k_ref05_Check_r14 false) .ret) .skip)) (.seq (.reg k_ref05_Check_r15 false) (.seq (.seq (.reg k_ref05_Check_r16 false) (.seq (.reg k_ref05_Check_r17 false) (.cond (.tmp 53) (.seq (.reg k_ref05_Check_r18 false) .ret) .skip))) (.seq (.reg k_ref05_Check_r19 false) (.seq (.reg k_ref05_Check_r20 false) (.cond (.tmp 59) (.seq (.reg k_ref05_Check_r21 false) .ret) .skip))))))))) (.reg k_ref05_Check_r22 false)))
def k_ref05_Check_r24 : List AOper := [
  ⟨some 2, .move (.const (.int .i64 0)), none, []⟩]
def k_ref05_Check : AFun := { params := 1, ntmps := 61, body := (.seq (.reg k_ref05_Check_r0 false) (.seq (.seq (.reg k_ref05_Check_r1 false) (.cond (.tmp 10) (.seq (.reg k_ref05_Check_r2 false) .ret) .skip)) (.seq (.seq (.reg k_ref05_Check_r3 false) (.cond (.tmp 14) (.seq (.reg k_ref05_Check_r4 false) .ret) .skip)) (.seq (.seq (.reg k_ref05_Check_r5 false) (.cond (.tmp 18) (.seq (.reg k_ref05_Check_r6 false) .ret) .skip)) (.seq (.reg k_ref05_Check_r7 false) (.seq (.seq (.reg k_ref05_Check_r8 false) (.block 0 (.loop k_ref05_Check_r23))) (.seq (.reg k_ref05_Check_r24 false) .ret))))))), res := [.tmp 2] }
theorem k_ref05_Check_ok : cfun Try.prog Try.f31 = k_ref05_Check := by kernel_rfl

def k_ref05_Mismatch_r0 : List AOper := [
  ⟨some 4, .box (.tmp 0), none, []⟩,
 ⟨some 5, .box (.tmp 1), none, []⟩,
 ⟨some 8, .box (.const (.agg [.int .i64 0, .int .i64 0])), none, []⟩,
 ⟨some 9, .move (.const (.int .i64 0)), none, []⟩]
def k_ref05_Mismatch_r1 : List AOper := [
  ⟨some 11, .load (some (2)) (.tmp 4), none, []⟩,
 ⟨some 12, .load (some (2)) (.tmp 5), none, []⟩,
 ⟨some 13, .move (.tmp 2), none, []⟩,
 ⟨some 14, .move (.tmp 3), none, []⟩,
 ⟨some 15, .call (.const (.fn (.func 94) [] [])) [.tmp 11, .tmp 12, .tmp 13, .tmp 14], none, []⟩,
 ⟨some 10, .move (.tmp 15), none, []⟩]
def k_ref05_Mismatch_r2 : List AOper := [
  ⟨some 16, .move (.tmp 10), none, []⟩,
 ⟨some 17, .bin .plain .neq (.tmp 16) (.const (.int .i64 0)), none, []⟩]
def k_ref05_Mismatch_r3 : List AOper := [
  ⟨some 18, .build [.int .i64 0, .int .i64 0] [], none, []⟩,
 ⟨some 19, .move (.tmp 10), none, []⟩,
 ⟨none, .store 2 (.tmp 8) (.tmp 18), none, []⟩,
 ⟨some 9, .move (.tmp 19), none, []⟩]
def k_ref05_Mismatch_r4 : List AOper := [
  ⟨some 20, .load (some (2)) (.tmp 4), none, []⟩,
 ⟨some 21, .move (.tmp 2), none, [0]⟩,
 ⟨some 22, .move (.tmp 3), none, [0, 1]⟩,
 ⟨some 23, .call (.const (.fn (.func 91) [] [])) [.tmp 20, .tmp 21, .tmp 22], none, []⟩,
 ⟨some 24, .load (some (2)) (.tmp 5), none, [0, 1, 2, 3]⟩,
 ⟨some 25, .move (.tmp 2), none, [0, 1, 2, 3, 4]⟩,
 ⟨some 26, .move (.tmp 3), none, [0, 1, 2, 3, 4, 5]⟩,
 ⟨some 27, .call (.const (.fn (.func 91) [] [])) [.tmp 24, .tmp 25, .tmp 26], none, []⟩,
 ⟨some 28, .call (.const (.fn (.func 95) [] [])) [.tmp 23, .tmp 27], none, []⟩,
 ⟨none, .store 2 (.tmp 8) (.tmp 28), none, []⟩,
 ⟨some 9, .move (.const (.int .i64 0)), none, []⟩]
def k_ref05_Mismatch_r4s : List (List AOper) := [
  [
  ⟨some 20, .load (some (2)) (.tmp 4), none, []⟩,
 ⟨some 21, .move (.tmp 2), none, [0]⟩,
 ⟨some 22, .move (.tmp 3), none, [0, 1]⟩,
 ⟨some 23, .call (.const (.fn (.func 91) [] [])) [.tmp 20, .tmp 21, .tmp 22], none, []⟩,
 ⟨some 24, .load (some (2)) (.tmp 5), none, [0, 1, 2, 3]⟩,
 ⟨some 25, .move (.tmp 2), none, [0, 1, 2, 3, 4]⟩,
 ⟨some 26, .move (.tmp 3), none, [0, 1, 2, 3, 4, 5]⟩], 
  [
  ⟨some 27, .call (.const (.fn (.func 91) [] [])) [.tmp 24, .tmp 25, .tmp 26], none, []⟩], 
  [
  ⟨some 28, .call (.const (.fn (.func 95) [] [])) [.tmp 23, .tmp 27], none, []⟩], 
  [
  ⟨none, .store 2 (.tmp 8) (.tmp 28), none, []⟩], 
  [
  ⟨some 9, .move (.const (.int .i64 0)), none, []⟩]]
theorem k_ref05_Mismatch_r4_sg : segs k_ref05_Mismatch_r4 = k_ref05_Mismatch_r4s := by kernel_rfl
theorem k_ref05_Mismatch_r4_st : statOK k_ref05_Mismatch_r4 = true := by kernel_rfl
def k_ref05_Mismatch : AFun := { params := 4, ntmps := 29, body := (.seq (.reg k_ref05_Mismatch_r0 false) (.seq (.seq (.reg k_ref05_Mismatch_r1 false) (.seq (.reg k_ref05_Mismatch_r2 false) (.cond (.tmp 17) (.seq (.reg k_ref05_Mismatch_r3 false) .ret) .skip))) (.seq (.reg k_ref05_Mismatch_r4 true) .ret))), res := [.cell 8 (some ((some (2)))), .tmp 9] }
theorem k_ref05_Mismatch_ok : cfun Try.prog Try.f42 = k_ref05_Mismatch := by kernel_rfl

def k_ref05_beyond_r0 : List AOper := [
  ⟨some 6, .move (.const (.bool false)), none, []⟩]
def k_ref05_beyond_r1 : List AOper := [
  ⟨some 7, .move (.tmp 0), none, []⟩,
 ⟨some 8, .move (.tmp 1), none, []⟩,
 ⟨some 9, .bin .plain .lss (.tmp 7) (.tmp 8), none, []⟩,
 ⟨some 10, .move (.tmp 9), none, []⟩,
 ⟨some 11, .move (.tmp 0), (some (10, false)), []⟩,
 ⟨some 12, .move (.tmp 2), (some (10, false)), []⟩,
 ⟨some 13, .bin .plain .gtr (.tmp 11) (.tmp 12), (some (10, false)), []⟩,
 ⟨some 14, .pick (.tmp 10) (.const (.bool true)) (.tmp 13), none, []⟩,
 ⟨some 6, .move (.tmp 14), none, []⟩]
def k_ref05_beyond : AFun := { params := 3, ntmps := 15, body := (.seq (.reg k_ref05_beyond_r0 false) (.seq (.reg k_ref05_beyond_r1 false) .ret)), res := [.tmp 6] }
theorem k_ref05_beyond_ok : cfun Try.prog Try.f88 = k_ref05_beyond := by kernel_rfl

def k_ref05_checkRange_r0 : List AOper := [
  ⟨some 2, .box (.tmp 0), none, []⟩,
 ⟨some 4, .move (.const (.int .i64 0)), none, []⟩]
def k_ref05_checkRange_r1 : List AOper := [
  ⟨some 6, .fieldAddr 0 (.tmp 2), none, []⟩,
 ⟨some 7, .load none (.tmp 6), none, []⟩,
 ⟨some 8, .move (.tmp 1), none, []⟩,
 ⟨some 9, .call (.const (.fn (.func 88) [] [])) [.tmp 7, .const (.int .i64 0), .tmp 8], none, []⟩,
 ⟨some 10, .move (.tmp 9), none, []⟩,
 ⟨some 11, .fieldAddr 1 (.tmp 2), (some (10, false)), []⟩,
 ⟨some 12, .load none (.tmp 11), (some (10, false)), []⟩,
 ⟨some 13, .move (.tmp 1), (some (10, false)), []⟩,
 ⟨some 14, .call (.const (.fn (.func 88) [] [])) [.tmp 12, .const (.int .i64 0), .tmp 13], (some (10, false)), []⟩,
 ⟨some 15, .pick (.tmp 10) (.const (.bool true)) (.tmp 14), none, []⟩,
 ⟨some 5, .move (.tmp 15), none, []⟩]
def k_ref05_checkRange_r2 : List AOper := [
  ⟨some 4, .move (.const (.int .i64 2)), none, []⟩]
def k_ref05_checkRange_r3 : List AOper := [
  ⟨some 17, .fieldAddr 0 (.tmp 2), none, []⟩,
 ⟨some 18, .load none (.tmp 17), none, []⟩,
 ⟨some 19, .fieldAddr 1 (.tmp 2), none, []⟩,
 ⟨some 20, .load none (.tmp 19), none, []⟩,
 ⟨some 21, .bin .plain .gtr (.tmp 18) (.tmp 20), none, []⟩,
 ⟨some 16, .move (.tmp 21), none, []⟩]
def k_ref05_checkRange_r4 : List AOper := [
  ⟨some 4, .move (.const (.int .i64 11)), none, []⟩]
def k_ref05_checkRange_r5 : List AOper := [
  ⟨some 4, .move (.const (.int .i64 0)), none, []⟩]
def k_ref05_checkRange : AFun := { params := 2, ntmps := 22, body := (.seq (.reg k_ref05_checkRange_r0 false) (.seq (.block 0 (.seq (.reg k_ref05_checkRange_r1 false) (.cond (.tmp 5) (.seq (.reg k_ref05_checkRange_r2 false) .ret) (.seq (.reg k_ref05_checkRange_r3 false) (.cond (.tmp 16) (.seq (.reg k_ref05_checkRange_r4 false) .ret) .skip))))) (.seq (.reg k_ref05_checkRange_r5 false) .ret))), res := [.tmp 4] }
theorem k_ref05_checkRange_ok : cfun Try.prog Try.f89 = k_ref05_checkRange := by kernel_rfl

def k_ref05_growth_r0 : List AOper := [
  ⟨some 3, .box (.tmp 0), none, []⟩,
 ⟨some 6, .box (.const (.agg [.int .i64 0, .int .i64 0])), none, []⟩]
def k_ref05_growth_r1 : List AOper := [
  ⟨some 10, .move (.tmp 1), none, []⟩,
 ⟨some 11, .move (.tmp 2), none, []⟩,
 ⟨some 12, .bin .plain .gtr (.tmp 10) (.tmp 11), none, []⟩]
def k_ref05_growth_r2 : List AOper := [
  ⟨some 13, .load (some (2)) (.tmp 3), none, []⟩,
 ⟨some 14, .move (.tmp 2), none, []⟩,
 ⟨some 15, .move (.tmp 1), none, []⟩,
 ⟨some 16, .call (.const (.fn (.func 91) [] [])) [.tmp 13, .tmp 14, .tmp 15], none, []⟩,
 ⟨some 17, .call (.const (.fn (.func 131) [] [])) [.tmp 16], none, []⟩,
 ⟨none, .store 2 (.tmp 6) (.tmp 17), none, []⟩]
def k_ref05_growth_r3 : List AOper := [
  ⟨some 7, .box (.const (.agg [.int .i64 0, .int .i64 0])), none, []⟩]
def k_ref05_growth_r4 : List AOper := [
  ⟨some 18, .move (.tmp 1), none, []⟩,
 ⟨some 8, .move (.tmp 18), none, []⟩]
def k_ref05_growth_r5 : List AOper := [
  ⟨some 19, .move (.tmp 8), none, []⟩,
 ⟨some 20, .move (.tmp 2), none, []⟩,
 ⟨some 21, .bin .plain .lss (.tmp 19) (.tmp 20), none, []⟩]
def k_ref05_growth_r6 : List AOper := [
  ⟨some 24, .load (some (2)) (.tmp 3), none, []⟩,
 ⟨some 25, .move (.tmp 8), none, []⟩,
 ⟨some 26, .call (.const (.fn (.func 76) [] [])) [.tmp 24, .tmp 25], none, []⟩,
 ⟨some 9, .box (.const (.agg [.int .i64 0, .int .i64 0, .int .i64 0, .int .i64 0, .int .i64 0])), none, []⟩,
 ⟨none, .store 5 (.tmp 9) (.tmp 26), none, []⟩]
def k_ref05_growth_r7 : List AOper := [
  ⟨some 27, .fieldAddr 0 (.tmp 7), none, []⟩,
 ⟨some 28, .load none (.tmp 27), none, []⟩,
 ⟨some 29, .fieldAddr 1 (.tmp 9), none, [0, 1]⟩,
 ⟨some 30, .fieldAddr 0 (.tmp 29), none, [0, 1]⟩,
 ⟨some 31, .load none (.tmp 30), none, [0, 1]⟩,
 ⟨some 32, .bin .plain .add (.tmp 28) (.tmp 31), none, []⟩,
 ⟨some 33, .fieldAddr 1 (.tmp 7), none, [0, 1, 2, 3, 4, 5]⟩,
 ⟨some 34, .load none (.tmp 33), none, [0, 1, 2, 3, 4, 5]⟩,
 ⟨some 35, .fieldAddr 1 (.tmp 9), none, [0, 1, 2, 3, 4, 5, 6, 7]⟩,
 ⟨some 36, .fieldAddr 1 (.tmp 35), none, [0, 1, 2, 3, 4, 5, 6, 7]⟩,
 ⟨some 37, .load none (.tmp 36), none, [0, 1, 2, 3, 4, 5, 6, 7]⟩,
 ⟨some 38, .bin .plain .add (.tmp 34) (.tmp 37), none, [0, 1, 2, 3, 4, 5]⟩,
 ⟨some 39, .fieldAddr 0 (.tmp 7), none, [8, 9, 10, 11]⟩,
 ⟨none, .store 1 (.tmp 39) (.tmp 32), none, [8, 9, 10, 11]⟩,
 ⟨some 40, .fieldAddr 1 (.tmp 7), none, []⟩,
 ⟨none, .store 1 (.tmp 40) (.tmp 38), none, []⟩]
def k_ref05_growth_r7s : List (List AOper) := [
  [
  ⟨some 27, .fieldAddr 0 (.tmp 7), none, []⟩,
 ⟨some 28, .load none (.tmp 27), none, []⟩,
 ⟨some 29, .fieldAddr 1 (.tmp 9), none, [0, 1]⟩,
 ⟨some 30, .fieldAddr 0 (.tmp 29), none, [0, 1]⟩,
 ⟨some 31, .load none (.tmp 30), none, [0, 1]⟩,
 ⟨some 32, .bin .plain .add (.tmp 28) (.tmp 31), none, []⟩,
 ⟨some 33, .fieldAddr 1 (.tmp 7), none, [0, 1, 2, 3, 4, 5]⟩,
 ⟨some 34, .load none (.tmp 33), none, [0, 1, 2, 3, 4, 5]⟩,
 ⟨some 35, .fieldAddr 1 (.tmp 9), none, [0, 1, 2, 3, 4, 5, 6, 7]⟩,
 ⟨some 36, .fieldAddr 1 (.tmp 35), none, [0, 1, 2, 3, 4, 5, 6, 7]⟩,
 ⟨some 37, .load none (.tmp 36), none, [0, 1, 2, 3, 4, 5, 6, 7]⟩,
 ⟨some 38, .bin .plain .add (.tmp 34) (.tmp 37), none, [0, 1, 2, 3, 4, 5]⟩,
 ⟨some 39, .fieldAddr 0 (.tmp 7), none, [8, 9, 10, 11]⟩,
 ⟨none, .store 1 (.tmp 39) (.tmp 32), none, [8, 9, 10, 11]⟩], 
  [
  ⟨some 40, .fieldAddr 1 (.tmp 7), none, []⟩], 
  [
  ⟨none, .store 1 (.tmp 40) (.tmp 38), none, []⟩]]
theorem k_ref05_growth_r7_sg : segs k_ref05_growth_r7 = k_ref05_growth_r7s := by kernel_rfl
theorem k_ref05_growth_r7_st : statOK k_ref05_growth_r7 = true := by kernel_rfl
def k_ref05_growth_r8 : List AOper := [
  ⟨some 22, .move (.tmp 8), none, []⟩,
 ⟨some 23, .bin .plain .add (.tmp 22) (.const (.int .i64 1)), none, []⟩,
 ⟨some 8, .move (.tmp 23), none, []⟩]
def k_ref05_growth_r9 : ACode := (.seq (.seq (.reg k_ref05_growth_r5 false) (.cond (.tmp 21) .skip (.exit 0))) (.seq (.block 1 (.seq (.reg k_ref05_growth_r6 false) (.reg k_ref05_growth_r7 true))) (.reg k_ref05_growth_r8 false)))
def k_ref05_growth_r10 : List AOper := [
  ⟨some 41, .load (some (2)) (.tmp 7), none, []⟩,
 ⟨none, .store 2 (.tmp 6) (.tmp 41), none, []⟩]
def k_ref05_growth : AFun := { params := 3, ntmps := 42, body := (.seq (.reg k_ref05_growth_r0 false) (.seq (.seq (.reg k_ref05_growth_r1 false) (.cond (.tmp 12) (.seq (.reg k_ref05_growth_r2 false) .ret) .skip)) (.seq (.reg k_ref05_growth_r3 false) (.seq (.seq (.reg k_ref05_growth_r4 false) (.block 0 (.loop k_ref05_growth_r9))) (.seq (.reg k_ref05_growth_r10 false) .ret))))), res := [.cell 6 (some ((some (2))))] }
theorem k_ref05_growth_ok : cfun Try.prog Try.f91 = k_ref05_growth := by kernel_rfl

def k_ref05_checkSeal_r0 : List AOper := [
  ⟨some 4, .box (.tmp 0), none, []⟩,
 ⟨some 5, .box (.tmp 1), none, []⟩,
 ⟨some 8, .move (.const (.int .i64 0)), none, []⟩]
def k_ref05_checkSeal_r1 : List AOper := [
  ⟨some 11, .load (some (2)) (.tmp 4), none, []⟩,
 ⟨some 12, .call (.const (.fn (.func 31) [] [])) [.tmp 11], none, []⟩,
 ⟨some 9, .move (.tmp 12), none, []⟩]
def k_ref05_checkSeal_r2 : List AOper := [
  ⟨some 13, .move (.tmp 9), none, []⟩,
 ⟨some 14, .bin .plain .neq (.tmp 13) (.const (.int .i64 0)), none, []⟩]
def k_ref05_checkSeal_r3 : List AOper := [
  ⟨some 15, .move (.tmp 9), none, []⟩,
 ⟨some 8, .move (.tmp 15), none, []⟩]
def k_ref05_checkSeal_r4 : List AOper := [
  ⟨some 16, .load (some (2)) (.tmp 5), none, []⟩,
 ⟨some 17, .call (.const (.fn (.func 31) [] [])) [.tmp 16], none, []⟩,
 ⟨some 10, .move (.tmp 17), none, []⟩]
def k_ref05_checkSeal_r5 : List AOper := [
  ⟨some 18, .move (.tmp 10), none, []⟩,
 ⟨some 19, .bin .plain .neq (.tmp 18) (.const (.int .i64 0)), none, []⟩]
def k_ref05_checkSeal_r6 : List AOper := [
  ⟨some 20, .move (.tmp 10), none, []⟩,
 ⟨some 8, .move (.tmp 20), none, []⟩]
def k_ref05_checkSeal_r7 : List AOper := [
  ⟨some 21, .move (.tmp 2), none, []⟩,
 ⟨some 22, .call (.const (.fn (.func 88) [] [])) [.tmp 21, .const (.int .i64 0), .const (.int .i64 2000)], none, []⟩,
 ⟨some 23, .move (.tmp 22), none, []⟩,
 ⟨some 24, .move (.tmp 3), (some (23, false)), []⟩,
 ⟨some 25, .call (.const (.fn (.func 88) [] [])) [.tmp 24, .const (.int .i64 0), .const (.int .i64 2000)], (some (23, false)), []⟩,
 ⟨some 26, .pick (.tmp 23) (.const (.bool true)) (.tmp 25), none, []⟩]
def k_ref05_checkSeal_r8 : List AOper := [
  ⟨some 8, .move (.const (.int .i64 2)), none, []⟩]
def k_ref05_checkSeal_r9 : List AOper := [
  ⟨some 8, .move (.const (.int .i64 0)), none, []⟩]
def k_ref05_checkSeal : AFun := { params := 4, ntmps := 27, body := (.seq (.reg k_ref05_checkSeal_r0 false) (.seq (.seq (.reg k_ref05_checkSeal_r1 false) (.seq (.reg k_ref05_checkSeal_r2 false) (.cond (.tmp 14) (.seq (.reg k_ref05_checkSeal_r3 false) .ret) .skip))) (.seq (.seq (.reg k_ref05_checkSeal_r4 false) (.seq (.reg k_ref05_checkSeal_r5 false) (.cond (.tmp 19) (.seq (.reg k_ref05_checkSeal_r6 false) .ret) .skip))) (.seq (.seq (.reg k_ref05_checkSeal_r7 false) (.cond (.tmp 26) (.seq (.reg k_ref05_checkSeal_r8 false) .ret) .skip)) (.seq (.reg k_ref05_checkSeal_r9 false) .ret))))), res := [.tmp 8] }
theorem k_ref05_checkSeal_ok : cfun Try.prog Try.f94 = k_ref05_checkSeal := by kernel_rfl

def k_ref05_less_r0 : List AOper := [
  ⟨some 2, .box (.tmp 0), none, []⟩,
 ⟨some 3, .box (.tmp 1), none, []⟩,
 ⟨some 4, .box (.const (.agg [.int .i64 0, .int .i64 0])), none, []⟩]
def k_ref05_less_r1 : List AOper := [
  ⟨some 5, .fieldAddr 0 (.tmp 2), none, []⟩,
 ⟨some 6, .load none (.tmp 5), none, []⟩,
 ⟨some 7, .fieldAddr 1 (.tmp 3), none, []⟩,
 ⟨some 8, .load none (.tmp 7), none, []⟩,
 ⟨some 9, .bin .plain .sub (.tmp 6) (.tmp 8), none, []⟩,
 ⟨some 10, .fieldAddr 1 (.tmp 2), none, []⟩,
 ⟨some 11, .load none (.tmp 10), none, []⟩,
 ⟨some 12, .fieldAddr 0 (.tmp 3), none, []⟩,
 ⟨some 13, .load none (.tmp 12), none, []⟩,
 ⟨some 14, .bin .plain .sub (.tmp 11) (.tmp 13), none, []⟩,
 ⟨some 15, .build [.int .i64 0, .int .i64 0] [(0, 1, .tmp 9), (1, 1, .tmp 14)], none, []⟩,
 ⟨none, .store 2 (.tmp 4) (.tmp 15), none, []⟩]
def k_ref05_less : AFun := { params := 2, ntmps := 16, body := (.seq (.reg k_ref05_less_r0 false) (.seq (.reg k_ref05_less_r1 false) .ret)), res := [.cell 4 (some ((some (2))))] }
theorem k_ref05_less_ok : cfun Try.prog Try.f95 = k_ref05_less := by kernel_rfl

def k_ref05_minus_r0 : List AOper := [
  ⟨some 1, .box (.tmp 0), none, []⟩,
 ⟨some 2, .box (.const (.agg [.int .i64 0, .int .i64 0])), none, []⟩]
def k_ref05_minus_r1 : List AOper := [
  ⟨some 3, .fieldAddr 1 (.tmp 1), none, []⟩,
 ⟨some 4, .load none (.tmp 3), none, []⟩,
 ⟨some 5, .neg (.tmp 4), none, []⟩,
 ⟨some 6, .fieldAddr 0 (.tmp 1), none, []⟩,
 ⟨some 7, .load none (.tmp 6), none, []⟩,
 ⟨some 8, .neg (.tmp 7), none, []⟩,
 ⟨some 9, .build [.int .i64 0, .int .i64 0] [(0, 1, .tmp 5), (1, 1, .tmp 8)], none, []⟩,
 ⟨none, .store 2 (.tmp 2) (.tmp 9), none, []⟩]
def k_ref05_minus : AFun := { params := 1, ntmps := 10, body := (.seq (.reg k_ref05_minus_r0 false) (.seq (.reg k_ref05_minus_r1 false) .ret)), res := [.cell 2 (some ((some (2))))] }
theorem k_ref05_minus_ok : cfun Try.prog Try.f131 = k_ref05_minus := by kernel_rfl


abbrev n_ref05_Check : Nat := 31
theorem e_ref05_Check : EntryOK Try.prog n_ref05_Check k_ref05_Check := ⟨Try.f31, Try.func31, k_ref05_Check_ok, by kernel_rfl⟩
abbrev n_ref05_Mismatch : Nat := 42
theorem e_ref05_Mismatch : EntryOK Try.prog n_ref05_Mismatch k_ref05_Mismatch := ⟨Try.f42, Try.func42, k_ref05_Mismatch_ok, by kernel_rfl⟩
abbrev n_ref05_beyond : Nat := 88
theorem e_ref05_beyond : EntryOK Try.prog n_ref05_beyond k_ref05_beyond := ⟨Try.f88, Try.func88, k_ref05_beyond_ok, by kernel_rfl⟩
abbrev n_ref05_checkRange : Nat := 89
theorem e_ref05_checkRange : EntryOK Try.prog n_ref05_checkRange k_ref05_checkRange := ⟨Try.f89, Try.func89, k_ref05_checkRange_ok, by kernel_rfl⟩
abbrev n_ref05_growth : Nat := 91
theorem e_ref05_growth : EntryOK Try.prog n_ref05_growth k_ref05_growth := ⟨Try.f91, Try.func91, k_ref05_growth_ok, by kernel_rfl⟩
abbrev n_ref05_checkSeal : Nat := 94
theorem e_ref05_checkSeal : EntryOK Try.prog n_ref05_checkSeal k_ref05_checkSeal := ⟨Try.f94, Try.func94, k_ref05_checkSeal_ok, by kernel_rfl⟩
abbrev n_ref05_less : Nat := 95
theorem e_ref05_less : EntryOK Try.prog n_ref05_less k_ref05_less := ⟨Try.f95, Try.func95, k_ref05_less_ok, by kernel_rfl⟩
abbrev n_ref05_minus : Nat := 131
theorem e_ref05_minus : EntryOK Try.prog n_ref05_minus k_ref05_minus := ⟨Try.f131, Try.func131, k_ref05_minus_ok, by kernel_rfl⟩

attribute [go_sem] k_ref05_Check_r0 k_ref05_Check_r1 k_ref05_Check_r2
attribute [go_sem] k_ref05_Check_r3 k_ref05_Check_r4 k_ref05_Check_r5 k_ref05_Check_r6 k_ref05_Check_r7 k_ref05_Check_r8 k_ref05_Check_r9 k_ref05_Check_r10 k_ref05_Check_r11 k_ref05_Check_r12 k_ref05_Check_r13 k_ref05_Check_r14
attribute [go_sem] k_ref05_Check_r15 k_ref05_Check_r16 k_ref05_Check_r17 k_ref05_Check_r18 k_ref05_Check_r19 k_ref05_Check_r20 k_ref05_Check_r21 k_ref05_Check_r22 k_ref05_Check_r24 k_ref05_Mismatch_r0 k_ref05_Mismatch_r1 k_ref05_Mismatch_r2
attribute [go_sem] k_ref05_Mismatch_r3 k_ref05_Mismatch_r4s k_ref05_beyond_r0 k_ref05_beyond_r1 k_ref05_checkRange_r0 k_ref05_checkRange_r1 k_ref05_checkRange_r2 k_ref05_checkRange_r3 k_ref05_checkRange_r4 k_ref05_checkRange_r5 k_ref05_growth_r0 k_ref05_growth_r1
attribute [go_sem] k_ref05_growth_r2 k_ref05_growth_r3 k_ref05_growth_r4 k_ref05_growth_r5 k_ref05_growth_r6 k_ref05_growth_r7s k_ref05_growth_r7_sg k_ref05_growth_r7_st k_ref05_growth_r8 k_ref05_growth_r10 k_ref05_checkSeal_r0 k_ref05_checkSeal_r1 k_ref05_checkSeal_r2 k_ref05_checkSeal_r3
attribute [go_sem] k_ref05_checkSeal_r4 k_ref05_checkSeal_r5 k_ref05_checkSeal_r6 k_ref05_checkSeal_r7 k_ref05_checkSeal_r8 k_ref05_checkSeal_r9 k_ref05_less_r0 k_ref05_less_r1 k_ref05_minus_r0 k_ref05_minus_r1 k_ref05_Mismatch_r4_sg
attribute [go_sem] k_ref05_Mismatch_r4_st k_ref05_Check k_ref05_Mismatch k_ref05_beyond k_ref05_checkRange k_ref05_growth k_ref05_checkSeal k_ref05_less k_ref05_minus
end Go.Proofs

namespace Go.Proofs
open Go Go.Sx
attribute [local irreducible] Run

theorem rbeyond_no {n a b : Int} (h : a ≤ n ∧ n ≤ b) : Ans Try.prog n_ref05_beyond [.int .i64 n, .int .i64 a, .int .i64 b] [] (.bool false) [] := by
  have h1 : ¬ n < a := by omega
  have h2 : ¬ n > b := by omega
  refine spec_run e_ref05_beyond fun G => ?_
  simp [go_sem, h1, h2]
theorem rcheckRange_yes {a b m : Int} (h : 0 ≤ a ∧ a ≤ b ∧ b ≤ m) : Ans Try.prog n_ref05_checkRange [r2 a b, .int .i64 m] [] (.int .i64 0) [] := by
  refine spec_run e_ref05_checkRange fun G => ?_
  simp only [go_sem, r2]
  refine cP (rbeyond_no (n := a) (a := 0) (b := m) (by omega)) ?_
  simp only [go_sem]
  refine cP (rbeyond_no (n := b) (a := 0) (b := m) (by omega)) ?_
  have : ¬ a > b := by omega
  simp only [go_sem, this]
theorem rminus_run (a b : Int) (h : -1000000000000 ≤ a ∧ a ≤ 1000000000000 ∧ -1000000000000 ≤ b ∧ b ≤ 1000000000000) : Ans Try.prog n_ref05_minus [r2 a b] [] (r2 (-b) (-a)) [] := by
  have w1 : IntKind.i64.wrap (0 - a) = -a := by rw [w64 (by omega)]; omega
  have w2 : IntKind.i64.wrap (0 - b) = -b := by rw [w64 (by omega)]; omega
  refine spec_run e_ref05_minus fun G => ?_
  simp only [go_sem, r2, w1, w2]
theorem rless_run (a b c d : Int) (h : -1000000000000 ≤ a ∧ a ≤ 1000000000000 ∧ -1000000000000 ≤ b ∧ b ≤ 1000000000000 ∧ -1000000000000 ≤ c ∧ c ≤ 1000000000000 ∧ -1000000000000 ≤ d ∧ d ≤ 1000000000000) : Ans Try.prog n_ref05_less [r2 a b, r2 c d] [] (r2 (a - d) (b - c)) [] := by
  have w1 : IntKind.i64.wrap (a - d) = a - d := w64 (by omega)
  have w2 : IntKind.i64.wrap (b - c) = b - c := w64 (by omega)
  refine spec_run e_ref05_less fun G => ?_
  simp only [go_sem, r2, w1, w2]
set_option maxHeartbeats 4000000 in
set_option maxRecDepth 10000 in
theorem rgrowth_up (brk : Int) {zs : List Zn} (hz : ZsOK zs) {f t : Int} (hf : 0 ≤ f ∧ f ≤ t) (ht : t ≤ 2000) : Ans Try.prog n_ref05_growth [stV brk zs, .int .i64 f, .int .i64 t] [] (r2 (sumD (gLo zs) t (t - f).toNat) (sumD (gHi zs) t (t - f).toNat)) [] := by
  have c0 : ¬ f > t := by omega
  have sL := fun a n => sumD_in (f := gLo zs) (B := 100000) (by omega) (fun t => by have := g_in hz t; omega) a n
  have sH := fun a n => sumD_in (f := gHi zs) (B := 100000) (by omega) (fun t => by have := g_in hz t; omega) a n
  refine spec_run e_ref05_growth fun G => ?_
  simp only [go_sem, stV, c0]
  refine loop_ind k_ref05_growth_r9.eq_1 (fun a : Nat × Heap => f + a.1 ≤ t) (fun a => (t - f).toNat - a.1)
    (fun a => (tsets 42 [(1, .int .i64 f), (2, .int .i64 t), (3, .ptr 0 0 0 1), (6, .ptr 1 0 0 1), (7, .ptr 2 0 0 1), (8, .int .i64 (f + a.1))],
      some (.cells false 2 [.agg [.int .i64 brk, .view (zs.map Zn.v)]]) :: some (.cells false 2 [.agg [.int .i64 0, .int .i64 0]]) :: some (.cells false 2 [.agg [.int .i64 (sumD (gLo zs) (f + a.1) a.1), .int .i64 (sumD (gHi zs) (f + a.1) a.1)]]) :: a.2)) (0, []) (by dsimp only; omega) (by simp [go_sem]) (by simp [sumD]) ?_
  rintro ⟨k, X⟩ hk ih
  dsimp only at hk ih ⊢
  have bL := sL (f + k) k
  have bH := sH (f + k) k
  by_cases c : f + (k : Int) < t
  · have zo := rZoneOf_run brk hz (t := f + k) (by omega)
    have hg := g_in hz (f + k)
    have uL : sumD (gLo zs) (f + ((k + 1 : Nat) : Int)) (k + 1) = sumD (gLo zs) (f + k) k + gLo zs (f + k) := by
      rw [← sumD_up]; congr 1; omega
    have uH : sumD (gHi zs) (f + ((k + 1 : Nat) : Int)) (k + 1) = sumD (gHi zs) (f + k) k + gHi zs (f + k) := by
      rw [← sumD_up]; congr 1; omega
    have ihn := fun Y => ih (k + 1, Y) (by dsimp only; omega) (by dsimp only; omega)
    clear ih
    dsimp only at ihn
    rw [uL, uH] at ihn
    have eL : gLo zs (f + k) = (zAt zs (f + k)).glo := rfl
    have eH : gHi zs (f + k) = (zAt zs (f + k)).ghi := rfl
    rw [eL, eH] at ihn hg
    obtain ⟨z, hze⟩ : ∃ z, zAt zs (f + k) = z := ⟨_, rfl⟩
    rw [hze] at ihn hg zo
    have w1 : IntKind.i64.wrap (sumD (gLo zs) (f + k) k + z.glo) = sumD (gLo zs) (f + k) k + z.glo := w64 (by omega)
    have w2 : IntKind.i64.wrap (sumD (gHi zs) (f + k) k + z.ghi) = sumD (gHi zs) (f + k) k + z.ghi := w64 (by omega)
    have w3 : IntKind.i64.wrap (f + (k : Int) + 1) = f + ((k + 1 : Nat) : Int) := by rw [w64 (by omega)]; omega
    simp only [stV, Zn.v, Zn.cs] at zo
    simp only [go_sem, c]
    refine cP zo ?_
    simp only [go_sem, w1, w2, w3]
    have hx : (List.length X + 1 + 1 + 1 == 2) = false := beq_eq_false_iff_ne.2 (by omega)
    refine ⟨by simp [hx], ?_⟩
    exact ihn _ _ (by simp [go_sem])
  · have e : f + (k : Int) = t := by omega
    have ek : k = (t - f).toNat := by omega
    rw [e, ek]
    simp only [go_sem, c0, Int.lt_irrefl, r2]
theorem rgrowth_run (brk : Int) {zs : List Zn} (hz : ZsOK zs) {f t : Int} (hf : 0 ≤ f ∧ f ≤ 2000) (ht : 0 ≤ t ∧ t ≤ 2000) : Ans Try.prog n_ref05_growth [stV brk zs, .int .i64 f, .int .i64 t] [] (r2 (groR zs f t).1 (groR zs f t).2) [] := by
  by_cases c : t < f
  · have k1 := rgrowth_up brk hz (f := t) (t := f) (by omega) (by omega)
    have sL := sumD_in (f := gLo zs) (B := 100000) (by omega) (fun t => by have := g_in hz t; omega) f (f - t).toNat
    have sH := sumD_in (f := gHi zs) (B := 100000) (by omega) (fun t => by have := g_in hz t; omega) f (f - t).toNat
    have k2 := rminus_run (sumD (gLo zs) f (f - t).toNat) (sumD (gHi zs) f (f - t).toNat) (by omega)
    have c1 : f > t := c
    unfold groR
    rw [if_pos c]
    refine spec_run e_ref05_growth fun G => ?_
    simp only [stV, r2] at k1 k2
    simp only [go_sem, stV, c1]
    refine cP k1 ?_
    simp only [go_sem]
    refine cP k2 ?_
    simp only [go_sem, r2]
  · have k1 := rgrowth_up brk hz (f := f) (t := t) (by omega) (by omega)
    unfold groR
    rw [if_neg c]
    exact k1
set_option maxHeartbeats 4000000 in
set_option maxRecDepth 10000 in
theorem rCheck_run {brk : Int} (hb : 1 ≤ brk ∧ brk ≤ 1000000000) {zs : List Zn} (hz : ZsOK zs) : Ans Try.prog n_ref05_Check [stV brk zs] [] (.int .i64 0) [] := by
  have hn := hz.len
  refine spec_run e_ref05_Check fun G => ?_
  simp only [go_sem, stV]
  refine cP (rbeyond_no hb) ?_
  have n1 : ((zs.length : Int) == 0) = false := beq_eq_false_iff_ne.2 (by omega)
  have n2 : ¬ (zs.length : Int) > 16 := by omega
  simp only [go_sem, n1, n2, List.length_map]
  refine loop_ind k_ref05_Check_r23.eq_1 (fun s : Nat × Int × Heap => s.1 ≤ zs.length ∧ (s.1 = 0 → s.2.1 = -1) ∧ (∀ y, 0 < s.1 → zs[s.1 - 1]? = some y → s.2.1 = y.f)) (fun s => zs.length - s.1)
    (fun s => (tsets 61 [(1, .ptr 0 0 0 1), (2, .int .i64 0), (3, .int .i64 s.2.1), (4, .int .i64 s.1)], some (.cells false 2 [.agg [.int .i64 brk, .view (zs.map Zn.v)]]) :: s.2.2)) (0, -1, []) ⟨Nat.zero_le _, fun _ => rfl, fun y h => absurd h (by dsimp only; omega)⟩ (by simp [go_sem]) rfl ?_
  rintro ⟨i, last, X⟩ ⟨hi, hl0, hl1⟩ ih
  dsimp only at hi hl0 hl1 ih ⊢
  by_cases h1 : i < zs.length
  · have h2 : (i : Int) < zs.length := by omega
    have n0 : ¬ (i : Int) < 0 := by omega
    have h3 : IntKind.i64.wrap ((i : Int) + 1) = ((i + 1 : Nat) : Int) := by rw [w64 (by omega)]; rfl
    obtain ⟨z, hzi⟩ : ∃ z, zs[i]? = some z := ⟨_, List.getElem?_eq_getElem h1⟩
    have hzo := hz.all z (List.mem_of_getElem? hzi)
    have hlast : last < z.f := by
      rcases i with _ | j
      · have := hl0 rfl; have := hzo.f; omega
      · obtain ⟨y, hy⟩ : ∃ y, zs[j]? = some y := ⟨_, List.getElem?_eq_getElem (by omega)⟩
        have e1 := hl1 y (by omega) (by simpa using hy)
        have := hz.asc j y z hy hzi
        omega
    have hzero : i = 0 → z.f = 0 := fun e => by subst e; exact hz.zero z hzi
    have ihn := fun Y => ih (i + 1, z.f, Y) (by dsimp only; omega) ⟨h1, fun h => absurd h (by dsimp only; omega), fun y _ hy => by
      dsimp only at hy
      rw [Nat.add_sub_cancel, hzi] at hy; cases hy; rfl⟩
    clear ih
    have k1 := rcheckRange_yes (a := z.glo) (b := z.ghi) (m := 100000) hzo.g
    have k2 := rcheckRange_yes (a := z.rlo) (b := z.rhi) (m := 1000000) hzo.r
    simp only [r2] at k1 k2
    have q1 : ¬ z.f ≤ last := by omega
    simp only [go_sem, h2, n0, hzi, Zn.v, Zn.cs]
    refine cP (rbeyond_no hzo.f) ?_
    by_cases h0 : i = 0
    · have q2 : z.f = 0 := hzero h0
      subst h0
      have e0 : (((0 : Nat) : Int) == 0) = true := rfl
      rw [q2] at ihn q1
      simp only [go_sem, e0, q1, q2]
      refine cP k1 ?_
      simp only [go_sem]
      refine cP k2 ?_
      simp only [go_sem, h3]
      exact ihn _ _ (by simp [go_sem]; rfl)
    · have e0 : ((i : Int) == 0) = false := beq_eq_false_iff_ne.2 (by omega)
      simp only [go_sem, e0, q1]
      refine cP k1 ?_
      simp only [go_sem]
      refine cP k2 ?_
      simp only [go_sem, h3]
      exact ihn _ _ (by simp [go_sem])
  · have h2 : ¬ (i : Int) < zs.length := by omega
    simp only [go_sem, h2]
theorem rcheckSeal_yes {b1 b2 : Int} {z1 z2 : List Zn} (h1 : StOK b1 z1) (h2 : StOK b2 z2) {set t : Int} (hs : 0 ≤ set ∧ set ≤ 2000) (ht : 0 ≤ t ∧ t ≤ 2000) : Ans Try.prog n_ref05_checkSeal [stV b1 z1, stV b2 z2, .int .i64 set, .int .i64 t] [] (.int .i64 0) [] := by
  have k1 := rCheck_run h1.brk h1.zs
  have k2 := rCheck_run h2.brk h2.zs
  refine spec_run e_ref05_checkSeal fun G => ?_
  simp only [stV] at k1 k2
  simp only [go_sem, stV]
  refine cP k1 ?_
  simp only [go_sem]
  refine cP k2 ?_
  simp only [go_sem]
  refine cP (rbeyond_no hs) ?_
  simp only [go_sem]
  refine cP (rbeyond_no ht) ?_
  simp only [go_sem]
theorem rMismatch_run {b1 b2 : Int} {z1 z2 : List Zn} (h1 : StOK b1 z1) (h2 : StOK b2 z2) {set t : Int} (hs : 0 ≤ set ∧ set ≤ 2000) (ht : 0 ≤ t ∧ t ≤ 2000) : Ans Try.prog n_ref05_Mismatch [stV b1 z1, stV b2 z2, .int .i64 set, .int .i64 t] [] (.tup [r2 (misR z1 z2 set t).1 (misR z1 z2 set t).2, .int .i64 0]) [] := by
  have k1 := rcheckSeal_yes h1 h2 hs ht
  have k2 := rgrowth_run b1 h1.zs hs ht
  have k3 := rgrowth_run b2 h2.zs hs ht
  have i1 := groR_in h1.zs hs ht
  have i2 := groR_in h2.zs hs ht
  have k4 := rless_run (groR z1 set t).1 (groR z1 set t).2 (groR z2 set t).1 (groR z2 set t).2 (by omega)
  refine spec_run e_ref05_Mismatch fun G => ?_
  simp only [stV, r2] at k1 k2 k3 k4
  simp only [go_sem, stV, r2, misR]
  refine cP k1 ?_
  simp only [go_sem]
  refine dP k2 ?_
  simp only [go_sem]
  refine cP k3 ?_
  simp only [go_sem]
  refine cP k4 ?_
  simp only [go_sem]
end Go.Proofs

namespace Go.Proofs
open Go Go.Sx
attribute [local irreducible] Run

section
variable {P : Program} {g : FuncId} {args largs : List AVal} {H : Heap} {R : Runner} {l : List AOper} {fs : List Sx.Frame} {ρ : List AVal} {ms : List Nat} {Q : Sx.Goal} {ao : AOper} {lo hi : Nat} {tr : List (List Nat × List Nat)} {ss : List (List AOper)}
end

def sel (st a b c : Int) : Int := if st = 0 then a else if st = 1 then b else c
def trS (zs : List Zn) (st w1 : Int) : Nat → Int × List Int
  | 0 => (w1, List.replicate 2001 0)
  | i + 1 => (dstep (trS zs st w1 i).1, (trS zs st w1 i).2.set i (sel st (zAt zs i).glo (zAt zs i).ghi (btw (trS zs st w1 i).1 (zAt zs i).glo (zAt zs i).ghi)))
attribute [local irreducible] trS
end Go.Proofs

namespace Go.Proofs
open Go Go.Sx
attribute [local irreducible] Run trS

end Go.Proofs

namespace Go.Proofs
open Go Go.Sx

end Go.Proofs

namespace Go.Proofs
open Go Go.Sx
attribute [local irreducible] Run

section
variable {P : Program} {G : Ctx} {g : FuncId} {largs args : List AVal} {H : Heap} {α : Type} {Φ : α → Prop} {k : Nat} {R : Runner} {l : List AOper} {fs : List Sx.Frame} {ρ : List AVal} {ms : List Nat} {Q : Sx.Goal} {dst : Option Nat}
end
end Go.Proofs

namespace Go.Proofs
open Go Go.Sx
attribute [local irreducible] Run

def hts (f : Int) (ts : List Tk) : List Int := f :: ts.map (·.t)
theorem il_snoc (l : List Int) (x : Int) : il l ++ [.int .i64 x] = il (l ++ [x]) := by simp [il]
theorem il_len (l : List Int) : (il l).length = l.length := by simp [il]
def g2 (n : Nat) : Bool := decide (2 ≤ n)
end Go.Proofs

namespace Go.Proofs
open Go Go.Sx
attribute [local irreducible] Run

end Go.Proofs

namespace Go.Proofs
open Go Go.Sx
attribute [local irreducible] Run

end Go.Proofs

namespace Go.Proofs
open Go Go.Sx
attribute [local irreducible] Run

structure LiH (brk : Int) (zs : List Zn) (th f : Int) (ls : List Lg) (n N : Nat) (r m : Nat) (lr : Row) (J : Heap) : Prop where
  len : m + 7 ≤ J.length
  y : J[m]? = some (some (.cells false 1 [.yfn r]))
  n : J[m + 1]? = some (some (.cells false 1 [.int .i64 n]))
  t : J[m + 2]? = some (some (.cells false 1 [.int .i64 N]))
  w : J[m + 3]? = some (some (.cells false 3 [wlV brk zs th]))
  o : J[m + 4]? = some (some (.cells false 2 [ovV f ls]))
  d : J[m + 5]? = some (some .dfr)
  l : J[m + 6]? = some (some lr)
section
variable {brk : Int} {zs : List Zn} {th f : Int} {ls : List Lg} {n N r m : Nat} {lr : Row} {J K : Heap}
theorem LiH.mono (h : LiH brk zs th f ls n N r m lr J) (hl : J.length ≤ K.length) (hk : ∀ q, m ≤ q → q < J.length → K[q]? = J[q]?) : LiH brk zs th f ls n N r m lr K :=
  have h1 := h.len
  ⟨by omega, by rw [hk _ (by omega) (by omega)]; exact h.y, by rw [hk _ (by omega) (by omega)]; exact h.n, by rw [hk _ (by omega) (by omega)]; exact h.t, by rw [hk _ (by omega) (by omega)]; exact h.w, by rw [hk _ (by omega) (by omega)]; exact h.o,
    by rw [hk _ (by omega) (by omega)]; exact h.d, by rw [hk _ (by omega) (by omega)]; exact h.l⟩
theorem LiH.off (h : LiH brk zs th f ls n N r m lr J) {q : Nat} (hq : m + 7 ≤ q) (x : Option Row) : LiH brk zs th f ls n N r m lr (J.set q x) :=
  ⟨by rw [List.length_set]; exact h.len, by rw [List.getElem?_set_ne (by omega)]; exact h.y, by rw [List.getElem?_set_ne (by omega)]; exact h.n, by rw [List.getElem?_set_ne (by omega)]; exact h.t, by rw [List.getElem?_set_ne (by omega)]; exact h.w, by rw [List.getElem?_set_ne (by omega)]; exact h.o,
    by rw [List.getElem?_set_ne (by omega)]; exact h.d, by rw [List.getElem?_set_ne (by omega)]; exact h.l⟩
theorem LiH.setL (h : LiH brk zs th f ls n N r m lr J) (x : Row) : LiH brk zs th f ls n N r m x (J.set (m + 6) (some x)) :=
  have h1 := h.len
  ⟨by rw [List.length_set]; exact h.len, by rw [List.getElem?_set_ne (by omega)]; exact h.y, by rw [List.getElem?_set_ne (by omega)]; exact h.n, by rw [List.getElem?_set_ne (by omega)]; exact h.t, by rw [List.getElem?_set_ne (by omega)]; exact h.w, by rw [List.getElem?_set_ne (by omega)]; exact h.o,
    by rw [List.getElem?_set_ne (by omega)]; exact h.d, List.getElem?_set_self (by omega)⟩
end

end Go.Proofs

namespace Go.Proofs
open Go Go.Sx

end Go.Proofs

namespace Go.Proofs
open Go Go.Sx
attribute [local irreducible] Run

section
variable {brk hol : Nat → Bool} {num : Nat → Int}
end
section
variable {P : Program} {G : Ctx} {g : FuncId} {args largs : List AVal} {H : Heap} {r : AVal} {k : Nat} {R : Runner} {l : List AOper} {fs : List Sx.Frame} {ρ : List AVal} {ms : List Nat} {Q : Sx.Goal} {dst : Option Nat}
end
end Go.Proofs

namespace Go.Proofs
open Go Go.Sx
attribute [local irreducible] Run

end Go.Proofs

namespace Go.Proofs
open Go Go.Sx
attribute [local irreducible] Run

end Go.Proofs

namespace Go.Proofs
open Go Go.Sx
attribute [local irreducible] Run

def fstE (e : Nat → Int) : Nat → Nat → Int
  | 0, _ => 0
  | n + 1, i => if e i = 0 then fstE e n (i + 1) else e i
theorem fstE_go {e : Nat → Int} {n i : Nat} (h : i < n) (h0 : e i = 0) : fstE e (n - i) i = fstE e (n - (i + 1)) (i + 1) := by
  rw [show n - i = (n - (i + 1)) + 1 by omega, fstE, if_pos h0]
theorem fstE_stop {e : Nat → Int} {n i : Nat} (h : i < n) (h0 : e i ≠ 0) : fstE e (n - i) i = e i := by
  rw [show n - i = (n - (i + 1)) + 1 by omega, fstE, if_neg h0]
theorem fstE_end (e : Nat → Int) (n : Nat) : fstE e (n - n) n = 0 := by rw [Nat.sub_self]; rfl
theorem fstE_zero {e : Nat → Int} : ∀ {n i : Nat}, fstE e n i = 0 → ∀ j, i ≤ j → j < i + n → e j = 0
  | 0, i, _, j, h1, h2 => by omega
  | n + 1, i, h, j, h1, h2 => by
    rw [fstE] at h
    by_cases c : e i = 0
    · rw [if_pos c] at h
      by_cases hj : j = i
      · rw [hj]; exact c
      · exact fstE_zero h j (by omega) (by omega)
    · rw [if_neg c] at h; exact absurd h c

def rgE5 (a b m : Int) : Int := if 0 ≤ a ∧ a ≤ m then (if 0 ≤ b ∧ b ≤ m then (if a > b then 11 else 0) else 2) else 2
theorem rgE5_ok {a b m : Int} (h : rgE5 a b m = 0) : 0 ≤ a ∧ a ≤ b ∧ b ≤ m := by
  unfold rgE5 at h
  split at h
  · split at h
    · split at h
      · simp at h
      · omega
    · simp at h
  · simp at h
theorem gwithin_no {n a b : Int} (h : ¬ (a ≤ n ∧ n ≤ b)) : Ans Try.prog n_glass_within [.int .i64 n, .int .i64 a, .int .i64 b] [] (.bool false) [] := by
  have := gwithin n a b
  rwa [show (decide (a ≤ n) && decide (n ≤ b)) = false by rw [Bool.and_eq_false_iff, decide_eq_false_iff_not, decide_eq_false_iff_not]; omega] at this
theorem isHeat_no {n : Int} (h : ¬ (0 ≤ n ∧ n ≤ 2000)) : Ans Try.prog n_glass_isHeat [.int .i64 n] [] (.bool false) [] := by
  refine spec_run e_glass_isHeat fun G => ?_
  simp only [go_sem]
  refine cP (gwithin_no h) ?_
  simp only [go_sem]
theorem checkRange_raw (a b m : Int) : Ans Try.prog n_glass_checkRange [r2 a b, .int .i64 m] [] (.int .i64 (rgE5 a b m)) [] := by
  unfold rgE5
  refine spec_run e_glass_checkRange fun G => ?_
  by_cases h1 : 0 ≤ a ∧ a ≤ m
  · rw [if_pos h1]
    by_cases h2 : 0 ≤ b ∧ b ≤ m
    · rw [if_pos h2]
      by_cases h3 : a > b
      · simp only [go_sem, r2]
        refine cP (gwithin_yes h1) ?_
        simp only [go_sem]
        refine cP (gwithin_yes h2) ?_
        simp only [go_sem, h3]
      · simp only [go_sem, r2]
        refine cP (gwithin_yes h1) ?_
        simp only [go_sem]
        refine cP (gwithin_yes h2) ?_
        simp only [go_sem, h3]
    · rw [if_neg h2]
      simp only [go_sem, r2]
      refine cP (gwithin_yes h1) ?_
      simp only [go_sem]
      refine cP (gwithin_no h2) ?_
      simp only [go_sem]
  · rw [if_neg h1]
    simp only [go_sem, r2]
    refine cP (gwithin_no h1) ?_
    simp only [go_sem]
theorem rbeyond_yes {n a b : Int} (h : ¬ (a ≤ n ∧ n ≤ b)) : Ans Try.prog n_ref05_beyond [.int .i64 n, .int .i64 a, .int .i64 b] [] (.bool true) [] := by
  refine spec_run e_ref05_beyond fun G => ?_
  by_cases h1 : n < a
  · simp only [go_sem, h1]
  · have h2 : n > b := by omega
    simp only [go_sem, h1, h2]
theorem rcheckRange_raw (a b m : Int) : Ans Try.prog n_ref05_checkRange [r2 a b, .int .i64 m] [] (.int .i64 (rgE5 a b m)) [] := by
  unfold rgE5
  refine spec_run e_ref05_checkRange fun G => ?_
  by_cases h1 : 0 ≤ a ∧ a ≤ m
  · rw [if_pos h1]
    by_cases h2 : 0 ≤ b ∧ b ≤ m
    · rw [if_pos h2]
      by_cases h3 : a > b
      · simp only [go_sem, r2]
        refine cP (rbeyond_no h1) ?_
        simp only [go_sem]
        refine cP (rbeyond_no h2) ?_
        simp only [go_sem, h3]
      · simp only [go_sem, r2]
        refine cP (rbeyond_no h1) ?_
        simp only [go_sem]
        refine cP (rbeyond_no h2) ?_
        simp only [go_sem, h3]
    · rw [if_neg h2]
      simp only [go_sem, r2]
      refine cP (rbeyond_no h1) ?_
      simp only [go_sem]
      refine cP (rbeyond_yes h2) ?_
      simp only [go_sem]
  · rw [if_neg h1]
    simp only [go_sem, r2]
    refine cP (rbeyond_yes h1) ?_
    simp only [go_sem]
def znE (zs : List Zn) (i : Nat) : Int :=
  if 0 ≤ (zs.getD i default).f ∧ (zs.getD i default).f ≤ 2000 then
    (if (i = 0 ∧ (zs.getD i default).f ≠ 0) ∨ (0 < i ∧ (zs.getD i default).f ≤ (zs.getD (i - 1) default).f) then 11 else
      (if rgE5 (zs.getD i default).glo (zs.getD i default).ghi 100000 = 0 then rgE5 (zs.getD i default).rlo (zs.getD i default).rhi 1000000 else rgE5 (zs.getD i default).glo (zs.getD i default).ghi 100000))
  else 2
def stE (brk : Int) (zs : List Zn) : Int := if 1 ≤ brk ∧ brk ≤ 1000000000 then (if zs.length = 0 then 6 else if zs.length > 16 then 8 else fstE (znE zs) zs.length 0) else 2
theorem znE_ok {zs : List Zn} {i : Nat} {z : Zn} (hz : zs[i]? = some z) (h : znE zs i = 0) : ZnOK z ∧ (i = 0 → z.f = 0) ∧ (∀ j y, i = j + 1 → zs[j]? = some y → y.f < z.f) := by
  have e : zs.getD i default = z := by rw [List.getD_eq_getElem?_getD, hz]; rfl
  unfold znE at h
  rw [e] at h
  split at h
  · rename_i h1
    split at h
    · simp at h
    · rename_i h2
      split at h
      · rename_i h3
        refine ⟨⟨h1, rgE5_ok h3, rgE5_ok h⟩, fun hi => by omega, fun j y hj hy => ?_⟩
        subst hj
        rw [Nat.add_sub_cancel, List.getD_eq_getElem?_getD, hy] at h2
        simp only [Option.getD_some] at h2
        omega
      · rename_i h3; exact absurd h h3
  · simp at h
theorem stE_ok {brk : Int} {zs : List Zn} (h : stE brk zs = 0) : StOK brk zs := by
  unfold stE at h
  split at h
  · rename_i h1
    split at h
    · simp at h
    · split at h
      · simp at h
      · rename_i h2 h3
        have hz := fun i (z : Zn) (hz : zs[i]? = some z) => znE_ok hz (fstE_zero h i (Nat.zero_le _) (by have := (List.getElem?_eq_some_iff.1 hz).1; omega))
        refine ⟨h1, ⟨by omega, fun z hm => ?_, fun z h0 => (hz 0 z h0).2.1 rfl, fun i y z hy hz' => (hz (i + 1) z hz').2.2 i y rfl hy⟩⟩
        obtain ⟨i, hi⟩ := List.getElem?_of_mem hm
        exact (hz i z hi).1
  · simp at h
set_option maxHeartbeats 8000000 in
set_option maxRecDepth 10000 in
theorem Check_raw5 (brk : Int) (zs : List Zn) (hl : zs.length ≤ 1000) : Ans Try.prog n_glass_Check [stV brk zs] [] (.int .i64 (stE brk zs)) [] := by
  unfold stE
  refine spec_run e_glass_Check fun G => ?_
  by_cases hb : 1 ≤ brk ∧ brk ≤ 1000000000
  rotate_left
  · rw [if_neg hb]
    simp only [go_sem, stV]
    refine cP (gwithin_no hb) ?_
    simp only [go_sem]
  rw [if_pos hb]
  simp only [go_sem, stV]
  refine cP (gwithin_yes hb) ?_
  by_cases n1 : zs.length = 0
  · have e1 : ((zs.length : Int) == 0) = true := by rw [n1]; rfl
    rw [if_pos n1]
    simp only [go_sem, e1, List.length_map]
  have e1 : ((zs.length : Int) == 0) = false := beq_eq_false_iff_ne.2 (by omega)
  rw [if_neg n1]
  by_cases n2 : zs.length > 16
  · have e2 : (zs.length : Int) > 16 := by omega
    rw [if_pos n2]
    simp only [go_sem, e1, e2, List.length_map]
  have e2 : ¬ (zs.length : Int) > 16 := by omega
  rw [if_neg n2]
  simp only [go_sem, e1, e2, List.length_map]
  obtain ⟨RES, hRES⟩ : ∃ R, fstE (znE zs) zs.length 0 = R := ⟨_, rfl⟩
  rw [hRES]
  refine loop_ind k_glass_Check_r21.eq_1 (fun s : Nat × Heap => s.1 ≤ zs.length ∧ fstE (znE zs) (zs.length - s.1) s.1 = RES) (fun s => zs.length - s.1)
    (fun s => (tsets 67 [(1, .ptr 0 0 0 1), (2, .int .i64 0), (20, .view (zs.map Zn.v)), (21, .int .i64 zs.length), (22, .int .i64 s.1)], some (.cells false 2 [.agg [.int .i64 brk, .view (zs.map Zn.v)]]) :: s.2)) (0, []) ⟨Nat.zero_le _, hRES⟩ (by simp [go_sem]) rfl ?_
  clear hRES
  rintro ⟨i, X⟩ ⟨hi, hR⟩ ih
  dsimp only at hi hR ih ⊢
  by_cases h1 : i < zs.length
  · have h2 : (i : Int) < zs.length := by omega
    have n0 : ¬ (i : Int) < 0 := by omega
    have h3 : IntKind.i64.wrap ((i : Int) + 1) = ((i + 1 : Nat) : Int) := by rw [w64 (by omega)]; rfl
    obtain ⟨z, hzi⟩ : ∃ z, zs[i]? = some z := ⟨_, List.getElem?_eq_getElem h1⟩
    have ez : zs.getD i default = z := by rw [List.getD_eq_getElem?_getD, hzi]; rfl
    have ihn := fun (h0 : znE zs i = 0) Y => ih (i + 1, Y) (by dsimp only; omega) ⟨h1, by dsimp only; rw [← fstE_go h1 h0]; exact hR⟩
    have hst := fun (h0 : znE zs i ≠ 0) => (fstE_stop h1 h0).symm.trans hR
    clear ih hR
    have k1 := checkRange_raw z.glo z.ghi 100000
    have k2 := checkRange_raw z.rlo z.rhi 1000000
    simp only [r2] at k1 k2
    unfold znE at ihn hst
    rw [ez] at ihn hst
    by_cases c1 : 0 ≤ z.f ∧ z.f ≤ 2000
    rotate_left
    · rw [if_neg c1] at hst
      have hst := hst (by decide)
      subst hst
      simp only [go_sem, h2, n0, hzi, Zn.v, Zn.cs]
      refine cP (isHeat_no c1) ?_
      simp only [go_sem]
    rw [if_pos c1] at hst ihn
    obtain ⟨g, hg⟩ : ∃ g, rgE5 z.glo z.ghi 100000 = g := ⟨_, rfl⟩
    obtain ⟨r, hr⟩ : ∃ g, rgE5 z.rlo z.rhi 1000000 = g := ⟨_, rfl⟩
    rw [hg] at k1 hst ihn
    rw [hr] at k2 hst ihn
    simp only [go_sem, h2, n0, hzi, Zn.v, Zn.cs]
    refine cP (isHeat_yes c1) ?_
    by_cases h0 : i = 0
    · subst h0
      have e0 : (((0 : Nat) : Int) == 0) = true := rfl
      have e3 : ¬ (0 : Int) < ((0 : Nat) : Int) := by omega
      by_cases c2 : z.f = 0
      · have e4 : (z.f != 0) = false := by rw [c2]; rfl
        rw [if_neg (by omega)] at hst ihn
        simp only [go_sem, e0, e3, e4]
        refine cP k1 ?_
        by_cases c3 : g = 0
        · have e5 : (g != 0) = false := by rw [c3]; rfl
          rw [if_pos c3] at hst ihn
          simp only [go_sem, e5]
          refine cP k2 ?_
          by_cases c4 : r = 0
          · have e6 : (r != 0) = false := by rw [c4]; rfl
            simp only [go_sem, e6, h3]
            exact ihn c4 _ _ (by simp [go_sem]; rfl)
          · have e6 : (r != 0) = true := by simpa using c4
            have hst := hst c4
            subst hst
            simp only [go_sem, e6]
        · have e5 : (g != 0) = true := by simpa using c3
          rw [if_neg c3] at hst
          have hst := hst c3
          subst hst
          simp only [go_sem, e5]
      · have e4 : (z.f != 0) = true := by simpa using c2
        rw [if_pos (by omega)] at hst
        have hst := hst (by decide)
        subst hst
        simp only [go_sem, e0, e3, e4]
    · have e0 : ((i : Int) == 0) = false := beq_eq_false_iff_ne.2 (by omega)
      have e3 : (0 : Int) < (i : Int) := by omega
      obtain ⟨j, rfl⟩ : ∃ j, i = j + 1 := ⟨i - 1, by omega⟩
      obtain ⟨y, hy⟩ : ∃ y, zs[j]? = some y := ⟨_, List.getElem?_eq_getElem (by omega)⟩
      have ey : zs.getD (j + 1 - 1) default = y := by rw [Nat.add_sub_cancel, List.getD_eq_getElem?_getD, hy]; rfl
      have e7 : IntKind.i64.wrap (((j + 1 : Nat) : Int) - 1) = j := by rw [w64 (by omega)]; omega
      have e8 : ¬ (j : Int) < 0 := by omega
      rw [ey] at hst ihn
      by_cases c2 : y.f < z.f
      · have e4 : ¬ z.f ≤ y.f := by omega
        rw [if_neg (by omega)] at hst ihn
        simp only [go_sem, e0, e3, e4, e7, e8, hy, Int.toNat_natCast, Zn.v, Zn.cs]
        refine cP k1 ?_
        by_cases c3 : g = 0
        · have e5 : (g != 0) = false := by rw [c3]; rfl
          rw [if_pos c3] at hst ihn
          simp only [go_sem, e5]
          refine cP k2 ?_
          by_cases c4 : r = 0
          · have e6 : (r != 0) = false := by rw [c4]; rfl
            simp only [go_sem, e6, h3]
            exact ihn c4 _ _ (by simp [go_sem])
          · have e6 : (r != 0) = true := by simpa using c4
            have hst := hst c4
            subst hst
            simp only [go_sem, e6]
        · have e5 : (g != 0) = true := by simpa using c3
          rw [if_neg c3] at hst
          have hst := hst c3
          subst hst
          simp only [go_sem, e5]
      · have e4 : z.f ≤ y.f := by omega
        rw [if_pos (by omega)] at hst
        have hst := hst (by decide)
        subst hst
        simp only [go_sem, e0, e3, e4, e7, e8, hy, Int.toNat_natCast, Zn.v, Zn.cs]
  · have h2 : ¬ (i : Int) < zs.length := by omega
    obtain rfl : i = zs.length := by omega
    rw [fstE_end] at hR
    subst hR
    simp only [go_sem, h2]
set_option maxHeartbeats 8000000 in
set_option maxRecDepth 10000 in
theorem rCheck_raw5 (brk : Int) (zs : List Zn) (hl : zs.length ≤ 1000) : Ans Try.prog n_ref05_Check [stV brk zs] [] (.int .i64 (stE brk zs)) [] := by
  unfold stE
  refine spec_run e_ref05_Check fun G => ?_
  by_cases hb : 1 ≤ brk ∧ brk ≤ 1000000000
  rotate_left
  · rw [if_neg hb]
    simp only [go_sem, stV]
    refine cP (rbeyond_yes hb) ?_
    simp only [go_sem]
  rw [if_pos hb]
  simp only [go_sem, stV]
  refine cP (rbeyond_no hb) ?_
  by_cases n1 : zs.length = 0
  · have e1 : ((zs.length : Int) == 0) = true := by rw [n1]; rfl
    rw [if_pos n1]
    simp only [go_sem, e1, List.length_map]
  have e1 : ((zs.length : Int) == 0) = false := beq_eq_false_iff_ne.2 (by omega)
  rw [if_neg n1]
  by_cases n2 : zs.length > 16
  · have e2 : (zs.length : Int) > 16 := by omega
    rw [if_pos n2]
    simp only [go_sem, e1, e2, List.length_map]
  have e2 : ¬ (zs.length : Int) > 16 := by omega
  rw [if_neg n2]
  simp only [go_sem, e1, e2, List.length_map]
  obtain ⟨RES, hRES⟩ : ∃ R, fstE (znE zs) zs.length 0 = R := ⟨_, rfl⟩
  rw [hRES]
  refine loop_ind k_ref05_Check_r23.eq_1 (fun s : Nat × Int × Heap => s.1 ≤ zs.length ∧ fstE (znE zs) (zs.length - s.1) s.1 = RES ∧ (s.1 = 0 → s.2.1 = -1) ∧ (0 < s.1 → s.2.1 = (zs.getD (s.1 - 1) default).f)) (fun s => zs.length - s.1)
    (fun s => (tsets 61 [(1, .ptr 0 0 0 1), (2, .int .i64 0), (3, .int .i64 s.2.1), (4, .int .i64 s.1)], some (.cells false 2 [.agg [.int .i64 brk, .view (zs.map Zn.v)]]) :: s.2.2)) (0, -1, []) ⟨Nat.zero_le _, hRES, fun _ => rfl, fun h => absurd h (by simp)⟩ (by simp [go_sem]) rfl ?_
  clear hRES
  rintro ⟨i, last, X⟩ ⟨hi, hR, hl0, hl1⟩ ih
  dsimp only at hi hR hl0 hl1 ih ⊢
  by_cases h1 : i < zs.length
  · have h2 : (i : Int) < zs.length := by omega
    have n0 : ¬ (i : Int) < 0 := by omega
    have h3 : IntKind.i64.wrap ((i : Int) + 1) = ((i + 1 : Nat) : Int) := by rw [w64 (by omega)]; rfl
    obtain ⟨z, hzi⟩ : ∃ z, zs[i]? = some z := ⟨_, List.getElem?_eq_getElem h1⟩
    have ez : zs.getD i default = z := by rw [List.getD_eq_getElem?_getD, hzi]; rfl
    have ihn := fun (h0 : znE zs i = 0) Y => ih (i + 1, z.f, Y) (by dsimp only; omega) ⟨h1, by dsimp only; rw [← fstE_go h1 h0]; exact hR, fun h => absurd h (by dsimp only; omega), fun _ => by dsimp only; rw [Nat.add_sub_cancel, ez]⟩
    have hst := fun (h0 : znE zs i ≠ 0) => (fstE_stop h1 h0).symm.trans hR
    clear ih hR
    have k1 := rcheckRange_raw z.glo z.ghi 100000
    have k2 := rcheckRange_raw z.rlo z.rhi 1000000
    simp only [r2] at k1 k2
    unfold znE at ihn hst
    rw [ez] at ihn hst
    by_cases c1 : 0 ≤ z.f ∧ z.f ≤ 2000
    rotate_left
    · rw [if_neg c1] at hst
      have hst := hst (by decide)
      subst hst
      simp only [go_sem, h2, n0, hzi, Zn.v, Zn.cs]
      refine cP (rbeyond_yes c1) ?_
      simp only [go_sem]
    rw [if_pos c1] at hst ihn
    obtain ⟨g, hg⟩ : ∃ g, rgE5 z.glo z.ghi 100000 = g := ⟨_, rfl⟩
    obtain ⟨r, hr⟩ : ∃ g, rgE5 z.rlo z.rhi 1000000 = g := ⟨_, rfl⟩
    rw [hg] at k1 hst ihn
    rw [hr] at k2 hst ihn
    obtain ⟨bd, hbd⟩ : ∃ b : Bool, b = (decide (i = 0 ∧ z.f ≠ 0) || decide (0 < i ∧ z.f ≤ (zs.getD (i - 1) default).f)) := ⟨_, rfl⟩
    simp only [go_sem, h2, n0, hzi, Zn.v, Zn.cs]
    refine cP (rbeyond_no c1) ?_
    by_cases c2 : (i = 0 ∧ z.f ≠ 0) ∨ (0 < i ∧ z.f ≤ (zs.getD (i - 1) default).f)
    · rw [if_pos c2] at hst
      have hst := hst (by decide)
      subst hst
      by_cases h0 : i = 0
      · have q1 : 0 < z.f := by omega
        subst h0
        have e0 : (((0 : Nat) : Int) == 0) = true := rfl
        simp only [go_sem, e0, q1]
      · have e0 : ((i : Int) == 0) = false := beq_eq_false_iff_ne.2 (by omega)
        have q1 : z.f ≤ last := by have := hl1 (by omega); omega
        simp only [go_sem, e0, q1]
    · rw [if_neg c2] at hst ihn
      by_cases h0 : i = 0
      · have q2 : z.f = 0 := by omega
        have q1 : ¬ z.f ≤ last := by have := hl0 h0; omega
        subst h0
        have e0 : (((0 : Nat) : Int) == 0) = true := rfl
        rw [q2] at ihn q1
        simp only [go_sem, e0, q1, q2]
        refine cP k1 ?_
        by_cases c3 : g = 0
        · have e5 : (g != 0) = false := by rw [c3]; rfl
          rw [if_pos c3] at hst ihn
          simp only [go_sem, e5]
          refine cP k2 ?_
          by_cases c4 : r = 0
          · have e6 : (r != 0) = false := by rw [c4]; rfl
            simp only [go_sem, e6, h3]
            exact ihn c4 _ _ (by simp [go_sem]; rfl)
          · have e6 : (r != 0) = true := by simpa using c4
            have hst := hst c4
            subst hst
            simp only [go_sem, e6]
        · have e5 : (g != 0) = true := by simpa using c3
          rw [if_neg c3] at hst
          have hst := hst c3
          subst hst
          simp only [go_sem, e5]
      · have e0 : ((i : Int) == 0) = false := beq_eq_false_iff_ne.2 (by omega)
        have q1 : ¬ z.f ≤ last := by have := hl1 (by omega); omega
        simp only [go_sem, e0, q1]
        refine cP k1 ?_
        by_cases c3 : g = 0
        · have e5 : (g != 0) = false := by rw [c3]; rfl
          rw [if_pos c3] at hst ihn
          simp only [go_sem, e5]
          refine cP k2 ?_
          by_cases c4 : r = 0
          · have e6 : (r != 0) = false := by rw [c4]; rfl
            simp only [go_sem, e6, h3]
            exact ihn c4 _ _ (by simp [go_sem])
          · have e6 : (r != 0) = true := by simpa using c4
            have hst := hst c4
            subst hst
            simp only [go_sem, e6]
        · have e5 : (g != 0) = true := by simpa using c3
          rw [if_neg c3] at hst
          have hst := hst c3
          subst hst
          simp only [go_sem, e5]
  · have h2 : ¬ (i : Int) < zs.length := by omega
    obtain rfl : i = zs.length := by omega
    rw [fstE_end] at hR
    subst hR
    simp only [go_sem, h2]
end Go.Proofs

