/- A part of the proof. -/
import Derived.Test.YtdodlephmmpemaaPC
set_option linter.unusedSimpArgs false
set_option linter.unusedVariables false
namespace Go.Proofs
open Go Go.Sx
attribute [local irreducible] Run

def idxF (x : Int) : List Int → Nat → Int
  | [], _ => -1
  | c :: cs, i => if x = c then i else idxF x cs (i + 1)
theorem idxF_mem (x : Int) : ∀ (l : List Int) (i : Nat), 0 ≤ idxF x l i ↔ x ∈ l
  | [], i => by simp [idxF]
  | c :: cs, i => by
    rw [idxF]
    by_cases h : x = c
    · simp [h]
    · simp [h, idxF_mem x cs (i + 1)]

theorem Index_ok {l : List Int} (x : Int) (hlen : l.length ≤ 1000000) : Ans Try.prog n_slices_Index_int_int [vw l, .int .i64 x] [] (.int .i64 (idxF x l 0)) [] := by
  generalize hRES : idxF x l 0 = RES
  refine spec_run e_slices_Index_int_int fun G => ?_
  simp only [go_sem, vw]
  refine loop_ind k_slices_Index_int_int_r7.eq_1 (fun i : Nat => i ≤ l.length ∧ idxF x (l.drop i) i = RES) (fun i => l.length - i)
    (fun i => (tsets 19 [(0, vw l), (1, .int .i64 x), (7, .int .i64 l.length), (8, .int .i64 i)], [])) 0 ⟨Nat.zero_le _, by simpa using hRES⟩ (by simp [go_sem, vw]) rfl ?_
  rintro i ⟨hi, hm⟩ ih
  dsimp only at hi hm ih ⊢
  by_cases h1 : i < l.length
  · have h2 : (i : Int) < l.length := by omega
    have h3 := idx_next h1 (by omega)
    have n0 : ¬ (i : Int) < 0 := by omega
    have hx := gt_get h1
    rw [drop_step h1, idxF] at hm
    generalize gt l i = z at *
    by_cases hz : x = z
    · have hz' : (x == z) = true := by simp [hz]
      rw [if_pos hz] at hm
      simp only [go_sem, vw, List.length_map, h2, n0, hx, hz']
      rw [← hm]
    · have hz' : (x == z) = false := by simp [hz]
      rw [if_neg hz] at hm
      simp only [go_sem, vw, List.length_map, h2, n0, hx, hz', h3]
      exact ih (i + 1) (by omega) ⟨h1, hm⟩ _ (by simp [go_sem, vw])
  · have h2 : ¬ (i : Int) < l.length := by omega
    rw [drop_end (by omega), idxF] at hm
    simp only [go_sem, vw, List.length_map, h2]
    rw [← hm]

theorem Contains_ok {l : List Int} (x : Int) (hlen : l.length ≤ 1000000) : Ans Try.prog n_slices_Contains_int_int [vw l, .int .i64 x] [] (.bool (decide (x ∈ l))) [] := by
  have h := Index_ok x hlen
  have hm := idxF_mem x l 0
  refine spec_run e_slices_Contains_int_int fun G => ?_
  simp only [go_sem, vw]
  refine cP h ?_
  simp only [go_sem]
  rw [decide_eq_decide.2 hm]

theorem has_ok {p : Pl} (hlen : p.cs.length ≤ 1000000) (e : Int) : Ans Try.prog n_field_has [p.v, .int .i64 e] [] (.bool (decide (e ≠ 0 ∧ e ∈ p.cs))) [] := by
  have h := Contains_ok e hlen
  refine spec_run e_field_has fun G => ?_
  by_cases he : e = 0
  · have he' : (e != 0) = false := by simp [he]
    simp only [go_sem, Pl.v, Pl.a, Pl.c4, vw, he']
    simp [he]
  · have he' : (e != 0) = true := by simp [he]
    simp only [go_sem, Pl.v, Pl.a, Pl.c4, vw, he']
    refine cP h ?_
    simp only [go_sem]
    simp [he]

def chgA (p : Pl) (v : List Int) (n : Nat) (e : Int) : AVal := if e ≠ 0 ∧ e ∈ p.cs then .tup [Rg.v ⟨chg p (highB p v (cnt p v n)) e, chg p (lowB p v (cnt p v n)) e⟩, .int .i64 0] else .tup [Rg.v ⟨0, 0⟩, .int .i64 7]

theorem Charge_ok {p : Pl} (hp : PlOK p) {v : List Int} (hv : VOK v) (hvl : (v.length : Int) = gmax p.cs) {n : Nat} (hn : n ≤ 200) (e : Int) : Ans Try.prog n_field_Charge [p.v, vw v, .int .i64 n, .int .i64 e] [] (chgA p v n e) [] := by
  have hs := Solve_ok hp hv hvl hn
  have hN : p.w * p.h ≤ 256 := Nat.mul_le_mul hp.w.2 hp.h.2
  have hlen := hp.len
  have hh := has_ok (p := p) (by omega) e
  have A := (low_ok hp v (cnt p v n)).at hv
  have B := (high_ok hp v (cnt p v n)).at hv
  have hc := charge_ok hp A B (cnt p v n) (stl p v (cnt p v n)) e
  have L1 := A.len; have L2 := B.len
  rw [← hlen] at L1 L2
  unfold chgA
  refine spec_run e_field_Charge fun G => ?_
  simp only [go_sem, Pl.v, Pl.a, Pl.c4, vw]
  refine cN2 hs ?_ (hr := by simp [go_sem, fldV]) (hx := iv_row _ _ _) (hy := iv_row _ _ _)
  simp only [go_sem, ren, rens, fldV, Pl.v, Pl.a, Pl.c4, vw]
  refine cP hh ?_
  by_cases hb : e ≠ 0 ∧ e ∈ p.cs
  · have hb' : decide (e ≠ 0 ∧ e ∈ p.cs) = true := by simp [hb]
    rw [if_pos hb, hb']
    simp only [go_sem, Pl.v, Pl.a, Pl.c4, vw]
    refine cF hc 6 ⟨.inl (plv_frz 3 _ p), .inl (fldW_frz (j0 := 2) (j1 := 3) rfl rfl L1.symm L2.symm), .inl rfl, trivial⟩ ?_
    simp only [go_sem, Rg.v]
    trace_state
  · have hb' : decide (e ≠ 0 ∧ e ∈ p.cs) = false := by simp [hb]
    rw [if_neg hb, hb']
    simp only [go_sem, Pl.v, Pl.a, Pl.c4, vw]
    rfl
end Go.Proofs

namespace Go.Proofs
open Go Go.Sx

end Go.Proofs

namespace Go.Proofs
open Go Go.Sx

end Go.Proofs

namespace Go.Proofs
open Go Go.Sx
attribute [local irreducible] Run

end Go.Proofs

namespace Go.Proofs
open Go Go.Sx
attribute [local irreducible] Run

end Go.Proofs

namespace Go.Proofs
open Go Go.Sx

end Go.Proofs

namespace Go.Proofs
open Go Go.Sx
attribute [local irreducible] Run

def Pl.put (p : Pl) (i : Nat) (c : Int) : Pl := { p with cs := p.cs.set i c }
end Go.Proofs

namespace Go.Proofs
open Go Go.Sx

end Go.Proofs

namespace Go.Proofs
open Go Go.Sx
attribute [local irreducible] Run

end Go.Proofs

namespace Go.Proofs
open Go Go.Sx

end Go.Proofs

namespace Go.Proofs
open Go Go.Sx
attribute [local irreducible] Run

end Go.Proofs

namespace Go.Proofs
open Go Go.Sx
attribute [local irreducible] Run

def inb (p : Pl) (i : Nat) (r d : Int) : Prop := (-((i % p.w : Nat) : Int) ≤ r ∧ r ≤ p.w - 1 - ((i % p.w : Nat) : Int)) ∧ (-((i / p.w : Nat) : Int) ≤ d ∧ d ≤ p.h - 1 - ((i / p.w : Nat) : Int))
instance (p : Pl) (i : Nat) (r d : Int) : Decidable (inb p i r d) := by unfold inb; infer_instance
def Stays (p : Pl) (e r d : Int) : Prop := ∀ i, i < p.w * p.h → gt p.cs i = e → inb p i r d
instance (p : Pl) (e r d : Int) : Decidable (Stays p e r d) := by unfold Stays; infer_instance

def wo (l : List Int) (e : Int) : List Int := l.map fun c => if c = e then 0 else c
def stepOf (p : Pl) (r d : Int) : Int := d * p.w + r
def Frees (p : Pl) (e r d : Int) : Prop := ∀ i, i < p.w * p.h → gt p.cs i = e → gt (wo p.cs e) ((i : Int) + stepOf p r d).toNat = 0
instance (p : Pl) (e r d : Int) : Decidable (Frees p e r d) := by unfold Frees; infer_instance
end Go.Proofs

namespace Go.Proofs
open Go Go.Sx
attribute [local irreducible] Run

end Go.Proofs

namespace Go.Proofs
open Go Go.Sx
attribute [local irreducible] Run

end Go.Proofs

namespace Go.Proofs
open Go Go.Sx
attribute [local irreducible] Run

structure Rp where
  w : Int
  h : Int
  rd : Bool
  cs : List Int
def Rp.v (p : Rp) : AVal := .agg [.int .i64 p.w, .int .i64 p.h, .bool p.rd, vw p.cs]
def Rp.pl (p : Rp) : Pl := ⟨p.w.toNat, p.h.toNat, p.rd, p.cs⟩
def Rp.err (p : Rp) : Int :=
  if ¬ ((1 ≤ p.w ∧ p.w ≤ 16) ∧ (1 ≤ p.h ∧ p.h ≤ 16)) then 2 else if (p.cs.length : Int) ≠ p.w * p.h then 3 else if ¬ ∀ c ∈ p.cs, 0 ≤ c ∧ c ≤ 6 then 2 else if gmax p.cs = 0 then 7 else 0
theorem Rp.ok {p : Rp} (h : p.err = 0) : PlOK p.pl ∧ p.v = p.pl.v := by
  unfold Rp.err at h
  by_cases h1 : (1 ≤ p.w ∧ p.w ≤ 16) ∧ (1 ≤ p.h ∧ p.h ≤ 16)
  · rw [if_neg (fun h => h h1)] at h
    by_cases h2 : (p.cs.length : Int) = p.w * p.h
    · rw [if_neg (fun h => h h2)] at h
      by_cases h3 : ∀ c ∈ p.cs, 0 ≤ c ∧ c ≤ 6
      · rw [if_neg (fun h => h h3)] at h
        by_cases h4 : gmax p.cs = 0
        · rw [if_pos h4] at h; omega
        · have ew : ((p.w.toNat : Nat) : Int) = p.w := by omega
          have eh : ((p.h.toNat : Nat) : Int) = p.h := by omega
          have hl : p.cs.length = p.w.toNat * p.h.toNat := by
            have : (p.cs.length : Int) = ((p.w.toNat * p.h.toNat : Nat) : Int) := by push_cast; rw [ew, eh, h2]
            omega
          refine ⟨⟨by show 1 ≤ p.w.toNat ∧ p.w.toNat ≤ 16; omega, by show 1 ≤ p.h.toNat ∧ p.h.toNat ≤ 16; omega, hl, h3, ?_⟩, ?_⟩
          · have hm : gmax p.cs ∈ p.cs := by
              rcases mxL_or p.cs 0 with h | h
              · exact absurd h h4
              · exact h
            obtain ⟨i, hi, hie⟩ := mem_gt hm
            exact ⟨i, by show i < p.w.toNat * p.h.toNat; omega, by show gt p.cs i ≠ 0; rw [hie]; exact h4⟩
          · unfold Rp.v Pl.v Pl.a Pl.c4 Rp.pl
            simp only [ew, eh]
      · rw [if_pos h3] at h; omega
    · rw [if_pos h2] at h; omega
  · rw [if_pos h1] at h; omega

set_option maxHeartbeats 2000000 in
theorem Check_raw (p : Rp) (hlen : p.cs.length ≤ 1000000) : Ans Try.prog n_field_Check [p.v] [] (.int .i64 p.err) [] := by
  by_cases hok : p.err = 0
  · obtain ⟨h1, h2⟩ := Rp.ok hok
    rw [hok, h2]
    exact Check_ok h1
  · unfold Rp.err at hok ⊢
    refine spec_run e_field_Check fun G => ?_
    simp only [go_sem, Rp.v, vw]
    by_cases hw : 1 ≤ p.w ∧ p.w ≤ 16
    · refine cP (within_yes hw) ?_
      simp only [go_sem]
      by_cases hh : 1 ≤ p.h ∧ p.h ≤ 16
      · rw [if_neg (fun h => h ⟨hw, hh⟩)] at hok ⊢
        refine cP (within_yes hh) ?_
        obtain ⟨w, hw'⟩ : ∃ w : Nat, (w : Int) = p.w := ⟨p.w.toNat, by omega⟩
        obtain ⟨h, hh'⟩ : ∃ h : Nat, (h : Int) = p.h := ⟨p.h.toNat, by omega⟩
        have hN : w * h ≤ 256 := Nat.mul_le_mul (show w ≤ 16 by omega) (show h ≤ 16 by omega)
        have em : IntKind.i64.wrap (p.w * p.h) = p.w * p.h := by rw [← hw', ← hh', w64 (by push_cast at *; omega)]
        by_cases hl : (p.cs.length : Int) = p.w * p.h
        · rw [if_neg (fun h => h hl)] at hok ⊢
          have hl' : ((p.cs.length : Int) != p.w * p.h) = false := by simp [hl]
          simp only [go_sem, List.length_map, em, hl']
          refine loop_ind k_field_Check_r11.eq_1 (fun a : Nat × Heap => a.1 ≤ p.cs.length ∧ ∀ c ∈ p.cs.take a.1, 0 ≤ c ∧ c ≤ 6) (fun a => p.cs.length - a.1)
            (fun a => (tsets 41 [(1, .ptr 0 0 0 1), (2, .int .i64 0), (25, vw p.cs), (26, .int .i64 p.cs.length), (27, .int .i64 a.1)], some (.cells false 4 [p.v]) :: a.2)) (0, []) ⟨Nat.zero_le _, by simp⟩ (by simp [go_sem, vw]) rfl ?_
          rintro ⟨i, X⟩ ⟨hi, hm⟩ ih
          dsimp only at hi hm ih ⊢
          by_cases h1 : i < p.cs.length
          · have h2 : (i : Int) < p.cs.length := by omega
            have h3 := idx_next h1 (by omega)
            have n0 : ¬ (i : Int) < 0 := by omega
            have hx := gt_get h1
            have hT : p.cs.take (i + 1) = p.cs.take i ++ [gt p.cs i] := by rw [List.take_add_one, gt_get h1]; rfl
            have hmem := gt_mem h1
            have ihn := fun X => ih (i + 1, X) (by dsimp only; omega)
            clear ih
            simp only [hT] at ihn
            generalize gt p.cs i = z at *
            simp only [go_sem, vw, List.length_map, h2, n0, hx]
            by_cases hz : 0 ≤ z ∧ z ≤ 6
            · refine cP (within_yes hz) ?_
              simp only [go_sem, h3]
              exact ihn _ ⟨h1, fun x hx' => by
                rcases List.mem_append.1 hx' with h | h
                · exact hm x h
                · simp only [List.mem_singleton] at h
                  rw [h]; exact hz⟩ _ (by simp [go_sem, vw])
            · rw [if_pos fun h => hz (h z hmem)]
              refine cP (within_no hz) ?_
              simp only [go_sem]
          · have h2 : ¬ (i : Int) < p.cs.length := by omega
            rw [List.take_of_length_le (by omega)] at hm
            rw [if_neg (fun h => h hm)] at hok ⊢
            have h4 : gmax p.cs = 0 := by
              by_cases h : gmax p.cs = 0
              · exact h
              · rw [if_neg h] at hok; omega
            rw [if_pos h4]
            have hne : p.cs ≠ [] := fun hn => by
              rw [hn] at hl
              simp only [List.length_nil] at hl
              have := Int.mul_pos (show (0 : Int) < p.w by omega) (show (0 : Int) < p.h by omega)
              omega
            have hmx := max_ok hne (fun c hc => (hm c hc).1) hlen
            rw [h4] at hmx
            simp only [go_sem, Rp.v, vw, List.length_map, h2]
            refine cP hmx ?_
            simp only [go_sem]
        · rw [if_pos hl]
          have hl' : ((p.cs.length : Int) != p.w * p.h) = true := by simp [hl]
          simp only [go_sem, List.length_map, em, hl']
      · rw [if_pos (fun h => hh h.2)]
        refine cP (within_no hh) ?_
        simp only [go_sem]
    · rw [if_pos (fun h => hw h.1)]
      refine cP (within_no hw) ?_
      simp only [go_sem]

def numErr (l : List Int) : Int := if ∀ x ∈ l, -1000000 ≤ x ∧ x ≤ 1000000 then 0 else 2
theorem checkNumbers_raw {l : List Int} (hlen : l.length ≤ 1000000) : Ans Try.prog n_field_checkNumbers [vw l] [] (.int .i64 (numErr l)) [] := by
  unfold numErr
  refine spec_run e_field_checkNumbers fun G => ?_
  simp only [go_sem, vw, List.length_map]
  refine loop_ind k_field_checkNumbers_r7.eq_1 (fun a : Nat × Heap => a.1 ≤ l.length ∧ ∀ x ∈ l.take a.1, -1000000 ≤ x ∧ x ≤ 1000000) (fun a => l.length - a.1)
    (fun a => (tsets 15 [(2, .int .i64 0), (5, vw l), (6, .int .i64 l.length), (7, .int .i64 a.1)], a.2)) (0, []) ⟨Nat.zero_le _, by simp⟩ (by simp [go_sem, vw]) rfl ?_
  rintro ⟨i, X⟩ ⟨hi, hm⟩ ih
  dsimp only at hi hm ih ⊢
  by_cases h1 : i < l.length
  · have h2 : (i : Int) < l.length := by omega
    have h3 := idx_next h1 (by omega)
    have n0 : ¬ (i : Int) < 0 := by omega
    have hx := gt_get h1
    have hT : l.take (i + 1) = l.take i ++ [gt l i] := by rw [List.take_add_one, gt_get h1]; rfl
    have hmem := gt_mem h1
    have ihn := fun X => ih (i + 1, X) (by dsimp only; omega)
    clear ih
    simp only [hT] at ihn
    generalize gt l i = z at *
    simp only [go_sem, vw, List.length_map, h2, n0, hx]
    by_cases hz : -1000000 ≤ z ∧ z ≤ 1000000
    · refine cP (within_yes hz) ?_
      simp only [go_sem, h3]
      exact ihn _ ⟨h1, fun x hx' => by
        rcases List.mem_append.1 hx' with h | h
        · exact hm x h
        · simp only [List.mem_singleton] at h
          rw [h]; exact hz⟩ _ (by simp [go_sem, vw])
    · rw [if_neg fun h => hz (h z hmem)]
      refine cP (within_no hz) ?_
      simp only [go_sem]
  · have h2 : ¬ (i : Int) < l.length := by omega
    rw [List.take_of_length_le (by omega)] at hm
    rw [if_pos hm]
    simp only [go_sem, vw, List.length_map, h2]

def Rp.errV (p : Rp) (v : List Int) : Int := if p.err ≠ 0 then p.err else if (v.length : Int) ≠ gmax p.cs then 3 else numErr v
theorem CheckVolts_raw (p : Rp) {v : List Int} (hlen : p.cs.length ≤ 1000000) (hv : v.length ≤ 1000000) : Ans Try.prog n_field_CheckVolts [p.v, vw v] [] (.int .i64 (p.errV v)) [] := by
  have c1 := Check_raw p hlen
  have c3 := checkNumbers_raw hv
  unfold Rp.errV
  refine spec_run e_field_CheckVolts fun G => ?_
  simp only [go_sem, Rp.v, vw]
  refine cP c1 ?_
  by_cases h : p.err = 0
  · obtain ⟨hp, _⟩ := Rp.ok h
    have hmx : Ans Try.prog n_slices_Max_int_int [vw p.cs] [] (.int .i64 (gmax p.cs)) [] := max_ok hp.ne (fun c hc => (hp.cell c hc).1) hlen
    have h' : (p.err != 0) = false := by simp [h]
    rw [if_neg fun h2 => h2 h]
    simp only [go_sem, List.length_map, h']
    refine cP hmx ?_
    by_cases h2 : (v.length : Int) = gmax p.cs
    · have h2' : ((v.length : Int) != gmax p.cs) = false := by simp [h2]
      rw [if_neg fun h3 => h3 h2]
      simp only [go_sem, h2', vw]
      refine cP c3 ?_
      simp only [go_sem]
    · have h2' : ((v.length : Int) != gmax p.cs) = true := by simp [h2]
      rw [if_pos h2]
      simp only [go_sem, h2']
  · have h' : (p.err != 0) = true := by simp [h]
    rw [if_pos h]
    simp only [go_sem, h']
end Go.Proofs

namespace Go.Proofs
open Go Go.Sx
attribute [local irreducible] Run

theorem checkSweeps_raw (n : Int) : Ans Try.prog n_field_checkSweeps [.int .i64 n] [] (.int .i64 (if 0 ≤ n ∧ n ≤ 200 then 0 else 2)) [] := by
  by_cases h : 0 ≤ n ∧ n ≤ 200
  · rw [if_pos h]; exact checkSweeps_ok h
  · rw [if_neg h]
    refine spec_run e_field_checkSweeps fun G => ?_
    simp only [go_sem]
    refine cP (within_no h) ?_
    simp only [go_sem]

def Rp.errS (p : Rp) (v : List Int) (n : Int) : Int := if p.errV v ≠ 0 then p.errV v else if 0 ≤ n ∧ n ≤ 200 then 0 else 2
theorem Rp.okS {p : Rp} {v : List Int} {n : Int} (h : p.errS v n = 0) : (PlOK p.pl ∧ p.v = p.pl.v) ∧ VOK v ∧ (v.length : Int) = gmax p.pl.cs ∧ 0 ≤ n ∧ n ≤ 200 := by
  unfold Rp.errS at h
  by_cases h1 : p.errV v = 0
  · rw [if_neg fun h2 => h2 h1] at h
    have hn : 0 ≤ n ∧ n ≤ 200 := by
      by_cases h2 : 0 ≤ n ∧ n ≤ 200
      · exact h2
      · rw [if_neg h2] at h; omega
    unfold Rp.errV at h1
    by_cases h3 : p.err = 0
    · rw [if_neg fun h4 => h4 h3] at h1
      by_cases h4 : (v.length : Int) = gmax p.cs
      · rw [if_neg fun h5 => h5 h4] at h1
        refine ⟨Rp.ok h3, ?_, h4, hn⟩
        unfold numErr at h1
        by_cases h5 : ∀ x ∈ v, -1000000 ≤ x ∧ x ≤ 1000000
        · exact h5
        · rw [if_neg h5] at h1; omega
      · rw [if_pos h4] at h1; omega
    · rw [if_pos h3] at h1; exact absurd h1 h3
  · rw [if_pos h1] at h; exact absurd h h1

def noFl : AVal := .agg [.nilsl, .nilsl, .int .i64 0, .bool false]
theorem Solve_bad (p : Rp) {v : List Int} {n : Int} (hlen : p.cs.length ≤ 1000000) (hv : v.length ≤ 1000000) (h : p.errS v n ≠ 0) : Ans Try.prog n_field_Solve [p.v, vw v, .int .i64 n] [] (.tup [noFl, .int .i64 (p.errS v n)]) [] := by
  have c1 := CheckVolts_raw p hlen hv
  have c2 := checkSweeps_raw n
  unfold Rp.errS at h ⊢
  refine spec_run e_field_Solve fun G => ?_
  simp only [go_sem, Rp.v, vw]
  refine cP c1 ?_
  by_cases h1 : p.errV v = 0
  · rw [if_neg fun h2 => h2 h1] at h ⊢
    have h1' : (p.errV v != 0) = false := by simp [h1]
    by_cases h2 : 0 ≤ n ∧ n ≤ 200
    · rw [if_pos h2] at h; exact absurd rfl h
    · rw [if_neg h2] at c2 ⊢
      simp only [go_sem, h1']
      refine cP c2 ?_
      simp only [go_sem, noFl]
  · have h1' : (p.errV v != 0) = true := by simp [h1]
    rw [if_pos h1]
    simp only [go_sem, h1', noFl]

theorem Charge_raw (p : Rp) {v : List Int} (n e : Int) (hlen : p.cs.length ≤ 1000000) (hv : v.length ≤ 1000000) :
    Ans Try.prog n_field_Charge [p.v, vw v, .int .i64 n, .int .i64 e] [] (if p.errS v n = 0 then chgA p.pl v n.toNat e else .tup [Rg.v ⟨0, 0⟩, .int .i64 (p.errS v n)]) [] := by
  by_cases h : p.errS v n = 0
  · obtain ⟨⟨h1, h2⟩, h3, h4, h5, h6⟩ := Rp.okS h
    rw [if_pos h, h2]
    have := Charge_ok h1 h3 h4 (n := n.toNat) (by omega) e
    rwa [show ((n.toNat : Nat) : Int) = n by omega] at this
  · rw [if_neg h]
    have c1 := Solve_bad p hlen hv h
    refine spec_run e_field_Charge fun G => ?_
    have h' : (p.errS v n != 0) = true := by simp [h]
    simp only [go_sem, Rp.v, vw]
    refine cP c1 ?_ (hr := by simp only [go_sem, noFl])
    simp only [go_sem, noFl, h', Rg.v]
end Go.Proofs

