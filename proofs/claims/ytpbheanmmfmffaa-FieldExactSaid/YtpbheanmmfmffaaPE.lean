/- A part of the proof. -/
import Derived.Test.YtpbheanmmfmffaaPD
set_option linter.unusedSimpArgs false
set_option linter.unusedVariables false
namespace Go.Proofs
open Go Go.Sx
attribute [local irreducible] Run

section
variable {P : Program} {G : Ctx} {g : FuncId} {args largs : List AVal} {H : Heap} {α : Type} {Φ : α → Prop} {r : α → AVal} {k : Nat} {rd : Option Nat} {R : Runner} {l : List AOper} {fs : List Sx.Frame} {ρ : List AVal} {ms : List Nat} {Q : Sx.Goal} {dst : Option Nat}
theorem cE1 {x0 : Row} {x' : α → Row} {j0 : Nat} (h : AnsE P g largs [some x0] Φ r fun a => [some (x' a)]) (hargs : args = largs.map (ren (nth [j0]))) (hb : Bels (· < 1) largs)
    (h0 : H[j0]? = some (some x0)) (hx0 : x0.bel (fun _ => False)) (hwf : ∀ a, Φ a → Bel (· < 1) (r a) ∧ (x' a).bel (fun _ => False)) (hk : k ≤ H.length) (hms : ∀ q ∈ ms, q ≠ j0 ∧ H[q]? = some (some .dfr))
    (hK : ∀ a, Φ a → R (.ops l) fs ⟨setD ρ dst (ren (fun _ => j0) (r a)), H.set j0 (some (x' a)), ms⟩ Q) : CallR P G k R g args dst l fs ρ H ms Q := by
  have hlt0 := (List.getElem?_eq_some_iff.1 h0).1
  have e : ∀ a, Φ a → outΔ (outσ [j0] H.length) 0 [some (x' a)] = [(j0, x' a)] := fun a ha => by
    simp only [outΔ, Row.ren_same (hwf a ha).2]
    rfl
  refine callE h [j0] (by simp) ⟨by rw [Row.ren_same hx0]; exact h0, trivial⟩ hargs hb ⟨bel_mono_row hx0 fun _ h => h.elim, trivial⟩
    (fun a ha => ⟨by simp, (hwf a ha).1.mono fun q hq => by simpa using hq, bel_mono_row (hwf a ha).2 fun _ h => h.elim, trivial⟩) (by simpa using hlt0) hk (fun a ha q hq => ?_) fun a ha => ?_
  · rw [e a ha]
    exact ⟨by simpa using (hms q hq).1, (hms q hq).2⟩
  · rw [e a ha]
    have e2 : ren (outσ [j0] H.length) (r a) = ren (fun _ => j0) (r a) := ren_agree (S := fun q => q < 1) (fun q hq => by
      have hq0 : q = 0 := by omega
      rw [hq0]; simp [outσ, nth]) (hwf a ha).1
    rw [e2]
    simp only [Heap.puts, put_lt hlt0]
    exact hK a ha
end

def plA (w h : Nat) (rd : Bool) (d : Int) : Heap := [some (Dr d), some (.cells false 4 [.agg [.int .i64 0, .int .i64 0, .bool false, .nilsl]]), some (.cells false 4 [.agg [.int .i64 w, .int .i64 h, .bool rd, .nilsl]])]
def plB (w h : Nat) (rd : Bool) (d : Int) (l : List Int) (g : Option Row) : Heap := [some (Dr d), some (.cells false 4 [.agg [.int .i64 0, .int .i64 0, .bool false, .nilsl]]), some (.cells false 4 [.agg [.int .i64 w, .int .i64 h, .bool rd, .sl 4 0 l.length]]), g, some (.cells true 1 (iv l))]
theorem iv_app (l : List Int) (c : Int) : iv l ++ [.int .i64 c] = iv (l ++ [c]) := by simp [iv]

structure PlMade (a b : Int) (p : Pl) : Prop where
  ok : PlOK p
  w : p.w ≤ a
  h : p.h ≤ b
  le : ∀ c ∈ p.cs, 0 ≤ c ∧ c ≤ 3
  first : 1 ≤ gt p.cs 0

def Cel (l : List Int) : Prop := ∀ c ∈ l, 0 ≤ c ∧ c ≤ 3
theorem Cel.snoc {l : List Int} {c : Int} (h : Cel l) (hc : 0 ≤ c ∧ c ≤ 3) : Cel (l ++ [c]) := fun d hd => by
  rcases List.mem_append.1 hd with hd | hd
  · exact h d hd
  · simp at hd; subst hd; exact hc

theorem made_of {w h : Nat} {rd : Bool} {a b : Int} {l l' : List Int} (hw : 1 ≤ w ∧ w ≤ 16 ∧ w ≤ a) (hh : 1 ≤ h ∧ h ≤ 16 ∧ h ≤ b) (hl : l.length = w * h) (hc : Cel l) (hf : 1 ≤ gt l 0) (ho : Opd l l') : PlMade a b ⟨w, h, rd, l'⟩ := by
  have hpos := Nat.mul_pos hw.1 hh.1
  have hce : ∀ c ∈ l', 0 ≤ c ∧ c ≤ 3 := fun c hcm => by
    obtain ⟨i, hi, rfl⟩ := List.mem_iff_getElem.1 hcm
    have hi' : i < l.length := by rw [← ho.1]; exact hi
    have e : gt l' i = l'[i] := by unfold gt; rw [List.getD_eq_getElem?_getD, List.getElem?_eq_getElem hi]; rfl
    rw [← e]
    rcases ho.2 i hi' with h | h
    · rw [h]; exact hc _ (gt_mem hi')
    · rw [h]; omega
  have hf' : 1 ≤ gt l' 0 := by
    rcases ho.2 0 (by omega) with h | h
    · rw [h]; exact hf
    · rw [h]; omega
  refine ⟨⟨⟨hw.1, hw.2.1⟩, ⟨hh.1, hh.2.1⟩, by rw [ho.1]; exact hl, fun c h => by have := hce c h; omega, 0, hpos, ?_⟩, hw.2.2, hh.2.2, hce, hf'⟩
  show gt l' 0 ≠ 0
  omega

set_option maxHeartbeats 4000000 in
theorem PlanOf_ok (w0 : Int) (a b : Int) (ha : 1 ≤ a ∧ a ≤ 16) (hb : 1 ≤ b ∧ b ≤ 16) : AnsE Try.prog n_kit_PlanOf [.ptr 0 0 0 1, .int .i64 a, .int .i64 b] [some (Dr w0)] (fun q : Int × Pl => PlMade a b q.2) (fun q => q.2.a (.sl 1 0 q.2.cs.length))
    (fun q => [some (Dr q.1), some (.cells true 1 (iv q.2.cs))]) := by
  refine AnsE.keep (run_fn e_kit_PlanOf fun G => ?_) (fun q hq => ⟨by simp, by simp [go_sem, Pl.a, Pl.c4], by simp only [go_sem], iv_row _ _ _, trivial⟩)
  have b1 := btw_in (w := w0) (show (1 : Int) ≤ a by omega)
  have b2 := btw_in (w := dstep w0) (show (1 : Int) ≤ b by omega)
  have t1 := between_ok w0 1 a (by omega) (by omega) (by omega)
  have t2 := between_ok (dstep w0) 1 b (by omega) (by omega) (by omega)
  have t3 := One_ok (dstep (dstep w0)) 2 (by omega)
  generalize btw w0 1 a = wi at *
  generalize btw (dstep w0) 1 b = hi at *
  generalize (upto (dstep (dstep w0)) 2 == 0) = rd at *
  obtain ⟨w, rfl⟩ : ∃ w : Nat, wi = w := ⟨wi.toNat, by omega⟩
  obtain ⟨h, rfl⟩ : ∃ h : Nat, hi = h := ⟨hi.toNat, by omega⟩
  have hN : w * h ≤ 256 := by have := Nat.mul_le_mul (show w ≤ 16 by omega) (show h ≤ 16 by omega); omega
  have hN1 : 1 ≤ w * h := Nat.mul_pos (by omega) (by omega)
  have em : IntKind.i64.wrap ((w : Int) * h) = ((w * h : Nat) : Int) := by rw [w64 (by push_cast at *; omega)]; push_cast; rfl
  simp only [go_sem]
  refine cD t1 ?_
  simp only [go_sem]
  refine cD t2 ?_
  simp only [go_sem]
  refine cD t3 ?_
  simp only [go_sem]
  generalize dstep (dstep (dstep w0)) = d0
  refine loop_ind k_kit_PlanOf_r9.eq_1 (fun q : Nat × Int × List Int × Heap => q.1 ≤ w * h ∧ q.2.2.1.length = q.1 ∧ Cel q.2.2.1 ∧ ((q.2.2.1 = [] ∧ q.2.2.2 = plA w h rd q.2.1) ∨ (q.2.2.1 ≠ [] ∧ ∃ g X, q.2.2.2 = plB w h rd q.2.1 q.2.2.1 g ++ X))) (fun q => w * h - q.1)
    (fun q => (tsets 48 [(0, .ptr 0 0 0 1), (6, .ptr 1 0 0 1), (7, .ptr 2 0 0 1), (8, .int .i64 q.1)], q.2.2.2)) (0, d0, [], plA w h rd d0) ⟨Nat.zero_le _, rfl, fun c hc => by simp at hc, .inl ⟨rfl, rfl⟩⟩ (by simp [go_sem]) rfl ?_
  rintro ⟨i, d, l, H⟩ ⟨hi, hl, hc, hH⟩ ih
  dsimp only at hi hl hc hH ih ⊢
  by_cases h1 : i < w * h
  · have h2 : (i : Int) < ((w * h : Nat) : Int) := by omega
    have h3 := idx_next h1 (by omega)
    have p1 := One_ok d 3 (by omega)
    have p2 := between_ok (dstep d) 1 3 (by omega) (by omega) (by omega)
    have p3 := btw_in (w := dstep d) (show (1 : Int) ≤ 3 by omega)
    generalize btw (dstep d) 1 3 = c at *
    have ihn := fun d' c' (hc' : 0 ≤ c' ∧ c' ≤ 3) g X => ih (i + 1, d', l ++ [c'], plB w h rd d' (l ++ [c']) g ++ X) (by dsimp only; omega) ⟨h1, by simp [hl], hc.snoc hc', .inr ⟨by simp, g, X, rfl⟩⟩
    clear ih
    simp only [plB, List.length_append, List.length_cons, List.length_nil, Nat.zero_add, List.cons_append, List.nil_append] at ihn
    rcases hH with ⟨rfl, rfl⟩ | ⟨hne, g, X, rfl⟩
    · simp only [List.length_nil, Nat.zero_add, List.nil_append] at ihn
      simp only [plA, go_sem, em, h2]
      refine cD p1 ?_
      cases hcase : (upto d 3 == 0) with
      | true =>
        simp only [go_sem]
        refine cD p2 ?_
        simp only [go_sem, h3]
        exact ⟨by decide, ihn _ c (by omega) _ [] _ (by simp [go_sem])⟩
      | false =>
        simp only [go_sem, h3]
        exact ⟨by decide, ihn _ 0 (by omega) _ [] _ (by simp [go_sem])⟩
    · simp only [plB, List.cons_append, List.nil_append, go_sem, em, h2]
      refine cD p1 ?_
      cases hcase : (upto d 3 == 0) with
      | true =>
        simp only [go_sem]
        refine cD p2 ?_
        simp only [go_sem, h3, iv_len, iv_app]
        exact ⟨by omega, ihn _ c (by omega) _ _ _ (by simp [go_sem])⟩
      | false =>
        simp only [go_sem, h3, iv_len, iv_app]
        exact ⟨by omega, ihn _ 0 (by omega) _ _ _ (by simp [go_sem])⟩
  · have h2 : ¬ (i : Int) < ((w * h : Nat) : Int) := by omega
    have hle : l.length = w * h := by omega
    have hne : l ≠ [] := fun h => by rw [h] at hle; simp at hle; omega
    obtain ⟨g, X, rfl⟩ : ∃ g X, H = plB w h rd d l g ++ X := by
      rcases hH with ⟨h, _⟩ | ⟨_, h⟩
      · exact absurd h hne
      · exact h
    have hg0 := iv_get (l := l) (i := 0) (by omega)
    have hl0 : (0 : Int) < l.length := by omega
    simp only [plB, List.cons_append, List.nil_append, go_sem, em, h2, iv_len, hg0, hl0]
    have hl0' : 0 < l.length := by omega
    have hc0 := hc _ (gt_mem hl0')
    have hmx : (1 : Int) ≤ (if gt l 0 > 1 then gt l 0 else 1) ∧ (if gt l 0 > 1 then gt l 0 else 1) ≤ 3 := by split <;> omega
    rw [iv_set]
    generalize (if gt l 0 > 1 then gt l 0 else 1) = m at *
    have hc1 : Cel (l.set 0 m) := fun c hcm => by
      rcases List.mem_or_eq_of_mem_set hcm with h | h
      · exact hc c h
      · subst h; omega
    have hf1 : 1 ≤ gt (l.set 0 m) 0 := by rw [gt_set _ _ _ _ hl0', if_pos rfl]; exact hmx.1
    have hl1 : (l.set 0 m).length = w * h := by rw [List.length_set]; exact hle
    have hll : l.length = (l.set 0 m).length := by simp
    rw [hll]
    generalize l.set 0 m = l1 at *
    have hO := Opened_ok (p := ⟨w, h, rd, l1⟩) hl1 (by show l1.length ≤ _; omega) (by show 1 ≤ w; omega) true
    refine cE1 hO (j0 := 4) rfl (by simp [go_sem, Pl.a, Pl.c4]) rfl (iv_row _ _ _) (fun a ha => ⟨by simp [go_sem, Pl.a, Pl.c4], iv_row _ _ _⟩) (by simp) (by simp) fun l' hl' => ?_
    simp only [go_sem, Pl.a, Pl.c4, ren, rens]
    refine ⟨(d, ⟨w, h, rd, l'⟩), made_of (by omega) (by omega) hl1 hc1 hf1 hl', ?_⟩
    refine kept_new (A := [some (Dr d)]) 1 4 rfl rfl (by omega) ?_ (fun i x hx => ?_) (iv_row _ _ _) rfl
    · simp only [Pl.a, Pl.c4, ren, rens, hl'.1]; rfl
    · match i, hx with
      | 0, hx => simp at hx; subst hx; exact ⟨dr_bel _ _, rfl⟩
end Go.Proofs

namespace Go.Proofs
open Go Go.Sx
def yes : Option (AVal × Heap) → Bool
  | some (.bool b, _) => b
  | _ => false
theorem yes_ans {P : Program} (hm : P.follows .mixedOrders = true) {tab : Nat → Option AFun} (hT : ∀ g af, tab g = some af → EntryOK P g af) {m n g : Nat} (h : yes (exFn tab m n g [] []) = true) : Ans P g [] [] (.bool true) [] := by
  match hx : exFn tab m n g [] [] with
  | none => rw [hx] at h; cases h
  | some (v, H') =>
    rw [hx] at h
    cases v <;> try (cases h; done)
    rename_i b
    have hb : b = true := h
    subst hb
    exact (spec_ex hm hT hx).mono fun v H'' hv => ⟨hv.1, H'', rfl⟩
theorem awake_yes : yes (exFn tab 3000 40 n_law01_awake [] []) = true := by kernel_rfl
theorem awake_ok : Ans Try.prog n_law01_awake [] [] (.bool true) [] := yes_ans mixed tab_ok awake_yes
end Go.Proofs

namespace Go.Proofs
open Go Go.Sx
attribute [local irreducible] Run

section
variable {P : Program} {G : Ctx} {g : FuncId} {args : List AVal} {H : Heap} {k : Nat} {rd : Option Nat} {R : Runner} {l : List AOper} {fs : List Sx.Frame} {ρ : List AVal} {ms : List Nat} {Q : Sx.Goal} {dst : Option Nat}
theorem dFN2 {ao : AOper} {lo hi : Nat} {tr : List (List Nat × List Nat)} {ss : List (List AOper)} {x y : Row} {largs : List AVal} {r : AVal} (h : Ans P g largs [] r [some x, some y]) (d : Nat) (deps : List Nat) (hargs : Sx.lss (args.map (frz d (H.onlyR deps))) largs)
    (hK : R (.grp lo l (tr ++ [(deps, [H.length, H.length + 1])]) hi ss) fs ⟨setD ρ ao.dst (ren (fun i => H.length + i) r), H ++ [some x, some y], ms⟩ Q)
    (hr : Bel (· < 2) r) (hnv : NV r) (hx : x.bel (fun _ => False)) (hxn : x.nv) (hy : y.bel (fun _ => False)) (hyn : y.nv) (hd : dynOK ao.free deps [H.length, H.length + 1] tr lo = true) (hms : ∀ q ∈ ms, q < H.length := by simp) : DCallR P R g args ao lo l tr hi ss fs ρ H ms Q := by
  have eσ : outσ [] H.length = fun i => H.length + i := by funext i; simp [outσ]
  have e : outΔ (outσ [] H.length) 0 [some x, some y] = [(H.length, x), (H.length + 1, y)] := by
    rw [eσ]
    simp only [outΔ, Row.ren_same hx, Row.ren_same hy, Nat.add_zero]
  have h1 := (h.lss hargs).dfrz (H := H) (args := args) d deps rfl (by simpa using hr) hnv ⟨bel_mono_row hx fun _ h => h.elim, bel_mono_row hy fun _ h => h.elim, trivial⟩ ⟨hxn, hyn, trivial⟩
  rw [e, eσ] at h1
  have e2 : newNames H.length [some x, some y].length = [H.length, H.length + 1] := rfl
  rw [e2] at h1
  have e3 : Heap.put (H ++ [some x]) (H.length + 1) y = H ++ [some x, some y] := by
    have := Heap.put_end (H ++ [some x]) y
    simpa using this
  refine dcallR (deps := deps) h1 ⟨fun q hq => ?_, fun q hq => ?_, hd, ?_⟩
  · have := hms q hq
    simp [Oc.rows]; omega
  · simp only [List.mem_cons, List.not_mem_nil, or_false] at hq
    simp only [Heap.puts, Heap.put_end, e3, List.length_append, List.length_cons, List.length_nil]
    omega
  · simp only [Heap.puts, Heap.put_end, e3]
    exact hK
end

def fldW (lo hi : List Int) (s : Nat) (t : Bool) : AVal := .agg [vw lo, vw hi, .int .i64 s, .bool t]
end Go.Proofs

namespace Go.Proofs
open Go Go.Sx
attribute [local irreducible] Run

end Go.Proofs

namespace Go.Proofs
open Go Go.Sx
attribute [local irreducible] Run

section
variable {P : Program} {g : FuncId} {args largs : List AVal} {H : Heap} {R : Runner} {l : List AOper} {fs : List Sx.Frame} {ρ : List AVal} {ms : List Nat} {Q : Sx.Goal} {ao : AOper} {lo hi : Nat} {tr : List (List Nat × List Nat)} {ss : List (List AOper)}
end

end Go.Proofs

namespace Go.Proofs
open Go Go.Sx

end Go.Proofs

namespace Go.Proofs
open Go Go.Sx
attribute [local irreducible] Run

theorem mod_in (a b : Int) (hb : 1 ≤ b) : 0 ≤ a % b ∧ a % b < b := ⟨Int.emod_nonneg _ (by omega), Int.emod_lt_of_pos _ (by omega)⟩
theorem VolsOf.len {p : Pl} {a b : Int} (hp : PlMade a b p) {v : List Int} (h : VolsOf p v) : (v.length : Int) = gmax p.cs := by
  have := hp.ok.max
  have := h.1
  omega
theorem pla_bel (p : Pl) (j n : Nat) (S : Nat → Prop) (h : S j) : Bel S (p.a (.sl j 0 n)) := by unfold Pl.a Pl.c4; simp only [go_sem, h]

end Go.Proofs

namespace Go.Proofs
open Go Go.Sx

end Go.Proofs

namespace Go.Proofs
open Go Go.Sx
attribute [local irreducible] Run

end Go.Proofs

namespace Go.Proofs
open Go Go.Sx

end Go.Proofs

namespace Go.Proofs
open Go Go.Sx
attribute [local irreducible] Run

theorem mem_gt {l : List Int} {x : Int} (h : x ∈ l) : ∃ i, i < l.length ∧ gt l i = x := by
  obtain ⟨i, hi, e⟩ := List.mem_iff_getElem.1 h
  exact ⟨i, hi, by unfold gt; rw [List.getD_eq_getElem?_getD, List.getElem?_eq_getElem hi, ← e]; rfl⟩
end Go.Proofs

namespace Go.Proofs
open Go Go.Sx

end Go.Proofs

namespace Go.Proofs
open Go Go.Sx
attribute [local irreducible] Run

theorem wsum_if (c : Prop) [Decidable c] (n : Nat) (k : Int) (f : Nat → Int) : wsum (if c then [(n, k)] else []) f = if c then k * f n else 0 := by
  split <;> simp [wsum]
theorem wsum_nbs (p : Pl) {x y : Nat} (hx : x < p.w) (f : Nat → Int) : wsum (nbs p (y * p.w + x)) f =
    (if 0 < x then besW p.rd (x - 1) * f (y * p.w + (x - 1)) else 0) + ((if x + 1 < p.w then besW p.rd x * f (y * p.w + (x + 1)) else 0) +
    ((if 0 < y then abvW p.rd x * f ((y - 1) * p.w + x) else 0) + (if y + 1 < p.h then abvW p.rd x * f ((y + 1) * p.w + x) else 0))) := by
  rw [nbs_at p hx, wsum_append, wsum_append, wsum_append, wsum_if, wsum_if, wsum_if, wsum_if]

end Go.Proofs

namespace Go.Proofs
open Go Go.Sx
attribute [local irreducible] Run

theorem mxL_or : ∀ (l : List Int) (a : Int), mxL a l = a ∨ mxL a l ∈ l
  | [], _ => .inl rfl
  | c :: l, a => by
    rw [mxL]
    rcases mxL_or l (if a < c then c else a) with h | h
    · rw [h]; split
      · exact .inr (by simp)
      · exact .inl rfl
    · exact .inr (by simp [h])
end Go.Proofs

namespace Go.Proofs
open Go Go.Sx
attribute [local irreducible] Run

def chC (p : Pl) (a : List Int) (e : Int) (i : Nat) : Nat → Int := fun n => if gt p.cs n = e then 0 else gt a i - gt a n
def chTo (p : Pl) (a : List Int) (e : Int) : Nat → Int
  | 0 => 0
  | i + 1 => chTo p a e i + if gt p.cs i = e then wsum (nbs p i) (chC p a e i) else 0
def chg (p : Pl) (a : List Int) (e : Int) : Int := chTo p a e (p.w * p.h)
theorem chC_bd {p : Pl} {a : List Int} (ha : AtOK p a) (e : Int) {i n : Nat} (hi : i < p.w * p.h) (hn : n < p.w * p.h) : -2000000 ≤ chC p a e i n ∧ chC p a e i n ≤ 2000000 := by
  have h1 := ha.bd i hi
  have h2 := ha.bd n hn
  unfold chC; split <;> omega
theorem chS_bd {p : Pl} (hp : PlOK p) {a : List Int} (ha : AtOK p a) (e : Int) {i : Nat} (hi : i < p.w * p.h) (k : Nat) : -256000000 ≤ wsum ((nbs p i).take k) (chC p a e i) ∧ wsum ((nbs p i).take k) (chC p a e i) ≤ 256000000 := by
  have hN := nbs_in p hp.w.2 hi
  have hl := nbs_len p i
  have h1 := wtot_bd (l := (nbs p i).take k) fun q hq => ⟨(hN q (List.mem_of_mem_take hq)).2.1, (hN q (List.mem_of_mem_take hq)).2.2.1⟩
  have h2 := wsum_in (l := (nbs p i).take k) (f := chC p a e i) (a := -2000000) (b := 2000000) fun q hq => by
    obtain ⟨k1, k2, _⟩ := hN q (List.mem_of_mem_take hq)
    exact ⟨by omega, chC_bd ha e hi k1⟩
  have h3 : ((nbs p i).take k).length ≤ 4 := by rw [List.length_take]; omega
  omega
theorem chTo_bd {p : Pl} (hp : PlOK p) {a : List Int} (ha : AtOK p a) (e : Int) : ∀ i, i ≤ p.w * p.h → -256000000 * (i : Int) ≤ chTo p a e i ∧ chTo p a e i ≤ 256000000 * (i : Int)
  | 0, _ => by simp [chTo]
  | i + 1, h => by
    have ih := chTo_bd hp ha e i (by omega)
    have h1 := chS_bd hp ha e (show i < p.w * p.h by omega) (nbs p i).length
    rw [List.take_length] at h1
    rw [chTo]
    push_cast
    split <;> omega

theorem freed_get : ∀ (ms : List Nat) (H : Heap) {j : Nat}, (∀ q ∈ ms, q ≠ j) → (freed H ms)[j]? = H[j]?
  | [], _, _, _ => rfl
  | m :: ms, H, j, h => by
    rw [freed, freed_get ms _ fun q hq => h q (by simp [hq]), List.getElem?_set_ne (h m (by simp))]
def chF (p : Pl) (f : AVal) (e lo hi : Int) : Heap :=
  [some (.cells false 4 [p.v]), some (.cells false 4 [f]), some (.cells false 1 [.int .i64 e]), some (.cells false 2 [.agg [.int .i64 0, .int .i64 0]]), some (.cells false 2 [.agg [.int .i64 lo, .int .i64 hi]])]
def chH (p : Pl) (f : AVal) (e lo hi : Int) (X T Y : Heap) : Heap := chF p f e lo hi ++ (X ++ (T ++ Y))
theorem chH_get (p : Pl) (f : AVal) (e lo hi : Int) (X T Y : Heap) {j : Nat} (hj : j < T.length) : (chH p f e lo hi X T Y)[X.length + 5 + j]? = T[j]? := by
  unfold chH
  rw [List.getElem?_append_right (by simp [chF]; omega), List.getElem?_append_right (by simp [chF]; omega), List.getElem?_append_left (by simp [chF]; omega)]
  congr 1
  simp [chF]; omega
theorem chH_old (p : Pl) (f : AVal) (e lo hi : Int) (X T Y : Heap) {k : Nat} (hk : k < X.length) : (chH p f e lo hi X T Y)[k + 5]? = X[k]? := by
  unfold chH
  rw [List.getElem?_append_right (by simp [chF]), List.getElem?_append_left (by simp [chF]; exact hk)]
  congr 1
theorem chH_set (p : Pl) (f : AVal) (e lo hi : Int) (a0 a b c d : Option Row) (X Y : Heap) (y : Option Row) : (chH p f e lo hi X [a0, a, b, c, d] Y).set (X.length + 9) y = chH p f e lo hi X [a0, a, b, c, y] Y := by
  unfold chH
  rw [List.set_append_right _ _ (by simp [chF]), List.set_append_right _ _ (by simp [chF]), List.set_append_left _ _ (by simp [chF])]
  have e : X.length + 9 - (chF p f e lo hi).length - X.length = 4 := by simp only [chF, List.length_cons, List.length_nil]; omega
  rw [e]; rfl
theorem chH_put (p : Pl) (f : AVal) (e lo hi : Int) (a0 a b c d : Option Row) (X Y : Heap) (y : Row) : Heap.put (chH p f e lo hi X [a0, a, b, c, d] Y) (X.length + 9) y = chH p f e lo hi X [a0, a, b, c, some y] Y := by
  rw [put_lt (by simp [chH, chF]; omega)]
  exact chH_set _ _ _ _ _ _ _ _ _ _ _ _ _
theorem chH_len (p : Pl) (f : AVal) (e lo hi : Int) (X T Y : Heap) : (chH p f e lo hi X T Y).length = X.length + T.length + Y.length + 5 := by
  simp [chH, chF]; omega
def chT (p : Pl) (n m : Nat) : List (Nat × AVal) := [(3, .ptr 0 0 0 1), (4, .ptr 1 0 0 1), (5, .ptr 2 0 0 1), (6, .ptr 3 0 0 1), (7, .ptr 4 0 0 1), (8, .ptr (m + 5) 0 0 1), (13, vw p.cs), (14, .int .i64 p.cs.length), (15, .int .i64 n), (25, .fn (.func n_field_neighbours_1) [] [.ptr (m + 7) 0 0 1, .ptr (m + 6) 0 0 1])]
def chL (p : Pl) (n m : Nat) (st : LoopState) (pe : Option ACode) : Row := .loop (tsets 71 (chT p n m)) [26, 27] k_field_charge_r12 k_field_charge_r13 (m + 8) st pe
def chR (p : Pl) (n m : Nat) (st : LoopState) : Heap := [some (.cells false 1 [.int .i64 n]), some (.cells false 4 [p.v]), some (.cells false 1 [.int .i64 n]), some .dfr, some (chL p n m st none)]

set_option maxHeartbeats 4000000 in
set_option maxRecDepth 8000 in
theorem charge_ok {p : Pl} (hp : PlOK p) {la ha : List Int} (hla : AtOK p la) (hha : AtOK p ha) (s : Nat) (t : Bool) (e : Int) : Ans Try.prog n_field_charge [p.v, fldW la ha s t, .int .i64 e] [] (Rg.v ⟨chg p ha e, chg p la e⟩) [] := by
  have hw := hp.w; have hh := hp.h
  have hN : p.w * p.h ≤ 256 := Nat.mul_le_mul hw.2 hh.2
  have hlen := hp.len
  refine spec_run e_field_charge fun G => ?_
  simp only [go_sem, Pl.v, Pl.a, Pl.c4, vw, fldW, List.length_map]
  refine loop_indM k_field_charge_r15.eq_1 (fun a : Nat × Heap × List Nat => a.1 ≤ p.cs.length ∧ a.2.2.Nodup ∧ ∀ q ∈ a.2.2, ∃ k, q = k + 5 ∧ a.2.1[k]? = some (some .dfr)) (fun a => p.cs.length - a.1)
    (fun a => (tsets 71 [(3, .ptr 0 0 0 1), (4, .ptr 1 0 0 1), (5, .ptr 2 0 0 1), (6, .ptr 3 0 0 1), (7, .ptr 4 0 0 1), (13, vw p.cs), (14, .int .i64 p.cs.length), (15, .int .i64 a.1)], chF p (fldW la ha s t) e (chTo p ha e a.1) (chTo p la e a.1) ++ a.2.1, a.2.2)) (0, [], []) ⟨Nat.zero_le _, List.nodup_nil, fun q hq => by simp at hq⟩ (by simp [go_sem, vw]) rfl rfl ?_
  rintro ⟨n, X, ms⟩ ⟨hn, hms1, hms2⟩ ih
  dsimp only at hn hms1 hms2 ih ⊢
  by_cases h1 : n < p.cs.length
  · have h2 : (n : Int) < p.cs.length := by omega
    have h3 := idx_next h1 (by omega)
    have n0 : ¬ (n : Int) < 0 := by omega
    have hnN : n < p.w * p.h := by rw [← hlen]; exact h1
    have hx := gt_get h1
    have b1 := chTo_bd hp hla e (n + 1) hnN
    have b2 := chTo_bd hp hha e (n + 1) hnN
    simp only [chTo] at b1 b2
    by_cases he : gt p.cs n = e
    · have he' : (gt p.cs n != e) = false := by simp [he]
      have hchT : chTo p la e (n + 1) = chTo p la e n + wsum (nbs p n) (chC p la e n) := by rw [chTo, if_pos he]
      have hchU : chTo p ha e (n + 1) = chTo p ha e n + wsum (nbs p n) (chC p ha e n) := by rw [chTo, if_pos he]
      have c1 := chTo_bd hp hla e n (by omega)
      have c2 := chTo_bd hp hha e n (by omega)
      have hdf : ∀ (L : Heap), ∀ q ∈ ms, (chF p (fldW la ha s t) e (chTo p ha e n) (chTo p la e n) ++ (X ++ L))[q]? = some (some .dfr) := fun L q hq => by
        obtain ⟨k, rfl, hk⟩ := hms2 q hq
        have hkl := (List.getElem?_eq_some_iff.1 hk).1
        have := chH_old p (fldW la ha s t) e (chTo p ha e n) (chTo p la e n) X [] L hkl
        unfold chH at this
        rw [List.nil_append] at this
        rw [this]; exact hk
      generalize chTo p la e n = ch0 at *
      generalize chTo p ha e n = cl0 at *
      simp only [chF, List.cons_append, List.nil_append]
      generalize hz : gt p.cs n = z at *
      simp only [go_sem, Pl.v, Pl.a, Pl.c4, vw, fldW, List.length_map, h2, n0, hx, he']
      refine cN2 (neighbours_ok p n) ?_ (hms := ?_)
      · simp only [go_sem, ren, rens]
        have hl : (chF p (fldW la ha s t) e cl0 ch0 ++ (X ++ [some (Row.cells false 1 [.int .i64 (n : Int)]), some (Row.cells false 4 [p.v]), some (Row.cells false 1 [.int .i64 (n : Int)])])).length = X.length + 8 := by simp [chF]
        show Mean Try.prog G 0 none _ _ ⟨_, chF p (fldW la ha s t) e cl0 ch0 ++ (X ++ [some (Row.cells false 1 [.int .i64 (n : Int)]), some (Row.cells false 4 [p.v]), some (Row.cells false 1 [.int .i64 (n : Int)])]), ms⟩ _
        refine rangeF 2000 (ρ := tsets 71 (chT p n X.length)) (by simp [go_sem, chT, vw]) (by simp only [go_sem, chT]; rfl)
          (R := fun v H' => v = .tup [] ∧ (H' = chH p (fldW la ha s t) e (cl0 + wsum (nbs p n) (chC p ha e n)) (ch0 + wsum (nbs p n) (chC p la e n)) X (chR p n X.length .ready) [] ∨ False)) ?_ (by simp) ?_
        · rw [hl]
          have hheap : chF p (fldW la ha s t) e cl0 ch0 ++ (X ++ [some (Row.cells false 1 [.int .i64 (n : Int)]), some (Row.cells false 4 [p.v]), some (Row.cells false 1 [.int .i64 (n : Int)])]) ++ [some .dfr] ++ [some (.loop (tsets 71 (chT p n X.length)) [26, 27] k_field_charge_r12 k_field_charge_r13 (X.length + 8) .ready none)] = chH p (fldW la ha s t) e cl0 ch0 X (chR p n X.length .ready) [] := by
            simp [chH, chR, chL]
          rw [hheap]
          have hit := nbs1_iter (G := G) hp hnN (r := X.length + 9) (jc := X.length + 7) (jp := X.length + 6) (N := X.length + 10) (Pre := fun k H => H = chH p (fldW la ha s t) e (cl0 + wsum ((nbs p n).take k) (chC p ha e n)) (ch0 + wsum ((nbs p n).take k) (chC p la e n)) X (chR p n X.length .ready) []) (Stop := fun _ => False) ⟨?_, ?_⟩
            (by rw [List.take_zero, wsum, wsum, Int.add_zero, Int.add_zero]) (by rw [chH_len]; simp [chR])
          · rw [List.take_length] at hit
            exact hit
          · rintro k H rfl
            exact ⟨by rw [chH_len]; simp [chR], chH_get _ _ _ _ _ X (chR p n X.length .ready) [] (j := 2) (by simp [chR]), chH_get _ _ _ _ _ X (chR p n X.length .ready) [] (j := 1) (by simp [chR])⟩
          · rintro k ⟨m, wt⟩ H hq rfl
            obtain ⟨hm, k2, k3, _⟩ := nbs_in p hw.2 hnN _ (List.mem_of_getElem? hq)
            dsimp only at hm k2 k3 ⊢
            have t1 : wsum ((nbs p n).take (k + 1)) (chC p ha e n) = wsum ((nbs p n).take k) (chC p ha e n) + wt * chC p ha e n m := wsum_take hq _
            have t2 : wsum ((nbs p n).take (k + 1)) (chC p la e n) = wsum ((nbs p n).take k) (chC p la e n) + wt * chC p la e n m := wsum_take hq _
            have d1 := chS_bd hp hha e hnN k
            have d2 := chS_bd hp hla e hnN k
            have d3 := chS_bd hp hha e hnN (k + 1)
            have d4 := chS_bd hp hla e hnN (k + 1)
            have hrow := fun u v => chH_get p (fldW la ha s t) e u v X (chR p n X.length .ready) [] (j := 4) (by simp [chR])
            have hmx := gt_get (l := p.cs) (i := m) (by omega)
            have ga := gt_get (l := la) (i := m) (by rw [hla.len]; exact hm)
            have gb := gt_get (l := ha) (i := m) (by rw [hha.len]; exact hm)
            have gc := gt_get (l := la) (i := n) (by rw [hla.len]; exact hnN)
            have gd := gt_get (l := ha) (i := n) (by rw [hha.len]; exact hnN)
            have q0 : ¬ (m : Int) < 0 := by omega
            have q1 : (m : Int) < p.cs.length := by omega
            have q2 : (m : Int) < la.length := by rw [hla.len]; omega
            have q3 : (m : Int) < ha.length := by rw [hha.len]; omega
            have q4 : (n : Int) < la.length := by rw [hla.len]; omega
            have q5 : (n : Int) < ha.length := by rw [hha.len]; omega
            have v1 := hla.bd n hnN
            have v2 := hha.bd n hnN
            have v3 := hla.bd m hm
            have v4 := hha.bd m hm
            have w1 : chC p ha e n m = if gt p.cs m = e then 0 else gt ha n - gt ha m := rfl
            have w2 : chC p la e n m = if gt p.cs m = e then 0 else gt la n - gt la m := rfl
            rw [w1] at t1
            rw [w2] at t2
            clear w1 w2
            generalize hR : (fun (v : AVal) (H' : Heap) => (v = .bool true ∧ H' = chH p (fldW la ha s t) e (cl0 + wsum ((nbs p n).take (k + 1)) (chC p ha e n)) (ch0 + wsum ((nbs p n).take (k + 1)) (chC p la e n)) X (chR p n X.length .ready) []) ∨ (v = .bool false ∧ False)) = R
            have hfin : R (.bool true) (chH p (fldW la ha s t) e (cl0 + wsum ((nbs p n).take (k + 1)) (chC p ha e n)) (ch0 + wsum ((nbs p n).take (k + 1)) (chC p la e n)) X (chR p n X.length .ready) []) := by rw [← hR]; exact .inl ⟨rfl, rfl⟩
            clear hR
            generalize wsum ((nbs p n).take (k + 1)) (chC p ha e n) = A1 at *
            generalize wsum ((nbs p n).take (k + 1)) (chC p la e n) = B1 at *
            generalize wsum ((nbs p n).take k) (chC p ha e n) = A0 at *
            generalize wsum ((nbs p n).take k) (chC p la e n) = B0 at *
            by_cases hme : gt p.cs m = e
            · rw [if_pos hme, Int.mul_zero, Int.add_zero] at t1 t2
              subst t1
              subst t2
              have hme' : (gt p.cs m != e) = false := by simp [hme]
              generalize gt p.cs m = zm at *
              refine roundW_run 500 k_field_charge_r12.eq_1 (hrow _ _) rfl (ρ' := tsets 71 (chT p n X.length ++ [(26, .int .i64 (m : Int)), (27, .int .i64 wt)])) rfl ?_
              simp only [go_sem, chT]
              refine roundMid_run 500 k_field_charge_r13.eq_1 (hrow _ _) (chH_put _ _ _ _ _ _ _ _ _ _ _ _ _) ?_
              have hci := fun u v => cells_at (chH_get p (fldW la ha s t) e u v X [some (.cells false 1 [.int .i64 n]), some (.cells false 4 [p.v]), some (.cells false 1 [.int .i64 n]), some .dfr, some (chL p n X.length .busy none)] [] (j := 0) (by simp))
              have hrow2 := fun u v => chH_get p (fldW la ha s t) e u v X [some (.cells false 1 [.int .i64 n]), some (.cells false 4 [p.v]), some (.cells false 1 [.int .i64 n]), some .dfr, some (chL p n X.length .busy none)] [] (j := 4) (by simp)
              have hput := fun u v => chH_put p (fldW la ha s t) e u v (some (.cells false 1 [.int .i64 n])) (some (.cells false 4 [p.v])) (some (.cells false 1 [.int .i64 n])) (some .dfr) (some (chL p n X.length .busy none)) X [] (chL p n X.length .ready none)
              simp only [chH, chF, Nat.add_zero, List.append_nil, List.cons_append, List.nil_append, Pl.v, Pl.a, Pl.c4, vw, fldW] at hci hrow2 hput hfin ⊢
              simp only [go_sem, hci, hmx, q0, q1, hme', List.length_map]
              refine roundEnd_on (hrow2 _ _) ?_
              exact Eq.mpr (congrArg (R (.bool true)) (hput _ _)) hfin
            · rw [if_neg hme] at t1 t2
              have hme' : (gt p.cs m != e) = true := by simp [hme]
              generalize gt p.cs m = zm at *
              generalize gt la n = y1 at *
              generalize gt ha n = y2 at *
              generalize gt la m = y3 at *
              generalize gt ha m = y4 at *
              have m1 : -64000000 ≤ wt * (y2 - y4) ∧ wt * (y2 - y4) ≤ 64000000 := by
                have h4 := Int.mul_le_mul_of_nonneg_left (show y2 - y4 ≤ 2000000 by omega) (show 0 ≤ wt by omega)
                have h5 := Int.mul_le_mul_of_nonneg_left (show -2000000 ≤ y2 - y4 by omega) (show 0 ≤ wt by omega)
                omega
              have m2 : -64000000 ≤ wt * (y1 - y3) ∧ wt * (y1 - y3) ≤ 64000000 := by
                have h4 := Int.mul_le_mul_of_nonneg_left (show y1 - y3 ≤ 2000000 by omega) (show 0 ≤ wt by omega)
                have h5 := Int.mul_le_mul_of_nonneg_left (show -2000000 ≤ y1 - y3 by omega) (show 0 ≤ wt by omega)
                omega
              have z1 : IntKind.i64.wrap (y2 - y4) = y2 - y4 := w64 (by omega)
              have z2 : IntKind.i64.wrap (y1 - y3) = y1 - y3 := w64 (by omega)
              have z3 : IntKind.i64.wrap (wt * (y2 - y4)) = wt * (y2 - y4) := w64 (by omega)
              have z4 : IntKind.i64.wrap (wt * (y1 - y3)) = wt * (y1 - y3) := w64 (by omega)
              have z5 : IntKind.i64.wrap (cl0 + A0 + wt * (y2 - y4)) = cl0 + A1 := by rw [w64 (by omega)]; omega
              have z6 : IntKind.i64.wrap (ch0 + B0 + wt * (y1 - y3)) = ch0 + B1 := by rw [w64 (by omega)]; omega
              clear t1 t2
              refine roundW_run 500 k_field_charge_r12.eq_1 (hrow _ _) rfl (ρ' := tsets 71 (chT p n X.length ++ [(26, .int .i64 (m : Int)), (27, .int .i64 wt)])) rfl ?_
              simp only [go_sem, chT]
              refine roundMid_run 500 k_field_charge_r13.eq_1 (hrow _ _) (chH_put _ _ _ _ _ _ _ _ _ _ _ _ _) ?_
              have hci := fun u v => cells_at (chH_get p (fldW la ha s t) e u v X [some (.cells false 1 [.int .i64 n]), some (.cells false 4 [p.v]), some (.cells false 1 [.int .i64 n]), some .dfr, some (chL p n X.length .busy none)] [] (j := 0) (by simp))
              have hrow2 := fun u v => chH_get p (fldW la ha s t) e u v X [some (.cells false 1 [.int .i64 n]), some (.cells false 4 [p.v]), some (.cells false 1 [.int .i64 n]), some .dfr, some (chL p n X.length .busy none)] [] (j := 4) (by simp)
              have hput := fun u v => chH_put p (fldW la ha s t) e u v (some (.cells false 1 [.int .i64 n])) (some (.cells false 4 [p.v])) (some (.cells false 1 [.int .i64 n])) (some .dfr) (some (chL p n X.length .busy none)) X [] (chL p n X.length .ready none)
              simp only [chH, chF, Nat.add_zero, List.append_nil, List.cons_append, List.nil_append, Pl.v, Pl.a, Pl.c4, vw, fldW] at hci hrow2 hput hfin ⊢
              simp only [go_sem, hci, hmx, q0, q1, hme', List.length_map, ga, gb, gc, gd, q2, q3, q4, q5, n0, z1, z2, z3, z4, z5, z6]
              refine roundEnd_on (hrow2 _ _) ?_
              exact Eq.mpr (congrArg (R (.bool true)) (hput _ _)) hfin
        · rintro v H' ⟨rfl, rfl | h⟩
          · rw [hl]
            refine ⟨fun q hq => ?_, _, _, _, _, _, _, _, chH_get _ _ _ _ _ X (chR p n X.length .ready) [] (j := 4) (by simp [chR]), by decide, ?_⟩
            · rcases List.mem_cons.1 hq with rfl | hq
              · exact chH_get _ _ _ _ _ X (chR p n X.length .ready) [] (j := 3) (by simp [chR])
              · obtain ⟨k, rfl, hk⟩ := hms2 q hq
                rw [chH_old _ _ _ _ _ _ _ _ (List.getElem?_eq_some_iff.1 hk).1]; exact hk
            · show Run Try.prog G 0 none 2000 (.out .normal) _ ⟨_, (chH p (fldW la ha s t) e _ _ X (chR p n X.length .ready) []).set (X.length + 9) none, _⟩ _
              unfold chR
              rw [chH_set]
              simp only [go_sem, chT, tsets, h3]
              have ihn := ih (n + 1, (X ++ ([some (.cells false 1 [.int .i64 n]), some (.cells false 4 [p.v]), some (.cells false 1 [.int .i64 n]), some .dfr, none] : Heap) : Heap), (X.length + 8) :: ms) (by dsimp only; omega)
              dsimp only at ihn
              rw [hchT, hchU] at ihn
              refine ihn ⟨h1, ?_, fun q hq => ?_⟩ _ (by simp [go_sem, vw])
              · refine List.nodup_cons.2 ⟨fun h => ?_, hms1⟩
                obtain ⟨k, hk1, hk2⟩ := hms2 _ h
                have := (List.getElem?_eq_some_iff.1 hk2).1
                omega
              · rcases List.mem_cons.1 hq with rfl | hq
                · refine ⟨X.length + 3, rfl, ?_⟩
                  rw [List.getElem?_append_right (by omega)]
                  simp
                · obtain ⟨k, hk1, hk2⟩ := hms2 q hq
                  exact ⟨k, hk1, by rw [List.getElem?_append_left (List.getElem?_eq_some_iff.1 hk2).1]; exact hk2⟩
          · exact h.elim
      · exact hdf [some (.cells false 1 [.int .i64 n])]
    · have he' : (gt p.cs n != e) = true := by simp [he]
      have ihn := ih (n + 1, X ++ [some (.cells false 1 [.int .i64 n])], ms) (by dsimp only; omega) ⟨h1, hms1, fun q hq => by
        obtain ⟨k, hk1, hk2⟩ := hms2 q hq
        exact ⟨k, hk1, by dsimp only; rw [List.getElem?_append_left (List.getElem?_eq_some_iff.1 hk2).1]; exact hk2⟩⟩
      simp only [chTo, if_neg he, Int.add_zero] at ihn
      simp only [chF, List.cons_append, List.nil_append] at ihn ⊢
      generalize gt p.cs n = z at *
      simp only [go_sem, Pl.v, Pl.a, Pl.c4, vw, fldW, List.length_map, h2, n0, hx, he', h3]
      exact ihn _ (by simp [go_sem, vw])
  · have h2 : ¬ (n : Int) < p.cs.length := by omega
    have hnN : n = p.w * p.h := by omega
    subst hnN
    have hne : ∀ q ∈ ms, q ≠ 3 := fun q hq => by obtain ⟨k, hk, _⟩ := hms2 q hq; omega
    have hc := fun L : Heap => freed_get ms (some (.cells false 4 [p.v]) :: some (.cells false 4 [fldW la ha s t]) :: some (.cells false 1 [.int .i64 e]) :: some (.cells false 2 [.agg [.int .i64 (chTo p ha e (p.w * p.h)), .int .i64 (chTo p la e (p.w * p.h))]]) :: L) hne
    have hc' := fun L : Heap => cells_at ((hc L).trans rfl)
    simp only [chF, go_sem, Pl.v, Pl.a, Pl.c4, vw, fldW, List.length_map, h2, List.cons_append, List.nil_append] at hc' ⊢
    simp only [hc', go_sem]
    exact ⟨hms1, rfl⟩
end Go.Proofs

namespace Go.Proofs
open Go Go.Sx
attribute [local irreducible] Run

def rowL (n : Nat) (X : Nat → Nat → Int) (i : Nat) : List Int := (List.range (n + 1)).map (X i)
theorem rowL_len (n : Nat) (X : Nat → Nat → Int) (i : Nat) : (rowL n X i).length = n + 1 := by simp [rowL]
theorem rowL_get {n : Nat} (X : Nat → Nat → Int) (i : Nat) {c : Nat} (hc : c ≤ n) : (rowL n X i)[c]? = some (X i c) := by
  unfold rowL
  rw [List.getElem?_map, List.getElem?_range (by omega)]; rfl
theorem rowL_congr {n : Nat} {X Y : Nat → Nat → Int} {i : Nat} (h : ∀ j, j ≤ n → X i j = Y i j) : rowL n X i = rowL n Y i := by
  unfold rowL
  exact List.map_congr_left fun j hj => h j (by have := List.mem_range.1 hj; omega)
theorem rowL_set {n : Nat} (X : Nat → Nat → Int) (i : Nat) {c : Nat} (hc : c ≤ n) (x : Int) : (rowL n X i).set c x = rowL n (upd X i c x) i := by
  refine List.ext_getElem? fun j => ?_
  by_cases hj : j ≤ n
  · rw [rowL_get _ _ hj]
    by_cases e : c = j
    · subst e
      rw [List.getElem?_set_self (by rw [rowL_len]; omega)]
      simp [upd]
    · rw [List.getElem?_set_ne e, rowL_get _ _ hj]
      have : ¬ j = c := fun h => e h.symm
      simp [upd, this]
  · rw [List.getElem?_eq_none (by rw [List.length_set, rowL_len]; omega), List.getElem?_eq_none (by rw [rowL_len]; omega)]

structure MatAt (H : Heap) (jm : Nat) (qs : List Nat) (n : Nat) (X : Nat → Nat → Int) : Prop where
  len : qs.length = n
  row : H[jm]? = some (some (.cells false 1 (qs.map fun q => .sl q 0 (n + 1))))
  cell : ∀ i q : Nat, qs[i]? = some q → q ≠ jm ∧ H[q]? = some (some (.cells true 1 (iv (rowL n X i))))
  inj : ∀ i j q : Nat, qs[i]? = some q → qs[j]? = some q → i = j
theorem MatAt.congr {H : Heap} {jm : Nat} {qs : List Nat} {n : Nat} {X Y : Nat → Nat → Int} (h : MatAt H jm qs n X) (e : EqM n X Y) : MatAt H jm qs n Y :=
  ⟨h.len, h.row, fun i q hq => by
    have hi : i < n := by have := (List.getElem?_eq_some_iff.1 hq).1; rw [h.len] at this; exact this
    rw [← rowL_congr fun j hj => e i j hi hj]; exact h.cell i q hq, h.inj⟩
theorem MatAt.set {H : Heap} {jm : Nat} {qs : List Nat} {n : Nat} {X : Nat → Nat → Int} (h : MatAt H jm qs n X) {i q c : Nat} (hq : qs[i]? = some q) (hc : c ≤ n) (x : Int) : MatAt (H.set q (some (.cells true 1 (iv ((rowL n X i).set c x))))) jm qs n (upd X i c x) := by
  obtain ⟨h1, h2⟩ := h.cell i q hq
  have hlt : q < H.length := (List.getElem?_eq_some_iff.1 h2).1
  refine ⟨h.len, by rw [List.getElem?_set_ne h1]; exact h.row, fun j r hr => ?_, h.inj⟩
  refine ⟨(h.cell j r hr).1, ?_⟩
  by_cases e : q = r
  · subst e
    obtain rfl := h.inj i j q hq hr
    rw [List.getElem?_set_self hlt, rowL_set _ _ hc]
  · have hij : j ≠ i := fun e1 => e (by subst e1; rw [hq] at hr; exact Option.some.inj hr)
    rw [List.getElem?_set_ne e, (h.cell j r hr).2, rowL_congr (Y := upd X i c x) fun c' _ => by unfold upd; rw [if_neg (fun hh => hij hh.1)]]
def KeptQ (qs : List Nat) (H0 H : Heap) : Prop := H.length = H0.length ∧ ∀ j, j ∉ qs → H[j]? = H0[j]?
theorem KeptQ.refl (qs : List Nat) (H : Heap) : KeptQ qs H H := ⟨rfl, fun _ _ => rfl⟩
theorem KeptQ.set {qs : List Nat} {H0 H : Heap} (h : KeptQ qs H0 H) {q : Nat} (hq : q ∈ qs) (x : Option Row) : KeptQ qs H0 (H.set q x) :=
  ⟨by rw [List.length_set]; exact h.1, fun j hj => by rw [List.getElem?_set_ne (by rintro rfl; exact hj hq)]; exact h.2 j hj⟩
theorem KeptQ.trans {qs : List Nat} {H0 H1 H2 : Heap} (h : KeptQ qs H0 H1) (h' : KeptQ qs H1 H2) : KeptQ qs H0 H2 := ⟨h'.1.trans h.1, fun j hj => (h'.2 j hj).trans (h.2 j hj)⟩

def solT (jm n k i : Nat) (d : Int) : List (Nat × AVal) := [(6, .int .i64 n), (7, .sl jm 0 n), (9, .int .i64 d), (10, .int .i64 k), (11, .int .i64 i)]

set_option maxHeartbeats 4000000 in
set_option maxRecDepth 100000 in
theorem col_loop {G : Ctx} {Q : Goal} {fs : List Sx.Frame} {a : Mat} (hs : Small a) {n k i jm : Nat} (hn : n ≤ 4) (hk : k < n) (hi : i < n) (hik : i ≠ k) (hp : 0 < pv a k) {qs : List Nat} {H : Heap} (h : MatAt H jm qs n (stM a n k i (n + 1)))
    (hK : ∀ H', MatAt H' jm qs n (stM a n k i 0) → KeptQ qs H H' → Run Try.prog G 0 none 2988 (.out .normal) fs ⟨tsets 158 (solT jm n k i (pv a k) ++ [(12, .int .i64 (-1)), (62, .int .i64 (-1)), (63, .bool false)]), H', []⟩ Q)
    {ρ : List AVal} (hw : Wk ρ (tsets 158 (solT jm n k i (pv a k) ++ [(12, .int .i64 n)]))) : Sx.Loop Try.prog G 0 none k_law01_solved_r21 (.blk 6 :: fs) ⟨ρ, H, []⟩ Q := by
  refine loop_ind k_law01_solved_r21.eq_1 (fun s : Nat × Heap => s.1 ≤ n + 1 ∧ MatAt s.2 jm qs n (stM a n k i s.1) ∧ KeptQ qs H s.2) (fun s => s.1)
    (fun s => (tsets 158 (solT jm n k i (pv a k) ++ [(12, .int .i64 ((s.1 : Int) - 1))]), s.2)) (n + 1, H) ⟨Nat.le_refl _, h, KeptQ.refl _ _⟩ (by simpa [show ((n + 1 : Nat) : Int) - 1 = n by omega] using hw) rfl ?_
  rintro ⟨c, J⟩ ⟨hc, hM, hKp⟩ ih
  dsimp only at hc hM hKp ih ⊢
  obtain ⟨qi, hqi⟩ : ∃ q, qs[i]? = some q := ⟨_, List.getElem?_eq_getElem (by rw [hM.len]; exact hi)⟩
  obtain ⟨qk, hqk⟩ : ∃ q, qs[k]? = some q := ⟨_, List.getElem?_eq_getElem (by rw [hM.len]; exact hk)⟩
  have hmr := cells_at hM.row
  have hci := cells_at (hM.cell i qi hqi).2
  have hck := cells_at (hM.cell k qk hqk).2
  have hql : qs.length = n := hM.len
  cases c with
  | zero =>
    have h2 : ¬ (0 : Int) ≤ ((0 : Nat) : Int) - 1 := by omega
    have := hK J hM hKp
    simp only [go_sem, solT] at this
    simp only [go_sem, solT, h2]
    exact this
  | succ c =>
    have e1 : ((c + 1 : Nat) : Int) - 1 = c := by omega
    have h2 : (0 : Int) ≤ c := by omega
    have w1 : IntKind.i64.wrap ((c : Int) - 1) = (c : Int) - 1 := w64 ⟨by omega, by omega⟩
    have g1 : (qs.map fun q => AVal.sl q 0 (n + 1))[i]? = some (.sl qi 0 (n + 1)) := by rw [List.getElem?_map, hqi]; rfl
    have g2 : (qs.map fun q => AVal.sl q 0 (n + 1))[k]? = some (.sl qk 0 (n + 1)) := by rw [List.getElem?_map, hqk]; rfl
    have hik' : ¬ (i : Int) = k := by omega
    by_cases hck' : c = k
    · subst hck'
      have hE : ((c : Int) == (c : Int)) = true := by simp
      have hih := ih (c, J) (by dsimp only; omega) ⟨by dsimp only; omega, hM.congr (stM_skip i), hKp⟩
      clear ih
      dsimp only at hih
      simp only [go_sem, solT] at hih
      simp only [go_sem, solT, e1, h2, w1]
      exact hih _ (by simp [go_sem, solT])
    · have hcn : ¬ (c : Int) = k := by omega
      obtain ⟨r1, r2, r3, r4⟩ := stM_read (a := a) (n := n) hk hik hck'
      obtain ⟨u1, u2, u3, u4, u5⟩ := stM_quo (n := n) (c := c) hs hp (show k < 4 by omega) (show i < 4 by omega) hik
      have hst := stM_step (a := a) (n := n) (k := k) (i := i) (c := c) hik hck'
      have hset := hM.set hqi (show c ≤ n by omega) (full a (k + 1) i (cm n c))
      have hih := ih (c, _) (by dsimp only; omega) ⟨by dsimp only; omega, hset.congr hst, hKp.set (List.mem_of_getElem? hqi) _⟩
      clear ih hst hset
      have i1 : (i : Int) < n := by omega
      have i2 : (k : Int) < n := by omega
      have i3 : (c : Int) < ((n + 1 : Nat) : Int) := by omega
      have i4 : (k : Int) < ((n + 1 : Nat) : Int) := by omega
      have l1 : ∀ j, (iv (rowL n (stM a n k i (c + 1)) j)).length = n + 1 := fun j => by rw [iv_len, rowL_len]
      have hg : ∀ j c', c' ≤ n → (iv (rowL n (stM a n k i (c + 1)) j))[c']? = some (.int .i64 (stM a n k i (c + 1) j c')) := fun j c' h => by
        unfold iv; rw [List.getElem?_map, rowL_get _ _ h]; rfl
      have v1 := hg i c (by omega)
      have v2 := hg k k (by omega)
      have v3 := hg i k (by omega)
      have v4 := hg k c (by omega)
      rw [r1] at v1
      rw [r2] at v2
      rw [r3] at v3
      rw [r4] at v4
      have hp0 : ¬ pv a k = 0 := by omega
      have hlt : qi < J.length := (List.getElem?_eq_some_iff.1 (hM.cell i qi hqi).2).1
      have hput := fun x => put_lt (x := x) hlt
      dsimp only at hih
      simp only [go_sem, solT] at hih
      simp only [go_sem, solT, e1, h2, w1, hcn, hmr, hci, hck, g1, g2, hql, i1, i2, i3, i4, l1, v1, v2, v3, v4, u1, u2, u3, u4, u5, hp0, hput, iv_set]
      exact hih _ (by simp [go_sem, solT])
end Go.Proofs

namespace Go.Proofs
open Go Go.Sx
theorem rowL_iv {n : Nat} (X : Nat → Nat → Int) (i : Nat) {c : Nat} (h : c ≤ n) : (iv (rowL n X i))[c]? = some (.int .i64 (X i c)) := by
  unfold iv; rw [List.getElem?_map, rowL_get _ _ h]; rfl
attribute [local irreducible] Run

set_option maxHeartbeats 4000000 in
set_option maxRecDepth 100000 in
theorem row_loop {G : Ctx} {Q : Goal} {fs : List Sx.Frame} {a : Mat} (hs : Small a) {n k jm : Nat} (hn : n ≤ 4) (hk : k < n) (hp : 0 < pv a k) {qs : List Nat} {H : Heap} (h : MatAt H jm qs n (stM a n k 0 (n + 1)))
    (hK : ∀ H', MatAt H' jm qs n (stM a n k n (n + 1)) → KeptQ qs H H' → Run Try.prog G 0 none 2987 (.out .normal) fs ⟨tsets 158 (solT jm n k n (pv a k) ++ [(53, .int .i64 n), (54, .int .i64 n), (55, .bool false)]), H', []⟩ Q)
    {ρ : List AVal} (hw : Wk ρ (tsets 158 (solT jm n k 0 (pv a k)))) : Sx.Loop Try.prog G 0 none k_law01_solved_r24 (.blk 4 :: fs) ⟨ρ, H, []⟩ Q := by
  refine loop_ind k_law01_solved_r24.eq_1 (fun s : Nat × Heap => s.1 ≤ n ∧ MatAt s.2 jm qs n (stM a n k s.1 (n + 1)) ∧ KeptQ qs H s.2) (fun s => n - s.1)
    (fun s => (tsets 158 (solT jm n k s.1 (pv a k)), s.2)) (0, H) ⟨Nat.zero_le _, h, KeptQ.refl _ _⟩ (by simpa using hw) rfl ?_
  rintro ⟨i, J⟩ ⟨hc, hM, hKp⟩ ih
  dsimp only at hc hM hKp ih ⊢
  by_cases h1 : i < n
  · have i1 : (i : Int) < n := by omega
    have w1 : IntKind.i64.wrap ((i : Int) + 1) = (i : Int) + 1 := w64 ⟨by omega, by omega⟩
    by_cases hik : i = k
    · subst hik
      have hih := ih (i + 1, J) (by dsimp only; omega) ⟨by dsimp only; omega, hM.congr stM_rowk, hKp⟩
      clear ih
      dsimp only at hih
      simp only [go_sem, solT] at hih
      simp only [go_sem, solT, i1, w1]
      exact hih _ (by simp [go_sem, solT])
    · have hik' : ¬ (i : Int) = k := by omega
      simp only [go_sem, solT, i1, w1, hik']
      refine col_loop hs hn hk h1 hik hp hM (fun J' hM' hKp' => ?_) (by simp [go_sem, solT])
      obtain ⟨qi, hqi⟩ : ∃ q, qs[i]? = some q := ⟨_, List.getElem?_eq_getElem (by rw [hM.len]; exact h1)⟩
      have hmr := cells_at hM'.row
      have hci := cells_at (hM'.cell i qi hqi).2
      have hql : qs.length = n := hM.len
      have g1 : (qs.map fun q => AVal.sl q 0 (n + 1))[i]? = some (.sl qi 0 (n + 1)) := by rw [List.getElem?_map, hqi]; rfl
      have hset := hM'.set hqi (show k ≤ n by omega) 0
      have hih := ih (i + 1, _) (by dsimp only; omega) ⟨by dsimp only; omega, hset.congr (stM_row hk hik), (hKp.trans hKp').set (List.mem_of_getElem? hqi) _⟩
      clear ih hset
      have i4 : (k : Int) < ((n + 1 : Nat) : Int) := by omega
      have l1 : ∀ j, (iv (rowL n (stM a n k i 0) j)).length = n + 1 := fun j => by rw [iv_len, rowL_len]
      have hlt : qi < J'.length := (List.getElem?_eq_some_iff.1 (hM'.cell i qi hqi).2).1
      have hput := fun x => put_lt (x := x) hlt
      dsimp only at hih
      simp only [go_sem, solT] at hih
      have v1 := rowL_iv (stM a n k i 0) i (show k ≤ n by omega)
      simp only [go_sem, solT, hmr, hci, g1, hql, v1, i1, i4, l1, hput, iv_set, w1]
      refine hih _ ?_
      simp [go_sem, solT]
  · obtain rfl : i = n := by omega
    have i1 : ¬ (i : Int) < i := by omega
    have := hK J hM hKp
    simp only [go_sem, solT] at this
    simp only [go_sem, solT, i1]
    exact this
end Go.Proofs

namespace Go.Proofs
open Go Go.Sx
attribute [local irreducible] Run

def dgT (jm n k : Nat) (d : Int) : List (Nat × AVal) := [(6, .int .i64 n), (7, .sl jm 0 n), (9, .int .i64 d), (10, .int .i64 k)]
def fuM (a : Mat) (n k : Nat) : Nat → Nat → Int := fun i j => full a k i (cm n j)

set_option maxHeartbeats 4000000 in
set_option maxRecDepth 100000 in
theorem diag_loop {G : Ctx} {Q : Goal} {fs : List Sx.Frame} {a : Mat} {n k jm : Nat} (hn : n ≤ 4) (hk : k < n) {qs : List Nat} {H : Heap} (h : MatAt H jm qs n (fuM a n (k + 1)))
    (hK : ∀ H', MatAt H' jm qs n (fuM a n (k + 1)) → KeptQ qs H H' → Run Try.prog G 0 none 2987 (.out .normal) fs ⟨tsets 158 (dgT jm n k (pv a k) ++ [(13, .int .i64 k), (114, .int .i64 k), (115, .int .i64 k), (116, .bool false)]), H', []⟩ Q)
    {ρ : List AVal} (hw : Wk ρ (tsets 158 (dgT jm n k (pv a k) ++ [(13, .int .i64 0)]))) : Sx.Loop Try.prog G 0 none k_law01_solved_r29 (.blk 8 :: fs) ⟨ρ, H, []⟩ Q := by
  refine loop_ind k_law01_solved_r29.eq_1 (fun s : Nat × Heap => s.1 ≤ k ∧ MatAt s.2 jm qs n (fuM a n (k + 1)) ∧ KeptQ qs H s.2) (fun s => k - s.1)
    (fun s => (tsets 158 (dgT jm n k (pv a k) ++ [(13, .int .i64 s.1)]), s.2)) (0, H) ⟨Nat.zero_le _, h, KeptQ.refl _ _⟩ (by simpa using hw) rfl ?_
  rintro ⟨i, J⟩ ⟨hc, hM, hKp⟩ ih
  dsimp only at hc hM hKp ih ⊢
  by_cases h1 : i < k
  · have i1 : (i : Int) < k := by omega
    have w1 : IntKind.i64.wrap ((i : Int) + 1) = (i : Int) + 1 := w64 ⟨by omega, by omega⟩
    obtain ⟨qi, hqi⟩ : ∃ q, qs[i]? = some q := ⟨_, List.getElem?_eq_getElem (by rw [hM.len]; omega)⟩
    obtain ⟨qk, hqk⟩ : ∃ q, qs[k]? = some q := ⟨_, List.getElem?_eq_getElem (by rw [hM.len]; exact hk)⟩
    have hmr := cells_at hM.row
    have hci := cells_at (hM.cell i qi hqi).2
    have hck := cells_at (hM.cell k qk hqk).2
    have hql : qs.length = n := hM.len
    have g1 : (qs.map fun q => AVal.sl q 0 (n + 1))[i]? = some (.sl qi 0 (n + 1)) := by rw [List.getElem?_map, hqi]; rfl
    have g2 : (qs.map fun q => AVal.sl q 0 (n + 1))[k]? = some (.sl qk 0 (n + 1)) := by rw [List.getElem?_map, hqk]; rfl
    have hset := hM.set hqi (show i ≤ n by omega) (fuM a n (k + 1) k k)
    have he : EqM n (upd (fuM a n (k + 1)) i i (fuM a n (k + 1) k k)) (fuM a n (k + 1)) := fun i' j' hi hj => by
      unfold upd
      by_cases e : i' = i ∧ j' = i
      · obtain ⟨rfl, rfl⟩ := e
        rw [if_pos ⟨rfl, rfl⟩]
        exact (stM_diag hk h1).symm
      · rw [if_neg e]
    have hih := ih (i + 1, _) (by dsimp only; omega) ⟨by dsimp only; omega, hset.congr he, hKp.set (List.mem_of_getElem? hqi) _⟩
    clear ih hset
    have i2 : (k : Int) < n := by omega
    have i3 : (i : Int) < n := by omega
    have i4 : (k : Int) < ((n + 1 : Nat) : Int) := by omega
    have i5 : (i : Int) < ((n + 1 : Nat) : Int) := by omega
    have l1 : ∀ j, (iv (rowL n (fuM a n (k + 1)) j)).length = n + 1 := fun j => by rw [iv_len, rowL_len]
    have v1 := rowL_iv (fuM a n (k + 1)) i (show i ≤ n by omega)
    have v2 := rowL_iv (fuM a n (k + 1)) k (show k ≤ n by omega)
    have hlt : qi < J.length := (List.getElem?_eq_some_iff.1 (hM.cell i qi hqi).2).1
    have hput := fun x => put_lt (x := x) hlt
    dsimp only at hih
    simp only [go_sem, dgT] at hih
    simp only [go_sem, dgT, hmr, hci, hck, g1, g2, hql, i1, i2, i3, i4, i5, l1, v1, v2, hput, iv_set, w1]
    exact hih _ (by simp [go_sem, dgT])
  · obtain rfl : i = k := by omega
    have i1 : ¬ (i : Int) < i := by omega
    have := hK J hM hKp
    simp only [go_sem, dgT] at this
    simp only [go_sem, dgT, i1]
    exact this

set_option maxHeartbeats 4000000 in
set_option maxRecDepth 100000 in
theorem round_loop {G : Ctx} {Q : Goal} {fs : List Sx.Frame} {a : Mat} (hs : Small a) {n jm : Nat} (hn : n ≤ 4) (hp : ∀ k, k ≤ n → 0 < pv a k) {qs : List Nat} {H : Heap} (h : MatAt H jm qs n (fuM a n 0))
    (hK : ∀ H', MatAt H' jm qs n (fuM a n n) → KeptQ qs H H' → Run Try.prog G 0 none 2987 (.out .normal) fs ⟨tsets 158 (dgT jm n n (pv a n) ++ [(40, .int .i64 n), (41, .int .i64 n), (42, .bool false)]), H', []⟩ Q)
    {ρ : List AVal} (hw : Wk ρ (tsets 158 (dgT jm n 0 1))) : Sx.Loop Try.prog G 0 none k_law01_solved_r32 (.blk 2 :: fs) ⟨ρ, H, []⟩ Q := by
  refine loop_ind k_law01_solved_r32.eq_1 (fun s : Nat × Heap => s.1 ≤ n ∧ MatAt s.2 jm qs n (fuM a n s.1) ∧ KeptQ qs H s.2) (fun s => n - s.1)
    (fun s => (tsets 158 (dgT jm n s.1 (pv a s.1)), s.2)) (0, H) ⟨Nat.zero_le _, h, KeptQ.refl _ _⟩ (by simpa [show pv a 0 = 1 from rfl] using hw) rfl ?_
  rintro ⟨k, J⟩ ⟨hc, hM, hKp⟩ ih
  dsimp only at hc hM hKp ih ⊢
  by_cases h1 : k < n
  · have i1 : (k : Int) < n := by omega
    have i4 : (k : Int) < ((n + 1 : Nat) : Int) := by omega
    have w1 : IntKind.i64.wrap ((k : Int) + 1) = (k : Int) + 1 := w64 ⟨by omega, by omega⟩
    obtain ⟨qk, hqk⟩ : ∃ q, qs[k]? = some q := ⟨_, List.getElem?_eq_getElem (by rw [hM.len]; exact h1)⟩
    have hmr := cells_at hM.row
    have hck := cells_at (hM.cell k qk hqk).2
    have hql : qs.length = n := hM.len
    have g2 : (qs.map fun q => AVal.sl q 0 (n + 1))[k]? = some (.sl qk 0 (n + 1)) := by rw [List.getElem?_map, hqk]; rfl
    have l1 : ∀ j, (iv (rowL n (fuM a n k) j)).length = n + 1 := fun j => by rw [iv_len, rowL_len]
    have v2 := rowL_iv (fuM a n k) k (show k ≤ n by omega)
    have hpk := hp (k + 1) h1
    have e1 : fuM a n k k k = pv a (k + 1) := by unfold fuM; rw [cm_lt h1, full_piv a (by omega)]
    rw [e1] at v2
    have hp0 : ¬ pv a (k + 1) = 0 := by omega
    simp only [go_sem, dgT, hmr, hck, g2, hql, i1, i4, l1, v2, hp0, w1]
    refine row_loop hs hn h1 (hp k (by omega)) (hM.congr stM_start) (fun J1 hM1 hK1 => ?_) (by simp [go_sem, solT])
    simp only [go_sem, solT]
    refine diag_loop hn h1 (hM1.congr (stM_end hn)) (fun J2 hM2 hK2 => ?_) (by simp [go_sem, dgT])
    have hih := ih (k + 1, J2) (by dsimp only; omega) ⟨by dsimp only; omega, hM2, (hKp.trans hK1).trans hK2⟩
    have hmr := cells_at hM2.row
    have hck := cells_at (hM2.cell k qk hqk).2
    have l1 : ∀ j, (iv (rowL n (fuM a n (k + 1)) j)).length = n + 1 := fun j => by rw [iv_len, rowL_len]
    have v2 := rowL_iv (fuM a n (k + 1)) k (show k ≤ n by omega)
    have e2 : fuM a n (k + 1) k k = pv a (k + 1) := by unfold fuM; rw [cm_lt h1, full_done a (by omega), if_pos rfl]
    rw [e2] at v2
    dsimp only at hih
    simp only [go_sem, dgT] at hih
    simp only [go_sem, dgT, hmr, hck, g2, hql, i1, i4, l1, v2, w1]
    exact hih _ (by simp [go_sem, dgT])
  · obtain rfl : k = n := by omega
    have i1 : ¬ (k : Int) < k := by omega
    have := hK J hM hKp
    simp only [go_sem, dgT] at this
    simp only [go_sem, dgT, i1]
    exact this
end Go.Proofs

namespace Go.Proofs
open Go Go.Sx
attribute [local irreducible] Run

theorem MatAt.put {H : Heap} {jm : Nat} {qs : List Nat} {n : Nat} {X : Nat → Nat → Int} (h : MatAt H jm qs n X) {jo : Nat} (h1 : jo ≠ jm) (h2 : jo ∉ qs) (x : Option Row) : MatAt (H.set jo x) jm qs n X :=
  ⟨h.len, by rw [List.getElem?_set_ne h1]; exact h.row, fun i q hq => ⟨(h.cell i q hq).1, by rw [List.getElem?_set_ne (by rintro rfl; exact h2 (List.mem_of_getElem? hq))]; exact (h.cell i q hq).2⟩, h.inj⟩
theorem set_same {H : Heap} {j : Nat} {x : Option Row} (h : H[j]? = some x) : H.set j x = H := by
  refine List.ext_getElem? fun i => ?_
  by_cases e : j = i
  · subst e; rw [List.getElem?_set_self (List.getElem?_eq_some_iff.1 h).1, h]
  · rw [List.getElem?_set_ne e]
def solL (a : Mat) (n : Nat) : List Int := (List.range n).map fun i => full a n i 4
theorem solL_len (a : Mat) (n : Nat) : (solL a n).length = n := by simp [solL]
theorem solL_of {a : Mat} {n : Nat} {l : List Int} (hl : l.length = n) (h : ∀ j : Nat, j < n → l[j]? = some (full a n j 4)) : l = solL a n := by
  refine List.ext_getElem? fun j => ?_
  by_cases hj : j < n
  · rw [h j hj]; unfold solL; rw [List.getElem?_map, List.getElem?_range hj]; rfl
  · rw [List.getElem?_eq_none (by omega), List.getElem?_eq_none (by rw [solL_len]; omega)]
def ouT (jm jo n : Nat) (d : Int) : List (Nat × AVal) := [(6, .int .i64 n), (7, .sl jm 0 n), (9, .int .i64 d), (14, .sl jo 0 n)]

set_option maxHeartbeats 4000000 in
set_option maxRecDepth 100000 in
theorem out_loop {G : Ctx} {Q : Goal} {fs : List Sx.Frame} {a : Mat} {n jm jo : Nat} (hn : n ≤ 4) {d : Int} {qs : List Nat} {H : Heap} (h : MatAt H jm qs n (fuM a n n)) {l0 : List Int} (hl0 : l0.length = n) (ho : H[jo]? = some (some (.cells false 1 (iv l0)))) (hjo : jo ≠ jm) (hjq : jo ∉ qs)
    (hK : Run Try.prog G 0 none 2987 (.out .normal) fs ⟨tsets 158 (ouT jm jo n d ++ [(15, .int .i64 n), (141, .int .i64 n), (142, .int .i64 n), (143, .bool false)]), H.set jo (some (.cells false 1 (iv (solL a n)))), []⟩ Q)
    {ρ : List AVal} (hw : Wk ρ (tsets 158 (ouT jm jo n d ++ [(15, .int .i64 0)]))) : Sx.Loop Try.prog G 0 none k_law01_solved_r38 (.blk 10 :: fs) ⟨ρ, H, []⟩ Q := by
  refine loop_ind k_law01_solved_r38.eq_1 (fun s : Nat × List Int => s.1 ≤ n ∧ s.2.length = n ∧ ∀ j : Nat, j < s.1 → s.2[j]? = some (full a n j 4)) (fun s => n - s.1)
    (fun s => (tsets 158 (ouT jm jo n d ++ [(15, .int .i64 s.1)]), H.set jo (some (.cells false 1 (iv s.2))))) (0, l0) ⟨Nat.zero_le _, hl0, fun j hj => absurd hj (by omega)⟩ (by simpa using hw) (set_same ho).symm ?_
  rintro ⟨i, l⟩ ⟨hc, hl, hI⟩ ih
  dsimp only at hc hl hI ih ⊢
  have hM := h.put hjo hjq (some (.cells false 1 (iv l)))
  have hlo : jo < H.length := (List.getElem?_eq_some_iff.1 ho).1
  by_cases h1 : i < n
  · have i1 : (i : Int) < n := by omega
    have i2 : (n : Int) < ((n + 1 : Nat) : Int) := by omega
    have w1 : IntKind.i64.wrap ((i : Int) + 1) = (i : Int) + 1 := w64 ⟨by omega, by omega⟩
    obtain ⟨qi, hqi⟩ : ∃ q, qs[i]? = some q := ⟨_, List.getElem?_eq_getElem (by rw [h.len]; omega)⟩
    have hmr := cells_at hM.row
    have hci := cells_at (hM.cell i qi hqi).2
    have hoo : Heap.cellsAt (H.set jo (some (.cells false 1 (iv l)))) jo = some (false, 1, iv l) := cells_at (List.getElem?_set_self hlo)
    have hql : qs.length = n := h.len
    have g1 : (qs.map fun q => AVal.sl q 0 (n + 1))[i]? = some (.sl qi 0 (n + 1)) := by rw [List.getElem?_map, hqi]; rfl
    have l1 : ∀ j, (iv (rowL n (fuM a n n) j)).length = n + 1 := fun j => by rw [iv_len, rowL_len]
    have l2 : (iv l).length = n := by rw [iv_len, hl]
    have v1 := rowL_iv (fuM a n n) i (show n ≤ n by omega)
    have e1 : fuM a n n i n = full a n i 4 := by unfold fuM; rw [cm_end]
    rw [e1] at v1
    have v2 : (iv l)[i]? = some (.int .i64 (gt l i)) := iv_get (by omega)
    have hih := ih (i + 1, l.set i (full a n i 4)) (by dsimp only; omega) ⟨by dsimp only; omega, by dsimp only; rw [List.length_set]; exact hl, fun j hj => by
      dsimp only at hj ⊢
      by_cases e : i = j
      · subst e; rw [List.getElem?_set_self (by omega)]
      · rw [List.getElem?_set_ne e]; exact hI j (by omega)⟩
    clear ih
    have hput := fun x => put_lt (H := H.set jo (some (.cells false 1 (iv l)))) (j := jo) (x := x) (by rw [List.length_set]; exact hlo)
    dsimp only at hih
    simp only [go_sem, ouT] at hih
    simp only [go_sem, ouT, hmr, hci, hoo, g1, hql, i1, i2, l1, l2, v1, v2, hput, iv_set, w1, List.set_set]
    exact hih _ (by simp [go_sem, ouT])
  · obtain rfl : i = n := by omega
    have i1 : ¬ (i : Int) < i := by omega
    have := hK
    rw [← solL_of hl hI] at this
    simp only [go_sem, ouT] at this
    simp only [go_sem, ouT, i1]
    exact this
end Go.Proofs

namespace Go.Proofs
open Go Go.Sx
attribute [local irreducible] Run

theorem cells_more {H : Heap} {j : Nat} {r : Bool × Nat × List AVal} (h : H.cellsAt j = some r) (Y : Heap) : (H ++ Y).cellsAt j = some r := by
  unfold Heap.cellsAt at *
  rcases hj : H[j]? with _ | _ | x
  · rw [hj] at h; simp at h
  · rw [hj] at h; simp at h
  · rw [List.getElem?_append_left (List.getElem?_eq_some_iff.1 hj).1, hj]
    rw [hj] at h
    exact h
theorem put_more {H : Heap} {j : Nat} (h : j < H.length) (Y : Heap) (x : Row) : Heap.put (H ++ Y) j x = H.set j (some x) ++ Y := by
  rw [put_lt (by simp; omega), List.set_append_left _ _ h]
structure CopyInv (H : Heap) (jm n : Nat) (qs : List Nat) (A : Nat → List Int) (b : List Int) (i : Nat) : Prop where
  blen : b.length = n
  alen : ∀ j, j < n → (A j).length = n
  mrow : H[jm]? = some (some (.cells false 1 ((qs.map fun q => .sl q 0 (n + 1)) ++ List.replicate (n - i) .nilsl)))
  qlen : qs.length = i
  cell : ∀ j q : Nat, qs[j]? = some q → q ≠ jm ∧ H[q]? = some (some (.cells true 1 (iv (A j ++ [gt b j]))))
  inj : ∀ i j q : Nat, qs[i]? = some q → qs[j]? = some q → i = j

theorem CopyInv.next {J : Heap} {jm n : Nat} {qs : List Nat} {A : Nat → List Int} {b : List Int} {i : Nat} (hI : CopyInv J jm n qs A b i) (h1 : i < n) :
    CopyInv (J.set jm (some (.cells false 1 (((qs.map fun q => AVal.sl q 0 (n + 1)) ++ List.replicate (n - i) AVal.nilsl).set i (.sl J.length 0 (n + 1))))) ++ [some (.cells true 1 (iv (A i) ++ [.int .i64 (gt b i)])), some (.cells false 1 [.int .i64 (gt b i)])]) jm n (qs ++ [J.length]) A b (i + 1) := by
  have old : ∀ (x : Option Row) (Y : Heap) (j : Nat) (y : Option Row), j ≠ jm → J[j]? = some y → (J.set jm x ++ Y)[j]? = some y := fun x Y j y hj h => by
    rw [List.getElem?_append_left (by rw [List.length_set]; exact (List.getElem?_eq_some_iff.1 h).1), List.getElem?_set_ne (fun e => hj e.symm)]; exact h
  have hlm : jm < J.length := (List.getElem?_eq_some_iff.1 hI.mrow).1
  obtain ⟨m, hm⟩ : ∃ m, n - i = m + 1 := ⟨n - i - 1, by omega⟩
  have hm2 : n - (i + 1) = m := by omega
  refine ⟨hI.blen, hI.alen, ?_, by simp [hI.qlen], fun j q hq => ?_, fun j k q hj hk => ?_⟩
  · rw [List.getElem?_append_left (by rw [List.length_set]; exact hlm), List.getElem?_set_self hlm]
    have hql : (qs.map fun q => AVal.sl q 0 (n + 1)).length = i := by simp [hI.qlen]
    rw [hm, hm2, List.set_append_right _ _ (by omega), hql, Nat.sub_self, List.replicate_succ]
    simp
  · by_cases hj : j < i
    · rw [List.getElem?_append_left (by rw [hI.qlen]; exact hj)] at hq
      obtain ⟨h2, h3⟩ := hI.cell j q hq
      exact ⟨h2, old _ _ _ _ h2 h3⟩
    · rw [List.getElem?_append_right (by rw [hI.qlen]; omega), hI.qlen] at hq
      obtain rfl : j = i := by
        have := (List.getElem?_eq_some_iff.1 hq).1
        simp at this; omega
      rw [Nat.sub_self] at hq
      simp at hq; subst hq
      refine ⟨by omega, ?_⟩
      rw [List.getElem?_append_right (by rw [List.length_set]; exact Nat.le_refl _), List.length_set, Nat.sub_self]
      simp [iv]
  · have hlt : ∀ (j q : Nat), qs[j]? = some q → q < J.length := fun j q hq => (List.getElem?_eq_some_iff.1 (hI.cell j q hq).2).1
    have key : ∀ (j q : Nat), (qs ++ [J.length])[j]? = some q → (qs[j]? = some q ∧ j < i) ∨ (j = i ∧ q = J.length) := fun j q hq => by
      by_cases h : j < i
      · rw [List.getElem?_append_left (by rw [hI.qlen]; exact h)] at hq; exact .inl ⟨hq, h⟩
      · rw [List.getElem?_append_right (by rw [hI.qlen]; omega), hI.qlen] at hq
        have h0 := (List.getElem?_eq_some_iff.1 hq).1
        simp at h0
        obtain rfl : j = i := by omega
        rw [Nat.sub_self] at hq; simp at hq
        exact .inr ⟨rfl, hq.symm⟩
    rcases key j q hj with ⟨a1, a2⟩ | ⟨a1, a2⟩ <;> rcases key k q hk with ⟨b1, b2⟩ | ⟨b1, b2⟩
    · exact hI.inj j k q a1 b1
    · have := hlt j q a1; omega
    · have := hlt k q b1; omega
    · omega
def Made (H0 : Heap) (jm : Nat) (qs : List Nat) (H : Heap) : Prop := H0.length ≤ H.length ∧ (∀ j, j < H0.length → j ≠ jm → H[j]? = H0[j]?) ∧ ∀ q ∈ qs, H0.length ≤ q
def vws (n : Nat) (A : Nat → List Int) : List AVal := (List.range n).map fun i => vw (A i)
def cpT (A : Nat → List Int) (b : List Int) (jm n : Nat) : List (Nat × AVal) := [(0, .view (vws n A)), (1, vw b), (6, .int .i64 n), (7, .sl jm 0 n)]

set_option maxHeartbeats 4000000 in
set_option maxRecDepth 100000 in
theorem copy_loop {G : Ctx} {Q : Goal} {fs : List Sx.Frame} {jm n : Nat} (hn : n ≤ 4) {A : Nat → List Int} {b : List Int} {H : Heap} (hI : CopyInv H jm n [] A b 0)
    (hK : ∀ H' qs, CopyInv H' jm n qs A b n → Made H jm qs H' → Run Try.prog G 0 none 2987 (.out .normal) fs ⟨tsets 158 (cpT A b jm n ++ [(8, .int .i64 n), (20, .int .i64 n), (21, .int .i64 n), (22, .bool false)]), H', []⟩ Q)
    {ρ : List AVal} (hw : Wk ρ (tsets 158 (cpT A b jm n ++ [(8, .int .i64 0)]))) : Sx.Loop Try.prog G 0 none k_law01_solved_r7 (.blk 0 :: fs) ⟨ρ, H, []⟩ Q := by
  refine loop_ind k_law01_solved_r7.eq_1 (fun s : Nat × List Nat × Heap => s.1 ≤ n ∧ CopyInv s.2.2 jm n s.2.1 A b s.1 ∧ Made H jm s.2.1 s.2.2) (fun s => n - s.1)
    (fun s => (tsets 158 (cpT A b jm n ++ [(8, .int .i64 s.1)]), s.2.2)) (0, [], H) ⟨Nat.zero_le _, hI, Nat.le_refl _, fun _ _ _ => rfl, fun q hq => by simp at hq⟩ (by simpa using hw) rfl ?_
  rintro ⟨i, qs, J⟩ ⟨hc, hI, hMd⟩ ih
  dsimp only at hc hI hMd ih ⊢
  by_cases h1 : i < n
  · have i1 : (i : Int) < n := by omega
    have w1 : IntKind.i64.wrap ((i : Int) + 1) = (i : Int) + 1 := w64 ⟨by omega, by omega⟩
    have hmr := cells_at hI.mrow
    have ha2 := hI.alen i h1
    have g0 : (vws n A).length = n := by simp [vws]
    have g1 : (vws n A)[i]? = some (.view (iv (A i))) := by unfold vws; rw [List.getElem?_map, List.getElem?_range h1]; rfl
    have l1 : (iv (A i)).length = n := by rw [iv_len, ha2]
    have l2 : (iv b).length = n := by rw [iv_len, hI.blen]
    have l3 : ((qs.map fun q => AVal.sl q 0 (n + 1)) ++ List.replicate (n - i) AVal.nilsl).length = n := by simp [hI.qlen]; omega
    have v2 : (iv b)[i]? = some (.int .i64 (gt b i)) := iv_get (by rw [hI.blen]; omega)
    have v3 : ((qs.map fun q => AVal.sl q 0 (n + 1)) ++ List.replicate (n - i) AVal.nilsl)[i]? = some .nilsl := by
      rw [List.getElem?_append_right (by simp [hI.qlen])]
      rw [List.length_map, hI.qlen, Nat.sub_self, List.getElem?_replicate, if_pos (by omega)]
    have hY2 := fun Y => cells_more hmr Y
    have m3 : jm < J.length := (List.getElem?_eq_some_iff.1 hI.mrow).1
    have q5 : (J.length == J.length + 1) = false := by simp
    have ht : List.take n (iv (A i)) = iv (A i) := List.take_of_length_le (by omega)
    have hsz : sizedAll 1 (iv (A i)) = true := by
      unfold sizedAll
      rw [List.all_eq_true]
      intro e he
      obtain ⟨a, _, rfl⟩ := List.mem_map.1 he; rfl
    have b1 : n * 8 ≤ 2 ^ 44 := by omega
    have b2 : (n + 1) * 8 ≤ 2 ^ 44 := by omega
    have hpm := fun Y x => put_more m3 Y x
    have hih := ih (i + 1, qs ++ [J.length], _) (by dsimp only; omega) ⟨by dsimp only; omega, hI.next h1, by
      obtain ⟨d1, d2, d3⟩ := hMd
      refine ⟨by dsimp only; rw [List.length_append, List.length_set]; omega, fun j hj hjm => ?_, fun q hq => ?_⟩
      · dsimp only
        rw [List.getElem?_append_left (by rw [List.length_set]; omega), List.getElem?_set_ne (fun e => hjm e.symm)]
        exact d2 j hj hjm
      · dsimp only at hq
        rcases List.mem_append.1 hq with hq | hq
        · exact d3 q hq
        · simp at hq; omega⟩
    clear ih
    dsimp only at hih
    simp only [go_sem, cpT, vw_iv] at hih
    simp only [go_sem, cpT, i1, w1, hmr, vw_iv, g0, g1, l1, l2, l3, v2, v3, hY2, q5, ht, hsz, b1, b2, hpm]
    exact hih _ (by simp [go_sem, cpT, vw_iv])
  · obtain rfl : i = n := by omega
    have i1 : ¬ (i : Int) < i := by omega
    have := hK J qs hI hMd
    simp only [go_sem, cpT, vw_iv] at this
    simp only [go_sem, cpT, vw_iv, i1]
    exact this
end Go.Proofs

namespace Go.Proofs
open Go Go.Sx
attribute [local irreducible] Run

theorem CopyInv.mat {H : Heap} {jm n : Nat} {qs : List Nat} {A : Nat → List Int} {b : List Int} {X : Nat → Nat → Int} (h : CopyInv H jm n qs A b n) (hA : ∀ i, i < n → A i ++ [gt b i] = rowL n X i) : MatAt H jm qs n X :=
  ⟨h.qlen, by have := h.mrow; rw [Nat.sub_self] at this; simpa using this, fun i q hq => by
    have hi : i < n := by have := (List.getElem?_eq_some_iff.1 hq).1; rw [h.qlen] at this; exact this
    rw [← hA i hi]; exact h.cell i q hq, h.inj⟩

theorem MatAt.app {H : Heap} {jm : Nat} {qs : List Nat} {n : Nat} {X : Nat → Nat → Int} (h : MatAt H jm qs n X) (Y : Heap) : MatAt (H ++ Y) jm qs n X :=
  have old : ∀ {j : Nat} {y : Option Row}, H[j]? = some y → (H ++ Y)[j]? = some y := fun hy => by
    rw [List.getElem?_append_left (List.getElem?_eq_some_iff.1 hy).1]; exact hy
  ⟨h.len, old h.row, fun i q hq => ⟨(h.cell i q hq).1, old (h.cell i q hq).2⟩, h.inj⟩

set_option maxHeartbeats 4000000 in
set_option maxRecDepth 100000 in
theorem solved_ok {a : Mat} (hs : Small a) {n : Nat} (hn : n ≤ 4) (hp : ∀ k, k ≤ n → 0 < pv a k) {A : Nat → List Int} {b : List Int} (hb : b.length = n) (hA : ∀ i, i < n → (A i).length = n ∧ A i ++ [gt b i] = rowL n (fuM a n 0) i) :
    Ans Try.prog n_law01_solved [.view (vws n A), vw b] [] (.tup [.int .i64 (pv a n), .sl 0 0 n]) [some (.cells false 1 (iv (solL a n)))] := by
  refine Ans.keep (run_fn e_law01_solved fun G => ?_) (by simp) (by simp [go_sem]) ⟨iv_row _ _ _, trivial⟩
  have g1 : (n : Int) ≤ 2 ^ 44 := by omega
  have g2 : (n : Int) * 8 ≤ 2 ^ 44 := by omega
  have g4 : (n : Int) * 24 ≤ 2 ^ 44 := by omega
  have g3 : (0 : Int) ≤ n := by omega
  have l2 : (iv b).length = n := by rw [iv_len, hb]
  simp only [go_sem, vw_iv, l2, g1, g2, g3, g4]
  refine ⟨Int.le_refl _, ?_⟩
  refine copy_loop (A := A) (b := b) hn (jm := 0) ⟨hb, fun i hi => (hA i hi).1, by simp, rfl, fun j q hq => by simp at hq, fun i j q hq => by simp at hq⟩ (fun H1 qs h1 hm => ?_) (by simp [go_sem, cpT, vw_iv])
  have hM := h1.mat (X := fuM a n 0) fun i hi => (hA i hi).2
  simp only [go_sem, cpT, vw_iv]
  refine round_loop hs hn hp hM (fun H2 hM2 hK2 => ?_) (by simp [go_sem, dgT])
  simp only [go_sem, dgT, g1, g2, g3]
  refine ⟨Int.le_refl _, ?_⟩
  have hz : List.replicate n (AVal.int IntKind.i64 0) = iv (List.replicate n 0) := by simp [iv]
  rw [hz]
  have h0 : 0 < H2.length := (List.getElem?_eq_some_iff.1 hM2.row).1
  refine out_loop hn (d := pv a n) (hM2.app _) (l0 := List.replicate n 0) (by simp) (jo := H2.length) (by rw [List.getElem?_append_right (Nat.le_refl _), Nat.sub_self]; rfl) (by omega) (fun hq => ?_) ?_ (by simp [go_sem, ouT])
  · obtain ⟨j, hj⟩ := List.getElem?_of_mem hq
    have := (List.getElem?_eq_some_iff.1 (hM2.cell j _ hj).2).1
    omega
  simp only [go_sem, ouT]
  refine kept_one H2.length (by simp [Sx.ren, Sx.rens]) (iv_row _ _ _) ?_
  rw [List.getElem?_set_self (by simp)]
end Go.Proofs

namespace Go.Proofs
open Go Go.Sx

def vacL (p : Pl) : List Nat := (List.range (p.w * p.h)).filter fun i => decide (¬ p.el i)
def vacF (p : Pl) (i : Nat) : Nat := (vacL p).getD i 0
theorem vacF_get {p : Pl} {i : Nat} (h : i < (vacL p).length) : (vacL p)[i]? = some (vacF p i) := by
  unfold vacF; rw [List.getD_eq_getElem?_getD, List.getElem?_eq_getElem h]; rfl
theorem vac_ok (p : Pl) : VacOK p (vacF p) (vacL p).length := by
  have hnd : (vacL p).Nodup := List.Pairwise.filter _ List.nodup_range
  refine ⟨fun i hi => ?_, fun i j hi hj e => ?_, fun x hx hE => ?_⟩
  · have := List.mem_of_getElem? (vacF_get hi)
    unfold vacL at this
    rw [List.mem_filter, List.mem_range] at this
    exact ⟨this.1, by simpa using this.2⟩
  · have h1 := vacF_get hi
    rw [e] at h1
    exact (List.getElem?_inj hi hnd).1 (h1.trans (vacF_get hj).symm)
  · have hm : x ∈ vacL p := by
      unfold vacL
      rw [List.mem_filter, List.mem_range]
      exact ⟨hx, by simpa using hE⟩
    obtain ⟨i, hi⟩ := List.getElem?_of_mem hm
    have hl := (List.getElem?_eq_some_iff.1 hi).1
    exact ⟨i, hl, by have := vacF_get hl; rw [hi] at this; exact (Option.some.inj this).symm⟩
def vAt (p : Pl) (v : List Int) (x : Nat) : Int := vo v (gt p.cs x)
theorem exact_between {p : Pl} (hp : PlOK p) {v lo hi : List Int} (hl : LowOK p v lo) (hh : HighOK p v hi) (h4 : (vacL p).length ≤ 4) {i : Nat} (hi' : i < (vacL p).length) :
    gt lo (vacF p i) * pv (pmat p (vAt p v) (vacF p)) (vacL p).length ≤ full (pmat p (vAt p v) (vacF p)) (vacL p).length i 4 ∧ full (pmat p (vAt p v) (vacF p)) (vacL p).length i 4 ≤ gt hi (vacF p i) * pv (pmat p (vAt p v) (vacF p)) (vacL p).length := by
  have h1 := exact_ge hp (vac_ok p) h4 (vAt p v) (gt lo) (fun x hx hE => hl.elec x hx hE) hl.sub hi'
  have h2 := exact_le hp (vac_ok p) h4 (vAt p v) (gt hi) (fun x hx hE => hh.elec x hx hE) hh.sup hi'
  constructor
  · rw [Int.mul_comm]; exact h1
  · rw [Int.mul_comm]; exact h2
end Go.Proofs

namespace Go.Proofs
open Go Go.Sx
attribute [local irreducible] Run

def enT (m jt jf ju : Nat) (det : Int) : List (Nat × AVal) := [(7, .sl jt 0 m), (11, .ptr jf 0 0 1), (19, .int .i64 det), (20, .sl ju 0 m)]

set_option maxHeartbeats 4000000 in
set_option maxRecDepth 100000 in
theorem end_loop {G : Ctx} {Q : Goal} {fs : List Sx.Frame} {m n jt jf j0 j1 ju s : Nat} {t gt' g0 g1 gu : Bool} {lo hi us ats : List Int} {det : Int} {H : Heap} (hm : m ≤ 4) (hn : n ≤ 256)
    (ht : H[jt]? = some (some (.cells gt' 1 (iv ats)))) (hat : ats.length = m) (hf : H[jf]? = some (some (.cells false 4 [fldV n s t j0 j1])))
    (h0 : H[j0]? = some (some (.cells g0 1 (iv lo)))) (hl : lo.length = n) (h1 : H[j1]? = some (some (.cells g1 1 (iv hi)))) (hh : hi.length = n) (hu : H[ju]? = some (some (.cells gu 1 (iv us)))) (hul : us.length = m)
    (hg : ∀ i, i < m → ∃ c : Nat, gt ats i = c ∧ c < n ∧ IntKind.i64.wrap (gt lo c * det) = gt lo c * det ∧ IntKind.i64.wrap (gt hi c * det) = gt hi c * det ∧ gt lo c * det ≤ gt us i ∧ gt us i ≤ gt hi c * det)
    (hK : Run Try.prog G 0 none 2986 (.out .normal) fs ⟨tsets 255 (enT m jt jf ju det ++ [(21, .int .i64 m), (216, .int .i64 m), (217, .sl jt 0 m), (218, .int .i64 m), (219, .bool false)]), H, []⟩ Q)
    {ρ : List AVal} (hw : Wk ρ (tsets 255 (enT m jt jf ju det ++ [(21, .int .i64 0)]))) : Sx.Loop Try.prog G 0 none k_law01_FieldExact_r49 (.blk 10 :: fs) ⟨ρ, H, []⟩ Q := by
  refine loop_ind k_law01_FieldExact_r49.eq_1 (fun i : Nat => i ≤ m) (fun i => m - i)
    (fun i => (tsets 255 (enT m jt jf ju det ++ [(21, .int .i64 i)]), H)) 0 (Nat.zero_le _) (by simpa using hw) rfl ?_
  intro i hile ih
  dsimp only at hile ih ⊢
  have ct := cells_at ht
  have cf := cells_at hf
  have c0 := cells_at h0
  have c1 := cells_at h1
  have cu := cells_at hu
  by_cases hlt : i < m
  · have i1 : (i : Int) < m := by omega
    have w1 : IntKind.i64.wrap ((i : Int) + 1) = (i : Int) + 1 := w64 ⟨by omega, by omega⟩
    obtain ⟨c, e1, e2, e3, e4, e5, e6⟩ := hg i hlt
    have v1 : (iv ats)[i]? = some (.int .i64 (c : Int)) := by rw [iv_get (by omega), e1]
    have v2 : (iv lo)[c]? = some (.int .i64 (gt lo c)) := iv_get (by omega)
    have v3 : (iv hi)[c]? = some (.int .i64 (gt hi c)) := iv_get (by omega)
    have v4 : (iv us)[i]? = some (.int .i64 (gt us i)) := iv_get (by omega)
    have l1 : (iv ats).length = m := by rw [iv_len, hat]
    have l2 : (iv lo).length = n := by rw [iv_len, hl]
    have l3 : (iv hi).length = n := by rw [iv_len, hh]
    have l4 : (iv us).length = m := by rw [iv_len, hul]
    have i2 : (c : Int) < n := by omega
    have b1 : ¬ gt us i < gt lo c * det := by omega
    have b2 : ¬ gt hi c * det < gt us i := by omega
    have hih := ih (i + 1) (by omega) (by omega)
    clear ih
    simp only [go_sem, enT] at hih
    simp only [go_sem, enT, fldV, ct, cf, c0, c1, cu, i1, i2, w1, v1, v2, v3, v4, l1, l2, l3, l4, e3, e4, b1, b2]
    exact hih _ (by simp [go_sem, enT])
  · obtain rfl : i = m := by omega
    have i1 : ¬ (i : Int) < i := by omega
    have l1 : (iv ats).length = i := by rw [iv_len, hat]
    have := hK
    simp only [go_sem, enT] at this
    simp only [go_sem, enT, ct, l1, i1]
    exact this
end Go.Proofs

namespace Go.Proofs
open Go Go.Sx
attribute [local irreducible] Run

def smV (v : List Int) : List Int := v.map fun x => x.tmod 1001
theorem smV_len (v : List Int) : (smV v).length = v.length := by simp [smV]
theorem tmod_in (x : Int) : -1000 ≤ x.tmod 1001 ∧ x.tmod 1001 ≤ 1000 := by
  have h1 := Int.tmod_lt_of_pos x (show (0 : Int) < 1001 by decide)
  have h2 := Int.lt_tmod_of_pos x (show (0 : Int) < 1001 by decide)
  omega
theorem smV_in (v : List Int) : ∀ x ∈ smV v, -1000 ≤ x ∧ x ≤ 1000 := fun x hx => by
  unfold smV at hx
  obtain ⟨y, _, rfl⟩ := List.mem_map.1 hx
  exact tmod_in y

set_option maxHeartbeats 4000000 in
set_option maxRecDepth 100000 in
theorem small_loop {G : Ctx} {Q : Goal} {fs : List Sx.Frame} {jv : Nat} {g : Bool} {v : List Int} {H : Heap} (hn : v.length ≤ 1000) (hv : H[jv]? = some (some (.cells g 1 (iv v)))) {x5 x6 x7 : AVal}
    (hK : Run Try.prog G 0 none 2986 (.out .normal) fs ⟨tsets 255 [(1, x5), (6, x6), (7, x7), (9, .sl jv 0 v.length), (10, .int .i64 v.length), (63, .int .i64 v.length), (64, .sl jv 0 v.length), (65, .int .i64 v.length), (66, .bool false)], H.set jv (some (.cells g 1 (iv (smV v)))), []⟩ Q)
    {ρ : List AVal} (hw : Wk ρ (tsets 255 [(1, x5), (6, x6), (7, x7), (9, .sl jv 0 v.length), (10, .int .i64 0)])) : Sx.Loop Try.prog G 0 none k_law01_FieldExact_r17 (.blk 2 :: fs) ⟨ρ, H, []⟩ Q := by
  have hlv : jv < H.length := (List.getElem?_eq_some_iff.1 hv).1
  refine loop_ind k_law01_FieldExact_r17.eq_1 (fun s : Nat × List Int => s.1 ≤ v.length ∧ s.2.length = v.length ∧ (∀ j : Nat, j < s.1 → s.2[j]? = some ((gt v j).tmod 1001)) ∧ ∀ j : Nat, s.1 ≤ j → s.2[j]? = v[j]?) (fun s => v.length - s.1)
    (fun s => (tsets 255 [(1, x5), (6, x6), (7, x7), (9, .sl jv 0 v.length), (10, .int .i64 s.1)], H.set jv (some (.cells g 1 (iv s.2))))) (0, v) ⟨Nat.zero_le _, rfl, fun j hj => absurd hj (by omega), fun _ _ => rfl⟩ (by simpa using hw) ?_ ?_
  · refine (List.ext_getElem? fun i => ?_)
    by_cases e : jv = i
    · subst e; rw [List.getElem?_set_self hlv, hv]
    · rw [List.getElem?_set_ne e]
  rintro ⟨i, w⟩ ⟨hi, hwl, ha, hb⟩ ih
  dsimp only at hi hwl ha hb ih ⊢
  have cv : Heap.cellsAt (H.set jv (some (.cells g 1 (iv w)))) jv = some (g, 1, iv w) := cells_at (List.getElem?_set_self hlv)
  have l1 : (iv w).length = v.length := by rw [iv_len, hwl]
  by_cases hlt : i < v.length
  · have i1 : (i : Int) < v.length := by omega
    have w1 : IntKind.i64.wrap ((i : Int) + 1) = (i : Int) + 1 := w64 ⟨by omega, by omega⟩
    have ht := tmod_in (gt v i)
    have w2 : IntKind.i64.wrap ((gt v i).tmod 1001) = (gt v i).tmod 1001 := w64 ⟨by omega, by omega⟩
    have v1 : (iv w)[i]? = some (.int .i64 (gt v i)) := by
      unfold iv
      rw [List.getElem?_map, hb i (Nat.le_refl _), gt_get hlt]; rfl
    have hput := fun x => put_lt (H := H.set jv (some (.cells g 1 (iv w)))) (j := jv) (x := x) (by rw [List.length_set]; exact hlv)
    have hih := ih (i + 1, w.set i ((gt v i).tmod 1001)) (by dsimp only; omega) ⟨by dsimp only; omega, by dsimp only; rw [List.length_set]; exact hwl, fun j hj => by
      dsimp only at hj ⊢
      by_cases e : i = j
      · subst e; rw [List.getElem?_set_self (by omega)]
      · rw [List.getElem?_set_ne e]; exact ha j (by omega), fun j hj => by
      dsimp only at hj ⊢
      rw [List.getElem?_set_ne (by omega)]; exact hb j (by omega)⟩
    clear ih
    dsimp only at hih
    simp only [go_sem] at hih
    simp only [go_sem, cv, l1, i1, w1, v1, w2, hput, iv_set, List.set_set]
    exact hih _ (by simp [go_sem])
  · have e : w = smV v := by
      refine List.ext_getElem? fun j => ?_
      by_cases hj : j < v.length
      · rw [ha j (by omega)]; unfold smV; rw [List.getElem?_map, gt_get hj]; rfl
      · rw [List.getElem?_eq_none (by omega), List.getElem?_eq_none (by rw [smV_len]; omega)]
    obtain rfl : i = v.length := by omega
    subst e
    have i1 : ¬ (v.length : Int) < v.length := by omega
    have := hK
    simp only [go_sem] at this
    simp only [go_sem, cv, l1, i1]
    exact this
end Go.Proofs

namespace Go.Proofs
open Go Go.Sx
attribute [local irreducible] Run

end Go.Proofs

namespace Go.Proofs
open Go Go.Sx

end Go.Proofs

namespace Go.Proofs
open Go Go.Sx

end Go.Proofs

namespace Go.Proofs
open Go Go.Sx
attribute [local irreducible] Run

end Go.Proofs

namespace Go.Proofs
open Go Go.Sx
attribute [local irreducible] Run

end Go.Proofs

namespace Go.Proofs
open Go Go.Sx

end Go.Proofs

namespace Go.Proofs
open Go Go.Sx
attribute [local irreducible] Run

def Pl.put (p : Pl) (i : Nat) (c : Int) : Pl := { p with cs := p.cs.set i c }
end Go.Proofs

namespace Go.Proofs
open Go Go.Sx

end Go.Proofs

namespace Go.Proofs
open Go Go.Sx
attribute [local irreducible] Run

end Go.Proofs

namespace Go.Proofs
open Go Go.Sx
attribute [local irreducible] Run

end Go.Proofs

namespace Go.Proofs
open Go Go.Sx
attribute [local irreducible] Run

def inb (p : Pl) (i : Nat) (r d : Int) : Prop := (-((i % p.w : Nat) : Int) ≤ r ∧ r ≤ p.w - 1 - ((i % p.w : Nat) : Int)) ∧ (-((i / p.w : Nat) : Int) ≤ d ∧ d ≤ p.h - 1 - ((i / p.w : Nat) : Int))
instance (p : Pl) (i : Nat) (r d : Int) : Decidable (inb p i r d) := by unfold inb; infer_instance
def Stays (p : Pl) (e r d : Int) : Prop := ∀ i, i < p.w * p.h → gt p.cs i = e → inb p i r d
instance (p : Pl) (e r d : Int) : Decidable (Stays p e r d) := by unfold Stays; infer_instance

def wo (l : List Int) (e : Int) : List Int := l.map fun c => if c = e then 0 else c
def stepOf (p : Pl) (r d : Int) : Int := d * p.w + r
def Frees (p : Pl) (e r d : Int) : Prop := ∀ i, i < p.w * p.h → gt p.cs i = e → gt (wo p.cs e) ((i : Int) + stepOf p r d).toNat = 0
instance (p : Pl) (e r d : Int) : Decidable (Frees p e r d) := by unfold Frees; infer_instance
end Go.Proofs

namespace Go.Proofs
open Go Go.Sx
attribute [local irreducible] Run

end Go.Proofs

namespace Go.Proofs
open Go Go.Sx
attribute [local irreducible] Run

end Go.Proofs

namespace Go.Proofs
open Go Go.Sx
attribute [local irreducible] Run

structure Rp where
  w : Int
  h : Int
  rd : Bool
  cs : List Int
def Rp.v (p : Rp) : AVal := .agg [.int .i64 p.w, .int .i64 p.h, .bool p.rd, vw p.cs]
def Rp.pl (p : Rp) : Pl := ⟨p.w.toNat, p.h.toNat, p.rd, p.cs⟩
def Rp.err (p : Rp) : Int :=
  if ¬ ((1 ≤ p.w ∧ p.w ≤ 16) ∧ (1 ≤ p.h ∧ p.h ≤ 16)) then 2 else if (p.cs.length : Int) ≠ p.w * p.h then 3 else if ¬ ∀ c ∈ p.cs, 0 ≤ c ∧ c ≤ 6 then 2 else if gmax p.cs = 0 then 7 else 0
theorem Rp.ok {p : Rp} (h : p.err = 0) : PlOK p.pl ∧ p.v = p.pl.v := by
  unfold Rp.err at h
  by_cases h1 : (1 ≤ p.w ∧ p.w ≤ 16) ∧ (1 ≤ p.h ∧ p.h ≤ 16)
  · rw [if_neg (fun h => h h1)] at h
    by_cases h2 : (p.cs.length : Int) = p.w * p.h
    · rw [if_neg (fun h => h h2)] at h
      by_cases h3 : ∀ c ∈ p.cs, 0 ≤ c ∧ c ≤ 6
      · rw [if_neg (fun h => h h3)] at h
        by_cases h4 : gmax p.cs = 0
        · rw [if_pos h4] at h; omega
        · have ew : ((p.w.toNat : Nat) : Int) = p.w := by omega
          have eh : ((p.h.toNat : Nat) : Int) = p.h := by omega
          have hl : p.cs.length = p.w.toNat * p.h.toNat := by
            have : (p.cs.length : Int) = ((p.w.toNat * p.h.toNat : Nat) : Int) := by push_cast; rw [ew, eh, h2]
            omega
          refine ⟨⟨by show 1 ≤ p.w.toNat ∧ p.w.toNat ≤ 16; omega, by show 1 ≤ p.h.toNat ∧ p.h.toNat ≤ 16; omega, hl, h3, ?_⟩, ?_⟩
          · have hm : gmax p.cs ∈ p.cs := by
              rcases mxL_or p.cs 0 with h | h
              · exact absurd h h4
              · exact h
            obtain ⟨i, hi, hie⟩ := mem_gt hm
            exact ⟨i, by show i < p.w.toNat * p.h.toNat; omega, by show gt p.cs i ≠ 0; rw [hie]; exact h4⟩
          · unfold Rp.v Pl.v Pl.a Pl.c4 Rp.pl
            simp only [ew, eh]
      · rw [if_pos h3] at h; omega
    · rw [if_pos h2] at h; omega
  · rw [if_pos h1] at h; omega

end Go.Proofs

namespace Go.Proofs
open Go Go.Sx
attribute [local irreducible] Run

end Go.Proofs

namespace Go.Proofs
open Go Go.Sx
attribute [local irreducible] Run

theorem beyond_ok (n a b : Int) : Ans Try.prog n_ref01_beyond [.int .i64 n, .int .i64 a, .int .i64 b] [] (.bool (decide (¬ (a ≤ n ∧ n ≤ b)))) [] := by
  refine spec_run e_ref01_beyond fun G => ?_
  by_cases h1 : n < a
  · simp only [go_sem, h1]
    rw [decide_eq_true (by omega)]
  · by_cases h2 : b < n
    · simp only [go_sem, h1, h2]
      rw [decide_eq_true (by omega)]
    · simp only [go_sem, h1, h2]
      rw [decide_eq_false (by omega)]
theorem beyond_yes {n a b : Int} (h : ¬ (a ≤ n ∧ n ≤ b)) : Ans Try.prog n_ref01_beyond [.int .i64 n, .int .i64 a, .int .i64 b] [] (.bool true) [] := by
  have := beyond_ok n a b
  rwa [decide_eq_true h] at this
theorem beyond_no {n a b : Int} (h : a ≤ n ∧ n ≤ b) : Ans Try.prog n_ref01_beyond [.int .i64 n, .int .i64 a, .int .i64 b] [] (.bool false) [] := by
  have := beyond_ok n a b
  rwa [decide_eq_false (fun h' => h' h)] at this

def wgt (p : Pl) (i j : Nat) : Int :=
  if max i j = min i j + 1 ∧ 0 < max i j % p.w then besW p.rd (min i j % p.w) else if max i j = min i j + p.w then abvW p.rd (min i j % p.w) else 0

set_option maxHeartbeats 2000000 in
theorem weight_ok {p : Pl} (hp : PlOK p) {i j : Nat} (hi : i < p.w * p.h) (hj : j < p.w * p.h) : Ans Try.prog n_ref01_weight [p.v, .int .i64 i, .int .i64 j] [] (.int .i64 (wgt p i j)) [] := by
  have hw := hp.w; have hh := hp.h
  have hN : p.w * p.h ≤ 256 := Nat.mul_le_mul hw.2 hh.2
  have em : IntKind.i64.wrap ((p.w : Int) * p.h) = ((p.w * p.h : Nat) : Int) := by rw [w64 (by push_cast at *; omega)]; push_cast; rfl
  have em1 : IntKind.i64.wrap (((p.w * p.h : Nat) : Int) - 1) = ((p.w * p.h : Nat) : Int) - 1 := w64 (by omega)
  refine spec_run e_ref01_weight fun G => ?_
  simp only [go_sem, Pl.v, Pl.a, Pl.c4, vw, em, em1]
  refine cP (beyond_no (by omega)) ?_
  simp only [go_sem, Pl.v, Pl.a, Pl.c4, vw, em, em1]
  refine cP (beyond_no (by omega)) ?_
  simp only [go_sem, Pl.v, Pl.a, Pl.c4, vw]
  have hM : (if (j : Int) > i then (j : Int) else i) = ((max i j : Nat) : Int) := by split <;> omega
  have hm : (if (j : Int) < i then (j : Int) else i) = ((min i j : Nat) : Int) := by split <;> omega
  have hMl : max i j < p.w * p.h := by omega
  have hml : min i j < p.w * p.h := by omega
  rw [hM, hm, nat_rem, nat_rem]
  unfold wgt
  clear hM hm
  generalize max i j = M at *
  generalize min i j = m at *
  have hx : m % p.w < p.w := Nat.mod_lt _ (by omega)
  generalize M % p.w = xM at *
  generalize m % p.w = x at *
  have w1 : IntKind.i64.wrap ((m : Int) + 1) = ((m + 1 : Nat) : Int) := by rw [w64 (by omega)]; rfl
  have w2 : IntKind.i64.wrap ((m : Int) + p.w) = ((m + p.w : Nat) : Int) := by rw [w64 (by omega)]; push_cast; rfl
  have w3 : IntKind.i64.wrap ((x : Int) + 1) = (x : Int) + 1 := w64 (by omega)
  have w4 : IntKind.i64.wrap (2 * ((x : Int) + 1)) = 2 * ((x : Int) + 1) := w64 (by omega)
  have w5 : IntKind.i64.wrap (2 * (x : Int)) = 2 * (x : Int) := w64 (by omega)
  have w6 : IntKind.i64.wrap (2 * (x : Int) + 1) = 2 * (x : Int) + 1 := w64 (by omega)
  rw [w1, w2, w3, w4, w5, w6]
  unfold besW abvW
  refine ⟨by omega, fun h1 => ⟨by omega, fun h2 => ⟨fun h3 => ?_, fun h3 => ?_⟩, fun h2 => ⟨fun h4 => ⟨fun h3 => ?_, fun h3 => ?_⟩, fun h4 => ?_⟩⟩, fun h1 => ⟨fun h4 => ⟨fun h3 => ?_, fun h3 => ?_⟩, fun h4 => ?_⟩⟩
  · rw [if_pos ⟨by omega, by omega⟩, h3]; rfl
  · rw [if_pos ⟨by omega, by omega⟩, h3]; rfl
  · rw [if_neg (fun h => h2 (by omega)), if_pos (by omega), h3]; rfl
  · rw [if_neg (fun h => h2 (by omega)), if_pos (by omega), h3]; rfl
  · rw [if_neg (fun h => h2 (by omega)), if_neg (by omega)]
  · rw [if_neg (fun h => h1 (by omega)), if_pos (by omega), h3]; rfl
  · rw [if_neg (fun h => h1 (by omega)), if_pos (by omega), h3]; rfl
  · rw [if_neg (fun h => h1 (by omega)), if_neg (by omega)]
theorem weight_out {p : Pl} (hp : PlOK p) {i : Nat} (hi : i < p.w * p.h) {b : Int} (hb : ¬ (0 ≤ b ∧ b < (p.w * p.h : Nat))) : Ans Try.prog n_ref01_weight [p.v, .int .i64 i, .int .i64 b] [] (.int .i64 0) [] := by
  have hw := hp.w; have hh := hp.h
  have hN : p.w * p.h ≤ 256 := Nat.mul_le_mul hw.2 hh.2
  have em : IntKind.i64.wrap ((p.w : Int) * p.h) = ((p.w * p.h : Nat) : Int) := by rw [w64 (by push_cast at *; omega)]; push_cast; rfl
  have em1 : IntKind.i64.wrap (((p.w * p.h : Nat) : Int) - 1) = ((p.w * p.h : Nat) : Int) - 1 := w64 (by omega)
  refine spec_run e_ref01_weight fun G => ?_
  simp only [go_sem, Pl.v, Pl.a, Pl.c4, vw, em, em1]
  refine cP (beyond_no (by omega)) ?_
  simp only [go_sem, Pl.v, Pl.a, Pl.c4, vw, em, em1]
  refine cP (beyond_yes (by omega)) ?_
  simp only [go_sem]
end Go.Proofs

