/- A part of the proof. -/
import Derived.Test.YtmpocglkfgfpbaaPE
set_option linter.unusedSimpArgs false
set_option linter.unusedVariables false
namespace Go.Proofs
open Go Go.Sx
attribute [local irreducible] Run

theorem lg_snoc (xs : List Lg) (a b : Int) : xs.map Lg.v ++ [AVal.agg [.int .i64 a, .int .i64 b]] = (xs ++ [Lg.mk a b]).map Lg.v := by
  rw [List.map_append]; rfl
theorem lgs_snoc {ls : List Lg} (h : ∀ l ∈ ls, LgOK l) {l : Lg} (hl : LgOK l) : ∀ x ∈ ls ++ [l], LgOK x := fun x hx => by
  rcases List.mem_append.1 hx with h1 | h1
  · exact h x h1
  · simp at h1; subst h1; exact hl
set_option maxHeartbeats 4000000 in
set_option maxRecDepth 10000 in
theorem oven_loop {G : Ctx} {f tk : Int} (hf : 300 ≤ f ∧ f ≤ 1200) (htk : 1 ≤ tk ∧ tk ≤ 2000) {lg : Int} {Y1 : Option Row} (hY : Y1 = some (.cells false 2 [.agg [.int .i64 0, .nilsl]])) {M : Nat} (hM : M ≤ 100) {R : AVal → Heap → Prop}
    (hR : ∀ (ls : List Lg) (w' : Int) (q : Nat) (s1 s2 : Option Row) (X : Heap), (∀ l ∈ ls, LgOK l) → 1 ≤ ls.length → ls.length ≤ M → X[q]? = some (some (.cells true 2 (ls.map Lg.v))) → R (.agg [.int .i64 f, .sl (q + 3) 0 ls.length]) (some (Dr w') :: s1 :: s2 :: X))
    {ls : List Lg} {w i : Int} {q : Nat} {X : Heap} (hz : ∀ l ∈ ls, LgOK l) (hl : 1 ≤ ls.length ∧ (ls.length : Int) + i ≤ M) (hi : 0 ≤ i) (hX : X[q]? = some (some (.cells true 2 (ls.map Lg.v)))) :
    Sx.Loop Try.prog G 1 none k_kit_OvenOf_r6 [.blk 0, .seq (.seq (.reg k_kit_OvenOf_r7 false) .ret)]
      ⟨tsets 41 [(0, .ptr 0 0 0 1), (1, .int .i64 lg), (2, .int .i64 tk), (6, .ptr 1 0 0 1), (7, .ptr 2 0 0 1), (8, .int .i64 i)], some (Dr w) :: Y1 :: some (.cells false 2 [.agg [.int .i64 f, .sl (q + 3) 0 ls.length]]) :: X, []⟩ (RetPost [.cell 6 (some (some 2))] R) := by
  subst hY
  refine loop_ind k_kit_OvenOf_r6.eq_1 (fun a : List Lg × Int × Int × Heap => (∀ l ∈ a.1, LgOK l) ∧ (1 ≤ a.1.length ∧ (a.1.length : Int) + a.2.2.1 ≤ M) ∧ 0 ≤ a.2.2.1 ∧ a.2.2.2[q]? = some (some (.cells true 2 (a.1.map Lg.v)))) (fun a => a.2.2.1.toNat)
    (fun a => (tsets 41 [(0, .ptr 0 0 0 1), (1, .int .i64 lg), (2, .int .i64 tk), (6, .ptr 1 0 0 1), (7, .ptr 2 0 0 1), (8, .int .i64 a.2.2.1)], some (Dr a.2.1) :: some (.cells false 2 [.agg [.int .i64 0, .nilsl]]) :: some (.cells false 2 [.agg [.int .i64 f, .sl (q + 3) 0 a.1.length]]) :: a.2.2.2))
    (ls, w, i, X) ⟨hz, hl, hi, hX⟩ (by simp [go_sem]) rfl ?_
  clear hz hl hi hX
  clear ls w i X
  rintro ⟨ls, w, i, X⟩ ⟨hz, hl, hi, hX⟩ ih
  dsimp only at hz hl hi hX ih ⊢
  by_cases c1 : 0 < i
  · have u1 := btw_in (w := w) (lo := 1) (hi := tk) (by omega)
    have u2 := btw_in (w := dstep w) (lo := 300) (hi := 1200) (by decide)
    have u3 := upto_in (w := dstep (dstep w)) (n := 2001) (by decide)
    have u4 := upto_in (w := dstep (dstep (dstep w))) (n := 3) (by decide)
    have k1 := between_ok w 1 tk (by decide) (by omega) (by omega)
    have k2 := between_ok (dstep w) 300 1200 (by decide) (by decide) (by decide)
    have k3 := upto_ok (dstep (dstep w)) 2001 (by decide)
    have k4 := upto_ok (dstep (dstep (dstep w))) 3 (by decide)
    obtain ⟨ht, hht, sb⟩ := sel3i _ (btw (dstep w) 300 1200) (upto (dstep (dstep w)) 2001) f u4
    have hb : 0 ≤ ht ∧ ht ≤ 2000 := by rcases hht with rfl | rfl | rfl <;> omega
    obtain ⟨t, ht1⟩ : ∃ t, btw w 1 tk = t := ⟨_, rfl⟩
    rw [ht1] at u1 k1
    have q1 : ¬ upto (dstep (dstep (dstep w))) 3 < 0 := by omega
    have hlt : q < X.length := (List.getElem?_eq_some_iff.1 hX).1
    have cX := fun Y => cells_more (cells_at hX) Y
    have pX := fun Y x => put_more (H := X) hlt Y x
    have hq : (ls.length + 1) * 16 ≤ 2 ^ 44 := by omega
    have w9 : IntKind.i64.wrap (i - 1) = i - 1 := w64 (by omega)
    have hc : Heap.cellsAt X q = some (true, 2, List.map Lg.v ls) := cells_at hX
    simp only [go_sem, c1]
    refine dD k1 ?_
    simp only [go_sem]
    refine dD k2 ?_
    simp only [go_sem]
    refine dD k3 ?_
    simp only [go_sem]
    refine ⟨by simp <;> omega, ?_⟩
    refine dD k4 ?_
    simp only [go_sem, q1, sb]
    refine ⟨u4.2, by simp <;> omega, ?_⟩
    have ez : ls.map Lg.v ++ [AVal.agg [AVal.int IntKind.i64 t, AVal.int IntKind.i64 ht]] = (ls ++ [Lg.mk t ht]).map Lg.v := lg_snoc ls t ht
    have el : ls.length + 1 = (ls ++ [Lg.mk t ht]).length := by simp
    simp only [go_sem, cX, pX, hq, w9, ez]
    rw [el]
    refine ih (ls ++ [Lg.mk t ht], _, i - 1, _) (by dsimp only; omega) ⟨lgs_snoc hz ⟨by dsimp only; omega, hb⟩, by dsimp only; rw [← el]; omega, by dsimp only; omega, ?_⟩ _ (by simp [go_sem])
    dsimp only
    rw [List.getElem?_append_left (by rw [List.length_set]; exact hlt)]
    exact List.getElem?_set_self hlt
  · simp only [go_sem, c1]
    exact hR ls w q _ _ X hz hl.1 (by omega) hX

def lgL (ls : List Lg) : List AVal := ls.map Lg.v
set_option maxHeartbeats 4000000 in
set_option maxRecDepth 10000 in
theorem ovenOf_run (w lg tk : Int) (hlg : 0 ≤ lg ∧ lg ≤ 99) (htk : 1 ≤ tk ∧ tk ≤ 2000) : AnsE Try.prog n_kit_OvenOf [.ptr 0 0 0 1, .int .i64 lg, .int .i64 tk] [some (Dr w)] (fun a : Int × List Lg × Int => (300 ≤ a.1 ∧ a.1 ≤ 1200) ∧ (a.2.1.length : Int) ≤ lg ∧ ∀ l ∈ a.2.1, LgOK l)
    (fun a => .agg [.int .i64 a.1, slv 1 (lgL a.2.1)]) (fun a => some (Dr a.2.2) :: slrG true 2 (lgL a.2.1)) := by
  refine AnsE.keep (run_fn e_kit_OvenOf fun G => ?_) (fun a ha => ?_)
  rotate_left
  · unfold slv slrG
    split
    · exact ⟨by simp, by simp [go_sem], dr_bel _ _, trivial⟩
    · refine ⟨by simp, by simp [go_sem], dr_bel _ _, by rw [row_bel_cells]; unfold lgL; simp only [go_sem], trivial⟩
  have b1 := btw_in (w := w) (lo := 300) (hi := 1200) (by decide)
  have wl : IntKind.i64.wrap (lg + 1) = lg + 1 := w64 (by omega)
  have b4 := upto_in (w := dstep w) (n := lg + 1) (by omega)
  simp only [go_sem]
  refine cD (between_ok _ 300 1200 (by decide) (by decide) (by decide)) ?_
  simp only [go_sem, wl]
  refine cD (upto_ok _ (lg + 1) (by omega)) ?_
  obtain ⟨f, hf⟩ : ∃ f, btw w 300 1200 = f := ⟨_, rfl⟩
  rw [hf] at b1 ⊢
  obtain ⟨i0, hi0⟩ : ∃ i, upto (dstep w) (lg + 1) = i := ⟨_, rfl⟩
  rw [hi0] at b4 ⊢
  obtain ⟨w0, hw0⟩ : ∃ w0, dstep (dstep w) = w0 := ⟨_, rfl⟩
  rw [hw0]
  simp only [go_sem]
  have hR : ∀ (ls : List Lg) (w' : Int) (q : Nat) (s1 s2 : Option Row) (X : Heap), (∀ l ∈ ls, LgOK l) → 1 ≤ ls.length → ls.length ≤ lg.toNat → X[q]? = some (some (.cells true 2 (ls.map Lg.v))) →
      ∃ a : Int × List Lg × Int, ((300 ≤ a.1 ∧ a.1 ≤ 1200) ∧ (a.2.1.length : Int) ≤ lg ∧ ∀ l ∈ a.2.1, LgOK l) ∧ ∃ σ, Kept [some (Dr w)] (some (Dr a.2.2) :: slrG true 2 (lgL a.2.1)) (AVal.agg [AVal.int IntKind.i64 a.1, slv 1 (lgL a.2.1)]) (.agg [.int .i64 f, .sl (q + 3) 0 ls.length]) (some (Dr w') :: s1 :: s2 :: X) σ := by
    intro ls w' q s1 s2 X hz h1 h2 hX
    have hne : lgL ls ≠ [] := fun e => by unfold lgL at e; rw [List.map_eq_nil_iff] at e; rw [e] at h1; simp at h1
    refine ⟨(f, ls, w'), ⟨b1, by dsimp only; omega, hz⟩, ?_⟩
    dsimp only
    unfold slv slrG
    rw [if_neg hne, if_neg hne]
    refine kept_two (q + 3) (by omega) (by simp [ren, rens, lgL]) (by simp only [go_sem]) (by rw [row_bel_cells]; unfold lgL; simp only [go_sem]) rfl ?_
    unfold lgL; simpa using hX
  have hnil : ∀ (w' : Int) (X : Heap), ∃ a : Int × List Lg × Int, ((300 ≤ a.1 ∧ a.1 ≤ 1200) ∧ (a.2.1.length : Int) ≤ lg ∧ ∀ l ∈ a.2.1, LgOK l) ∧ ∃ σ, Kept [some (Dr w)] (some (Dr a.2.2) :: slrG true 2 (lgL a.2.1)) (AVal.agg [AVal.int IntKind.i64 a.1, slv 1 (lgL a.2.1)]) (.agg [.int .i64 f, .nilsl]) (some (Dr w') :: X) σ := by
    intro w' X
    refine ⟨(f, [], w'), ⟨b1, by simp; omega, fun l hl => by simp at hl⟩, ?_⟩
    exact kept_id rfl (by simp [go_sem, slv, lgL]) fun i x hx => by
      rcases i with _ | i
      · cases hx; exact ⟨dr_bel _ _, rfl⟩
      · exact absurd hx (by simp [slrG, lgL])
  by_cases c1 : 0 < i0
  · refine loop_body 400 k_kit_OvenOf_r6.eq_1 ?_
    have u1 := btw_in (w := w0) (lo := 1) (hi := tk) (by omega)
    have u2 := btw_in (w := dstep w0) (lo := 300) (hi := 1200) (by decide)
    have u3 := upto_in (w := dstep (dstep w0)) (n := 2001) (by decide)
    have u4 := upto_in (w := dstep (dstep (dstep w0))) (n := 3) (by decide)
    have k1 := between_ok w0 1 tk (by decide) (by omega) (by omega)
    have k2 := between_ok (dstep w0) 300 1200 (by decide) (by decide) (by decide)
    have k3 := upto_ok (dstep (dstep w0)) 2001 (by decide)
    have k4 := upto_ok (dstep (dstep (dstep w0))) 3 (by decide)
    obtain ⟨ht, hht, sb⟩ := sel3i _ (btw (dstep w0) 300 1200) (upto (dstep (dstep w0)) 2001) f u4
    have hb : 0 ≤ ht ∧ ht ≤ 2000 := by rcases hht with rfl | rfl | rfl <;> omega
    obtain ⟨t, ht1⟩ : ∃ t, btw w0 1 tk = t := ⟨_, rfl⟩
    rw [ht1] at u1 k1
    have q1 : ¬ upto (dstep (dstep (dstep w0))) 3 < 0 := by omega
    have w9 : IntKind.i64.wrap (i0 - 1) = i0 - 1 := w64 (by omega)
    have h16 : 16 ≤ 2 ^ 44 := by decide
    simp only [go_sem, c1]
    refine dD k1 ?_
    simp only [go_sem]
    refine dD k2 ?_
    simp only [go_sem]
    refine dD k3 ?_
    simp only [go_sem]
    refine dD k4 ?_
    simp only [go_sem, q1, sb]
    refine ⟨u4.2, ?_⟩
    simp only [h16, w9, if_true]
    have ez : [AVal.agg [AVal.int IntKind.i64 t, AVal.int IntKind.i64 ht]] = [Lg.mk t ht].map Lg.v := rfl
    refine ⟨trivial, ?_⟩
    refine loop_wk ?_ (oven_loop (f := f) (tk := tk) (lg := lg) (M := lg.toNat) b1 htk rfl (by omega) hR (q := 2) (ls := [Lg.mk t ht]) (i := i0 - 1) (fun l hl => by simp at hl; subst hl; exact ⟨by dsimp only; omega, hb⟩) ⟨by simp, by simp; omega⟩ (by omega) rfl)
    simp [go_sem]
  · refine loop_body 400 k_kit_OvenOf_r6.eq_1 ?_
    simp only [go_sem, c1]
    exact hnil _ _

section
variable {P : Program} {G : Ctx} {g : FuncId} {largs args : List AVal} {H : Heap} {α : Type} {Φ : α → Prop} {k : Nat} {R : Runner} {l : List AOper} {fs : List Sx.Frame} {ρ : List AVal} {ms : List Nat} {Q : Sx.Goal} {dst : Option Nat}
theorem callDSf {x : Row} {x' : α → Row} {es : α → List AVal} {u : α → AVal} {gr : Bool} {sz j : Nat} (h : AnsE P g (.ptr 0 0 0 1 :: args) [some x] Φ (fun a => .agg [u a, slv 1 (es a)]) fun a => some (x' a) :: slrG gr sz (es a)) (hj : H[j]? = some (some x)) (hb : Bels (fun _ => False) args) (hx : x.bel (fun _ => False))
    (hwf : ∀ a, Φ a → (x' a).bel (fun _ => False) ∧ Bels (fun _ => False) (es a) ∧ Bel (fun _ => False) (u a)) (hk : k ≤ H.length) (hms : ∀ q ∈ ms, q ≠ j ∧ H[q]? = some (some .dfr))
    (hK : ∀ a, Φ a → R (.ops l) fs ⟨setD ρ dst (.agg [u a, slv H.length (es a)]), H.set j (some (x' a)) ++ slrG gr sz (es a), ms⟩ Q) : CallR P G k R g (.ptr j 0 0 1 :: args) dst l fs ρ H ms Q := by
  have hlt : j < H.length := (List.getElem?_eq_some_iff.1 hj).1
  have hargs : args.map (ren (nth [j])) = args := by
    conv => rhs; rw [← List.map_id args]
    exact List.map_congr_left fun v hv => ren_same (bels_mem hb v hv)
  have hrow : ∀ a, Φ a → Row.bel (fun _ => False) (.cells gr sz (es a)) := fun a ha => by rw [row_bel_cells]; exact (hwf a ha).2.1
  have e : ∀ a, Φ a → outΔ (outσ [j] H.length) 0 (some (x' a) :: slrG gr sz (es a)) = (j, x' a) :: if es a = [] then [] else [(H.length, .cells gr sz (es a))] := fun a ha => by
    unfold slrG
    by_cases h0 : es a = []
    · simp only [h0, if_true, outΔ, Row.ren_same (hwf a ha).1]; rfl
    · simp only [h0, if_false, outΔ, Row.ren_same (hwf a ha).1, Row.ren_same (hrow a ha)]; rfl
  refine callE h [j] (by simp) ⟨by rw [Row.ren_same hx]; exact hj, trivial⟩ (by simp only [List.map_cons, hargs]; rfl) ⟨by rw [bel_ptr]; simp, bels_of fun v hv => (bels_mem hb v hv).mono fun _ h => h.elim⟩ ⟨bel_mono_row hx fun _ h => h.elim, trivial⟩
    (fun a ha => ?_) (by simpa using hlt) hk (fun a ha q hq => ?_) fun a ha => ?_
  · refine ⟨by simp, ?_, bel_mono_row (hwf a ha).1 fun _ h => h.elim, ?_⟩
    · have hu : ∀ S : Nat → Prop, Bel S (u a) := fun S => (hwf a ha).2.2.mono fun _ h => h.elim
      unfold slv slrG
      split
      · simp only [go_sem]
        exact hu _
      · simp only [go_sem]
        first | exact hu _ | exact ⟨hu _, by simp⟩
    · unfold slrG
      split
      · trivial
      · exact ⟨bel_mono_row (hrow a ha) fun _ h => h.elim, trivial⟩
  · rw [e a ha]
    have := (List.getElem?_eq_some_iff.1 (hms q hq).2).1
    refine ⟨?_, (hms q hq).2⟩
    have h1 := (hms q hq).1
    split <;> simp [h1]
    omega
  · rw [e a ha]
    have hren : ren (outσ [j] H.length) (.agg [u a, slv 1 (es a)]) = .agg [u a, slv H.length (es a)] := by
      simp only [ren, rens, ren_same (hwf a ha).2.2]
      congr 2
      unfold slv
      split
      · rfl
      · simp [ren, outσ]
    have := hK a ha
    unfold slrG at this
    rw [hren]
    by_cases h0 : es a = []
    · simp only [h0, if_true, List.append_nil] at this ⊢
      simp only [Heap.puts, put_lt hlt]
      exact this
    · simp only [h0, if_false] at this ⊢
      have e3 : Heap.put (H.set j (some (x' a))) H.length (.cells gr sz (es a)) = H.set j (some (x' a)) ++ [some (.cells gr sz (es a))] := by
        have := Heap.put_end (H.set j (some (x' a))) (.cells gr sz (es a))
        rwa [List.length_set] at this
      simp only [Heap.puts, put_lt hlt, e3]
      exact this
end
end Go.Proofs

namespace Go.Proofs
open Go Go.Sx
attribute [local irreducible] Run

theorem floor_key (a b : Int) (hb : 1 ≤ b) : (if a.tmod b < 0 then a.tdiv b - 1 else a.tdiv b) = a / b := by
  have hb0 : b ≠ 0 := by omega
  have e1 := Int.tmod_add_mul_tdiv a b
  have e2 := Int.emod_add_mul_ediv a b
  have m1 := Int.emod_nonneg a hb0
  have m2 := Int.emod_lt_of_pos a (show 0 < b by omega)
  have m3 := Int.tmod_lt_of_pos a (show 0 < b by omega)
  have m4 := Int.lt_tmod_of_pos a (show 0 < b by omega)
  generalize a.tmod b = x at *
  generalize a % b = y at *
  generalize a.tdiv b = p at *
  generalize a / b = q at *
  have hpq : b * (p - q) = y - x := by rw [Int.mul_sub]; omega
  by_cases hx : x < 0
  · rw [if_pos hx]
    have h1 : 0 < p - q := by
      rcases Int.lt_or_le 0 (p - q) with h | h
      · exact h
      · have := Int.mul_nonpos_of_nonneg_of_nonpos (show 0 ≤ b by omega) h; omega
    have h2 : p - q < 2 := by
      rcases Int.lt_or_le (p - q) 2 with h | h
      · exact h
      · have := Int.mul_le_mul_of_nonneg_left h (show 0 ≤ b by omega); omega
    omega
  · rw [if_neg hx]
    have h1 : -1 < p - q := by
      rcases Int.lt_or_le (-1) (p - q) with h | h
      · exact h
      · have := Int.mul_le_mul_of_nonneg_left h (show 0 ≤ b by omega); omega
    have h2 : p - q < 1 := by
      rcases Int.lt_or_le (p - q) 1 with h | h
      · exact h
      · have := Int.mul_le_mul_of_nonneg_left h (show 0 ≤ b by omega); omega
    omega
theorem floor_bd (a b : Int) (ha : -2000000000000000000 ≤ a ∧ a ≤ 2000000000000000000) (hb : 1 ≤ b) : -2000000000000000000 ≤ a / b ∧ a / b ≤ 2000000000000000000 := by
  refine ⟨(Int.le_ediv_iff_mul_le (by omega)).2 ?_, ?_⟩
  · have := Int.mul_le_mul_of_nonneg_left hb (show (0 : Int) ≤ 2000000000000000000 by omega); omega
  · refine Int.ediv_le_of_le_mul (by omega) ?_
    have := Int.mul_le_mul_of_nonneg_left hb (show (0 : Int) ≤ 2000000000000000000 by omega); omega
theorem rdown_run {a b : Int} (ha : -2000000000000000000 ≤ a ∧ a ≤ 2000000000000000000) (hb : 1 ≤ b ∧ b ≤ 1000000000000) : Ans Try.prog n_ref05_Down [.int .i64 a, .int .i64 b] [] (.int .i64 (a / b)) [] := by
  have hb0 : b ≠ 0 := by omega
  have key := floor_key a b hb.1
  have bd := floor_bd a b ha hb.1
  refine spec_run e_ref05_Down fun G => ?_
  by_cases hx : a.tmod b < 0
  · rw [if_pos hx] at key
    have w1 : IntKind.i64.wrap (a.tdiv b) = a.tdiv b := w64 (by omega)
    have w2 : IntKind.i64.wrap (a.tdiv b - 1) = a / b := by rw [w64 (by omega)]; exact key
    simp only [go_sem, hb0, hx, w1, w2]
  · rw [if_neg hx] at key
    have w1 : IntKind.i64.wrap (a.tdiv b) = a / b := by rw [w64 (by omega)]; exact key
    simp only [go_sem, hb0, hx, w1]
theorem neg_floor (a b : Int) (hb : 1 ≤ b) : -(-a / b) = (a + (b - 1)) / b := by
  have e1 := Int.emod_add_mul_ediv (-a) b
  have e2 := Int.emod_add_mul_ediv (a + (b - 1)) b
  have m1 := Int.emod_nonneg (-a) (show b ≠ 0 by omega)
  have m2 := Int.emod_lt_of_pos (-a) (show 0 < b by omega)
  have m3 := Int.emod_nonneg (a + (b - 1)) (show b ≠ 0 by omega)
  have m4 := Int.emod_lt_of_pos (a + (b - 1)) (show 0 < b by omega)
  generalize -a % b = x at *
  generalize (a + (b - 1)) % b = y at *
  generalize -a / b = p at *
  generalize (a + (b - 1)) / b = q at *
  have h : b * (p + q) = b - 1 - x - y := by rw [Int.mul_add]; omega
  have h1 : p + q < 1 := by
    rcases Int.lt_or_le (p + q) 1 with h0 | h0
    · exact h0
    · have := Int.mul_le_mul_of_nonneg_left h0 (show 0 ≤ b by omega); omega
  have h2 : -1 < p + q := by
    rcases Int.lt_or_le (-1) (p + q) with h0 | h0
    · exact h0
    · have := Int.mul_le_mul_of_nonneg_left h0 (show 0 ≤ b by omega); omega
  omega
theorem rup_run {a b : Int} (ha : -2000000000000000000 ≤ a ∧ a ≤ 2000000000000000000) (hb : 1 ≤ b ∧ b ≤ 1000000000000) : Ans Try.prog n_ref05_Up [.int .i64 a, .int .i64 b] [] (.int .i64 ((a + (b - 1)) / b)) [] := by
  have k := rdown_run (a := -a) (b := b) (by omega) hb
  have bd := floor_bd (-a) b (by omega) hb.1
  have e := neg_floor a b hb.1
  have w1 : IntKind.i64.wrap (0 - a) = -a := by rw [w64 (by omega)]; omega
  have w2 : IntKind.i64.wrap (0 - (-a / b)) = (a + (b - 1)) / b := by rw [w64 (by omega)]; omega
  refine spec_run e_ref05_Up fun G => ?_
  simp only [go_sem, w1]
  refine cP k ?_
  simp only [go_sem, w2]

def hts (f : Int) (ts : List Tk) : List Int := f :: ts.map (·.t)
theorem hts_len (f : Int) (ts : List Tk) : (hts f ts).length = ts.length + 1 := by simp [hts]
theorem toAt_end {b h tk : Int} (ht : 1 ≤ tk) : toAt b h tk tk.toNat = h := by
  unfold toAt
  rw [show ((tk.toNat : Nat) : Int) = tk by omega, Int.mul_ediv_cancel _ (by omega)]; omega
theorem hts_leg {b : Int} {l : Lg} (hl : LgOK l) (n : Int) {i : Nat} (hi : i ≤ l.tk.toNat) (Y : List Tk) : (hts b (legT n b l ++ Y))[i]? = some (toAt b l.ht l.tk i) := by
  unfold hts
  cases i with
  | zero => rw [toAt_zero]; rfl
  | succ i =>
    rw [List.getElem?_cons_succ, List.map_append, List.getElem?_append_left (by rw [List.length_map, legT_len]; omega), List.getElem?_map, legT_get _ _ _ (by omega)]
    rfl
theorem hts_at : ∀ {ls : List Lg} {n b : Int}, (∀ l ∈ ls, LgOK l) → ∀ (i : Nat) (t : Tk), (allT n b ls)[i]? = some t → (hts b (allT n b ls))[i]? = some t.f
  | [], n, b, _, i, t, h => by simp [allT] at h
  | l :: r, n, b, hok, i, t, h => by
    have hl := hok l List.mem_cons_self
    rw [allT] at h ⊢
    by_cases hi : i < l.tk.toNat
    · rw [List.getElem?_append_left (by rw [legT_len]; exact hi), legT_get _ _ _ hi] at h
      cases h
      exact hts_leg hl n (Nat.le_of_lt hi) _
    · rw [List.getElem?_append_right (by rw [legT_len]; omega), legT_len] at h
      have ih := hts_at (fun x hx => hok x (List.mem_cons_of_mem _ hx)) (i - l.tk.toNat) t h
      by_cases h0 : i - l.tk.toNat = 0
      · have e : i = l.tk.toNat := by omega
        rw [h0] at ih
        simp only [hts, List.getElem?_cons_zero, Option.some.injEq] at ih
        rw [e, hts_leg hl n (Nat.le_refl _), toAt_end hl.tk.1, ih]
      · obtain ⟨j, hj⟩ : ∃ j, i - l.tk.toNat = j + 1 := ⟨i - l.tk.toNat - 1, by omega⟩
        have e : i = l.tk.toNat + j + 1 := by omega
        rw [hj] at ih
        unfold hts at ih ⊢
        rw [List.getElem?_cons_succ] at ih
        rw [e, List.getElem?_cons_succ, List.map_append, List.getElem?_append_right (by rw [List.length_map, legT_len]; omega), List.length_map, legT_len]
        rw [show l.tk.toNat + j - l.tk.toNat = j by omega]
        exact ih
theorem hts_last {f : Int} {ls : List Lg} (hok : ∀ l ∈ ls, LgOK l) : ∀ i, i ≤ ls.length → (hts f (allT 0 f (ls.take i)))[(hts f (allT 0 f (ls.take i))).length - 1]? = some (begAt f ls i)
  | 0, _ => by simp [hts, allT, begAt]
  | i + 1, h => by
    obtain ⟨z, hz⟩ : ∃ z, ls[i]? = some z := ⟨_, List.getElem?_eq_getElem (by omega)⟩
    have hzo := hok z (List.mem_of_getElem? hz)
    rw [allT_next ls 0 f i z hz]
    have hl : (legT (0 + i) (begAt f ls i) z).length = z.tk.toNat := legT_len _ _ _
    have e : (hts f (allT 0 f (ls.take i) ++ legT (0 + i) (begAt f ls i) z)).length - 1 = (allT 0 f (ls.take i)).length + (z.tk.toNat - 1) + 1 := by
      have := hzo.tk
      rw [hts_len, List.length_append, hl]; omega
    have hb : begAt f ls (i + 1) = z.ht := by simp [begAt, List.getD_eq_getElem?_getD, hz]
    rw [e, hb]
    unfold hts
    have := hzo.tk
    rw [List.getElem?_cons_succ, List.map_append, List.getElem?_append_right (by rw [List.length_map]; omega), List.length_map, Nat.add_sub_cancel_left, List.getElem?_map, legT_get _ _ _ (by omega)]
    simp only [Option.map_some, Option.some.injEq]
    rw [show z.tk.toNat - 1 + 1 = z.tk.toNat by omega]
    exact toAt_end hzo.tk.1
theorem il_snoc (l : List Int) (x : Int) : il l ++ [.int .i64 x] = il (l ++ [x]) := by simp [il]
theorem il_len (l : List Int) : (il l).length = l.length := by simp [il]
theorem allT_total {ls : List Lg} (hok : ∀ l ∈ ls, LgOK l) (n b : Int) : (allT n b ls).length ≤ 2000 * ls.length := by
  induction ls generalizing n b with
  | nil => simp [allT]
  | cons l r ih =>
    have h1 := (hok l List.mem_cons_self).tk
    have h2 := ih (fun x hx => hok x (List.mem_cons_of_mem _ hx)) (n + 1) l.ht
    rw [allT, List.length_append, legT_len, List.length_cons]; omega

def g2 (n : Nat) : Bool := decide (2 ≤ n)
theorem g2_yes {n : Nat} (h : 2 ≤ n) : g2 n = true := decide_eq_true h
def legH (l : List Int) (b : Int) (z : Lg) (k : Nat) : List Int := l ++ (List.range k).map fun j => toAt b z.ht z.tk (j + 1)
theorem legH_succ (l : List Int) (b : Int) (z : Lg) (k : Nat) : legH l b z (k + 1) = legH l b z k ++ [toAt b z.ht z.tk (k + 1)] := by
  unfold legH; rw [List.range_succ, List.map_append, ← List.append_assoc]; rfl
theorem legH_all (f : Int) (ts : List Tk) (n b : Int) (z : Lg) : legH (hts f ts) b z z.tk.toNat = hts f (ts ++ legT n b z) := by
  unfold legH hts legT
  rw [List.map_append, List.map_map, List.cons_append]; rfl
theorem legH_len (l : List Int) (b : Int) (z : Lg) (k : Nat) : (legH l b z k).length = l.length + k := by simp [legH]

set_option maxHeartbeats 4000000 in
set_option maxRecDepth 10000 in
theorem Heats_run {f : Int} {ls : List Lg} (ho : OvOK f ls) : Ans Try.prog n_ref05_Heats [ovV f ls] [] (.sl 0 0 (hts f (allT 0 f ls)).length) [some (.cells (g2 (hts f (allT 0 f ls)).length) 1 (il (hts f (allT 0 f ls))))] := by
  have ib : ∀ (g : Bool) (l : List Int) (S : Nat → Prop), (Row.cells g 1 (il l)).bel S := fun g l S => by rw [row_bel_cells]; exact bels_map _ _ fun z => by simp only [go_sem]
  refine Ans.keep (run_fn e_ref05_Heats fun G => ?_) (by simp) (by simp [go_sem]) ⟨ib _ _ _, trivial⟩
  have hlen := ho.len
  have htot := fun i => allT_total (ls := ls.take i) (fun l hl => ho.all l (List.mem_of_mem_take hl)) 0 f
  simp only [go_sem, ovV]
  refine loop_ind k_ref05_Heats_r11.eq_1 (fun a : Nat × List Int × Heap => a.1 ≤ ls.length ∧ a.2.1 = hts f (allT 0 f (ls.take a.1))) (fun a => ls.length - a.1)
    (fun a => (tsets 50 [(1, .ptr 0 0 0 1), (2, .nilsl), (3, .sl 1 0 a.2.1.length), (4, .int .i64 a.1)], some (.cells false 2 [.agg [.int .i64 f, .view (ls.map Lg.v)]]) :: some (.cells (g2 a.2.1.length) 1 (il a.2.1)) :: a.2.2)) (0, [f], []) ⟨Nat.zero_le _, by simp [hts, allT]⟩ (by simp [go_sem]) (by simp [il, g2]) ?_
  rintro ⟨i, l, X⟩ ⟨hi, hl⟩ ih
  dsimp only at hi hl ih ⊢
  by_cases h1 : i < ls.length
  · have h2 : (i : Int) < ls.length := by omega
    have n0 : ¬ (i : Int) < 0 := by omega
    obtain ⟨z, hz⟩ : ∃ z, ls[i]? = some z := ⟨_, List.getElem?_eq_getElem h1⟩
    have hzo := ho.all z (List.mem_of_getElem? hz)
    have hzt := hzo.tk
    have hzh := hzo.ht
    have hb := begAt_in ho i (by omega)
    have hlast := hts_last (f := f) ho.all i (by omega)
    rw [← hl] at hlast
    have hn := allT_next ls 0 f i z hz
    have h3 : IntKind.i64.wrap ((i : Int) + 1) = ((i + 1 : Nat) : Int) := by rw [w64 (by omega)]; rfl
    have l1 : 1 ≤ l.length := by rw [hl, hts_len]; omega
    have ll : l.length ≤ 40001 := by
      have := htot i
      have h5 : (ls.take i).length ≤ 20 := by rw [List.length_take]; omega
      rw [hl, hts_len]; omega
    obtain ⟨b, hbe⟩ : ∃ b, begAt f ls i = b := ⟨_, rfl⟩
    rw [hbe] at hb hlast hn
    have h4 : IntKind.i64.wrap ((l.length : Int) - 1) = ((l.length - 1 : Nat) : Int) := by rw [w64 (by omega)]; omega
    have h5 : ¬ ((l.length - 1 : Nat) : Int) < 0 := by omega
    have h6 : ((l.length - 1 : Nat) : Int) < l.length := by omega
    have h7 : (il l)[l.length - 1]? = some (.int .i64 b) := by unfold il; rw [List.getElem?_map, hlast]; rfl
    have h8 : l.length - 1 < l.length := by omega
    simp only [go_sem, h2, n0, hz, Lg.v, h4, h5, h6, h7, h8, il_len]
    refine ⟨by simp <;> omega, ?_⟩
    have hall := legH_all f (allT 0 f (ls.take i)) (0 + i) b z
    rw [← hn, ← hl] at hall
    have ihn := fun Y => ih (i + 1, legH l b z z.tk.toNat, Y) (by dsimp only; omega) ⟨h1, hall⟩
    clear ih
    dsimp only at ihn
    refine loop_ind k_ref05_Heats_r9.eq_1 (fun a : Nat × List Int × Heap => a.1 ≤ z.tk.toNat ∧ a.2.1 = legH l b z a.1) (fun a => z.tk.toNat - a.1)
      (fun a => (tsets 50 [(1, .ptr 0 0 0 1), (2, .nilsl), (3, .sl 1 0 a.2.1.length), (4, .int .i64 i), (5, .int .i64 b), (6, .ptr (X.length + 1 + 1) 0 0 1), (7, .int .i64 ((a.1 + 1 : Nat) : Int))],
        some (.cells false 2 [.agg [.int .i64 f, .view (ls.map Lg.v)]]) :: some (.cells (g2 a.2.1.length) 1 (il a.2.1)) :: (X ++ some (.cells false 2 [.agg [.int .i64 z.tk, .int .i64 z.ht]]) :: a.2.2))) (0, l, []) ⟨Nat.zero_le _, by simp [legH]⟩ (by simp [go_sem]) rfl ?_
    rintro ⟨k, L, Y⟩ ⟨hk, hL⟩ ih2
    dsimp only at hk hL ih2 ⊢
    have hLl := legH_len l b z k
    rw [← hL] at hLl
    by_cases h9 : k < z.tk.toNat
    · have h10 : ((k + 1 : Nat) : Int) ≤ z.tk := by omega
      have t1 := toAt_in hb hzh hzt.1 (i := k + 1) (by omega)
      have m1 : -4000000 ≤ (z.ht - b) * ((k + 1 : Nat) : Int) ∧ (z.ht - b) * ((k + 1 : Nat) : Int) ≤ 4000000 := by
        rcases Int.le_total b z.ht with c | c
        · have := mul_bd' (a := z.ht - b) (b := ((k + 1 : Nat) : Int)) (A := 2000) (B := 2000) (by omega) (by omega); omega
        · have := mul_bd' (a := b - z.ht) (b := ((k + 1 : Nat) : Int)) (A := 2000) (B := 2000) (by omega) (by omega)
          have e : (z.ht - b) * ((k + 1 : Nat) : Int) = -((b - z.ht) * ((k + 1 : Nat) : Int)) := by rw [← Int.neg_mul]; congr 1; omega
          omega
      have w1 : IntKind.i64.wrap (z.ht - b) = z.ht - b := w64 (by omega)
      have w3 : IntKind.i64.wrap ((z.ht - b) * ((k + 1 : Nat) : Int)) = (z.ht - b) * ((k + 1 : Nat) : Int) := w64 (by omega)
      have dd := rdown_run (a := (z.ht - b) * ((k + 1 : Nat) : Int)) (b := z.tk) (by omega) (by omega)
      have et : b + (z.ht - b) * ((k + 1 : Nat) : Int) / z.tk = toAt b z.ht z.tk (k + 1) := rfl
      have w4 : IntKind.i64.wrap (b + (z.ht - b) * ((k + 1 : Nat) : Int) / z.tk) = toAt b z.ht z.tk (k + 1) := by rw [et]; exact w64 (by omega)
      have w5 : IntKind.i64.wrap (((k + 1 : Nat) : Int) + 1) = ((k + 1 + 1 : Nat) : Int) := by rw [w64 (by omega)]; rfl
      have hS := legH_succ l b z k
      rw [← hL] at hS
      have e5 : il L ++ [.int .i64 (toAt b z.ht z.tk (k + 1))] = il (L ++ [toAt b z.ht z.tk (k + 1)]) := il_snoc _ _
      have q8 : (L.length + 1) * 8 ≤ 2 ^ 44 := by omega
      simp only [go_sem, h10, w1, w3]
      refine cP dd ?_
      simp only [go_sem, w4, w5, il_len, q8, e5]
      have e7 : g2 (L ++ [toAt b z.ht z.tk (k + 1)]).length = true := by apply g2_yes; rw [List.length_append, List.length_singleton]; omega
      have e8 : (L ++ [toAt b z.ht z.tk (k + 1)]).length = L.length + 1 := by rw [List.length_append, List.length_singleton]
      have ih2n := fun Y => ih2 (k + 1, L ++ [toAt b z.ht z.tk (k + 1)], Y) (by dsimp only; omega) ⟨h9, hS.symm⟩
      dsimp only at ih2n
      rw [e7, e8] at ih2n
      exact ih2n _ _ (by simp [go_sem])
    · have h10 : ¬ ((k + 1 : Nat) : Int) ≤ z.tk := by omega
      obtain rfl : k = z.tk.toNat := by omega
      subst hL
      simp only [go_sem, h10, h3]
      exact ihn _ _ (by simp [go_sem])
  · have h2 : ¬ (i : Int) < ls.length := by omega
    have e : ls.take i = ls := List.take_of_length_le (by omega)
    rw [e] at hl
    simp only [go_sem, h2]
    subst hl
    exact kept_one 1 (by simp [ren, rens]) (ib _ _ _) rfl
end Go.Proofs

namespace Go.Proofs
open Go Go.Sx
attribute [local irreducible] Run

theorem rrelaxes_run {a b : Int} (ha : 0 ≤ a ∧ a ≤ capS) (hb : 0 ≤ b ∧ b ≤ capS) {z : Zn} (hz : ZnOK z) : Ans Try.prog n_ref05_Relaxes [z.v, .int .i64 a, .int .i64 b] [] (r2 (a * z.rlo / 1000000) ((b * z.rhi + 999999) / 1000000)) [] := by
  have hr := hz.r
  have m1 := mul_bd (a := a) (b := z.rlo) (A := capS) (B := 1000000) ha (by omega)
  have m2 := mul_bd (a := b) (b := z.rhi) (A := capS) (B := 1000000) hb (by omega)
  unfold capS at m1 m2
  have w1 : IntKind.i64.wrap (a * z.rlo) = a * z.rlo := w64 (by omega)
  have w2 : IntKind.i64.wrap (b * z.rhi) = b * z.rhi := w64 (by omega)
  have k1 := rdown_run (a := a * z.rlo) (b := 1000000) (by omega) (by decide)
  have k2 := rup_run (a := b * z.rhi) (b := 1000000) (by omega) (by decide)
  simp only [Int.reduceSub] at k2
  refine spec_run e_ref05_Relaxes fun G => ?_
  simp only [go_sem, Zn.v, Zn.cs, r2, w1, w2]
  refine dP k1 ?_
  simp only [go_sem, w2]
  refine cP k2 ?_
  simp only [go_sem]
theorem radds_run {th d : Int} (hth : 1 ≤ th ∧ th ≤ 1000) (hd : 0 ≤ d ∧ d ≤ 2000) {z : Zn} (hz : ZnOK z) : Ans Try.prog n_ref05_Adds [z.v, .int .i64 th, .int .i64 d] [] (r2 (d * th * z.glo / 100) ((d * th * z.ghi + 99) / 100)) [] := by
  have hg := hz.g
  have hp := mul_bd (a := d) (b := th) (A := 2000) (B := 1000) hd (by omega)
  obtain ⟨p, hpe⟩ : ∃ p, d * th = p := ⟨_, rfl⟩
  rw [hpe] at hp ⊢
  have m1 := mul_bd (a := p) (b := z.glo) (A := 2000000) (B := 100000) (by omega) (by omega)
  have m2 := mul_bd (a := p) (b := z.ghi) (A := 2000000) (B := 100000) (by omega) (by omega)
  have w0 : IntKind.i64.wrap (d * th) = p := by rw [hpe]; exact w64 (by omega)
  have w1 : IntKind.i64.wrap (p * z.glo) = p * z.glo := w64 (by omega)
  have w2 : IntKind.i64.wrap (p * z.ghi) = p * z.ghi := w64 (by omega)
  have k1 := rdown_run (a := p * z.glo) (b := 100) (by omega) (by decide)
  have k2 := rup_run (a := p * z.ghi) (b := 100) (by omega) (by decide)
  simp only [Int.reduceSub] at k2
  refine spec_run e_ref05_Adds fun G => ?_
  simp only [go_sem, Zn.v, Zn.cs, r2, w0, w1, w2]
  refine dP k1 ?_
  simp only [go_sem, w0, w2]
  refine cP k2 ?_
  simp only [go_sem]
theorem rtick_run {z : Zn} (hz : ZnOK z) {a b th d : Int} (ha : 0 ≤ a ∧ a ≤ capS) (hb : 0 ≤ b ∧ b ≤ capS) (hth : 1 ≤ th ∧ th ≤ 1000) (hd : 0 ≤ d ∧ d ≤ 2000) :
    Ans Try.prog n_ref05_tick [z.v, r2 a b, .int .i64 th, .int .i64 d] [] (r2 (min (leastL a z + d * th * z.glo / 100) capS) (min (mostL b z + (d * th * z.ghi + 99) / 100) capS)) [] := by
  have hg := hz.g
  have k1 := radds_run hth hd hz
  have k2 := rrelaxes_run ha ha hz
  have k3 := rrelaxes_run hb hb hz
  have l1 := leastL_in ha.1 hz
  have l2 := mostL_in hb.1 hz
  have hp := mul_bd (a := d) (b := th) (A := 2000) (B := 1000) hd (by omega)
  obtain ⟨p, hpe⟩ : ∃ p, d * th = p := ⟨_, rfl⟩
  rw [hpe] at hp k1 ⊢
  have m1 := mul_bd (a := p) (b := z.glo) (A := 2000000) (B := 100000) (by omega) (by omega)
  have m2 := mul_bd (a := p) (b := z.ghi) (A := 2000000) (B := 100000) (by omega) (by omega)
  have d1 : 0 ≤ p * z.glo / 100 ∧ p * z.glo / 100 ≤ 2000000000 := by omega
  have d2 : 0 ≤ (p * z.ghi + 99) / 100 ∧ (p * z.ghi + 99) / 100 ≤ 2000000000 := by omega
  obtain ⟨u, hu⟩ : ∃ u, p * z.glo / 100 = u := ⟨_, rfl⟩
  obtain ⟨v, hv⟩ : ∃ v, (p * z.ghi + 99) / 100 = v := ⟨_, rfl⟩
  rw [hu, hv] at k1
  rw [hu] at d1 ⊢
  rw [hv] at d2 ⊢
  unfold leastL at l1 ⊢
  unfold mostL at l2 ⊢
  obtain ⟨x, hx⟩ : ∃ x, (a * z.rhi + 999999) / 1000000 = x := ⟨_, rfl⟩
  obtain ⟨y, hy⟩ : ∃ y, b * z.rlo / 1000000 = y := ⟨_, rfl⟩
  rw [hx] at k2 l1 ⊢
  rw [hy] at k3 l2 ⊢
  unfold capS at *
  have w1 : IntKind.i64.wrap (a - x) = a - x := w64 (by omega)
  have w2 : IntKind.i64.wrap (a - x + u) = a - x + u := w64 (by omega)
  have w3 : IntKind.i64.wrap (b - y) = b - y := w64 (by omega)
  have w4 : IntKind.i64.wrap (b - y + v) = b - y + v := w64 (by omega)
  have e : ∀ a : Int, (if 1099511627776 < a then 1099511627776 else a) = min a 1099511627776 := fun a => by split <;> omega
  have e1 := e (a - x + u)
  have e2 := e (b - y + v)
  simp only [r2, Zn.v, Zn.cs] at k1 k2 k3
  refine spec_run e_ref05_tick fun G => ?_
  simp only [go_sem, Zn.v, Zn.cs, r2]
  refine cP k1 ?_
  simp only [go_sem]
  refine dP k2 ?_
  simp only [go_sem, w1, w2]
  refine dP k3 ?_
  simp only [go_sem, w3, w4, e1, e2]

def sts (zs : List Zn) (th : Int) (ts : List Tk) (k : Nat) : List (Int × Int) := (List.range (k + 1)).map (stAt zs th ts)
theorem sts_len (zs : List Zn) (th : Int) (ts : List Tk) (k : Nat) : (sts zs th ts k).length = k + 1 := by simp [sts]
theorem sts_succ (zs : List Zn) (th : Int) (ts : List Tk) (k : Nat) : sts zs th ts (k + 1) = sts zs th ts k ++ [stAt zs th ts (k + 1)] := by
  unfold sts; rw [List.range_succ, List.map_append]; rfl
theorem sts_get {zs : List Zn} {th : Int} {ts : List Tk} {k i : Nat} (h : i ≤ k) : (sts zs th ts k)[i]? = some (stAt zs th ts i) := by
  unfold sts; rw [List.getElem?_map, List.getElem?_range (by omega)]; rfl
theorem rv_snoc (l : List (Int × Int)) (p : Int × Int) : l.map rv ++ [AVal.agg [.int .i64 p.1, .int .i64 p.2]] = (l ++ [p]).map rv := by
  rw [List.map_append]; rfl
theorem rvs_bel (l : List (Int × Int)) (S : Nat → Prop) : Bels S (l.map rv) = True := eq_true (bels_map _ _ fun z => by simp only [go_sem, rv, r2])

set_option maxHeartbeats 4000000 in
set_option maxRecDepth 10000 in
theorem rstrains_run {brk : Int} {zs : List Zn} (hz : ZsOK zs) {th : Int} (hth : 1 ≤ th ∧ th ≤ 1000) {f : Int} {ls : List Lg} (ho : OvOK f ls) :
    Ans Try.prog n_ref05_strains [stV brk zs, .int .i64 th, ovV f ls] [] (.sl 0 0 ((allT 0 f ls).length + 1)) [some (.cells (g2 ((allT 0 f ls).length + 1)) 2 ((sts zs th (allT 0 f ls) (allT 0 f ls).length).map rv))] := by
  have kh := Heats_run ho
  have hat := fun i t => hts_at (n := 0) (b := f) ho.all i t
  have htk := allT_ok (n := 0) ho.f ho.all
  have htot := allT_total ho.all 0 f
  have hlen := ho.len
  rw [hts_len] at kh
  obtain ⟨ts, hts'⟩ : ∃ ts, allT 0 f ls = ts := ⟨_, rfl⟩
  rw [hts'] at kh hat htk htot ⊢
  have hht : ∀ i t, ts[i]? = some t → (hts f ts)[i + 1]? = some t.t := fun i t h => by unfold hts; rw [List.getElem?_cons_succ, List.getElem?_map, h]; rfl
  have hhl := hts_len f ts
  refine Ans.keep (run_fn e_ref05_strains fun G => ?_) (by simp) (by simp [go_sem]) ⟨by rw [row_bel_cells]; simp only [rvs_bel], trivial⟩
  have ib : ∀ (g : Bool) (l : List Int) (S : Nat → Prop), (Row.cells g 1 (il l)).bel S := fun g l S => by rw [row_bel_cells]; exact bels_map _ _ fun z => by simp only [go_sem]
  simp only [ovV] at kh
  simp only [go_sem, stV, ovV]
  refine cN1 kh ?_ (hx := ib _ _ _)
  simp only [go_sem, ren, rens]
  obtain ⟨hs, hhs⟩ : ∃ hs, hts f ts = hs := ⟨_, rfl⟩
  rw [hhs] at hat hht hhl ⊢
  refine loop_ind k_ref05_strains_r8.eq_1 (fun a : Nat × Heap => a.1 ≤ ts.length) (fun a => ts.length - a.1)
    (fun a => (tsets 60 [(1, .int .i64 th), (3, .ptr 0 0 0 1), (5, .ptr 1 0 0 1), (6, .nilsl), (7, .sl 2 0 (ts.length + 1)), (8, .sl 3 0 (a.1 + 1)), (9, .int .i64 ((a.1 + 1 : Nat) : Int))],
      some (.cells false 2 [.agg [.int .i64 brk, .view (zs.map Zn.v)]]) :: some (.cells false 2 [.agg [.int .i64 f, .view (ls.map Lg.v)]]) :: some (.cells (g2 (ts.length + 1)) 1 (il hs)) :: some (.cells (g2 (a.1 + 1)) 2 ((sts zs th ts a.1).map rv)) :: a.2)) (0, []) (Nat.zero_le _) (by simp [go_sem]) (by simp [sts, stAt, rv, r2, g2]) ?_
  rintro ⟨i, X⟩ hi ih
  dsimp only at hi ih ⊢
  by_cases h1 : i < ts.length
  · have h2 : ((i + 1 : Nat) : Int) < (ts.length + 1 : Nat) := by omega
    obtain ⟨t, ht⟩ : ∃ t, ts[i]? = some t := ⟨_, List.getElem?_eq_getElem h1⟩
    have hto := htk t (List.mem_of_getElem? ht)
    have e1 : (il hs)[i + 1]? = some (.int .i64 t.t) := by unfold il; rw [List.getElem?_map, hht i t ht]; rfl
    have e2 : (il hs)[i]? = some (.int .i64 t.f) := by unfold il; rw [List.getElem?_map, hat i t ht]; rfl
    have hpi := stAt_in hz hth htk i
    have hzo := zAt_ok hz t.t
    have zo := rZoneOf_run brk hz (t := t.t) hto.t
    have hS := stAt_succ (zs := zs) (th := th) ht
    have hss := sts_succ zs th ts i
    have e3 : ((sts zs th ts i).map rv)[i]? = some (AVal.agg [.int .i64 (stAt zs th ts i).1, .int .i64 (stAt zs th ts i).2]) := by rw [List.getElem?_map, sts_get (Nat.le_refl _)]; rfl
    have f1 := hto.f
    have f2 := hto.t
    obtain ⟨d, hd⟩ : ∃ d, max (t.f - t.t) (t.t - t.f) = d := ⟨_, rfl⟩
    have kt := rtick_run hzo (a := (stAt zs th ts i).1) (b := (stAt zs th ts i).2) (th := th) (d := d) (by omega) (by omega) hth (by omega)
    have es : stepS zs th (stAt zs th ts i) t = (min (leastL (stAt zs th ts i).1 (zAt zs t.t) + d * th * (zAt zs t.t).glo / 100) capS, min (mostL (stAt zs th ts i).2 (zAt zs t.t) + (d * th * (zAt zs t.t).ghi + 99) / 100) capS) := by
      unfold stepS addL addH; rw [hd]
    rw [hS] at hss
    obtain ⟨p', hp'⟩ : ∃ p', stepS zs th (stAt zs th ts i) t = p' := ⟨_, rfl⟩
    rw [hp'] at hss es
    have es1 : min (leastL (stAt zs th ts i).1 (zAt zs t.t) + d * th * (zAt zs t.t).glo / 100) capS = p'.1 := by rw [es]
    have es2 : min (mostL (stAt zs th ts i).2 (zAt zs t.t) + (d * th * (zAt zs t.t).ghi + 99) / 100) capS = p'.2 := by rw [es]
    rw [es1, es2] at kt
    obtain ⟨p, hp⟩ : ∃ p, stAt zs th ts i = p := ⟨_, rfl⟩
    rw [hp] at kt e3
    obtain ⟨z, hze⟩ : ∃ z, zAt zs t.t = z := ⟨_, rfl⟩
    rw [hze] at kt zo
    have h5 : IntKind.i64.wrap (((i + 1 : Nat) : Int) - 1) = i := by rw [w64 (by omega)]; omega
    have h6 : (i : Int) < (ts.length + 1 : Nat) := by omega
    have h6' : i < ts.length + 1 := by omega
    have h7 : i + 1 < ts.length + 1 := by omega
    have h8 : IntKind.i64.wrap (t.t - t.f) = t.t - t.f := w64 (by omega)
    have h9 : IntKind.i64.wrap (t.f - t.t) = t.f - t.t := w64 (by omega)
    have h10 : (if t.f - t.t > t.t - t.f then t.f - t.t else t.t - t.f) = d := by rw [← hd]; split <;> omega
    have h11 : IntKind.i64.wrap (((i + 1 : Nat) : Int) + 1) = ((i + 1 + 1 : Nat) : Int) := by rw [w64 (by omega)]; rfl
    have h12 : (i : Int) < ((i + 1 : Nat) : Int) := by omega
    have h13 : i < i + 1 := by omega
    have sl := sts_len zs th ts i
    simp only [stV, Zn.v, Zn.cs, r2] at zo kt
    simp only [go_sem, h2, h5, h6, h6', h7, h8, h9, h10, e1, e2, il_len, hhl]
    refine dP zo ?_
    simp only [go_sem, h5, h12, h13, e3, sl, List.length_map]
    refine dP kt ?_
    have q16 : (i + 1 + 1) * 16 ≤ 2 ^ 44 := by omega
    have e9 : (sts zs th ts i).map rv ++ [AVal.agg [AVal.int IntKind.i64 p'.1, AVal.int IntKind.i64 p'.2]] = (sts zs th ts (i + 1)).map rv := by rw [rv_snoc, ← hss]
    have g1 : g2 (i + 1 + 1) = true := g2_yes (by omega)
    have ihn := fun Y => ih (i + 1, Y) (by dsimp only; omega) h1
    clear ih
    dsimp only at ihn
    rw [g1] at ihn
    simp only [go_sem, q16, e9, h11, sl, List.length_map]
    exact ihn _ _ (by simp [go_sem])
  · obtain rfl : i = ts.length := by omega
    have h2 : ¬ ((ts.length + 1 : Nat) : Int) < (ts.length + 1 : Nat) := by omega
    simp only [go_sem, h2, il_len, hhl]
    exact kept_one 3 (by simp [ren, rens]) (by rw [row_bel_cells]; simp only [rvs_bel]) rfl
end Go.Proofs

namespace Go.Proofs
open Go Go.Sx
attribute [local irreducible] Run

set_option maxRecDepth 10000 in
theorem rCheckOven_yes {f : Int} {ls : List Lg} (h : OvOK f ls) : Ans Try.prog n_ref05_CheckOven [ovV f ls] [] (.int .i64 0) [] := by
  have hn := h.len
  refine spec_run e_ref05_CheckOven fun G => ?_
  simp only [go_sem, ovV]
  refine cP (rbeyond_no h.f) ?_
  have n2 : ¬ (ls.length : Int) > 20 := by omega
  simp only [go_sem, n2, List.length_map]
  refine loop_ind k_ref05_CheckOven_r10.eq_1 (fun s : Nat × Heap => s.1 ≤ ls.length) (fun s => ls.length - s.1)
    (fun s => (tsets 34 [(1, .ptr 0 0 0 1), (2, .int .i64 0), (3, .int .i64 s.1)], some (.cells false 2 [.agg [.int .i64 f, .view (ls.map Lg.v)]]) :: s.2)) (0, []) (Nat.zero_le _) (by simp [go_sem]) rfl ?_
  rintro ⟨i, X⟩ hi ih
  dsimp only at hi ih ⊢
  by_cases h1 : i < ls.length
  · have h2 : (i : Int) < ls.length := by omega
    have n0 : ¬ (i : Int) < 0 := by omega
    have h3 : IntKind.i64.wrap ((i : Int) + 1) = ((i + 1 : Nat) : Int) := by rw [w64 (by omega)]; rfl
    obtain ⟨z, hzi⟩ : ∃ z, ls[i]? = some z := ⟨_, List.getElem?_eq_getElem h1⟩
    have hzo := h.all z (List.mem_of_getElem? hzi)
    have ihn := fun Y => ih (i + 1, Y) (by dsimp only; omega) h1
    clear ih
    simp only [go_sem, h2, n0, hzi, Lg.v]
    refine cP (rbeyond_no hzo.tk) ?_
    simp only [go_sem, h2, n0, hzi, Lg.v]
    refine cP (rbeyond_no hzo.ht) ?_
    simp only [go_sem, h3]
    exact ihn _ _ (by simp [go_sem])
  · have h2 : ¬ (i : Int) < ls.length := by omega
    simp only [go_sem, h2]
theorem rcheckWall_yes {brk : Int} {zs : List Zn} (h : StOK brk zs) {th : Int} (hth : 1 ≤ th ∧ th ≤ 1000) {f : Int} {ls : List Lg} (ho : OvOK f ls) : Ans Try.prog n_ref05_checkWall [stV brk zs, .int .i64 th, ovV f ls] [] (.int .i64 0) [] := by
  have k1 := rCheck_run h.brk h.zs
  have k2 := rCheckOven_yes ho
  simp only [stV, ovV] at k1 k2
  refine spec_run e_ref05_checkWall fun G => ?_
  simp only [go_sem, stV, ovV]
  refine cP k1 ?_
  simp only [go_sem]
  refine cP (rbeyond_no hth) ?_
  simp only [go_sem]
  refine cP k2 ?_
  simp only [go_sem]

def legS (zs : List Zn) (th f : Int) (ls : List Lg) (i : Nat) : Int × Int := stAt zs th (allT 0 f ls) (allT 0 f (ls.take (i + 1))).length
def legSs (zs : List Zn) (th f : Int) (ls : List Lg) (n : Nat) : List (Int × Int) := (List.range n).map (legS zs th f ls)
theorem legSs_len (zs : List Zn) (th f : Int) (ls : List Lg) (n : Nat) : (legSs zs th f ls n).length = n := by simp [legSs]
theorem legSs_succ (zs : List Zn) (th f : Int) (ls : List Lg) (n : Nat) : legSs zs th f ls (n + 1) = legSs zs th f ls n ++ [legS zs th f ls n] := by
  unfold legSs; rw [List.range_succ, List.map_append]; rfl
theorem legSs_get {zs : List Zn} {th f : Int} {ls : List Lg} {n i : Nat} (h : i < n) : (legSs zs th f ls n)[i]? = some (legS zs th f ls i) := by
  unfold legSs; rw [List.getElem?_map, List.getElem?_range h]; rfl
theorem allT_take_le (n b : Int) (ls : List Lg) (i : Nat) : (allT n b (ls.take i)).length ≤ (allT n b ls).length := by
  obtain ⟨Y, hY⟩ := allT_pre ls n b i
  rw [hY, List.length_append]; omega

set_option maxHeartbeats 4000000 in
set_option maxRecDepth 10000 in
theorem rStrain_nil {brk : Int} {zs : List Zn} (h : StOK brk zs) {th : Int} (hth : 1 ≤ th ∧ th ≤ 1000) {f : Int} (hf : 0 ≤ f ∧ f ≤ 2000) :
    Ans Try.prog n_ref05_Strain [stV brk zs, .int .i64 th, ovV f []] [] (.tup [.nilsl, .int .i64 0]) [] := by
  have ho : OvOK f [] := ⟨hf, by simp, fun l hl => by simp at hl⟩
  have k1 := rcheckWall_yes h hth ho
  have k2 := rstrains_run (brk := brk) h.zs hth ho
  simp only [stV, ovV] at k1 k2
  refine spec_run e_ref05_Strain fun G => ?_
  simp only [go_sem, stV, ovV]
  refine cP k1 ?_
  simp only [go_sem]
  refine cN1 k2 ?_ (hx := by rw [row_bel_cells]; simp only [rvs_bel])
  simp only [go_sem, ren, rens]
  refine loop_body 400 k_ref05_Strain_r12.eq_1 ?_
  simp only [go_sem]

set_option maxHeartbeats 4000000 in
set_option maxRecDepth 10000 in
theorem rStrain_run {brk : Int} {zs : List Zn} (h : StOK brk zs) {th : Int} (hth : 1 ≤ th ∧ th ≤ 1000) {f : Int} {ls : List Lg} (ho : OvOK f ls) (hne : ls ≠ []) :
    Ans Try.prog n_ref05_Strain [stV brk zs, .int .i64 th, ovV f ls] [] (.tup [.sl 0 0 ls.length, .int .i64 0]) [some (.cells true 2 ((legSs zs th f ls ls.length).map rv))] := by
  have k1 := rcheckWall_yes h hth ho
  have k2 := rstrains_run (brk := brk) h.zs hth ho
  have hlen := ho.len
  have htot := allT_total ho.all 0 f
  have htk := fun i => allT_take_le 0 f ls i
  have hln := fun i z (hz : ls[i]? = some z) => allT_len (n := 0) (b := f) hz
  have hgl : ∀ i, legS zs th f ls i = stAt zs th (allT 0 f ls) (allT 0 f (ls.take (i + 1))).length := fun i => rfl
  obtain ⟨ts, hts'⟩ : ∃ ts, allT 0 f ls = ts := ⟨_, rfl⟩
  rw [hts'] at k2 htot htk hgl
  have hsg := fun i (hi : i ≤ ts.length) => sts_get (zs := zs) (th := th) (ts := ts) hi
  have hsl := sts_len zs th ts ts.length
  obtain ⟨S, hS⟩ : ∃ S, sts zs th ts ts.length = S := ⟨_, rfl⟩
  rw [hS] at k2 hsg hsl
  simp only [stV, ovV] at k1 k2
  refine Ans.keep (run_fn e_ref05_Strain fun G => ?_) (by simp) (by simp [go_sem]) ⟨by rw [row_bel_cells]; simp only [rvs_bel], trivial⟩
  simp only [go_sem, stV, ovV]
  refine cP k1 ?_
  simp only [go_sem]
  refine cN1 k2 ?_ (hx := by rw [row_bel_cells]; simp only [rvs_bel])
  simp only [go_sem, ren, rens]
  obtain ⟨z0, hz0⟩ : ∃ z, ls[0]? = some z := by
    cases ls with
    | nil => exact absurd rfl hne
    | cons a r => exact ⟨a, rfl⟩
  have h0 : 0 < ls.length := (List.getElem?_eq_some_iff.1 hz0).1
  have h0' : (0 : Int) < ls.length := by omega
  have t0 := (ho.all z0 (List.mem_of_getElem? hz0)).tk
  have l0 := hln 0 z0 hz0
  have hl00 : (allT 0 f (ls.take 0)).length = 0 := by simp [allT]
  rw [hl00] at l0
  simp only [Nat.zero_add] at l0
  have b0 := htk 1
  have w0 : IntKind.i64.wrap (0 + z0.tk) = z0.tk := by rw [Int.zero_add]; exact w64 (by omega)
  have s0 : (S.map rv)[z0.tk.toNat]? = some (AVal.agg [.int .i64 (legS zs th f ls 0).1, .int .i64 (legS zs th f ls 0).2]) := by
    rw [List.getElem?_map, hsg _ (by omega), hgl]; simp only [Nat.zero_add, l0]; rfl
  refine loop_body 400 k_ref05_Strain_r12.eq_1 ?_
  have z0n : ¬ z0.tk < 0 := by omega
  have z0l : z0.tk < ((ts.length + 1 : Nat) : Int) := by omega
  have z0m : z0.tk.toNat < ts.length + 1 := by omega
  have w1 : IntKind.i64.wrap 1 = 1 := by decide
  have w2 : IntKind.i64.wrap z0.tk = z0.tk := w64 (by omega)
  have q16 : 16 ≤ 2 ^ 44 := by decide
  simp only [go_sem, h0', hz0, Lg.v, w0, w1, w2, z0n, z0l, z0m, s0, hsl, List.length_map, q16]
  obtain ⟨Y3, hY3⟩ : ∃ Y, some (Row.cells false 2 [AVal.agg [AVal.int IntKind.i64 (legS zs th f ls 0).1, AVal.int IntKind.i64 (legS zs th f ls 0).2]]) = Y := ⟨_, rfl⟩
  rw [hY3]
  have ez : [AVal.agg [AVal.int IntKind.i64 (legS zs th f ls 0).1, AVal.int IntKind.i64 (legS zs th f ls 0).2]] = (legSs zs th f ls 1).map rv := rfl
  have e11 : z0.tk = ((allT 0 f (ls.take 1)).length : Int) := by omega
  refine loop_ind k_ref05_Strain_r12.eq_1 (fun a : Nat × Heap => a.1 < ls.length) (fun a => ls.length - a.1)
    (fun a => (tsets 47 [(3, .ptr 0 0 0 1), (5, .ptr 1 0 0 1), (6, .nilsl), (7, .int .i64 0), (9, .sl 2 0 (ts.length + 1)), (10, .sl 4 0 (a.1 + 1)), (11, .int .i64 ((allT 0 f (ls.take (a.1 + 1))).length : Nat)), (12, .int .i64 ((a.1 + 1 : Nat) : Int))],
      some (.cells false 2 [.agg [.int .i64 brk, .view (zs.map Zn.v)]]) :: some (.cells false 2 [.agg [.int .i64 f, .view (ls.map Lg.v)]]) :: some (.cells (g2 (ts.length + 1)) 2 (S.map rv)) :: Y3 :: some (.cells true 2 ((legSs zs th f ls (a.1 + 1)).map rv)) :: a.2)) (0, []) h0 (by rw [e11]; simp [go_sem]) (by rw [ez]) ?_
  rintro ⟨i, X⟩ hi ih
  dsimp only at hi ih ⊢
  have bi := htk (i + 1)
  have sl := legSs_len zs th f ls (i + 1)
  by_cases h1 : i + 1 < ls.length
  · have h2 : ((i + 1 : Nat) : Int) < ls.length := by omega
    obtain ⟨z, hz⟩ : ∃ z, ls[i + 1]? = some z := ⟨_, List.getElem?_eq_getElem h1⟩
    have hzt := (ho.all z (List.mem_of_getElem? hz)).tk
    have hs := hln (i + 1) z hz
    have b2 := htk (i + 1 + 1)
    have ihn := fun Y => ih (i + 1, Y) (by dsimp only; omega) h1
    clear ih
    dsimp only at ihn
    rw [legSs_succ zs th f ls (i + 1), List.map_append] at ihn
    have s2 := hsg _ b2
    rw [← hgl] at s2
    have s3 : (S.map rv)[(allT 0 f (ls.take (i + 1 + 1))).length]? = some (AVal.agg [.int .i64 (legS zs th f ls (i + 1)).1, .int .i64 (legS zs th f ls (i + 1)).2]) := by rw [List.getElem?_map, s2]; rfl
    obtain ⟨A, hA⟩ : ∃ A, (allT 0 f (ls.take (i + 1))).length = A := ⟨_, rfl⟩
    obtain ⟨B, hB⟩ : ∃ A, (allT 0 f (ls.take (i + 1 + 1))).length = A := ⟨_, rfl⟩
    rw [hA, hB] at hs
    rw [hB] at s3 b2 ihn
    rw [hA] at bi
    rw [hA]
    have w3 : IntKind.i64.wrap ((A : Int) + z.tk) = B := by rw [w64 (by omega)]; omega
    have w4 : IntKind.i64.wrap (((i + 1 : Nat) : Int) + 1) = ((i + 1 + 1 : Nat) : Int) := by rw [w64 (by omega)]; rfl
    have c1 : (B : Int) < ((ts.length + 1 : Nat) : Int) := by omega
    have c2 : B < ts.length + 1 := by omega
    have q2 : (i + 1 + 1) * 16 ≤ 2 ^ 44 := by omega
    simp only [go_sem, h2, hz, Lg.v, w3, w4, c1, c2, s3, hsl, sl, List.length_map, q2]
    exact ihn _ _ (by simp [go_sem])
  · have h2 : ¬ ((i + 1 : Nat) : Int) < ls.length := by omega
    have e : i + 1 = ls.length := by omega
    simp only [go_sem, h2, e]
    exact kept_one 4 (by simp [ren, rens]) (by rw [row_bel_cells]; simp only [rvs_bel]) rfl
end Go.Proofs

namespace Go.Proofs
open Go Go.Sx
attribute [local irreducible] Run

theorem allT_sum : ∀ (ls : List Lg) (n b : Int) (i : Nat) (l : Lg), ls[i]? = some l → 1 ≤ l.tk → ((allT n b (ls.take (i + 1))).length : Int) = (allT n b (ls.take i)).length + l.tk := fun ls n b i l h h1 => by
  rw [allT_len h]; omega
set_option maxRecDepth 10000 in
theorem ticksOf_run {f : Int} {ls : List Lg} (ho : OvOK f ls) : Ans Try.prog n_glass_ticksOf [ovV f ls] [] (.int .i64 (allT 0 f ls).length) [] := by
  have hn := ho.len
  have htot := fun i => allT_total (ls := ls.take i) (fun l hl => ho.all l (List.mem_of_mem_take hl)) 0 f
  refine spec_run e_glass_ticksOf fun G => ?_
  simp only [go_sem, ovV]
  refine loop_ind k_glass_ticksOf_r7.eq_1 (fun s : Nat × Heap => s.1 ≤ ls.length) (fun s => ls.length - s.1)
    (fun s => (tsets 19 [(2, .int .i64 0), (3, .int .i64 (allT 0 f (ls.take s.1)).length), (7, .view (ls.map Lg.v)), (8, .int .i64 ls.length), (9, .int .i64 s.1)], some (.cells false 2 [.agg [.int .i64 f, .view (ls.map Lg.v)]]) :: s.2)) (0, []) (Nat.zero_le _) (by simp [go_sem, allT]) rfl ?_
  rintro ⟨i, X⟩ hi ih
  dsimp only at hi ih ⊢
  by_cases h1 : i < ls.length
  · have h2 : (i : Int) < ls.length := by omega
    have n0 : ¬ (i : Int) < 0 := by omega
    have h3 : IntKind.i64.wrap ((i : Int) + 1) = ((i + 1 : Nat) : Int) := by rw [w64 (by omega)]; rfl
    obtain ⟨z, hzi⟩ : ∃ z, ls[i]? = some z := ⟨_, List.getElem?_eq_getElem h1⟩
    have hzo := ho.all z (List.mem_of_getElem? hzi)
    have hzt := hzo.tk
    have hs := allT_sum ls 0 f i z hzi hzt.1
    have ht := htot i
    have ht' : (ls.take i).length ≤ 20 := by rw [List.length_take]; omega
    have ihn := fun Y => ih (i + 1, Y) (by dsimp only; omega) h1
    clear ih
    dsimp only at ihn
    rw [hs] at ihn
    obtain ⟨A, hA⟩ : ∃ A, (allT 0 f (ls.take i)).length = A := ⟨_, rfl⟩
    rw [hA] at ihn ht ⊢
    have w1 : IntKind.i64.wrap ((A : Int) + z.tk) = A + z.tk := w64 (by omega)
    simp only [go_sem, h2, n0, hzi, Lg.v, w1, h3]
    exact ihn _ _ (by simp [go_sem])
  · have h2 : ¬ (i : Int) < ls.length := by omega
    have e : ls.take i = ls := List.take_of_length_le (by omega)
    simp only [go_sem, h2, e]

def limA (brk left : Int) (N i : Nat) : Int := if i + 1 = N then min brk left else brk
structure LBody (G : Ctx) (brk : Int) (zs : List Zn) (th f left : Int) (ls : List Lg) (r jo jw jl N : Nat) (Pre : Nat → Heap → Prop) (Stop : Heap → Prop) : Prop where
  row : ∀ i H, Pre i H → N ≤ H.length ∧ H[jo]? = some (some (.cells false 2 [ovV f ls])) ∧ H[jw]? = some (some (.cells false 3 [wlV brk zs th])) ∧ H[jl]? = some (some (.cells false 1 [.int .i64 left]))
  grow : ∀ i H x, Pre i H → Pre i (H ++ [x])
  set : ∀ i H q x, N ≤ q → Pre i H → Pre i (H.set q x)
  halt : ∀ H q x, N ≤ q → Stop H → Stop (H.set q x)
  round : ∀ (i : Nat) H, i < (allT 0 f ls).length → Pre i H → RoundW Try.prog G r [.int .i64 ((i + 1 : Nat) : Int), m3 (stAt zs th (allT 0 f ls) (i + 1)).1 (stAt zs th (allT 0 f ls) (i + 1)).2 (limA brk left (allT 0 f ls).length i)] H fun v H' =>
    (H.length ≤ H'.length ∧ ∀ q, N ≤ q → q < H.length → H'[q]? = H[q]?) ∧ ((v = .bool true ∧ Pre (i + 1) H') ∨ (v = .bool false ∧ Stop H'))

def liT (m jw jl : Nat) : List (Nat × AVal) := [(2, .ptr jw 0 0 1), (3, .ptr jl 0 0 1), (4, .ptr m 0 0 1), (5, .ptr (m + 1) 0 0 1), (6, .ptr (m + 2) 0 0 1), (14, .fn (.func n_glass_wall_strains_1) [] [.ptr (m + 4) 0 0 1, .ptr (m + 3) 0 0 1])]
def liL (m jw jl : Nat) (st : LoopState) (pe : Option ACode) : Row := .loop (tsets 37 (liT m jw jl)) [15, 16] k_glass_wall_limited_1_r9 k_glass_wall_limited_1_r10 (m + 5) st pe
structure LiH (brk : Int) (zs : List Zn) (th f : Int) (ls : List Lg) (n N : Nat) (r m : Nat) (lr : Row) (J : Heap) : Prop where
  len : m + 7 ≤ J.length
  y : J[m]? = some (some (.cells false 1 [.yfn r]))
  n : J[m + 1]? = some (some (.cells false 1 [.int .i64 n]))
  t : J[m + 2]? = some (some (.cells false 1 [.int .i64 N]))
  w : J[m + 3]? = some (some (.cells false 3 [wlV brk zs th]))
  o : J[m + 4]? = some (some (.cells false 2 [ovV f ls]))
  d : J[m + 5]? = some (some .dfr)
  l : J[m + 6]? = some (some lr)
section
variable {brk : Int} {zs : List Zn} {th f : Int} {ls : List Lg} {n N r m : Nat} {lr : Row} {J K : Heap}
theorem LiH.mono (h : LiH brk zs th f ls n N r m lr J) (hl : J.length ≤ K.length) (hk : ∀ q, m ≤ q → q < J.length → K[q]? = J[q]?) : LiH brk zs th f ls n N r m lr K :=
  have h1 := h.len
  ⟨by omega, by rw [hk _ (by omega) (by omega)]; exact h.y, by rw [hk _ (by omega) (by omega)]; exact h.n, by rw [hk _ (by omega) (by omega)]; exact h.t, by rw [hk _ (by omega) (by omega)]; exact h.w, by rw [hk _ (by omega) (by omega)]; exact h.o,
    by rw [hk _ (by omega) (by omega)]; exact h.d, by rw [hk _ (by omega) (by omega)]; exact h.l⟩
theorem LiH.off (h : LiH brk zs th f ls n N r m lr J) {q : Nat} (hq : m + 7 ≤ q) (x : Option Row) : LiH brk zs th f ls n N r m lr (J.set q x) :=
  ⟨by rw [List.length_set]; exact h.len, by rw [List.getElem?_set_ne (by omega)]; exact h.y, by rw [List.getElem?_set_ne (by omega)]; exact h.n, by rw [List.getElem?_set_ne (by omega)]; exact h.t, by rw [List.getElem?_set_ne (by omega)]; exact h.w, by rw [List.getElem?_set_ne (by omega)]; exact h.o,
    by rw [List.getElem?_set_ne (by omega)]; exact h.d, by rw [List.getElem?_set_ne (by omega)]; exact h.l⟩
theorem LiH.setN (h : LiH brk zs th f ls n N r m lr J) (n' : Nat) : LiH brk zs th f ls n' N r m lr (J.set (m + 1) (some (.cells false 1 [.int .i64 n']))) :=
  have h1 := h.len
  ⟨by rw [List.length_set]; exact h.len, by rw [List.getElem?_set_ne (by omega)]; exact h.y, List.getElem?_set_self (by omega), by rw [List.getElem?_set_ne (by omega)]; exact h.t, by rw [List.getElem?_set_ne (by omega)]; exact h.w, by rw [List.getElem?_set_ne (by omega)]; exact h.o,
    by rw [List.getElem?_set_ne (by omega)]; exact h.d, by rw [List.getElem?_set_ne (by omega)]; exact h.l⟩
theorem LiH.setL (h : LiH brk zs th f ls n N r m lr J) (x : Row) : LiH brk zs th f ls n N r m x (J.set (m + 6) (some x)) :=
  have h1 := h.len
  ⟨by rw [List.length_set]; exact h.len, by rw [List.getElem?_set_ne (by omega)]; exact h.y, by rw [List.getElem?_set_ne (by omega)]; exact h.n, by rw [List.getElem?_set_ne (by omega)]; exact h.t, by rw [List.getElem?_set_ne (by omega)]; exact h.w, by rw [List.getElem?_set_ne (by omega)]; exact h.o,
    by rw [List.getElem?_set_ne (by omega)]; exact h.d, List.getElem?_set_self (by omega)⟩
end

set_option maxHeartbeats 8000000 in
set_option maxRecDepth 10000 in
theorem limited_iter {G : Ctx} {brk : Int} {zs : List Zn} (hz : ZsOK zs) {th : Int} (hth : 1 ≤ th ∧ th ≤ 1000) {f left : Int} {ls : List Lg} (ho : OvOK f ls) {r jo jw jl N : Nat} {Pre : Nat → Heap → Prop} {Stop : Heap → Prop} (hB : LBody G brk zs th f left ls r jo jw jl N Pre Stop) {H0 : Heap} (h0 : Pre 0 H0) :
    CallW Try.prog G n_glass_wall_limited_1 [.yfn r, .ptr jo 0 0 1, .ptr jw 0 0 1, .ptr jl 0 0 1] H0 fun v H' => v = .tup [] ∧ (Pre (allT 0 f ls).length H' ∨ Stop H') := by
  obtain ⟨hN, hjo, hjw, hjl⟩ := hB.row 0 H0 h0
  have co := fun Y => cells_more (cells_at hjo) Y
  have cw := fun Y => cells_more (cells_at hjw) Y
  simp only [ovV] at co
  simp only [wlV] at cw
  have htot := allT_total ho.all 0 f
  have hlen := ho.len
  have gt := ticksOf_run ho
  have gs := wstrains_run brk zs th f ls
  simp only [ovV, wlV] at gt gs
  have hrd := hB.round
  obtain ⟨T, hT⟩ : ∃ T, (allT 0 f ls).length = T := ⟨_, rfl⟩
  rw [hT] at gt htot hrd
  refine callW_run 3000 e_glass_wall_limited_1 ?_
  simp only [go_sem, co]
  refine cP gt ?_
  generalize hm : H0.length = m at *
  simp only [go_sem, co, cw]
  refine cN2 gs ?_ (hk := by simp; omega)
  simp only [go_sem, ren, rens, hm]
  obtain ⟨D0, hD0⟩ : ∃ D : Heap, D = [some (Row.cells false 1 [AVal.yfn r]), some (Row.cells false 1 [AVal.int IntKind.i64 0]), some (Row.cells false 1 [AVal.int IntKind.i64 T]), some (Row.cells false 3 [AVal.agg [AVal.int IntKind.i64 brk, AVal.view (List.map Zn.v zs), AVal.int IntKind.i64 th]]), some (Row.cells false 2 [AVal.agg [AVal.int IntKind.i64 f, AVal.view (List.map Lg.v ls)]])] := ⟨_, rfl⟩
  rw [← hD0]
  have hl0 : (H0 ++ D0).length = m + 5 := by simp [hm, hD0]
  have hL : Pre 0 (H0 ++ D0 ++ [some .dfr] ++ [some (liL m jw jl .ready none)]) := by
    have := hB.grow _ _ (some (liL m jw jl .ready none)) (hB.grow _ _ (some .dfr) (hB.grow _ _ (some (Row.cells false 2 [AVal.agg [AVal.int IntKind.i64 f, AVal.view (List.map Lg.v ls)]])) (hB.grow _ _ (some (Row.cells false 3 [AVal.agg [AVal.int IntKind.i64 brk, AVal.view (List.map Zn.v zs), AVal.int IntKind.i64 th]])) (hB.grow _ _ (some (Row.cells false 1 [AVal.int IntKind.i64 T])) (hB.grow _ _ (some (Row.cells false 1 [AVal.int IntKind.i64 0])) (hB.grow _ _ (some (Row.cells false 1 [AVal.yfn r])) h0))))))
    rw [hD0]
    simpa using this
  have hLi : LiH brk zs th f ls 0 T r m (liL m jw jl .ready none) (H0 ++ D0 ++ [some .dfr] ++ [some (liL m jw jl .ready none)]) := by
    have ea : H0 ++ D0 ++ [some .dfr] ++ [some (liL m jw jl .ready none)] = H0 ++ (D0 ++ [some .dfr, some (liL m jw jl .ready none)]) := by simp
    rw [ea]
    have new : ∀ (j : Nat) (Y : Heap), (H0 ++ Y)[m + j]? = Y[j]? := fun j Y => by
      rw [List.getElem?_append_right (by omega), hm, Nat.add_sub_cancel_left]
    subst hD0
    exact ⟨by simp [hm], by have := new 0; rw [Nat.add_zero] at this; rw [this]; rfl, by rw [new 1]; rfl, by rw [new 2]; rfl, by rw [new 3]; rfl, by rw [new 4]; rfl, by rw [new 5]; rfl, by rw [new 6]; rfl⟩
  have hit : CallW Try.prog G n_glass_wall_strains_1 [.yfn (m + 6), .ptr (m + 4) 0 0 1, .ptr (m + 3) 0 0 1] (H0 ++ D0 ++ [some .dfr] ++ [some (liL m jw jl .ready none)]) fun v J => v = .tup [] ∧
      ((Pre (allT 0 f ls).length J ∧ LiH brk zs th f ls (allT 0 f ls).length T r m (liL m jw jl .ready none) J) ∨ Stop J ∧ ∃ n, LiH brk zs th f ls n T r m (liL m jw jl .done (some .ret)) J) := by
    refine strains_iter (r := m + 6) (jo := m + 4) (jw := m + 3) (N := m + 7) (brk := brk) hz hth ho
      (Pre := fun i J => Pre i J ∧ LiH brk zs th f ls i T r m (liL m jw jl .ready none) J)
      (Stop := fun J => Stop J ∧ ∃ n, LiH brk zs th f ls n T r m (liL m jw jl .done (some .ret)) J) ⟨?_, ?_, ?_, ?_, ?_⟩ ⟨hL, hLi⟩
    · rintro i J ⟨_, h⟩
      exact ⟨h.len, h.o, h.w⟩
    · rintro i J x ⟨h3, h4⟩
      exact ⟨hB.grow _ _ _ h3, h4.mono (by simp) fun q _ hq => List.getElem?_append_left hq⟩
    · rintro i J q x hq ⟨h3, h4⟩
      exact ⟨hB.set _ _ _ _ (by omega) h3, h4.off hq x⟩
    · rintro J q x hq ⟨h3, n, h4⟩
      exact ⟨hB.halt _ _ _ (by omega) h3, n, h4.off hq x⟩
    · rintro i t J hi ⟨hp3, hd⟩
      have hiT : i < T := by rw [← hT]; exact (List.getElem?_eq_some_iff.1 hi).1
      have hrd := hrd i
      have hdl := hd.len
      obtain ⟨p, hp⟩ : ∃ p, stAt zs th (allT 0 f ls) (i + 1) = p := ⟨_, rfl⟩
      rw [hp] at hrd ⊢
      obtain ⟨lo, hv⟩ := p
      dsimp only at hrd ⊢
      refine RoundW.mono (R := fun v J' => ((v = .bool true ∧ Pre (i + 1) J' ∧ LiH brk zs th f ls (i + 1) T r m (liL m jw jl .ready none) J') ∨ (v = .bool false ∧ Stop J' ∧ ∃ n, LiH brk zs th f ls n T r m (liL m jw jl .done (some .ret)) J')) ∧ J.length ≤ J'.length ∧ ∀ q, m + 7 ≤ q → q < J.length → J'[q]? = J[q]?) ?_ ?_
      rotate_left
      · rintro v J' ⟨h3, h4⟩
        exact ⟨h4, h3⟩
      generalize hR : (fun (v : AVal) (J' : Heap) => ((v = .bool true ∧ Pre (i + 1) J' ∧ LiH brk zs th f ls (i + 1) T r m (liL m jw jl .ready none) J') ∨ (v = .bool false ∧ Stop J' ∧ ∃ n, LiH brk zs th f ls n T r m (liL m jw jl .done (some .ret)) J')) ∧ J.length ≤ J'.length ∧ ∀ q, m + 7 ≤ q → q < J.length → J'[q]? = J[q]?) = R
      have hon : ∀ J', Pre (i + 1) J' → LiH brk zs th f ls (i + 1) T r m (liL m jw jl .ready none) J' → J.length ≤ J'.length → (∀ q, m + 7 ≤ q → q < J.length → J'[q]? = J[q]?) → R (.bool true) J' := fun J' a1 a2 a3 a4 => by rw [← hR]; exact ⟨.inl ⟨rfl, a1, a2⟩, a3, a4⟩
      have hoff : ∀ J' n, Stop J' → LiH brk zs th f ls n T r m (liL m jw jl .done (some .ret)) J' → J.length ≤ J'.length → (∀ q, m + 7 ≤ q → q < J.length → J'[q]? = J[q]?) → R (.bool false) J' := fun J' n a1 a2 a3 a4 => by rw [← hR]; exact ⟨.inr ⟨rfl, a1, n, a2⟩, a3, a4⟩
      clear hR
      refine roundW_run 500 k_glass_wall_limited_1_r9.eq_1 hd.l rfl (ρ' := tsets 37 (liT m jw jl ++ [(15, .int .i64 t.n), (16, r2 lo hv)])) rfl ?_
      simp only [go_sem, liT, r2, put_at_end]
      have hp1 := hB.grow _ _ (some (Row.cells false 2 [AVal.agg [AVal.int IntKind.i64 lo, AVal.int IntKind.i64 hv]])) hp3
      have hd1 := hd.mono (K := J ++ [some (Row.cells false 2 [AVal.agg [AVal.int IntKind.i64 lo, AVal.int IntKind.i64 hv]])]) (by simp) fun q _ hq => List.getElem?_append_left hq
      obtain ⟨q, hq⟩ : ∃ q, J.length = q := ⟨_, rfl⟩
      have hl1 : (J ++ [some (Row.cells false 2 [AVal.agg [AVal.int IntKind.i64 lo, AVal.int IntKind.i64 hv]])]).length = q + 1 := by simp [hq]
      have hb1 : (J ++ [some (Row.cells false 2 [AVal.agg [AVal.int IntKind.i64 lo, AVal.int IntKind.i64 hv]])])[q]? = some (some (Row.cells false 2 [AVal.agg [AVal.int IntKind.i64 lo, AVal.int IntKind.i64 hv]])) := by rw [← hq]; exact get_end _ _
      have ho1 : ∀ x, m + 7 ≤ x → x < q → (J ++ [some (Row.cells false 2 [AVal.agg [AVal.int IntKind.i64 lo, AVal.int IntKind.i64 hv]])])[x]? = J[x]? := fun x _ hx => List.getElem?_append_left (by omega)
      generalize (J ++ [some (Row.cells false 2 [AVal.agg [AVal.int IntKind.i64 lo, AVal.int IntKind.i64 hv]])] : Heap) = L at *
      rw [hq]
      have hlt : m + 6 < L.length := by omega
      refine roundMid_run 500 k_glass_wall_limited_1_r10.eq_1 hd1.l (put_lt hlt) ?_
      have hp2 := hB.set _ _ (m + 6) (some (liL m jw jl .busy none)) (by omega) hp1
      have hd2 := hd1.setL (liL m jw jl .busy none)
      have hl2 : (L.set (m + 6) (some (liL m jw jl .busy none))).length = q + 1 := by rw [List.length_set]; exact hl1
      have ho2 : ∀ x, m + 7 ≤ x → x < q → (L.set (m + 6) (some (liL m jw jl .busy none)))[x]? = J[x]? := fun x hx hxq => by rw [List.getElem?_set_ne (by omega)]; exact ho1 x hx hxq
      have hb2 : (L.set (m + 6) (some (liL m jw jl .busy none)))[q]? = _ := (List.getElem?_set_ne (by omega)).trans hb1
      simp only [liL, liT] at hp2 hd2 hb2 hl2 ho2 ⊢
      generalize hM : (L.set (m + 6) _ : Heap) = M at hp2 hd2 hb2 hl2 ho2 ⊢
      clear hM hp1 hd1 hb1 hl1 ho1
      have w1 : IntKind.i64.wrap ((i : Int) + 1) = ((i + 1 : Nat) : Int) := by rw [w64 (by omega)]; rfl
      have cn := cells_at hd2.n
      have hput := fun x => put_lt (H := M) (x := x) (j := m + 1) (by omega)
      have hp3 := hB.set _ _ (m + 1) (some (Row.cells false 1 [AVal.int IntKind.i64 ((i + 1 : Nat) : Int)])) (by omega) hp2
      have hd3 := hd2.setN (i + 1)
      have hl3 : (M.set (m + 1) (some (Row.cells false 1 [AVal.int IntKind.i64 ((i + 1 : Nat) : Int)]))).length = q + 1 := by rw [List.length_set]; exact hl2
      have ho3 : ∀ x, m + 7 ≤ x → x < q → (M.set (m + 1) (some (Row.cells false 1 [AVal.int IntKind.i64 ((i + 1 : Nat) : Int)])))[x]? = J[x]? := fun x hx hxq => by rw [List.getElem?_set_ne (by omega)]; exact ho2 x hx hxq
      have hb3 : (M.set (m + 1) (some (Row.cells false 1 [AVal.int IntKind.i64 ((i + 1 : Nat) : Int)])))[q]? = _ := (List.getElem?_set_ne (by omega)).trans hb2
      generalize hK : (M.set (m + 1) (some (Row.cells false 1 [AVal.int IntKind.i64 ((i + 1 : Nat) : Int)])) : Heap) = K at hp3 hd3 hl3 ho3 hb3
      obtain ⟨_, _, hkw, hkl⟩ := hB.row _ _ hp3
      have cw3 := cells_at hkw
      have cr3 := cells_at hb3
      simp only [wlV] at cw3
      have cy := fun Y => cells_more (cells_at hd3.y) Y
      have cn3 := fun Y => cells_more (cells_at hd3.n) Y
      have ct := fun Y => cells_more (cells_at hd3.t) Y
      have cl := fun Y => cells_more (cells_at hkl) Y
      have hlim : limA brk left T i = if i + 1 = T then min brk left else brk := rfl
      rw [hlim] at hrd
      by_cases cT : i + 1 = T
      · have eT : (((i + 1 : Nat) : Int) == (T : Int)) = true := by rw [cT]; simp
        rw [if_pos cT] at hrd
        have emin : (if left < brk then left else brk) = min brk left := by split <;> omega
        simp only [go_sem, cn, w1, hput, hK, cr3, cw3, cn3, ct, eT, cl, emin, cy]
        have hp5 := hB.grow _ _ (some (Row.cells false 3 [m3 lo hv (min brk left)])) hp3
        have hd5 := hd3.mono (K := K ++ [some (Row.cells false 3 [m3 lo hv (min brk left)])]) (by simp) fun q _ hq => List.getElem?_append_left hq
        have hl5 : (K ++ [some (Row.cells false 3 [m3 lo hv (min brk left)])]).length = q + 2 := by simp [hl3]
        have ho5 : ∀ x, m + 7 ≤ x → x < q → (K ++ [some (Row.cells false 3 [m3 lo hv (min brk left)])])[x]? = J[x]? := fun x hx hxq => by rw [List.getElem?_append_left (by omega)]; exact ho3 x hx hxq
        simp only [m3] at hp5 hd5 hl5 ho5 hrd
        generalize (K ++ [some (Row.cells false 3 [AVal.agg [AVal.int IntKind.i64 lo, AVal.int IntKind.i64 hv, AVal.int IntKind.i64 (min brk left)]])] : Heap) = W at *
        have hrd := hrd W hiT hp5
        refine yieldR _ rfl rfl (by simp [go_sem]) (by simp [go_sem]) (by omega) ?_
        refine hrd.mono ?_
        rintro v S' ⟨⟨q4, q5⟩, ⟨rfl, q6⟩ | ⟨rfl, q6⟩⟩
        · have hds := hd5.mono q4 fun x hx => q5 x (by omega)
          have hlt' : m + 6 < S'.length := by have := hds.len; omega
          refine ⟨fun x hx => by simp at hx, ?_⟩
          simp only [go_sem]
          refine roundEnd_on hds.l ?_
          rw [put_lt hlt']
          exact hon _ (hB.set _ _ _ _ (by omega) q6) (hds.setL _) (by rw [List.length_set]; omega) fun x hx hxq => by rw [List.getElem?_set_ne (by omega), q5 x (by omega) (by omega)]; exact ho5 x hx (by omega)
        · have hds := hd5.mono q4 fun x hx => q5 x (by omega)
          have hlt' : m + 6 < S'.length := by have := hds.len; omega
          refine ⟨fun x hx => by simp at hx, ?_⟩
          simp only [go_sem]
          refine roundEnd_ret hds.l ?_
          rw [put_lt hlt']
          exact hoff _ _ (hB.halt _ _ _ (by omega) q6) (hds.setL _) (by rw [List.length_set]; omega) fun x hx hxq => by rw [List.getElem?_set_ne (by omega), q5 x (by omega) (by omega)]; exact ho5 x hx (by omega)
      · have eT : (((i + 1 : Nat) : Int) == (T : Int)) = false := beq_eq_false_iff_ne.2 (by omega)
        rw [if_neg cT] at hrd
        simp only [go_sem, cn, w1, hput, hK, cr3, cw3, cn3, ct, eT, cy]
        have hp5 := hB.grow _ _ (some (Row.cells false 3 [m3 lo hv brk])) hp3
        have hd5 := hd3.mono (K := K ++ [some (Row.cells false 3 [m3 lo hv brk])]) (by simp) fun q _ hq => List.getElem?_append_left hq
        have hl5 : (K ++ [some (Row.cells false 3 [m3 lo hv brk])]).length = q + 2 := by simp [hl3]
        have ho5 : ∀ x, m + 7 ≤ x → x < q → (K ++ [some (Row.cells false 3 [m3 lo hv brk])])[x]? = J[x]? := fun x hx hxq => by rw [List.getElem?_append_left (by omega)]; exact ho3 x hx hxq
        simp only [m3] at hp5 hd5 hl5 ho5 hrd
        generalize (K ++ [some (Row.cells false 3 [AVal.agg [AVal.int IntKind.i64 lo, AVal.int IntKind.i64 hv, AVal.int IntKind.i64 brk]])] : Heap) = W at *
        have hrd := hrd W hiT hp5
        refine yieldR _ rfl rfl (by simp [go_sem]) (by simp [go_sem]) (by omega) ?_
        refine hrd.mono ?_
        rintro v S' ⟨⟨q4, q5⟩, ⟨rfl, q6⟩ | ⟨rfl, q6⟩⟩
        · have hds := hd5.mono q4 fun x hx => q5 x (by omega)
          have hlt' : m + 6 < S'.length := by have := hds.len; omega
          refine ⟨fun x hx => by simp at hx, ?_⟩
          simp only [go_sem]
          refine roundEnd_on hds.l ?_
          rw [put_lt hlt']
          exact hon _ (hB.set _ _ _ _ (by omega) q6) (hds.setL _) (by rw [List.length_set]; omega) fun x hx hxq => by rw [List.getElem?_set_ne (by omega), q5 x (by omega) (by omega)]; exact ho5 x hx (by omega)
        · have hds := hd5.mono q4 fun x hx => q5 x (by omega)
          have hlt' : m + 6 < S'.length := by have := hds.len; omega
          refine ⟨fun x hx => by simp at hx, ?_⟩
          simp only [go_sem]
          refine roundEnd_ret hds.l ?_
          rw [put_lt hlt']
          exact hoff _ _ (hB.halt _ _ _ (by omega) q6) (hds.setL _) (by rw [List.length_set]; omega) fun x hx hxq => by rw [List.getElem?_set_ne (by omega), q5 x (by omega) (by omega)]; exact ho5 x hx (by omega)
  refine rangeF 2000 (ρ := tsets 37 (liT m jw jl)) (by simp [go_sem, liT]) (by simp only [go_sem, liT]; rfl) (by rw [hl0]; exact hit) (by rw [hl0]; omega) ?_
  rw [hl0]
  rintro v J ⟨rfl, ⟨h3, hd⟩ | ⟨h3, p, hd⟩⟩
  · refine ⟨fun q hq => by simp at hq; subst hq; exact hd.d, _, _, _, _, _, _, _, hd.l, by decide, ?_⟩
    have hfin := hB.set _ _ (m + 5) none (by omega) (hB.set _ _ (m + 5 + 1) none (by omega) h3)
    simp only [go_sem, liT]
    exact ⟨by simp, .inl hfin⟩
  · refine ⟨fun q hq => by simp at hq; subst hq; exact hd.d, _, _, _, _, _, _, _, hd.l, by decide, ?_⟩
    have hfin := hB.halt _ (m + 5) none (by omega) (hB.halt _ (m + 5 + 1) none (by omega) h3)
    simp only [go_sem, liT]
    exact ⟨by simp, .inr hfin⟩
end Go.Proofs

namespace Go.Proofs
open Go Go.Sx

end Go.Proofs

namespace Go.Proofs
open Go Go.Sx
attribute [local irreducible] Run

theorem tBreaks_run (a b c : Int) : Ans Try.prog n_glass_strained_surelyBreaks [m3 a b c] [] (.bool (decide (a > c))) [] := by
  refine spec_run e_glass_strained_surelyBreaks fun G => ?_
  by_cases h1 : a > c
  · simp [go_sem, m3, h1]
  · simp [go_sem, m3, h1]
theorem tHolds_run (a b c : Int) : Ans Try.prog n_glass_strained_surelyHolds [m3 a b c] [] (.bool (decide (b ≤ c))) [] := by
  refine spec_run e_glass_strained_surelyHolds fun G => ?_
  by_cases h1 : b ≤ c
  · simp [go_sem, m3, h1]
  · simp [go_sem, m3, h1]

def gV (hol : Nat → Bool) (num : Nat → Int) : Nat → Int × Int
  | 0 => (1, 0)
  | k + 1 => if (gV hol num k).1 = 1 ∧ hol k = false then (3, num k) else gV hol num k
def gFrom (brk hol : Nat → Bool) (num : Nat → Int) : Nat → Nat → Int × Int
  | 0, k => gV hol num k
  | n + 1, k => if brk k = true then (2, num k) else gFrom brk hol num n (k + 1)
section
variable {brk hol : Nat → Bool} {num : Nat → Int}
theorem gFrom_at : ∀ (k n m : Nat), (∀ i, m ≤ i → i < m + k → brk i = false) → gFrom brk hol num (n + k) m = gFrom brk hol num n (m + k)
  | 0, _, _, _ => rfl
  | k + 1, n, m, h => by
    have h1 := h m (Nat.le_refl _) (by omega)
    show (if brk m = true then _ else gFrom brk hol num (n + k) (m + 1)) = _
    rw [if_neg (by rw [h1]; simp), gFrom_at k n (m + 1) fun i h2 h3 => h i (by omega) (by omega)]
    congr 1; omega
end
def brkS (brk : Int) (zs : List Zn) (th f left : Int) (ls : List Lg) (i : Nat) : Bool := decide ((stAt zs th (allT 0 f ls) (i + 1)).1 > limA brk left (allT 0 f ls).length i)
def holS (brk : Int) (zs : List Zn) (th f left : Int) (ls : List Lg) (i : Nat) : Bool := decide ((stAt zs th (allT 0 f ls) (i + 1)).2 ≤ limA brk left (allT 0 f ls).length i)
def numS (i : Nat) : Int := ((i + 1 : Nat) : Int)
def judR (brk : Int) (zs : List Zn) (th f left : Int) (ls : List Lg) : Int × Int := gFrom (brkS brk zs th f left ls) (holS brk zs th f left ls) numS (allT 0 f ls).length 0

def jsT : List (Nat × AVal) := [(2, .ptr 3 0 0 1), (3, .ptr 4 0 0 1), (6, .fn (.func n_glass_wall_limited_1) [] [.ptr 1 0 0 1, .ptr 0 0 0 1, .ptr 2 0 0 1])]
def jsL (st : LoopState) (pe : Option ACode) : Row := .loop (tsets 24 jsT) [7, 8] k_glass_judge_glass_strained_r9 k_glass_judge_glass_strained_r10 5 st pe
def jsR (brk : Int) (zs : List Zn) (th f left : Int) (ls : List Lg) : Heap := [some (.cells false 3 [wlV brk zs th]), some (.cells false 2 [ovV f ls]), some (.cells false 1 [.int .i64 left])]
def jsH (brk : Int) (zs : List Zn) (th f left : Int) (ls : List Lg) (va : Int × Int) (x : Row) (X : Heap) : Heap :=
  [some (.cells false 3 [wlV brk zs th]), some (.cells false 2 [ovV f ls]), some (.cells false 1 [.int .i64 left]), some (.cells false 1 [.int .i64 va.1]), some (.cells false 1 [.int .i64 va.2]), some .dfr, some x] ++ X

set_option maxHeartbeats 8000000 in
set_option maxRecDepth 10000 in
theorem judgeS_run {brk : Int} {zs : List Zn} (hz : ZsOK zs) {th : Int} (hth : 1 ≤ th ∧ th ≤ 1000) {f left : Int} {ls : List Lg} (ho : OvOK f ls) :
    Ans Try.prog n_glass_judge_glass_strained [.fn (.func n_glass_wall_limited_1) [] [.ptr 1 0 0 1, .ptr 0 0 0 1, .ptr 2 0 0 1]] (jsR brk zs th f left ls)
      (.tup [.int .i64 (judR brk zs th f left ls).1, .int .i64 (judR brk zs th f left ls).2]) (jsR brk zs th f left ls) := by
  unfold judR
  obtain ⟨BK, hBK⟩ : ∃ B, brkS brk zs th f left ls = B := ⟨_, rfl⟩
  obtain ⟨HO, hHO⟩ : ∃ B, holS brk zs th f left ls = B := ⟨_, rfl⟩
  have eb : ∀ i, BK i = decide ((stAt zs th (allT 0 f ls) (i + 1)).1 > limA brk left (allT 0 f ls).length i) := fun i => by rw [← hBK]; rfl
  have eh : ∀ i, HO i = decide ((stAt zs th (allT 0 f ls) (i + 1)).2 ≤ limA brk left (allT 0 f ls).length i) := fun i => by rw [← hHO]; rfl
  rw [hBK, hHO]
  clear hBK hHO
  obtain ⟨n, hn⟩ : ∃ n : Nat, (allT 0 f ls).length = n := ⟨_, rfl⟩
  have row0 : ∀ (S : Nat → Prop) (i : Nat) (x : Row), (jsR brk zs th f left ls)[i]? = some (some x) → x.bel S := by
    intro S i x hx
    rcases i with _ | _ | _ | i
    · cases hx; rw [row_bel_cells]; simp only [go_sem, wlV]
    · cases hx; rw [row_bel_cells]; simp only [go_sem, ovV]
    · cases hx; rw [row_bel_cells]; simp only [go_sem]
    · simp [jsR] at hx
  refine Ans.keep (run_fn e_glass_judge_glass_strained fun G => ?_) (by simp [jsR]) (by simp [go_sem]) ⟨row0 _ 0 _ rfl, row0 _ 1 _ rfl, row0 _ 2 _ rfl, trivial⟩
  have hkept : ∀ (va : Int × Int) (H' : Heap), va = gFrom BK HO numS n 0 → (∀ (i : Nat) (x : Row), (jsR brk zs th f left ls)[i]? = some (some x) → H'[i]? = some (some x)) → ∃ σ, Kept (jsR brk zs th f left ls) (jsR brk zs th f left ls) (.tup [.int .i64 (gFrom BK HO numS n 0).1, .int .i64 (gFrom BK HO numS n 0).2]) (.tup [.int .i64 va.1, .int .i64 va.2]) H' σ := fun va H' e h => by
    subst e
    exact kept_id rfl (by simp only [go_sem]) fun i x hx => ⟨row0 _ i x hx, h i x hx⟩
  have hgen : ∀ k, k ≤ n → (∀ i, i < k → BK i = false) → gFrom BK HO numS n 0 = gFrom BK HO numS (n - k) k := fun k hk h => by
    have := gFrom_at (brk := BK) (hol := HO) (num := numS) k (n - k) 0 fun i _ hi => h i (by omega)
    rw [Nat.zero_add] at this
    rw [← this]; congr 1; omega
  simp only [jsR, wlV, ovV] at hkept
  rw [hn]
  simp only [go_sem, jsR, wlV, ovV]
  refine rangeF 2000 (ρ := tsets 24 jsT) (by simp [go_sem, jsT]) (by simp only [go_sem, jsT]; rfl)
    (limited_iter (r := 6) (jo := 1) (jw := 0) (jl := 2) (N := 7) (brk := brk) hz hth (left := left) ho
      (Pre := fun k H => (∀ i, i < k → BK i = false) ∧ ∃ X, H = jsH brk zs th f left ls (gV HO numS k) (jsL .ready none) X)
      (Stop := fun H => ∃ k X, k < n ∧ BK k = true ∧ (∀ i, i < k → BK i = false) ∧ H = jsH brk zs th f left ls (2, numS k) (jsL .done (some .ret)) X)
      ⟨?_, ?_, ?_, ?_, ?_⟩ ⟨fun i h => absurd h (by omega), [], rfl⟩) (by simp) ?_
  · rintro i H ⟨_, X, rfl⟩
    exact ⟨by simp [jsH], rfl, rfl, rfl⟩
  · rintro i H x ⟨h, X, rfl⟩
    exact ⟨h, X ++ [x], by simp [jsH]⟩
  · rintro i H q x hq ⟨h, X, rfl⟩
    refine ⟨h, X.set (q - 7) x, ?_⟩
    unfold jsH
    rw [List.set_append_right _ _ (by simp; omega)]; rfl
  · rintro H q x hq ⟨k, X, a1, a2, a3, rfl⟩
    refine ⟨k, X.set (q - 7) x, a1, a2, a3, ?_⟩
    unfold jsH
    rw [List.set_append_right _ _ (by simp; omega)]; rfl
  · rintro k H hk ⟨hnb, X, rfl⟩
    have ev : gV HO numS (k + 1) = if (gV HO numS k).1 = 1 ∧ HO k = false then (3, numS k) else gV HO numS k := rfl
    have hnb' : BK k = false → ∀ i, i < k + 1 → BK i = false := fun h i hi => by
      by_cases e : i = k
      · rw [e]; exact h
      · exact hnb i (by omega)
    have kb := tBreaks_run (stAt zs th (allT 0 f ls) (k + 1)).1 (stAt zs th (allT 0 f ls) (k + 1)).2 (limA brk left (allT 0 f ls).length k)
    have kh := tHolds_run (stAt zs th (allT 0 f ls) (k + 1)).1 (stAt zs th (allT 0 f ls) (k + 1)).2 (limA brk left (allT 0 f ls).length k)
    rw [← eb] at kb
    rw [← eh] at kh
    rw [hn] at hk
    obtain ⟨p, hp⟩ : ∃ p, stAt zs th (allT 0 f ls) (k + 1) = p := ⟨_, rfl⟩
    obtain ⟨lim, hlim⟩ : ∃ p, limA brk left (allT 0 f ls).length k = p := ⟨_, rfl⟩
    rw [hp, hlim] at kb kh
    rw [hp, hlim]
    obtain ⟨lo, hv⟩ := p
    dsimp only at kb kh ⊢
    generalize hbk : BK k = bk at *
    generalize hhk : HO k = hk2 at *
    rw [ev]
    have en : numS k = ((k + 1 : Nat) : Int) := rfl
    rw [en]
    generalize gV HO numS k = va at *
    obtain ⟨ve, ae⟩ := va
    have ht1 : tabAt [(121, 167), (136, 169)] 136 = some 169 := rfl
    have ht2 : tabAt [(121, 168), (136, 170)] 136 = some 170 := rfl
    simp only [m3] at kb kh ⊢
    cases bk with
    | true =>
      refine RoundW.mono (R := fun w H' => w = .bool false ∧ ∃ Y, H' = jsH brk zs th f left ls (2, ((k + 1 : Nat) : Int)) (jsL .done (some .ret)) (X ++ Y)) ?_ ?_
      rotate_left
      · rintro w H' ⟨rfl, Y, rfl⟩
        exact ⟨tail_keep rfl rfl, .inr ⟨rfl, k, _, hk, hbk, hnb, rfl⟩⟩
      generalize hR : (fun (w : AVal) (H' : Heap) => w = .bool false ∧ ∃ Y, H' = jsH brk zs th f left ls (2, ((k + 1 : Nat) : Int)) (jsL .done (some .ret)) (X ++ Y)) = R
      have hfin : ∀ Y, R (.bool false) (jsH brk zs th f left ls (2, ((k + 1 : Nat) : Int)) (jsL .done (some .ret)) (X ++ Y)) := fun Y => by rw [← hR]; exact ⟨rfl, Y, rfl⟩
      clear hR
      refine roundW_run 500 k_glass_judge_glass_strained_r9.eq_1 rfl rfl (ρ' := tsets 24 (jsT ++ [(7, .int .i64 ((k + 1 : Nat) : Int)), (8, .agg [.int .i64 lo, .int .i64 hv, .int .i64 lim])])) rfl ?_
      simp only [go_sem, jsT, jsH, wlV, ovV]
      refine roundMid_run 500 k_glass_judge_glass_strained_r10.eq_1 rfl rfl ?_
      simp only [go_sem, ht1]
      refine cP kb ?_
      simp only [go_sem]
      refine roundEnd_ret rfl ?_
      simp only [go_sem]
      simp only [jsH, jsL, jsT, wlV, ovV] at hfin
      exact hfin [_]
    | false =>
      refine RoundW.mono (R := fun w H' => w = .bool true ∧ ∃ Y, H' = jsH brk zs th f left ls (if ve = 1 ∧ hk2 = false then (3, ((k + 1 : Nat) : Int)) else (ve, ae)) (jsL .ready none) (X ++ Y)) ?_ ?_
      rotate_left
      · rintro w H' ⟨rfl, Y, rfl⟩
        exact ⟨tail_keep rfl rfl, .inl ⟨rfl, hnb' rfl, _, rfl⟩⟩
      generalize hR : (fun (w : AVal) (H' : Heap) => w = .bool true ∧ ∃ Y, H' = jsH brk zs th f left ls (if ve = 1 ∧ hk2 = false then (3, ((k + 1 : Nat) : Int)) else (ve, ae)) (jsL .ready none) (X ++ Y)) = R
      have hfin : ∀ Y, R (.bool true) (jsH brk zs th f left ls (if ve = 1 ∧ hk2 = false then (3, ((k + 1 : Nat) : Int)) else (ve, ae)) (jsL .ready none) (X ++ Y)) := fun Y => by rw [← hR]; exact ⟨rfl, Y, rfl⟩
      clear hR
      refine roundW_run 500 k_glass_judge_glass_strained_r9.eq_1 rfl rfl (ρ' := tsets 24 (jsT ++ [(7, .int .i64 ((k + 1 : Nat) : Int)), (8, .agg [.int .i64 lo, .int .i64 hv, .int .i64 lim])])) rfl ?_
      simp only [go_sem, jsT, jsH, wlV, ovV]
      refine roundMid_run 500 k_glass_judge_glass_strained_r10.eq_1 rfl rfl ?_
      simp only [go_sem, ht1]
      refine cP kb ?_
      by_cases hv1 : ve = 1
      · subst hv1
        have e1 : ((1 : Int) == 1) = true := rfl
        simp only [go_sem, e1, ht2]
        refine cP kh ?_
        cases hk2 with
        | true =>
          simp only [go_sem]
          refine roundEnd_on rfl ?_
          simp only [go_sem]
          simp only [jsH, jsL, jsT, wlV, ovV, Bool.true_eq_false, and_false, if_false] at hfin
          exact hfin [_]
        | false =>
          simp only [go_sem]
          refine roundEnd_on rfl ?_
          simp only [go_sem]
          simp only [jsH, jsL, jsT, wlV, ovV, and_self, if_true] at hfin
          exact hfin [_]
      · have e1 : (ve == 1) = false := beq_eq_false_iff_ne.2 hv1
        simp only [go_sem, e1]
        refine roundEnd_on rfl ?_
        simp only [go_sem]
        simp only [jsH, jsL, jsT, wlV, ovV, hv1, false_and, if_false] at hfin
        exact hfin [_]
  · rintro v H' ⟨rfl, ⟨hnb, X, rfl⟩ | ⟨k, X, a1, a2, a3, rfl⟩⟩
    · rw [hn] at hnb ⊢
      have hres := hgen n (Nat.le_refl _) hnb
      rw [Nat.sub_self] at hres
      have hK := fun H' => hkept (gV HO numS n) H' hres.symm
      refine ⟨fun q hq => by simp at hq; subst hq; rfl, _, _, _, _, _, _, _, rfl, by decide, ?_⟩
      generalize gV HO numS n = va at *
      simp only [go_sem, jsH, jsT, wlV, ovV]
      exact ⟨by simp, hK _ fun i x hx => by
        rcases i with _ | _ | _ | i
        · exact hx
        · exact hx
        · exact hx
        · simp at hx⟩
    · have hres := hgen k (by omega) a3
      have e9 : gFrom BK HO numS ((n - k - 1) + 1) k = (2, numS k) := by
        show (if BK k = true then _ else _) = _
        rw [if_pos a2]
      rw [show n - k = (n - k - 1) + 1 by omega, e9] at hres
      have hK := fun H' => hkept (2, numS k) H' hres.symm
      refine ⟨fun q hq => by simp at hq; subst hq; rfl, _, _, _, _, _, _, _, rfl, by decide, ?_⟩
      simp only [go_sem, jsH, jsT, wlV, ovV]
      exact ⟨by simp, hK _ fun i x hx => by
        rcases i with _ | _ | _ | i
        · exact hx
        · exact hx
        · exact hx
        · simp at hx⟩

section
variable {P : Program} {G : Ctx} {g : FuncId} {args largs : List AVal} {H : Heap} {r : AVal} {k : Nat} {R : Runner} {l : List AOper} {fs : List Sx.Frame} {ρ : List AVal} {ms : List Nat} {Q : Sx.Goal} {dst : Option Nat}
theorem cSame3 {x0 x1 x2 : Row} {j0 j1 j2 : Nat} (h : Ans P g largs [some x0, some x1, some x2] r [some x0, some x1, some x2]) (hargs : args = largs.map (ren (nth [j0, j1, j2]))) (hb : Bels (· < 3) largs)
    (h0 : H[j0]? = some (some x0)) (h1 : H[j1]? = some (some x1)) (h2 : H[j2]? = some (some x2)) (hx0 : x0.bel (fun _ => False)) (hx1 : x1.bel (fun _ => False)) (hx2 : x2.bel (fun _ => False)) (hn : [j0, j1, j2].Nodup) (hr : Bel (fun _ => False) r)
    (hk : k ≤ H.length) (hms : ∀ q ∈ ms, q ∉ [j0, j1, j2] ∧ H[q]? = some (some .dfr))
    (hK : R (.ops l) fs ⟨setD ρ dst r, H, ms⟩ Q) : CallR P G k R g args dst l fs ρ H ms Q := by
  have l0 := (List.getElem?_eq_some_iff.1 h0).1
  have l1 := (List.getElem?_eq_some_iff.1 h1).1
  have l2 := (List.getElem?_eq_some_iff.1 h2).1
  have e : outΔ (outσ [j0, j1, j2] H.length) 0 [some x0, some x1, some x2] = [(j0, x0), (j1, x1), (j2, x2)] := by
    simp only [outΔ, Row.ren_same hx0, Row.ren_same hx1, Row.ren_same hx2]
    rfl
  refine callS h [j0, j1, j2] hn ⟨by rw [Row.ren_same hx0]; exact h0, by rw [Row.ren_same hx1]; exact h1, by rw [Row.ren_same hx2]; exact h2, trivial⟩ hargs hb
    ⟨bel_mono_row hx0 fun _ h => h.elim, bel_mono_row hx1 fun _ h => h.elim, bel_mono_row hx2 fun _ h => h.elim, trivial⟩ (by simp) (hr.mono fun _ h => h.elim)
    ⟨bel_mono_row hx0 fun _ h => h.elim, bel_mono_row hx1 fun _ h => h.elim, bel_mono_row hx2 fun _ h => h.elim, trivial⟩ (by simp; omega) hk (fun q hq => ?_) ?_
  · rw [e]; exact ⟨by simpa using (hms q hq).1, (hms q hq).2⟩
  · rw [e, ren_same hr]
    simp only [Heap.puts, put_id h0, put_id h1, put_id h2]
    exact hK
end
theorem limited_run (brk : Int) (zs : List Zn) (th f left : Int) (ls : List Lg) : Ans Try.prog n_glass_wall_limited [wlV brk zs th, ovV f ls, .int .i64 left] [] (.fn (.func n_glass_wall_limited_1) [] [.ptr 1 0 0 1, .ptr 0 0 0 1, .ptr 2 0 0 1]) (jsR brk zs th f left ls) := by
  refine spec_run e_glass_wall_limited fun G => ?_
  simp only [go_sem, ovV, wlV, jsR]
  exact ⟨_, rfl⟩
theorem isStrainT {n : Int} (h : 0 ≤ n ∧ n ≤ capS) : Ans Try.prog n_glass_isStrain [.int .i64 n] [] (.bool true) [] := by
  refine spec_run e_glass_isStrain fun G => ?_
  simp only [go_sem]
  refine cP (gwithin_yes (n := n) (a := 0) (b := 1099511627776) h) ?_
  simp only [go_sem]
theorem Judge_run {brk : Int} {zs : List Zn} (h : StOK brk zs) {th : Int} (hth : 1 ≤ th ∧ th ≤ 1000) {f left : Int} {ls : List Lg} (ho : OvOK f ls) (hl : 0 ≤ left ∧ left ≤ capS) :
    Ans Try.prog n_glass_Judge [stV brk zs, .int .i64 th, ovV f ls, .int .i64 left] [] (.tup [.int .i64 (judR brk zs th f left ls).1, .int .i64 (judR brk zs th f left ls).2, .int .i64 0]) [] := by
  have k1 := checkHeated_yes h hth ho
  have k2 := limited_run brk zs th f left ls
  have k3 := judgeS_run (brk := brk) h.zs hth (left := left) ho
  have k4 := isStrainT hl
  generalize judR brk zs th f left ls = RES at *
  refine spec_run e_glass_Judge fun G => ?_
  simp only [jsR, wlV, ovV] at k1 k2 k3
  simp only [go_sem, stV, ovV]
  refine cP k1 ?_
  simp only [go_sem]
  refine cP k4 ?_
  simp only [go_sem]
  have rb : ∀ (S : Nat → Prop) b t, (Row.cells false 3 [AVal.agg [AVal.int IntKind.i64 b, AVal.view (List.map Zn.v zs), AVal.int IntKind.i64 t]]).bel S := fun S b t => by rw [row_bel_cells]; simp only [go_sem]
  have ob : ∀ (S : Nat → Prop) b, (Row.cells false 2 [AVal.agg [AVal.int IntKind.i64 b, AVal.view (List.map Lg.v ls)]]).bel S := fun S b => by rw [row_bel_cells]; simp only [go_sem]
  have ib : ∀ (S : Nat → Prop) b, (Row.cells false 1 [AVal.int IntKind.i64 b]).bel S := fun S b => by rw [row_bel_cells]; simp only [go_sem]
  refine cN3 k2 ?_
  simp only [go_sem, ren, rens]
  refine cSame3 k3 (j0 := 3) (j1 := 4) (j2 := 5) rfl (by simp [go_sem]) rfl rfl rfl (rb _ _ _) (ob _ _) (ib _ _) (by decide) (by simp only [go_sem]) (by simp) (by simp) ?_
  simp only [go_sem]
end Go.Proofs

