/- A part of the proof. -/
import Derived.Test.YtigaafcllfjniaaPF
set_option linter.unusedSimpArgs false
set_option linter.unusedVariables false
namespace Go.Proofs
open Go Go.Sx
attribute [local irreducible] Run

def rpT (l : List Ht) (w : List Mx) (h : Int) (at' : Nat) (i : Nat) : List (Nat × AVal) := [(1, .view (l.map Ht.v)), (2, .view (w.map Mx.v)), (3, .ptr 0 0 0 1), (7, .int .i64 h), (8, .int .i64 at'), (9, .int .i64 i)]
set_option maxHeartbeats 4000000 in
set_option maxRecDepth 4000 in
theorem rPossible_gen (c : Ct) (hc : CtOK c) (l : List Ht) (hl : LsOK l) (w : List Mx) (hwb : w.length ≤ 1000000) (hww : ∀ m ∈ w, MxW m) (b : Bool) (hb : b = true ↔ PossP c l w) :
    Ans Try.prog n_ref03_Possible [c.v (.view (c.bands.map Bd.v)), .view (l.map Ht.v), .view (w.map Mx.v)] [] (.bool b) [] := by
  have hlen := hl.len
  have hsum := hl.sum
  have hfl := flat_len hl.all
  refine spec_run e_ref03_Possible fun G => ?_
  simp only [go_sem, Ct.v, Ct.cs]
  refine cP (rCheck_run c hc) ?_
  simp only [go_sem]
  refine cP (rCheckSchedule_run l hl) ?_
  by_cases k1 : w = []
  · have hbf : b = false := by
      cases b with
      | false => rfl
      | true => have := (hb.1 rfl).len; rw [k1] at this; simp at this
    subst k1
    simp only [go_sem, List.length_map, hbf]
  have hwp : 0 < w.length := List.length_pos_iff.2 k1
  have k2 : ((w.length : Int) == 0) = false := by simp; omega
  have hw00 : (0 : Int) < w.length := by omega
  have hw0 : w[0]? = some w[0] := List.getElem?_eq_getElem (by omega)
  generalize hm0 : w[0] = m0 at *
  by_cases k3 : m0 = start c
  rotate_left
  · have hbf : b = false := by
      cases b with
      | false => rfl
      | true => have := (hb.1 rfl).first; rw [hw0] at this; cases this; exact absurd rfl k3
    have k4 : ¬ (m0.carb = c.amount ∧ m0.ox = 0 ∧ m0.ba = 0 ∧ m0.lost = 0) := fun ⟨h1, h2, h3, h4⟩ => k3 (by cases m0; simp_all [start])
    simp only [go_sem, k2, hw00, hw0, List.length_map, Mx.v, Mx.cs, hbf, Ct.v, Ct.cs]
    intro hq
    simp only [Bool.and_eq_true, beq_iff_eq] at hq
    exact absurd ⟨hq.1, hq.2.1, hq.2.2.1, hq.2.2.2⟩ k4
  subst k3
  simp only [go_sem, k2, hw00, hw0, List.length_map, Mx.v, Mx.cs, start, Ct.v, Ct.cs]
  refine loop_ind k_ref03_Possible_r15.eq_1 (fun a : Nat × Heap => a.1 ≤ l.length ∧ Upto c l w (flat (l.take a.1)).length ∧ (flat (l.take a.1)).length < w.length) (fun a => l.length - a.1)
    (fun a => (tsets 88 (rpT l w (heatOf c (flat (l.take a.1))) (flat (l.take a.1)).length a.1), some (.cells false 7 [c.v (.view (c.bands.map Bd.v))]) :: a.2)) (0, []) ⟨Nat.zero_le _, fun p hp => absurd hp (Nat.not_lt_zero _), hwp⟩ (by simp [go_sem, rpT, flat, heatOf]) rfl ?_
  rintro ⟨i, X⟩ ⟨hi, hu, huw⟩ ih
  dsimp only at hi hu huw ih ⊢
  by_cases h1 : i < l.length
  · have h2 : (i : Int) < l.length := by omega
    have n0 : ¬ (i : Int) < 0 := by omega
    have hx : l[i]? = some l[i] := List.getElem?_eq_getElem h1
    have hz := hl.all _ (List.getElem_mem h1)
    have hs := flat_succ hx
    have hlt := fun t => flat_at (t := t) hx
    have h3 := idx_next h1 (by omega)
    have hfi := flat_len (l := l.take i) fun x hx => hl.all x (List.mem_of_mem_take hx)
    have hr0 := lenOfL_take hl.all i
    generalize l[i] = z at *
    have hzt := hz.ticks
    simp only [go_sem, rpT, h2, List.length_map]
    refine loop_ind k_ref03_Possible_r13.eq_1 (fun a : Nat × Heap => a.1 ≤ z.ticks.toNat ∧ Upto c l w ((flat (l.take i)).length + a.1) ∧ (flat (l.take i)).length + a.1 < w.length) (fun a => z.ticks.toNat - a.1)
      (fun a => (tsets 88 (rpT l w (heatOf c (flat (l.take i) ++ List.replicate a.1 z)) ((flat (l.take i)).length + a.1) i ++ [(10, .int .i64 a.1)]), some (.cells false 7 [c.v (.view (c.bands.map Bd.v))]) :: a.2)) (0, X) ⟨Nat.zero_le _, hu, huw⟩ (by simp [go_sem, rpT]) rfl ?_
    rintro ⟨t, Y⟩ ⟨ht, hv, hvw⟩ ih2
    dsimp only at ht hv hvw ih2 ⊢
    by_cases h4 : t < z.ticks.toNat
    · have h5 : (t : Int) < z.ticks := by omega
      have h6 := idx_next h4 (by omega)
      obtain ⟨f1, f2⟩ := hlt t h4
      have hil := (List.getElem?_eq_some_iff.1 f1).1
      have hall0 : ∀ y ∈ flat (l.take i) ++ List.replicate t z, HtOK y := fun y hy => by
        rcases List.mem_append.1 hy with hy | hy
        · exact hl.all _ (List.mem_of_mem_take (flat_mem hy))
        · rw [List.mem_replicate] at hy; rw [hy.2]; exact hz
      have hall : ∀ y ∈ flat (l.take i) ++ List.replicate t z ++ [z], HtOK y := fun y hy => by
        rcases List.mem_append.1 hy with hy | hy
        · exact hall0 y hy
        · simp at hy; subst hy; exact hz
      have hh0 := heatOf_in hc hall0
      have hh1 := heatOf_in hc hall
      have hm := rHeat_run c hc _ z.heat hh0 hz.heat
      rw [← heatOf_snoc] at hm
      have hsn : flat (l.take i) ++ List.replicate (t + 1) z = flat (l.take i) ++ List.replicate t z ++ [z] := by rw [List.replicate_succ', ← List.append_assoc]
      have hih := fun b hb hib ρ' => ih2 (t + 1, b) hb hib ρ'
      simp only [hsn, ← Nat.add_assoc] at hih
      clear ih2
      have hbd0 := ratesAt_ok hc hh1.1 hz.cur
      have hr := rBand_run c hc _ z.cur hh1.1 hz.cur
      have hup0 : ∀ m1 m2, w[(flat (l.take i)).length + t]? = some m1 → w[(flat (l.take i)).length + t + 1]? = some m2 → Fol m1 m2 (ratesAt c (heatOf c (flat (l.take i) ++ List.replicate t z ++ [z])) z.cur) → Upto c l w ((flat (l.take i)).length + t + 1) := fun m1 m2 e3 e4 hf p hp z' n1 n2 g1 g2 g3 => by
        by_cases hpi : p = (flat (l.take i)).length + t
        · subst hpi
          rw [f1] at g1; rw [e3] at g2; rw [e4] at g3
          cases g1; cases g2; cases g3
          rw [f2]
          exact hf
        · exact hv p (by omega) z' n1 n2 g1 g2 g3
      have hno0 : ∀ m1 m2, w[(flat (l.take i)).length + t]? = some m1 → w[(flat (l.take i)).length + t + 1]? = some m2 → ¬ Fol m1 m2 (ratesAt c (heatOf c (flat (l.take i) ++ List.replicate t z ++ [z])) z.cur) → b = false := fun m1 m2 e3 e4 hf => by
        cases b with
        | false => rfl
        | true =>
          have := (hb.1 rfl).part _ z _ _ f1 e3 e4
          rw [f2] at this
          exact absurd this hf
      have hmix := fun m (hm : w[(flat (l.take i)).length + t]? = some m) => hv.mix hc hl hw0 (by omega) _ m (Nat.le_refl _) hm
      have hbf0 : w.length ≤ (flat (l.take i)).length + t + 1 → b = false := fun h => by
        cases b with
        | false => rfl
        | true => have := (hb.1 rfl).len; omega
      generalize heatOf c (flat (l.take i) ++ List.replicate t z ++ [z]) = hn at *
      generalize heatOf c (flat (l.take i) ++ List.replicate t z) = ho at *
      generalize ratesAt c hn z.cur = bd at *
      have hq : (flat (l.take i)).length + t = (flat (l.take i)).length + t := rfl
      generalize (flat (l.take i)).length + t = q at *
      have w1 : IntKind.i64.wrap ((q : Int) + 1) = ((q + 1 : Nat) : Int) := by rw [w64 (by omega)]; omega
      have e3 : w[q]? = some w[q] := List.getElem?_eq_getElem hvw
      have hmk := hmix _ e3
      by_cases hqw : q + 1 < w.length
      rotate_left
      · have g1 : (w.length : Int) ≤ ((q + 1 : Nat) : Int) := by omega
        have hbf := hbf0 (by omega)
        simp only [go_sem, rpT, hx, h2, n0, h5, Ht.v, Ht.cs, Ct.v, Ct.cs, List.length_map, w1, g1]
        refine cP hm ?_
        simp only [go_sem, rpT, hx, h2, n0, h5, Ht.v, Ht.cs, Ct.v, Ct.cs, List.length_map, w1, g1, hbf]
      have g1 : ¬ (w.length : Int) ≤ ((q + 1 : Nat) : Int) := by omega
      have g2 : ((q + 1 : Nat) : Int) < w.length := by omega
      have g3 : ¬ ((q + 1 : Nat) : Int) < 0 := by omega
      have g4 : ¬ (q : Int) < 0 := by omega
      have g5 : IntKind.i64.wrap (((q + 1 : Nat) : Int) - 1) = q := by rw [w64 (by omega)]; omega
      have g6 : (q : Int) < w.length := by omega
      have e4 : w[q + 1]? = some w[q + 1] := List.getElem?_eq_getElem hqw
      have hmw := hww _ (List.getElem_mem hqw)
      have hup := hup0 _ _ e3 e4
      have hno := hno0 _ _ e3 e4
      clear hup0 hno0 hmix
      generalize w[q] = m1 at *
      generalize w[q + 1] = m2 at *
      simp only [go_sem, rpT, hx, h2, n0, h5, Ht.v, Ht.cs, Ct.v, Ct.cs, List.length_map, w1, g1]
      refine cP hm ?_
      simp only [go_sem, rpT, hx, h2, n0, h5, Ht.v, Ht.cs, Ct.v, Ct.cs, List.length_map, w1, g1, g2, g3, g4, g5, g6, e3, e4, Int.toNat_natCast, Mx.v, Mx.cs]
      refine dP hr ?_
      simp only [go_sem, Bd.v, Bd.cs]
      by_cases hf : Fol m1 m2 bd
      · refine cP (rfollows_run hc hbd0 hmk hmw (t := true) ⟨fun _ => hf, fun _ => rfl⟩) ?_
        simp only [go_sem, h6]
        exact hih _ (by omega) ⟨h4, hup hf, hqw⟩ _ (by simp [go_sem, rpT])
      · refine cP (rfollows_run hc hbd0 hmk hmw (t := false) ⟨fun h => by simp at h, fun h => absurd h hf⟩) ?_
        simp only [go_sem, h6, hno hf]
    · have h5 : ¬ (t : Int) < z.ticks := by omega
      have hte : t = z.ticks.toNat := by omega
      simp only [go_sem, rpT, hx, h2, n0, h5, Ht.v, Ht.cs, h3, List.length_map]
      have hln : (flat (l.take (i + 1))).length = (flat (l.take i)).length + t := by rw [hs, List.length_append, List.length_replicate, hte]
      rw [hte, ← hs]
      refine ih (i + 1, Y) (by dsimp only; omega) ⟨h1, by dsimp only; rw [hln]; exact hv, by dsimp only; rw [hln]; exact hvw⟩ _ (by simp [go_sem, rpT, hln, hte])
  · have h2 : ¬ (i : Int) < l.length := by omega
    have hil : i = l.length := by omega
    rw [hil, List.take_length] at hu huw
    have hw1 : IntKind.i64.wrap ((w.length : Int) - 1) = ((w.length - 1 : Nat) : Int) := by rw [w64 (by omega)]; omega
    have hbe : b = (((flat l).length : Int) == ((w.length - 1 : Nat) : Int)) := by
      by_cases he : w.length = (flat l).length + 1
      · rw [hb.2 ⟨he, hw0, fun p z m1 m2 h1 h2 h3 => hu p (List.getElem?_eq_some_iff.1 h1).1 z m1 m2 h1 h2 h3⟩]
        simp; omega
      · cases b with
        | true => exact absurd (hb.1 rfl).len he
        | false => symm; simp; omega
    simp only [go_sem, rpT, h2, List.length_map, hw1]
    rw [hil, List.take_length, hbe]
end Go.Proofs
namespace Go.Proofs
open Go Go.Sx

-- 10: thermion/thermionlaw03.CathodeBounds
def k_law03_CathodeBounds_r0 : List AOper := [
  ⟨(some (2)), .move (.const (.bool false)), none, []⟩]
def k_law03_CathodeBounds_r1 : List AOper := [
  ⟨(some (16)), .move (.tmp 0), none, []⟩, 
  ⟨(some (17)), .call (.const (.fn (.func 19) [] [])) [.tmp 16], none, []⟩, 
  ⟨(some (3)), .move (.tmp 17), none, []⟩]
def k_law03_CathodeBounds_r2 : List AOper := [
  ⟨(some (18)), .move (.tmp 3), none, []⟩, 
  ⟨(some (19)), .call (.const (.fn (.func 20) [] [])) [.tmp 18], none, []⟩, 
  ⟨(some (4)), .box (.const (.agg [.int .i64 0, .int .i64 0, .int .i64 0, .int .i64 0, .int .i64 0, .int .i64 0, .nilsl])), none, []⟩, 
  ⟨none, .store 7 (.tmp 4) (.tmp 19), none, []⟩]
def k_law03_CathodeBounds_r3 : List AOper := [
  ⟨(some (20)), .move (.tmp 3), none, []⟩, 
  ⟨(some (21)), .call (.const (.fn (.func 21) [] [])) [.tmp 20, .const (.int .i64 4), .const (.int .i64 9)], none, []⟩, 
  ⟨(some (5)), .move (.tmp 21), none, []⟩]
def k_law03_CathodeBounds_r4 : List AOper := [
  ⟨(some (22)), .move (.tmp 3), none, []⟩, 
  ⟨(some (23)), .load (some (7)) (.tmp 4), none, []⟩, 
  ⟨(some (24)), .move (.tmp 5), none, []⟩, 
  ⟨(some (25)), .call (.const (.fn (.func 41) [] [])) [.tmp 22, .tmp 23, .tmp 24], none, []⟩, 
  ⟨(some (6)), .move (.tmp 25), none, []⟩]
def k_law03_CathodeBounds_r5 : List AOper := [
  ⟨(some (27)), .load (some (7)) (.tmp 4), none, []⟩, 
  ⟨(some (28)), .call (.const (.fn (.func 35) [] [])) [.tmp 27], none, []⟩, 
  ⟨(some (26)), .move (.tmp 28), none, []⟩, 
  ⟨(some (29)), .extract (.tmp 26) 0, none, []⟩, 
  ⟨(some (30)), .extract (.tmp 26) 1, none, []⟩, 
  ⟨(some (7)), .box (.const (.agg [.int .i64 0, .int .i64 0, .int .i64 0, .int .i64 0, .int .i64 0, .int .i64 0, .int .i64 0, .int .i64 0, .int .i64 0, .int .i64 0, .int .i64 0, .int .i64 0, .int .i64 0])), none, []⟩, 
  ⟨none, .store 13 (.tmp 7) (.tmp 29), none, []⟩, 
  ⟨(some (8)), .move (.tmp 30), none, []⟩]
def k_law03_CathodeBounds_r6 : List AOper := [
  ⟨(some (31)), .move (.tmp 8), none, []⟩, 
  ⟨(some (32)), .bin .plain .neq (.tmp 31) (.const (.int .i64 0)), none, []⟩, 
  ⟨(some (33)), .move (.tmp 32), none, []⟩, 
  ⟨(some (34)), .load (some (7)) (.tmp 4), (some (33, false)), []⟩, 
  ⟨(some (35)), .move (.tmp 5), (some (33, false)), []⟩, 
  ⟨(some (36)), .move (.tmp 6), (some (33, false)), []⟩, 
  ⟨(some (37)), .call (.const (.fn (.func 43) [] [])) [.tmp 34, .tmp 35, .tmp 36], (some (33, false)), []⟩, 
  ⟨(some (38)), .not (.tmp 37), (some (33, false)), []⟩, 
  ⟨(some (39)), .pick (.tmp 33) (.const (.bool true)) (.tmp 38), none, []⟩]
def k_law03_CathodeBounds_r7 : List AOper := [
  ⟨(some (2)), .move (.const (.bool false)), none, []⟩]
def k_law03_CathodeBounds_r8 : List AOper := [
  ⟨(some (9)), .move (.const (.int .i64 0)), none, []⟩]
def k_law03_CathodeBounds_r9 : List AOper := [
  ⟨(some (10)), .move (.const (.int .i64 0)), none, []⟩]
def k_law03_CathodeBounds_r10 : List AOper := [
  ⟨(some (40)), .move (.tmp 10), none, []⟩, 
  ⟨(some (41)), .move (.tmp 5), none, []⟩, 
  ⟨(some (42)), .len false (.tmp 41), none, []⟩, 
  ⟨(some (43)), .bin .plain .lss (.tmp 40) (.tmp 42), none, []⟩]
def k_law03_CathodeBounds_r11 : List AOper := [
  ⟨(some (11)), .move (.const (.int .i64 0)), none, []⟩]
def k_law03_CathodeBounds_r12 : List AOper := [
  ⟨(some (46)), .move (.tmp 11), none, []⟩, 
  ⟨(some (47)), .move (.tmp 5), none, []⟩, 
  ⟨(some (48)), .move (.tmp 10), none, []⟩, 
  ⟨(some (49)), .indexAddr 3 (.tmp 47) (.tmp 48), none, []⟩, 
  ⟨(some (50)), .fieldAddr 0 (.tmp 49), none, []⟩, 
  ⟨(some (51)), .load none (.tmp 50), none, []⟩, 
  ⟨(some (52)), .bin .plain .lss (.tmp 46) (.tmp 51), none, []⟩]
def k_law03_CathodeBounds_r13 : List AOper := [
  ⟨(some (56)), .load (some (7)) (.tmp 4), none, []⟩, 
  ⟨(some (57)), .load (some (13)) (.tmp 7), none, [0]⟩, 
  ⟨(some (58)), .move (.tmp 5), none, [0, 1]⟩, 
  ⟨(some (59)), .move (.tmp 10), none, [0, 1, 2]⟩, 
  ⟨(some (60)), .indexAddr 3 (.tmp 58) (.tmp 59), none, [0, 1]⟩, 
  ⟨(some (61)), .fieldAddr 1 (.tmp 60), none, [0, 1]⟩, 
  ⟨(some (62)), .load none (.tmp 61), none, [0, 1]⟩, 
  ⟨(some (63)), .move (.tmp 5), none, [0, 1, 2, 3, 4, 5, 6]⟩, 
  ⟨(some (64)), .move (.tmp 10), none, [0, 1, 2, 3, 4, 5, 6, 7]⟩, 
  ⟨(some (65)), .indexAddr 3 (.tmp 63) (.tmp 64), none, [0, 1, 2, 3, 4, 5, 6]⟩, 
  ⟨(some (66)), .fieldAddr 2 (.tmp 65), none, [0, 1, 2, 3, 4, 5, 6]⟩, 
  ⟨(some (67)), .load none (.tmp 66), none, [0, 1, 2, 3, 4, 5, 6]⟩, 
  ⟨(some (68)), .call (.const (.fn (.func 37) [] [])) [.tmp 56, .tmp 57, .tmp 62, .tmp 67], none, []⟩, 
  ⟨(some (55)), .move (.tmp 68), none, []⟩, 
  ⟨(some (69)), .extract (.tmp 55) 0, none, []⟩, 
  ⟨(some (70)), .extract (.tmp 55) 1, none, [14]⟩, 
  ⟨none, .store 13 (.tmp 7) (.tmp 69), none, [15]⟩, 
  ⟨(some (8)), .move (.tmp 70), none, []⟩]
def k_law03_CathodeBounds_r13s : List (List AOper) := [
  [
  ⟨(some (56)), .load (some (7)) (.tmp 4), none, []⟩, 
  ⟨(some (57)), .load (some (13)) (.tmp 7), none, [0]⟩, 
  ⟨(some (58)), .move (.tmp 5), none, [0, 1]⟩, 
  ⟨(some (59)), .move (.tmp 10), none, [0, 1, 2]⟩, 
  ⟨(some (60)), .indexAddr 3 (.tmp 58) (.tmp 59), none, [0, 1]⟩, 
  ⟨(some (61)), .fieldAddr 1 (.tmp 60), none, [0, 1]⟩, 
  ⟨(some (62)), .load none (.tmp 61), none, [0, 1]⟩, 
  ⟨(some (63)), .move (.tmp 5), none, [0, 1, 2, 3, 4, 5, 6]⟩, 
  ⟨(some (64)), .move (.tmp 10), none, [0, 1, 2, 3, 4, 5, 6, 7]⟩, 
  ⟨(some (65)), .indexAddr 3 (.tmp 63) (.tmp 64), none, [0, 1, 2, 3, 4, 5, 6]⟩, 
  ⟨(some (66)), .fieldAddr 2 (.tmp 65), none, [0, 1, 2, 3, 4, 5, 6]⟩, 
  ⟨(some (67)), .load none (.tmp 66), none, [0, 1, 2, 3, 4, 5, 6]⟩], 
  [
  ⟨(some (68)), .call (.const (.fn (.func 37) [] [])) [.tmp 56, .tmp 57, .tmp 62, .tmp 67], none, []⟩], 
  [
  ⟨(some (55)), .move (.tmp 68), none, []⟩], 
  [
  ⟨(some (69)), .extract (.tmp 55) 0, none, []⟩, 
  ⟨(some (70)), .extract (.tmp 55) 1, none, [14]⟩, 
  ⟨none, .store 13 (.tmp 7) (.tmp 69), none, [15]⟩], 
  [
  ⟨(some (8)), .move (.tmp 70), none, []⟩]]
theorem k_law03_CathodeBounds_r13_sg : segs k_law03_CathodeBounds_r13 = k_law03_CathodeBounds_r13s := by kernel_rfl
theorem k_law03_CathodeBounds_r13_st : statOK k_law03_CathodeBounds_r13 = true := by kernel_rfl
def k_law03_CathodeBounds_r14 : List AOper := [
  ⟨(some (71)), .move (.tmp 9), none, []⟩, 
  ⟨(some (72)), .bin .plain .add (.tmp 71) (.const (.int .i64 1)), none, []⟩, 
  ⟨(some (9)), .move (.tmp 72), none, []⟩]
def k_law03_CathodeBounds_r15 : List AOper := [
  ⟨(some (73)), .move (.tmp 6), none, []⟩, 
  ⟨(some (74)), .move (.tmp 9), none, [0]⟩, 
  ⟨(some (75)), .bin .plain .sub (.tmp 74) (.const (.int .i64 1)), none, [0]⟩, 
  ⟨(some (76)), .indexAddr 4 (.tmp 73) (.tmp 75), none, []⟩, 
  ⟨(some (77)), .fieldAddr 0 (.tmp 76), none, []⟩, 
  ⟨(some (78)), .load none (.tmp 77), none, []⟩, 
  ⟨(some (79)), .move (.tmp 6), none, [0, 1, 2, 3, 4, 5]⟩, 
  ⟨(some (80)), .move (.tmp 9), none, [0, 1, 2, 3, 4, 5, 6]⟩, 
  ⟨(some (81)), .indexAddr 4 (.tmp 79) (.tmp 80), none, [0, 1, 2, 3, 4, 5]⟩, 
  ⟨(some (82)), .fieldAddr 0 (.tmp 81), none, [0, 1, 2, 3, 4, 5]⟩, 
  ⟨(some (83)), .load none (.tmp 82), none, [0, 1, 2, 3, 4, 5]⟩, 
  ⟨(some (84)), .bin .plain .sub (.tmp 78) (.tmp 83), none, []⟩, 
  ⟨(some (12)), .move (.tmp 84), none, []⟩]
def k_law03_CathodeBounds_r15s : List (List AOper) := [
  [
  ⟨(some (73)), .move (.tmp 6), none, []⟩, 
  ⟨(some (74)), .move (.tmp 9), none, [0]⟩, 
  ⟨(some (75)), .bin .plain .sub (.tmp 74) (.const (.int .i64 1)), none, [0]⟩, 
  ⟨(some (76)), .indexAddr 4 (.tmp 73) (.tmp 75), none, []⟩, 
  ⟨(some (77)), .fieldAddr 0 (.tmp 76), none, []⟩, 
  ⟨(some (78)), .load none (.tmp 77), none, []⟩, 
  ⟨(some (79)), .move (.tmp 6), none, [0, 1, 2, 3, 4, 5]⟩, 
  ⟨(some (80)), .move (.tmp 9), none, [0, 1, 2, 3, 4, 5, 6]⟩, 
  ⟨(some (81)), .indexAddr 4 (.tmp 79) (.tmp 80), none, [0, 1, 2, 3, 4, 5]⟩, 
  ⟨(some (82)), .fieldAddr 0 (.tmp 81), none, [0, 1, 2, 3, 4, 5]⟩, 
  ⟨(some (83)), .load none (.tmp 82), none, [0, 1, 2, 3, 4, 5]⟩], 
  [
  ⟨(some (84)), .bin .plain .sub (.tmp 78) (.tmp 83), none, []⟩], 
  [
  ⟨(some (12)), .move (.tmp 84), none, []⟩]]
theorem k_law03_CathodeBounds_r15_sg : segs k_law03_CathodeBounds_r15 = k_law03_CathodeBounds_r15s := by kernel_rfl
theorem k_law03_CathodeBounds_r15_st : statOK k_law03_CathodeBounds_r15 = true := by kernel_rfl
def k_law03_CathodeBounds_r16 : List AOper := [
  ⟨(some (85)), .move (.tmp 6), none, []⟩, 
  ⟨(some (86)), .move (.tmp 9), none, []⟩, 
  ⟨(some (87)), .indexAddr 4 (.tmp 85) (.tmp 86), none, []⟩, 
  ⟨(some (88)), .load (some (4)) (.tmp 87), none, []⟩, 
  ⟨(some (13)), .box (.const (.agg [.int .i64 0, .int .i64 0, .int .i64 0, .int .i64 0])), none, []⟩, 
  ⟨none, .store 4 (.tmp 13) (.tmp 88), none, []⟩]
def k_law03_CathodeBounds_r17 : List AOper := [
  ⟨(some (89)), .move (.tmp 8), none, []⟩, 
  ⟨(some (90)), .bin .plain .neq (.tmp 89) (.const (.int .i64 0)), none, []⟩, 
  ⟨(some (91)), .move (.tmp 90), none, []⟩, 
  ⟨(some (92)), .load (some (13)) (.tmp 7), (some (91, false)), []⟩, 
  ⟨(some (93)), .load (some (4)) (.tmp 13), (some (91, false)), []⟩, 
  ⟨(some (94)), .call (.const (.fn (.func 58) [] [])) [.tmp 92, .tmp 93], (some (91, false)), []⟩, 
  ⟨(some (95)), .not (.tmp 94), (some (91, false)), []⟩, 
  ⟨(some (96)), .pick (.tmp 91) (.const (.bool true)) (.tmp 95), none, []⟩, 
  ⟨(some (97)), .move (.tmp 96), none, []⟩, 
  ⟨(some (98)), .move (.tmp 12), (some (97, false)), []⟩, 
  ⟨(some (99)), .fieldAddr 8 (.tmp 7), (some (97, false)), []⟩, 
  ⟨(some (100)), .fieldAddr 0 (.tmp 99), (some (97, false)), []⟩, 
  ⟨(some (101)), .load none (.tmp 100), (some (97, false)), []⟩, 
  ⟨(some (102)), .bin .plain .lss (.tmp 98) (.tmp 101), (some (97, false)), []⟩, 
  ⟨(some (103)), .pick (.tmp 97) (.const (.bool true)) (.tmp 102), none, []⟩, 
  ⟨(some (104)), .move (.tmp 103), none, []⟩, 
  ⟨(some (105)), .move (.tmp 12), (some (104, false)), []⟩, 
  ⟨(some (106)), .fieldAddr 8 (.tmp 7), (some (104, false)), []⟩, 
  ⟨(some (107)), .fieldAddr 1 (.tmp 106), (some (104, false)), []⟩, 
  ⟨(some (108)), .load none (.tmp 107), (some (104, false)), []⟩, 
  ⟨(some (109)), .bin .plain .gtr (.tmp 105) (.tmp 108), (some (104, false)), []⟩, 
  ⟨(some (110)), .pick (.tmp 104) (.const (.bool true)) (.tmp 109), none, []⟩, 
  ⟨(some (111)), .move (.tmp 110), none, []⟩, 
  ⟨(some (112)), .fieldAddr 0 (.tmp 13), (some (111, false)), []⟩, 
  ⟨(some (113)), .load none (.tmp 112), (some (111, false)), []⟩, 
  ⟨(some (114)), .fieldAddr 1 (.tmp 13), (some (111, false)), []⟩, 
  ⟨(some (115)), .load none (.tmp 114), (some (111, false)), []⟩, 
  ⟨(some (116)), .bin .plain .add (.tmp 113) (.tmp 115), (some (111, false)), []⟩, 
  ⟨(some (117)), .fieldAddr 2 (.tmp 13), (some (111, false)), []⟩, 
  ⟨(some (118)), .load none (.tmp 117), (some (111, false)), []⟩, 
  ⟨(some (119)), .bin .plain .add (.tmp 116) (.tmp 118), (some (111, false)), []⟩, 
  ⟨(some (120)), .fieldAddr 3 (.tmp 13), (some (111, false)), []⟩, 
  ⟨(some (121)), .load none (.tmp 120), (some (111, false)), []⟩, 
  ⟨(some (122)), .bin .plain .add (.tmp 119) (.tmp 121), (some (111, false)), []⟩, 
  ⟨(some (123)), .fieldAddr 0 (.tmp 4), (some (111, false)), []⟩, 
  ⟨(some (124)), .load none (.tmp 123), (some (111, false)), []⟩, 
  ⟨(some (125)), .bin .plain .neq (.tmp 122) (.tmp 124), (some (111, false)), []⟩, 
  ⟨(some (126)), .pick (.tmp 111) (.const (.bool true)) (.tmp 125), none, []⟩]
def k_law03_CathodeBounds_r18 : List AOper := [
  ⟨(some (2)), .move (.const (.bool false)), none, []⟩]
def k_law03_CathodeBounds_r19 : List AOper := [
  ⟨(some (53)), .move (.tmp 11), none, []⟩, 
  ⟨(some (54)), .bin .plain .add (.tmp 53) (.const (.int .i64 1)), none, []⟩, 
  ⟨(some (11)), .move (.tmp 54), none, []⟩]
def k_law03_CathodeBounds_r20 : ACode := (.seq (.seq (.reg k_law03_CathodeBounds_r12 false) (.cond (.tmp 52) .skip (.exit 2))) (.seq (.block 3 (.seq (.reg k_law03_CathodeBounds_r13 true) (.seq (.reg k_law03_CathodeBounds_r14 false) (.seq (.reg k_law03_CathodeBounds_r15 true) (.seq (.reg k_law03_CathodeBounds_r16 false) (.seq (.reg k_law03_CathodeBounds_r17 false) (.cond (.tmp 126) (.seq (.reg k_law03_CathodeBounds_r18 false) .ret) .skip))))))) (.reg k_law03_CathodeBounds_r19 false)))
def k_law03_CathodeBounds_r21 : List AOper := [
  ⟨(some (44)), .move (.tmp 10), none, []⟩, 
  ⟨(some (45)), .bin .plain .add (.tmp 44) (.const (.int .i64 1)), none, []⟩, 
  ⟨(some (10)), .move (.tmp 45), none, []⟩]
def k_law03_CathodeBounds_r22 : ACode := (.seq (.seq (.reg k_law03_CathodeBounds_r10 false) (.cond (.tmp 43) .skip (.exit 0))) (.seq (.block 1 (.seq (.reg k_law03_CathodeBounds_r11 false) (.block 2 (.loop k_law03_CathodeBounds_r20)))) (.reg k_law03_CathodeBounds_r21 false)))
def k_law03_CathodeBounds_r23 : List AOper := [
  ⟨(some (128)), .load (some (7)) (.tmp 4), none, []⟩, 
  ⟨(some (129)), .move (.tmp 5), none, []⟩, 
  ⟨(some (130)), .call (.const (.fn (.func 39) [] [])) [.tmp 128, .tmp 129], none, []⟩, 
  ⟨(some (127)), .move (.tmp 130), none, []⟩, 
  ⟨(some (131)), .extract (.tmp 127) 0, none, []⟩, 
  ⟨(some (132)), .extract (.tmp 127) 1, none, []⟩, 
  ⟨(some (14)), .move (.tmp 131), none, []⟩, 
  ⟨(some (15)), .move (.tmp 132), none, []⟩]
def k_law03_CathodeBounds_r24 : List AOper := [
  ⟨(some (133)), .move (.tmp 15), none, []⟩, 
  ⟨(some (134)), .bin .plain .eql (.tmp 133) (.const (.int .i64 0)), none, []⟩, 
  ⟨(some (135)), .move (.tmp 134), none, []⟩, 
  ⟨(some (136)), .move (.tmp 14), (some (135, true)), []⟩, 
  ⟨(some (137)), .len false (.tmp 136), (some (135, true)), []⟩, 
  ⟨(some (138)), .move (.tmp 5), (some (135, true)), [3, 4]⟩, 
  ⟨(some (139)), .len false (.tmp 138), (some (135, true)), [3, 4]⟩, 
  ⟨(some (140)), .bin .plain .eql (.tmp 137) (.tmp 139), (some (135, true)), []⟩, 
  ⟨(some (141)), .pick (.tmp 135) (.tmp 140) (.const (.bool false)), none, []⟩, 
  ⟨(some (142)), .move (.tmp 141), none, []⟩, 
  ⟨(some (143)), .move (.tmp 5), (some (142, true)), []⟩, 
  ⟨(some (144)), .len false (.tmp 143), (some (142, true)), []⟩, 
  ⟨(some (145)), .bin .plain .eql (.tmp 144) (.const (.int .i64 0)), (some (142, true)), []⟩, 
  ⟨(some (146)), .move (.tmp 145), (some (142, true)), []⟩, 
  ⟨(some (147)), .move (.tmp 14), (some (146, false)), []⟩, 
  ⟨(some (148)), .move (.tmp 5), (some (146, false)), [14]⟩, 
  ⟨(some (149)), .len false (.tmp 148), (some (146, false)), [14]⟩, 
  ⟨(some (150)), .bin .plain .sub (.tmp 149) (.const (.int .i64 1)), (some (146, false)), [14]⟩, 
  ⟨(some (151)), .indexAddr 13 (.tmp 147) (.tmp 150), (some (146, false)), []⟩, 
  ⟨(some (152)), .load (some (13)) (.tmp 151), (some (146, false)), []⟩, 
  ⟨(some (153)), .load (some (13)) (.tmp 7), (some (146, false)), [14, 15, 16, 17, 18, 19]⟩, 
  ⟨(some (154)), .eqAgg false [.int, .int, .int, .int, .int, .int, .int, .int, .int, .int, .int, .int, .int] (.tmp 152) (.tmp 153), (some (146, false)), []⟩, 
  ⟨(some (155)), .pick (.tmp 146) (.const (.bool true)) (.tmp 154), (some (142, true)), []⟩, 
  ⟨(some (156)), .pick (.tmp 142) (.tmp 155) (.const (.bool false)), none, []⟩, 
  ⟨(some (157)), .move (.tmp 156), none, []⟩, 
  ⟨(some (158)), .call (.const (.fn (.func 18) [] [])) [], (some (157, true)), []⟩, 
  ⟨(some (159)), .pick (.tmp 157) (.tmp 158) (.const (.bool false)), none, []⟩, 
  ⟨(some (2)), .move (.tmp 159), none, []⟩]
def k_law03_CathodeBounds_r24s : List (List AOper) := [
  [
  ⟨(some (133)), .move (.tmp 15), none, []⟩], 
  [
  ⟨(some (134)), .bin .plain .eql (.tmp 133) (.const (.int .i64 0)), none, []⟩], 
  [
  ⟨(some (135)), .move (.tmp 134), none, []⟩], 
  [
  ⟨(some (136)), .move (.tmp 14), (some (135, true)), []⟩, 
  ⟨(some (137)), .len false (.tmp 136), (some (135, true)), []⟩, 
  ⟨(some (138)), .move (.tmp 5), (some (135, true)), [3, 4]⟩, 
  ⟨(some (139)), .len false (.tmp 138), (some (135, true)), [3, 4]⟩], 
  [
  ⟨(some (140)), .bin .plain .eql (.tmp 137) (.tmp 139), (some (135, true)), []⟩], 
  [
  ⟨(some (141)), .pick (.tmp 135) (.tmp 140) (.const (.bool false)), none, []⟩], 
  [
  ⟨(some (142)), .move (.tmp 141), none, []⟩], 
  [
  ⟨(some (143)), .move (.tmp 5), (some (142, true)), []⟩], 
  [
  ⟨(some (144)), .len false (.tmp 143), (some (142, true)), []⟩], 
  [
  ⟨(some (145)), .bin .plain .eql (.tmp 144) (.const (.int .i64 0)), (some (142, true)), []⟩], 
  [
  ⟨(some (146)), .move (.tmp 145), (some (142, true)), []⟩], 
  [
  ⟨(some (147)), .move (.tmp 14), (some (146, false)), []⟩, 
  ⟨(some (148)), .move (.tmp 5), (some (146, false)), [14]⟩, 
  ⟨(some (149)), .len false (.tmp 148), (some (146, false)), [14]⟩, 
  ⟨(some (150)), .bin .plain .sub (.tmp 149) (.const (.int .i64 1)), (some (146, false)), [14]⟩, 
  ⟨(some (151)), .indexAddr 13 (.tmp 147) (.tmp 150), (some (146, false)), []⟩, 
  ⟨(some (152)), .load (some (13)) (.tmp 151), (some (146, false)), []⟩, 
  ⟨(some (153)), .load (some (13)) (.tmp 7), (some (146, false)), [14, 15, 16, 17, 18, 19]⟩], 
  [
  ⟨(some (154)), .eqAgg false [.int, .int, .int, .int, .int, .int, .int, .int, .int, .int, .int, .int, .int] (.tmp 152) (.tmp 153), (some (146, false)), []⟩], 
  [
  ⟨(some (155)), .pick (.tmp 146) (.const (.bool true)) (.tmp 154), (some (142, true)), []⟩], 
  [
  ⟨(some (156)), .pick (.tmp 142) (.tmp 155) (.const (.bool false)), none, []⟩], 
  [
  ⟨(some (157)), .move (.tmp 156), none, []⟩], 
  [
  ⟨(some (158)), .call (.const (.fn (.func 18) [] [])) [], (some (157, true)), []⟩], 
  [
  ⟨(some (159)), .pick (.tmp 157) (.tmp 158) (.const (.bool false)), none, []⟩], 
  [
  ⟨(some (2)), .move (.tmp 159), none, []⟩]]
theorem k_law03_CathodeBounds_r24_sg : segs k_law03_CathodeBounds_r24 = k_law03_CathodeBounds_r24s := by kernel_rfl
theorem k_law03_CathodeBounds_r24_st : statOK k_law03_CathodeBounds_r24 = true := by kernel_rfl
def k_law03_CathodeBounds : AFun := { params := 1, ntmps := 160, body := (.seq (.reg k_law03_CathodeBounds_r0 false) (.seq (.reg k_law03_CathodeBounds_r1 false) (.seq (.reg k_law03_CathodeBounds_r2 false) (.seq (.reg k_law03_CathodeBounds_r3 false) (.seq (.reg k_law03_CathodeBounds_r4 false) (.seq (.reg k_law03_CathodeBounds_r5 false) (.seq (.seq (.reg k_law03_CathodeBounds_r6 false) (.cond (.tmp 39) (.seq (.reg k_law03_CathodeBounds_r7 false) .ret) .skip)) (.seq (.reg k_law03_CathodeBounds_r8 false) (.seq (.seq (.reg k_law03_CathodeBounds_r9 false) (.block 0 (.loop k_law03_CathodeBounds_r22))) (.seq (.reg k_law03_CathodeBounds_r23 false) (.seq (.reg k_law03_CathodeBounds_r24 true) .ret))))))))))), res := [.tmp 2] }
theorem k_law03_CathodeBounds_ok : cfun Try.prog Try.f10 = k_law03_CathodeBounds := by kernel_rfl

-- 58: thermion/thermionlaw03.holds
def k_law03_holds_r0 : List AOper := [
  ⟨(some (2)), .box (.tmp 0), none, []⟩, 
  ⟨(some (3)), .box (.tmp 1), none, []⟩, 
  ⟨(some (4)), .move (.const (.bool false)), none, []⟩]
def k_law03_holds_r1 : List AOper := [
  ⟨(some (5)), .fieldAddr 0 (.tmp 3), none, []⟩, 
  ⟨(some (6)), .load none (.tmp 5), none, []⟩, 
  ⟨(some (7)), .fieldAddr 0 (.tmp 2), none, []⟩, 
  ⟨(some (8)), .fieldAddr 0 (.tmp 7), none, []⟩, 
  ⟨(some (9)), .load none (.tmp 8), none, []⟩, 
  ⟨(some (10)), .bin .plain .geq (.tmp 6) (.tmp 9), none, []⟩, 
  ⟨(some (11)), .move (.tmp 10), none, []⟩, 
  ⟨(some (12)), .fieldAddr 0 (.tmp 3), (some (11, true)), []⟩, 
  ⟨(some (13)), .load none (.tmp 12), (some (11, true)), []⟩, 
  ⟨(some (14)), .fieldAddr 0 (.tmp 2), (some (11, true)), []⟩, 
  ⟨(some (15)), .fieldAddr 1 (.tmp 14), (some (11, true)), []⟩, 
  ⟨(some (16)), .load none (.tmp 15), (some (11, true)), []⟩, 
  ⟨(some (17)), .bin .plain .leq (.tmp 13) (.tmp 16), (some (11, true)), []⟩, 
  ⟨(some (18)), .pick (.tmp 11) (.tmp 17) (.const (.bool false)), none, []⟩, 
  ⟨(some (19)), .move (.tmp 18), none, []⟩, 
  ⟨(some (20)), .fieldAddr 1 (.tmp 3), (some (19, true)), []⟩, 
  ⟨(some (21)), .load none (.tmp 20), (some (19, true)), []⟩, 
  ⟨(some (22)), .fieldAddr 2 (.tmp 2), (some (19, true)), []⟩, 
  ⟨(some (23)), .fieldAddr 0 (.tmp 22), (some (19, true)), []⟩, 
  ⟨(some (24)), .load none (.tmp 23), (some (19, true)), []⟩, 
  ⟨(some (25)), .bin .plain .geq (.tmp 21) (.tmp 24), (some (19, true)), []⟩, 
  ⟨(some (26)), .pick (.tmp 19) (.tmp 25) (.const (.bool false)), none, []⟩, 
  ⟨(some (27)), .move (.tmp 26), none, []⟩, 
  ⟨(some (28)), .fieldAddr 1 (.tmp 3), (some (27, true)), []⟩, 
  ⟨(some (29)), .load none (.tmp 28), (some (27, true)), []⟩, 
  ⟨(some (30)), .fieldAddr 2 (.tmp 2), (some (27, true)), []⟩, 
  ⟨(some (31)), .fieldAddr 1 (.tmp 30), (some (27, true)), []⟩, 
  ⟨(some (32)), .load none (.tmp 31), (some (27, true)), []⟩, 
  ⟨(some (33)), .bin .plain .leq (.tmp 29) (.tmp 32), (some (27, true)), []⟩, 
  ⟨(some (34)), .pick (.tmp 27) (.tmp 33) (.const (.bool false)), none, []⟩, 
  ⟨(some (35)), .move (.tmp 34), none, []⟩, 
  ⟨(some (36)), .fieldAddr 2 (.tmp 3), (some (35, true)), []⟩, 
  ⟨(some (37)), .load none (.tmp 36), (some (35, true)), []⟩, 
  ⟨(some (38)), .fieldAddr 4 (.tmp 2), (some (35, true)), []⟩, 
  ⟨(some (39)), .fieldAddr 0 (.tmp 38), (some (35, true)), []⟩, 
  ⟨(some (40)), .load none (.tmp 39), (some (35, true)), []⟩, 
  ⟨(some (41)), .bin .plain .geq (.tmp 37) (.tmp 40), (some (35, true)), []⟩, 
  ⟨(some (42)), .pick (.tmp 35) (.tmp 41) (.const (.bool false)), none, []⟩, 
  ⟨(some (43)), .move (.tmp 42), none, []⟩, 
  ⟨(some (44)), .fieldAddr 2 (.tmp 3), (some (43, true)), []⟩, 
  ⟨(some (45)), .load none (.tmp 44), (some (43, true)), []⟩, 
  ⟨(some (46)), .fieldAddr 4 (.tmp 2), (some (43, true)), []⟩, 
  ⟨(some (47)), .fieldAddr 1 (.tmp 46), (some (43, true)), []⟩, 
  ⟨(some (48)), .load none (.tmp 47), (some (43, true)), []⟩, 
  ⟨(some (49)), .bin .plain .leq (.tmp 45) (.tmp 48), (some (43, true)), []⟩, 
  ⟨(some (50)), .pick (.tmp 43) (.tmp 49) (.const (.bool false)), none, []⟩, 
  ⟨(some (51)), .move (.tmp 50), none, []⟩, 
  ⟨(some (52)), .fieldAddr 3 (.tmp 3), (some (51, true)), []⟩, 
  ⟨(some (53)), .load none (.tmp 52), (some (51, true)), []⟩, 
  ⟨(some (54)), .fieldAddr 6 (.tmp 2), (some (51, true)), []⟩, 
  ⟨(some (55)), .fieldAddr 0 (.tmp 54), (some (51, true)), []⟩, 
  ⟨(some (56)), .load none (.tmp 55), (some (51, true)), []⟩, 
  ⟨(some (57)), .bin .plain .geq (.tmp 53) (.tmp 56), (some (51, true)), []⟩, 
  ⟨(some (58)), .pick (.tmp 51) (.tmp 57) (.const (.bool false)), none, []⟩, 
  ⟨(some (59)), .move (.tmp 58), none, []⟩, 
  ⟨(some (60)), .fieldAddr 3 (.tmp 3), (some (59, true)), []⟩, 
  ⟨(some (61)), .load none (.tmp 60), (some (59, true)), []⟩, 
  ⟨(some (62)), .fieldAddr 6 (.tmp 2), (some (59, true)), []⟩, 
  ⟨(some (63)), .fieldAddr 1 (.tmp 62), (some (59, true)), []⟩, 
  ⟨(some (64)), .load none (.tmp 63), (some (59, true)), []⟩, 
  ⟨(some (65)), .bin .plain .leq (.tmp 61) (.tmp 64), (some (59, true)), []⟩, 
  ⟨(some (66)), .pick (.tmp 59) (.tmp 65) (.const (.bool false)), none, []⟩, 
  ⟨(some (4)), .move (.tmp 66), none, []⟩]
def k_law03_holds : AFun := { params := 2, ntmps := 67, body := (.seq (.reg k_law03_holds_r0 false) (.seq (.reg k_law03_holds_r1 false) .ret)), res := [.tmp 4] }
theorem k_law03_holds_ok : cfun Try.prog Try.f58 = k_law03_holds := by kernel_rfl


abbrev n_law03_CathodeBounds : Nat := 10
theorem e_law03_CathodeBounds : EntryOK Try.prog n_law03_CathodeBounds k_law03_CathodeBounds := ⟨Try.f10, Try.func10, k_law03_CathodeBounds_ok, by kernel_rfl⟩
abbrev n_law03_holds : Nat := 58
theorem e_law03_holds : EntryOK Try.prog n_law03_holds k_law03_holds := ⟨Try.f58, Try.func58, k_law03_holds_ok, by kernel_rfl⟩

attribute [go_sem] k_law03_CathodeBounds_r0 k_law03_CathodeBounds_r1 k_law03_CathodeBounds_r2 k_law03_CathodeBounds_r3 k_law03_CathodeBounds_r4 k_law03_CathodeBounds_r5 k_law03_CathodeBounds_r6 k_law03_CathodeBounds_r7 k_law03_CathodeBounds_r8 k_law03_CathodeBounds_r9 k_law03_CathodeBounds_r10 k_law03_CathodeBounds_r11
attribute [go_sem] k_law03_CathodeBounds_r12 k_law03_CathodeBounds_r13s k_law03_CathodeBounds_r14 k_law03_CathodeBounds_r15s k_law03_CathodeBounds_r16 k_law03_CathodeBounds_r17 k_law03_CathodeBounds_r18 k_law03_CathodeBounds_r19 k_law03_CathodeBounds_r21 k_law03_CathodeBounds_r23 k_law03_CathodeBounds_r24s k_law03_holds_r0
attribute [go_sem] k_law03_holds_r1 k_law03_CathodeBounds_r13_sg k_law03_CathodeBounds_r15_sg k_law03_CathodeBounds_r24_sg k_law03_CathodeBounds_r13_st k_law03_CathodeBounds_r15_st k_law03_CathodeBounds_r24_st k_law03_CathodeBounds k_law03_holds
end Go.Proofs
namespace Go.Proofs
open Go Go.Sx
attribute [local irreducible] Run

theorem mx_snoc (xs : List Mx) (y : Mx) : List.map Mx.v xs ++ [.agg [.int .i64 y.carb, .int .i64 y.ox, .int .i64 y.ba, .int .i64 y.lost]] = List.map Mx.v (xs ++ [y]) := by
  rw [List.map_append]; rfl


/-- What a mix becomes. -/
def stepM (w style : Int) (m : Mx) (b : Bd) : Mx :=
  let x := someV w style m.carb b.conv
  let y := someV (someW w style) style m.ox b.red
  let z := someV (someW (someW w style) style) style m.ba b.evap
  ⟨m.carb - x, m.ox + x - y, m.ba + y - z, m.lost + z⟩
theorem stepM_fol {c : Ct} {m : Mx} {b : Bd} (w style : Int) (hb : BdOK b) (hm : MxOK c m) : Fol m (stepM w style m b) b := by
  obtain ⟨a1, a2, a3, a4, a5⟩ := hm
  have x := someV_in (w := w) (style := style) a1 hb.conv
  have y := someV_in (w := someW w style) (style := style) a2 hb.red
  have z := someV_in (w := someW (someW w style) style) (style := style) a3 hb.evap
  unfold stepM
  generalize someV w style m.carb b.conv = x at *
  generalize someV (someW w style) style m.ox b.red = y at *
  generalize someV (someW (someW w style) style) style m.ba b.evap = z at *
  exact ⟨by dsimp only; omega, by dsimp only; omega, by dsimp only; omega, by dsimp only; omega⟩

def crsH (w : Int) (c : Ct) (l : List Ht) (g : Bool) (m : Mx) (b : Bool) (ms : List Mx) (X : Heap) : Heap :=
  some (Dr w) :: some (BdR c.bands) :: some (.cells g 3 (l.map Ht.v)) :: some (.cells false 7 [c.v (.sl 1 0 c.bands.length)]) :: some (.cells false 4 [m.v]) :: some (.cells b 4 (ms.map Mx.v)) :: X
def crsT (style : Int) (n : Nat) (heat i : Int) (k : Nat) : List (Nat × AVal) := [(0, .ptr 0 0 0 1), (2, .sl 2 0 n), (4, .ptr 3 0 0 1), (6, .nilsl), (7, .ptr 4 0 0 1), (8, .sl 5 0 k), (9, .int .i64 heat), (10, .int .i64 style), (11, .int .i64 i)]

set_option maxHeartbeats 4000000 in
theorem course_inner {G : Ctx} {fs : List Sx.Frame} {Q : Goal} (c : Ct) (hc : CtOK c) (l : List Ht) (hl : LsOK l) (g : Bool) (style : Int) (i : Nat) (z : Ht) (hx : l[i]? = some z)
    (hK : ∀ w m b ms X ρ', Crs c (flat (l.take (i + 1))) ms m → Wk ρ' (tsets 102 (crsT style l.length (heatOf c (flat (l.take (i + 1)))) ((i + 1 : Nat) : Int) ms.length)) → Sx.Loop Try.prog G 3 none k_kit_CourseOf_r18 fs ⟨ρ', crsH w c l g m b ms X, []⟩ Q)
    (t : Nat) (ht : t ≤ z.ticks.toNat) (w : Int) (m : Mx) (b : Bool) (ms : List Mx) (X : Heap) (hcr : Crs c (flat (l.take i) ++ List.replicate t z) ms m) (ρ : List AVal)
    (hw : Wk ρ (tsets 102 (crsT style l.length (heatOf c (flat (l.take i) ++ List.replicate t z)) i ms.length ++ [(12, .int .i64 t)]))) :
    Sx.Loop Try.prog G 3 none k_kit_CourseOf_r16 ([.blk 2, .blk 1, .seq (.reg k_kit_CourseOf_r17 false), .rnd k_kit_CourseOf_r18] ++ fs) ⟨ρ, crsH w c l g m b ms X, []⟩ Q := by
  have hlen := hl.len
  have hsum := hl.sum
  have h1 : i < l.length := (List.getElem?_eq_some_iff.1 hx).1
  have h2 : (i : Int) < l.length := by omega
  have hz := hl.all z (List.mem_of_getElem? hx)
  have hzt := hz.ticks
  have h3 := idx_next h1 (by omega)
  have n0 : ¬ (i : Int) < 0 := by omega
  have hs := flat_succ hx
  have hfl := flat_len (l := l.take i) fun x hx => hl.all x (List.mem_of_mem_take hx)
  have hr0 := lenOfL_take hl.all i
  have hallt : ∀ t : Nat, ∀ y ∈ flat (l.take i) ++ List.replicate t z, HtOK y := fun t y hy => by
    rcases List.mem_append.1 hy with hy | hy
    · exact hl.all _ (List.mem_of_mem_take (flat_mem hy))
    · rw [List.mem_replicate] at hy; rw [hy.2]; exact hz
  refine loop_ind k_kit_CourseOf_r16.eq_1 (fun a : Nat × Int × Mx × Bool × List Mx × Heap => a.1 ≤ z.ticks.toNat ∧ Crs c (flat (l.take i) ++ List.replicate a.1 z) a.2.2.2.2.1 a.2.2.1) (fun a => z.ticks.toNat - a.1)
    (fun a => (tsets 102 (crsT style l.length (heatOf c (flat (l.take i) ++ List.replicate a.1 z)) i a.2.2.2.2.1.length ++ [(12, .int .i64 a.1)]), crsH a.2.1 c l g a.2.2.1 a.2.2.2.1 a.2.2.2.2.1 a.2.2.2.2.2)) (t, w, m, b, ms, X) ⟨ht, hcr⟩ hw rfl ?_
  clear hcr hw ht
  rintro ⟨t, w, m, b, ms, X⟩ ⟨ht, hcr⟩ ih
  dsimp only at ht hcr ih ⊢
  by_cases h4 : t < z.ticks.toNat
  · have h5 : (t : Int) < z.ticks := by omega
    have h6 := idx_next h4 (by omega)
    have hla : ∀ t : Nat, flat (l.take i) ++ List.replicate (t + 1) z = flat (l.take i) ++ List.replicate t z ++ [z] := fun t => by rw [List.replicate_succ', List.append_assoc]
    have hll := hcr.len
    have hmsl : (ms.length + 1) * 32 ≤ 2 ^ 44 := by
      simp only [List.length_append, List.length_replicate] at hll
      have : ms.length ≤ 100000 := by omega
      omega
    have hall1 := hallt (t + 1)
    have hh0 := heatOf_in hc (hallt t)
    have hok := hcr.ok hc (hallt t)
    rw [hla] at hall1
    have hh1 := heatOf_in hc hall1
    have hH := rHeat_run c hc (heatOf c (flat (l.take i) ++ List.replicate t z)) z.heat hh0 hz.heat
    rw [← heatOf_snoc] at hH
    have hB := rBand_run c hc (heatOf c (flat (l.take i) ++ List.replicate t z ++ [z])) z.cur hh1.1 hz.cur
    have hbd := ratesAt_ok hc hh1.1 hz.cur
    have hih := fun b hb hib ρ' => ih (t + 1, b) hb hib ρ'
    simp only [hla] at hih
    clear ih
    have hsn : ∀ m', Fol m m' (ratesAt c (heatOf c (flat (l.take i) ++ List.replicate t z ++ [z])) z.cur) → Crs c (flat (l.take i) ++ List.replicate t z ++ [z]) (ms ++ [m']) m' := fun m' hf => hcr.snoc hf
    generalize heatOf c (flat (l.take i) ++ List.replicate t z ++ [z]) = he' at *
    generalize heatOf c (flat (l.take i) ++ List.replicate t z) = he at *
    generalize ratesAt c he' z.cur = bd at *
    have hst := stepM_fol w style hbd hok
    have hcn := hsn _ hst
    have hmo := hst.ok hbd hok
    have a5 := hok.sum
    have hm := hc.amount
    have o1 := hok.carb; have o2 := hok.ox; have o3 := hok.ba; have o4 := hok.lost
    have p1 := hmo.carb; have p2 := hmo.ox; have p3 := hmo.ba; have p4 := hmo.lost; have p5 := hmo.sum
    have s1 := some_run w style m.carb bd.conv (by omega) hbd.conv
    have s2 := some_run (someW w style) style m.ox bd.red (by omega) hbd.red
    have s3 := some_run (someW (someW w style) style) style m.ba bd.evap (by omega) hbd.evap
    have i1 := someV_in (w := w) (style := style) o1 hbd.conv
    have i2 := someV_in (w := someW w style) (style := style) o2 hbd.red
    have i3 := someV_in (w := someW (someW w style) style) (style := style) o3 hbd.evap
    have b1 := hbd.conv.all; have b2 := hbd.red.all; have b3 := hbd.evap.all
    have c1 := dn_in o1 b1.1 (by omega); have c2 := up_in (r := bd.conv.hi) o1 (by omega) (by omega)
    have d1 := dn_in o2 b2.1 (by omega); have d2 := up_in (r := bd.red.hi) o2 (by omega) (by omega)
    have e1 := dn_in o3 b3.1 (by omega); have e2 := up_in (r := bd.evap.hi) o3 (by omega) (by omega)
    unfold stepM at hcn hst hmo p1 p2 p3 p4 p5
    generalize someV w style m.carb bd.conv = x at *
    generalize someV (someW w style) style m.ox bd.red = y at *
    generalize someV (someW (someW w style) style) style m.ba bd.evap = u at *
    dsimp only at hcn p1 p2 p3 p4 p5
    have f1 : IntKind.i64.wrap (m.carb - x) = m.carb - x := w64 (by omega)
    have f2 : IntKind.i64.wrap (m.ox + x) = m.ox + x := w64 (by omega)
    have f3 : IntKind.i64.wrap (m.ox + x - y) = m.ox + x - y := w64 (by omega)
    have f4 : IntKind.i64.wrap (m.ba + y) = m.ba + y := w64 (by omega)
    have f5 : IntKind.i64.wrap (m.ba + y - u) = m.ba + y - u := w64 (by omega)
    have f6 : IntKind.i64.wrap (m.lost + u) = m.lost + u := w64 (by omega)
    have esn := mx_snoc ms ⟨m.carb - x, m.ox + x - y, m.ba + y - u, m.lost + u⟩
    dsimp only at esn
    simp only [go_sem, crsT, crsH, hx, h2, n0, h5, Ht.v, Ht.cs, Ct.v, Ct.cs, List.length_map]
    refine cF hH 6 ⟨.inl (ct_frz (H := _) rfl), .inl rfl, .inl rfl, trivial⟩ ?_
    simp only [go_sem, hx, h2, n0, Ht.v, Ht.cs, Ct.v, Ct.cs, List.length_map]
    refine dF hB 6 [1] ⟨.inl (ct_frz (H := _) (onlyR_row rfl (by simp))), .inl rfl, .inl rfl, trivial⟩ ?_ (by simp only [go_sem, Bd.v, Bd.cs]) (by simp only [go_sem, Bd.v, Bd.cs])
    simp only [go_sem, Bd.v, Bd.cs, Mx.v, Mx.cs]
    refine cD s1 ?_
    simp only [go_sem, Mx.v, Mx.cs]
    refine cD s2 ?_
    simp only [go_sem, Mx.v, Mx.cs]
    refine cD s3 ?_
    simp only [go_sem, Mx.v, Mx.cs, f1, f2, f3, f4, f5, f6, hmsl, List.length_map]
    simp only [h6, esn]
    refine hih (someW (someW (someW w style) style) style, ⟨m.carb - x, m.ox + x - y, m.ba + y - u, m.lost + u⟩, true, ms ++ [⟨m.carb - x, m.ox + x - y, m.ba + y - u, m.lost + u⟩], _) (by omega) ⟨h4, hcn⟩ _ ?_
    simp [go_sem, crsT]
  · have h5 : ¬ (t : Int) < z.ticks := by omega
    have hte : t = z.ticks.toNat := by omega
    simp only [go_sem, crsT, crsH, hx, h2, n0, h5, Ht.v, Ht.cs, h3, List.length_map]
    rw [hte, ← hs] at hcr
    rw [hte, ← hs]
    exact hK w m b ms X _ hcr (by simp [go_sem, crsT])

set_option maxHeartbeats 4000000 in
theorem course_outer {G : Ctx} {R : AVal → Heap → Prop} (c : Ct) (hc : CtOK c) (l : List Ht) (hl : LsOK l) (g : Bool) (style : Int)
    (hR : ∀ w m b ms X, Crs c (flat l) ms m → R (.sl 5 0 ms.length) (crsH w c l g m b ms X))
    (i : Nat) (hi : i ≤ l.length) (w : Int) (m : Mx) (b : Bool) (ms : List Mx) (X : Heap) (hcr : Crs c (flat (l.take i)) ms m) (ρ : List AVal)
    (hw : Wk ρ (tsets 102 (crsT style l.length (heatOf c (flat (l.take i))) i ms.length))) :
    Sx.Loop Try.prog G 3 none k_kit_CourseOf_r18 [.blk 0, .seq (.seq (.reg k_kit_CourseOf_r19 false) .ret)] ⟨ρ, crsH w c l g m b ms X, []⟩ (RetPost [.tmp 6] R) := by
  refine loop_ind k_kit_CourseOf_r18.eq_1 (fun a : Nat × Int × Mx × Bool × List Mx × Heap => a.1 ≤ l.length ∧ Crs c (flat (l.take a.1)) a.2.2.2.2.1 a.2.2.1) (fun a => l.length - a.1)
    (fun a => (tsets 102 (crsT style l.length (heatOf c (flat (l.take a.1))) a.1 a.2.2.2.2.1.length), crsH a.2.1 c l g a.2.2.1 a.2.2.2.1 a.2.2.2.2.1 a.2.2.2.2.2)) (i, w, m, b, ms, X) ⟨hi, hcr⟩ hw rfl ?_
  clear hcr hw hi
  rintro ⟨i, w, m, b, ms, X⟩ ⟨hi, hcr⟩ ih
  dsimp only at hi hcr ih ⊢
  by_cases h1 : i < l.length
  · have h2 : (i : Int) < l.length := by omega
    simp only [go_sem, crsT, crsH, h2, List.length_map]
    refine course_inner c hc l hl g style i l[i] (List.getElem?_eq_getElem h1) ?_ 0 (Nat.zero_le _) w m b ms X (by simpa using hcr) _ (by simp [go_sem, crsT])
    intro w' m' b' ms' X' ρ' hcr' hw'
    exact ih (i + 1, w', m', b', ms', X') (by dsimp only; omega) ⟨h1, hcr'⟩ ρ' hw'
  · have h2 : ¬ (i : Int) < l.length := by omega
    rw [List.take_of_length_le (by omega)] at hcr
    simp only [go_sem, crsT, crsH, h2, List.length_map]
    exact hR w m b ms X hcr

set_option maxHeartbeats 4000000 in
theorem courseOf_run (w0 : Int) (c : Ct) (hc : CtOK c) (l : List Ht) (hl : LsOK l) (g : Bool) (h0 : l ≠ []) :
    AnsE Try.prog n_kit_CourseOf [.ptr 0 0 0 1, c.v (.sl 1 0 c.bands.length), .sl 2 0 l.length] [some (Dr w0), some (BdR c.bands), some (.cells g 3 (l.map Ht.v))] (fun a : List Mx × Int × Bool => ∃ m, Crs c (flat l) a.1 m) (fun a => .sl 3 0 a.1.length) (fun a => [some (Dr a.2.1), some (BdR c.bands), some (.cells g 3 (l.map Ht.v)), some (.cells a.2.2 4 (a.1.map Mx.v))]) := by
  have hu := upto_ok w0 4 (by decide)
  generalize upto w0 4 = style at *
  refine AnsE.keep (run_fn e_kit_CourseOf fun G => ?_) (fun a ha => ⟨by simp, by simp [go_sem], by simp only [go_sem], by simp only [go_sem], by rw [row_bel_cells]; simp only [go_sem], by rw [row_bel_cells]; simp only [go_sem], trivial⟩)
  simp only [go_sem, Ct.v, Ct.cs]
  refine cD hu ?_
  simp only [go_sem]
  refine course_outer c hc l hl g style ?_ 0 (Nat.zero_le _) (dstep w0) (start c) false [start c] [] Crs.nil _ (by simp [go_sem, crsT, heatOf, flat])
  intro w m b ms X hcr
  refine ⟨(ms, w, b), ⟨m, hcr⟩, kept_new (A := [some (Dr w), some (BdR c.bands), some (.cells g 3 (l.map Ht.v))]) 3 5 rfl rfl (by decide) (by simp [ren]) ?_ (by rw [row_bel_cells]; simp only [go_sem]) rfl⟩
  intro i x hi
  have h3 := (List.getElem?_eq_some_iff.1 hi).1
  simp only [List.length_cons, List.length_nil] at h3
  obtain rfl | rfl | rfl : i = 0 ∨ i = 1 ∨ i = 2 := by omega
  · simp at hi; subst hi; exact ⟨by simp only [go_sem], rfl⟩
  · simp at hi; subst hi; exact ⟨by simp only [go_sem], rfl⟩
  · simp at hi; subst hi; exact ⟨by rw [row_bel_cells]; simp only [go_sem], rfl⟩

/-- For no heating. -/
theorem courseOf_nil (w0 : Int) (c : Ct) :
    Ans Try.prog n_kit_CourseOf [.ptr 0 0 0 1, c.v (.sl 1 0 c.bands.length), .nilsl] [some (Dr w0), some (BdR c.bands)] (.sl 2 0 1) [some (Dr (dstep w0)), some (BdR c.bands), some (.cells false 4 ([start c].map Mx.v))] := by
  have hu := upto_ok w0 4 (by decide)
  generalize upto w0 4 = style at *
  refine Ans.keep (run_fn e_kit_CourseOf fun G => ?_) (by simp) (by simp [go_sem]) ⟨by simp only [go_sem], by simp only [go_sem], by rw [row_bel_cells]; simp only [go_sem], trivial⟩
  simp only [go_sem, Ct.v, Ct.cs]
  refine cD hu ?_
  simp only [go_sem]
  refine loop_body 200 k_kit_CourseOf_r18.eq_1 ?_
  simp only [go_sem]
  refine kept_new (A := [some (Dr (dstep w0)), some (BdR c.bands)]) 2 4 rfl rfl (by decide) (by simp [ren]) ?_ (by rw [row_bel_cells]; simp only [go_sem]) rfl
  intro i x hi
  have h3 := (List.getElem?_eq_some_iff.1 hi).1
  simp only [List.length_cons, List.length_nil] at h3
  obtain rfl | rfl : i = 0 ∨ i = 1 := by omega
  · simp at hi; subst hi; exact ⟨by simp only [go_sem], rfl⟩
  · simp at hi; subst hi; exact ⟨by simp only [go_sem], rfl⟩
end Go.Proofs
namespace Go.Proofs
open Go Go.Sx
attribute [local irreducible] Run

theorem holds_run {x : Cg} {m : Mx} (h : Holds x m) : Ans Try.prog n_law03_holds [x.v, m.v] [] (.bool true) [] := by
  obtain ⟨⟨h1, h2⟩, ⟨h3, h4⟩, ⟨h5, h6⟩, ⟨h7, h8⟩⟩ := h
  refine spec_run e_law03_holds fun G => ?_
  simp only [go_sem, Cg.v, Cg.cs, Mx.v, Mx.cs, h1, h2, h3, h4, h5, h6, h7, h8]

theorem mxs_frz (l : List Mx) (d : Nat) (H : Heap) : (l.map Mx.v).map (frz (d + 2) H) = l.map Mx.v := by rw [List.map_map]; rfl
theorem way_frz {l : List Mx} {H : Heap} {j n : Nat} {gr : Bool} (h : H[j]? = some (some (.cells gr 4 (l.map Mx.v)))) (hn : n = l.length) : frz 6 H (.sl j 0 n) = .view (l.map Mx.v) := by
  rw [frz_sl (d := 5) h (by simpa using hn), mxs_frz]

theorem follow_end {c : Ct} {l : List Ht} (h0 : l ≠ []) : (follow c l)[l.length - 1]? = some (coatOf c (flat l)) := by
  rw [← endX_flat]
  have hl := List.length_pos_iff.2 h0
  obtain ⟨i, hi⟩ : ∃ i, l.length = i + 1 := ⟨l.length - 1, by omega⟩
  have hx : l[i]? = some l[i] := List.getElem?_eq_getElem (by omega)
  have hf := followX_succ (c := c) hx (fresh c)
  have he := endX_succ (c := c) hx (fresh c)
  rw [List.take_of_length_le (by omega)] at hf he
  unfold follow
  rw [hf, he]
  rw [show l.length - 1 = (followX c (fresh c) (l.take i)).length by rw [followX_len, List.length_take]; omega]
  simp

set_option maxRecDepth 20000 in
set_option maxHeartbeats 8000000 in
theorem bounds_ok (xs : List Int) (hl : xs.length ≤ 9223372036854775807) : Ans Try.prog n_law03_CathodeBounds [.view (xs.map (.int .i64))] [] (.bool true) [] := by
  have hd := newdice_ok xs hl
  generalize seedW xs = w at *
  refine spec_run e_law03_CathodeBounds fun G => ?_
  simp only [go_sem]
  refine callN1 hd ⟨by rw [bel_view]; exact bels_map _ _ fun _ => .int _ _, trivial⟩ (dr_bel _ _) (by simp) (by simp) ?_
  simp only [go_sem]
  refine callDN (coatOf_run w) rfl trivial (dr_bel _ _) (fun a ha => ⟨by simp only [go_sem], by simp only [go_sem], by simp only [go_sem]⟩) (by simp) (by simp) ?_
  rintro ⟨c, w1⟩ hc
  dsimp only at hc
  simp only [go_sem, Ct.v, Ct.cs, ren, rens]
  refine callDS (scheduleOf_run w1 4 9 (by decide) (by decide)) rfl ⟨.int _ _, .int _ _, trivial⟩ (dr_bel _ _) (fun a ha => ⟨by simp only [go_sem], by simp only [go_sem]⟩) (by simp) (by simp) ?_
  rintro ⟨l, w2⟩ hl
  dsimp only at hl
  have hls := hl.ok (by decide) (by decide) (by decide)
  have hfr := Fresh_run c hc
  have hm := hc.amount
  by_cases hnil : l = []
  · have e1 : slv 3 (List.map Ht.v l) = .nilsl := by rw [hnil]; rfl
    have e2 : slrG true 3 (List.map Ht.v l) = [] := by rw [hnil]; rfl
    simp only [go_sem, e1, e2]
    refine callR1 ((courseOf_nil w2 c).toE (Φ := fun _ : Unit => True) (r := fun _ => .sl 2 0 1) (L' := fun _ => [some (Dr (dstep w2)), some (BdR c.bands), some (.cells false 4 ([start c].map Mx.v))]) (a := ()) trivial) (j0 := 0) (j1 := 1) (by simp only [go_sem, ren, rens, nth, Ct.v, Ct.cs]; rfl) ⟨by rw [bel_ptr]; decide, by rw [ct_bel, bel_sl]; decide, .nilsl, trivial⟩ rfl rfl (by simp only [go_sem]) (by simp only [go_sem]) (by decide)
      (fun a ha => ⟨by rw [bel_sl], by simp only [go_sem], by rw [row_bel_cells]; simp only [go_sem]⟩) (by simp) (by simp) ?_
    intro _ _
    simp only [go_sem, ren, rens]
    refine cF hfr 6 ⟨.inl (ct_frz (H := _) rfl), trivial⟩ ?_
    have hP := Possible_run c hc [] ⟨by simp, fun h hh => by simp at hh, by simp [lenOfL]⟩ [start c] (start c) Crs.nil
    simp only [go_sem, Cg.v, Cg.cs]
    refine cF hP 6 ⟨.inl (ct_frz (H := _) rfl), .inr ⟨rfl, rfl⟩, .inl (way_frz (H := _) rfl rfl), trivial⟩ ?_
    simp only [go_sem]
    refine loop_body 200 k_law03_CathodeBounds_r22.eq_1 ?_
    simp only [go_sem]
    refine cF (Follow_nil c hc) 6 ⟨.inl (ct_frz (H := _) rfl), .inr ⟨rfl, rfl⟩, trivial⟩ ?_
    simp only [go_sem]
    refine cP awake_ok ?_
    simp only [go_sem]
  have hne : List.map Ht.v l ≠ [] := by simpa using hnil
  have e1 : slv 3 (List.map Ht.v l) = .sl 3 0 l.length := by unfold slv; rw [if_neg hne, List.length_map]
  have e2 : slrG true 3 (List.map Ht.v l) = [some (.cells true 3 (List.map Ht.v l))] := by unfold slrG; rw [if_neg hne]
  simp only [go_sem, e1, e2]
  refine callR2 (courseOf_run w2 c hc l hls true hnil) (j0 := 0) (j1 := 1) (j2 := 3) (by simp only [go_sem, ren, rens, nth, Ct.v, Ct.cs]; rfl) ⟨by rw [bel_ptr]; decide, by rw [ct_bel, bel_sl]; decide, by rw [bel_sl]; decide, trivial⟩ rfl rfl rfl (by simp only [go_sem]) (by simp only [go_sem]) (by rw [row_bel_cells]; simp only [go_sem]) (by decide)
    (fun a ha => ⟨by rw [bel_sl], by simp only [go_sem], by rw [row_bel_cells]; simp only [go_sem]⟩) (by simp) (by simp) ?_
  rintro ⟨way, w3, wb⟩ ⟨mE, hway⟩
  dsimp only at hway
  simp only [go_sem, ren, rens]
  refine cF hfr 6 ⟨.inl (ct_frz (H := _) rfl), trivial⟩ ?_
  have hP := Possible_run c hc l hls way mE hway
  have hlen := hls.len
  have hsum := hls.sum
  have hfl := flat_len hls.all
  have hwl := hway.len
  simp only [go_sem, Cg.v, Cg.cs]
  refine cF hP 6 ⟨.inl (ct_frz (H := _) rfl), .inl (sch_frz (H := _) rfl rfl), .inl (way_frz (H := _) rfl rfl), trivial⟩ ?_
  simp only [go_sem]
  refine loop_ind k_law03_CathodeBounds_r22.eq_1 (fun a : Nat × Heap => a.1 ≤ l.length) (fun a => l.length - a.1)
    (fun a => (tsets 160 [(2, .bool false), (4, .ptr 2 0 0 1), (5, .sl 3 0 l.length), (6, .sl 4 0 way.length), (7, .ptr 5 0 0 1), (8, .int .i64 0), (9, .int .i64 (flat (l.take a.1)).length), (10, .int .i64 a.1)],
      some (Dr w3) :: some (BdR c.bands) :: some (.cells false 7 [c.v (.sl 1 0 c.bands.length)]) :: some (.cells true 3 (l.map Ht.v)) :: some (.cells wb 4 (way.map Mx.v)) :: some (.cells false 13 [(coatOf c (flat (l.take a.1))).v]) :: a.2))
    (0, []) (Nat.zero_le _) (by simp [go_sem, flat]) rfl ?_
  rintro ⟨i, X⟩ hi ih
  dsimp only at hi ih ⊢
  by_cases h1 : i < l.length
  · have h2 : (i : Int) < l.length := by omega
    have n0 : ¬ (i : Int) < 0 := by omega
    have hx : l[i]? = some l[i] := List.getElem?_eq_getElem h1
    have hz := hls.all _ (List.getElem_mem h1)
    have hs := flat_succ hx
    have hlt := fun t => flat_at (t := t) hx
    have h3 := idx_next h1 (by omega)
    have hfi := flat_len (l := l.take i) fun x hx => hls.all x (List.mem_of_mem_take hx)
    have hr0 := lenOfL_take hls.all i
    have hr1 := lenOfL_take hls.all (i + 1)
    have hls1 := lenOfL_succ hx
    generalize l[i] = z at *
    have hzt := hz.ticks
    simp only [go_sem, h2, List.length_map]
    refine loop_ind k_law03_CathodeBounds_r20.eq_1 (fun a : Nat × Heap => a.1 ≤ z.ticks.toNat) (fun a => z.ticks.toNat - a.1)
      (fun a => (tsets 160 [(2, .bool false), (4, .ptr 2 0 0 1), (5, .sl 3 0 l.length), (6, .sl 4 0 way.length), (7, .ptr 5 0 0 1), (8, .int .i64 0), (9, .int .i64 ((flat (l.take i)).length + a.1)), (10, .int .i64 i), (11, .int .i64 a.1)],
        some (Dr w3) :: some (BdR c.bands) :: some (.cells false 7 [c.v (.sl 1 0 c.bands.length)]) :: some (.cells true 3 (l.map Ht.v)) :: some (.cells wb 4 (way.map Mx.v)) :: some (.cells false 13 [(coatOf c (flat (l.take i) ++ List.replicate a.1 z)).v]) :: a.2))
      (0, X) (Nat.zero_le _) (by simp [go_sem]) (by simp) ?_
    rintro ⟨t, Y⟩ ht ih2
    dsimp only at ht ih2 ⊢
    by_cases h4 : t < z.ticks.toNat
    · have h5 : (t : Int) < z.ticks := by omega
      have h6 := idx_next h4 (by omega)
      obtain ⟨f1, f2⟩ := hlt t h4
      obtain ⟨z', m1, m2, q1, q2, q3, q4, q5⟩ := hway.part _ (List.getElem?_eq_some_iff.1 f1).1
      rw [f1] at q1; cases q1
      rw [f2] at q2 q5
      have hall0 : ∀ y ∈ flat (l.take i) ++ List.replicate t z, HtOK y := fun y hy => by
        rcases List.mem_append.1 hy with hy | hy
        · exact hls.all _ (List.mem_of_mem_take (flat_mem hy))
        · rw [List.mem_replicate] at hy; rw [hy.2]; exact hz
      have hal : (flat (l.take i) ++ List.replicate t z).length = (flat (l.take i)).length + t := by simp
      have hal2 : (flat (l.take i) ++ List.replicate t z).length ≤ 1000000 := by omega
      have hg := coatOf_good hc hall0 hal2
      have hgn := after_good hc hg (by omega) hz.heat hz.cur
      have hwn := hgn.wear
      have htick := Tick_run c hc _ hg.ok z.heat z.cur hz.heat hz.cur (by omega)
      have hsn : coatOf c (flat (l.take i) ++ List.replicate (t + 1) z) = after c (coatOf c (flat (l.take i) ++ List.replicate t z)) z.heat z.cur := by rw [List.replicate_succ', ← List.append_assoc, coatOf_snoc]
      have hcr := q2.snoc q5
      have hall1 : ∀ y ∈ flat (l.take i) ++ List.replicate t z ++ [z], HtOK y := fun y hy => by
        rcases List.mem_append.1 hy with hy | hy
        · exact hall0 y hy
        · simp at hy; subst hy; exact hz
      have hho := hcr.holds hc hall1 (by simp; omega)
      have hga := q2.gas hc hall0 hz hal2 q5
      have hk0 := q2.ok hc hall0
      have hk1 := hcr.ok hc hall1
      rw [coatOf_snoc] at hho
      have hih := fun b hb hib ρ' => ih2 (t + 1, b) hb hib ρ'
      simp only [hsn] at hih
      clear ih2
      generalize after c (coatOf c (flat (l.take i) ++ List.replicate t z)) z.heat z.cur = n at *
      generalize coatOf c (flat (l.take i) ++ List.replicate t z) = y at *
      have hH := holds_run hho
      have o1 := hk0.carb; have o2 := hk0.ox; have o3 := hk0.ba; have o4 := hk0.lost; have o5 := hk0.sum
      have p1 := hk1.carb; have p2 := hk1.ox; have p3 := hk1.ba; have p4 := hk1.lost; have p5 := hk1.sum
      have g1 : ((flat (l.take i)).length + (t : Int)) < way.length := by omega
      have g2 : ((flat (l.take i)).length + (t : Int)) + 1 < way.length := by omega
      have g3 : ¬ ((flat (l.take i)).length + (t : Int)) < 0 := by omega
      have g4 : ¬ ((flat (l.take i)).length + (t : Int)) + 1 < 0 := by omega
      have g5 : IntKind.i64.wrap ((flat (l.take i)).length + (t : Int) + 1) = (flat (l.take i)).length + (t : Int) + 1 := w64 (by omega)
      have g6 : IntKind.i64.wrap ((flat (l.take i)).length + (t : Int) + 1 - 1) = (flat (l.take i)).length + (t : Int) := by rw [w64 (by omega)]; omega
      have g7 : ((flat (l.take i)).length + (t : Int)).toNat = (flat (l.take i)).length + t := by omega
      have g8 : ((flat (l.take i)).length + (t : Int) + 1).toNat = (flat (l.take i)).length + t + 1 := by omega
      have u1 : IntKind.i64.wrap (m1.carb - m2.carb) = m1.carb - m2.carb := w64 (by omega)
      have u2 : IntKind.i64.wrap (m2.carb + m2.ox) = m2.carb + m2.ox := w64 (by omega)
      have u3 : IntKind.i64.wrap (m2.carb + m2.ox + m2.ba) = m2.carb + m2.ox + m2.ba := w64 (by omega)
      have u4 : IntKind.i64.wrap (m2.carb + m2.ox + m2.ba + m2.lost) = c.amount := by rw [w64 (by omega)]; omega
      have v1 : ¬ m1.carb - m2.carb < n.gas.lo := by omega
      have v2 : ¬ n.gas.hi < m1.carb - m2.carb := by omega
      simp only [go_sem, hx, h2, n0, h5, Ht.v, Ht.cs, Cg.v, Cg.cs, Ct.v, Ct.cs, List.length_map]
      refine cF htick 6 ⟨.inl (ct_frz (H := _) rfl), .inl rfl, .inl rfl, .inl rfl, trivial⟩ ?_ (by simp only [go_sem, Cg.v, Cg.cs]) (by simp only [go_sem, Cg.v, Cg.cs])
      simp only [go_sem, Cg.v, Cg.cs, g1, g2, g3, g4, g5, g6, g7, g8, q3, q4, Mx.v, Mx.cs, u1, List.length_map]
      refine cP hH ?_
      simp only [go_sem, Cg.v, Cg.cs, v1, v2, u2, u3, u4, Ct.v, Ct.cs]
      simp only [h6]
      refine hih _ (by omega) h4 _ ?_
      simp [go_sem]
      omega
    · have h5 : ¬ (t : Int) < z.ticks := by omega
      have hte : t = z.ticks.toNat := by omega
      simp only [go_sem, hx, h2, n0, h5, Ht.v, Ht.cs, List.length_map]
      simp only [h3]
      rw [hte, ← hs]
      refine ih (i + 1, Y) (by dsimp only; omega) h1 _ ?_
      simp [go_sem, hs]
  · have h2 : ¬ (i : Int) < l.length := by omega
    have hF := Follow_run c hc l hls hnil
    have hlast := follow_end (c := c) hnil
    have hlp := List.length_pos_iff.2 hnil
    have hFl : (follow c l).length = l.length := followX_len c _ _
    rw [List.take_of_length_le (by omega)]
    generalize coatOf c (flat l) = y at *
    generalize follow c l = F at *
    have g0 : ((l.length : Int) == 0) = false := by simp; omega
    have g1 : IntKind.i64.wrap ((l.length : Int) - 1) = ((l.length - 1 : Nat) : Int) := by rw [w64 (by omega)]; omega
    have g2 : ¬ ((l.length - 1 : Nat) : Int) < 0 := by omega
    have g3 : ((l.length - 1 : Nat) : Int) < l.length := by omega
    simp only [go_sem, h2, List.length_map, Ct.v, Ct.cs]
    refine cFN hF 6 ⟨.inl (ct_frz (H := _) rfl), .inl (sch_frz (H := _) rfl rfl), trivial⟩ ?_
    simp only [go_sem, ren, rens, CgR, List.length_map, hFl, g0, g1, g2, g3, hlast, Cg.v, Cg.cs]
    refine cP awake_ok ?_
    simp only [go_sem]
end Go.Proofs
namespace Go.Proofs
open Go Go.Sx
attribute [local irreducible] Run

structure PossB (c : Ct) (l : List Ht) (w : List Mx) : Prop where
  coat : chkC c = 0
  sched : chkS l = 0
  poss : PossP c l w
theorem Possible_raw (c : Ct) (hc : c.bands.length ≤ 1000) (l : List Ht) (hl : l.length ≤ 1000) (w : List Mx) (hw : w.length ≤ 1000000) (b : Bool) (hb : b = true ↔ PossB c l w) :
    Ans Try.prog n_cathode_Possible [c.v (.view (c.bands.map Bd.v)), .view (l.map Ht.v), .view (w.map Mx.v)] [] (.bool b) [] := by
  have hbf : ¬ PossB c l w → b = false := fun h => by
    cases b with
    | false => rfl
    | true => exact absurd (hb.1 rfl) h
  by_cases c0 : chkC c = 0
  rotate_left
  · have b0 : (chkC c != 0) = true := by simp [c0]
    rw [hbf fun h => c0 h.coat]
    refine spec_run e_cathode_Possible fun G => ?_
    simp only [go_sem, Ct.v, Ct.cs]
    refine cP (Check_raw c hc) ?_
    simp only [go_sem, b0]
  by_cases c1 : chkS l = 0
  rotate_left
  · have b0 : (chkS l != 0) = true := by simp [c1]
    rw [hbf fun h => c1 h.sched]
    refine spec_run e_cathode_Possible fun G => ?_
    simp only [go_sem, Ct.v, Ct.cs]
    refine cP (Check_raw c hc) ?_
    simp only [go_sem, c0, Int.reduceBNe]
    refine cP (CheckSchedule_raw l hl) ?_ ⟨by rw [bel_view]; exact bels_map _ _ fun h => by simp only [go_sem, Ht.v, Ht.cs], trivial⟩
    simp only [go_sem, b0]
  exact Possible_gen c (chkC_ok c0) l (chkS_ok c1) w hw b (hb.trans ⟨fun h => h.poss, fun h => ⟨c0, c1, h⟩⟩)
theorem rPossible_raw (c : Ct) (hc : c.bands.length ≤ 1000) (l : List Ht) (hl : l.length ≤ 1000) (w : List Mx) (hw : w.length ≤ 1000000) (hww : ∀ m ∈ w, MxW m) (b : Bool) (hb : b = true ↔ PossB c l w) :
    Ans Try.prog n_ref03_Possible [c.v (.view (c.bands.map Bd.v)), .view (l.map Ht.v), .view (w.map Mx.v)] [] (.bool b) [] := by
  have hbf : ¬ PossB c l w → b = false := fun h => by
    cases b with
    | false => rfl
    | true => exact absurd (hb.1 rfl) h
  by_cases c0 : chkC c = 0
  rotate_left
  · have b0 : (chkC c != 0) = true := by simp [c0]
    rw [hbf fun h => c0 h.coat]
    refine spec_run e_ref03_Possible fun G => ?_
    simp only [go_sem, Ct.v, Ct.cs]
    refine cP (rCheck_raw c hc) ?_
    simp only [go_sem, b0]
  by_cases c1 : chkS l = 0
  rotate_left
  · have b0 : (chkS l != 0) = true := by simp [c1]
    rw [hbf fun h => c1 h.sched]
    refine spec_run e_ref03_Possible fun G => ?_
    simp only [go_sem, Ct.v, Ct.cs]
    refine cP (rCheck_raw c hc) ?_
    simp only [go_sem, c0, Int.reduceBNe]
    refine cP (rCheckSchedule_raw l hl) ?_ ⟨by rw [bel_view]; exact bels_map _ _ fun h => by simp only [go_sem, Ht.v, Ht.cs], trivial⟩
    simp only [go_sem, b0]
  exact rPossible_gen c (chkC_ok c0) l (chkS_ok c1) w hw hww b (hb.trans ⟨fun h => h.poss, fun h => ⟨c0, c1, h⟩⟩)

/-- Courses made of numbers; their row stands still. -/
theorem courseOf_set (w0 : Int) (c : Ct) (hc : CtOK c) (l : List Ht) (hl : LsOK l) (g : Bool) (h0 : l ≠ []) :
    AnsE Try.prog n_kit_CourseOf [.ptr 0 0 0 1, c.v (.sl 1 0 c.bands.length), .sl 2 0 l.length] [some (Dr w0), some (BdR c.bands), some (.cells g 3 (l.map Ht.v))] (fun a : List Mx × Int × Bool => ∃ m, Crs c (flat l) a.1 m) (fun a => .sl 3 0 a.1.length) (fun a => [some (Dr a.2.1), some (BdR c.bands), some (.cells g 3 (l.map Ht.v)), some (.cells false 4 (a.1.map Mx.v))]) := by
  have h := (courseOf_run w0 c hc l hl g h0).settle (fun a ha => ⟨by simp, by simp [go_sem], by simp only [go_sem], by simp only [go_sem], by rw [row_bel_cells]; simp only [go_sem], by rw [row_bel_cells]; simp only [go_sem], trivial⟩) (fun a ha => ⟨.sl _ _ _ (by simp [lenIn, rowLen]), fun i x hx => ?_⟩)
  · exact h
  · have h3 := (List.getElem?_eq_some_iff.1 hx).1
    simp only [List.length_cons, List.length_nil] at h3
    obtain rfl | rfl | rfl | rfl : i = 0 ∨ i = 1 ∨ i = 2 ∨ i = 3 := by omega
    all_goals simp only [List.getElem?_cons_zero, List.getElem?_cons_succ, Option.some.injEq] at hx; subst hx
    · show Fuls _ [AVal.agg [.int .u64 a.2.1]]
      exact ⟨by rw [ful_agg]; exact ⟨.int _ _, trivial⟩, trivial⟩
    · show Fuls _ (List.map Bd.v _)
      exact fuls_map _ _ fun b => by unfold Bd.v Bd.cs; rw [ful_agg]; exact ⟨.int _ _, .int _ _, .int _ _, .int _ _, .int _ _, .int _ _, .int _ _, .int _ _, .int _ _, trivial⟩
    · show Fuls _ (List.map Ht.v _)
      exact fuls_map _ _ fun b => by unfold Ht.v Ht.cs; rw [ful_agg]; exact ⟨.int _ _, .int _ _, .int _ _, trivial⟩
    · show Fuls _ (List.map Mx.v _)
      exact fuls_map _ _ fun b => by unfold Mx.v Mx.cs; rw [ful_agg]; exact ⟨.int _ _, .int _ _, .int _ _, .int _ _, trivial⟩
attribute [local irreducible] AT
set_option maxRecDepth 100000
theorem at_mix {n : Nat} {vs : List AVal} (h : AT Try.prog (n + 2) 64 vs) : ∃ z : Mx, vs = z.cs ∧ MxW z := by
  obtain ⟨a, _, rfl, ha, b, _, rfl, hb, c, _, rfl, hc, d, _, rfl, hd, rfl⟩ := at_struct Try.underlying64 h
  obtain ⟨x, rfl, hx⟩ := atn_int ha
  obtain ⟨y, rfl, hy⟩ := atn_int hb
  obtain ⟨z, rfl, hz⟩ := atn_int hc
  obtain ⟨u, rfl, hu⟩ := atn_int hd
  exact ⟨⟨x, y, z, u⟩, rfl, hx, hy, hz, hu⟩
theorem at_course {n : Nat} {x : AVal} (h : AT Try.prog (n + 3) 60 [x]) : ∃ l : List Mx, x = .view (l.map Mx.v) ∧ l.length ≤ maxLen ∧ ∀ m ∈ l, MxW m := by
  obtain ⟨es, h1, hl, he⟩ := at_slice Try.underlying60 h
  obtain rfl : x = .view es := by simpa using h1
  have hg : aggT Try.prog 64 = true := by unfold aggT; rw [Try.underlying64]
  obtain ⟨l, rfl, hw⟩ := list_map (f := Mx.v) (Q := MxW) es fun x hx => by
    have := he x hx
    rw [if_pos hg] at this
    obtain ⟨ws, rfl, hw⟩ := this
    obtain ⟨z, rfl, hz⟩ := at_mix hw
    exact ⟨z, rfl, hz⟩
  exact ⟨l, rfl, by simpa using hl, hw⟩
theorem at_demand {n : Nat} {vs : List AVal} (h : AT Try.prog (n + 2) 68 vs) : ∃ d : Dm, vs = d.cs := by
  obtain ⟨a, _, rfl, ha, b, _, rfl, hb, c, _, rfl, hc, d, _, rfl, hd, e, _, rfl, he, rfl⟩ := at_struct Try.underlying68 h
  obtain ⟨x, rfl, -⟩ := atn_int ha
  obtain ⟨y, rfl, -⟩ := atn_int hb
  obtain ⟨z, rfl, -⟩ := atn_int hc
  obtain ⟨u, rfl, -⟩ := atn_int hd
  obtain ⟨v, rfl, -⟩ := atn_int he
  exact ⟨⟨x, y, z, u, v⟩, rfl⟩
end Go.Proofs
