/- A part of the proof. -/
import Derived.Test.YtigaafcllfjniaaPD
set_option linter.unusedSimpArgs false
set_option linter.unusedVariables false
namespace Go.Proofs
open Go Go.Sx
attribute [local irreducible] Run

theorem ticks_run (l : List Ht) : Ans Try.prog n_cathode_ticks [.view (l.map Ht.v)] [] (.fn (.func n_cathode_ticks_1) [] [.ptr 0 0 0 1]) [some (.cells false 1 [.view (l.map Ht.v)])] := by
  refine spec_run e_cathode_ticks fun G => ?_
  simp only [go_sem]
  exact ⟨_, rfl⟩

/-- What the body of a range over ticks has to do. -/
structure TickBody (G : Ctx) (l : List Ht) (r j N : Nat) (Pre : Nat → Heap → Prop) (Stop : Heap → Prop) : Prop where
  row : ∀ i H, Pre i H → N ≤ H.length ∧ H[j]? = some (some (.cells false 1 [.view (l.map Ht.v)]))
  grow : ∀ i H x, Pre i H → Pre i (H ++ [x])
  round : ∀ i z H, (flat l)[i]? = some z → Pre i H → RoundW Try.prog G r [.int .i64 ((i : Int) + 1), z.v] H fun v H' =>
    (H.length ≤ H'.length ∧ ∀ q, N ≤ q → q < H.length → H'[q]? = H[q]?) ∧ ((v = .bool true ∧ Pre (i + 1) H') ∨ (v = .bool false ∧ Stop H'))

set_option maxHeartbeats 1000000 in
theorem ticks1_iter {G : Ctx} {l : List Ht} (hl : LsOK l) {r j N : Nat} {Pre : Nat → Heap → Prop} {Stop : Heap → Prop} (hB : TickBody G l r j N Pre Stop) {H0 : Heap} (h0 : Pre 0 H0) :
    CallW Try.prog G n_cathode_ticks_1 [.yfn r, .ptr j 0 0 1] H0 fun v H' => v = .tup [] ∧ (Pre (flat l).length H' ∨ Stop H') := by
  have hlen := hl.len
  have hsum := hl.sum
  obtain ⟨hN0, hj0⟩ := hB.row 0 H0 h0
  have hfl := flat_len hl.all
  refine callW_run 3000 e_cathode_ticks_1 ?_
  simp only [go_sem, cells_at hj0]
  refine loop_ind k_cathode_ticks_1_r11.eq_1 (fun a : Nat × Heap => a.1 ≤ l.length ∧ H0.length ≤ a.2.length ∧ Pre (flat (l.take a.1)).length a.2) (fun a => l.length - a.1)
    (fun a => (tsets 25 [(0, .yfn r), (1, .ptr j 0 0 1), (3, .int .i64 (flat (l.take a.1)).length), (6, .view (l.map Ht.v)), (7, .int .i64 l.length), (8, .int .i64 a.1)], a.2)) (0, H0) ⟨Nat.zero_le _, Nat.le_refl _, h0⟩ (by simp [go_sem, flat]) rfl ?_
  rintro ⟨i, H⟩ ⟨hi, hH0, hp⟩ ih
  dsimp only at hi hH0 hp ih ⊢
  by_cases h1 : i < l.length
  · have h2 : (i : Int) < l.length := by omega
    have n0 : ¬ (i : Int) < 0 := by omega
    have hx : l[i]? = some l[i] := List.getElem?_eq_getElem h1
    have hz := hl.all _ (List.getElem_mem h1)
    have hs := flat_succ hx
    have hlt := fun t => flat_at (t := t) hx
    have h3 := idx_next h1 (by omega)
    have hfi := flat_len (l := l.take i) fun x hx => hl.all x (List.mem_of_mem_take hx)
    have hr0 := lenOfL_take hl.all i
    have hr1 := lenOfL_take hl.all (i + 1)
    have hls := lenOfL_succ hx
    generalize l[i] = z at *
    have hzt := hz.ticks
    simp only [go_sem, h2, n0, hx, cells_end, get_end, put_at_end, Ht.v, Ht.cs]
    refine loop_ind k_cathode_ticks_1_r9.eq_1 (fun a : Nat × Heap => a.1 ≤ z.ticks.toNat ∧ H0.length ≤ a.2.length ∧ a.2[H.length]? = some (some (.cells false 3 [z.v])) ∧ Pre ((flat (l.take i)).length + a.1) a.2) (fun a => z.ticks.toNat - a.1)
      (fun a => (tsets 25 [(0, .yfn r), (1, .ptr j 0 0 1), (3, .int .i64 ((flat (l.take i)).length + a.1)), (5, .ptr H.length 0 0 1), (6, .view (l.map Ht.v)), (7, .int .i64 l.length), (8, .int .i64 i), (13, .int .i64 z.ticks), (14, .int .i64 a.1)], a.2))
      (0, _) ⟨Nat.zero_le _, by simp; omega, get_end _ _, hB.grow _ _ _ hp⟩ (by simp [go_sem]) rfl ?_
    rintro ⟨t, J⟩ ⟨ht, hJ0, hJz, hpj⟩ ih2
    dsimp only at ht hJ0 hJz hpj ih2 ⊢
    by_cases h4 : t < z.ticks.toNat
    · have h5 : (t : Int) < z.ticks := by omega
      have h6 := idx_next h4 (by omega)
      obtain ⟨f1, f2⟩ := hlt t h4
      have w1 : IntKind.i64.wrap ((flat (l.take i)).length + (t : Int) + 1) = (flat (l.take i)).length + (t : Int) + 1 := w64 (by omega)
      have hrd := hB.round _ z J f1 hpj
      have hNj := (hB.row _ J hpj).1
      simp only [go_sem, h5, w1, cells_at hJz, Ht.v, Ht.cs]
      refine yieldR _ rfl rfl (by simp [go_sem]) (by simp [go_sem]) hJ0 ?_
      simp only [Ht.v, Ht.cs] at hrd
      push_cast at hrd
      refine hrd.mono ?_
      rintro v J' ⟨⟨q1, q2⟩, ⟨rfl, q3⟩ | ⟨rfl, q3⟩⟩
      · refine ⟨fun q hq => by simp at hq, ?_⟩
        simp only [go_sem, h6]
        refine ih2 (t + 1, J') (by dsimp only; omega) ⟨h4, by dsimp only; omega, ?_, q3⟩ _ (by simp [go_sem]; omega)
        dsimp only
        rw [q2 H.length (hB.row _ H hp).1 (List.getElem?_eq_some_iff.1 hJz).1]; exact hJz
      · refine ⟨fun q hq => by simp at hq, ?_⟩
        simp only [go_sem]
        exact .inr q3
    · have h5 : ¬ (t : Int) < z.ticks := by omega
      have hte : t = z.ticks.toNat := by omega
      simp only [go_sem, h5, h3]
      refine ih (i + 1, J) (by dsimp only; omega) ⟨h1, hJ0, by dsimp only; rw [hs]; simpa [hte] using hpj⟩ _ ?_
      rw [hs]
      simp [go_sem, hte]
  · have h2 : ¬ (i : Int) < l.length := by omega
    simp only [go_sem, h2]
    rw [List.take_of_length_le (by omega)] at hp
    exact .inl hp
end Go.Proofs
namespace Go.Proofs
open Go Go.Sx
attribute [local irreducible] Run

theorem alone_run (n : Int) : Ans Try.prog n_cathode_alone [.int .i64 n] [] (Rg.v ⟨n, n⟩) [] := by
  refine spec_run e_cathode_alone fun G => ?_
  simp only [go_sem, Rg.v]
theorem isIn_yes {n : Int} {r : Rg} (h : r.lo ≤ n ∧ n ≤ r.hi) : Ans Try.prog n_cathode_isIn [.int .i64 n, r.v] [] (.bool true) [] := by
  refine spec_run e_cathode_isIn fun G => ?_
  simp only [go_sem, Rg.v]
  refine cP (within_yes h) ?_
  simp only [go_sem]

set_option maxHeartbeats 1000000 in
theorem follows_run {c : Ct} (hc : CtOK c) {a b : Mx} {x : Bd} (hx : BdOK x) (ha : MxOK c a) (h : Fol a b x) : Ans Try.prog n_cathode_follows [a.v, b.v, x.v] [] (.bool true) [] := by
  have hb := h.ok hx ha
  have hm := hc.amount
  obtain ⟨a1, a2, a3, a4, a5⟩ := ha
  obtain ⟨q1, q2, q3, q4, q5⟩ := hb
  obtain ⟨f1, f2, f3, f4⟩ := h
  have r1 := remains_ok ⟨a.carb, a.carb⟩ x.conv ⟨by dsimp only; omega, by dsimp only; omega⟩ (hx.conv.b (by decide))
  have r2 := remains_ok ⟨a.ox, a.ox⟩ x.red ⟨by dsimp only; omega, by dsimp only; omega⟩ (hx.red.b (by decide))
  have r3 := remains_ok ⟨a.ba, a.ba⟩ x.evap ⟨by dsimp only; omega, by dsimp only; omega⟩ (hx.evap.b (by decide))
  have k1 := remains_b (a := ⟨a.carb, a.carb⟩) ⟨by dsimp only; omega, by dsimp only; omega⟩ (hx.conv.b (by decide))
  have k2 := remains_b (a := ⟨a.ox, a.ox⟩) ⟨by dsimp only; omega, by dsimp only; omega⟩ (hx.red.b (by decide))
  have k3 := remains_b (a := ⟨a.ba, a.ba⟩) ⟨by dsimp only; omega, by dsimp only; omega⟩ (hx.evap.b (by decide))
  have e1 : IntKind.i64.wrap (a.carb - b.carb) = a.carb - b.carb := w64 (by omega)
  have e2 : IntKind.i64.wrap (a.ox + (a.carb - b.carb)) = a.ox + (a.carb - b.carb) := w64 (by omega)
  have e3 : IntKind.i64.wrap (a.ox + (a.carb - b.carb) - b.ox) = a.ox + (a.carb - b.carb) - b.ox := w64 (by omega)
  have e4 : IntKind.i64.wrap (a.ba + (a.ox + (a.carb - b.carb) - b.ox)) = a.ba + (a.ox + (a.carb - b.carb) - b.ox) := w64 (by omega)
  have e5 : IntKind.i64.wrap (a.ba + (a.ox + (a.carb - b.carb) - b.ox) - b.ba) = a.ba + (a.ox + (a.carb - b.carb) - b.ox) - b.ba := w64 (by omega)
  have e6 : IntKind.i64.wrap (a.lost + (a.ba + (a.ox + (a.carb - b.carb) - b.ox) - b.ba)) = b.lost := by rw [w64 (by omega)]; omega
  have s2 := sum_ok (remains ⟨a.ox, a.ox⟩ x.red) ⟨a.carb - b.carb, a.carb - b.carb⟩ (by omega) (by omega) (by dsimp only; omega) (by dsimp only; omega)
  have s3 := sum_ok (remains ⟨a.ba, a.ba⟩ x.evap) ⟨a.ox + (a.carb - b.carb) - b.ox, a.ox + (a.carb - b.carb) - b.ox⟩ (by omega) (by omega) (by dsimp only; omega) (by dsimp only; omega)
  have i1 := @isIn_yes b.carb (remains ⟨a.carb, a.carb⟩ x.conv) (by simp only [remains]; omega)
  have i2 := @isIn_yes b.ox (sumR (remains ⟨a.ox, a.ox⟩ x.red) ⟨a.carb - b.carb, a.carb - b.carb⟩) (by simp only [remains, sumR]; omega)
  have i3 := @isIn_yes b.ba (sumR (remains ⟨a.ba, a.ba⟩ x.evap) ⟨a.ox + (a.carb - b.carb) - b.ox, a.ox + (a.carb - b.carb) - b.ox⟩) (by simp only [remains, sumR]; omega)
  refine spec_run e_cathode_follows fun G => ?_
  simp only [go_sem, Mx.v, Mx.cs, Bd.v, Bd.cs]
  refine dP (alone_run _) ?_
  simp only [go_sem]
  refine dP r1 ?_
  simp only [go_sem]
  refine cP i1 ?_
  simp only [go_sem, e1]
  refine dP (alone_run _) ?_
  simp only [go_sem]
  refine dP r2 ?_
  simp only [go_sem]
  refine dP (alone_run _) ?_
  simp only [go_sem]
  refine dP s2 ?_
  simp only [go_sem]
  refine cP i2 ?_
  simp only [go_sem, e2, e3]
  refine dP (alone_run _) ?_
  simp only [go_sem]
  refine dP r3 ?_
  simp only [go_sem]
  refine dP (alone_run _) ?_
  simp only [go_sem]
  refine dP s3 ?_
  simp only [go_sem]
  refine cP i3 ?_
  simp only [go_sem, e4, e5, e6]

/-- How much of an amount changes. -/
def someV (w style x : Int) (r : Rg) : Int := if style = 0 then dn x r.lo else if style = 1 then up x r.hi else btw w (dn x r.lo) (up x r.hi)
def someW (w style : Int) : Int := if style = 0 then w else if style = 1 then w else dstep w
theorem someV_in {w style x : Int} {r : Rg} (hx : 0 ≤ x) (hr : RgIn r 1000000) : dn x r.lo ≤ someV w style x r ∧ someV w style x r ≤ up x r.hi := by
  have hb := hr.all
  have h1 := dn_le_up hx (Int.le_refl x) hb.1 hb.2.1
  have h2 := btw_in (w := w) h1
  unfold someV
  split
  · omega
  · split <;> omega

theorem some_run (w style x : Int) (r : Rg) (hx : 0 ≤ x ∧ x ≤ 1000000) (hr : RgIn r 1000000) : Ans Try.prog n_kit_some [.ptr 0 0 0 1, .int .i64 style, .int .i64 x, r.v] [some (Dr w)] (.int .i64 (someV w style x r)) [some (Dr (someW w style))] := by
  have hb := hr.all
  have h1 := dn_le_up hx.1 (Int.le_refl x) hb.1 hb.2.1
  have h2 := dn_in hx.1 hb.1 (by omega)
  have h3 := up_in hx.1 (show 0 ≤ r.hi by omega) hb.2.2
  unfold someV someW
  refine spec_run e_kit_some fun G => ?_
  simp only [go_sem, Rg.v]
  refine dP (rDown_run _ _ hx (by omega)) ?_
  simp only [go_sem]
  refine cP (rUp_run _ _ hx (by omega)) ?_
  simp only [go_sem]
  by_cases c0 : style = 0
  · simp only [go_sem, c0]
    exact ⟨_, rfl⟩
  · by_cases c1 : style = 1
    · simp only [go_sem, c1]
      exact ⟨_, rfl⟩
    · have b0 : (style == 0) = false := by simp [c0]
      have b1 : (style == 1) = false := by simp [c1]
      simp only [go_sem, b0, b1, c0, c1]
      refine cD (between_ok _ _ _ (by omega) h1 (by omega)) ?_
      simp only [go_sem]
      exact ⟨_, rfl⟩
end Go.Proofs
namespace Go.Proofs
open Go Go.Sx
attribute [local irreducible] Run

def posT : List (Nat × AVal) := [(3, .ptr 0 0 0 1), (5, .ptr 1 0 0 1), (6, .ptr 2 0 0 1), (7, .ptr 3 0 0 1), (34, .fn (.func n_cathode_ticks_1) [] [.ptr 4 0 0 1])]
/-- The row of a range over ticks in 'Possible'. -/
def posL (st : LoopState) (pe : Option ACode) : Row := .loop (tsets 59 posT) [35, 36] k_cathode_Possible_r12 k_cathode_Possible_r13 5 st pe
/-- Where it stands. -/
def posH (c : Ct) (l : List Ht) (w : List Mx) (b : Bool) (heat : Int) (x : Row) (X : Heap) : Heap :=
  [some (.cells false 7 [c.v (.view (c.bands.map Bd.v))]), some (.cells false 1 [.view (w.map Mx.v)]), some (.cells false 1 [.bool b]), some (.cells false 1 [.int .i64 heat]), some (.cells false 1 [.view (l.map Ht.v)]), some .dfr, some x] ++ X

set_option maxHeartbeats 4000000 in
set_option maxRecDepth 4000 in
theorem Possible_run (c : Ct) (hc : CtOK c) (l : List Ht) (hl : LsOK l) (w : List Mx) (m : Mx) (hw : Crs c (flat l) w m) :
    Ans Try.prog n_cathode_Possible [c.v (.view (c.bands.map Bd.v)), .view (l.map Ht.v), .view (w.map Mx.v)] [] (.bool true) [] := by
  have hlen := hl.len
  have hsum := hl.sum
  have hfl := flat_len hl.all
  have hwl := hw.len
  have hw0 := hw.first
  have w1 : IntKind.i64.wrap (1 + lenOfL l) = (w.length : Int) := by rw [w64 (by omega)]; omega
  have hw00 : (0 : Int) < w.length := by omega
  refine spec_run e_cathode_Possible fun G => ?_
  simp only [go_sem, Ct.v, Ct.cs]
  refine cP (Check_run c hc) ?_
  simp only [go_sem]
  refine cP (CheckSchedule_run l hl) ?_
  simp only [go_sem]
  refine dP (length_run l hl) ?_
  simp only [go_sem, w1, hw00, hw0, List.length_map, Mx.v, Mx.cs, start]
  refine cN1 (ticks_run l) ?_
  simp only [go_sem, ren, rens]
  refine rangeF 2000 (ρ := tsets 59 posT) (by simp [go_sem, posT]) (by simp only [go_sem, posT]; rfl)
    (ticks1_iter (r := 6) (j := 4) (N := 7) hl (Pre := fun i H => ∃ X, H = posH c l w false (heatOf c ((flat l).take i)) (posL .ready none) X) (Stop := fun _ => False)
      ⟨?_, ?_, ?_⟩ ⟨[], rfl⟩) (by simp) ?_
  · rintro i H ⟨X, rfl⟩
    exact ⟨by simp [posH], rfl⟩
  · rintro i H x ⟨X, rfl⟩
    exact ⟨X ++ [x], by simp [posH]⟩
  · rintro i z H hz ⟨X, rfl⟩
    obtain ⟨z', m1, m2, e1, e2, e3, e4, e5⟩ := hw.part i (List.getElem?_eq_some_iff.1 hz).1
    rw [hz] at e1; cases e1
    have hil := (List.getElem?_eq_some_iff.1 hz).1
    have hall : ∀ y ∈ (flat l).take i ++ [z], HtOK y := fun y hy => by
      rcases List.mem_append.1 hy with hy | hy
      · exact hl.all _ (flat_mem (List.mem_of_mem_take hy))
      · simp at hy; subst hy; exact hl.all _ (flat_mem (List.mem_of_getElem? hz))
    have hzz := hall z (by simp)
    have hh0 := heatOf_in hc (a := (flat l).take i) fun y hy => hall y (by simp [hy])
    have hh1 := heatOf_in hc hall
    have hm := moved_ok (heatOf c ((flat l).take i)) z.heat c.slew hh0 hzz.heat hc.slew
    rw [← heatOf_snoc] at hm
    have hr := ratesAt_run c hc (heatOf c ((flat l).take i ++ [z])) z.cur hh1.1 hzz.cur
    have hb := ratesAt_ok hc hh1.1 hzz.cur
    have hF := follows_run hc hb (e2.ok hc fun y hy => hall y (by simp [hy])) e5
    rw [show (flat l).take (i + 1) = (flat l).take i ++ [z] by rw [List.take_add_one, hz]; rfl]
    have g1 : (i : Int) < w.length := by omega
    have g2 : (i : Int) + 1 < w.length := by omega
    have g3 : ¬ (i : Int) < 0 := by omega
    have g4 : ¬ (i : Int) + 1 < 0 := by omega
    have g5 : IntKind.i64.wrap ((i : Int) + 1 - 1) = i := by rw [w64 (by omega)]; omega
    have g6 : ((i : Int) + 1).toNat = i + 1 := by omega
    generalize heatOf c ((flat l).take i ++ [z]) = h2 at *
    generalize heatOf c ((flat l).take i) = h1 at *
    generalize ratesAt c h2 z.cur = bd at *
    refine RoundW.mono (R := fun v H' => v = .bool true ∧ ∃ Y, H' = posH c l w false h2 (posL .ready none) (X ++ Y)) ?_ ?_
    rotate_left
    · rintro v H' ⟨rfl, Y, rfl⟩
      exact ⟨tail_kept rfl rfl, .inl ⟨rfl, _, rfl⟩⟩
    generalize hR : (fun (v : AVal) (H' : Heap) => v = .bool true ∧ ∃ Y, H' = posH c l w false h2 (posL .ready none) (X ++ Y)) = R
    have hfin : ∀ Y, R (.bool true) (posH c l w false h2 (posL .ready none) (X ++ Y)) := fun Y => by rw [← hR]; exact ⟨rfl, Y, rfl⟩
    clear hR
    refine roundW_run 500 k_cathode_Possible_r12.eq_1 rfl rfl (ρ' := tsets 59 (posT ++ [(35, .int .i64 ((i : Int) + 1)), (36, z.v)])) rfl ?_
    simp only [go_sem, posT, posH, Ht.v, Ht.cs]
    refine roundMid_run 500 k_cathode_Possible_r13.eq_1 rfl rfl ?_
    simp only [go_sem, Ct.v, Ct.cs]
    refine cP hm ?_
    simp only [go_sem, g1, g2, g3, g4, g5, g6, e3, e4, Int.toNat_natCast, List.length_map, Ct.v, Ct.cs, Mx.v, Mx.cs]
    refine dP hr ?_
    simp only [go_sem, Bd.v, Bd.cs]
    refine cP hF ?_
    simp only [go_sem]
    refine roundEnd_on rfl ?_
    simp only [go_sem]
    exact hfin [_]
  · rintro v H' ⟨rfl, ⟨X, rfl⟩ | h⟩
    · refine ⟨fun q hq => by simp at hq; subst hq; rfl, _, _, _, _, _, _, _, rfl, by decide, ?_⟩
      simp only [go_sem, posH, posT, tsets]
      simp
    · exact h.elim
end Go.Proofs
namespace Go.Proofs
open Go Go.Sx
attribute [local irreducible] Run

/-- What is noted. -/
def noted (st : Int × Int) (s n : Int) : Int × Int := if s = 2 then (s, n) else if s = 3 ∧ st.1 = 1 then (s, n) else st
theorem note_run (s n v t : Int) : Ans Try.prog n_cathode_judge_1 [.int .i64 s, .int .i64 n, .ptr 0 0 0 1, .ptr 1 0 0 1] [some (.cells false 1 [.int .i64 v]), some (.cells false 1 [.int .i64 t])] (.bool (s == 2))
    [some (.cells false 1 [.int .i64 (noted (v, t) s n).1]), some (.cells false 1 [.int .i64 (noted (v, t) s n).2])] := by
  unfold noted
  refine spec_run e_cathode_judge_1 fun G => ?_
  by_cases h2 : s = 2
  · subst h2
    simp only [go_sem]
    exact ⟨_, rfl⟩
  · have b2 : (s == 2) = false := by simp [h2]
    by_cases h3 : s = 3
    · subst h3
      by_cases h1 : v = 1
      · subst h1
        simp only [go_sem]
        exact ⟨_, rfl⟩
      · have b1 : (v == 1) = false := by simp [h1]
        simp only [go_sem, b1, h1]
        exact ⟨_, rfl⟩
    · have b3 : (s == 3) = false := by simp [h3]
      simp only [go_sem, b2, b3, h2, h3]
      exact ⟨_, rfl⟩

/-- The verdict and its tick, of what is said after each tick, and at last. -/
def jgo (last : Int) : Nat → Int × Int → List Int → Int × Int
  | n, st, [] => noted st last n
  | n, st, e :: es => if e = 2 then noted st e ((n + 1 : Nat) : Int) else jgo last (n + 1) (noted st e ((n + 1 : Nat) : Int)) es
def saids (c : Ct) (d : Dm) (a : List Ht) : List Int := (List.range a.length).map fun p => eachV d (coatOf c (a.take (p + 1)))
def judgeV (c : Ct) (d : Dm) (l : List Ht) : Int × Int := jgo (lastV d (coatOf c (flat l))) 0 (1, 0) (saids c d (flat l))

theorem looksOf_run (d : Dm) : Ans Try.prog n_cathode_looksOf [d.v] [] (.tup [.sl 1 0 3, .sl 2 0 2]) [some (.cells false 5 [d.v]), some (.cells false 1 (eachF (.ptr 0 0 0 1))), some (.cells false 1 (lastF (.ptr 0 0 0 1)))] := by
  refine spec_run e_cathode_looksOf fun G => ?_
  simp only [go_sem, Dm.v, Dm.cs, eachF, lastF]
  exact ⟨_, rfl⟩


theorem saids_len (c : Ct) (d : Dm) (a : List Ht) : (saids c d a).length = a.length := by simp [saids]
theorem saids_drop {c : Ct} {d : Dm} {a : List Ht} {i : Nat} (hi : i < a.length) : (saids c d a).drop i = eachV d (coatOf c (a.take (i + 1))) :: (saids c d a).drop (i + 1) := by
  rw [List.drop_eq_getElem_cons (by rw [saids_len]; exact hi)]
  simp [saids]

def jT : List (Nat × AVal) := [(3, .ptr 0 0 0 1), (4, .ptr 1 0 0 1), (6, .ptr 2 0 0 1), (7, .ptr 3 0 0 1), (8, .ptr 7 0 0 1), (9, .sl 6 0 2), (10, .ptr 8 0 0 1), (11, .ptr 9 0 0 1), (12, .ptr 10 0 0 1), (24, .fn (.func n_cathode_ticks_1) [] [.ptr 11 0 0 1])]
def jL (st : LoopState) (pe : Option ACode) : Row := .loop (tsets 51 jT) [25, 26] k_cathode_judge_r11 k_cathode_judge_r12 12 st pe
def jH (c : Ct) (d : Dm) (l : List Ht) (v t : Int) (x : Cg) (n : Int) (lr : Row) (X : Heap) : Heap :=
  [some (.cells false 7 [c.v (.view (c.bands.map Bd.v))]), some (.cells false 5 [d.v]), some (.cells false 1 [.int .i64 v]), some (.cells false 1 [.int .i64 t]), some (.cells false 5 [d.v]), some (.cells false 1 (eachF (.ptr 4 0 0 1))), some (.cells false 1 (lastF (.ptr 4 0 0 1))), some (.cells false 1 [.sl 5 0 3]),
    some (.cells false 1 [.fn (.func n_cathode_judge_1) [] [.ptr 2 0 0 1, .ptr 3 0 0 1]]), some (.cells false 13 [x.v]), some (.cells false 1 [.int .i64 n]), some (.cells false 1 [.view (l.map Ht.v)]), some .dfr, some lr] ++ X

set_option maxHeartbeats 4000000 in
set_option maxRecDepth 4000 in
theorem judge_run (c : Ct) (hc : CtOK c) (d : Dm) (l : List Ht) (hl : LsOK l) : Ans Try.prog n_cathode_judge [c.v (.view (c.bands.map Bd.v)), d.v, .view (l.map Ht.v)] [] (.tup [.int .i64 (judgeV c d l).1, .int .i64 (judgeV c d l).2]) [] := by
  unfold judgeV
  have hlen := hl.len
  have hsum := hl.sum
  have hfl := flat_len hl.all
  have hlo := looksOf_run d
  generalize hRES : jgo (lastV d (coatOf c (flat l))) 0 (1, 0) (saids c d (flat l)) = RES
  refine spec_run e_cathode_judge fun G => ?_
  simp only [go_sem, Ct.v, Ct.cs, Dm.v, Dm.cs]
  refine callS hlo [] (by simp) trivial (by simp [Dm.v, Dm.cs, ren, rens]) (by simp only [go_sem]) trivial (by simp) (by simp [go_sem]) ⟨by rw [row_bel_cells]; simp only [go_sem], by rw [row_bel_cells]; simp [go_sem, eachF], by rw [row_bel_cells]; simp [go_sem, lastF], trivial⟩ (by simp) (by simp) (by simp) ?_
  simp only [go_sem, outΔ, outσ, ren, rens, Row.ren, eachF, lastF, Dm.v, Dm.cs]
  refine cP (fresh_run c) ?_ (hr := by simp only [go_sem, Cg.v, Cg.cs])
  simp only [go_sem, Cg.v, Cg.cs]
  refine cN1 (ticks_run l) ?_
  simp only [go_sem, ren, rens]
  refine rangeF 2000 (ρ := tsets 51 jT) (by simp [go_sem, jT]) (by simp only [go_sem, jT]; rfl)
    (ticks1_iter (r := 13) (j := 11) (N := 14) hl (Pre := fun i H => ∃ v t X, (v = 1 ∨ v = 3) ∧ jgo (lastV d (coatOf c (flat l))) i (v, t) ((saids c d (flat l)).drop i) = RES ∧ H = jH c d l v t (coatOf c ((flat l).take i)) i (jL .ready none) X)
      (Stop := fun H => ∃ x n X, H = jH c d l RES.1 RES.2 x n (jL .done (some .ret)) X)
      ⟨?_, ?_, ?_⟩ ⟨1, 0, [], .inl rfl, hRES, rfl⟩) (by simp) ?_
  · rintro i H ⟨v, t, X, hv, hj, rfl⟩
    exact ⟨by simp [jH], rfl⟩
  · rintro i H x ⟨v, t, X, hv, hj, rfl⟩
    exact ⟨v, t, X ++ [x], hv, hj, by simp [jH]⟩
  · rintro i z H hz ⟨v, t, X, hv, hj, rfl⟩
    have hil := (List.getElem?_eq_some_iff.1 hz).1
    have htk : (flat l).take (i + 1) = (flat l).take i ++ [z] := by rw [List.take_add_one, hz]; rfl
    have hzz := hl.all _ (flat_mem (List.mem_of_getElem? hz))
    have hall0 : ∀ y ∈ (flat l).take i, HtOK y := fun y hy => hl.all _ (flat_mem (List.mem_of_mem_take hy))
    have hg := coatOf_good hc hall0 (by simp; omega)
    have ha := after_run c hc _ (hg.ok.b hc.amount.2) z.heat z.cur hzz.heat hzz.cur
    rw [saids_drop hil] at hj
    rw [htk, coatOf_snoc] at hj ⊢
    generalize hcn : after c (coatOf c ((flat l).take i)) z.heat z.cur = y at *
    generalize coatOf c ((flat l).take i) = x at *
    have hE := each_run d y
    have hev : eachV d y = 1 ∨ eachV d y = 2 ∨ eachV d y = 3 := worst_in _ _ (by simp)
    generalize eachV d y = s at *
    have hN := note_run s ((i : Int) + 1) v t
    have hfz : frz 6 (Heap.onlyR (jH c d l v t y ((i : Int) + 1) (jL .busy none) (X ++ [some (.cells false 3 [z.v])])) [5, 4]) (.sl 5 0 3) = .view (eachF (.rptr d.v 0)) := by
      rfl
    generalize hnv : noted (v, t) s ((i : Int) + 1) = nt at *
    refine RoundW.mono (R := fun v' H' => ∃ Y, v' = .bool (!(s == 2)) ∧ H' = jH c d l nt.1 nt.2 y ((i : Int) + 1) (if s = 2 then jL .done (some .ret) else jL .ready none) (X ++ Y)) ?_ ?_
    rotate_left
    · rintro v' H' ⟨Y, rfl, rfl⟩
      refine ⟨tail_kept rfl rfl, ?_⟩
      by_cases hs : s = 2
      · right
        rw [hs] at hj hnv
        simp only [jgo, if_true] at hj
        rw [← hnv]
        refine ⟨by simp [hs], y, ((i : Int) + 1), X ++ Y, ?_⟩
        rw [← hj, if_pos hs]; rfl
      · left
        simp only [jgo, if_neg hs] at hj
        push_cast at hj
        rw [hnv] at hj
        refine ⟨by simp [hs], nt.1, nt.2, X ++ Y, ?_, hj, by rw [if_neg hs]; rfl⟩
        rw [← hnv]
        unfold noted
        rw [if_neg hs]
        split
        · rename_i h; right; exact h.1
        · exact hv
    generalize hR : (fun (v' : AVal) (H' : Heap) => ∃ Y, v' = .bool (!(s == 2)) ∧ H' = jH c d l nt.1 nt.2 y ((i : Int) + 1) (if s = 2 then jL .done (some .ret) else jL .ready none) (X ++ Y)) = R
    have hfin : ∀ Y, R (.bool (!(s == 2))) (jH c d l nt.1 nt.2 y ((i : Int) + 1) (if s = 2 then jL .done (some .ret) else jL .ready none) (X ++ Y)) := fun Y => by rw [← hR]; exact ⟨Y, rfl, rfl⟩
    clear hR hj
    refine roundW_run 500 k_cathode_judge_r11.eq_1 rfl rfl (ρ' := tsets 51 (jT ++ [(25, .int .i64 ((i : Int) + 1)), (26, z.v)])) rfl ?_
    simp only [go_sem, jT, jH, Ht.v, Ht.cs]
    refine roundMid_run 500 k_cathode_judge_r12.eq_1 rfl rfl ?_
    simp only [go_sem, Ct.v, Ct.cs, Cg.v, Cg.cs]
    refine cP ha ?_ (hr := by simp only [go_sem, Cg.v, Cg.cs])
    simp only [go_sem, Cg.v, Cg.cs]
    refine dF hE 6 [5, 4] ⟨.inl rfl, .inl rfl, trivial⟩ ?_
    simp only [go_sem]
    refine cS2 hN (j0 := 2) (j1 := 3) rfl ⟨.int _ _, .int _ _, by rw [bel_ptr]; decide, by rw [bel_ptr]; decide, trivial⟩ rfl rfl (by rw [row_bel_cells]; simp only [go_sem]) (by rw [row_bel_cells]; simp only [go_sem]) (by rw [row_bel_cells]; simp only [go_sem]) (by rw [row_bel_cells]; simp only [go_sem]) (by decide) (.bool _) (by simp) (by simp) ?_
    simp only [go_sem, hnv]
    refine ⟨fun hs => ?_, fun hs => ?_⟩
    · have b2 : (s == 2) = true := by simp [hs]
      have hfin' := fun Y => hfin Y
      simp only [b2, if_pos hs] at hfin'
      refine roundEnd_ret rfl ?_
      simp only [go_sem]
      exact hfin' [_]
    · have b2 : (s == 2) = false := by simp [hs]
      have hfin' := fun Y => hfin Y
      simp only [b2, if_neg hs] at hfin'
      refine roundEnd_on rfl ?_
      simp only [go_sem]
      exact hfin' [_]
  · rintro v' H' ⟨rfl, ⟨v, t, X, hv, hj, rfl⟩ | ⟨x, n, X, rfl⟩⟩
    · refine ⟨fun q hq => by simp at hq; subst hq; rfl, _, _, _, _, _, _, _, rfl, by decide, ?_⟩
      rw [List.drop_of_length_le (by rw [saids_len]; exact Nat.le_refl _)] at hj
      rw [List.take_length]
      generalize coatOf c (flat l) = x at *
      have hE := last_run d x
      generalize lastV d x = s at *
      have hN := note_run s (flat l).length v t
      simp only [jgo] at hj
      rw [hj] at hN
      simp only [go_sem, jH, jT, tsets, Cg.v, Cg.cs]
      refine dF hE 6 [6, 4] ⟨.inl rfl, .inl rfl, trivial⟩ ?_
      simp only [go_sem]
      refine cS2 hN (j0 := 2) (j1 := 3) rfl ⟨.int _ _, .int _ _, by rw [bel_ptr]; decide, by rw [bel_ptr]; decide, trivial⟩ rfl rfl (by rw [row_bel_cells]; simp only [go_sem]) (by rw [row_bel_cells]; simp only [go_sem]) (by rw [row_bel_cells]; simp only [go_sem]) (by rw [row_bel_cells]; simp only [go_sem]) (by decide) (.bool _) (by simp) (by simp) ?_
      simp only [go_sem]
      simp
    · refine ⟨fun q hq => by simp at hq; subst hq; rfl, _, _, _, _, _, _, _, rfl, by decide, ?_⟩
      simp only [go_sem, jH, jT, tsets]
      simp

theorem checkDemand_run (c : Ct) (hc : CtOK c) (d : Dm) (hd : DmOK d) : Ans Try.prog n_cathode_checkDemand [c.v (.view (c.bands.map Bd.v)), d.v] [] (.int .i64 0) [] := by
  have h1 := hd.gas; have h2 := hd.wear; have h3 := hd.lost; have h4 := hd.rest; have h5 := hd.ba
  have u1 : IntKind.i64.wrap 1 = 1 := rfl
  have u2 : IntKind.i64.wrap 2 = 2 := rfl
  have u3 : IntKind.i64.wrap 3 = 3 := rfl
  have u4 : IntKind.i64.wrap 4 = 4 := rfl
  have u5 : IntKind.i64.wrap 5 = 5 := rfl
  refine spec_run e_cathode_checkDemand fun G => ?_
  simp only [go_sem, Ct.v, Ct.cs, Dm.v, Dm.cs]
  refine cP (Check_run c hc) ?_
  simp only [go_sem]
  refine loop_body 200 k_cathode_checkDemand_r10.eq_1 ?_
  simp only [go_sem]
  refine cP (within_yes h1) ?_
  simp only [go_sem, u1]
  refine loop_body 200 k_cathode_checkDemand_r10.eq_1 ?_
  simp only [go_sem]
  refine cP (within_yes h2) ?_
  simp only [go_sem, u2]
  refine loop_body 200 k_cathode_checkDemand_r10.eq_1 ?_
  simp only [go_sem]
  refine cP (within_yes h3) ?_
  simp only [go_sem, u3]
  refine loop_body 200 k_cathode_checkDemand_r10.eq_1 ?_
  simp only [go_sem]
  refine cP (within_yes h4) ?_
  simp only [go_sem, u4]
  refine loop_body 200 k_cathode_checkDemand_r10.eq_1 ?_
  simp only [go_sem]
  refine cP (within_yes ⟨h5.1, by omega⟩) ?_
  simp only [go_sem, u5]
  refine loop_body 200 k_cathode_checkDemand_r10.eq_1 ?_
  simp only [go_sem]

theorem Judge_run (c : Ct) (hc : CtOK c) (d : Dm) (hd : DmOK d) (l : List Ht) (hl : LsOK l) : Ans Try.prog n_cathode_Judge [c.v (.view (c.bands.map Bd.v)), d.v, .view (l.map Ht.v)] [] (.tup [.int .i64 (judgeV c d l).1, .int .i64 (judgeV c d l).2, .int .i64 0]) [] := by
  have hj := judge_run c hc d l hl
  refine spec_run e_cathode_Judge fun G => ?_
  simp only [go_sem, Ct.v, Ct.cs, Dm.v, Dm.cs]
  refine cP (checkDemand_run c hc d hd) ?_
  simp only [go_sem]
  refine cP (CheckSchedule_run l hl) ?_
  simp only [go_sem, Ct.v, Ct.cs, Dm.v, Dm.cs]
  refine cP hj ?_
  simp only [go_sem]

/-! ### What verdicts say -/
theorem noted_1 (st : Int × Int) (n : Int) : noted st 1 n = st := by simp [noted]
theorem jgo_sure (last : Int) (hl : last = 1 ∨ last = 2 ∨ last = 3) : ∀ (es : List Int) (n : Nat) (st : Int × Int), (∀ e ∈ es, e = 1 ∨ e = 2 ∨ e = 3) → (st.1 = 1 ∨ st.1 = 3) →
    ((jgo last n st es).1 = 1 ↔ st.1 = 1 ∧ (∀ e ∈ es, e = 1) ∧ last = 1)
  | [], n, st, _, hst => by
    unfold jgo noted
    rcases hl with rfl | rfl | rfl
    · simp
    · simp
    · by_cases h : st.1 = 1 <;> simp [h]
  | e :: es, n, st, he, hst => by
    have h0 := he e (by simp)
    have ih := fun st => jgo_sure last hl es (n + 1) st fun e h => he e (by simp [h])
    unfold jgo
    by_cases h2 : e = 2
    · subst h2; simp [noted]
    · rw [if_neg h2]
      rcases h0 with rfl | h0 | rfl
      · rw [noted_1, ih st hst]; simp
      · exact absurd h0 h2
      · have hn : (noted st 3 ((n + 1 : Nat) : Int)).1 = 3 := by
          unfold noted
          rcases hst with h | h <;> simp [h]
        rw [ih _ (.inr hn), hn]; simp
theorem jgo_never (last : Int) : ∀ (es : List Int) (n : Nat) (st : Int × Int), (st.1 = 1 ∨ st.1 = 3) → ((jgo last n st es).1 = 2 ↔ (∃ e ∈ es, e = 2) ∨ last = 2)
  | [], n, st, hst => by
    unfold jgo noted
    by_cases h : last = 2
    · simp [h]
    · by_cases h3 : last = 3 ∧ st.1 = 1
      · simp [h, h3]
      · simp only [h, if_false, if_neg h3]
        simp; omega
  | e :: es, n, st, hst => by
    unfold jgo
    by_cases h2 : e = 2
    · subst h2; simp [noted]
    · rw [if_neg h2]
      have hn : (noted st e ((n + 1 : Nat) : Int)).1 = 1 ∨ (noted st e ((n + 1 : Nat) : Int)).1 = 3 := by
        unfold noted
        rw [if_neg h2]
        split
        · rename_i h; right; exact h.1
        · exact hst
      rw [jgo_never last es (n + 1) _ hn]
      constructor
      · rintro (⟨u, hu, h⟩ | h)
        · exact .inl ⟨u, by simp [hu], h⟩
        · exact .inr h
      · rintro (⟨u, hu, h⟩ | h)
        · rcases List.mem_cons.1 hu with rfl | hu
          · exact absurd h h2
          · exact .inl ⟨u, hu, h⟩
        · exact .inr h
theorem jgo_tick (last : Int) : ∀ (es : List Int) (n : Nat) (st : Int × Int), (st.1 = 1 → st.2 = 0) → (jgo last n st es).1 = 1 → (jgo last n st es).2 = 0
  | [], n, st, h0, h => by
    unfold jgo at h ⊢
    unfold noted at h ⊢
    by_cases h2 : last = 2
    · simp [h2] at h
    · by_cases h3 : last = 3 ∧ st.1 = 1
      · simp [h2, h3] at h
      · simp only [if_neg h2, if_neg h3] at h ⊢; exact h0 h
  | e :: es, n, st, h0, h => by
    unfold jgo at h ⊢
    by_cases h2 : e = 2
    · subst h2; simp [noted] at h
    · rw [if_neg h2] at h ⊢
      refine jgo_tick last es (n + 1) _ (fun h1 => ?_) h
      unfold noted at h1 ⊢
      rw [if_neg h2] at h1 ⊢
      split at h1
      · rename_i h3; dsimp only at h1; omega
      · rename_i h3; rw [if_neg h3]; exact h0 h1
theorem eachV_in (d : Dm) (x : Cg) : eachV d x = 1 ∨ eachV d x = 2 ∨ eachV d x = 3 := worst_in _ _ (.inl rfl)
theorem lastV_in (d : Dm) (x : Cg) : lastV d x = 1 ∨ lastV d x = 2 ∨ lastV d x = 3 := worst_in _ _ (.inl rfl)
theorem saids_mem {c : Ct} {d : Dm} {a : List Ht} {e : Int} : e ∈ saids c d a ↔ ∃ p, p < a.length ∧ eachV d (coatOf c (a.take (p + 1))) = e := by simp [saids]
theorem judge_sure {c : Ct} {d : Dm} {l : List Ht} : (judgeV c d l).1 = 1 ↔ (∀ p, p < (flat l).length → eachV d (coatOf c ((flat l).take (p + 1))) = 1) ∧ lastV d (coatOf c (flat l)) = 1 := by
  unfold judgeV
  rw [jgo_sure _ (lastV_in _ _) _ _ _ (fun e he => by obtain ⟨p, _, rfl⟩ := saids_mem.1 he; exact eachV_in _ _) (.inl rfl)]
  constructor
  · rintro ⟨_, h, h'⟩
    exact ⟨fun p hp => h _ (saids_mem.2 ⟨p, hp, rfl⟩), h'⟩
  · rintro ⟨h, h'⟩
    refine ⟨rfl, fun e he => ?_, h'⟩
    obtain ⟨p, hp, rfl⟩ := saids_mem.1 he
    exact h p hp
theorem judge_never {c : Ct} {d : Dm} {l : List Ht} : (judgeV c d l).1 = 2 ↔ (∃ p, p < (flat l).length ∧ eachV d (coatOf c ((flat l).take (p + 1))) = 2) ∨ lastV d (coatOf c (flat l)) = 2 := by
  unfold judgeV
  rw [jgo_never _ _ _ _ (.inl rfl)]
  constructor
  · rintro (⟨e, he, h2⟩ | h)
    · obtain ⟨p, hp, rfl⟩ := saids_mem.1 he
      exact .inl ⟨p, hp, h2⟩
    · exact .inr h
  · rintro (⟨p, hp, h⟩ | h)
    · exact .inl ⟨_, saids_mem.2 ⟨p, hp, rfl⟩, h⟩
    · exact .inr h
theorem judge_tick {c : Ct} {d : Dm} {l : List Ht} (h : (judgeV c d l).1 = 1) : (judgeV c d l).2 = 0 := jgo_tick _ _ _ _ (fun _ => rfl) h
theorem judge_in {c : Ct} {d : Dm} {l : List Ht} : (judgeV c d l).1 = 1 ∨ (judgeV c d l).1 = 2 ∨ (judgeV c d l).1 = 3 := by
  suffices h : ∀ (last : Int), (last = 1 ∨ last = 2 ∨ last = 3) → ∀ (es : List Int) (n : Nat) (st : Int × Int), (st.1 = 1 ∨ st.1 = 2 ∨ st.1 = 3) → (jgo last n st es).1 = 1 ∨ (jgo last n st es).1 = 2 ∨ (jgo last n st es).1 = 3 from h _ (lastV_in _ _) _ _ _ (.inl rfl)
  intro last hl es
  have hno : ∀ (st : Int × Int) (s n : Int), (st.1 = 1 ∨ st.1 = 2 ∨ st.1 = 3) → (noted st s n).1 = 1 ∨ (noted st s n).1 = 2 ∨ (noted st s n).1 = 3 := fun st s n h => by
    unfold noted
    split
    · rename_i h2; right; left; exact h2
    · split
      · rename_i h3; right; right; exact h3.1
      · exact h
  induction es with
  | nil => intro n st h; exact hno _ _ _ h
  | cons e es ih =>
    intro n st h
    unfold jgo
    split
    · exact hno _ _ _ h
    · exact ih _ _ (hno _ _ _ h)
theorem eachV_sure {d : Dm} {x : Cg} : eachV d x = 1 ↔ x.gas.hi ≤ d.gas ∧ x.wear.hi ≤ d.wear ∧ x.lost.hi ≤ d.lost := by
  unfold eachV
  rw [worst_sure _ _ (by simp only [List.mem_cons, List.not_mem_nil, or_false]; rintro v (rfl | rfl | rfl) <;> exact amV_in _ _)]
  simp [amV_sure]
theorem lastV_sure {d : Dm} {x : Cg} : lastV d x = 1 ↔ x.carb.hi ≤ d.rest ∧ d.ba ≤ x.ba.lo := by
  unfold lastV
  rw [worst_sure _ _ (by
    simp only [List.mem_cons, List.not_mem_nil, or_false]
    rintro v (rfl | rfl)
    · exact amV_in _ _
    · exact alV_in _ _)]
  simp [amV_sure, alV_sure]
theorem eachV_never {d : Dm} {c : Ct} {x : Cg} (hx : CgOK c x) : eachV d x = 2 ↔ d.gas < x.gas.lo ∨ d.wear < x.wear.lo ∨ d.lost < x.lost.lo := by
  unfold eachV
  rw [worst_never _ _ (by decide)]
  simp only [exists_eq_right, List.mem_cons, List.not_mem_nil, or_false, @eq_comm _ (2 : Int), amV_never hx.gas.le, amV_never hx.wear.le, amV_never hx.lost.le]
theorem lastV_never {d : Dm} {c : Ct} {x : Cg} (hx : CgOK c x) : lastV d x = 2 ↔ d.rest < x.carb.lo ∨ x.ba.hi < d.ba := by
  unfold lastV
  rw [worst_never _ _ (by decide)]
  simp only [exists_eq_right, List.mem_cons, List.not_mem_nil, or_false, @eq_comm _ (2 : Int), amV_never hx.carb.le, alV_never hx.ba.le]
end Go.Proofs
namespace Go.Proofs
open Go Go.Sx

-- 12: thermion/thermionlaw03.CathodeVerdicts
def k_law03_CathodeVerdicts_r0 : List AOper := [
  ⟨(some (4)), .move (.const (.bool false)), none, []⟩]
def k_law03_CathodeVerdicts_r1 : List AOper := [
  ⟨(some (17)), .move (.tmp 0), none, []⟩, 
  ⟨(some (18)), .call (.const (.fn (.func 19) [] [])) [.tmp 17], none, []⟩, 
  ⟨(some (5)), .move (.tmp 18), none, []⟩]
def k_law03_CathodeVerdicts_r2 : List AOper := [
  ⟨(some (19)), .move (.tmp 5), none, []⟩, 
  ⟨(some (20)), .call (.const (.fn (.func 20) [] [])) [.tmp 19], none, []⟩, 
  ⟨(some (6)), .box (.const (.agg [.int .i64 0, .int .i64 0, .int .i64 0, .int .i64 0, .int .i64 0, .int .i64 0, .nilsl])), none, []⟩, 
  ⟨none, .store 7 (.tmp 6) (.tmp 20), none, []⟩]
def k_law03_CathodeVerdicts_r3 : List AOper := [
  ⟨(some (21)), .move (.tmp 5), none, []⟩, 
  ⟨(some (22)), .call (.const (.fn (.func 21) [] [])) [.tmp 21, .const (.int .i64 4), .const (.int .i64 9)], none, []⟩, 
  ⟨(some (7)), .move (.tmp 22), none, []⟩]
def k_law03_CathodeVerdicts_r4 : List AOper := [
  ⟨(some (23)), .move (.tmp 5), none, []⟩, 
  ⟨(some (24)), .load (some (7)) (.tmp 6), none, []⟩, 
  ⟨(some (25)), .move (.tmp 7), none, []⟩, 
  ⟨(some (26)), .call (.const (.fn (.func 45) [] [])) [.tmp 23, .tmp 24, .tmp 25], none, []⟩, 
  ⟨(some (8)), .box (.const (.agg [.int .i64 0, .int .i64 0, .int .i64 0, .int .i64 0, .int .i64 0])), none, []⟩, 
  ⟨none, .store 5 (.tmp 8) (.tmp 26), none, []⟩]
def k_law03_CathodeVerdicts_r5 : List AOper := [
  ⟨(some (27)), .move (.tmp 5), none, []⟩, 
  ⟨(some (28)), .load (some (7)) (.tmp 6), none, []⟩, 
  ⟨(some (29)), .move (.tmp 7), none, []⟩, 
  ⟨(some (30)), .call (.const (.fn (.func 41) [] [])) [.tmp 27, .tmp 28, .tmp 29], none, []⟩, 
  ⟨(some (9)), .move (.tmp 30), none, []⟩]
def k_law03_CathodeVerdicts_r6 : List AOper := [
  ⟨(some (32)), .load (some (7)) (.tmp 6), none, []⟩, 
  ⟨(some (33)), .load (some (5)) (.tmp 8), none, []⟩, 
  ⟨(some (34)), .move (.tmp 7), none, []⟩, 
  ⟨(some (35)), .call (.const (.fn (.func 46) [] [])) [.tmp 32, .tmp 33, .tmp 34], none, []⟩, 
  ⟨(some (31)), .move (.tmp 35), none, []⟩, 
  ⟨(some (36)), .extract (.tmp 31) 0, none, []⟩, 
  ⟨(some (37)), .extract (.tmp 31) 1, none, []⟩, 
  ⟨(some (38)), .extract (.tmp 31) 2, none, []⟩, 
  ⟨(some (10)), .move (.tmp 36), none, []⟩, 
  ⟨(some (11)), .move (.tmp 37), none, []⟩, 
  ⟨(some (12)), .move (.tmp 38), none, []⟩]
def k_law03_CathodeVerdicts_r7 : List AOper := [
  ⟨(some (39)), .fieldAddr 1 (.tmp 8), none, []⟩, 
  ⟨none, .store 1 (.tmp 39) (.const (.int .i64 1099511627776)), none, []⟩]
def k_law03_CathodeVerdicts_r8 : List AOper := [
  ⟨(some (41)), .load (some (7)) (.tmp 6), none, []⟩, 
  ⟨(some (42)), .load (some (5)) (.tmp 8), none, []⟩, 
  ⟨(some (43)), .move (.tmp 7), none, []⟩, 
  ⟨(some (44)), .call (.const (.fn (.func 46) [] [])) [.tmp 41, .tmp 42, .tmp 43], none, []⟩, 
  ⟨(some (40)), .move (.tmp 44), none, []⟩, 
  ⟨(some (45)), .extract (.tmp 40) 0, none, []⟩, 
  ⟨(some (46)), .extract (.tmp 40) 1, none, []⟩, 
  ⟨(some (47)), .extract (.tmp 40) 2, none, []⟩, 
  ⟨(some (13)), .move (.tmp 45), none, []⟩, 
  ⟨(some (14)), .move (.tmp 46), none, []⟩, 
  ⟨(some (15)), .move (.tmp 47), none, []⟩]
def k_law03_CathodeVerdicts_r9 : List AOper := [
  ⟨(some (48)), .move (.tmp 12), none, []⟩, 
  ⟨(some (49)), .bin .plain .neq (.tmp 48) (.const (.int .i64 0)), none, []⟩, 
  ⟨(some (50)), .move (.tmp 49), none, []⟩, 
  ⟨(some (51)), .move (.tmp 15), (some (50, false)), []⟩, 
  ⟨(some (52)), .bin .plain .neq (.tmp 51) (.const (.int .i64 0)), (some (50, false)), []⟩, 
  ⟨(some (53)), .pick (.tmp 50) (.const (.bool true)) (.tmp 52), none, []⟩, 
  ⟨(some (54)), .move (.tmp 53), none, []⟩, 
  ⟨(some (55)), .move (.tmp 10), (some (54, false)), []⟩, 
  ⟨(some (56)), .bin .plain .eql (.tmp 55) (.const (.int .i64 1)), (some (54, false)), []⟩, 
  ⟨(some (57)), .move (.tmp 11), (some (54, false)), []⟩, 
  ⟨(some (58)), .bin .plain .eql (.tmp 57) (.const (.int .i64 0)), (some (54, false)), []⟩, 
  ⟨(some (59)), .move (.tmp 58), (some (54, false)), []⟩, 
  ⟨(some (60)), .move (.tmp 10), (some (59, true)), []⟩, 
  ⟨(some (61)), .bin .plain .neq (.tmp 60) (.const (.int .i64 2)), (some (59, true)), []⟩, 
  ⟨(some (62)), .pick (.tmp 59) (.tmp 61) (.const (.bool false)), (some (54, false)), []⟩, 
  ⟨(some (63)), .move (.tmp 62), (some (54, false)), []⟩, 
  ⟨(some (64)), .move (.tmp 10), (some (63, true)), []⟩, 
  ⟨(some (65)), .bin .plain .neq (.tmp 64) (.const (.int .i64 3)), (some (63, true)), []⟩, 
  ⟨(some (66)), .pick (.tmp 63) (.tmp 65) (.const (.bool false)), (some (54, false)), []⟩, 
  ⟨(some (67)), .bin .bool .neq (.tmp 56) (.tmp 66), (some (54, false)), []⟩, 
  ⟨(some (68)), .move (.tmp 67), (some (54, false)), []⟩, 
  ⟨(some (69)), .move (.tmp 7), (some (68, true)), []⟩, 
  ⟨(some (70)), .len false (.tmp 69), (some (68, true)), []⟩, 
  ⟨(some (71)), .bin .plain .gtr (.tmp 70) (.const (.int .i64 0)), (some (68, true)), []⟩, 
  ⟨(some (72)), .pick (.tmp 68) (.tmp 71) (.const (.bool false)), (some (54, false)), []⟩, 
  ⟨(some (73)), .pick (.tmp 54) (.const (.bool true)) (.tmp 72), none, []⟩]
def k_law03_CathodeVerdicts_r10 : List AOper := [
  ⟨(some (4)), .move (.const (.bool false)), none, []⟩]
def k_law03_CathodeVerdicts_r11 : List AOper := [
  ⟨(some (74)), .load (some (5)) (.tmp 8), none, []⟩, 
  ⟨(some (75)), .move (.tmp 9), none, []⟩, 
  ⟨(some (76)), .call (.const (.fn (.func 62) [] [])) [.tmp 74, .tmp 75], none, []⟩, 
  ⟨(some (16)), .move (.tmp 76), none, []⟩]
def k_law03_CathodeVerdicts_r12 : List AOper := [
  ⟨(some (77)), .move (.tmp 10), none, []⟩, 
  ⟨(some (78)), .bin .plain .neq (.tmp 77) (.const (.int .i64 1)), none, []⟩, 
  ⟨(some (79)), .move (.tmp 78), none, []⟩, 
  ⟨(some (80)), .move (.tmp 16), (some (79, false)), []⟩, 
  ⟨(some (81)), .pick (.tmp 79) (.const (.bool true)) (.tmp 80), none, []⟩, 
  ⟨(some (82)), .move (.tmp 81), none, []⟩, 
  ⟨(some (83)), .move (.tmp 13), (some (82, true)), []⟩, 
  ⟨(some (84)), .bin .plain .neq (.tmp 83) (.const (.int .i64 1)), (some (82, true)), []⟩, 
  ⟨(some (85)), .move (.tmp 84), (some (82, true)), []⟩, 
  ⟨(some (86)), .move (.tmp 16), (some (85, false)), []⟩, 
  ⟨(some (87)), .pick (.tmp 85) (.const (.bool true)) (.tmp 86), (some (82, true)), []⟩, 
  ⟨(some (88)), .pick (.tmp 82) (.tmp 87) (.const (.bool false)), none, []⟩, 
  ⟨(some (89)), .move (.tmp 88), none, []⟩, 
  ⟨(some (90)), .move (.tmp 13), (some (89, true)), []⟩, 
  ⟨(some (91)), .bin .plain .neq (.tmp 90) (.const (.int .i64 2)), (some (89, true)), []⟩, 
  ⟨(some (92)), .move (.tmp 91), (some (89, true)), []⟩, 
  ⟨(some (93)), .move (.tmp 16), (some (92, false)), []⟩, 
  ⟨(some (94)), .not (.tmp 93), (some (92, false)), []⟩, 
  ⟨(some (95)), .pick (.tmp 92) (.const (.bool true)) (.tmp 94), (some (89, true)), []⟩, 
  ⟨(some (96)), .pick (.tmp 89) (.tmp 95) (.const (.bool false)), none, []⟩, 
  ⟨(some (97)), .move (.tmp 96), none, []⟩, 
  ⟨(some (98)), .move (.tmp 10), (some (97, true)), []⟩, 
  ⟨(some (99)), .bin .plain .neq (.tmp 98) (.const (.int .i64 1)), (some (97, true)), []⟩, 
  ⟨(some (100)), .move (.tmp 99), (some (97, true)), []⟩, 
  ⟨(some (101)), .move (.tmp 13), (some (100, false)), []⟩, 
  ⟨(some (102)), .bin .plain .eql (.tmp 101) (.const (.int .i64 1)), (some (100, false)), []⟩, 
  ⟨(some (103)), .pick (.tmp 100) (.const (.bool true)) (.tmp 102), (some (97, true)), []⟩, 
  ⟨(some (104)), .pick (.tmp 97) (.tmp 103) (.const (.bool false)), none, []⟩, 
  ⟨(some (105)), .move (.tmp 104), none, []⟩, 
  ⟨(some (106)), .move (.tmp 0), (some (105, true)), []⟩, 
  ⟨(some (107)), .move (.tmp 1), (some (105, true)), []⟩, 
  ⟨(some (108)), .call (.const (.fn (.func 63) [] [])) [.tmp 106, .tmp 107], (some (105, true)), []⟩, 
  ⟨(some (109)), .pick (.tmp 105) (.tmp 108) (.const (.bool false)), none, []⟩, 
  ⟨(some (110)), .move (.tmp 109), none, []⟩, 
  ⟨(some (111)), .call (.const (.fn (.func 18) [] [])) [], (some (110, true)), []⟩, 
  ⟨(some (112)), .pick (.tmp 110) (.tmp 111) (.const (.bool false)), none, []⟩, 
  ⟨(some (4)), .move (.tmp 112), none, []⟩]
def k_law03_CathodeVerdicts : AFun := { params := 2, ntmps := 113, body := (.seq (.reg k_law03_CathodeVerdicts_r0 false) (.seq (.reg k_law03_CathodeVerdicts_r1 false) (.seq (.reg k_law03_CathodeVerdicts_r2 false) (.seq (.reg k_law03_CathodeVerdicts_r3 false) (.seq (.reg k_law03_CathodeVerdicts_r4 false) (.seq (.reg k_law03_CathodeVerdicts_r5 false) (.seq (.reg k_law03_CathodeVerdicts_r6 false) (.seq (.reg k_law03_CathodeVerdicts_r7 false) (.seq (.reg k_law03_CathodeVerdicts_r8 false) (.seq (.seq (.reg k_law03_CathodeVerdicts_r9 false) (.cond (.tmp 73) (.seq (.reg k_law03_CathodeVerdicts_r10 false) .ret) .skip)) (.seq (.reg k_law03_CathodeVerdicts_r11 false) (.seq (.reg k_law03_CathodeVerdicts_r12 false) .ret)))))))))))), res := [.tmp 4] }
theorem k_law03_CathodeVerdicts_ok : cfun Try.prog Try.f12 = k_law03_CathodeVerdicts := by kernel_rfl

-- 62: thermion/thermionlaw03.kept
def k_law03_kept_r0 : List AOper := [
  ⟨(some (2)), .box (.tmp 0), none, []⟩, 
  ⟨(some (4)), .move (.const (.bool false)), none, []⟩]
def k_law03_kept_r1 : List AOper := [
  ⟨(some (5)), .move (.const (.int .i64 1)), none, []⟩]
def k_law03_kept_r2 : List AOper := [
  ⟨(some (7)), .move (.tmp 5), none, []⟩, 
  ⟨(some (8)), .move (.tmp 1), none, []⟩, 
  ⟨(some (9)), .len false (.tmp 8), none, []⟩, 
  ⟨(some (10)), .bin .plain .lss (.tmp 7) (.tmp 9), none, []⟩]
def k_law03_kept_r3 : List AOper := [
  ⟨(some (13)), .move (.tmp 1), none, []⟩, 
  ⟨(some (14)), .move (.tmp 5), none, [0]⟩, 
  ⟨(some (15)), .bin .plain .sub (.tmp 14) (.const (.int .i64 1)), none, [0]⟩, 
  ⟨(some (16)), .indexAddr 4 (.tmp 13) (.tmp 15), none, []⟩, 
  ⟨(some (17)), .fieldAddr 0 (.tmp 16), none, []⟩, 
  ⟨(some (18)), .load none (.tmp 17), none, []⟩, 
  ⟨(some (19)), .move (.tmp 1), none, [0, 1, 2, 3, 4, 5]⟩, 
  ⟨(some (20)), .move (.tmp 5), none, [0, 1, 2, 3, 4, 5, 6]⟩, 
  ⟨(some (21)), .indexAddr 4 (.tmp 19) (.tmp 20), none, [0, 1, 2, 3, 4, 5]⟩, 
  ⟨(some (22)), .fieldAddr 0 (.tmp 21), none, [0, 1, 2, 3, 4, 5]⟩, 
  ⟨(some (23)), .load none (.tmp 22), none, [0, 1, 2, 3, 4, 5]⟩, 
  ⟨(some (24)), .bin .plain .sub (.tmp 18) (.tmp 23), none, []⟩, 
  ⟨(some (25)), .fieldAddr 0 (.tmp 2), none, [0, 1, 2, 3, 4, 5, 6, 7, 8, 9, 10, 11]⟩, 
  ⟨(some (26)), .load none (.tmp 25), none, [0, 1, 2, 3, 4, 5, 6, 7, 8, 9, 10, 11]⟩, 
  ⟨(some (27)), .bin .plain .gtr (.tmp 24) (.tmp 26), none, []⟩, 
  ⟨(some (28)), .move (.tmp 27), none, []⟩, 
  ⟨(some (29)), .move (.tmp 1), (some (28, false)), []⟩, 
  ⟨(some (30)), .move (.tmp 5), (some (28, false)), [16]⟩, 
  ⟨(some (31)), .indexAddr 4 (.tmp 29) (.tmp 30), (some (28, false)), []⟩, 
  ⟨(some (32)), .fieldAddr 3 (.tmp 31), (some (28, false)), []⟩, 
  ⟨(some (33)), .load none (.tmp 32), (some (28, false)), []⟩, 
  ⟨(some (34)), .fieldAddr 2 (.tmp 2), (some (28, false)), [16, 17, 18, 19, 20]⟩, 
  ⟨(some (35)), .load none (.tmp 34), (some (28, false)), [16, 17, 18, 19, 20]⟩, 
  ⟨(some (36)), .bin .plain .gtr (.tmp 33) (.tmp 35), (some (28, false)), []⟩, 
  ⟨(some (37)), .pick (.tmp 28) (.const (.bool true)) (.tmp 36), none, []⟩]
def k_law03_kept_r3s : List (List AOper) := [
  [
  ⟨(some (13)), .move (.tmp 1), none, []⟩, 
  ⟨(some (14)), .move (.tmp 5), none, [0]⟩, 
  ⟨(some (15)), .bin .plain .sub (.tmp 14) (.const (.int .i64 1)), none, [0]⟩, 
  ⟨(some (16)), .indexAddr 4 (.tmp 13) (.tmp 15), none, []⟩, 
  ⟨(some (17)), .fieldAddr 0 (.tmp 16), none, []⟩, 
  ⟨(some (18)), .load none (.tmp 17), none, []⟩, 
  ⟨(some (19)), .move (.tmp 1), none, [0, 1, 2, 3, 4, 5]⟩, 
  ⟨(some (20)), .move (.tmp 5), none, [0, 1, 2, 3, 4, 5, 6]⟩, 
  ⟨(some (21)), .indexAddr 4 (.tmp 19) (.tmp 20), none, [0, 1, 2, 3, 4, 5]⟩, 
  ⟨(some (22)), .fieldAddr 0 (.tmp 21), none, [0, 1, 2, 3, 4, 5]⟩, 
  ⟨(some (23)), .load none (.tmp 22), none, [0, 1, 2, 3, 4, 5]⟩, 
  ⟨(some (24)), .bin .plain .sub (.tmp 18) (.tmp 23), none, []⟩, 
  ⟨(some (25)), .fieldAddr 0 (.tmp 2), none, [0, 1, 2, 3, 4, 5, 6, 7, 8, 9, 10, 11]⟩, 
  ⟨(some (26)), .load none (.tmp 25), none, [0, 1, 2, 3, 4, 5, 6, 7, 8, 9, 10, 11]⟩], 
  [
  ⟨(some (27)), .bin .plain .gtr (.tmp 24) (.tmp 26), none, []⟩], 
  [
  ⟨(some (28)), .move (.tmp 27), none, []⟩], 
  [
  ⟨(some (29)), .move (.tmp 1), (some (28, false)), []⟩, 
  ⟨(some (30)), .move (.tmp 5), (some (28, false)), [16]⟩, 
  ⟨(some (31)), .indexAddr 4 (.tmp 29) (.tmp 30), (some (28, false)), []⟩, 
  ⟨(some (32)), .fieldAddr 3 (.tmp 31), (some (28, false)), []⟩, 
  ⟨(some (33)), .load none (.tmp 32), (some (28, false)), []⟩, 
  ⟨(some (34)), .fieldAddr 2 (.tmp 2), (some (28, false)), [16, 17, 18, 19, 20]⟩, 
  ⟨(some (35)), .load none (.tmp 34), (some (28, false)), [16, 17, 18, 19, 20]⟩], 
  [
  ⟨(some (36)), .bin .plain .gtr (.tmp 33) (.tmp 35), (some (28, false)), []⟩], 
  [
  ⟨(some (37)), .pick (.tmp 28) (.const (.bool true)) (.tmp 36), none, []⟩]]
theorem k_law03_kept_r3_sg : segs k_law03_kept_r3 = k_law03_kept_r3s := by kernel_rfl
theorem k_law03_kept_r3_st : statOK k_law03_kept_r3 = true := by kernel_rfl
def k_law03_kept_r4 : List AOper := [
  ⟨(some (4)), .move (.const (.bool false)), none, []⟩]
def k_law03_kept_r5 : List AOper := [
  ⟨(some (11)), .move (.tmp 5), none, []⟩, 
  ⟨(some (12)), .bin .plain .add (.tmp 11) (.const (.int .i64 1)), none, []⟩, 
  ⟨(some (5)), .move (.tmp 12), none, []⟩]
def k_law03_kept_r6 : ACode := (.seq (.seq (.reg k_law03_kept_r2 false) (.cond (.tmp 10) .skip (.exit 0))) (.seq (.block 1 (.seq (.reg k_law03_kept_r3 true) (.cond (.tmp 37) (.seq (.reg k_law03_kept_r4 false) .ret) .skip))) (.reg k_law03_kept_r5 false)))
def k_law03_kept_r7 : List AOper := [
  ⟨(some (38)), .move (.tmp 1), none, []⟩, 
  ⟨(some (39)), .move (.tmp 1), none, []⟩, 
  ⟨(some (40)), .len false (.tmp 39), none, []⟩, 
  ⟨(some (41)), .bin .plain .sub (.tmp 40) (.const (.int .i64 1)), none, []⟩, 
  ⟨(some (42)), .indexAddr 4 (.tmp 38) (.tmp 41), none, []⟩, 
  ⟨(some (43)), .load (some (4)) (.tmp 42), none, []⟩, 
  ⟨(some (6)), .box (.const (.agg [.int .i64 0, .int .i64 0, .int .i64 0, .int .i64 0])), none, []⟩, 
  ⟨none, .store 4 (.tmp 6) (.tmp 43), none, []⟩]
def k_law03_kept_r8 : List AOper := [
  ⟨(some (44)), .fieldAddr 0 (.tmp 6), none, []⟩, 
  ⟨(some (45)), .load none (.tmp 44), none, []⟩, 
  ⟨(some (46)), .fieldAddr 3 (.tmp 2), none, []⟩, 
  ⟨(some (47)), .load none (.tmp 46), none, []⟩, 
  ⟨(some (48)), .bin .plain .leq (.tmp 45) (.tmp 47), none, []⟩, 
  ⟨(some (49)), .move (.tmp 48), none, []⟩, 
  ⟨(some (50)), .fieldAddr 2 (.tmp 6), (some (49, true)), []⟩, 
  ⟨(some (51)), .load none (.tmp 50), (some (49, true)), []⟩, 
  ⟨(some (52)), .fieldAddr 4 (.tmp 2), (some (49, true)), []⟩, 
  ⟨(some (53)), .load none (.tmp 52), (some (49, true)), []⟩, 
  ⟨(some (54)), .bin .plain .geq (.tmp 51) (.tmp 53), (some (49, true)), []⟩, 
  ⟨(some (55)), .pick (.tmp 49) (.tmp 54) (.const (.bool false)), none, []⟩, 
  ⟨(some (4)), .move (.tmp 55), none, []⟩]
def k_law03_kept : AFun := { params := 2, ntmps := 56, body := (.seq (.reg k_law03_kept_r0 false) (.seq (.seq (.reg k_law03_kept_r1 false) (.block 0 (.loop k_law03_kept_r6))) (.seq (.reg k_law03_kept_r7 false) (.seq (.reg k_law03_kept_r8 false) .ret)))), res := [.tmp 4] }
theorem k_law03_kept_ok : cfun Try.prog Try.f62 = k_law03_kept := by kernel_rfl

-- 63: thermion/thermionlaw03.stricter
def k_law03_stricter_r0 : List AOper := [
  ⟨(some (4)), .move (.const (.bool false)), none, []⟩]
def k_law03_stricter_r1 : List AOper := [
  ⟨(some (16)), .move (.tmp 0), none, []⟩, 
  ⟨(some (17)), .call (.const (.fn (.func 19) [] [])) [.tmp 16], none, []⟩, 
  ⟨(some (5)), .move (.tmp 17), none, []⟩]
def k_law03_stricter_r2 : List AOper := [
  ⟨(some (18)), .move (.tmp 5), none, []⟩, 
  ⟨(some (19)), .call (.const (.fn (.func 20) [] [])) [.tmp 18], none, []⟩, 
  ⟨(some (6)), .box (.const (.agg [.int .i64 0, .int .i64 0, .int .i64 0, .int .i64 0, .int .i64 0, .int .i64 0, .nilsl])), none, []⟩, 
  ⟨none, .store 7 (.tmp 6) (.tmp 19), none, []⟩]
def k_law03_stricter_r3 : List AOper := [
  ⟨(some (20)), .move (.tmp 5), none, []⟩, 
  ⟨(some (21)), .call (.const (.fn (.func 21) [] [])) [.tmp 20, .const (.int .i64 5), .const (.int .i64 20)], none, []⟩, 
  ⟨(some (7)), .move (.tmp 21), none, []⟩]
def k_law03_stricter_r4 : List AOper := [
  ⟨(some (22)), .move (.tmp 5), none, []⟩, 
  ⟨(some (23)), .load (some (7)) (.tmp 6), none, []⟩, 
  ⟨(some (24)), .move (.tmp 7), none, []⟩, 
  ⟨(some (25)), .call (.const (.fn (.func 45) [] [])) [.tmp 22, .tmp 23, .tmp 24], none, []⟩, 
  ⟨(some (8)), .box (.const (.agg [.int .i64 0, .int .i64 0, .int .i64 0, .int .i64 0, .int .i64 0])), none, []⟩, 
  ⟨none, .store 5 (.tmp 8) (.tmp 25), none, []⟩]
def k_law03_stricter_r5 : List AOper := [
  ⟨(some (26)), .move (.tmp 1), none, []⟩, 
  ⟨(some (27)), .call (.const (.fn (.func 42) [] [])) [.tmp 26, .const (.int .i64 100)], none, []⟩, 
  ⟨(some (1)), .move (.tmp 27), none, []⟩]
def k_law03_stricter_r6 : List AOper := [
  ⟨(some (28)), .fieldAddr 0 (.tmp 8), none, []⟩, 
  ⟨(some (29)), .load none (.tmp 28), none, []⟩, 
  ⟨(some (30)), .move (.tmp 5), none, [0, 1]⟩, 
  ⟨(some (31)), .move (.tmp 1), none, [0, 1, 2]⟩, 
  ⟨(some (32)), .bin .plain .add (.tmp 31) (.const (.int .i64 1)), none, [0, 1, 2]⟩, 
  ⟨(some (33)), .call (.const (.fn (.func 23) [] [])) [.tmp 30, .tmp 32], none, [0, 1]⟩, 
  ⟨(some (34)), .bin .plain .sub (.tmp 29) (.tmp 33), none, []⟩, 
  ⟨(some (35)), .minmax true [.const (.int .i64 0), .tmp 34], none, []⟩, 
  ⟨(some (36)), .fieldAddr 1 (.tmp 8), none, [0, 1, 2, 3, 4, 5, 6, 7]⟩, 
  ⟨(some (37)), .load none (.tmp 36), none, [0, 1, 2, 3, 4, 5, 6, 7]⟩, 
  ⟨(some (38)), .move (.tmp 5), none, [0, 1, 2, 3, 4, 5, 6, 7, 8, 9]⟩, 
  ⟨(some (39)), .move (.tmp 1), none, [0, 1, 2, 3, 4, 5, 6, 7, 8, 9, 10]⟩, 
  ⟨(some (40)), .bin .plain .add (.tmp 39) (.const (.int .i64 1)), none, [0, 1, 2, 3, 4, 5, 6, 7, 8, 9, 10]⟩, 
  ⟨(some (41)), .call (.const (.fn (.func 23) [] [])) [.tmp 38, .tmp 40], none, [0, 1, 6, 7, 8, 9]⟩, 
  ⟨(some (42)), .bin .plain .sub (.tmp 37) (.tmp 41), none, [0, 1, 6, 7]⟩, 
  ⟨(some (43)), .minmax true [.const (.int .i64 0), .tmp 42], none, [0, 1, 6, 7]⟩, 
  ⟨(some (44)), .fieldAddr 2 (.tmp 8), none, [0, 1, 2, 3, 4, 5, 6, 7, 8, 9, 10, 11, 12, 13, 14, 15]⟩, 
  ⟨(some (45)), .load none (.tmp 44), none, [0, 1, 2, 3, 4, 5, 6, 7, 8, 9, 10, 11, 12, 13, 14, 15]⟩, 
  ⟨(some (46)), .move (.tmp 5), none, [0, 1, 2, 3, 4, 5, 6, 7, 8, 9, 10, 11, 12, 13, 14, 15, 16, 17]⟩, 
  ⟨(some (47)), .move (.tmp 1), none, [0, 1, 2, 3, 4, 5, 6, 7, 8, 9, 10, 11, 12, 13, 14, 15, 16, 17, 18]⟩, 
  ⟨(some (48)), .bin .plain .add (.tmp 47) (.const (.int .i64 1)), none, [0, 1, 2, 3, 4, 5, 6, 7, 8, 9, 10, 11, 12, 13, 14, 15, 16, 17, 18]⟩, 
  ⟨(some (49)), .call (.const (.fn (.func 23) [] [])) [.tmp 46, .tmp 48], none, [0, 1, 6, 7, 8, 9, 14, 15, 16, 17]⟩, 
  ⟨(some (50)), .bin .plain .sub (.tmp 45) (.tmp 49), none, [0, 1, 6, 7, 8, 9, 14, 15]⟩, 
  ⟨(some (51)), .minmax true [.const (.int .i64 0), .tmp 50], none, [0, 1, 6, 7, 8, 9, 14, 15]⟩, 
  ⟨(some (52)), .fieldAddr 3 (.tmp 8), none, [0, 1, 2, 3, 4, 5, 6, 7, 8, 9, 10, 11, 12, 13, 14, 15, 16, 17, 18, 19, 20, 21, 22, 23]⟩, 
  ⟨(some (53)), .load none (.tmp 52), none, [0, 1, 2, 3, 4, 5, 6, 7, 8, 9, 10, 11, 12, 13, 14, 15, 16, 17, 18, 19, 20, 21, 22, 23]⟩, 
  ⟨(some (54)), .move (.tmp 5), none, [0, 1, 2, 3, 4, 5, 6, 7, 8, 9, 10, 11, 12, 13, 14, 15, 16, 17, 18, 19, 20, 21, 22, 23, 24, 25]⟩, 
  ⟨(some (55)), .move (.tmp 1), none, [0, 1, 2, 3, 4, 5, 6, 7, 8, 9, 10, 11, 12, 13, 14, 15, 16, 17, 18, 19, 20, 21, 22, 23, 24, 25, 26]⟩, 
  ⟨(some (56)), .bin .plain .add (.tmp 55) (.const (.int .i64 1)), none, [0, 1, 2, 3, 4, 5, 6, 7, 8, 9, 10, 11, 12, 13, 14, 15, 16, 17, 18, 19, 20, 21, 22, 23, 24, 25, 26]⟩, 
  ⟨(some (57)), .call (.const (.fn (.func 23) [] [])) [.tmp 54, .tmp 56], none, [0, 1, 6, 7, 8, 9, 14, 15, 16, 17, 22, 23, 24, 25]⟩, 
  ⟨(some (58)), .bin .plain .sub (.tmp 53) (.tmp 57), none, [0, 1, 6, 7, 8, 9, 14, 15, 16, 17, 22, 23]⟩, 
  ⟨(some (59)), .minmax true [.const (.int .i64 0), .tmp 58], none, [0, 1, 6, 7, 8, 9, 14, 15, 16, 17, 22, 23]⟩, 
  ⟨(some (60)), .fieldAddr 4 (.tmp 8), none, [0, 1, 2, 3, 4, 5, 6, 7, 8, 9, 10, 11, 12, 13, 14, 15, 16, 17, 18, 19, 20, 21, 22, 23, 24, 25, 26, 27, 28, 29, 30, 31]⟩, 
  ⟨(some (61)), .load none (.tmp 60), none, [0, 1, 2, 3, 4, 5, 6, 7, 8, 9, 10, 11, 12, 13, 14, 15, 16, 17, 18, 19, 20, 21, 22, 23, 24, 25, 26, 27, 28, 29, 30, 31]⟩, 
  ⟨(some (62)), .move (.tmp 5), none, [0, 1, 2, 3, 4, 5, 6, 7, 8, 9, 10, 11, 12, 13, 14, 15, 16, 17, 18, 19, 20, 21, 22, 23, 24, 25, 26, 27, 28, 29, 30, 31, 32, 33]⟩, 
  ⟨(some (63)), .move (.tmp 1), none, [0, 1, 2, 3, 4, 5, 6, 7, 8, 9, 10, 11, 12, 13, 14, 15, 16, 17, 18, 19, 20, 21, 22, 23, 24, 25, 26, 27, 28, 29, 30, 31, 32, 33, 34]⟩, 
  ⟨(some (64)), .bin .plain .add (.tmp 63) (.const (.int .i64 1)), none, [0, 1, 2, 3, 4, 5, 6, 7, 8, 9, 10, 11, 12, 13, 14, 15, 16, 17, 18, 19, 20, 21, 22, 23, 24, 25, 26, 27, 28, 29, 30, 31, 32, 33, 34]⟩, 
  ⟨(some (65)), .call (.const (.fn (.func 23) [] [])) [.tmp 62, .tmp 64], none, [0, 1, 6, 7, 8, 9, 14, 15, 16, 17, 22, 23, 24, 25, 30, 31, 32, 33]⟩, 
  ⟨(some (66)), .bin .plain .add (.tmp 61) (.tmp 65), none, [0, 1, 6, 7, 8, 9, 14, 15, 16, 17, 22, 23, 24, 25, 30, 31]⟩, 
  ⟨(some (67)), .build [.int .i64 0, .int .i64 0, .int .i64 0, .int .i64 0, .int .i64 0] [(0, 1, .tmp 35), (1, 1, .tmp 43), (2, 1, .tmp 51), (3, 1, .tmp 59), (4, 1, .tmp 66)], none, []⟩, 
  ⟨(some (9)), .box (.const (.agg [.int .i64 0, .int .i64 0, .int .i64 0, .int .i64 0, .int .i64 0])), none, [0, 1, 2, 3, 4, 5, 6, 7, 8, 9, 10, 11, 12, 13, 14, 15, 16, 17, 18, 19, 20, 21, 22, 23, 24, 25, 26, 27, 28, 29, 30, 31, 32, 33, 34, 35, 36, 37, 38, 39]⟩, 
  ⟨none, .store 5 (.tmp 9) (.tmp 67), none, []⟩]
def k_law03_stricter_r6s : List (List AOper) := [
  [
  ⟨(some (28)), .fieldAddr 0 (.tmp 8), none, []⟩, 
  ⟨(some (29)), .load none (.tmp 28), none, []⟩, 
  ⟨(some (30)), .move (.tmp 5), none, [0, 1]⟩, 
  ⟨(some (31)), .move (.tmp 1), none, [0, 1, 2]⟩, 
  ⟨(some (32)), .bin .plain .add (.tmp 31) (.const (.int .i64 1)), none, [0, 1, 2]⟩, 
  ⟨(some (33)), .call (.const (.fn (.func 23) [] [])) [.tmp 30, .tmp 32], none, [0, 1]⟩, 
  ⟨(some (34)), .bin .plain .sub (.tmp 29) (.tmp 33), none, []⟩, 
  ⟨(some (35)), .minmax true [.const (.int .i64 0), .tmp 34], none, []⟩, 
  ⟨(some (36)), .fieldAddr 1 (.tmp 8), none, [0, 1, 2, 3, 4, 5, 6, 7]⟩, 
  ⟨(some (37)), .load none (.tmp 36), none, [0, 1, 2, 3, 4, 5, 6, 7]⟩, 
  ⟨(some (38)), .move (.tmp 5), none, [0, 1, 2, 3, 4, 5, 6, 7, 8, 9]⟩, 
  ⟨(some (39)), .move (.tmp 1), none, [0, 1, 2, 3, 4, 5, 6, 7, 8, 9, 10]⟩, 
  ⟨(some (40)), .bin .plain .add (.tmp 39) (.const (.int .i64 1)), none, [0, 1, 2, 3, 4, 5, 6, 7, 8, 9, 10]⟩, 
  ⟨(some (41)), .call (.const (.fn (.func 23) [] [])) [.tmp 38, .tmp 40], none, [0, 1, 6, 7, 8, 9]⟩, 
  ⟨(some (42)), .bin .plain .sub (.tmp 37) (.tmp 41), none, [0, 1, 6, 7]⟩, 
  ⟨(some (43)), .minmax true [.const (.int .i64 0), .tmp 42], none, [0, 1, 6, 7]⟩, 
  ⟨(some (44)), .fieldAddr 2 (.tmp 8), none, [0, 1, 2, 3, 4, 5, 6, 7, 8, 9, 10, 11, 12, 13, 14, 15]⟩, 
  ⟨(some (45)), .load none (.tmp 44), none, [0, 1, 2, 3, 4, 5, 6, 7, 8, 9, 10, 11, 12, 13, 14, 15]⟩, 
  ⟨(some (46)), .move (.tmp 5), none, [0, 1, 2, 3, 4, 5, 6, 7, 8, 9, 10, 11, 12, 13, 14, 15, 16, 17]⟩, 
  ⟨(some (47)), .move (.tmp 1), none, [0, 1, 2, 3, 4, 5, 6, 7, 8, 9, 10, 11, 12, 13, 14, 15, 16, 17, 18]⟩, 
  ⟨(some (48)), .bin .plain .add (.tmp 47) (.const (.int .i64 1)), none, [0, 1, 2, 3, 4, 5, 6, 7, 8, 9, 10, 11, 12, 13, 14, 15, 16, 17, 18]⟩, 
  ⟨(some (49)), .call (.const (.fn (.func 23) [] [])) [.tmp 46, .tmp 48], none, [0, 1, 6, 7, 8, 9, 14, 15, 16, 17]⟩, 
  ⟨(some (50)), .bin .plain .sub (.tmp 45) (.tmp 49), none, [0, 1, 6, 7, 8, 9, 14, 15]⟩, 
  ⟨(some (51)), .minmax true [.const (.int .i64 0), .tmp 50], none, [0, 1, 6, 7, 8, 9, 14, 15]⟩, 
  ⟨(some (52)), .fieldAddr 3 (.tmp 8), none, [0, 1, 2, 3, 4, 5, 6, 7, 8, 9, 10, 11, 12, 13, 14, 15, 16, 17, 18, 19, 20, 21, 22, 23]⟩, 
  ⟨(some (53)), .load none (.tmp 52), none, [0, 1, 2, 3, 4, 5, 6, 7, 8, 9, 10, 11, 12, 13, 14, 15, 16, 17, 18, 19, 20, 21, 22, 23]⟩, 
  ⟨(some (54)), .move (.tmp 5), none, [0, 1, 2, 3, 4, 5, 6, 7, 8, 9, 10, 11, 12, 13, 14, 15, 16, 17, 18, 19, 20, 21, 22, 23, 24, 25]⟩, 
  ⟨(some (55)), .move (.tmp 1), none, [0, 1, 2, 3, 4, 5, 6, 7, 8, 9, 10, 11, 12, 13, 14, 15, 16, 17, 18, 19, 20, 21, 22, 23, 24, 25, 26]⟩, 
  ⟨(some (56)), .bin .plain .add (.tmp 55) (.const (.int .i64 1)), none, [0, 1, 2, 3, 4, 5, 6, 7, 8, 9, 10, 11, 12, 13, 14, 15, 16, 17, 18, 19, 20, 21, 22, 23, 24, 25, 26]⟩, 
  ⟨(some (57)), .call (.const (.fn (.func 23) [] [])) [.tmp 54, .tmp 56], none, [0, 1, 6, 7, 8, 9, 14, 15, 16, 17, 22, 23, 24, 25]⟩, 
  ⟨(some (58)), .bin .plain .sub (.tmp 53) (.tmp 57), none, [0, 1, 6, 7, 8, 9, 14, 15, 16, 17, 22, 23]⟩, 
  ⟨(some (59)), .minmax true [.const (.int .i64 0), .tmp 58], none, [0, 1, 6, 7, 8, 9, 14, 15, 16, 17, 22, 23]⟩, 
  ⟨(some (60)), .fieldAddr 4 (.tmp 8), none, [0, 1, 2, 3, 4, 5, 6, 7, 8, 9, 10, 11, 12, 13, 14, 15, 16, 17, 18, 19, 20, 21, 22, 23, 24, 25, 26, 27, 28, 29, 30, 31]⟩, 
  ⟨(some (61)), .load none (.tmp 60), none, [0, 1, 2, 3, 4, 5, 6, 7, 8, 9, 10, 11, 12, 13, 14, 15, 16, 17, 18, 19, 20, 21, 22, 23, 24, 25, 26, 27, 28, 29, 30, 31]⟩, 
  ⟨(some (62)), .move (.tmp 5), none, [0, 1, 2, 3, 4, 5, 6, 7, 8, 9, 10, 11, 12, 13, 14, 15, 16, 17, 18, 19, 20, 21, 22, 23, 24, 25, 26, 27, 28, 29, 30, 31, 32, 33]⟩, 
  ⟨(some (63)), .move (.tmp 1), none, [0, 1, 2, 3, 4, 5, 6, 7, 8, 9, 10, 11, 12, 13, 14, 15, 16, 17, 18, 19, 20, 21, 22, 23, 24, 25, 26, 27, 28, 29, 30, 31, 32, 33, 34]⟩, 
  ⟨(some (64)), .bin .plain .add (.tmp 63) (.const (.int .i64 1)), none, [0, 1, 2, 3, 4, 5, 6, 7, 8, 9, 10, 11, 12, 13, 14, 15, 16, 17, 18, 19, 20, 21, 22, 23, 24, 25, 26, 27, 28, 29, 30, 31, 32, 33, 34]⟩, 
  ⟨(some (65)), .call (.const (.fn (.func 23) [] [])) [.tmp 62, .tmp 64], none, [0, 1, 6, 7, 8, 9, 14, 15, 16, 17, 22, 23, 24, 25, 30, 31, 32, 33]⟩, 
  ⟨(some (66)), .bin .plain .add (.tmp 61) (.tmp 65), none, [0, 1, 6, 7, 8, 9, 14, 15, 16, 17, 22, 23, 24, 25, 30, 31]⟩, 
  ⟨(some (67)), .build [.int .i64 0, .int .i64 0, .int .i64 0, .int .i64 0, .int .i64 0] [(0, 1, .tmp 35), (1, 1, .tmp 43), (2, 1, .tmp 51), (3, 1, .tmp 59), (4, 1, .tmp 66)], none, []⟩, 
  ⟨(some (9)), .box (.const (.agg [.int .i64 0, .int .i64 0, .int .i64 0, .int .i64 0, .int .i64 0])), none, [0, 1, 2, 3, 4, 5, 6, 7, 8, 9, 10, 11, 12, 13, 14, 15, 16, 17, 18, 19, 20, 21, 22, 23, 24, 25, 26, 27, 28, 29, 30, 31, 32, 33, 34, 35, 36, 37, 38, 39]⟩], 
  [
  ⟨none, .store 5 (.tmp 9) (.tmp 67), none, []⟩]]
theorem k_law03_stricter_r6_sg : segs k_law03_stricter_r6 = k_law03_stricter_r6s := by kernel_rfl
theorem k_law03_stricter_r6_st : statOK k_law03_stricter_r6 = true := by kernel_rfl
def k_law03_stricter_r7 : List AOper := [
  ⟨(some (69)), .load (some (7)) (.tmp 6), none, []⟩, 
  ⟨(some (70)), .load (some (5)) (.tmp 8), none, []⟩, 
  ⟨(some (71)), .move (.tmp 7), none, []⟩, 
  ⟨(some (72)), .call (.const (.fn (.func 46) [] [])) [.tmp 69, .tmp 70, .tmp 71], none, []⟩, 
  ⟨(some (68)), .move (.tmp 72), none, []⟩, 
  ⟨(some (73)), .extract (.tmp 68) 0, none, []⟩, 
  ⟨(some (74)), .extract (.tmp 68) 1, none, []⟩, 
  ⟨(some (75)), .extract (.tmp 68) 2, none, []⟩, 
  ⟨(some (10)), .move (.tmp 73), none, []⟩, 
  ⟨(some (11)), .move (.tmp 74), none, []⟩, 
  ⟨(some (12)), .move (.tmp 75), none, []⟩]
def k_law03_stricter_r8 : List AOper := [
  ⟨(some (77)), .load (some (7)) (.tmp 6), none, []⟩, 
  ⟨(some (78)), .load (some (5)) (.tmp 9), none, []⟩, 
  ⟨(some (79)), .move (.tmp 7), none, []⟩, 
  ⟨(some (80)), .call (.const (.fn (.func 46) [] [])) [.tmp 77, .tmp 78, .tmp 79], none, []⟩, 
  ⟨(some (76)), .move (.tmp 80), none, []⟩, 
  ⟨(some (81)), .extract (.tmp 76) 0, none, []⟩, 
  ⟨(some (82)), .extract (.tmp 76) 1, none, []⟩, 
  ⟨(some (83)), .extract (.tmp 76) 2, none, []⟩, 
  ⟨(some (13)), .move (.tmp 81), none, []⟩, 
  ⟨(some (14)), .move (.tmp 82), none, []⟩, 
  ⟨(some (15)), .move (.tmp 83), none, []⟩]
def k_law03_stricter_r9 : List AOper := [
  ⟨(some (84)), .move (.tmp 12), none, []⟩, 
  ⟨(some (85)), .bin .plain .eql (.tmp 84) (.const (.int .i64 0)), none, []⟩, 
  ⟨(some (86)), .move (.tmp 85), none, []⟩, 
  ⟨(some (87)), .move (.tmp 15), (some (86, true)), []⟩, 
  ⟨(some (88)), .bin .plain .eql (.tmp 87) (.const (.int .i64 0)), (some (86, true)), []⟩, 
  ⟨(some (89)), .pick (.tmp 86) (.tmp 88) (.const (.bool false)), none, []⟩, 
  ⟨(some (90)), .move (.tmp 89), none, []⟩, 
  ⟨(some (91)), .move (.tmp 10), (some (90, true)), []⟩, 
  ⟨(some (92)), .bin .plain .eql (.tmp 91) (.const (.int .i64 1)), (some (90, true)), []⟩, 
  ⟨(some (93)), .move (.tmp 92), (some (90, true)), []⟩, 
  ⟨(some (94)), .move (.tmp 13), (some (93, false)), []⟩, 
  ⟨(some (95)), .bin .plain .neq (.tmp 94) (.const (.int .i64 1)), (some (93, false)), []⟩, 
  ⟨(some (96)), .pick (.tmp 93) (.const (.bool true)) (.tmp 95), (some (90, true)), []⟩, 
  ⟨(some (97)), .pick (.tmp 90) (.tmp 96) (.const (.bool false)), none, []⟩, 
  ⟨(some (98)), .move (.tmp 97), none, []⟩, 
  ⟨(some (99)), .move (.tmp 10), (some (98, true)), []⟩, 
  ⟨(some (100)), .bin .plain .neq (.tmp 99) (.const (.int .i64 2)), (some (98, true)), []⟩, 
  ⟨(some (101)), .move (.tmp 100), (some (98, true)), []⟩, 
  ⟨(some (102)), .move (.tmp 13), (some (101, false)), []⟩, 
  ⟨(some (103)), .bin .plain .eql (.tmp 102) (.const (.int .i64 2)), (some (101, false)), []⟩, 
  ⟨(some (104)), .pick (.tmp 101) (.const (.bool true)) (.tmp 103), (some (98, true)), []⟩, 
  ⟨(some (105)), .pick (.tmp 98) (.tmp 104) (.const (.bool false)), none, []⟩, 
  ⟨(some (4)), .move (.tmp 105), none, []⟩]
def k_law03_stricter : AFun := { params := 2, ntmps := 106, body := (.seq (.reg k_law03_stricter_r0 false) (.seq (.reg k_law03_stricter_r1 false) (.seq (.reg k_law03_stricter_r2 false) (.seq (.reg k_law03_stricter_r3 false) (.seq (.reg k_law03_stricter_r4 false) (.seq (.reg k_law03_stricter_r5 false) (.seq (.reg k_law03_stricter_r6 true) (.seq (.reg k_law03_stricter_r7 false) (.seq (.reg k_law03_stricter_r8 false) (.seq (.reg k_law03_stricter_r9 false) .ret)))))))))), res := [.tmp 4] }
theorem k_law03_stricter_ok : cfun Try.prog Try.f63 = k_law03_stricter := by kernel_rfl


abbrev n_law03_CathodeVerdicts : Nat := 12
theorem e_law03_CathodeVerdicts : EntryOK Try.prog n_law03_CathodeVerdicts k_law03_CathodeVerdicts := ⟨Try.f12, Try.func12, k_law03_CathodeVerdicts_ok, by kernel_rfl⟩
abbrev n_law03_kept : Nat := 62
theorem e_law03_kept : EntryOK Try.prog n_law03_kept k_law03_kept := ⟨Try.f62, Try.func62, k_law03_kept_ok, by kernel_rfl⟩
abbrev n_law03_stricter : Nat := 63
theorem e_law03_stricter : EntryOK Try.prog n_law03_stricter k_law03_stricter := ⟨Try.f63, Try.func63, k_law03_stricter_ok, by kernel_rfl⟩

attribute [go_sem] k_law03_CathodeVerdicts_r0 k_law03_CathodeVerdicts_r1 k_law03_CathodeVerdicts_r2 k_law03_CathodeVerdicts_r3 k_law03_CathodeVerdicts_r4 k_law03_CathodeVerdicts_r5 k_law03_CathodeVerdicts_r6 k_law03_CathodeVerdicts_r7 k_law03_CathodeVerdicts_r8 k_law03_CathodeVerdicts_r9 k_law03_CathodeVerdicts_r10 k_law03_CathodeVerdicts_r11
attribute [go_sem] k_law03_CathodeVerdicts_r12 k_law03_kept_r0 k_law03_kept_r1 k_law03_kept_r2 k_law03_kept_r3s k_law03_kept_r4 k_law03_kept_r5 k_law03_kept_r7 k_law03_kept_r8 k_law03_stricter_r0 k_law03_stricter_r1 k_law03_stricter_r2
attribute [go_sem] k_law03_stricter_r3 k_law03_stricter_r4 k_law03_stricter_r5 k_law03_stricter_r6s k_law03_stricter_r7 k_law03_stricter_r8 k_law03_stricter_r9 k_law03_stricter_r6_sg k_law03_kept_r3_sg k_law03_stricter_r6_st k_law03_kept_r3_st k_law03_CathodeVerdicts
attribute [go_sem] k_law03_kept k_law03_stricter
end Go.Proofs
namespace Go.Proofs
open Go Go.Sx

-- 4: thermion/thermionlaw03.CathodeTicks
def k_law03_CathodeTicks_r0 : List AOper := [
  ⟨(some (5)), .box (.tmp 0), none, []⟩, 
  ⟨(some (6)), .box (.tmp 1), none, []⟩, 
  ⟨(some (10)), .move (.const (.bool false)), none, []⟩]
def k_law03_CathodeTicks_r1 : List AOper := [
  ⟨(some (27)), .fieldAddr 6 (.tmp 5), none, []⟩, 
  ⟨(some (28)), .load none (.tmp 27), none, []⟩, 
  ⟨(some (29)), .len false (.tmp 28), none, []⟩, 
  ⟨(some (30)), .bin .plain .gtr (.tmp 29) (.const (.int .i64 30)), none, []⟩]
def k_law03_CathodeTicks_r2 : List AOper := [
  ⟨(some (31)), .call (.const (.fn (.func 18) [] [])) [], none, []⟩, 
  ⟨(some (10)), .move (.tmp 31), none, []⟩]
def k_law03_CathodeTicks_r3 : List AOper := [
  ⟨(some (32)), .move (.tmp 4), none, []⟩, 
  ⟨(some (33)), .call (.const (.fn (.func 19) [] [])) [.tmp 32], none, []⟩, 
  ⟨(some (11)), .move (.tmp 33), none, []⟩]
def k_law03_CathodeTicks_r4 : List AOper := [
  ⟨(some (34)), .move (.tmp 11), none, []⟩, 
  ⟨(some (35)), .call (.const (.fn (.func 20) [] [])) [.tmp 34], none, []⟩, 
  ⟨(some (12)), .box (.const (.agg [.int .i64 0, .int .i64 0, .int .i64 0, .int .i64 0, .int .i64 0, .int .i64 0, .nilsl])), none, []⟩, 
  ⟨none, .store 7 (.tmp 12) (.tmp 35), none, []⟩]
def k_law03_CathodeTicks_r5 : List AOper := [
  ⟨(some (37)), .load (some (7)) (.tmp 12), none, []⟩, 
  ⟨(some (38)), .move (.tmp 11), none, [0]⟩, 
  ⟨(some (39)), .call (.const (.fn (.func 21) [] [])) [.tmp 38, .const (.int .i64 6), .const (.int .i64 9)], none, [0]⟩, 
  ⟨(some (40)), .call (.const (.fn (.func 34) [] [])) [.tmp 37, .tmp 39], none, []⟩, 
  ⟨(some (36)), .move (.tmp 40), none, []⟩, 
  ⟨(some (41)), .extract (.tmp 36) 0, none, []⟩, 
  ⟨(some (42)), .extract (.tmp 36) 1, none, [5]⟩, 
  ⟨(some (13)), .move (.tmp 41), none, [6]⟩, 
  ⟨(some (14)), .move (.tmp 42), none, []⟩]
def k_law03_CathodeTicks_r5s : List (List AOper) := [
  [
  ⟨(some (37)), .load (some (7)) (.tmp 12), none, []⟩, 
  ⟨(some (38)), .move (.tmp 11), none, [0]⟩, 
  ⟨(some (39)), .call (.const (.fn (.func 21) [] [])) [.tmp 38, .const (.int .i64 6), .const (.int .i64 9)], none, [0]⟩], 
  [
  ⟨(some (40)), .call (.const (.fn (.func 34) [] [])) [.tmp 37, .tmp 39], none, []⟩], 
  [
  ⟨(some (36)), .move (.tmp 40), none, []⟩], 
  [
  ⟨(some (41)), .extract (.tmp 36) 0, none, []⟩, 
  ⟨(some (42)), .extract (.tmp 36) 1, none, [5]⟩, 
  ⟨(some (13)), .move (.tmp 41), none, [6]⟩], 
  [
  ⟨(some (14)), .move (.tmp 42), none, []⟩]]
theorem k_law03_CathodeTicks_r5_sg : segs k_law03_CathodeTicks_r5 = k_law03_CathodeTicks_r5s := by kernel_rfl
theorem k_law03_CathodeTicks_r5_st : statOK k_law03_CathodeTicks_r5 = true := by kernel_rfl
def k_law03_CathodeTicks_r6 : List AOper := [
  ⟨(some (43)), .load (some (13)) (.tmp 6), none, []⟩, 
  ⟨(some (15)), .box (.const (.agg [.int .i64 0, .int .i64 0, .int .i64 0, .int .i64 0, .int .i64 0, .int .i64 0, .int .i64 0, .int .i64 0, .int .i64 0, .int .i64 0, .int .i64 0, .int .i64 0, .int .i64 0])), none, []⟩, 
  ⟨none, .store 13 (.tmp 15) (.tmp 43), none, []⟩]
def k_law03_CathodeTicks_r7 : List AOper := [
  ⟨(some (44)), .move (.tmp 13), none, []⟩, 
  ⟨(some (45)), .len false (.tmp 44), none, []⟩, 
  ⟨(some (46)), .bin .plain .gtr (.tmp 45) (.const (.int .i64 0)), none, []⟩]
def k_law03_CathodeTicks_r8 : List AOper := [
  ⟨(some (47)), .move (.tmp 13), none, []⟩, 
  ⟨(some (48)), .move (.tmp 13), none, []⟩, 
  ⟨(some (49)), .len false (.tmp 48), none, []⟩, 
  ⟨(some (50)), .bin .plain .sub (.tmp 49) (.const (.int .i64 1)), none, []⟩, 
  ⟨(some (51)), .indexAddr 13 (.tmp 47) (.tmp 50), none, []⟩, 
  ⟨(some (52)), .load (some (13)) (.tmp 51), none, []⟩, 
  ⟨none, .store 13 (.tmp 15) (.tmp 52), none, []⟩]
def k_law03_CathodeTicks_r9 : List AOper := [
  ⟨(some (53)), .move (.tmp 11), none, []⟩, 
  ⟨(some (54)), .call (.const (.fn (.func 22) [] [])) [.tmp 53, .const (.int .i64 20)], none, []⟩]
def k_law03_CathodeTicks_r10 : List AOper := [
  ⟨(some (55)), .fieldAddr 10 (.tmp 15), none, []⟩, 
  ⟨(some (56)), .fieldAddr 1 (.tmp 55), none, []⟩, 
  ⟨none, .store 1 (.tmp 56) (.const (.int .i64 1099511627776)), none, []⟩]
def k_law03_CathodeTicks_r11 : List AOper := [
  ⟨(some (57)), .load (some (7)) (.tmp 5), none, []⟩, 
  ⟨(some (58)), .load (some (7)) (.tmp 12), none, [0]⟩, 
  ⟨(some (59)), .load (some (7)) (.tmp 12), none, [0, 1]⟩, 
  ⟨(some (60)), .buildSlice 7 [.tmp 57, .tmp 58, .tmp 59], none, []⟩, 
  ⟨(some (61)), .load (some (13)) (.tmp 6), none, [0, 1, 2, 3]⟩, 
  ⟨(some (62)), .load (some (13)) (.tmp 6), none, [0, 1, 2, 3, 4]⟩, 
  ⟨(some (63)), .load (some (13)) (.tmp 15), none, [0, 1, 2, 3, 4, 5]⟩, 
  ⟨(some (64)), .buildSlice 13 [.tmp 61, .tmp 62, .tmp 63], none, [0, 1, 2, 3]⟩, 
  ⟨(some (16)), .move (.tmp 60), none, [4, 5, 6, 7]⟩, 
  ⟨(some (17)), .move (.tmp 64), none, []⟩]
def k_law03_CathodeTicks_r11s : List (List AOper) := [
  [
  ⟨(some (57)), .load (some (7)) (.tmp 5), none, []⟩, 
  ⟨(some (58)), .load (some (7)) (.tmp 12), none, [0]⟩, 
  ⟨(some (59)), .load (some (7)) (.tmp 12), none, [0, 1]⟩, 
  ⟨(some (60)), .buildSlice 7 [.tmp 57, .tmp 58, .tmp 59], none, []⟩, 
  ⟨(some (61)), .load (some (13)) (.tmp 6), none, [0, 1, 2, 3]⟩, 
  ⟨(some (62)), .load (some (13)) (.tmp 6), none, [0, 1, 2, 3, 4]⟩, 
  ⟨(some (63)), .load (some (13)) (.tmp 15), none, [0, 1, 2, 3, 4, 5]⟩, 
  ⟨(some (64)), .buildSlice 13 [.tmp 61, .tmp 62, .tmp 63], none, [0, 1, 2, 3]⟩, 
  ⟨(some (16)), .move (.tmp 60), none, [4, 5, 6, 7]⟩], 
  [
  ⟨(some (17)), .move (.tmp 64), none, []⟩]]
theorem k_law03_CathodeTicks_r11_sg : segs k_law03_CathodeTicks_r11 = k_law03_CathodeTicks_r11s := by kernel_rfl
theorem k_law03_CathodeTicks_r11_st : statOK k_law03_CathodeTicks_r11 = true := by kernel_rfl
def k_law03_CathodeTicks_r12 : List AOper := [
  ⟨(some (18)), .move (.const (.int .i64 0)), none, []⟩]
def k_law03_CathodeTicks_r13 : List AOper := [
  ⟨(some (65)), .move (.tmp 18), none, []⟩, 
  ⟨(some (66)), .move (.tmp 16), none, []⟩, 
  ⟨(some (67)), .len false (.tmp 66), none, []⟩, 
  ⟨(some (68)), .bin .plain .lss (.tmp 65) (.tmp 67), none, []⟩]
def k_law03_CathodeTicks_r14 : List AOper := [
  ⟨(some (72)), .move (.tmp 16), none, []⟩, 
  ⟨(some (73)), .move (.tmp 18), none, []⟩, 
  ⟨(some (74)), .indexAddr 7 (.tmp 72) (.tmp 73), none, []⟩, 
  ⟨(some (75)), .load (some (7)) (.tmp 74), none, []⟩, 
  ⟨(some (76)), .call (.const (.fn (.func 35) [] [])) [.tmp 75], none, []⟩, 
  ⟨(some (71)), .move (.tmp 76), none, []⟩, 
  ⟨(some (77)), .extract (.tmp 71) 0, none, []⟩, 
  ⟨(some (78)), .extract (.tmp 71) 1, none, []⟩, 
  ⟨(some (19)), .box (.const (.agg [.int .i64 0, .int .i64 0, .int .i64 0, .int .i64 0, .int .i64 0, .int .i64 0, .int .i64 0, .int .i64 0, .int .i64 0, .int .i64 0, .int .i64 0, .int .i64 0, .int .i64 0])), none, []⟩, 
  ⟨none, .store 13 (.tmp 19) (.tmp 77), none, []⟩, 
  ⟨(some (20)), .move (.tmp 78), none, []⟩]
def k_law03_CathodeTicks_r15 : List AOper := [
  ⟨(some (80)), .move (.tmp 16), none, []⟩, 
  ⟨(some (81)), .move (.tmp 18), none, []⟩, 
  ⟨(some (82)), .indexAddr 7 (.tmp 80) (.tmp 81), none, []⟩, 
  ⟨(some (83)), .load (some (7)) (.tmp 82), none, []⟩, 
  ⟨(some (84)), .call (.const (.fn (.func 36) [] [])) [.tmp 83], none, []⟩, 
  ⟨(some (79)), .move (.tmp 84), none, []⟩, 
  ⟨(some (85)), .extract (.tmp 79) 0, none, []⟩, 
  ⟨(some (86)), .extract (.tmp 79) 1, none, []⟩, 
  ⟨(some (21)), .box (.const (.agg [.int .i64 0, .int .i64 0, .int .i64 0, .int .i64 0, .int .i64 0, .int .i64 0, .int .i64 0, .int .i64 0, .int .i64 0, .int .i64 0, .int .i64 0, .int .i64 0, .int .i64 0])), none, []⟩, 
  ⟨none, .store 13 (.tmp 21) (.tmp 85), none, []⟩, 
  ⟨(some (22)), .move (.tmp 86), none, []⟩]
def k_law03_CathodeTicks_r16 : List AOper := [
  ⟨(some (88)), .move (.tmp 16), none, []⟩, 
  ⟨(some (89)), .move (.tmp 18), none, [0]⟩, 
  ⟨(some (90)), .indexAddr 7 (.tmp 88) (.tmp 89), none, []⟩, 
  ⟨(some (91)), .load (some (7)) (.tmp 90), none, []⟩, 
  ⟨(some (92)), .move (.tmp 17), none, [0, 1, 2, 3]⟩, 
  ⟨(some (93)), .move (.tmp 18), none, [0, 1, 2, 3, 4]⟩, 
  ⟨(some (94)), .indexAddr 13 (.tmp 92) (.tmp 93), none, [0, 1, 2, 3]⟩, 
  ⟨(some (95)), .load (some (13)) (.tmp 94), none, [0, 1, 2, 3]⟩, 
  ⟨(some (96)), .move (.tmp 2), none, [0, 1, 2, 3, 4, 5, 6, 7]⟩, 
  ⟨(some (97)), .move (.tmp 3), none, [0, 1, 2, 3, 4, 5, 6, 7, 8]⟩, 
  ⟨(some (98)), .call (.const (.fn (.func 37) [] [])) [.tmp 91, .tmp 95, .tmp 96, .tmp 97], none, []⟩, 
  ⟨(some (87)), .move (.tmp 98), none, []⟩, 
  ⟨(some (99)), .extract (.tmp 87) 0, none, []⟩, 
  ⟨(some (100)), .extract (.tmp 87) 1, none, [12]⟩, 
  ⟨(some (23)), .box (.const (.agg [.int .i64 0, .int .i64 0, .int .i64 0, .int .i64 0, .int .i64 0, .int .i64 0, .int .i64 0, .int .i64 0, .int .i64 0, .int .i64 0, .int .i64 0, .int .i64 0, .int .i64 0])), none, [0, 1, 2, 3, 4, 5, 6, 7, 8, 9, 10, 11, 12, 13]⟩, 
  ⟨none, .store 13 (.tmp 23) (.tmp 99), none, [13]⟩, 
  ⟨(some (24)), .move (.tmp 100), none, []⟩]
def k_law03_CathodeTicks_r16s : List (List AOper) := [
  [
  ⟨(some (88)), .move (.tmp 16), none, []⟩, 
  ⟨(some (89)), .move (.tmp 18), none, [0]⟩, 
  ⟨(some (90)), .indexAddr 7 (.tmp 88) (.tmp 89), none, []⟩, 
  ⟨(some (91)), .load (some (7)) (.tmp 90), none, []⟩, 
  ⟨(some (92)), .move (.tmp 17), none, [0, 1, 2, 3]⟩, 
  ⟨(some (93)), .move (.tmp 18), none, [0, 1, 2, 3, 4]⟩, 
  ⟨(some (94)), .indexAddr 13 (.tmp 92) (.tmp 93), none, [0, 1, 2, 3]⟩, 
  ⟨(some (95)), .load (some (13)) (.tmp 94), none, [0, 1, 2, 3]⟩, 
  ⟨(some (96)), .move (.tmp 2), none, [0, 1, 2, 3, 4, 5, 6, 7]⟩, 
  ⟨(some (97)), .move (.tmp 3), none, [0, 1, 2, 3, 4, 5, 6, 7, 8]⟩, 
  ⟨(some (98)), .call (.const (.fn (.func 37) [] [])) [.tmp 91, .tmp 95, .tmp 96, .tmp 97], none, []⟩, 
  ⟨(some (87)), .move (.tmp 98), none, []⟩, 
  ⟨(some (99)), .extract (.tmp 87) 0, none, []⟩, 
  ⟨(some (100)), .extract (.tmp 87) 1, none, [12]⟩, 
  ⟨(some (23)), .box (.const (.agg [.int .i64 0, .int .i64 0, .int .i64 0, .int .i64 0, .int .i64 0, .int .i64 0, .int .i64 0, .int .i64 0, .int .i64 0, .int .i64 0, .int .i64 0, .int .i64 0, .int .i64 0])), none, [0, 1, 2, 3, 4, 5, 6, 7, 8, 9, 10, 11, 12, 13]⟩, 
  ⟨none, .store 13 (.tmp 23) (.tmp 99), none, [13]⟩], 
  [
  ⟨(some (24)), .move (.tmp 100), none, []⟩]]
theorem k_law03_CathodeTicks_r16_sg : segs k_law03_CathodeTicks_r16 = k_law03_CathodeTicks_r16s := by kernel_rfl
theorem k_law03_CathodeTicks_r16_st : statOK k_law03_CathodeTicks_r16 = true := by kernel_rfl
def k_law03_CathodeTicks_r17 : List AOper := [
  ⟨(some (102)), .move (.tmp 16), none, []⟩, 
  ⟨(some (103)), .move (.tmp 18), none, [0]⟩, 
  ⟨(some (104)), .indexAddr 7 (.tmp 102) (.tmp 103), none, []⟩, 
  ⟨(some (105)), .load (some (7)) (.tmp 104), none, []⟩, 
  ⟨(some (106)), .move (.tmp 17), none, [0, 1, 2, 3]⟩, 
  ⟨(some (107)), .move (.tmp 18), none, [0, 1, 2, 3, 4]⟩, 
  ⟨(some (108)), .indexAddr 13 (.tmp 106) (.tmp 107), none, [0, 1, 2, 3]⟩, 
  ⟨(some (109)), .load (some (13)) (.tmp 108), none, [0, 1, 2, 3]⟩, 
  ⟨(some (110)), .move (.tmp 2), none, [0, 1, 2, 3, 4, 5, 6, 7]⟩, 
  ⟨(some (111)), .move (.tmp 3), none, [0, 1, 2, 3, 4, 5, 6, 7, 8]⟩, 
  ⟨(some (112)), .call (.const (.fn (.func 38) [] [])) [.tmp 105, .tmp 109, .tmp 110, .tmp 111], none, []⟩, 
  ⟨(some (101)), .move (.tmp 112), none, []⟩, 
  ⟨(some (113)), .extract (.tmp 101) 0, none, []⟩, 
  ⟨(some (114)), .extract (.tmp 101) 1, none, [12]⟩, 
  ⟨(some (25)), .box (.const (.agg [.int .i64 0, .int .i64 0, .int .i64 0, .int .i64 0, .int .i64 0, .int .i64 0, .int .i64 0, .int .i64 0, .int .i64 0, .int .i64 0, .int .i64 0, .int .i64 0, .int .i64 0])), none, [0, 1, 2, 3, 4, 5, 6, 7, 8, 9, 10, 11, 12, 13]⟩, 
  ⟨none, .store 13 (.tmp 25) (.tmp 113), none, [13]⟩, 
  ⟨(some (26)), .move (.tmp 114), none, []⟩]
def k_law03_CathodeTicks_r17s : List (List AOper) := [
  [
  ⟨(some (102)), .move (.tmp 16), none, []⟩, 
  ⟨(some (103)), .move (.tmp 18), none, [0]⟩, 
  ⟨(some (104)), .indexAddr 7 (.tmp 102) (.tmp 103), none, []⟩, 
  ⟨(some (105)), .load (some (7)) (.tmp 104), none, []⟩, 
  ⟨(some (106)), .move (.tmp 17), none, [0, 1, 2, 3]⟩, 
  ⟨(some (107)), .move (.tmp 18), none, [0, 1, 2, 3, 4]⟩, 
  ⟨(some (108)), .indexAddr 13 (.tmp 106) (.tmp 107), none, [0, 1, 2, 3]⟩, 
  ⟨(some (109)), .load (some (13)) (.tmp 108), none, [0, 1, 2, 3]⟩, 
  ⟨(some (110)), .move (.tmp 2), none, [0, 1, 2, 3, 4, 5, 6, 7]⟩, 
  ⟨(some (111)), .move (.tmp 3), none, [0, 1, 2, 3, 4, 5, 6, 7, 8]⟩, 
  ⟨(some (112)), .call (.const (.fn (.func 38) [] [])) [.tmp 105, .tmp 109, .tmp 110, .tmp 111], none, []⟩, 
  ⟨(some (101)), .move (.tmp 112), none, []⟩, 
  ⟨(some (113)), .extract (.tmp 101) 0, none, []⟩, 
  ⟨(some (114)), .extract (.tmp 101) 1, none, [12]⟩, 
  ⟨(some (25)), .box (.const (.agg [.int .i64 0, .int .i64 0, .int .i64 0, .int .i64 0, .int .i64 0, .int .i64 0, .int .i64 0, .int .i64 0, .int .i64 0, .int .i64 0, .int .i64 0, .int .i64 0, .int .i64 0])), none, [0, 1, 2, 3, 4, 5, 6, 7, 8, 9, 10, 11, 12, 13]⟩, 
  ⟨none, .store 13 (.tmp 25) (.tmp 113), none, [13]⟩], 
  [
  ⟨(some (26)), .move (.tmp 114), none, []⟩]]
theorem k_law03_CathodeTicks_r17_sg : segs k_law03_CathodeTicks_r17 = k_law03_CathodeTicks_r17s := by kernel_rfl
theorem k_law03_CathodeTicks_r17_st : statOK k_law03_CathodeTicks_r17 = true := by kernel_rfl
def k_law03_CathodeTicks_r18 : List AOper := [
  ⟨(some (115)), .load (some (13)) (.tmp 19), none, []⟩, 
  ⟨(some (116)), .load (some (13)) (.tmp 21), none, []⟩, 
  ⟨(some (117)), .eqAgg true [.int, .int, .int, .int, .int, .int, .int, .int, .int, .int, .int, .int, .int] (.tmp 115) (.tmp 116), none, []⟩, 
  ⟨(some (118)), .move (.tmp 117), none, []⟩, 
  ⟨(some (119)), .move (.tmp 20), (some (118, false)), []⟩, 
  ⟨(some (120)), .move (.tmp 22), (some (118, false)), []⟩, 
  ⟨(some (121)), .bin .plain .neq (.tmp 119) (.tmp 120), (some (118, false)), []⟩, 
  ⟨(some (122)), .pick (.tmp 118) (.const (.bool true)) (.tmp 121), none, []⟩, 
  ⟨(some (123)), .move (.tmp 122), none, []⟩, 
  ⟨(some (124)), .load (some (13)) (.tmp 23), (some (123, false)), []⟩, 
  ⟨(some (125)), .load (some (13)) (.tmp 25), (some (123, false)), []⟩, 
  ⟨(some (126)), .eqAgg true [.int, .int, .int, .int, .int, .int, .int, .int, .int, .int, .int, .int, .int] (.tmp 124) (.tmp 125), (some (123, false)), []⟩, 
  ⟨(some (127)), .pick (.tmp 123) (.const (.bool true)) (.tmp 126), none, []⟩, 
  ⟨(some (128)), .move (.tmp 127), none, []⟩, 
  ⟨(some (129)), .move (.tmp 24), (some (128, false)), []⟩, 
  ⟨(some (130)), .move (.tmp 26), (some (128, false)), []⟩, 
  ⟨(some (131)), .bin .plain .neq (.tmp 129) (.tmp 130), (some (128, false)), []⟩, 
  ⟨(some (132)), .pick (.tmp 128) (.const (.bool true)) (.tmp 131), none, []⟩]
def k_law03_CathodeTicks_r19 : List AOper := [
  ⟨(some (10)), .move (.const (.bool false)), none, []⟩]
def k_law03_CathodeTicks_r20 : List AOper := [
  ⟨(some (69)), .move (.tmp 18), none, []⟩, 
  ⟨(some (70)), .bin .plain .add (.tmp 69) (.const (.int .i64 1)), none, []⟩, 
  ⟨(some (18)), .move (.tmp 70), none, []⟩]
def k_law03_CathodeTicks_r21 : ACode := (.seq (.seq (.reg k_law03_CathodeTicks_r13 false) (.cond (.tmp 68) .skip (.exit 0))) (.seq (.block 1 (.seq (.reg k_law03_CathodeTicks_r14 false) (.seq (.reg k_law03_CathodeTicks_r15 false) (.seq (.reg k_law03_CathodeTicks_r16 true) (.seq (.reg k_law03_CathodeTicks_r17 true) (.seq (.reg k_law03_CathodeTicks_r18 false) (.cond (.tmp 132) (.seq (.reg k_law03_CathodeTicks_r19 false) .ret) .skip))))))) (.reg k_law03_CathodeTicks_r20 false)))
def k_law03_CathodeTicks_r22 : List AOper := [
  ⟨(some (133)), .call (.const (.fn (.func 18) [] [])) [], none, []⟩, 
  ⟨(some (10)), .move (.tmp 133), none, []⟩]
def k_law03_CathodeTicks : AFun := { params := 5, ntmps := 134, body := (.seq (.reg k_law03_CathodeTicks_r0 false) (.seq (.seq (.reg k_law03_CathodeTicks_r1 false) (.cond (.tmp 30) (.seq (.reg k_law03_CathodeTicks_r2 false) .ret) .skip)) (.seq (.reg k_law03_CathodeTicks_r3 false) (.seq (.reg k_law03_CathodeTicks_r4 false) (.seq (.reg k_law03_CathodeTicks_r5 true) (.seq (.reg k_law03_CathodeTicks_r6 false) (.seq (.seq (.reg k_law03_CathodeTicks_r7 false) (.cond (.tmp 46) (.reg k_law03_CathodeTicks_r8 false) .skip)) (.seq (.seq (.reg k_law03_CathodeTicks_r9 false) (.cond (.tmp 54) (.reg k_law03_CathodeTicks_r10 false) .skip)) (.seq (.reg k_law03_CathodeTicks_r11 true) (.seq (.seq (.reg k_law03_CathodeTicks_r12 false) (.block 0 (.loop k_law03_CathodeTicks_r21))) (.seq (.reg k_law03_CathodeTicks_r22 false) .ret))))))))))), res := [.tmp 10] }
theorem k_law03_CathodeTicks_ok : cfun Try.prog Try.f4 = k_law03_CathodeTicks := by kernel_rfl


abbrev n_law03_CathodeTicks : Nat := 4
theorem e_law03_CathodeTicks : EntryOK Try.prog n_law03_CathodeTicks k_law03_CathodeTicks := ⟨Try.f4, Try.func4, k_law03_CathodeTicks_ok, by kernel_rfl⟩

attribute [go_sem] k_law03_CathodeTicks_r0 k_law03_CathodeTicks_r1 k_law03_CathodeTicks_r2 k_law03_CathodeTicks_r3 k_law03_CathodeTicks_r4 k_law03_CathodeTicks_r5s k_law03_CathodeTicks_r6 k_law03_CathodeTicks_r7 k_law03_CathodeTicks_r8 k_law03_CathodeTicks_r9 k_law03_CathodeTicks_r10 k_law03_CathodeTicks_r11s
attribute [go_sem] k_law03_CathodeTicks_r12 k_law03_CathodeTicks_r13 k_law03_CathodeTicks_r14 k_law03_CathodeTicks_r15 k_law03_CathodeTicks_r16s k_law03_CathodeTicks_r17s k_law03_CathodeTicks_r18 k_law03_CathodeTicks_r19 k_law03_CathodeTicks_r20 k_law03_CathodeTicks_r22 k_law03_CathodeTicks_r11_sg k_law03_CathodeTicks_r5_sg
attribute [go_sem] k_law03_CathodeTicks_r16_sg k_law03_CathodeTicks_r17_sg k_law03_CathodeTicks_r11_st k_law03_CathodeTicks_r5_st k_law03_CathodeTicks_r16_st k_law03_CathodeTicks_r17_st k_law03_CathodeTicks
end Go.Proofs
