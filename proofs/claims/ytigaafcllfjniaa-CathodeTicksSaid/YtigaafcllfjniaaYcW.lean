/- Courses: which are possible. -/
import Derived.Test.YtigaafcllfjniaaYcV
namespace Go.Proofs
open Go Go.Sx
attribute [local irreducible] Run

def posT : List (Nat × AVal) := [(3, .ptr 0 0 0 1), (5, .ptr 1 0 0 1), (6, .ptr 2 0 0 1), (7, .ptr 3 0 0 1), (34, .fn (.func n_cathode_ticks_1) [] [.ptr 4 0 0 1])]
/-- The row of a range over ticks in 'Possible'. -/
def posL (st : LoopState) (pe : Option ACode) : Row := .loop (tsets 59 posT) [35, 36] k_cathode_Possible_r12 k_cathode_Possible_r13 5 st pe
/-- Where it stands. -/
def posH (c : Ct) (l : List Ht) (w : List Mx) (b : Bool) (heat : Int) (x : Row) (X : Heap) : Heap :=
  [some (.cells false 7 [c.v (.view (c.bands.map Bd.v))]), some (.cells false 1 [.view (w.map Mx.v)]), some (.cells false 1 [.bool b]), some (.cells false 1 [.int .i64 heat]), some (.cells false 1 [.view (l.map Ht.v)]), some .dfr, some x] ++ X

set_option maxHeartbeats 4000000 in
set_option maxRecDepth 4000 in
theorem Possible_run (c : Ct) (hc : CtOK c) (l : List Ht) (hl : LsOK l) (w : List Mx) (m : Mx) (hw : Crs c (flat l) w m) :
    Ans Try.prog n_cathode_Possible [c.v (.view (c.bands.map Bd.v)), .view (l.map Ht.v), .view (w.map Mx.v)] [] (.bool true) [] := by
  have hlen := hl.len
  have hsum := hl.sum
  have hfl := flat_len hl.all
  have hwl := hw.len
  have hw0 := hw.first
  have w1 : IntKind.i64.wrap (1 + lenOfL l) = (w.length : Int) := by rw [w64 (by omega)]; omega
  have hw00 : (0 : Int) < w.length := by omega
  refine spec_run e_cathode_Possible fun G => ?_
  simp only [go_sem, Ct.v, Ct.cs]
  refine cP (Check_run c hc) ?_
  simp only [go_sem]
  refine cP (CheckSchedule_run l hl) ?_
  simp only [go_sem]
  refine dP (length_run l hl) ?_
  simp only [go_sem, w1, hw00, hw0, List.length_map, Mx.v, Mx.cs, start]
  refine cN1 (ticks_run l) ?_
  simp only [go_sem, ren, rens]
  refine rangeF 2000 (ρ := tsets 59 posT) (by simp [go_sem, posT]) (by simp only [go_sem, posT]; rfl)
    (ticks1_iter (r := 6) (j := 4) (N := 7) hl (Pre := fun i H => ∃ X, H = posH c l w false (heatOf c ((flat l).take i)) (posL .ready none) X) (Stop := fun _ => False)
      ⟨?_, ?_, ?_⟩ ⟨[], rfl⟩) (by simp) ?_
  · rintro i H ⟨X, rfl⟩
    exact ⟨by simp [posH], rfl⟩
  · rintro i H x ⟨X, rfl⟩
    exact ⟨X ++ [x], by simp [posH]⟩
  · rintro i z H hz ⟨X, rfl⟩
    obtain ⟨z', m1, m2, e1, e2, e3, e4, e5⟩ := hw.part i (List.getElem?_eq_some_iff.1 hz).1
    rw [hz] at e1; cases e1
    have hil := (List.getElem?_eq_some_iff.1 hz).1
    have hall : ∀ y ∈ (flat l).take i ++ [z], HtOK y := fun y hy => by
      rcases List.mem_append.1 hy with hy | hy
      · exact hl.all _ (flat_mem (List.mem_of_mem_take hy))
      · simp at hy; subst hy; exact hl.all _ (flat_mem (List.mem_of_getElem? hz))
    have hzz := hall z (by simp)
    have hh0 := heatOf_in hc (a := (flat l).take i) fun y hy => hall y (by simp [hy])
    have hh1 := heatOf_in hc hall
    have hm := moved_ok (heatOf c ((flat l).take i)) z.heat c.slew hh0 hzz.heat hc.slew
    rw [← heatOf_snoc] at hm
    have hr := ratesAt_run c hc (heatOf c ((flat l).take i ++ [z])) z.cur hh1.1 hzz.cur
    have hb := ratesAt_ok hc hh1.1 hzz.cur
    have hF := follows_run hc hb (e2.ok hc fun y hy => hall y (by simp [hy])) e5
    rw [show (flat l).take (i + 1) = (flat l).take i ++ [z] by rw [List.take_add_one, hz]; rfl]
    have g1 : (i : Int) < w.length := by omega
    have g2 : (i : Int) + 1 < w.length := by omega
    have g3 : ¬ (i : Int) < 0 := by omega
    have g4 : ¬ (i : Int) + 1 < 0 := by omega
    have g5 : IntKind.i64.wrap ((i : Int) + 1 - 1) = i := by rw [w64 (by omega)]; omega
    have g6 : ((i : Int) + 1).toNat = i + 1 := by omega
    generalize heatOf c ((flat l).take i ++ [z]) = h2 at *
    generalize heatOf c ((flat l).take i) = h1 at *
    generalize ratesAt c h2 z.cur = bd at *
    refine RoundW.mono (R := fun v H' => v = .bool true ∧ ∃ Y, H' = posH c l w false h2 (posL .ready none) (X ++ Y)) ?_ ?_
    rotate_left
    · rintro v H' ⟨rfl, Y, rfl⟩
      exact ⟨tail_kept rfl rfl, .inl ⟨rfl, _, rfl⟩⟩
    generalize hR : (fun (v : AVal) (H' : Heap) => v = .bool true ∧ ∃ Y, H' = posH c l w false h2 (posL .ready none) (X ++ Y)) = R
    have hfin : ∀ Y, R (.bool true) (posH c l w false h2 (posL .ready none) (X ++ Y)) := fun Y => by rw [← hR]; exact ⟨rfl, Y, rfl⟩
    clear hR
    refine roundW_run 500 k_cathode_Possible_r12.eq_1 rfl rfl (ρ' := tsets 59 (posT ++ [(35, .int .i64 ((i : Int) + 1)), (36, z.v)])) rfl ?_
    simp only [go_sem, posT, posH, Ht.v, Ht.cs]
    refine roundMid_run 500 k_cathode_Possible_r13.eq_1 rfl rfl ?_
    simp only [go_sem, Ct.v, Ct.cs]
    refine cP hm ?_
    simp only [go_sem, g1, g2, g3, g4, g5, g6, e3, e4, Int.toNat_natCast, List.length_map, Ct.v, Ct.cs, Mx.v, Mx.cs]
    refine dP hr ?_
    simp only [go_sem, Bd.v, Bd.cs]
    refine cP hF ?_
    simp only [go_sem]
    refine roundEnd_on rfl ?_
    simp only [go_sem]
    exact hfin [_]
  · rintro v H' ⟨rfl, ⟨X, rfl⟩ | h⟩
    · refine ⟨fun q hq => by simp at hq; subst hq; rfl, _, _, _, _, _, _, _, rfl, by decide, ?_⟩
      simp only [go_sem, posH, posT, tsets]
      simp
    · exact h.elim
end Go.Proofs
