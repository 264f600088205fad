/- A part of the proof. -/
import Derived.Test.YtnfiahhdjilboaaPC
set_option linter.unusedSimpArgs false
set_option linter.unusedVariables false
namespace Go.Proofs
open Go Go.Sx
attribute [local irreducible] Run

theorem legT_ok {n b : Int} (hb : 0 ≤ b ∧ b ≤ 2000) {l : Lg} (hl : LgOK l) : ∀ t ∈ legT n b l, TkOK t := by
  intro t ht
  unfold legT at ht
  obtain ⟨i, hi, rfl⟩ := List.mem_map.1 ht
  have hi' := List.mem_range.1 hi
  have := hl.tk
  exact ⟨toAt_in hb hl.ht (by omega) (by omega), toAt_in (i := i + 1) hb hl.ht (by omega) (by omega)⟩
theorem allT_ok : ∀ {ls : List Lg} {n b : Int}, 0 ≤ b ∧ b ≤ 2000 → (∀ l ∈ ls, LgOK l) → ∀ t ∈ allT n b ls, TkOK t
  | [], _, _, _, _, t, ht => by simp [allT] at ht
  | l :: r, n, b, hb, h, t, ht => by
    rw [allT] at ht
    have hl := h l List.mem_cons_self
    rcases List.mem_append.1 ht with h1 | h1
    · exact legT_ok hb hl t h1
    · exact allT_ok hl.ht (fun x hx => h x (List.mem_cons_of_mem _ hx)) t h1

def stepS (zs : List Zn) (th : Int) (p : Int × Int) (t : Tk) : Int × Int :=
  (min (leastL p.1 (zAt zs t.t) + addL t (zAt zs t.t) th) capS, min (mostL p.2 (zAt zs t.t) + addH t (zAt zs t.t) th) capS)
def stAt (zs : List Zn) (th : Int) (ts : List Tk) (i : Nat) : Int × Int := (ts.take i).foldl (stepS zs th) (0, 0)
theorem stAt_succ {zs : List Zn} {th : Int} {ts : List Tk} {i : Nat} {t : Tk} (h : ts[i]? = some t) : stAt zs th ts (i + 1) = stepS zs th (stAt zs th ts i) t := by
  unfold stAt
  rw [List.take_add_one, h, Option.toList_some, List.foldl_append]
  rfl
theorem zAt_ok {zs : List Zn} (hz : ZsOK zs) (t : Int) : ZnOK (zAt zs t) := hz.all _ (zAt_mem t (fun h => by have := hz.len; rw [h] at this; simp at this))
theorem stepS_in {zs : List Zn} (hz : ZsOK zs) {th : Int} (hth : 1 ≤ th ∧ th ≤ 1000) {p : Int × Int} (hp : 0 ≤ p.1 ∧ p.1 ≤ capS ∧ 0 ≤ p.2 ∧ p.2 ≤ capS) {t : Tk} (ht : TkOK t) :
    0 ≤ (stepS zs th p t).1 ∧ (stepS zs th p t).1 ≤ capS ∧ 0 ≤ (stepS zs th p t).2 ∧ (stepS zs th p t).2 ≤ capS := by
  have ho := zAt_ok hz t.t
  have h1 := leastL_in hp.1 ho
  have h2 := mostL_in hp.2.2.1 ho
  have h3 := add_in ht ho hth
  simp only [stepS]
  unfold capS at *
  omega
theorem foldS_in {zs : List Zn} (hz : ZsOK zs) {th : Int} (hth : 1 ≤ th ∧ th ≤ 1000) : ∀ (ts : List Tk) (p : Int × Int), (0 ≤ p.1 ∧ p.1 ≤ capS ∧ 0 ≤ p.2 ∧ p.2 ≤ capS) → (∀ t ∈ ts, TkOK t) →
    0 ≤ (ts.foldl (stepS zs th) p).1 ∧ (ts.foldl (stepS zs th) p).1 ≤ capS ∧ 0 ≤ (ts.foldl (stepS zs th) p).2 ∧ (ts.foldl (stepS zs th) p).2 ≤ capS
  | [], _, hp, _ => hp
  | t :: r, p, hp, h => foldS_in hz hth r _ (stepS_in hz hth hp (h t List.mem_cons_self)) fun x hx => h x (List.mem_cons_of_mem _ hx)
theorem stAt_in {zs : List Zn} (hz : ZsOK zs) {th : Int} (hth : 1 ≤ th ∧ th ≤ 1000) {ts : List Tk} (h : ∀ t ∈ ts, TkOK t) (i : Nat) :
    0 ≤ (stAt zs th ts i).1 ∧ (stAt zs th ts i).1 ≤ capS ∧ 0 ≤ (stAt zs th ts i).2 ∧ (stAt zs th ts i).2 ≤ capS :=
  foldS_in hz hth _ _ (by simp [capS]) fun t ht => h t (List.mem_of_mem_take ht)

structure SBody (G : Ctx) (brk : Int) (zs : List Zn) (th f : Int) (ls : List Lg) (r jo jw N : Nat) (Pre : Nat → Heap → Prop) (Stop : Heap → Prop) : Prop where
  row : ∀ i H, Pre i H → N ≤ H.length ∧ H[jo]? = some (some (.cells false 2 [ovV f ls])) ∧ H[jw]? = some (some (.cells false 3 [wlV brk zs th]))
  grow : ∀ i H x, Pre i H → Pre i (H ++ [x])
  set : ∀ i H q x, N ≤ q → Pre i H → Pre i (H.set q x)
  halt : ∀ H q x, N ≤ q → Stop H → Stop (H.set q x)
  round : ∀ i t H, (allT 0 f ls)[i]? = some t → Pre i H → RoundW Try.prog G r [.int .i64 t.n, r2 (stAt zs th (allT 0 f ls) (i + 1)).1 (stAt zs th (allT 0 f ls) (i + 1)).2] H fun v H' =>
    (H.length ≤ H'.length ∧ ∀ q, N ≤ q → q < H.length → H'[q]? = H[q]?) ∧ ((v = .bool true ∧ Pre (i + 1) H') ∨ (v = .bool false ∧ Stop H'))

def siT (m jw : Nat) : List (Nat × AVal) := [(2, .ptr jw 0 0 1), (3, .ptr m 0 0 1), (4, .ptr (m + 1) 0 0 1), (8, .fn (.func n_glass_ticks_1) [] [.ptr (m + 2) 0 0 1])]
def siL (m jw : Nat) (st : LoopState) (pe : Option ACode) : Row := .loop (tsets 30 (siT m jw)) [9] k_glass_wall_strains_1_r7 k_glass_wall_strains_1_r8 (m + 3) st pe
structure SiH (f : Int) (ls : List Lg) (p : Int × Int) (r m : Nat) (lr : Row) (J : Heap) : Prop where
  len : m + 5 ≤ J.length
  y : J[m]? = some (some (.cells false 1 [.yfn r]))
  acc : J[m + 1]? = some (some (.cells false 2 [r2 p.1 p.2]))
  o : J[m + 2]? = some (some (.cells false 2 [ovV f ls]))
  d : J[m + 3]? = some (some .dfr)
  l : J[m + 4]? = some (some lr)
section
variable {f : Int} {ls : List Lg} {p : Int × Int} {r m : Nat} {lr : Row} {J K : Heap}
theorem SiH.mono (h : SiH f ls p r m lr J) (hl : J.length ≤ K.length) (hk : ∀ q, m ≤ q → q < J.length → K[q]? = J[q]?) : SiH f ls p r m lr K :=
  have h1 := h.len
  ⟨by omega, by rw [hk _ (by omega) (by omega)]; exact h.y, by rw [hk _ (by omega) (by omega)]; exact h.acc, by rw [hk _ (by omega) (by omega)]; exact h.o,
    by rw [hk _ (by omega) (by omega)]; exact h.d, by rw [hk _ (by omega) (by omega)]; exact h.l⟩
theorem SiH.off (h : SiH f ls p r m lr J) {q : Nat} (hq : m + 5 ≤ q) (x : Option Row) : SiH f ls p r m lr (J.set q x) :=
  ⟨by rw [List.length_set]; exact h.len, by rw [List.getElem?_set_ne (by omega)]; exact h.y, by rw [List.getElem?_set_ne (by omega)]; exact h.acc, by rw [List.getElem?_set_ne (by omega)]; exact h.o,
    by rw [List.getElem?_set_ne (by omega)]; exact h.d, by rw [List.getElem?_set_ne (by omega)]; exact h.l⟩
theorem SiH.setA (h : SiH f ls p r m lr J) (p' : Int × Int) : SiH f ls p' r m lr (J.set (m + 1) (some (.cells false 2 [r2 p'.1 p'.2]))) :=
  have h1 := h.len
  ⟨by rw [List.length_set]; exact h.len, by rw [List.getElem?_set_ne (by omega)]; exact h.y, List.getElem?_set_self (by omega), by rw [List.getElem?_set_ne (by omega)]; exact h.o,
    by rw [List.getElem?_set_ne (by omega)]; exact h.d, by rw [List.getElem?_set_ne (by omega)]; exact h.l⟩
theorem SiH.setL (h : SiH f ls p r m lr J) (x : Row) : SiH f ls p r m x (J.set (m + 4) (some x)) :=
  have h1 := h.len
  ⟨by rw [List.length_set]; exact h.len, by rw [List.getElem?_set_ne (by omega)]; exact h.y, by rw [List.getElem?_set_ne (by omega)]; exact h.acc, by rw [List.getElem?_set_ne (by omega)]; exact h.o,
    by rw [List.getElem?_set_ne (by omega)]; exact h.d, List.getElem?_set_self (by omega)⟩
end

set_option maxHeartbeats 4000000 in
set_option maxRecDepth 10000 in
theorem strains_iter {G : Ctx} {brk : Int} {zs : List Zn} (hz : ZsOK zs) {th : Int} (hth : 1 ≤ th ∧ th ≤ 1000) {f : Int} {ls : List Lg} (ho : OvOK f ls) {r jo jw N : Nat} {Pre : Nat → Heap → Prop} {Stop : Heap → Prop} (hB : SBody G brk zs th f ls r jo jw N Pre Stop) {H0 : Heap} (h0 : Pre 0 H0) :
    CallW Try.prog G n_glass_wall_strains_1 [.yfn r, .ptr jo 0 0 1, .ptr jw 0 0 1] H0 fun v H' => v = .tup [] ∧ (Pre (allT 0 f ls).length H' ∨ Stop H') := by
  obtain ⟨hN, hjo, hjw⟩ := hB.row 0 H0 h0
  have co := fun Y => cells_more (cells_at hjo) Y
  simp only [ovV] at co
  have htk := allT_ok (n := 0) ho.f ho.all
  have gt := gticks_run f ls
  simp only [ovV] at gt
  refine callW_run 3000 e_glass_wall_strains_1 ?_
  simp only [go_sem, co]
  refine cN1 gt ?_
  simp only [go_sem, ren, rens]
  generalize hm : H0.length = m at *
  have hl0 : (H0 ++ [some (Row.cells false 1 [AVal.yfn r]), some (Row.cells false 2 [AVal.agg [AVal.int IntKind.i64 0, AVal.int IntKind.i64 0]]), some (Row.cells false 2 [AVal.agg [AVal.int IntKind.i64 f, AVal.view (List.map Lg.v ls)]])]).length = m + 3 := by simp [hm]
  have hL : Pre 0 (H0 ++ [some (Row.cells false 1 [AVal.yfn r]), some (Row.cells false 2 [AVal.agg [AVal.int IntKind.i64 0, AVal.int IntKind.i64 0]]), some (Row.cells false 2 [AVal.agg [AVal.int IntKind.i64 f, AVal.view (List.map Lg.v ls)]])] ++ [some .dfr] ++ [some (siL m jw .ready none)]) := by
    have := hB.grow _ _ (some (siL m jw .ready none)) (hB.grow _ _ (some .dfr) (hB.grow _ _ (some (Row.cells false 2 [AVal.agg [AVal.int IntKind.i64 f, AVal.view (List.map Lg.v ls)]])) (hB.grow _ _ (some (Row.cells false 2 [AVal.agg [AVal.int IntKind.i64 0, AVal.int IntKind.i64 0]])) (hB.grow _ _ (some (Row.cells false 1 [AVal.yfn r])) h0))))
    simpa using this
  have hSi : SiH f ls (stAt zs th (allT 0 f ls) 0) r m (siL m jw .ready none) (H0 ++ [some (Row.cells false 1 [AVal.yfn r]), some (Row.cells false 2 [AVal.agg [AVal.int IntKind.i64 0, AVal.int IntKind.i64 0]]), some (Row.cells false 2 [AVal.agg [AVal.int IntKind.i64 f, AVal.view (List.map Lg.v ls)]])] ++ [some .dfr] ++ [some (siL m jw .ready none)]) := by
    have ea : ∀ (x y z u w : Option Row), H0 ++ [x, y, z] ++ [u] ++ [w] = H0 ++ [x, y, z, u, w] := fun x y z u w => by simp
    rw [ea]
    have new : ∀ (j : Nat) (Y : Heap), (H0 ++ Y)[m + j]? = Y[j]? := fun j Y => by
      rw [List.getElem?_append_right (by omega), hm, Nat.add_sub_cancel_left]
    exact ⟨by simp [hm], by have := new 0; rw [Nat.add_zero] at this; rw [this]; rfl, by rw [new 1]; rfl, by rw [new 2]; rfl, by rw [new 3]; rfl, by rw [new 4]; rfl⟩
  have hit : CallW Try.prog G n_glass_ticks_1 [.yfn (m + 4), .ptr (m + 2) 0 0 1] (H0 ++ [some (Row.cells false 1 [AVal.yfn r]), some (Row.cells false 2 [AVal.agg [AVal.int IntKind.i64 0, AVal.int IntKind.i64 0]]), some (Row.cells false 2 [AVal.agg [AVal.int IntKind.i64 f, AVal.view (List.map Lg.v ls)]])] ++ [some .dfr] ++ [some (siL m jw .ready none)]) fun v J => v = .tup [] ∧
      ((Pre (allT 0 f ls).length J ∧ SiH f ls (stAt zs th (allT 0 f ls) (allT 0 f ls).length) r m (siL m jw .ready none) J) ∨ Stop J ∧ ∃ p, SiH f ls p r m (siL m jw .done (some .ret)) J) := by
    refine ticks_iter (r := m + 4) (jo := m + 2) (N := m + 5) ho
      (Pre := fun i J => Pre i J ∧ SiH f ls (stAt zs th (allT 0 f ls) i) r m (siL m jw .ready none) J)
      (Stop := fun J => Stop J ∧ ∃ p, SiH f ls p r m (siL m jw .done (some .ret)) J) ⟨?_, ?_, ?_, ?_⟩ ⟨hL, hSi⟩
    · rintro i J ⟨_, h⟩
      exact ⟨h.len, h.o⟩
    · rintro i J x ⟨h3, h4⟩
      exact ⟨hB.grow _ _ _ h3, h4.mono (by simp) fun q _ hq => List.getElem?_append_left hq⟩
    · rintro i J q x hq ⟨h3, h4⟩
      exact ⟨hB.set _ _ _ _ (by omega) h3, h4.off hq x⟩
    · rintro i t J hi ⟨hp3, hd⟩
      have hts := htk t (List.mem_of_getElem? hi)
      have htt := hts.t
      have hrd := hB.round i t
      rw [stAt_succ hi] at hrd ⊢
      have hpi := stAt_in hz hth htk i
      have zo := zoneOf_run brk hz htt
      have hzo := zAt_ok hz t.t
      generalize stAt zs th (allT 0 f ls) i = p at *
      have es : stepS zs th p t = (min (leastL p.1 (zAt zs t.t) + addL t (zAt zs t.t) th) capS, min (mostL p.2 (zAt zs t.t) + addH t (zAt zs t.t) th) capS) := rfl
      generalize stepS zs th p t = p' at *
      generalize zAt zs t.t = z at *
      have l1 := leastL_in hpi.1 hzo
      have l2 := mostL_in hpi.2.2.1 hzo
      have l3 := add_in hts hzo hth
      have hcs : capS = 1099511627776 := rfl
      have kr := relaxed_run (a := p.1) (b := p.2) ⟨hpi.1, hpi.2.1⟩ ⟨hpi.2.2.1, hpi.2.2.2⟩ hzo
      have ka := added_run (brk := brk) (zs := zs) hth hts hzo
      have kp := plus_run (leastL p.1 z) (mostL p.2 z) (addL t z th) (addH t z th) (by omega)
      have kc := capped_run (a := leastL p.1 z + addL t z th) (b := mostL p.2 z + addH t z th) (by omega) (by omega)
      generalize leastL p.1 z = u1 at *
      generalize mostL p.2 z = u2 at *
      generalize addL t z th = u3 at *
      generalize addH t z th = u4 at *
      have ep1 : min (u1 + u3) capS = p'.1 := by rw [es]
      have ep2 : min (u2 + u4) capS = p'.2 := by rw [es]
      rw [ep1, ep2] at kc
      clear es
      have hdl := hd.len
      refine RoundW.mono (R := fun v J' => ((v = .bool true ∧ Pre (i + 1) J' ∧ SiH f ls p' r m (siL m jw .ready none) J') ∨ (v = .bool false ∧ Stop J' ∧ ∃ p, SiH f ls p r m (siL m jw .done (some .ret)) J')) ∧ J.length ≤ J'.length ∧ ∀ q, m + 5 ≤ q → q < J.length → J'[q]? = J[q]?) ?_ ?_
      rotate_left
      · rintro v J' ⟨h3, h4⟩
        exact ⟨h4, h3⟩
      generalize hR : (fun (v : AVal) (J' : Heap) => ((v = .bool true ∧ Pre (i + 1) J' ∧ SiH f ls p' r m (siL m jw .ready none) J') ∨ (v = .bool false ∧ Stop J' ∧ ∃ p, SiH f ls p r m (siL m jw .done (some .ret)) J')) ∧ J.length ≤ J'.length ∧ ∀ q, m + 5 ≤ q → q < J.length → J'[q]? = J[q]?) = R
      have hon : ∀ J', Pre (i + 1) J' → SiH f ls p' r m (siL m jw .ready none) J' → J.length ≤ J'.length → (∀ q, m + 5 ≤ q → q < J.length → J'[q]? = J[q]?) → R (.bool true) J' := fun J' a1 a2 a3 a4 => by rw [← hR]; exact ⟨.inl ⟨rfl, a1, a2⟩, a3, a4⟩
      have hoff : ∀ J' p, Stop J' → SiH f ls p r m (siL m jw .done (some .ret)) J' → J.length ≤ J'.length → (∀ q, m + 5 ≤ q → q < J.length → J'[q]? = J[q]?) → R (.bool false) J' := fun J' p a1 a2 a3 a4 => by rw [← hR]; exact ⟨.inr ⟨rfl, a1, p, a2⟩, a3, a4⟩
      clear hR
      refine roundW_run 500 k_glass_wall_strains_1_r7.eq_1 hd.l rfl (ρ' := tsets 30 (siT m jw ++ [(9, tkV t)])) rfl ?_
      simp only [go_sem, siT, tkV, put_at_end]
      have hp1 := hB.grow _ _ (some (Row.cells false 3 [AVal.agg [AVal.int IntKind.i64 t.n, AVal.int IntKind.i64 t.f, AVal.int IntKind.i64 t.t]])) hp3
      have hd1 := hd.mono (K := J ++ [some (Row.cells false 3 [AVal.agg [AVal.int IntKind.i64 t.n, AVal.int IntKind.i64 t.f, AVal.int IntKind.i64 t.t]])]) (by simp) fun q _ hq => List.getElem?_append_left hq
      have hb1 := get_end J (some (Row.cells false 3 [AVal.agg [AVal.int IntKind.i64 t.n, AVal.int IntKind.i64 t.f, AVal.int IntKind.i64 t.t]]))
      have hl1 : (J ++ [some (Row.cells false 3 [AVal.agg [AVal.int IntKind.i64 t.n, AVal.int IntKind.i64 t.f, AVal.int IntKind.i64 t.t]])]).length = J.length + 1 := by simp
      have ho1 : ∀ q, q < J.length → (J ++ [some (Row.cells false 3 [AVal.agg [AVal.int IntKind.i64 t.n, AVal.int IntKind.i64 t.f, AVal.int IntKind.i64 t.t]])])[q]? = J[q]? := fun q hq => List.getElem?_append_left hq
      generalize (J ++ [some (Row.cells false 3 [AVal.agg [AVal.int IntKind.i64 t.n, AVal.int IntKind.i64 t.f, AVal.int IntKind.i64 t.t]])] : Heap) = L at *
      generalize hjl' : J.length = q at *
      have hlt : m + 4 < L.length := by omega
      refine roundMid_run 500 k_glass_wall_strains_1_r8.eq_1 hd1.l (put_lt hlt) ?_
      have hp2 := hB.set _ _ (m + 4) (some (siL m jw .busy none)) (by omega) hp1
      have hd2 := hd1.setL (siL m jw .busy none)
      have hb2 : (L.set (m + 4) (some (siL m jw .busy none)))[q]? = some (some (Row.cells false 3 [AVal.agg [AVal.int IntKind.i64 t.n, AVal.int IntKind.i64 t.f, AVal.int IntKind.i64 t.t]])) := by rw [List.getElem?_set_ne (by omega)]; exact hb1
      have hl2 : (L.set (m + 4) (some (siL m jw .busy none))).length = q + 1 := by rw [List.length_set]; exact hl1
      have ho2 : ∀ x, m + 5 ≤ x → x < q → (L.set (m + 4) (some (siL m jw .busy none)))[x]? = J[x]? := fun x hx hxq => by rw [List.getElem?_set_ne (by omega)]; exact ho1 x hxq
      simp only [siL, siT] at hp2 hd2 hb2 hl2 ho2 ⊢
      generalize hM : (L.set (m + 4) _ : Heap) = M at hp2 hd2 hb2 hl2 ho2 ⊢
      clear hM hp1 hd1 hb1 hl1 ho1
      have c1 := cells_at (hB.row _ _ hp2).2.2
      have c2 := cells_at hb2
      simp only [wlV] at c1
      simp only [stV, Zn.v, Zn.cs] at zo
      simp only [go_sem, c1, c2]
      refine cP zo ?_ (hk := by omega)
      have hgW : ∀ Y : Option Row, (M ++ [Y])[q + 1]? = some Y := fun Y => by rw [List.getElem?_append_right (by omega), hl2, Nat.sub_self]; rfl
      have hbz := hgW (some (Row.cells false 5 [AVal.agg [AVal.int IntKind.i64 z.f, AVal.int IntKind.i64 z.glo, AVal.int IntKind.i64 z.ghi, AVal.int IntKind.i64 z.rlo, AVal.int IntKind.i64 z.rhi]]))
      have hp4 := hB.grow _ _ (some (Row.cells false 5 [AVal.agg [AVal.int IntKind.i64 z.f, AVal.int IntKind.i64 z.glo, AVal.int IntKind.i64 z.ghi, AVal.int IntKind.i64 z.rlo, AVal.int IntKind.i64 z.rhi]])) hp2
      have hd4 := hd2.mono (K := M ++ [some (Row.cells false 5 [AVal.agg [AVal.int IntKind.i64 z.f, AVal.int IntKind.i64 z.glo, AVal.int IntKind.i64 z.ghi, AVal.int IntKind.i64 z.rlo, AVal.int IntKind.i64 z.rhi]])]) (by simp) fun q _ hq => List.getElem?_append_left hq
      have hb4 : (M ++ [some (Row.cells false 5 [AVal.agg [AVal.int IntKind.i64 z.f, AVal.int IntKind.i64 z.glo, AVal.int IntKind.i64 z.ghi, AVal.int IntKind.i64 z.rlo, AVal.int IntKind.i64 z.rhi]])])[q]? = _ := (List.getElem?_append_left (by omega)).trans hb2
      have hl4 : (M ++ [some (Row.cells false 5 [AVal.agg [AVal.int IntKind.i64 z.f, AVal.int IntKind.i64 z.glo, AVal.int IntKind.i64 z.ghi, AVal.int IntKind.i64 z.rlo, AVal.int IntKind.i64 z.rhi]])]).length = q + 2 := by simp [hl2]
      have ho4 : ∀ x, m + 5 ≤ x → x < q → (M ++ [some (Row.cells false 5 [AVal.agg [AVal.int IntKind.i64 z.f, AVal.int IntKind.i64 z.glo, AVal.int IntKind.i64 z.ghi, AVal.int IntKind.i64 z.rlo, AVal.int IntKind.i64 z.rhi]])])[x]? = J[x]? := fun x hx hxq => by rw [List.getElem?_append_left (by omega)]; exact ho2 x hx hxq
      have ca := cells_at hd4.acc
      have cz := cells_at hbz
      have cw := cells_at (hB.row _ _ hp4).2.2
      have ct := cells_at hb4
      have cy := cells_at hd4.y
      simp only [r2, Zn.v, Zn.cs, wlV, Tk.v] at kr ka kp kc ca cw
      simp only [go_sem]
      rw [hl2]
      generalize (M ++ [some (Row.cells false 5 [AVal.agg [AVal.int IntKind.i64 z.f, AVal.int IntKind.i64 z.glo, AVal.int IntKind.i64 z.ghi, AVal.int IntKind.i64 z.rlo, AVal.int IntKind.i64 z.rhi]])] : Heap) = W at *
      simp only [go_sem, ca, cz, cw, ct, cy]
      refine dP kr ?_
      simp only [go_sem, ca, cz, cw, ct, cy]
      refine cP ka ?_ (hk := by omega)
      simp only [go_sem]
      refine cP kp ?_ (hk := by omega)
      simp only [go_sem]
      refine cP kc ?_ (hk := by omega)
      have hlm : m + 1 < W.length := by omega
      have hput := fun x => put_lt (x := x) hlm
      simp only [go_sem, ca, cz, cw, ct, cy, hput]
      have hp5 := hB.set _ _ (m + 1) (some (Row.cells false 2 [r2 p'.1 p'.2])) (by omega) hp4
      have hd5 := hd4.setA p'
      have hl5 : (W.set (m + 1) (some (Row.cells false 2 [r2 p'.1 p'.2]))).length = q + 2 := by rw [List.length_set]; exact hl4
      have ho5 : ∀ x, m + 5 ≤ x → x < q → (W.set (m + 1) (some (Row.cells false 2 [r2 p'.1 p'.2])))[x]? = J[x]? := fun x hx hxq => by rw [List.getElem?_set_ne (by omega)]; exact ho4 x hx hxq
      have hb5 : (W.set (m + 1) (some (Row.cells false 2 [r2 p'.1 p'.2])))[q]? = _ := (List.getElem?_set_ne (by omega)).trans hb4
      simp only [r2] at hp5 hd5 hl5 ho5 hb5 hrd
      generalize (W.set (m + 1) _ : Heap) = S at hp5 hd5 hl5 ho5 hb5 ⊢
      have c5 := cells_at hd5.acc
      have c6 := cells_at hd5.y
      have c7 := cells_at hb5
      simp only [r2] at c5
      have hrd := hrd S hi hp5
      simp only [go_sem, c5, c6, c7]
      refine yieldR _ rfl rfl (by simp [go_sem]) (by simp [go_sem]) (by omega) ?_
      refine hrd.mono ?_
      rintro v S' ⟨⟨q4, q5⟩, ⟨rfl, q6⟩ | ⟨rfl, q6⟩⟩
      · have hds := hd5.mono q4 fun x hx => q5 x (by omega)
        have hlt' : m + 4 < S'.length := by have := hds.len; omega
        refine ⟨fun x hx => by simp at hx, ?_⟩
        simp only [go_sem]
        refine roundEnd_on hds.l ?_
        rw [put_lt hlt']
        exact hon _ (hB.set _ _ _ _ (by omega) q6) (hds.setL _) (by rw [List.length_set]; omega) fun x hx hxq => by rw [List.getElem?_set_ne (by omega), q5 x (by omega) (by omega)]; exact ho5 x hx hxq
      · have hds := hd5.mono q4 fun x hx => q5 x (by omega)
        have hlt' : m + 4 < S'.length := by have := hds.len; omega
        refine ⟨fun x hx => by simp at hx, ?_⟩
        simp only [go_sem]
        refine roundEnd_ret hds.l ?_
        rw [put_lt hlt']
        exact hoff _ _ (hB.halt _ _ _ (by omega) q6) (hds.setL _) (by rw [List.length_set]; omega) fun x hx hxq => by rw [List.getElem?_set_ne (by omega), q5 x (by omega) (by omega)]; exact ho5 x hx hxq
  refine rangeF 2000 (ρ := tsets 30 (siT m jw)) (by simp [go_sem, siT]) (by simp only [go_sem, siT]; rfl) (by rw [hl0]; exact hit) (by rw [hl0]; omega) ?_
  rw [hl0]
  rintro v J ⟨rfl, ⟨h3, hd⟩ | ⟨h3, p, hd⟩⟩
  · refine ⟨fun q hq => by simp at hq; subst hq; exact hd.d, _, _, _, _, _, _, _, hd.l, by decide, ?_⟩
    have hfin := hB.set _ _ (m + 3) none (by omega) (hB.set _ _ (m + 3 + 1) none (by omega) h3)
    simp only [go_sem, siT]
    exact ⟨by simp, .inl hfin⟩
  · refine ⟨fun q hq => by simp at hq; subst hq; exact hd.d, _, _, _, _, _, _, _, hd.l, by decide, ?_⟩
    have hfin := hB.halt _ (m + 3) none (by omega) (hB.halt _ (m + 3 + 1) none (by omega) h3)
    simp only [go_sem, siT]
    exact ⟨by simp, .inr hfin⟩
end Go.Proofs

namespace Go.Proofs
open Go Go.Sx
attribute [local irreducible] Run

section
variable {P : Program} {G : Ctx} {k : Nat} {rd : Option Nat} {R : Runner} {l : List AOper} {fs : List Sx.Frame} {ρ : List AVal} {H : Heap} {ms : List Nat} {Q : Sx.Goal} {dst : Option Nat} {x y : Row} {g : FuncId} {args : List AVal} {r : AVal}
theorem cN2 (h : Ans P g args [] r [some x, some y]) (hK : R (.ops l) fs ⟨setD ρ dst (ren (fun i => H.length + i) r), H ++ [some x, some y], ms⟩ Q)
    (hb : Bels (fun _ => False) args := by simp only [go_sem]) (hr : Bel (· < 2) r := by simp [go_sem]) (hx : x.bel (fun _ => False) := by first | (simp only [go_sem]; done) | (rw [row_bel_cells]; simp only [go_sem])) (hy : y.bel (fun _ => False) := by first | (simp only [go_sem]; done) | (rw [row_bel_cells]; simp only [go_sem])) (hk : k ≤ H.length := by simp) (hms : ∀ q ∈ ms, H[q]? = some (some .dfr) := by simp) : CallR P G k R g args dst l fs ρ H ms Q := by
  have e : outΔ (outσ [] H.length) 0 [some x, some y] = [(H.length, x), (H.length + 1, y)] := by
    simp only [outΔ, Row.ren_same hx, Row.ren_same hy]
    rfl
  have eσ : outσ [] H.length = fun i => H.length + i := by funext i; simp [outσ]
  refine callS h [] (by simp) trivial (by
    conv => lhs; rw [← List.map_id args]
    exact List.map_congr_left fun v hv => (ren_same (bels_mem hb v hv)).symm) (bels_of fun v hv => (bels_mem hb v hv).mono fun _ h => h.elim) trivial (by simp) (by simpa using hr)
    ⟨bel_mono_row hx fun _ h => h.elim, bel_mono_row hy fun _ h => h.elim, trivial⟩ (fun q hq => by simp at hq) hk (fun q hq => ?_) ?_
  · refine ⟨?_, hms q hq⟩
    rw [e]
    have := (List.getElem?_eq_some_iff.1 (hms q hq)).1
    simp; omega
  · rw [e, eσ]
    have e3 : Heap.put (H ++ [some x]) (H.length + 1) y = H ++ [some x, some y] := by
      have := Heap.put_end (H ++ [some x]) y
      simpa using this
    simp only [Heap.puts, Heap.put_end, e3]
    exact hK
end

theorem wcheck_yes {brk : Int} {zs : List Zn} (h : StOK brk zs) {th : Int} (hth : 1 ≤ th ∧ th ≤ 1000) : Ans Try.prog n_glass_wall_check [wlV brk zs th] [] (.int .i64 0) [] := by
  have kc := Check_run h.brk h.zs
  simp only [stV] at kc
  refine spec_run e_glass_wall_check fun G => ?_
  simp only [go_sem, wlV]
  refine cP kc ?_
  simp only [go_sem]
  refine cP (gwithin_yes hth) ?_
  simp only [go_sem]
set_option maxRecDepth 10000 in
theorem CheckOven_yes {f : Int} {ls : List Lg} (h : OvOK f ls) : Ans Try.prog n_glass_CheckOven [ovV f ls] [] (.int .i64 0) [] := by
  have hn := h.len
  refine spec_run e_glass_CheckOven fun G => ?_
  simp only [go_sem, ovV]
  refine cP (isHeat_yes h.f) ?_
  have n2 : ¬ (ls.length : Int) > 20 := by omega
  simp only [go_sem, n2, List.length_map]
  refine loop_ind k_glass_CheckOven_r11.eq_1 (fun s : Nat × Heap => s.1 ≤ ls.length) (fun s => ls.length - s.1)
    (fun s => (tsets 31 [(1, .ptr 0 0 0 1), (2, .int .i64 0), (14, .view (ls.map Lg.v)), (15, .int .i64 ls.length), (16, .int .i64 s.1)], some (.cells false 2 [.agg [.int .i64 f, .view (ls.map Lg.v)]]) :: s.2)) (0, []) (Nat.zero_le _) (by simp [go_sem]) rfl ?_
  rintro ⟨i, X⟩ hi ih
  dsimp only at hi ih ⊢
  by_cases h1 : i < ls.length
  · have h2 : (i : Int) < ls.length := by omega
    have n0 : ¬ (i : Int) < 0 := by omega
    have h3 : IntKind.i64.wrap ((i : Int) + 1) = ((i + 1 : Nat) : Int) := by rw [w64 (by omega)]; rfl
    obtain ⟨z, hzi⟩ : ∃ z, ls[i]? = some z := ⟨_, List.getElem?_eq_getElem h1⟩
    have hzo := h.all z (List.mem_of_getElem? hzi)
    have ihn := fun Y => ih (i + 1, Y) (by dsimp only; omega) h1
    clear ih
    simp only [go_sem, h2, n0, hzi, Lg.v]
    refine cP (gwithin_yes hzo.tk) ?_
    simp only [go_sem]
    refine cP (isHeat_yes hzo.ht) ?_
    simp only [go_sem, h3]
    exact ihn _ _ (by simp [go_sem])
  · have h2 : ¬ (i : Int) < ls.length := by omega
    simp only [go_sem, h2]
theorem checkHeated_yes {brk : Int} {zs : List Zn} (h : StOK brk zs) {th : Int} (hth : 1 ≤ th ∧ th ≤ 1000) {f : Int} {ls : List Lg} (ho : OvOK f ls) : Ans Try.prog n_glass_checkHeated [wlV brk zs th, ovV f ls] [] (.int .i64 0) [] := by
  have k1 := wcheck_yes h hth
  have k2 := CheckOven_yes ho
  simp only [wlV, ovV] at k1 k2
  refine spec_run e_glass_checkHeated fun G => ?_
  simp only [go_sem, wlV, ovV]
  refine cP k1 ?_
  simp only [go_sem]
  refine cP k2 ?_
  simp only [go_sem]
theorem wstrains_run (brk : Int) (zs : List Zn) (th f : Int) (ls : List Lg) : Ans Try.prog n_glass_wall_strains [wlV brk zs th, ovV f ls] [] (.fn (.func n_glass_wall_strains_1) [] [.ptr 1 0 0 1, .ptr 0 0 0 1]) [some (.cells false 3 [wlV brk zs th]), some (.cells false 2 [ovV f ls])] := by
  refine spec_run e_glass_wall_strains fun G => ?_
  simp only [go_sem, ovV, wlV]
  exact ⟨_, rfl⟩

def aftS (zs : List Zn) (th : Int) (ts : List Tk) (n : Nat) : Nat → List (Int × Int)
  | 0 => List.replicate n (0, 0)
  | i + 1 => match ts[i]? with
    | some t => (aftS zs th ts n i).set t.n.toNat (stAt zs th ts (i + 1))
    | none => aftS zs th ts n i
theorem aftS_len {zs : List Zn} {th : Int} {ts : List Tk} {n : Nat} : ∀ i, (aftS zs th ts n i).length = n
  | 0 => by simp [aftS]
  | i + 1 => by
    rw [aftS]; split
    · rw [List.length_set]; exact aftS_len i
    · exact aftS_len i
theorem aftS_succ {zs : List Zn} {th : Int} {ts : List Tk} {n i : Nat} {t : Tk} (h : ts[i]? = some t) : aftS zs th ts n (i + 1) = (aftS zs th ts n i).set t.n.toNat (stAt zs th ts (i + 1)) := by
  rw [aftS, h]
theorem allT_n : ∀ {ls : List Lg} {n b : Int}, ∀ t ∈ allT n b ls, n ≤ t.n ∧ t.n < n + ls.length
  | [], _, _, t, ht => by simp [allT] at ht
  | l :: r, n, b, t, ht => by
    rw [allT] at ht
    rw [List.length_cons]; push_cast
    rcases List.mem_append.1 ht with h1 | h1
    · unfold legT at h1
      obtain ⟨i, _, rfl⟩ := List.mem_map.1 h1
      dsimp only; omega
    · have := allT_n t h1
      omega
def rv (p : Int × Int) : AVal := r2 p.1 p.2
theorem rv_set (l : List (Int × Int)) (i : Nat) (p : Int × Int) : (l.set i p).map rv = (l.map rv).set i (rv p) := List.map_set
def snT : List (Nat × AVal) := [(0, .any), (6, .nilsl), (7, .int .i64 0), (10, .ptr 4 0 0 1), (28, .fn (.func n_glass_wall_strains_1) [] [.ptr 6 0 0 1, .ptr 5 0 0 1])]
def snL (st : LoopState) (pe : Option ACode) : Row := .loop (tsets 36 snT) [29, 30] k_glass_Strain_r10 k_glass_Strain_r11 7 st pe
def snH (brk : Int) (zs : List Zn) (th f : Int) (ls : List Lg) (a : List (Int × Int)) (x : Row) (X : Heap) : Heap :=
  [some (.cells false 2 [stV brk zs]), some (.cells false 2 [ovV f ls]), some (.cells false 3 [wlV brk zs th]), some (.cells false 2 (a.map rv)), some (.cells false 1 [.sl 3 0 ls.length]), some (.cells false 3 [wlV brk zs th]), some (.cells false 2 [ovV f ls]), some .dfr, some x] ++ X

set_option maxHeartbeats 4000000 in
set_option maxRecDepth 10000 in
theorem Strain_run {brk : Int} {zs : List Zn} (h : StOK brk zs) {th : Int} (hth : 1 ≤ th ∧ th ≤ 1000) {f : Int} {ls : List Lg} (ho : OvOK f ls) (hne : ls ≠ []) :
    Ans Try.prog n_glass_Strain [stV brk zs, .int .i64 th, ovV f ls] [] (.tup [.sl 0 0 ls.length, .int .i64 0]) [some (.cells false 2 ((aftS zs th (allT 0 f ls) ls.length (allT 0 f ls).length).map rv))] := by
  have k1 := checkHeated_yes h hth ho
  have k2 := wstrains_run brk zs th f ls
  have hlen := ho.len
  simp only [wlV, ovV] at k1 k2
  have rvb : ∀ (l : List (Int × Int)) (S : Nat → Prop), Bels S (l.map rv) = True := fun l S => eq_true (bels_map _ _ fun z => by simp only [go_sem, rv, r2])
  refine Ans.keep (run_fn e_glass_Strain fun G => ?_) (by simp) (by simp [go_sem]) ⟨by rw [row_bel_cells]; simp only [rvb], trivial⟩
  simp only [go_sem, stV, ovV]
  refine cP k1 ?_
  have hl0 : ¬ (ls.length : Int) < 0 := by omega
  have hmk : (0 : Int) ≤ ls.length ∧ (ls.length : Int) ≤ ls.length ∧ (ls.length : Int) ≤ 2 ^ 44 ∧ (ls.length : Int) * 16 ≤ 2 ^ 44 := by omega
  simp only [go_sem, hl0]
  refine ⟨hmk, ?_⟩
  refine cN2 k2 ?_
  simp only [go_sem, ren, rens]
  have e0 : List.replicate ls.length (AVal.agg [AVal.int IntKind.i64 0, AVal.int IntKind.i64 0]) = (aftS zs th (allT 0 f ls) ls.length 0).map rv := by
    simp [aftS, rv, r2]
  rw [e0]
  refine rangeF 2000 (ρ := tsets 36 snT) (by simp [go_sem, snT]) (by simp only [go_sem, snT]; rfl)
    (strains_iter (r := 8) (jo := 6) (jw := 5) (N := 9) (brk := brk) h.zs hth ho
      (Pre := fun i H => ∃ X, H = snH brk zs th f ls (aftS zs th (allT 0 f ls) ls.length i) (snL .ready none) X)
      (Stop := fun _ => False) ⟨?_, ?_, ?_, ?_, ?_⟩ ⟨[], rfl⟩) (by simp) ?_
  · rintro i H ⟨X, rfl⟩
    exact ⟨by simp [snH], rfl, rfl⟩
  · rintro i H x ⟨X, rfl⟩
    exact ⟨X ++ [x], by simp [snH]⟩
  · rintro i H q x hq ⟨X, rfl⟩
    refine ⟨X.set (q - 9) x, ?_⟩
    unfold snH
    rw [List.set_append_right _ _ (by simp; omega)]; rfl
  · intro H q x _ h; exact h
  · rintro i t H hi ⟨X, rfl⟩
    have hn := allT_n t (List.mem_of_getElem? hi)
    rw [aftS_succ hi]
    have hal := aftS_len (zs := zs) (th := th) (ts := allT 0 f ls) (n := ls.length) i
    generalize aftS zs th (allT 0 f ls) ls.length i = A at *
    generalize stAt zs th (allT 0 f ls) (i + 1) = p at *
    refine RoundW.mono (R := fun w H' => w = .bool true ∧ ∃ Y, H' = snH brk zs th f ls (A.set t.n.toNat p) (snL .ready none) (X ++ Y)) ?_ ?_
    rotate_left
    · rintro w H' ⟨rfl, Y, rfl⟩
      exact ⟨tail_keep rfl rfl, .inl ⟨rfl, _, rfl⟩⟩
    generalize hR : (fun (w : AVal) (H' : Heap) => w = .bool true ∧ ∃ Y, H' = snH brk zs th f ls (A.set t.n.toNat p) (snL .ready none) (X ++ Y)) = R
    have hfin : ∀ Y, R (.bool true) (snH brk zs th f ls (A.set t.n.toNat p) (snL .ready none) (X ++ Y)) := fun Y => by rw [← hR]; exact ⟨rfl, Y, rfl⟩
    clear hR
    have hi0 : ¬ t.n < 0 := by omega
    have hi1 : t.n < (ls.length : Int) := by omega
    have hi2 : t.n.toNat < ls.length := by omega
    refine roundW_run 500 k_glass_Strain_r10.eq_1 rfl rfl (ρ' := tsets 36 (snT ++ [(29, .int .i64 t.n), (30, r2 p.1 p.2)])) rfl ?_
    simp only [go_sem, snT, snH, r2]
    refine roundMid_run 500 k_glass_Strain_r11.eq_1 rfl rfl ?_
    obtain ⟨a, ha⟩ : ∃ a, A[t.n.toNat]? = some a := ⟨_, List.getElem?_eq_getElem (by omega)⟩
    have hs : (A.map rv).set t.n.toNat (AVal.agg [AVal.int IntKind.i64 p.1, AVal.int IntKind.i64 p.2]) = (A.set t.n.toNat p).map rv := (rv_set A _ p).symm
    have ea : rv a = AVal.agg [AVal.int IntKind.i64 a.1, AVal.int IntKind.i64 a.2] := rfl
    simp only [go_sem, hi0, hi1, ha, ea, hs]
    refine roundEnd_on rfl ?_
    simp only [go_sem]
    simp only [snH, snL] at hfin
    exact hfin [_]
  · rintro v H' ⟨rfl, ⟨X, rfl⟩ | h⟩
    · refine ⟨fun q hq => by simp at hq; subst hq; rfl, _, _, _, _, _, _, _, rfl, by decide, ?_⟩
      simp only [go_sem, snH, snT]
      refine ⟨by simp, kept_one 3 ?_ ?_ rfl⟩
      · simp [ren, rens]
      · rw [row_bel_cells]; simp only [rvb]
    · exact h.elim
end Go.Proofs

namespace Go.Proofs
open Go Go.Sx
attribute [local irreducible] Run

theorem span_run (a b : Int) : Ans Try.prog n_law05_span [.int .i64 a, .int .i64 b] [] (r2 a b) [] := by
  refine spec_run e_law05_span fun G => ?_
  simp only [go_sem, r2]
def wallZ : List Zn := [⟨0, 9000, 10000, 0, 0⟩, ⟨700, 20000, 20000, 500000, 500000⟩]
def leadZ : List Zn := [⟨0, 9500, 9500, 0, 0⟩]
def joinsV : AVal := .view [.agg [.int .i64 900, .int .i64 950, .nilsl], .agg [.int .i64 1000, .int .i64 1100, .nilsl], .agg [.int .i64 950, .int .i64 950, .view [.int .i64 0]]]
theorem wall_run : Ans Try.prog n_law05_wall [] [] (.agg [.int .i64 500000, .sl 0 0 2]) [some (.cells false 5 (wallZ.map Zn.v))] := by
  refine Ans.keep (run_fn e_law05_wall fun G => ?_) (by simp) (by simp [go_sem]) ⟨by rw [row_bel_cells]; simp only [go_sem], trivial⟩
  have s1 := span_run 9000 10000
  have s2 := span_run 20000 20000
  have s3 := span_run 500000 500000
  simp only [r2] at s1 s2 s3
  simp only [go_sem]
  refine cP s1 ?_
  simp only [go_sem]
  refine cP s2 ?_
  simp only [go_sem]
  refine cP s3 ?_
  simp only [go_sem]
  refine kept_one 1 ?_ ?_ rfl
  · simp [ren, rens]
  · rw [row_bel_cells]; simp only [go_sem]
theorem lead_run : Ans Try.prog n_law05_lead [] [] (.agg [.int .i64 2000000, .sl 0 0 1]) [some (.cells false 5 (leadZ.map Zn.v))] := by
  refine Ans.keep (run_fn e_law05_lead fun G => ?_) (by simp) (by simp [go_sem]) ⟨by rw [row_bel_cells]; simp only [go_sem], trivial⟩
  have s1 := span_run 9500 9500
  simp only [r2] at s1
  simp only [go_sem]
  refine cP s1 ?_
  simp only [go_sem]
  refine kept_one 1 ?_ ?_ rfl
  · simp [ren, rens]
  · rw [row_bel_cells]; simp only [go_sem]
theorem wall_ok : StOK 500000 wallZ := ⟨by omega, by simp [wallZ], by
  intro z hz
  simp [wallZ] at hz
  rcases hz with rfl | rfl <;> exact ⟨by simp, by simp, by simp⟩, by intro z hz; simp [wallZ] at hz; subst hz; rfl, by
  intro i y z h1 h2
  rcases i with _ | _ | i
  · simp [wallZ] at h1 h2; subst h1; subst h2; decide
  · simp [wallZ] at h2
  · simp [wallZ] at h2⟩
theorem lead_ok : StOK 2000000 leadZ := ⟨by omega, by simp [leadZ], by
  intro z hz
  simp [leadZ] at hz
  subst hz; exact ⟨by simp, by simp, by simp⟩, by intro z hz; simp [leadZ] at hz; subst hz; rfl, by
  intro i y z h1 h2
  rcases i with _ | i
  · simp [leadZ] at h2
  · simp [leadZ] at h2⟩
theorem seal_val : sealR 500000 2000000 wallZ leadZ 800 300 = (2, 752) := by kernel_rfl
def ovL : List Lg := [⟨10, 700⟩, ⟨100, 300⟩]
theorem ov_ok : OvOK 800 ovL := ⟨by omega, by simp [ovL], by
  intro z hz
  simp [ovL] at hz
  rcases hz with rfl | rfl <;> exact ⟨by simp, by simp⟩⟩
theorem strain_val : aftS wallZ 100 (allT 0 800 ovL) 2 (allT 0 800 ovL).length = [(399609, 399610), (3999609, 4399610)] := by kernel_rfl
end Go.Proofs

namespace Go.Proofs
open Go Go.Sx
def fchk : Option (AVal × Heap) → Bool
  | some (.tup [.sl 6 0 3, .int .i64 0], [_, _, _, _, _, _, some (.cells true 1 [.int .i64 1, .int .i64 0, .int .i64 2])]) => true
  | _ => false
theorem fchk_eq {o : Option (AVal × Heap)} (h : fchk o = true) : ∃ H', o = some (.tup [.sl 6 0 3, .int .i64 0], H') ∧ H'[6]? = some (some (.cells true 1 [.int .i64 1, .int .i64 0, .int .i64 2])) := by
  unfold fchk at h
  split at h
  · exact ⟨_, rfl, rfl⟩
  · cases h
theorem first_ex : fchk (exFn tab 3000 40 n_glass_First [joinsV] []) = true := by kernel_rfl
theorem First_run : Ans Try.prog n_glass_First [joinsV] [] (.tup [.sl 0 0 3, .int .i64 0]) [some (.cells true 1 [.int .i64 1, .int .i64 0, .int .i64 2])] := by
  obtain ⟨H', h1, h2⟩ := fchk_eq first_ex
  refine Ans.keep ((spec_ex mixed tab_ok h1).mono fun v H'' hv => ?_) (by simp) (by simp [go_sem]) ⟨by rw [row_bel_cells]; simp only [go_sem], trivial⟩
  obtain ⟨hv1, X, hv2⟩ := hv
  refine kept_one 6 ?_ ?_ ?_
  · rw [hv1]; simp [ren, rens]
  · rw [row_bel_cells]; simp only [go_sem]
  · rw [hv2, List.getElem?_append_left (List.getElem?_eq_some_iff.1 h2).1]; exact h2
end Go.Proofs

namespace Go.Proofs
open Go Go.Sx
attribute [local irreducible] Run

section
variable {P : Program} {G : Ctx} {k : Nat} {rd : Option Nat} {R : Runner} {l : List AOper} {fs : List Sx.Frame} {ρ : List AVal} {H : Heap} {ms : List Nat} {Q : Sx.Goal} {dst : Option Nat} {x y : Row} {g : FuncId} {args : List AVal} {r : AVal}
theorem cN2r (h : Ans P g args [] r [some x, some y]) (hK : R (.ops l) fs ⟨setD ρ dst (ren (fun i => H.length + i) r), H ++ [some x, some (y.ren fun i => H.length + i)], ms⟩ Q)
    (hb : Bels (fun _ => False) args := by simp only [go_sem]) (hr : Bel (· < 2) r := by simp [go_sem]) (hx : x.bel (fun _ => False) := by first | (simp only [go_sem]; done) | (rw [row_bel_cells]; simp only [go_sem])) (hy : y.bel (· < 2)) (hk : k ≤ H.length := by simp) (hms : ∀ q ∈ ms, H[q]? = some (some .dfr) := by simp) : CallR P G k R g args dst l fs ρ H ms Q := by
  have eσ : outσ [] H.length = fun i => H.length + i := by funext i; simp [outσ]
  have e : outΔ (outσ [] H.length) 0 [some x, some y] = [(H.length, x), (H.length + 1, y.ren fun i => H.length + i)] := by
    simp only [outΔ, Row.ren_same hx, eσ]
    rfl
  refine callS h [] (by simp) trivial (by
    conv => lhs; rw [← List.map_id args]
    exact List.map_congr_left fun v hv => (ren_same (bels_mem hb v hv)).symm) (bels_of fun v hv => (bels_mem hb v hv).mono fun _ h => h.elim) trivial (by simp) (by simpa using hr)
    ⟨bel_mono_row hx fun _ h => h.elim, bel_mono_row hy fun _ h => by simpa using h, trivial⟩ (fun q hq => by simp at hq) hk (fun q hq => ?_) ?_
  · refine ⟨?_, hms q hq⟩
    rw [e]
    have := (List.getElem?_eq_some_iff.1 (hms q hq)).1
    simp; omega
  · rw [e, eσ]
    have e3 : Heap.put (H ++ [some x]) (H.length + 1) (y.ren fun i => H.length + i) = H ++ [some x, some (y.ren fun i => H.length + i)] := by
      have := Heap.put_end (H ++ [some x]) (y.ren fun i => H.length + i)
      simpa using this
    simp only [Heap.puts, Heap.put_end, e3]
    exact hK
end

theorem joins_run (h : Int) : Ans Try.prog n_law05_joins [.int .i64 h] [] (.sl 1 0 3) [some (.cells false 1 [.int .i64 0]), some (.cells false 3 [.agg [.int .i64 900, .int .i64 h, .nilsl], .agg [.int .i64 1000, .int .i64 1100, .nilsl], .agg [.int .i64 950, .int .i64 950, .sl 0 0 1]])] := by
  refine spec_run e_law05_joins fun G => ?_
  simp only [go_sem]
  exact ⟨_, rfl⟩
theorem kSame_run {l : List Int} (hl : l.length ≤ 1000000) : Ans Try.prog n_kit_Same [.view (l.map fun x => .int .i64 x), .view (l.map fun x => .int .i64 x)] [] (.bool true) [] := by
  refine spec_run e_kit_Same fun G => ?_
  simp only [go_sem]
  refine loop_ind k_kit_Same_r8.eq_1 (fun i : Nat => i ≤ l.length) (fun i => l.length - i)
    (fun i => (tsets 26 [(0, .view (l.map fun x => .int .i64 x)), (1, .view (l.map fun x => .int .i64 x)), (4, .bool false), (5, .int .i64 i)], [])) 0 (Nat.zero_le _) (by simp [go_sem]) rfl ?_
  intro i hi ih
  dsimp only at hi ih ⊢
  by_cases h1 : i < l.length
  · have h2 : (i : Int) < l.length := by omega
    have n0 : ¬ (i : Int) < 0 := by omega
    have h3 : IntKind.i64.wrap ((i : Int) + 1) = ((i + 1 : Nat) : Int) := by rw [w64 (by omega)]; rfl
    obtain ⟨z, hzi⟩ : ∃ z, l[i]? = some z := ⟨_, List.getElem?_eq_getElem h1⟩
    simp only [go_sem, h2, n0, hzi, h3]
    exact ih (i + 1) (by omega) h1 _ (by simp [go_sem])
  · have h2 : ¬ (i : Int) < l.length := by omega
    simp only [go_sem, h2]
set_option maxHeartbeats 4000000 in
set_option maxRecDepth 10000 in
theorem awake_ok : Ans Try.prog n_law05_awake [] [] (.bool true) [] := by
  have k1 := Seal_run wall_ok lead_ok (sE := 800) (fr := 300) (by omega) (by omega)
  rw [seal_val] at k1
  have k2 := Strain_run wall_ok (th := 100) (by omega) ov_ok (by simp [ovL])
  rw [show ovL.length = 2 from rfl, strain_val] at k2
  simp only [rv, r2, List.map_cons, List.map_nil] at k2
  refine spec_run e_law05_awake fun G => ?_
  simp only [go_sem]
  refine cN1 wall_run ?_
  simp only [go_sem, ren, rens]
  refine cN1 lead_run ?_
  simp only [go_sem, ren, rens]
  refine cF k1 6 ⟨.inl rfl, .inl rfl, .inl rfl, .inl rfl, trivial⟩ ?_
  simp only [go_sem]
  refine cN1 wall_run ?_
  simp only [go_sem, ren, rens]
  refine cFN k2 6 ⟨.inl rfl, .inl rfl, .inl rfl, trivial⟩ ?_ (hx := ?_) (hxn := ?_)
  rotate_left
  · rw [row_bel_cells]; simp only [go_sem]
  · exact row_nv_cells _ _ (by simp only [go_sem])
  simp only [go_sem, ren, rens]
  refine cN2r (joins_run 950) ?_ (hy := ?_)
  rotate_left
  · rw [row_bel_cells]; simp [go_sem]
  simp only [go_sem, ren, rens, Row.ren]
  refine cFN First_run 6 ⟨.inl rfl, trivial⟩ ?_ (hx := ?_) (hxn := ?_)
  rotate_left
  · rw [row_bel_cells]; simp only [go_sem]
  · exact row_nv_cells _ _ (by simp only [go_sem])
  simp only [go_sem, ren, rens]
  have s1 := span_run 399609 399610
  have s2 := span_run 3999609 4399610
  have s3 := kSame_run (l := [1, 0, 2]) (by simp)
  simp only [r2] at s1 s2
  refine dP s1 ?_
  simp only [go_sem]
  refine dP s2 ?_
  simp only [go_sem]
  refine cF s3 6 ⟨.inl rfl, .inl rfl, trivial⟩ ?_
  simp only [go_sem]
end Go.Proofs

namespace Go.Proofs
open Go Go.Sx
attribute [local irreducible] Run

theorem ownStuff_run (brk : Int) (zs : List Zn) (hl : 1 ≤ zs.length ∧ zs.length ≤ 30) : Ans Try.prog n_kit_OwnStuff [stV brk zs] [] (.agg [.int .i64 brk, .sl 0 0 zs.length]) [some (.cells true 5 (zs.map Zn.v))] := by
  refine Ans.keep (run_fn e_kit_OwnStuff fun G => ?_) (by simp) (by simp [go_sem]) ⟨by rw [row_bel_cells]; simp only [go_sem], trivial⟩
  have hq : zs.length * 40 ≤ 2 ^ 44 := by omega
  simp only [go_sem, stV, List.length_map, hq]
  have hsz : sizedAll 5 (zs.map Zn.v) = true := by
    unfold sizedAll
    rw [List.all_eq_true]
    intro v hv
    obtain ⟨z, _, rfl⟩ := List.mem_map.1 hv
    rfl
  refine ⟨by rw [hsz]; decide, kept_one 2 ?_ ?_ rfl⟩
  · simp [ren, rens]
  · rw [row_bel_cells]; simp only [go_sem]
def Zn.nar (z : Zn) : Zn := { z with ghi := z.glo }
def nrw (zs : List Zn) (i : Nat) : List Zn := (zs.take i).map Zn.nar ++ zs.drop i
theorem nrw_zero (zs : List Zn) : nrw zs 0 = zs := by simp [nrw]
theorem nrw_len (zs : List Zn) (i : Nat) : (nrw zs i).length = zs.length := by simp [nrw]; omega
theorem nrw_get {zs : List Zn} {i : Nat} {z : Zn} (h : zs[i]? = some z) : (nrw zs i)[i]? = some z := by
  have hl := (List.getElem?_eq_some_iff.1 h).1
  unfold nrw
  rw [List.getElem?_append_right (by simp; omega)]
  simp [Nat.min_eq_left (Nat.le_of_lt hl), h]
theorem nrw_succ {zs : List Zn} {i : Nat} {z : Zn} (h : zs[i]? = some z) : (nrw zs i).set i z.nar = nrw zs (i + 1) := by
  have hl := (List.getElem?_eq_some_iff.1 h).1
  have hz : zs[i] = z := (List.getElem?_eq_some_iff.1 h).2
  unfold nrw
  rw [List.set_append_right _ _ (by simp; omega)]
  simp only [List.length_map, List.length_take, Nat.min_eq_left (Nat.le_of_lt hl), Nat.sub_self]
  rw [List.take_add_one, h, Option.toList_some, List.map_append, List.append_assoc, List.drop_eq_getElem_cons hl]
  rfl
theorem nrw_all (zs : List Zn) : nrw zs zs.length = zs.map Zn.nar := by simp [nrw]
theorem nar_ok {zs : List Zn} (h : ZsOK zs) : ZsOK (zs.map Zn.nar) := ⟨by simpa using h.len, fun z hz => by
    obtain ⟨y, hy, rfl⟩ := List.mem_map.1 hz
    have := h.all y hy
    exact ⟨this.f, ⟨this.g.1, Int.le_refl _, by have := this.g; show y.glo ≤ 100000; omega⟩, this.r⟩, fun z hz => by
    rw [List.getElem?_map] at hz
    obtain ⟨y, hy, rfl⟩ := Option.map_eq_some_iff.1 hz
    exact h.zero y hy, fun i a b ha hb => by
    rw [List.getElem?_map] at ha hb
    obtain ⟨y, hy, rfl⟩ := Option.map_eq_some_iff.1 ha
    obtain ⟨x, hx, rfl⟩ := Option.map_eq_some_iff.1 hb
    exact h.asc i y x hy hx⟩
theorem nar_same {zs : List Zn} (h : ZsOK zs) : gLo (zs.map Zn.nar) = gHi (zs.map Zn.nar) := by
  funext t
  have hne : zs.map Zn.nar ≠ [] := fun e => by have := h.len; rw [List.map_eq_nil_iff.1 e] at this; simp at this
  obtain ⟨y, _, hy⟩ := List.mem_map.1 (zAt_mem t hne)
  unfold gLo gHi
  rw [← hy]; rfl
theorem misR_turn (z1 z2 : List Zn) (s t : Int) : misR z1 z2 s t = (-(misR z2 z1 s t).2, -(misR z2 z1 s t).1) := by
  unfold misR
  dsimp only
  congr 1 <;> omega
theorem misR_set (z1 z2 : List Zn) (s : Int) : misR z1 z2 s s = (0, 0) := by
  have h : ∀ z, groR z s s = (0, 0) := fun z => by
    unfold groR; rw [if_neg (by omega), Int.sub_self]; rfl
  unfold misR
  rw [h, h]; rfl
theorem misR_nar {zs : List Zn} (h : ZsOK zs) (s t : Int) : misR (zs.map Zn.nar) (zs.map Zn.nar) s t = (0, 0) := by
  have e : (groR (zs.map Zn.nar) s t).1 = (groR (zs.map Zn.nar) s t).2 := by
    unfold groR; rw [nar_same h]; split <;> rfl
  unfold misR
  rw [e, Int.sub_self]
end Go.Proofs

namespace Go.Proofs
open Go Go.Sx

def k_law05_GlassTurns_r0 : List AOper := [
  ⟨(some (6)), .move (.const (.bool false)), none, []⟩]
def k_law05_GlassTurns_r1 : List AOper := [
  ⟨(some (20)), .move (.tmp 0), none, []⟩, 
  ⟨(some (21)), .call (.const (.fn (.func 21) [] [])) [.tmp 20], none, []⟩, 
  ⟨(some (7)), .move (.tmp 21), none, []⟩]
def k_law05_GlassTurns_r2 : List AOper := [
  ⟨(some (22)), .move (.tmp 7), none, []⟩, 
  ⟨(some (23)), .call (.const (.fn (.func 22) [] [])) [.tmp 22], none, []⟩, 
  ⟨(some (24)), .move (.tmp 7), none, []⟩, 
  ⟨(some (25)), .call (.const (.fn (.func 22) [] [])) [.tmp 24], none, []⟩, 
  ⟨(some (8)), .box (.const (.agg [.int .i64 0, .nilsl])), none, []⟩, 
  ⟨(some (9)), .box (.const (.agg [.int .i64 0, .nilsl])), none, []⟩, 
  ⟨none, .store 2 (.tmp 8) (.tmp 23), none, []⟩, 
  ⟨none, .store 2 (.tmp 9) (.tmp 25), none, []⟩]
def k_law05_GlassTurns_r3 : List AOper := [
  ⟨(some (26)), .move (.tmp 1), none, []⟩, 
  ⟨(some (27)), .call (.const (.fn (.func 43) [] [])) [.tmp 26, .const (.int .i64 2001)], none, []⟩, 
  ⟨(some (28)), .move (.tmp 2), none, []⟩, 
  ⟨(some (29)), .call (.const (.fn (.func 43) [] [])) [.tmp 28, .const (.int .i64 2001)], none, []⟩, 
  ⟨(some (1)), .move (.tmp 27), none, []⟩, 
  ⟨(some (2)), .move (.tmp 29), none, []⟩]
def k_law05_GlassTurns_r4 : List AOper := [
  ⟨(some (31)), .load (some (2)) (.tmp 8), none, []⟩, 
  ⟨(some (32)), .load (some (2)) (.tmp 9), none, []⟩, 
  ⟨(some (33)), .move (.tmp 1), none, []⟩, 
  ⟨(some (34)), .move (.tmp 2), none, []⟩, 
  ⟨(some (35)), .call (.const (.fn (.func 41) [] [])) [.tmp 31, .tmp 32, .tmp 33, .tmp 34], none, []⟩, 
  ⟨(some (30)), .move (.tmp 35), none, []⟩, 
  ⟨(some (36)), .extract (.tmp 30) 0, none, []⟩, 
  ⟨(some (37)), .extract (.tmp 30) 1, none, []⟩, 
  ⟨(some (10)), .box (.const (.agg [.int .i64 0, .int .i64 0])), none, []⟩, 
  ⟨none, .store 2 (.tmp 10) (.tmp 36), none, []⟩, 
  ⟨(some (11)), .move (.tmp 37), none, []⟩]
def k_law05_GlassTurns_r5 : List AOper := [
  ⟨(some (39)), .load (some (2)) (.tmp 9), none, []⟩, 
  ⟨(some (40)), .load (some (2)) (.tmp 8), none, []⟩, 
  ⟨(some (41)), .move (.tmp 1), none, []⟩, 
  ⟨(some (42)), .move (.tmp 2), none, []⟩, 
  ⟨(some (43)), .call (.const (.fn (.func 41) [] [])) [.tmp 39, .tmp 40, .tmp 41, .tmp 42], none, []⟩, 
  ⟨(some (38)), .move (.tmp 43), none, []⟩, 
  ⟨(some (44)), .extract (.tmp 38) 0, none, []⟩, 
  ⟨(some (45)), .extract (.tmp 38) 1, none, []⟩, 
  ⟨(some (12)), .box (.const (.agg [.int .i64 0, .int .i64 0])), none, []⟩, 
  ⟨none, .store 2 (.tmp 12) (.tmp 44), none, []⟩, 
  ⟨(some (13)), .move (.tmp 45), none, []⟩]
def k_law05_GlassTurns_r6 : List AOper := [
  ⟨(some (47)), .load (some (2)) (.tmp 8), none, []⟩, 
  ⟨(some (48)), .load (some (2)) (.tmp 9), none, []⟩, 
  ⟨(some (49)), .move (.tmp 1), none, []⟩, 
  ⟨(some (50)), .move (.tmp 1), none, []⟩, 
  ⟨(some (51)), .call (.const (.fn (.func 41) [] [])) [.tmp 47, .tmp 48, .tmp 49, .tmp 50], none, []⟩, 
  ⟨(some (46)), .move (.tmp 51), none, []⟩, 
  ⟨(some (52)), .extract (.tmp 46) 0, none, []⟩, 
  ⟨(some (53)), .extract (.tmp 46) 1, none, []⟩, 
  ⟨(some (14)), .box (.const (.agg [.int .i64 0, .int .i64 0])), none, []⟩, 
  ⟨none, .store 2 (.tmp 14) (.tmp 52), none, []⟩, 
  ⟨(some (15)), .move (.tmp 53), none, []⟩]
def k_law05_GlassTurns_r7 : List AOper := [
  ⟨(some (54)), .load (some (2)) (.tmp 8), none, []⟩, 
  ⟨(some (55)), .call (.const (.fn (.func 27) [] [])) [.tmp 54], none, []⟩, 
  ⟨(some (16)), .box (.const (.agg [.int .i64 0, .nilsl])), none, []⟩, 
  ⟨none, .store 2 (.tmp 16) (.tmp 55), none, []⟩]
def k_law05_GlassTurns_r8 : List AOper := [
  ⟨(some (17)), .move (.const (.int .i64 0)), none, []⟩]
def k_law05_GlassTurns_r9 : List AOper := [
  ⟨(some (56)), .move (.tmp 17), none, []⟩, 
  ⟨(some (57)), .fieldAddr 1 (.tmp 16), none, []⟩, 
  ⟨(some (58)), .load none (.tmp 57), none, []⟩, 
  ⟨(some (59)), .len false (.tmp 58), none, []⟩, 
  ⟨(some (60)), .bin .plain .lss (.tmp 56) (.tmp 59), none, []⟩]
def k_law05_GlassTurns_r10 : List AOper := [
  ⟨(some (63)), .fieldAddr 1 (.tmp 16), none, []⟩, 
  ⟨(some (64)), .load none (.tmp 63), none, []⟩, 
  ⟨(some (65)), .move (.tmp 17), none, [0, 1]⟩, 
  ⟨(some (66)), .fieldAddr 1 (.tmp 16), none, [0, 1, 2]⟩, 
  ⟨(some (67)), .load none (.tmp 66), none, [0, 1, 2]⟩, 
  ⟨(some (68)), .move (.tmp 17), none, [0, 1, 2, 3, 4]⟩, 
  ⟨(some (69)), .indexAddr 5 (.tmp 67) (.tmp 68), none, [0, 1, 2]⟩, 
  ⟨(some (70)), .fieldAddr 1 (.tmp 69), none, [0, 1, 2]⟩, 
  ⟨(some (71)), .fieldAddr 0 (.tmp 70), none, [0, 1, 2]⟩, 
  ⟨(some (72)), .load none (.tmp 71), none, [0, 1, 2]⟩, 
  ⟨(some (73)), .indexAddr 5 (.tmp 64) (.tmp 65), none, []⟩, 
  ⟨(some (74)), .fieldAddr 1 (.tmp 73), none, []⟩, 
  ⟨(some (75)), .fieldAddr 1 (.tmp 74), none, []⟩, 
  ⟨none, .store 1 (.tmp 75) (.tmp 72), none, []⟩]
def k_law05_GlassTurns_r10s : List (List AOper) := [
  [
  ⟨(some (63)), .fieldAddr 1 (.tmp 16), none, []⟩, 
  ⟨(some (64)), .load none (.tmp 63), none, []⟩, 
  ⟨(some (65)), .move (.tmp 17), none, [0, 1]⟩, 
  ⟨(some (66)), .fieldAddr 1 (.tmp 16), none, [0, 1, 2]⟩, 
  ⟨(some (67)), .load none (.tmp 66), none, [0, 1, 2]⟩, 
  ⟨(some (68)), .move (.tmp 17), none, [0, 1, 2, 3, 4]⟩, 
  ⟨(some (69)), .indexAddr 5 (.tmp 67) (.tmp 68), none, [0, 1, 2]⟩, 
  ⟨(some (70)), .fieldAddr 1 (.tmp 69), none, [0, 1, 2]⟩, 
  ⟨(some (71)), .fieldAddr 0 (.tmp 70), none, [0, 1, 2]⟩, 
  ⟨(some (72)), .load none (.tmp 71), none, [0, 1, 2]⟩], 
  [
  ⟨(some (73)), .indexAddr 5 (.tmp 64) (.tmp 65), none, []⟩], 
  [
  ⟨(some (74)), .fieldAddr 1 (.tmp 73), none, []⟩], 
  [
  ⟨(some (75)), .fieldAddr 1 (.tmp 74), none, []⟩], 
  [
  ⟨none, .store 1 (.tmp 75) (.tmp 72), none, []⟩]]
theorem k_law05_GlassTurns_r10_sg : segs k_law05_GlassTurns_r10 = k_law05_GlassTurns_r10s := by kernel_rfl
theorem k_law05_GlassTurns_r10_st : statOK k_law05_GlassTurns_r10 = true := by kernel_rfl
def k_law05_GlassTurns_r11 : List AOper := [
  ⟨(some (61)), .move (.tmp 17), none, []⟩, 
  ⟨(some (62)), .bin .plain .add (.tmp 61) (.const (.int .i64 1)), none, []⟩, 
  ⟨(some (17)), .move (.tmp 62), none, []⟩]
def k_law05_GlassTurns_r12 : ACode := (.seq (.seq (.reg k_law05_GlassTurns_r9 false) (.cond (.tmp 60) .skip (.exit 0))) (.seq (.block 1 (.reg k_law05_GlassTurns_r10 true)) (.reg k_law05_GlassTurns_r11 false)))
def k_law05_GlassTurns_r13 : List AOper := [
  ⟨(some (77)), .load (some (2)) (.tmp 16), none, []⟩, 
  ⟨(some (78)), .load (some (2)) (.tmp 16), none, []⟩, 
  ⟨(some (79)), .move (.tmp 1), none, []⟩, 
  ⟨(some (80)), .move (.tmp 2), none, []⟩, 
  ⟨(some (81)), .call (.const (.fn (.func 41) [] [])) [.tmp 77, .tmp 78, .tmp 79, .tmp 80], none, []⟩, 
  ⟨(some (76)), .move (.tmp 81), none, []⟩, 
  ⟨(some (82)), .extract (.tmp 76) 0, none, []⟩, 
  ⟨(some (83)), .extract (.tmp 76) 1, none, []⟩, 
  ⟨(some (18)), .box (.const (.agg [.int .i64 0, .int .i64 0])), none, []⟩, 
  ⟨none, .store 2 (.tmp 18) (.tmp 82), none, []⟩, 
  ⟨(some (19)), .move (.tmp 83), none, []⟩]
def k_law05_GlassTurns_r14 : List AOper := [
  ⟨(some (84)), .move (.tmp 11), none, []⟩, 
  ⟨(some (85)), .bin .plain .eql (.tmp 84) (.const (.int .i64 0)), none, []⟩, 
  ⟨(some (86)), .move (.tmp 85), none, []⟩, 
  ⟨(some (87)), .move (.tmp 13), (some (86, true)), []⟩, 
  ⟨(some (88)), .bin .plain .eql (.tmp 87) (.const (.int .i64 0)), (some (86, true)), []⟩, 
  ⟨(some (89)), .pick (.tmp 86) (.tmp 88) (.const (.bool false)), none, []⟩, 
  ⟨(some (90)), .move (.tmp 89), none, []⟩, 
  ⟨(some (91)), .move (.tmp 15), (some (90, true)), []⟩, 
  ⟨(some (92)), .bin .plain .eql (.tmp 91) (.const (.int .i64 0)), (some (90, true)), []⟩, 
  ⟨(some (93)), .pick (.tmp 90) (.tmp 92) (.const (.bool false)), none, []⟩, 
  ⟨(some (94)), .move (.tmp 93), none, []⟩, 
  ⟨(some (95)), .move (.tmp 19), (some (94, true)), []⟩, 
  ⟨(some (96)), .bin .plain .eql (.tmp 95) (.const (.int .i64 0)), (some (94, true)), []⟩, 
  ⟨(some (97)), .pick (.tmp 94) (.tmp 96) (.const (.bool false)), none, []⟩, 
  ⟨(some (98)), .move (.tmp 97), none, []⟩, 
  ⟨(some (99)), .load (some (2)) (.tmp 10), (some (98, true)), []⟩, 
  ⟨(some (100)), .fieldAddr 1 (.tmp 12), (some (98, true)), [15]⟩, 
  ⟨(some (101)), .load none (.tmp 100), (some (98, true)), [15]⟩, 
  ⟨(some (102)), .neg (.tmp 101), (some (98, true)), [15]⟩, 
  ⟨(some (103)), .fieldAddr 0 (.tmp 12), (some (98, true)), [15, 16, 17, 18]⟩, 
  ⟨(some (104)), .load none (.tmp 103), (some (98, true)), [15, 16, 17, 18]⟩, 
  ⟨(some (105)), .neg (.tmp 104), (some (98, true)), [15, 16, 17, 18]⟩, 
  ⟨(some (106)), .call (.const (.fn (.func 68) [] [])) [.tmp 102, .tmp 105], (some (98, true)), [15]⟩, 
  ⟨(some (107)), .eqAgg false [.int, .int] (.tmp 99) (.tmp 106), (some (98, true)), []⟩, 
  ⟨(some (108)), .pick (.tmp 98) (.tmp 107) (.const (.bool false)), none, []⟩, 
  ⟨(some (109)), .move (.tmp 108), none, []⟩, 
  ⟨(some (110)), .load (some (2)) (.tmp 14), (some (109, true)), []⟩, 
  ⟨(some (111)), .call (.const (.fn (.func 68) [] [])) [.const (.int .i64 0), .const (.int .i64 0)], (some (109, true)), [26]⟩, 
  ⟨(some (112)), .eqAgg false [.int, .int] (.tmp 110) (.tmp 111), (some (109, true)), []⟩, 
  ⟨(some (113)), .pick (.tmp 109) (.tmp 112) (.const (.bool false)), none, []⟩, 
  ⟨(some (114)), .move (.tmp 113), none, []⟩, 
  ⟨(some (115)), .load (some (2)) (.tmp 18), (some (114, true)), []⟩, 
  ⟨(some (116)), .call (.const (.fn (.func 68) [] [])) [.const (.int .i64 0), .const (.int .i64 0)], (some (114, true)), [31]⟩, 
  ⟨(some (117)), .eqAgg false [.int, .int] (.tmp 115) (.tmp 116), (some (114, true)), []⟩, 
  ⟨(some (118)), .pick (.tmp 114) (.tmp 117) (.const (.bool false)), none, []⟩, 
  ⟨(some (119)), .move (.tmp 118), none, []⟩, 
  ⟨(some (120)), .call (.const (.fn (.func 20) [] [])) [], (some (119, true)), []⟩, 
  ⟨(some (121)), .pick (.tmp 119) (.tmp 120) (.const (.bool false)), none, []⟩, 
  ⟨(some (6)), .move (.tmp 121), none, []⟩]
def k_law05_GlassTurns_r14s : List (List AOper) := [
  [
  ⟨(some (84)), .move (.tmp 11), none, []⟩], 
  [
  ⟨(some (85)), .bin .plain .eql (.tmp 84) (.const (.int .i64 0)), none, []⟩], 
  [
  ⟨(some (86)), .move (.tmp 85), none, []⟩], 
  [
  ⟨(some (87)), .move (.tmp 13), (some (86, true)), []⟩], 
  [
  ⟨(some (88)), .bin .plain .eql (.tmp 87) (.const (.int .i64 0)), (some (86, true)), []⟩], 
  [
  ⟨(some (89)), .pick (.tmp 86) (.tmp 88) (.const (.bool false)), none, []⟩], 
  [
  ⟨(some (90)), .move (.tmp 89), none, []⟩], 
  [
  ⟨(some (91)), .move (.tmp 15), (some (90, true)), []⟩], 
  [
  ⟨(some (92)), .bin .plain .eql (.tmp 91) (.const (.int .i64 0)), (some (90, true)), []⟩], 
  [
  ⟨(some (93)), .pick (.tmp 90) (.tmp 92) (.const (.bool false)), none, []⟩], 
  [
  ⟨(some (94)), .move (.tmp 93), none, []⟩], 
  [
  ⟨(some (95)), .move (.tmp 19), (some (94, true)), []⟩], 
  [
  ⟨(some (96)), .bin .plain .eql (.tmp 95) (.const (.int .i64 0)), (some (94, true)), []⟩], 
  [
  ⟨(some (97)), .pick (.tmp 94) (.tmp 96) (.const (.bool false)), none, []⟩], 
  [
  ⟨(some (98)), .move (.tmp 97), none, []⟩], 
  [
  ⟨(some (99)), .load (some (2)) (.tmp 10), (some (98, true)), []⟩, 
  ⟨(some (100)), .fieldAddr 1 (.tmp 12), (some (98, true)), [15]⟩, 
  ⟨(some (101)), .load none (.tmp 100), (some (98, true)), [15]⟩, 
  ⟨(some (102)), .neg (.tmp 101), (some (98, true)), [15]⟩, 
  ⟨(some (103)), .fieldAddr 0 (.tmp 12), (some (98, true)), [15, 16, 17, 18]⟩, 
  ⟨(some (104)), .load none (.tmp 103), (some (98, true)), [15, 16, 17, 18]⟩, 
  ⟨(some (105)), .neg (.tmp 104), (some (98, true)), [15, 16, 17, 18]⟩, 
  ⟨(some (106)), .call (.const (.fn (.func 68) [] [])) [.tmp 102, .tmp 105], (some (98, true)), [15]⟩], 
  [
  ⟨(some (107)), .eqAgg false [.int, .int] (.tmp 99) (.tmp 106), (some (98, true)), []⟩], 
  [
  ⟨(some (108)), .pick (.tmp 98) (.tmp 107) (.const (.bool false)), none, []⟩], 
  [
  ⟨(some (109)), .move (.tmp 108), none, []⟩], 
  [
  ⟨(some (110)), .load (some (2)) (.tmp 14), (some (109, true)), []⟩, 
  ⟨(some (111)), .call (.const (.fn (.func 68) [] [])) [.const (.int .i64 0), .const (.int .i64 0)], (some (109, true)), [26]⟩], 
  [
  ⟨(some (112)), .eqAgg false [.int, .int] (.tmp 110) (.tmp 111), (some (109, true)), []⟩], 
  [
  ⟨(some (113)), .pick (.tmp 109) (.tmp 112) (.const (.bool false)), none, []⟩], 
  [
  ⟨(some (114)), .move (.tmp 113), none, []⟩], 
  [
  ⟨(some (115)), .load (some (2)) (.tmp 18), (some (114, true)), []⟩, 
  ⟨(some (116)), .call (.const (.fn (.func 68) [] [])) [.const (.int .i64 0), .const (.int .i64 0)], (some (114, true)), [31]⟩], 
  [
  ⟨(some (117)), .eqAgg false [.int, .int] (.tmp 115) (.tmp 116), (some (114, true)), []⟩], 
  [
  ⟨(some (118)), .pick (.tmp 114) (.tmp 117) (.const (.bool false)), none, []⟩], 
  [
  ⟨(some (119)), .move (.tmp 118), none, []⟩], 
  [
  ⟨(some (120)), .call (.const (.fn (.func 20) [] [])) [], (some (119, true)), []⟩], 
  [
  ⟨(some (121)), .pick (.tmp 119) (.tmp 120) (.const (.bool false)), none, []⟩], 
  [
  ⟨(some (6)), .move (.tmp 121), none, []⟩]]
theorem k_law05_GlassTurns_r14_sg : segs k_law05_GlassTurns_r14 = k_law05_GlassTurns_r14s := by kernel_rfl
theorem k_law05_GlassTurns_r14_st : statOK k_law05_GlassTurns_r14 = true := by kernel_rfl
def k_law05_GlassTurns : AFun := { params := 3, ntmps := 122, body := (.seq (.reg k_law05_GlassTurns_r0 false) (.seq (.reg k_law05_GlassTurns_r1 false) (.seq (.reg k_law05_GlassTurns_r2 false) (.seq (.reg k_law05_GlassTurns_r3 false) (.seq (.reg k_law05_GlassTurns_r4 false) (.seq (.reg k_law05_GlassTurns_r5 false) (.seq (.reg k_law05_GlassTurns_r6 false) (.seq (.reg k_law05_GlassTurns_r7 false) (.seq (.seq (.reg k_law05_GlassTurns_r8 false) (.block 0 (.loop k_law05_GlassTurns_r12))) (.seq (.reg k_law05_GlassTurns_r13 false) (.seq (.reg k_law05_GlassTurns_r14 true) .ret))))))))))), res := [.tmp 6] }
theorem k_law05_GlassTurns_ok : cfun Try.prog Try.f10 = k_law05_GlassTurns := by kernel_rfl


abbrev n_law05_GlassTurns : Nat := 10
theorem e_law05_GlassTurns : EntryOK Try.prog n_law05_GlassTurns k_law05_GlassTurns := ⟨Try.f10, Try.func10, k_law05_GlassTurns_ok, by kernel_rfl⟩

attribute [go_sem] k_law05_GlassTurns_r0 k_law05_GlassTurns_r1 k_law05_GlassTurns_r2 k_law05_GlassTurns_r3 k_law05_GlassTurns_r4 k_law05_GlassTurns_r5 k_law05_GlassTurns_r6 k_law05_GlassTurns_r7 k_law05_GlassTurns_r8 k_law05_GlassTurns_r9 k_law05_GlassTurns_r10s k_law05_GlassTurns_r11
attribute [go_sem] k_law05_GlassTurns_r13 k_law05_GlassTurns_r14s k_law05_GlassTurns_r14_sg k_law05_GlassTurns_r10_sg k_law05_GlassTurns_r14_st k_law05_GlassTurns_r10_st k_law05_GlassTurns
end Go.Proofs

namespace Go.Proofs
open Go Go.Sx
attribute [local irreducible] Run

theorem mod_in (a b : Int) (hb : 1 ≤ b) : 0 ≤ a % b ∧ a % b < b := ⟨Int.emod_nonneg _ (by omega), Int.emod_lt_of_pos _ (by omega)⟩
theorem st_frz {H : Heap} {b : Int} {zs : List Zn} {j n : Nat} {g : Bool} (h : H[j]? = some (some (.cells g 5 (zs.map Zn.v)))) (hn : n = zs.length) : frz 6 H (.agg [.int .i64 b, .sl j 0 n]) = stV b zs := by
  have h1 : frz 5 H (.sl j 0 n) = .view (zs.map Zn.v) := by
    rw [frz_sl (d := 4) h (by simpa using hn), List.map_map]; rfl
  show AVal.agg [_, frz 5 H (.sl j 0 n)] = _
  rw [h1]; rfl

set_option maxHeartbeats 4000000 in
set_option maxRecDepth 10000 in
theorem turns_law (zs : List Int) (hl : zs.length ≤ 9223372036854775807) (a1 a2 : Int) : Ans Try.prog n_law05_GlassTurns [.view (zs.map (.int .i64)), .int .i64 a1, .int .i64 a2] [] (.bool true) [] := by
  have m1 := mod_in a1 2001 (by omega)
  have m2 := mod_in a2 2001 (by omega)
  have e1 := mod_pos a1 2001 (by omega)
  have e2 := mod_pos a2 2001 (by omega)
  obtain ⟨s, hs⟩ : ∃ s, a1 % 2001 = s := ⟨_, rfl⟩
  obtain ⟨t, ht⟩ : ∃ t, a2 % 2001 = t := ⟨_, rfl⟩
  rw [hs] at m1 e1
  rw [ht] at m2 e2
  refine spec_run e_law05_GlassTurns fun G => ?_
  simp only [go_sem]
  refine callN1 (newdice_ok zs hl) (by simp only [go_sem]) (dr_bel _ _) (by simp) (by simp) ?_
  generalize seedW zs = w
  simp only [go_sem]
  refine callDN (stuffOf_run w) rfl (by simp only [go_sem]) (dr_bel _ _) (fun a ha => ⟨by simp [go_sem], dr_bel _ _, by rw [row_bel_cells]; simp only [go_sem]⟩) (by simp) (by simp) ?_
  rintro ⟨b1, z1, w1⟩ h1
  dsimp only at h1 ⊢
  simp only [go_sem, ren, rens]
  refine callDN (stuffOf_run w1) rfl (by simp only [go_sem]) (dr_bel _ _) (fun a ha => ⟨by simp [go_sem], dr_bel _ _, by rw [row_bel_cells]; simp only [go_sem]⟩) (by simp) (by simp) ?_
  rintro ⟨b2, z2, w2⟩ h2
  dsimp only at h2 ⊢
  simp only [go_sem, ren, rens]
  refine cP e1 ?_
  simp only [go_sem]
  refine cP e2 ?_
  simp only [go_sem]
  have k1 := Mismatch_run h1 h2 (set := s) (t := t) (by omega) (by omega)
  have k2 := Mismatch_run h2 h1 (set := s) (t := t) (by omega) (by omega)
  have k3 := Mismatch_run h1 h2 (set := s) (t := s) (by omega) (by omega)
  rw [misR_set] at k3
  rw [misR_turn] at k1
  have mb : -400000000 ≤ (misR z2 z1 s t).1 ∧ (misR z2 z1 s t).1 ≤ 400000000 ∧ -400000000 ≤ (misR z2 z1 s t).2 ∧ (misR z2 z1 s t).2 ≤ 400000000 := by
    have i1 := groR_in h1.zs (f := s) (t := t) (by omega) (by omega)
    have i2 := groR_in h2.zs (f := s) (t := t) (by omega) (by omega)
    unfold misR; dsimp only; omega
  obtain ⟨p, hp⟩ : ∃ p, misR z2 z1 s t = p := ⟨_, rfl⟩
  rw [hp] at k1 k2 mb
  have k4 := ownStuff_run b1 z1 (by have := h1.zs.len; omega)
  simp only [r2] at k1 k2 k3
  refine cF k1 6 ⟨.inl (st_frz (g := true) rfl rfl), .inl (st_frz (g := true) rfl rfl), .inl rfl, .inl rfl, trivial⟩ ?_
  simp only [go_sem]
  refine cF k2 6 ⟨.inl (st_frz (g := true) rfl rfl), .inl (st_frz (g := true) rfl rfl), .inl rfl, .inl rfl, trivial⟩ ?_
  simp only [go_sem]
  refine cF k3 6 ⟨.inl (st_frz (g := true) rfl rfl), .inl (st_frz (g := true) rfl rfl), .inl rfl, .inl rfl, trivial⟩ ?_
  simp only [go_sem]
  have znv : (Row.cells true 5 (z1.map Zn.v)).nv := row_nv_cells _ _ (nvs_map _ _ fun x => by simp only [go_sem, Zn.v, Zn.cs])
  refine cFN k4 6 ⟨.inl (st_frz (g := true) rfl rfl), trivial⟩ ?_ (hx := by rw [row_bel_cells]; simp only [go_sem]) (hxn := znv)
  simp only [go_sem, ren, rens]
  have hn1 := h1.zs.len
  refine loop_ind k_law05_GlassTurns_r12.eq_1 (fun i : Nat => i ≤ z1.length) (fun i => z1.length - i)
    (fun i => (tsets 122 [(1, .int .i64 s), (2, .int .i64 t), (6, .bool false), (10, .ptr 5 0 0 1), (11, .int .i64 0), (12, .ptr 6 0 0 1), (13, .int .i64 0), (14, .ptr 7 0 0 1), (15, .int .i64 0), (16, .ptr 9 0 0 1), (17, .int .i64 i)],
      [some (Dr w2), some (Row.cells true 5 (List.map Zn.v z1)), some (Row.cells true 5 (List.map Zn.v z2)),
          some (Row.cells false 2 [AVal.agg [AVal.int IntKind.i64 b1, AVal.sl 1 0 z1.length]]),
          some (Row.cells false 2 [AVal.agg [AVal.int IntKind.i64 b2, AVal.sl 2 0 z2.length]]),
          some (Row.cells false 2 [AVal.agg [AVal.int IntKind.i64 (-p.snd), AVal.int IntKind.i64 (-p.fst)]]),
          some (Row.cells false 2 [AVal.agg [AVal.int IntKind.i64 p.fst, AVal.int IntKind.i64 p.snd]]),
          some (Row.cells false 2 [AVal.agg [AVal.int IntKind.i64 0, AVal.int IntKind.i64 0]]),
          some (Row.cells true 5 (List.map Zn.v (nrw z1 i))),
          some (Row.cells false 2 [AVal.agg [AVal.int IntKind.i64 b1, AVal.sl 8 0 z1.length]])])) 0 (Nat.zero_le _) (by simp [go_sem]) (by rw [nrw_zero]) ?_
  intro i hi ih
  dsimp only at hi ih ⊢
  have hnl := nrw_len z1 i
  by_cases c1 : i < z1.length
  · have c2 : (i : Int) < z1.length := by omega
    have n0 : ¬ (i : Int) < 0 := by omega
    have c3 : IntKind.i64.wrap ((i : Int) + 1) = ((i + 1 : Nat) : Int) := by rw [w64 (by omega)]; rfl
    obtain ⟨z, hz⟩ : ∃ z, z1[i]? = some z := ⟨_, List.getElem?_eq_getElem c1⟩
    have hgz := nrw_get hz
    have hsz : ((nrw z1 i).map Zn.v).set i (.agg [.int .i64 z.f, .int .i64 z.glo, .int .i64 z.glo, .int .i64 z.rlo, .int .i64 z.rhi]) = (nrw z1 (i + 1)).map Zn.v := by
      rw [← nrw_succ hz, List.map_set]; rfl
    have ihn := ih (i + 1) (by omega) c1
    clear ih
    simp only [go_sem, c2, n0, hnl, hgz, hsz, c3, Zn.v, Zn.cs, List.length_map]
    exact ihn _ (by simp [go_sem])
  · have c2 : ¬ (i : Int) < z1.length := by omega
    obtain rfl : i = z1.length := by omega
    clear ih
    have k5 := Mismatch_run (b1 := b1) (b2 := b1) (z1 := z1.map Zn.nar) (z2 := z1.map Zn.nar) ⟨h1.brk, nar_ok h1.zs⟩ ⟨h1.brk, nar_ok h1.zs⟩ (set := s) (t := t) (by omega) (by omega)
    rw [misR_nar h1.zs] at k5
    simp only [r2] at k5
    rw [nrw_all]
    simp only [go_sem, c2]
    refine cF k5 6 ⟨.inl (st_frz (g := true) rfl (by simp)), .inl (st_frz (g := true) rfl (by simp)), .inl rfl, .inl rfl, trivial⟩ ?_
    have x1 : IntKind.i64.wrap (0 - p.2) = -p.2 := by rw [w64 (by omega)]; omega
    have x2 : IntKind.i64.wrap (0 - p.1) = -p.1 := by rw [w64 (by omega)]; omega
    have s1 := span_run (-p.2) (-p.1)
    have s2 := span_run 0 0
    simp only [r2] at s1 s2
    simp only [go_sem, x1, x2]
    refine dP s1 ?_
    simp only [go_sem]
    refine dP s2 ?_
    simp only [go_sem]
    refine dP s2 ?_
    simp only [go_sem]
    refine cP awake_ok ?_
    simp only [go_sem]
end Go.Proofs

