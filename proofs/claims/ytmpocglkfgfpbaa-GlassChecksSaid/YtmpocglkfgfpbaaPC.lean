/- A part of the proof. -/
import Derived.Test.YtmpocglkfgfpbaaPB
set_option linter.unusedSimpArgs false
set_option linter.unusedVariables false
namespace Go.Proofs
open Go Go.Sx
attribute [local irreducible] Run

def m3 (a b c : Int) : AVal := .agg [.int .i64 a, .int .i64 b, .int .i64 c]
def mLo (z1 z2 : List Zn) (t : Int) : Int := gLo z2 t - gHi z1 t
def mHi (z1 z2 : List Zn) (t : Int) : Int := gHi z2 t - gLo z1 t
theorem sumD_bd {f : Int → Int} {B : Int} (h : ∀ t, -B ≤ f t ∧ f t ≤ B) (a : Int) : ∀ n : Nat, -(B * n) ≤ sumD f a n ∧ sumD f a n ≤ B * n
  | 0 => by simp [sumD]
  | n + 1 => by
    have h1 := sumD_bd h a n
    have h2 := h (a - 1 - n)
    have e : B * ((n + 1 : Nat) : Int) = B * n + B := by push_cast; rw [Int.mul_add, Int.mul_one]
    rw [e, sumD]; omega
theorem mLo_in {z1 z2 : List Zn} (h1 : ZsOK z1) (h2 : ZsOK z2) (t : Int) : -100000 ≤ mLo z1 z2 t ∧ mLo z1 z2 t ≤ 100000 := by
  have := g_in h1 t; have := g_in h2 t; unfold mLo; omega
theorem mHi_in {z1 z2 : List Zn} (h1 : ZsOK z1) (h2 : ZsOK z2) (t : Int) : -100000 ≤ mHi z1 z2 t ∧ mHi z1 z2 t ≤ 100000 := by
  have := g_in h1 t; have := g_in h2 t; unfold mHi; omega

structure MBody (G : Ctx) (b1 b2 : Int) (z1 z2 : List Zn) (sE fr lim : Int) (r jx jy js jf N : Nat) (Pre : Nat → Heap → Prop) (Stop : Heap → Prop) : Prop where
  row : ∀ i H, Pre i H → N ≤ H.length ∧ H[jx]? = some (some (.cells false 2 [stV b1 z1])) ∧ H[jy]? = some (some (.cells false 2 [stV b2 z2])) ∧ H[js]? = some (some (.cells false 1 [.int .i64 sE])) ∧ H[jf]? = some (some (.cells false 1 [.int .i64 fr]))
  grow : ∀ i H x, Pre i H → Pre i (H ++ [x])
  set : ∀ i H q x, N ≤ q → Pre i H → Pre i (H.set q x)
  halt : ∀ H q x, N ≤ q → Stop H → Stop (H.set q x)
  round : ∀ (i : Nat) H, (i : Int) ≤ sE - fr → Pre i H → RoundW Try.prog G r [.int .i64 (sE - i), m3 (sumD (mLo z1 z2) sE i) (sumD (mHi z1 z2) sE i) lim] H fun v H' =>
    (H.length ≤ H'.length ∧ ∀ q, N ≤ q → q < H.length → H'[q]? = H[q]?) ∧ ((v = .bool true ∧ Pre (i + 1) H') ∨ (v = .bool false ∧ Stop H'))

def miT (m p jy : Nat) : List (Nat × AVal) := [(2, .ptr jy 0 0 1), (5, .ptr m 0 0 1), (6, .ptr (m + 1) 0 0 1), (23, .fn (.func n_glass_zonesDown_1) [] [.ptr (p + 1) 0 0 1, .ptr p 0 0 1, .ptr (p + 2) 0 0 1])]
def miL (m p jy : Nat) (st : LoopState) (pe : Option ACode) : Row := .loop (tsets 42 (miT m p jy)) [24, 25] k_glass_mismatches_1_r8 k_glass_mismatches_1_r9 (p + 3) st pe
structure MiH (b1 : Int) (z1 : List Zn) (sE fr lo hi lim : Int) (r m p : Nat) (lr : Row) (J : Heap) : Prop where
  ord : m + 1 < p
  len : p + 5 ≤ J.length
  y : J[m]? = some (some (.cells false 1 [.yfn r]))
  mm : J[m + 1]? = some (some (.cells false 3 [m3 lo hi lim]))
  s : J[p]? = some (some (.cells false 2 [stV b1 z1]))
  a : J[p + 1]? = some (some (.cells false 1 [.int .i64 sE]))
  f : J[p + 2]? = some (some (.cells false 1 [.int .i64 fr]))
  d : J[p + 3]? = some (some .dfr)
  l : J[p + 4]? = some (some lr)
section
variable {b1 : Int} {z1 : List Zn} {sE fr lo hi lim : Int} {r m p : Nat} {lr : Row} {J K : Heap}
theorem MiH.mono (h : MiH b1 z1 sE fr lo hi lim r m p lr J) (hl : J.length ≤ K.length) (hk : ∀ q, m ≤ q → q < J.length → K[q]? = J[q]?) : MiH b1 z1 sE fr lo hi lim r m p lr K :=
  have h1 := h.len
  have h2 := h.ord
  ⟨h2, by omega, by rw [hk _ (by omega) (by omega)]; exact h.y, by rw [hk _ (by omega) (by omega)]; exact h.mm, by rw [hk _ (by omega) (by omega)]; exact h.s, by rw [hk _ (by omega) (by omega)]; exact h.a,
    by rw [hk _ (by omega) (by omega)]; exact h.f, by rw [hk _ (by omega) (by omega)]; exact h.d, by rw [hk _ (by omega) (by omega)]; exact h.l⟩
theorem MiH.off (h : MiH b1 z1 sE fr lo hi lim r m p lr J) {q : Nat} (hq : p + 5 ≤ q) (x : Option Row) : MiH b1 z1 sE fr lo hi lim r m p lr (J.set q x) :=
  have h2 := h.ord
  ⟨h2, by rw [List.length_set]; exact h.len, by rw [List.getElem?_set_ne (by omega)]; exact h.y, by rw [List.getElem?_set_ne (by omega)]; exact h.mm, by rw [List.getElem?_set_ne (by omega)]; exact h.s, by rw [List.getElem?_set_ne (by omega)]; exact h.a,
    by rw [List.getElem?_set_ne (by omega)]; exact h.f, by rw [List.getElem?_set_ne (by omega)]; exact h.d, by rw [List.getElem?_set_ne (by omega)]; exact h.l⟩
theorem MiH.setM (h : MiH b1 z1 sE fr lo hi lim r m p lr J) (u v : Int) : MiH b1 z1 sE fr u v lim r m p lr (J.set (m + 1) (some (.cells false 3 [m3 u v lim]))) :=
  have h1 := h.len
  have h2 := h.ord
  ⟨h2, by rw [List.length_set]; exact h.len, by rw [List.getElem?_set_ne (by omega)]; exact h.y, List.getElem?_set_self (by omega), by rw [List.getElem?_set_ne (by omega)]; exact h.s, by rw [List.getElem?_set_ne (by omega)]; exact h.a,
    by rw [List.getElem?_set_ne (by omega)]; exact h.f, by rw [List.getElem?_set_ne (by omega)]; exact h.d, by rw [List.getElem?_set_ne (by omega)]; exact h.l⟩
theorem MiH.setL (h : MiH b1 z1 sE fr lo hi lim r m p lr J) (x : Row) : MiH b1 z1 sE fr lo hi lim r m p x (J.set (p + 4) (some x)) :=
  have h1 := h.len
  have h2 := h.ord
  ⟨h2, by rw [List.length_set]; exact h.len, by rw [List.getElem?_set_ne (by omega)]; exact h.y, by rw [List.getElem?_set_ne (by omega)]; exact h.mm, by rw [List.getElem?_set_ne (by omega)]; exact h.s, by rw [List.getElem?_set_ne (by omega)]; exact h.a,
    by rw [List.getElem?_set_ne (by omega)]; exact h.f, by rw [List.getElem?_set_ne (by omega)]; exact h.d, List.getElem?_set_self (by omega)⟩
end

set_option maxHeartbeats 4000000 in
set_option maxRecDepth 10000 in
theorem mism_iter {G : Ctx} {b1 b2 : Int} {z1 z2 : List Zn} (h1 : ZsOK z1) (h2 : ZsOK z2) {sE fr lim : Int} (hlim : lim = min b1 b2) (hf : 0 ≤ fr ∧ fr ≤ sE) (hs : sE ≤ 2000) {r jx jy js jf N : Nat} {Pre : Nat → Heap → Prop} {Stop : Heap → Prop} (hB : MBody G b1 b2 z1 z2 sE fr lim r jx jy js jf N Pre Stop) {H0 : Heap} (h0 : Pre 0 H0) :
    CallW Try.prog G n_glass_mismatches_1 [.yfn r, .ptr jx 0 0 1, .ptr jy 0 0 1, .ptr js 0 0 1, .ptr jf 0 0 1] H0 fun v H' => v = .tup [] ∧ (Pre ((sE - fr).toNat + 1) H' ∨ Stop H') := by
  obtain ⟨hN, hjx, hjy, hjs, hjf⟩ := hB.row 0 H0 h0
  have cx := fun Y => cells_more (cells_at hjx) Y
  have cy := fun Y => cells_more (cells_at hjy) Y
  have cs := fun Y => cells_more (cells_at hjs) Y
  simp only [stV] at cx cy
  have el : (if b2 < b1 then b2 else b1) = lim := by rw [hlim]; split <;> omega
  refine callW_run 3000 e_glass_mismatches_1 ?_
  simp only [go_sem, cx, cy, cs, el, stV]
  generalize hm : H0.length = m at *
  have hK0 := hB.grow _ _ (some (Row.cells false 3 [m3 0 0 lim])) (hB.grow _ _ (some (Row.cells false 1 [AVal.yfn r])) h0)
  have hrd := hB.round 0 _ (by omega) hK0
  have hKy := get_end H0 (some (Row.cells false 1 [AVal.yfn r]))
  simp only [List.append_assoc, List.cons_append, List.nil_append, Int.sub_zero, Int.natCast_zero, Int.ofNat_zero  , sumD, m3] at hrd hK0
  have hk0 : (H0 ++ [some (Row.cells false 1 [AVal.yfn r]), some (Row.cells false 3 [AVal.agg [AVal.int IntKind.i64 0, AVal.int IntKind.i64 0, AVal.int IntKind.i64 lim]])])[m]? = some (some (Row.cells false 1 [AVal.yfn r])) := by
    rw [List.getElem?_append_right (by omega), hm, Nat.sub_self]; rfl
  have hk1 : (H0 ++ [some (Row.cells false 1 [AVal.yfn r]), some (Row.cells false 3 [AVal.agg [AVal.int IntKind.i64 0, AVal.int IntKind.i64 0, AVal.int IntKind.i64 lim]])])[m + 1]? = some (some (Row.cells false 3 [AVal.agg [AVal.int IntKind.i64 0, AVal.int IntKind.i64 0, AVal.int IntKind.i64 lim]])) := by
    rw [List.getElem?_append_right (by omega), hm, show m + 1 - m = 1 by omega]; rfl
  have hkl : (H0 ++ [some (Row.cells false 1 [AVal.yfn r]), some (Row.cells false 3 [AVal.agg [AVal.int IntKind.i64 0, AVal.int IntKind.i64 0, AVal.int IntKind.i64 lim]])]).length = m + 2 := by simp [hm]
  generalize (H0 ++ [some (Row.cells false 1 [AVal.yfn r]), some (Row.cells false 3 [AVal.agg [AVal.int IntKind.i64 0, AVal.int IntKind.i64 0, AVal.int IntKind.i64 lim]])] : Heap) = K0 at *
  refine yieldR _ rfl rfl (by simp [go_sem]) (by simp [go_sem]) (by omega) ?_
  refine hrd.mono ?_
  rintro v K ⟨⟨q1, q2⟩, ⟨rfl, q3⟩ | ⟨rfl, q3⟩⟩
  rotate_left
  · refine ⟨fun q hq => by simp at hq, ?_⟩
    simp only [go_sem]
    exact .inr q3
  refine ⟨fun q hq => by simp at hq, ?_⟩
  rw [Nat.zero_add] at q3
  have hky : K[m]? = some (some (Row.cells false 1 [AVal.yfn r])) := by rw [q2 m (by omega) (by omega)]; exact hk0
  have hkm : K[m + 1]? = some (some (Row.cells false 3 [AVal.agg [AVal.int IntKind.i64 0, AVal.int IntKind.i64 0, AVal.int IntKind.i64 lim]])) := by rw [q2 (m + 1) (by omega) (by omega)]; exact hk1
  obtain ⟨_, kx, ky, ks, kf⟩ := hB.row 1 K q3
  have dx := cells_at kx
  have ds := cells_at ks
  have df := cells_at kf
  simp only [stV] at dx
  have hzd := zonesDown_run b1 z1 sE fr
  simp only [stV] at hzd
  simp only [go_sem, dx, ds, df]
  have hmK : m + 2 ≤ K.length := by omega
  refine cN3 hzd ?_ (hk := by omega)
  simp only [go_sem, ren, rens]
  generalize hp : K.length = p at *
  have hl0 : (K ++ [some (Row.cells false 2 [AVal.agg [AVal.int IntKind.i64 b1, AVal.view (List.map Zn.v z1)]]), some (Row.cells false 1 [AVal.int IntKind.i64 sE]), some (Row.cells false 1 [AVal.int IntKind.i64 fr])]).length = p + 3 := by simp [hp]
  have hL : Pre 1 (K ++ [some (Row.cells false 2 [AVal.agg [AVal.int IntKind.i64 b1, AVal.view (List.map Zn.v z1)]]), some (Row.cells false 1 [AVal.int IntKind.i64 sE]), some (Row.cells false 1 [AVal.int IntKind.i64 fr])] ++ [some .dfr] ++ [some (miL m p jy .ready none)]) := by
    have := hB.grow _ _ (some (miL m p jy .ready none)) (hB.grow _ _ (some .dfr) (hB.grow _ _ (some (Row.cells false 1 [AVal.int IntKind.i64 fr])) (hB.grow _ _ (some (Row.cells false 1 [AVal.int IntKind.i64 sE])) (hB.grow _ _ (some (Row.cells false 2 [AVal.agg [AVal.int IntKind.i64 b1, AVal.view (List.map Zn.v z1)]])) q3))))
    simpa using this
  have hMi : MiH b1 z1 sE fr 0 0 lim r m p (miL m p jy .ready none) (K ++ [some (Row.cells false 2 [AVal.agg [AVal.int IntKind.i64 b1, AVal.view (List.map Zn.v z1)]]), some (Row.cells false 1 [AVal.int IntKind.i64 sE]), some (Row.cells false 1 [AVal.int IntKind.i64 fr])] ++ [some .dfr] ++ [some (miL m p jy .ready none)]) := by
    have ea : ∀ (x y z u w : Option Row), K ++ [x, y, z] ++ [u] ++ [w] = K ++ [x, y, z, u, w] := fun x y z u w => by simp
    rw [ea]
    have old : ∀ (j : Nat) (y : Option Row) Y, K[j]? = some y → (K ++ Y)[j]? = some y := fun j y Y h => by
      rw [List.getElem?_append_left (List.getElem?_eq_some_iff.1 h).1]; exact h
    have new : ∀ (j : Nat) (Y : Heap), (K ++ Y)[p + j]? = Y[j]? := fun j Y => by
      rw [List.getElem?_append_right (by omega), hp, Nat.add_sub_cancel_left]
    exact ⟨by omega, by simp [hp], old _ _ _ hky, old _ _ _ hkm, by have := new 0; rw [Nat.add_zero] at this; rw [this]; rfl, by rw [new 1]; rfl, by rw [new 2]; rfl, by rw [new 3]; rfl, by rw [new 4]; rfl⟩
  have hit : CallW Try.prog G n_glass_zonesDown_1 [.yfn (p + 4), .ptr (p + 1) 0 0 1, .ptr p 0 0 1, .ptr (p + 2) 0 0 1] (K ++ [some (Row.cells false 2 [AVal.agg [AVal.int IntKind.i64 b1, AVal.view (List.map Zn.v z1)]]), some (Row.cells false 1 [AVal.int IntKind.i64 sE]), some (Row.cells false 1 [AVal.int IntKind.i64 fr])] ++ [some .dfr] ++ [some (miL m p jy .ready none)]) fun v J => v = .tup [] ∧
      ((Pre ((sE - fr).toNat + 1) J ∧ MiH b1 z1 sE fr (sumD (mLo z1 z2) sE (sE - fr).toNat) (sumD (mHi z1 z2) sE (sE - fr).toNat) lim r m p (miL m p jy .ready none) J) ∨ Stop J ∧ ∃ u v, MiH b1 z1 sE fr u v lim r m p (miL m p jy .done (some .ret)) J) := by
    refine down_iter (r := p + 4) (ja := p + 1) (js := p) (jl := p + 2) (N := p + 5) (brk := b1) h1 (a := sE) (l := fr) (by omega) (by omega) (by omega)
      (Pre := fun i J => Pre (i + 1) J ∧ MiH b1 z1 sE fr (sumD (mLo z1 z2) sE i) (sumD (mHi z1 z2) sE i) lim r m p (miL m p jy .ready none) J)
      (Stop := fun J => Stop J ∧ ∃ u v, MiH b1 z1 sE fr u v lim r m p (miL m p jy .done (some .ret)) J) ⟨?_, ?_, ?_, ?_, ?_⟩ ⟨hL, hMi⟩
    · rintro i J ⟨_, h⟩
      exact ⟨h.len, h.a, h.s, h.f⟩
    · rintro i J x ⟨h3, h4⟩
      exact ⟨hB.grow _ _ _ h3, h4.mono (by simp) fun q _ hq => List.getElem?_append_left hq⟩
    · rintro i J q x hq ⟨h3, h4⟩
      exact ⟨hB.set _ _ _ _ (by omega) h3, h4.off hq x⟩
    · rintro J q x hq ⟨h3, u, v, h4⟩
      exact ⟨hB.halt _ _ _ (by omega) h3, u, v, h4.off hq x⟩
    · rintro i J hi ⟨hp3, hd⟩
      have e1 : sumD (mLo z1 z2) sE (i + 1) = sumD (mLo z1 z2) sE i + ((zAt z2 (sE - 1 - i)).glo - (zAt z1 (sE - 1 - i)).ghi) := rfl
      have e2 : sumD (mHi z1 z2) sE (i + 1) = sumD (mHi z1 z2) sE i + ((zAt z2 (sE - 1 - i)).ghi - (zAt z1 (sE - 1 - i)).glo) := rfl
      have hrd := hB.round (i + 1)
      rw [e1, e2] at hrd
      rw [e1, e2]
      have zo := zoneOf_run b2 h2 (t := sE - 1 - i) (by omega)
      have g1 := g_in h1 (sE - 1 - i)
      have g2 := g_in h2 (sE - 1 - i)
      have bl := sumD_bd (f := mLo z1 z2) (mLo_in h1 h2) sE i
      have bh := sumD_bd (f := mHi z1 z2) (mHi_in h1 h2) sE i
      unfold gLo gHi at g1 g2
      generalize zAt z1 (sE - 1 - i) = z at *
      generalize zAt z2 (sE - 1 - i) = z' at *
      generalize sumD (mLo z1 z2) sE i = lo at *
      generalize sumD (mHi z1 z2) sE i = hv at *
      have ls := less_run z'.glo z'.ghi z.glo z.ghi (by omega)
      have pl := plus_run lo hv (z'.glo - z.ghi) (z'.ghi - z.glo) (by omega)
      have hdl := hd.len
      have hdo := hd.ord
      refine RoundW.mono (R := fun v J' => ((v = .bool true ∧ Pre (i + 1 + 1) J' ∧ MiH b1 z1 sE fr (lo + (z'.glo - z.ghi)) (hv + (z'.ghi - z.glo)) lim r m p (miL m p jy .ready none) J') ∨ (v = .bool false ∧ Stop J' ∧ ∃ u v, MiH b1 z1 sE fr u v lim r m p (miL m p jy .done (some .ret)) J')) ∧ J.length ≤ J'.length ∧ ∀ q, p + 5 ≤ q → q < J.length → J'[q]? = J[q]?) ?_ ?_
      rotate_left
      · rintro v J' ⟨h3, h4⟩
        exact ⟨h4, h3⟩
      generalize hR : (fun (v : AVal) (J' : Heap) => ((v = .bool true ∧ Pre (i + 1 + 1) J' ∧ MiH b1 z1 sE fr (lo + (z'.glo - z.ghi)) (hv + (z'.ghi - z.glo)) lim r m p (miL m p jy .ready none) J') ∨ (v = .bool false ∧ Stop J' ∧ ∃ u v, MiH b1 z1 sE fr u v lim r m p (miL m p jy .done (some .ret)) J')) ∧ J.length ≤ J'.length ∧ ∀ q, p + 5 ≤ q → q < J.length → J'[q]? = J[q]?) = R
      have hon : ∀ J', Pre (i + 1 + 1) J' → MiH b1 z1 sE fr (lo + (z'.glo - z.ghi)) (hv + (z'.ghi - z.glo)) lim r m p (miL m p jy .ready none) J' → J.length ≤ J'.length → (∀ q, p + 5 ≤ q → q < J.length → J'[q]? = J[q]?) → R (.bool true) J' := fun J' a1 a2 a3 a4 => by rw [← hR]; exact ⟨.inl ⟨rfl, a1, a2⟩, a3, a4⟩
      have hoff : ∀ J' u v, Stop J' → MiH b1 z1 sE fr u v lim r m p (miL m p jy .done (some .ret)) J' → J.length ≤ J'.length → (∀ q, p + 5 ≤ q → q < J.length → J'[q]? = J[q]?) → R (.bool false) J' := fun J' u v a1 a2 a3 a4 => by rw [← hR]; exact ⟨.inr ⟨rfl, a1, u, v, a2⟩, a3, a4⟩
      clear hR
      refine roundW_run 500 k_glass_mismatches_1_r8.eq_1 hd.l rfl (ρ' := tsets 42 (miT m p jy ++ [(24, .int .i64 (sE - 1 - i)), (25, z.v)])) rfl ?_
      simp only [go_sem, miT, Zn.v, Zn.cs, put_at_end]
      have hp1 := hB.grow _ _ (some (Row.cells false 5 [AVal.agg [AVal.int IntKind.i64 z.f, AVal.int IntKind.i64 z.glo, AVal.int IntKind.i64 z.ghi, AVal.int IntKind.i64 z.rlo, AVal.int IntKind.i64 z.rhi]])) hp3
      have hd1 := hd.mono (K := J ++ [some (Row.cells false 5 [AVal.agg [AVal.int IntKind.i64 z.f, AVal.int IntKind.i64 z.glo, AVal.int IntKind.i64 z.ghi, AVal.int IntKind.i64 z.rlo, AVal.int IntKind.i64 z.rhi]])]) (by simp) fun q _ hq => List.getElem?_append_left hq
      have hb1 := get_end J (some (Row.cells false 5 [AVal.agg [AVal.int IntKind.i64 z.f, AVal.int IntKind.i64 z.glo, AVal.int IntKind.i64 z.ghi, AVal.int IntKind.i64 z.rlo, AVal.int IntKind.i64 z.rhi]]))
      have hl1 : (J ++ [some (Row.cells false 5 [AVal.agg [AVal.int IntKind.i64 z.f, AVal.int IntKind.i64 z.glo, AVal.int IntKind.i64 z.ghi, AVal.int IntKind.i64 z.rlo, AVal.int IntKind.i64 z.rhi]])]).length = J.length + 1 := by simp
      have ho1 : ∀ q, q < J.length → (J ++ [some (Row.cells false 5 [AVal.agg [AVal.int IntKind.i64 z.f, AVal.int IntKind.i64 z.glo, AVal.int IntKind.i64 z.ghi, AVal.int IntKind.i64 z.rlo, AVal.int IntKind.i64 z.rhi]])])[q]? = J[q]? := fun q hq => List.getElem?_append_left hq
      generalize (J ++ [some (Row.cells false 5 [AVal.agg [AVal.int IntKind.i64 z.f, AVal.int IntKind.i64 z.glo, AVal.int IntKind.i64 z.ghi, AVal.int IntKind.i64 z.rlo, AVal.int IntKind.i64 z.rhi]])] : Heap) = L at *
      generalize hjl' : J.length = q at *
      have hlt : p + 4 < L.length := by omega
      refine roundMid_run 500 k_glass_mismatches_1_r9.eq_1 hd1.l (put_lt hlt) ?_
      have hp2 := hB.set _ _ (p + 4) (some (miL m p jy .busy none)) (by omega) hp1
      have hd2 := hd1.setL (miL m p jy .busy none)
      have hb2 : (L.set (p + 4) (some (miL m p jy .busy none)))[q]? = some (some (Row.cells false 5 [AVal.agg [AVal.int IntKind.i64 z.f, AVal.int IntKind.i64 z.glo, AVal.int IntKind.i64 z.ghi, AVal.int IntKind.i64 z.rlo, AVal.int IntKind.i64 z.rhi]])) := by rw [List.getElem?_set_ne (by omega)]; exact hb1
      have hl2 : (L.set (p + 4) (some (miL m p jy .busy none))).length = q + 1 := by rw [List.length_set]; exact hl1
      have ho2 : ∀ x, p + 5 ≤ x → x < q → (L.set (p + 4) (some (miL m p jy .busy none)))[x]? = J[x]? := fun x hx hxq => by rw [List.getElem?_set_ne (by omega)]; exact ho1 x hxq
      simp only [miL, miT] at hp2 hd2 hb2 hl2 ho2 ⊢
      generalize hM : (L.set (p + 4) _ : Heap) = M at hp2 hd2 hb2 hl2 ho2 ⊢
      clear hM hp1 hd1 hb1 hl1 ho1
      have c1 := cells_at hd2.mm
      have c2 := cells_at (hB.row _ _ hp2).2.2.1
      have c3 := cells_at hb2
      have c4 := cells_at hd2.y
      simp only [m3, stV] at c1 c2
      simp only [stV, Zn.v, Zn.cs] at zo
      simp only [r2] at ls pl
      simp only [go_sem, c1, c2, c3, c4]
      refine dP zo ?_
      simp only [go_sem, Zn.v, Zn.cs, c3]
      refine dP ls ?_
      simp only [go_sem]
      refine cP pl ?_ (hk := by omega)
      have hlm : m + 1 < M.length := by omega
      have hput := fun x => put_lt (H := M) (x := x) hlm
      have hp4 := hB.set _ _ (m + 1) (some (Row.cells false 3 [m3 (lo + (z'.glo - z.ghi)) (hv + (z'.ghi - z.glo)) lim])) (by omega) hp2
      have hd4 := hd2.setM (lo + (z'.glo - z.ghi)) (hv + (z'.ghi - z.glo))
      have hl4 : (M.set (m + 1) (some (Row.cells false 3 [m3 (lo + (z'.glo - z.ghi)) (hv + (z'.ghi - z.glo)) lim]))).length = q + 1 := by rw [List.length_set]; exact hl2
      have ho4 : ∀ x, p + 5 ≤ x → x < q → (M.set (m + 1) (some (Row.cells false 3 [m3 (lo + (z'.glo - z.ghi)) (hv + (z'.ghi - z.glo)) lim])))[x]? = J[x]? := fun x hx hxq => by rw [List.getElem?_set_ne (by omega)]; exact ho2 x hx hxq
      simp only [m3] at hp4 hd4 hl4 ho4 hrd
      simp only [go_sem, c1, hput]
      generalize (M.set (m + 1) _ : Heap) = S at hp4 hd4 hl4 ho4 ⊢
      have c5 := cells_at hd4.mm
      have c6 := cells_at hd4.y
      simp only [m3] at c5
      have es : sE - ((i + 1 : Nat) : Int) = sE - 1 - i := by omega
      have hrd := hrd S (by omega) hp4
      rw [es] at hrd
      simp only [go_sem, c5, c6]
      refine yieldR _ rfl rfl (by simp [go_sem]) (by simp [go_sem]) (by omega) ?_
      refine hrd.mono ?_
      rintro v S' ⟨⟨q4, q5⟩, ⟨rfl, q6⟩ | ⟨rfl, q6⟩⟩
      · have hds := hd4.mono q4 fun x hx => q5 x (by omega)
        have hlt' : p + 4 < S'.length := by have := hds.len; omega
        refine ⟨fun x hx => by simp at hx, ?_⟩
        simp only [go_sem]
        refine roundEnd_on hds.l ?_
        rw [put_lt hlt']
        exact hon _ (hB.set _ _ _ _ (by omega) q6) (hds.setL _) (by rw [List.length_set]; omega) fun x hx hxq => by rw [List.getElem?_set_ne (by omega), q5 x (by omega) (by omega)]; exact ho4 x hx hxq
      · have hds := hd4.mono q4 fun x hx => q5 x (by omega)
        have hlt' : p + 4 < S'.length := by have := hds.len; omega
        refine ⟨fun x hx => by simp at hx, ?_⟩
        simp only [go_sem]
        refine roundEnd_ret hds.l ?_
        rw [put_lt hlt']
        exact hoff _ _ _ (hB.halt _ _ _ (by omega) q6) (hds.setL _) (by rw [List.length_set]; omega) fun x hx hxq => by rw [List.getElem?_set_ne (by omega), q5 x (by omega) (by omega)]; exact ho4 x hx hxq
  refine rangeF 2000 (ρ := tsets 42 (miT m p jy)) (by simp [go_sem, miT]) (by simp only [go_sem, miT]; rfl) (by rw [hl0]; exact hit) (by rw [hl0]; omega) ?_
  rw [hl0]
  rintro v J ⟨rfl, ⟨h3, hd⟩ | ⟨h3, u, w, hd⟩⟩
  · refine ⟨fun q hq => by simp at hq; subst hq; exact hd.d, _, _, _, _, _, _, _, hd.l, by decide, ?_⟩
    have hfin := hB.set _ _ (p + 3) none (by omega) (hB.set _ _ (p + 3 + 1) none (by omega) h3)
    simp only [go_sem, miT]
    exact ⟨by simp, .inl hfin⟩
  · refine ⟨fun q hq => by simp at hq; subst hq; exact hd.d, _, _, _, _, _, _, _, hd.l, by decide, ?_⟩
    have hfin := hB.halt _ (p + 3) none (by omega) (hB.halt _ (p + 3 + 1) none (by omega) h3)
    simp only [go_sem, miT]
    exact ⟨by simp, .inr hfin⟩
end Go.Proofs

namespace Go.Proofs
open Go Go.Sx
attribute [local irreducible] Run

theorem sBreaks_run (a b c : Int) (hc : -1000000000000 ≤ c ∧ c ≤ 1000000000000) : Ans Try.prog n_glass_mismatch_surelyBreaks [m3 a b c] [] (.bool (decide (a > c) || decide (b < -c))) [] := by
  have w1 : IntKind.i64.wrap (-c) = -c := w64 (by omega)
  refine spec_run e_glass_mismatch_surelyBreaks fun G => ?_
  by_cases h1 : a > c
  · simp [go_sem, m3, h1]
  · simp [go_sem, m3, h1, w1]
theorem sHolds_run (a b c : Int) (hc : -1000000000000 ≤ c ∧ c ≤ 1000000000000) : Ans Try.prog n_glass_mismatch_surelyHolds [m3 a b c] [] (.bool (decide (a ≥ -c) && decide (b ≤ c))) [] := by
  have w1 : IntKind.i64.wrap (-c) = -c := w64 (by omega)
  refine spec_run e_glass_mismatch_surelyHolds fun G => ?_
  by_cases h1 : a ≥ -c
  · simp [go_sem, m3, h1, w1]
  · simp [go_sem, m3, h1, w1]

def brkA (z1 z2 : List Zn) (sE lim : Int) (i : Nat) : Bool := decide (sumD (mLo z1 z2) sE i > lim) || decide (sumD (mHi z1 z2) sE i < -lim)
def holA (z1 z2 : List Zn) (sE lim : Int) (i : Nat) : Bool := decide (sumD (mLo z1 z2) sE i ≥ -lim) && decide (sumD (mHi z1 z2) sE i ≤ lim)
def jV (z1 z2 : List Zn) (sE lim : Int) : Nat → Int × Int
  | 0 => (1, 0)
  | k + 1 => if (jV z1 z2 sE lim k).1 = 1 ∧ holA z1 z2 sE lim k = false then (3, sE - k) else jV z1 z2 sE lim k
def jFrom (z1 z2 : List Zn) (sE lim : Int) : Nat → Nat → Int × Int
  | 0, k => jV z1 z2 sE lim k
  | n + 1, k => if brkA z1 z2 sE lim k = true then (2, sE - k) else jFrom z1 z2 sE lim n (k + 1)
theorem jFrom_at {z1 z2 : List Zn} {sE lim : Int} : ∀ (k n m : Nat), (∀ i, m ≤ i → i < m + k → brkA z1 z2 sE lim i = false) → jFrom z1 z2 sE lim (n + k) m = jFrom z1 z2 sE lim n (m + k)
  | 0, _, _, _ => rfl
  | k + 1, n, m, h => by
    have h1 := h m (Nat.le_refl _) (by omega)
    show (if brkA z1 z2 sE lim m = true then _ else jFrom z1 z2 sE lim (n + k) (m + 1)) = _
    rw [if_neg (by rw [h1]; simp), jFrom_at k n (m + 1) fun i h2 h3 => h i (by omega) (by omega)]
    congr 1; omega

def juT : List (Nat × AVal) := [(2, .ptr 4 0 0 1), (3, .ptr 5 0 0 1), (6, .fn (.func n_glass_mismatches_1) [] [.ptr 0 0 0 1, .ptr 1 0 0 1, .ptr 2 0 0 1, .ptr 3 0 0 1])]
def juL (st : LoopState) (pe : Option ACode) : Row := .loop (tsets 24 juT) [7, 8] k_glass_judge_glass_mismatch_r9 k_glass_judge_glass_mismatch_r10 6 st pe
def juR (b1 b2 : Int) (z1 z2 : List Zn) (sE fr : Int) : Heap := [some (.cells false 2 [stV b1 z1]), some (.cells false 2 [stV b2 z2]), some (.cells false 1 [.int .i64 sE]), some (.cells false 1 [.int .i64 fr])]
def juH (b1 b2 : Int) (z1 z2 : List Zn) (sE fr : Int) (va : Int × Int) (x : Row) (X : Heap) : Heap :=
  [some (.cells false 2 [stV b1 z1]), some (.cells false 2 [stV b2 z2]), some (.cells false 1 [.int .i64 sE]), some (.cells false 1 [.int .i64 fr]), some (.cells false 1 [.int .i64 va.1]), some (.cells false 1 [.int .i64 va.2]), some .dfr, some x] ++ X

set_option maxHeartbeats 4000000 in
set_option maxRecDepth 10000 in
theorem judge_run {b1 b2 : Int} {z1 z2 : List Zn} (h1 : StOK b1 z1) (h2 : StOK b2 z2) {sE fr : Int} (hf : 0 ≤ fr ∧ fr ≤ sE) (hs : sE ≤ 2000) :
    Ans Try.prog n_glass_judge_glass_mismatch [.fn (.func n_glass_mismatches_1) [] [.ptr 0 0 0 1, .ptr 1 0 0 1, .ptr 2 0 0 1, .ptr 3 0 0 1]] (juR b1 b2 z1 z2 sE fr)
      (.tup [.int .i64 (jFrom z1 z2 sE (min b1 b2) ((sE - fr).toNat + 1) 0).1, .int .i64 (jFrom z1 z2 sE (min b1 b2) ((sE - fr).toNat + 1) 0).2]) (juR b1 b2 z1 z2 sE fr) := by
  have hb1 := h1.brk
  have hb2 := h2.brk
  obtain ⟨n, hn⟩ : ∃ n : Nat, (sE - fr).toNat = n := ⟨_, rfl⟩
  rw [hn]
  have hsf : sE - fr = n := by omega
  generalize hlm : min b1 b2 = lim at *
  have hlim : 1 ≤ lim ∧ lim ≤ 1000000000 := by omega
  have row0 : ∀ (S : Nat → Prop) (i : Nat) (x : Row), (juR b1 b2 z1 z2 sE fr)[i]? = some (some x) → x.bel S := by
    intro S i x hx
    rcases i with _ | _ | _ | _ | i
    · cases hx; rw [row_bel_cells]; simp only [go_sem, stV]
    · cases hx; rw [row_bel_cells]; simp only [go_sem, stV]
    · cases hx; rw [row_bel_cells]; simp only [go_sem]
    · cases hx; rw [row_bel_cells]; simp only [go_sem]
    · simp [juR] at hx
  refine Ans.keep (run_fn e_glass_judge_glass_mismatch fun G => ?_) (by simp [juR]) (by simp [go_sem]) ⟨row0 _ 0 _ rfl, row0 _ 1 _ rfl, row0 _ 2 _ rfl, row0 _ 3 _ rfl, trivial⟩
  have hkept : ∀ (va : Int × Int) (H' : Heap), va = jFrom z1 z2 sE lim (n + 1) 0 → (∀ (i : Nat) (x : Row), (juR b1 b2 z1 z2 sE fr)[i]? = some (some x) → H'[i]? = some (some x)) → ∃ σ, Kept (juR b1 b2 z1 z2 sE fr) (juR b1 b2 z1 z2 sE fr) (.tup [.int .i64 (jFrom z1 z2 sE lim (n + 1) 0).1, .int .i64 (jFrom z1 z2 sE lim (n + 1) 0).2]) (.tup [.int .i64 va.1, .int .i64 va.2]) H' σ := fun va H' e h => by
    subst e
    exact kept_id rfl (by simp only [go_sem]) fun i x hx => ⟨row0 _ i x hx, h i x hx⟩
  have hgen : ∀ k, k ≤ n + 1 → (∀ i, i < k → brkA z1 z2 sE lim i = false) → jFrom z1 z2 sE lim (n + 1) 0 = jFrom z1 z2 sE lim (n + 1 - k) k := fun k hk h => by
    have := jFrom_at (z1 := z1) (z2 := z2) (sE := sE) (lim := lim) k (n + 1 - k) 0 fun i _ hi => h i (by omega)
    rw [Nat.zero_add] at this
    rw [← this]; congr 1; omega
  simp only [juR, stV] at hkept
  simp only [go_sem, juR, stV]
  refine rangeF 2000 (ρ := tsets 24 juT) (by simp [go_sem, juT]) (by simp only [go_sem, juT]; rfl)
    (mism_iter (r := 7) (jx := 0) (jy := 1) (js := 2) (jf := 3) (N := 8) (b1 := b1) (b2 := b2) h1.zs h2.zs hlm.symm hf hs
      (Pre := fun k H => (∀ i, i < k → brkA z1 z2 sE lim i = false) ∧ ∃ X, H = juH b1 b2 z1 z2 sE fr (jV z1 z2 sE lim k) (juL .ready none) X)
      (Stop := fun H => ∃ k X, k ≤ n ∧ brkA z1 z2 sE lim k = true ∧ (∀ i, i < k → brkA z1 z2 sE lim i = false) ∧ H = juH b1 b2 z1 z2 sE fr (2, sE - k) (juL .done (some .ret)) X)
      ⟨?_, ?_, ?_, ?_, ?_⟩ ⟨fun i h => absurd h (by omega), [], rfl⟩) (by simp) ?_
  · rintro i H ⟨_, X, rfl⟩
    exact ⟨by simp [juH], rfl, rfl, rfl, rfl⟩
  · rintro i H x ⟨h, X, rfl⟩
    exact ⟨h, X ++ [x], by simp [juH]⟩
  · rintro i H q x hq ⟨h, X, rfl⟩
    refine ⟨h, X.set (q - 8) x, ?_⟩
    unfold juH
    rw [List.set_append_right _ _ (by simp; omega)]; rfl
  · rintro H q x hq ⟨k, X, a1, a2, a3, rfl⟩
    refine ⟨k, X.set (q - 8) x, a1, a2, a3, ?_⟩
    unfold juH
    rw [List.set_append_right _ _ (by simp; omega)]; rfl
  · rintro k H hk ⟨hnb, X, rfl⟩
    have hk' : k ≤ n := by omega
    have eb : brkA z1 z2 sE lim k = (decide (sumD (mLo z1 z2) sE k > lim) || decide (sumD (mHi z1 z2) sE k < -lim)) := rfl
    have eh : holA z1 z2 sE lim k = (decide (sumD (mLo z1 z2) sE k ≥ -lim) && decide (sumD (mHi z1 z2) sE k ≤ lim)) := rfl
    have ev : jV z1 z2 sE lim (k + 1) = if (jV z1 z2 sE lim k).1 = 1 ∧ holA z1 z2 sE lim k = false then (3, sE - (k : Int)) else jV z1 z2 sE lim k := rfl
    have hnb' : brkA z1 z2 sE lim k = false → ∀ i, i < k + 1 → brkA z1 z2 sE lim i = false := fun h i hi => by
      by_cases e : i = k
      · rw [e]; exact h
      · exact hnb i (by omega)
    have kb := sBreaks_run (sumD (mLo z1 z2) sE k) (sumD (mHi z1 z2) sE k) lim (by omega)
    have kh := sHolds_run (sumD (mLo z1 z2) sE k) (sumD (mHi z1 z2) sE k) lim (by omega)
    rw [← eb] at kb
    rw [← eh] at kh
    generalize sumD (mLo z1 z2) sE k = lo at *
    generalize sumD (mHi z1 z2) sE k = hv at *
    generalize hbk : brkA z1 z2 sE lim k = bk at *
    generalize hhk : holA z1 z2 sE lim k = hk2 at *
    rw [ev]
    generalize jV z1 z2 sE lim k = va at *
    obtain ⟨ve, ae⟩ := va
    have ht1 : tabAt [(121, 167), (136, 169)] 121 = some 167 := rfl
    have ht2 : tabAt [(121, 168), (136, 170)] 121 = some 168 := rfl
    simp only [m3] at kb kh ⊢
    cases bk with
    | true =>
      refine RoundW.mono (R := fun w H' => w = .bool false ∧ ∃ Y, H' = juH b1 b2 z1 z2 sE fr (2, sE - k) (juL .done (some .ret)) (X ++ Y)) ?_ ?_
      rotate_left
      · rintro w H' ⟨rfl, Y, rfl⟩
        exact ⟨tail_keep rfl rfl, .inr ⟨rfl, k, _, hk', hbk, hnb, rfl⟩⟩
      generalize hR : (fun (w : AVal) (H' : Heap) => w = .bool false ∧ ∃ Y, H' = juH b1 b2 z1 z2 sE fr (2, sE - k) (juL .done (some .ret)) (X ++ Y)) = R
      have hfin : ∀ Y, R (.bool false) (juH b1 b2 z1 z2 sE fr (2, sE - k) (juL .done (some .ret)) (X ++ Y)) := fun Y => by rw [← hR]; exact ⟨rfl, Y, rfl⟩
      clear hR
      refine roundW_run 500 k_glass_judge_glass_mismatch_r9.eq_1 rfl rfl (ρ' := tsets 24 (juT ++ [(7, .int .i64 (sE - k)), (8, .agg [.int .i64 lo, .int .i64 hv, .int .i64 lim])])) rfl ?_
      simp only [go_sem, juT, juH, stV]
      refine roundMid_run 500 k_glass_judge_glass_mismatch_r10.eq_1 rfl rfl ?_
      simp only [go_sem, ht1]
      refine cP kb ?_
      simp only [go_sem]
      refine roundEnd_ret rfl ?_
      simp only [go_sem]
      simp only [juH, juL, juT, stV] at hfin
      exact hfin [_]
    | false =>
      refine RoundW.mono (R := fun w H' => w = .bool true ∧ ∃ Y, H' = juH b1 b2 z1 z2 sE fr (if ve = 1 ∧ hk2 = false then (3, sE - (k : Int)) else (ve, ae)) (juL .ready none) (X ++ Y)) ?_ ?_
      rotate_left
      · rintro w H' ⟨rfl, Y, rfl⟩
        exact ⟨tail_keep rfl rfl, .inl ⟨rfl, hnb' rfl, _, rfl⟩⟩
      generalize hR : (fun (w : AVal) (H' : Heap) => w = .bool true ∧ ∃ Y, H' = juH b1 b2 z1 z2 sE fr (if ve = 1 ∧ hk2 = false then (3, sE - (k : Int)) else (ve, ae)) (juL .ready none) (X ++ Y)) = R
      have hfin : ∀ Y, R (.bool true) (juH b1 b2 z1 z2 sE fr (if ve = 1 ∧ hk2 = false then (3, sE - (k : Int)) else (ve, ae)) (juL .ready none) (X ++ Y)) := fun Y => by rw [← hR]; exact ⟨rfl, Y, rfl⟩
      clear hR
      refine roundW_run 500 k_glass_judge_glass_mismatch_r9.eq_1 rfl rfl (ρ' := tsets 24 (juT ++ [(7, .int .i64 (sE - k)), (8, .agg [.int .i64 lo, .int .i64 hv, .int .i64 lim])])) rfl ?_
      simp only [go_sem, juT, juH, stV]
      refine roundMid_run 500 k_glass_judge_glass_mismatch_r10.eq_1 rfl rfl ?_
      simp only [go_sem, ht1]
      refine cP kb ?_
      by_cases hv1 : ve = 1
      · subst hv1
        have e1 : ((1 : Int) == 1) = true := rfl
        simp only [go_sem, e1, ht2]
        refine cP kh ?_
        cases hk2 with
        | true =>
          simp only [go_sem]
          refine roundEnd_on rfl ?_
          simp only [go_sem]
          simp only [juH, juL, juT, stV, Bool.true_eq_false, and_false, if_false] at hfin
          exact hfin [_]
        | false =>
          simp only [go_sem]
          refine roundEnd_on rfl ?_
          simp only [go_sem]
          simp only [juH, juL, juT, stV, and_self, if_true] at hfin
          exact hfin [_]
      · have e1 : (ve == 1) = false := beq_eq_false_iff_ne.2 hv1
        simp only [go_sem, e1]
        refine roundEnd_on rfl ?_
        simp only [go_sem]
        simp only [juH, juL, juT, stV, hv1, false_and, if_false] at hfin
        exact hfin [_]
  · rintro v H' ⟨rfl, ⟨hnb, X, rfl⟩ | ⟨k, X, a1, a2, a3, rfl⟩⟩
    · have hres := hgen (n + 1) (Nat.le_refl _) (fun i hi => hnb i (by rw [hn]; exact hi))
      rw [Nat.sub_self] at hres
      have hK := fun H' => hkept (jV z1 z2 sE lim (n + 1)) H' hres.symm
      refine ⟨fun q hq => by simp at hq; subst hq; rfl, _, _, _, _, _, _, _, rfl, by decide, ?_⟩
      rw [hn]
      generalize jV z1 z2 sE lim (n + 1) = va at *
      simp only [go_sem, juH, juT, stV]
      exact ⟨by simp, hK _ fun i x hx => by
        rcases i with _ | _ | _ | _ | i
        · exact hx
        · exact hx
        · exact hx
        · exact hx
        · simp at hx⟩
    · have hres := hgen k (by omega) a3
      have e9 : jFrom z1 z2 sE lim ((n - k) + 1) k = (2, sE - (k : Int)) := by
        show (if brkA z1 z2 sE lim k = true then _ else _) = _
        rw [if_pos a2]
      rw [show n + 1 - k = (n - k) + 1 by omega, e9] at hres
      have hK := fun H' => hkept (2, sE - k) H' hres.symm
      refine ⟨fun q hq => by simp at hq; subst hq; rfl, _, _, _, _, _, _, _, rfl, by decide, ?_⟩
      simp only [go_sem, juH, juT, stV]
      exact ⟨by simp, hK _ fun i x hx => by
        rcases i with _ | _ | _ | _ | i
        · exact hx
        · exact hx
        · exact hx
        · exact hx
        · simp at hx⟩
end Go.Proofs

namespace Go.Proofs
open Go Go.Sx
attribute [local irreducible] Run

section
variable {P : Program} {G : Ctx} {g : FuncId} {args largs : List AVal} {H : Heap} {r : AVal} {k : Nat} {R : Runner} {l : List AOper} {fs : List Sx.Frame} {ρ : List AVal} {ms : List Nat} {Q : Sx.Goal} {dst : Option Nat}
variable {x y z u : Row}
theorem cN4 (h : Ans P g args [] r [some x, some y, some z, some u]) (hK : R (.ops l) fs ⟨setD ρ dst (ren (fun i => H.length + i) r), H ++ [some x, some y, some z, some u], ms⟩ Q)
    (hb : Bels (fun _ => False) args := by simp only [go_sem]) (hr : Bel (· < 4) r := by simp [go_sem]) (hx : x.bel (fun _ => False) := by first | (simp only [go_sem]; done) | (rw [row_bel_cells]; simp only [go_sem])) (hy : y.bel (fun _ => False) := by first | (simp only [go_sem]; done) | (rw [row_bel_cells]; simp only [go_sem])) (hz : z.bel (fun _ => False) := by first | (simp only [go_sem]; done) | (rw [row_bel_cells]; simp only [go_sem])) (hu : u.bel (fun _ => False) := by first | (simp only [go_sem]; done) | (rw [row_bel_cells]; simp only [go_sem])) (hk : k ≤ H.length := by simp) (hms : ∀ q ∈ ms, H[q]? = some (some .dfr) := by simp) : CallR P G k R g args dst l fs ρ H ms Q := by
  have e : outΔ (outσ [] H.length) 0 [some x, some y, some z, some u] = [(H.length, x), (H.length + 1, y), (H.length + 2, z), (H.length + 3, u)] := by
    simp only [outΔ, Row.ren_same hx, Row.ren_same hy, Row.ren_same hz, Row.ren_same hu]
    rfl
  have eσ : outσ [] H.length = fun i => H.length + i := by funext i; simp [outσ]
  refine callS h [] (by simp) trivial (by
    conv => lhs; rw [← List.map_id args]
    exact List.map_congr_left fun v hv => (ren_same (bels_mem hb v hv)).symm) (bels_of fun v hv => (bels_mem hb v hv).mono fun _ h => h.elim) trivial (by simp) (by simpa using hr)
    ⟨bel_mono_row hx fun _ h => h.elim, bel_mono_row hy fun _ h => h.elim, bel_mono_row hz fun _ h => h.elim, bel_mono_row hu fun _ h => h.elim, trivial⟩ (fun q hq => by simp at hq) hk (fun q hq => ?_) ?_
  · refine ⟨?_, hms q hq⟩
    rw [e]
    have := (List.getElem?_eq_some_iff.1 (hms q hq)).1
    simp; omega
  · rw [e, eσ]
    have e3 : Heap.put (H ++ [some x]) (H.length + 1) y = H ++ [some x, some y] := by
      have := Heap.put_end (H ++ [some x]) y
      simpa using this
    have e4 : Heap.put (H ++ [some x, some y]) (H.length + 2) z = H ++ [some x, some y, some z] := by
      have := Heap.put_end (H ++ [some x, some y]) z
      simpa using this
    have e5 : Heap.put (H ++ [some x, some y, some z]) (H.length + 3) u = H ++ [some x, some y, some z, some u] := by
      have := Heap.put_end (H ++ [some x, some y, some z]) u
      simpa using this
    simp only [Heap.puts, Heap.put_end, e3, e4, e5]
    exact hK
theorem put_id {H : Heap} {j : Nat} {x : Row} (h : H[j]? = some (some x)) : H.put j x = H := by
  rw [put_lt (List.getElem?_eq_some_iff.1 h).1]
  refine List.ext_getElem? fun i => ?_
  by_cases e : j = i
  · subst e; rw [List.getElem?_set_self (List.getElem?_eq_some_iff.1 h).1, h]
  · rw [List.getElem?_set_ne e]
theorem cSame4 {x0 x1 x2 x3 : Row} {j0 j1 j2 j3 : Nat} (h : Ans P g largs [some x0, some x1, some x2, some x3] r [some x0, some x1, some x2, some x3]) (hargs : args = largs.map (ren (nth [j0, j1, j2, j3]))) (hb : Bels (· < 4) largs)
    (h0 : H[j0]? = some (some x0)) (h1 : H[j1]? = some (some x1)) (h2 : H[j2]? = some (some x2)) (h3 : H[j3]? = some (some x3)) (hx0 : x0.bel (fun _ => False)) (hx1 : x1.bel (fun _ => False)) (hx2 : x2.bel (fun _ => False)) (hx3 : x3.bel (fun _ => False)) (hn : [j0, j1, j2, j3].Nodup) (hr : Bel (fun _ => False) r)
    (hk : k ≤ H.length) (hms : ∀ q ∈ ms, q ∉ [j0, j1, j2, j3] ∧ H[q]? = some (some .dfr))
    (hK : R (.ops l) fs ⟨setD ρ dst r, H, ms⟩ Q) : CallR P G k R g args dst l fs ρ H ms Q := by
  have l0 := (List.getElem?_eq_some_iff.1 h0).1
  have l1 := (List.getElem?_eq_some_iff.1 h1).1
  have l2 := (List.getElem?_eq_some_iff.1 h2).1
  have l3 := (List.getElem?_eq_some_iff.1 h3).1
  have e : outΔ (outσ [j0, j1, j2, j3] H.length) 0 [some x0, some x1, some x2, some x3] = [(j0, x0), (j1, x1), (j2, x2), (j3, x3)] := by
    simp only [outΔ, Row.ren_same hx0, Row.ren_same hx1, Row.ren_same hx2, Row.ren_same hx3]
    rfl
  refine callS h [j0, j1, j2, j3] hn ⟨by rw [Row.ren_same hx0]; exact h0, by rw [Row.ren_same hx1]; exact h1, by rw [Row.ren_same hx2]; exact h2, by rw [Row.ren_same hx3]; exact h3, trivial⟩ hargs hb
    ⟨bel_mono_row hx0 fun _ h => h.elim, bel_mono_row hx1 fun _ h => h.elim, bel_mono_row hx2 fun _ h => h.elim, bel_mono_row hx3 fun _ h => h.elim, trivial⟩ (by simp) (hr.mono fun _ h => h.elim)
    ⟨bel_mono_row hx0 fun _ h => h.elim, bel_mono_row hx1 fun _ h => h.elim, bel_mono_row hx2 fun _ h => h.elim, bel_mono_row hx3 fun _ h => h.elim, trivial⟩ (by simp; omega) hk (fun q hq => ?_) ?_
  · rw [e]; exact ⟨by simpa using (hms q hq).1, (hms q hq).2⟩
  · rw [e, ren_same hr]
    simp only [Heap.puts, put_id h0, put_id h1, put_id h2, put_id h3]
    exact hK
end

theorem mismatches_run (b1 b2 : Int) (z1 z2 : List Zn) (a c : Int) : Ans Try.prog n_glass_mismatches [stV b1 z1, stV b2 z2, .int .i64 a, .int .i64 c] [] (.fn (.func n_glass_mismatches_1) [] [.ptr 0 0 0 1, .ptr 1 0 0 1, .ptr 2 0 0 1, .ptr 3 0 0 1]) (juR b1 b2 z1 z2 a c) := by
  refine spec_run e_glass_mismatches fun G => ?_
  simp only [go_sem, stV, juR]
  exact ⟨_, rfl⟩
def sealR (b1 b2 : Int) (z1 z2 : List Zn) (sE fr : Int) : Int × Int := jFrom z1 z2 sE (min b1 b2) ((sE - fr).toNat + 1) 0
theorem Seal_run {b1 b2 : Int} {z1 z2 : List Zn} (h1 : StOK b1 z1) (h2 : StOK b2 z2) {sE fr : Int} (hf : 0 ≤ fr ∧ fr ≤ sE) (hs : sE ≤ 2000) :
    Ans Try.prog n_glass_Seal [stV b1 z1, stV b2 z2, .int .i64 sE, .int .i64 fr] [] (.tup [.int .i64 (sealR b1 b2 z1 z2 sE fr).1, .int .i64 (sealR b1 b2 z1 z2 sE fr).2, .int .i64 0]) [] := by
  have k1 := checkSeal_yes h1 h2 (set := sE) (t := fr) (by omega) (by omega)
  have k2 := mismatches_run b1 b2 z1 z2 sE fr
  have k3 := judge_run h1 h2 hf hs
  have c1 : ¬ fr > sE := by omega
  unfold sealR
  generalize jFrom z1 z2 sE (min b1 b2) ((sE - fr).toNat + 1) 0 = RES at *
  refine spec_run e_glass_Seal fun G => ?_
  simp only [stV, juR] at k1 k2 k3
  simp only [go_sem, stV]
  refine cP k1 ?_
  simp only [go_sem, c1]
  have rb : ∀ (S : Nat → Prop) b z, (Row.cells false 2 [AVal.agg [AVal.int IntKind.i64 b, AVal.view (List.map Zn.v z)]]).bel S := fun S b z => by rw [row_bel_cells]; simp only [go_sem]
  have ib : ∀ (S : Nat → Prop) b, (Row.cells false 1 [AVal.int IntKind.i64 b]).bel S := fun S b => by rw [row_bel_cells]; simp only [go_sem]
  refine cN4 k2 ?_
  simp only [go_sem, ren, rens]
  refine cSame4 k3 (j0 := 2) (j1 := 3) (j2 := 4) (j3 := 5) rfl (by simp [go_sem]) rfl rfl rfl rfl (rb _ _ _) (rb _ _ _) (ib _ _) (ib _ _) (by decide) (by simp only [go_sem]) (by simp) (by simp) ?_
  simp only [go_sem]
end Go.Proofs

namespace Go.Proofs
open Go Go.Sx
attribute [local irreducible] Run

structure Lg where
  tk : Int
  ht : Int
  deriving Inhabited
def Lg.v (l : Lg) : AVal := .agg [.int .i64 l.tk, .int .i64 l.ht]
structure LgOK (l : Lg) : Prop where
  tk : 1 ≤ l.tk ∧ l.tk ≤ 2000
  ht : 0 ≤ l.ht ∧ l.ht ≤ 2000
@[go_sem] theorem lgs_bel (ls : List Lg) (S : Nat → Prop) : Bels S (ls.map Lg.v) = True := eq_true (bels_map _ _ fun z => by simp only [go_sem, Lg.v])
def ovV (f : Int) (ls : List Lg) : AVal := .agg [.int .i64 f, .view (ls.map Lg.v)]
structure OvOK (f : Int) (ls : List Lg) : Prop where
  f : 0 ≤ f ∧ f ≤ 2000
  len : ls.length ≤ 20
  all : ∀ l ∈ ls, LgOK l

theorem divideDown_run (a b : Int) (ha : -1000000000000 ≤ a ∧ a ≤ 1000000000000) (hb : 1 ≤ b ∧ b ≤ 1000000000000) : Ans Try.prog n_glass_divideDown [.int .i64 a, .int .i64 b] [] (.int .i64 (a / b)) [] := by
  have hb0 : b ≠ 0 := by omega
  have e1 := Int.tmod_add_mul_tdiv a b
  have e2 := Int.emod_add_mul_ediv a b
  have m1 := Int.emod_nonneg a hb0
  have m2 := Int.emod_lt_of_pos a (show 0 < b by omega)
  have m3 := Int.tmod_lt_of_pos a (show 0 < b by omega)
  have m4 := Int.lt_tmod_of_pos a (show 0 < b by omega)
  have key : (if a.tmod b < 0 then a.tdiv b - 1 else a.tdiv b) = a / b := by
    generalize a.tmod b = x at *
    generalize a % b = y at *
    generalize a.tdiv b = p at *
    generalize a / b = q at *
    have hpq : b * (p - q) = y - x := by rw [Int.mul_sub]; omega
    by_cases hx : x < 0
    · rw [if_pos hx]
      have h1 : 0 < p - q := by
        rcases Int.lt_or_le 0 (p - q) with h | h
        · exact h
        · have := Int.mul_nonpos_of_nonneg_of_nonpos (show 0 ≤ b by omega) h; omega
      have h2 : p - q < 2 := by
        rcases Int.lt_or_le (p - q) 2 with h | h
        · exact h
        · have := Int.mul_le_mul_of_nonneg_left h (show 0 ≤ b by omega); omega
      omega
    · rw [if_neg hx]
      have h1 : -1 < p - q := by
        rcases Int.lt_or_le (-1) (p - q) with h | h
        · exact h
        · have := Int.mul_le_mul_of_nonneg_left h (show 0 ≤ b by omega); omega
      have h2 : p - q < 1 := by
        rcases Int.lt_or_le (p - q) 1 with h | h
        · exact h
        · have := Int.mul_le_mul_of_nonneg_left h (show 0 ≤ b by omega); omega
      omega
  have bd : -1000000000001 ≤ a.tdiv b ∧ a.tdiv b ≤ 1000000000001 := by
    have h1 := Int.ediv_le_self b (show 0 ≤ a + 1000000000000 by omega)
    have h3 : a / b ≤ 1000000000000 := by
      refine Int.ediv_le_of_le_mul (by omega) ?_
      have := Int.mul_le_mul_of_nonneg_left hb.1 (show (0 : Int) ≤ 1000000000000 by omega); omega
    have h4 : -1000000000000 ≤ a / b := by
      refine (Int.le_ediv_iff_mul_le (by omega)).2 ?_
      have := Int.mul_le_mul_of_nonneg_left hb.1 (show (0 : Int) ≤ 1000000000000 by omega); omega
    split at key <;> omega
  refine spec_run e_glass_divideDown fun G => ?_
  by_cases hx : a.tmod b < 0
  · rw [if_pos hx] at key
    have w1 : IntKind.i64.wrap (a.tdiv b) = a.tdiv b := w64 (by omega)
    have w2 : IntKind.i64.wrap (a.tdiv b - 1) = a / b := by rw [w64 (by omega)]; exact key
    simp only [go_sem, hb0, hx, w1, w2]
  · rw [if_neg hx] at key
    have w1 : IntKind.i64.wrap (a.tdiv b) = a / b := by rw [w64 (by omega)]; exact key
    simp only [go_sem, hb0, hx, w1]

def toAt (b h tk : Int) (i : Nat) : Int := b + ((h - b) * i) / tk
theorem toAt_in {b h tk : Int} (hb : 0 ≤ b ∧ b ≤ 2000) (hh : 0 ≤ h ∧ h ≤ 2000) (ht : 1 ≤ tk) {i : Nat} (hi : (i : Int) ≤ tk) : 0 ≤ toAt b h tk i ∧ toAt b h tk i ≤ 2000 := by
  unfold toAt
  rcases Int.le_total b h with c | c
  · have h1 := Int.mul_le_mul_of_nonneg_left hi (show 0 ≤ h - b by omega)
    have h2 : 0 ≤ (h - b) * (i : Int) := Int.mul_nonneg (by omega) (by omega)
    have h3 : 0 ≤ (h - b) * (i : Int) / tk := Int.ediv_nonneg h2 (by omega)
    have h4 : (h - b) * (i : Int) / tk ≤ h - b := Int.ediv_le_of_le_mul (by omega) (by omega)
    omega
  · have h1 := Int.mul_le_mul_of_nonneg_left hi (show 0 ≤ b - h by omega)
    have h2 : 0 ≤ (b - h) * (i : Int) := Int.mul_nonneg (by omega) (by omega)
    have e : (h - b) * (i : Int) = -((b - h) * (i : Int)) := by rw [← Int.neg_mul]; congr 1; omega
    have e' : (b - h) * tk = -((h - b) * tk) := by rw [← Int.neg_mul]; congr 1; omega
    have h3 : h - b ≤ (h - b) * (i : Int) / tk := (Int.le_ediv_iff_mul_le (by omega)).2 (by omega)
    have h4 : (h - b) * (i : Int) / tk ≤ 0 := Int.ediv_le_of_le_mul (by omega) (by omega)
    omega
theorem toAt_zero (b h tk : Int) : toAt b h tk 0 = b := by unfold toAt; simp

structure Tk where
  n : Int
  f : Int
  t : Int
def legT (n b : Int) (l : Lg) : List Tk := (List.range l.tk.toNat).map fun i => ⟨n, toAt b l.ht l.tk i, toAt b l.ht l.tk (i + 1)⟩
def allT : Int → Int → List Lg → List Tk
  | _, _, [] => []
  | n, b, l :: r => legT n b l ++ allT (n + 1) l.ht r
def begAt (b : Int) (ls : List Lg) : Nat → Int
  | 0 => b
  | i + 1 => (ls.getD i default).ht
theorem legT_len (n b : Int) (l : Lg) : (legT n b l).length = l.tk.toNat := by simp [legT]
theorem legT_get (n b : Int) (l : Lg) {t : Nat} (h : t < l.tk.toNat) : (legT n b l)[t]? = some ⟨n, toAt b l.ht l.tk t, toAt b l.ht l.tk (t + 1)⟩ := by
  unfold legT; rw [List.getElem?_map, List.getElem?_range h]; rfl
theorem allT_next : ∀ (ls : List Lg) (n b : Int) (i : Nat) (l : Lg), ls[i]? = some l → allT n b (ls.take (i + 1)) = allT n b (ls.take i) ++ legT (n + i) (begAt b ls i) l
  | [], _, _, _, _, h => by simp at h
  | x :: r, n, b, 0, l, h => by simp at h; subst h; simp [allT, begAt]
  | x :: r, n, b, i + 1, l, h => by
    have h' : r[i]? = some l := by simpa using h
    have := allT_next r (n + 1) x.ht i l h'
    rw [List.take_succ_cons, List.take_succ_cons, allT, allT, this, List.append_assoc]
    congr 3
    · push_cast; omega
    · cases i with
      | zero => rfl
      | succ i => simp [begAt]
theorem allT_pre : ∀ (ls : List Lg) (n b : Int) (i : Nat), ∃ Y, allT n b ls = allT n b (ls.take i) ++ Y
  | [], n, b, i => ⟨[], by simp [allT]⟩
  | x :: r, n, b, 0 => ⟨_, by simp [allT]; rfl⟩
  | x :: r, n, b, i + 1 => by
    obtain ⟨Y, hY⟩ := allT_pre r (n + 1) x.ht i
    exact ⟨Y, by rw [List.take_succ_cons, allT, allT, hY, List.append_assoc]⟩
theorem allT_get {ls : List Lg} {n b : Int} {i t : Nat} {l : Lg} (h : ls[i]? = some l) (ht : t < l.tk.toNat) : (allT n b ls)[(allT n b (ls.take i)).length + t]? = some ⟨n + i, toAt (begAt b ls i) l.ht l.tk t, toAt (begAt b ls i) l.ht l.tk (t + 1)⟩ := by
  obtain ⟨Y, hY⟩ := allT_pre ls n b (i + 1)
  rw [hY, allT_next ls n b i l h, List.append_assoc, List.getElem?_append_right (by omega), Nat.add_sub_cancel_left, List.getElem?_append_left (by rw [legT_len]; exact ht)]
  exact legT_get _ _ _ ht
theorem allT_len {ls : List Lg} {n b : Int} {i : Nat} {l : Lg} (h : ls[i]? = some l) : (allT n b (ls.take (i + 1))).length = (allT n b (ls.take i)).length + l.tk.toNat := by
  rw [allT_next ls n b i l h, List.length_append, legT_len]
theorem begAt_in {f : Int} {ls : List Lg} (h : OvOK f ls) (i : Nat) (hi : i ≤ ls.length) : 0 ≤ begAt f ls i ∧ begAt f ls i ≤ 2000 := by
  cases i with
  | zero => exact h.f
  | succ i =>
    have hl : ls[i]? = some (ls.getD i default) := by rw [List.getD_eq_getElem?_getD, List.getElem?_eq_getElem (by omega)]; rfl
    exact (h.all _ (List.mem_of_getElem? hl)).ht
end Go.Proofs

namespace Go.Proofs
open Go Go.Sx
attribute [local irreducible] Run

def capS : Int := 1099511627776
theorem mul_bd {a b A B : Int} (ha : 0 ≤ a ∧ a ≤ A) (hb : 0 ≤ b ∧ b ≤ B) : 0 ≤ a * b ∧ a * b ≤ A * B :=
  ⟨Int.mul_nonneg ha.1 hb.1, Int.le_trans (Int.mul_le_mul_of_nonneg_right ha.2 hb.1) (Int.mul_le_mul_of_nonneg_left hb.2 (by omega))⟩
def leastL (x : Int) (z : Zn) : Int := x - (x * z.rhi + 999999) / 1000000
def mostL (x : Int) (z : Zn) : Int := x - x * z.rlo / 1000000
theorem left_in {x q m : Int} (hx : 0 ≤ x) (hq : 0 ≤ q ∧ q ≤ 1000000) (hm : 0 ≤ m ∧ m ≤ 999999) : 0 ≤ (x * q + m) / 1000000 ∧ (x * q + m) / 1000000 ≤ x := by
  have h1 := Int.mul_le_mul_of_nonneg_left hq.2 hx
  have h2 := Int.mul_nonneg hx hq.1
  omega
theorem leastL_in {x : Int} {z : Zn} (hx : 0 ≤ x) (hz : ZnOK z) : 0 ≤ leastL x z ∧ leastL x z ≤ x := by
  have := left_in (m := 999999) hx (q := z.rhi) (by have := hz.r; omega) (by omega)
  unfold leastL; omega
theorem mostL_in {x : Int} {z : Zn} (hx : 0 ≤ x) (hz : ZnOK z) : 0 ≤ mostL x z ∧ mostL x z ≤ x := by
  have := left_in (m := 0) hx (q := z.rlo) (by have := hz.r; omega) (by omega)
  unfold mostL; omega
theorem leastLeft_run {x : Int} {z : Zn} (hx : 0 ≤ x ∧ x ≤ capS) (hz : ZnOK z) : Ans Try.prog n_glass_leastLeft [.int .i64 x, z.v] [] (.int .i64 (leastL x z)) [] := by
  have hr := hz.r
  unfold capS at hx
  have hm := mul_bd hx (b := z.rhi) (B := 1000000) (by omega)
  have hl := leastL_in hx.1 hz
  unfold leastL at *
  have w1 : IntKind.i64.wrap (x * z.rhi) = x * z.rhi := w64 (by omega)
  have w2 : IntKind.i64.wrap (x * z.rhi + 1000000) = x * z.rhi + 1000000 := w64 (by omega)
  have w3 : IntKind.i64.wrap (x * z.rhi + 1000000 - 1) = x * z.rhi + 999999 := by rw [w64 (by omega)]; omega
  have w4 : (x * z.rhi + 999999).tdiv 1000000 = (x * z.rhi + 999999) / 1000000 := Int.tdiv_eq_ediv_of_nonneg (by omega)
  have w5 : IntKind.i64.wrap ((x * z.rhi + 999999) / 1000000) = (x * z.rhi + 999999) / 1000000 := w64 (by omega)
  have w6 : IntKind.i64.wrap (x - (x * z.rhi + 999999) / 1000000) = x - (x * z.rhi + 999999) / 1000000 := w64 (by omega)
  refine spec_run e_glass_leastLeft fun G => ?_
  simp only [go_sem, Zn.v, Zn.cs, w1, w2, w3, w4, w5, w6]
theorem mostLeft_run {x : Int} {z : Zn} (hx : 0 ≤ x ∧ x ≤ capS) (hz : ZnOK z) : Ans Try.prog n_glass_mostLeft [.int .i64 x, z.v] [] (.int .i64 (mostL x z)) [] := by
  have hr := hz.r
  unfold capS at hx
  have hm := mul_bd hx (b := z.rlo) (B := 1000000) (by omega)
  have hl := mostL_in hx.1 hz
  unfold mostL at *
  have w1 : IntKind.i64.wrap (x * z.rlo) = x * z.rlo := w64 (by omega)
  have w4 : (x * z.rlo).tdiv 1000000 = (x * z.rlo) / 1000000 := Int.tdiv_eq_ediv_of_nonneg (by omega)
  have w5 : IntKind.i64.wrap ((x * z.rlo) / 1000000) = (x * z.rlo) / 1000000 := w64 (by omega)
  have w6 : IntKind.i64.wrap (x - (x * z.rlo) / 1000000) = x - (x * z.rlo) / 1000000 := w64 (by omega)
  refine spec_run e_glass_mostLeft fun G => ?_
  simp only [go_sem, Zn.v, Zn.cs, w1, w4, w5, w6]

theorem relaxed_run {a b : Int} {z : Zn} (ha : 0 ≤ a ∧ a ≤ capS) (hb : 0 ≤ b ∧ b ≤ capS) (hz : ZnOK z) : Ans Try.prog n_glass_relaxed [r2 a b, z.v] [] (r2 (leastL a z) (mostL b z)) [] := by
  have k1 := leastLeft_run ha hz
  have k2 := mostLeft_run hb hz
  simp only [Zn.v, Zn.cs] at k1 k2
  refine spec_run e_glass_relaxed fun G => ?_
  simp only [go_sem, Zn.v, Zn.cs, r2]
  refine dP k1 ?_
  simp only [go_sem]
  refine cP k2 ?_
  simp only [go_sem]
theorem capped_run {a b : Int} (ha : 0 ≤ a ∧ a ≤ 1000000000000000) (hb : 0 ≤ b ∧ b ≤ 1000000000000000) : Ans Try.prog n_glass_capped [r2 a b] [] (r2 (min a capS) (min b capS)) [] := by
  have e : ∀ a : Int, (if capS < a then capS else a) = min a capS := fun a => by split <;> omega
  have e1 := e a
  have e2 := e b
  unfold capS at *
  refine spec_run e_glass_capped fun G => ?_
  simp only [go_sem, r2, e1, e2]
def wlV (brk : Int) (zs : List Zn) (th : Int) : AVal := .agg [.int .i64 brk, .view (zs.map Zn.v), .int .i64 th]
def Tk.v (t : Tk) : AVal := .agg [.int .i64 t.n, .int .i64 t.f, .int .i64 t.t]
structure TkOK (t : Tk) : Prop where
  f : 0 ≤ t.f ∧ t.f ≤ 2000
  t : 0 ≤ t.t ∧ t.t ≤ 2000
def addL (t : Tk) (z : Zn) (th : Int) : Int := max (t.f - t.t) (t.t - t.f) * th * z.glo / 100
def addH (t : Tk) (z : Zn) (th : Int) : Int := (max (t.f - t.t) (t.t - t.f) * th * z.ghi + 99) / 100
theorem pull_in {t : Tk} (ht : TkOK t) {th : Int} (hth : 1 ≤ th ∧ th ≤ 1000) : 0 ≤ max (t.f - t.t) (t.t - t.f) * th ∧ max (t.f - t.t) (t.t - t.f) * th ≤ 2000000 := by
  have h1 := ht.f
  have h2 := ht.t
  have := mul_bd (a := max (t.f - t.t) (t.t - t.f)) (A := 2000) (b := th) (B := 1000) (by omega) (by omega)
  omega
theorem add_in {t : Tk} (ht : TkOK t) {z : Zn} (hz : ZnOK z) {th : Int} (hth : 1 ≤ th ∧ th ≤ 1000) : 0 ≤ addL t z th ∧ addL t z th ≤ 2000000000 ∧ 0 ≤ addH t z th ∧ addH t z th ≤ 2000000000 := by
  have hp := pull_in ht hth
  have hg := hz.g
  have h1 := mul_bd hp (b := z.glo) (B := 100000) (by omega)
  have h2 := mul_bd hp (b := z.ghi) (B := 100000) (by omega)
  unfold addL addH
  omega
theorem added_run {brk : Int} {zs : List Zn} {th : Int} (hth : 1 ≤ th ∧ th ≤ 1000) {t : Tk} (ht : TkOK t) {z : Zn} (hz : ZnOK z) : Ans Try.prog n_glass_wall_added [wlV brk zs th, t.v, z.v] [] (r2 (addL t z th) (addH t z th)) [] := by
  have hp := pull_in ht hth
  have hg := hz.g
  have h1 := mul_bd hp (b := z.glo) (B := 100000) (by omega)
  have h2 := mul_bd hp (b := z.ghi) (B := 100000) (by omega)
  have t1 := ht.f
  have t2 := ht.t
  have a1 : IntKind.i64.wrap (t.f - t.t) = t.f - t.t := w64 (by omega)
  have a2 : IntKind.i64.wrap (t.t - t.f) = t.t - t.f := w64 (by omega)
  have a3 : (if t.t - t.f > t.f - t.t then t.t - t.f else t.f - t.t) = max (t.f - t.t) (t.t - t.f) := by split <;> omega
  unfold addL addH
  generalize max (t.f - t.t) (t.t - t.f) = pm at *
  obtain ⟨p, hpp⟩ : ∃ p, pm * th = p := ⟨_, rfl⟩
  rw [hpp] at hp h1 h2 ⊢
  have a4 : IntKind.i64.wrap (pm * th) = p := by rw [hpp]; exact w64 (by omega)
  have a5 : IntKind.i64.wrap (p * z.glo) = p * z.glo := w64 (by omega)
  have a6 : IntKind.i64.wrap (p * z.ghi) = p * z.ghi := w64 (by omega)
  have a7 : (p * z.glo).tdiv 100 = p * z.glo / 100 := Int.tdiv_eq_ediv_of_nonneg (by omega)
  have a8 : IntKind.i64.wrap (p * z.glo / 100) = p * z.glo / 100 := w64 (by omega)
  have a9 : IntKind.i64.wrap (p * z.ghi + 99) = p * z.ghi + 99 := w64 (by omega)
  have b1 : (p * z.ghi + 99).tdiv 100 = (p * z.ghi + 99) / 100 := Int.tdiv_eq_ediv_of_nonneg (by omega)
  have b2 : IntKind.i64.wrap ((p * z.ghi + 99) / 100) = (p * z.ghi + 99) / 100 := w64 (by omega)
  refine spec_run e_glass_wall_added fun G => ?_
  simp only [go_sem, wlV, Tk.v, Zn.v, Zn.cs, r2, a1, a2, a3, a4, a5, a6, a7, a8, a9, b1, b2]
theorem gticks_run (f : Int) (ls : List Lg) : Ans Try.prog n_glass_ticks [ovV f ls] [] (.fn (.func n_glass_ticks_1) [] [.ptr 0 0 0 1]) [some (.cells false 2 [ovV f ls])] := by
  refine spec_run e_glass_ticks fun G => ?_
  simp only [go_sem, ovV]
  exact ⟨_, rfl⟩
end Go.Proofs

namespace Go.Proofs
open Go Go.Sx
attribute [local irreducible] Run

def tkV (t : Tk) : AVal := .agg [.int .i64 t.n, .int .i64 t.f, .int .i64 t.t]
theorem mul_bd' {a b A B : Int} (ha : 0 ≤ a ∧ a ≤ A) (hb : 0 ≤ b ∧ b ≤ B) : 0 ≤ a * b ∧ a * b ≤ A * B :=
  ⟨Int.mul_nonneg ha.1 hb.1, Int.le_trans (Int.mul_le_mul_of_nonneg_right ha.2 hb.1) (Int.mul_le_mul_of_nonneg_left hb.2 (by omega))⟩
structure TBody (G : Ctx) (f : Int) (ls : List Lg) (r jo N : Nat) (Pre : Nat → Heap → Prop) (Stop : Heap → Prop) : Prop where
  row : ∀ i H, Pre i H → N ≤ H.length ∧ H[jo]? = some (some (.cells false 2 [ovV f ls]))
  grow : ∀ i H x, Pre i H → Pre i (H ++ [x])
  set : ∀ i H q x, N ≤ q → Pre i H → Pre i (H.set q x)
  round : ∀ i z H, (allT 0 f ls)[i]? = some z → Pre i H → RoundW Try.prog G r [tkV z] H fun v H' =>
    (H.length ≤ H'.length ∧ ∀ q, N ≤ q → q < H.length → H'[q]? = H[q]?) ∧ ((v = .bool true ∧ Pre (i + 1) H') ∨ (v = .bool false ∧ Stop H'))

set_option maxHeartbeats 4000000 in
set_option maxRecDepth 10000 in
theorem ticks_iter {G : Ctx} {f : Int} {ls : List Lg} (ho : OvOK f ls) {r jo N : Nat} {Pre : Nat → Heap → Prop} {Stop : Heap → Prop} (hB : TBody G f ls r jo N Pre Stop) {H0 : Heap} (h0 : Pre 0 H0) :
    CallW Try.prog G n_glass_ticks_1 [.yfn r, .ptr jo 0 0 1] H0 fun v H' => v = .tup [] ∧ (Pre (allT 0 f ls).length H' ∨ Stop H') := by
  have hlen := ho.len
  obtain ⟨hN0, hj0⟩ := hB.row 0 H0 h0
  have cj := cells_at hj0
  simp only [ovV] at cj
  refine callW_run 3000 e_glass_ticks_1 ?_
  simp only [go_sem, cj, ovV]
  refine loop_ind k_glass_ticks_1_r14.eq_1 (fun a : Nat × Heap => a.1 ≤ ls.length ∧ H0.length ≤ a.2.length ∧ Pre (allT 0 f (ls.take a.1)).length a.2) (fun a => ls.length - a.1)
    (fun a => (tsets 50 [(0, .yfn r), (1, .ptr jo 0 0 1), (3, .int .i64 (begAt f ls a.1)), (11, .view (ls.map Lg.v)), (12, .int .i64 ls.length), (13, .int .i64 a.1)], a.2)) (0, H0) ⟨Nat.zero_le _, Nat.le_refl _, h0⟩ (by simp [go_sem, begAt]) rfl ?_
  rintro ⟨i, H⟩ ⟨hi, hH0, hp⟩ ih
  dsimp only at hi hH0 hp ih ⊢
  by_cases h1 : i < ls.length
  · have h2 : (i : Int) < ls.length := by omega
    have n0 : ¬ (i : Int) < 0 := by omega
    obtain ⟨z, hz⟩ : ∃ z, ls[i]? = some z := ⟨_, List.getElem?_eq_getElem h1⟩
    have hzo := ho.all z (List.mem_of_getElem? hz)
    have hzt := hzo.tk
    have hzh := hzo.ht
    have hb := begAt_in ho i (by omega)
    have hb1 : begAt f ls (i + 1) = z.ht := by simp [begAt, List.getD_eq_getElem?_getD, hz]
    have hlt := fun t => allT_get (n := 0) (b := f) (t := t) hz
    have hln := allT_len (n := 0) (b := f) hz
    have h3 : IntKind.i64.wrap ((i : Int) + 1) = ((i + 1 : Nat) : Int) := by rw [w64 (by omega)]; rfl
    rw [Int.zero_add] at hlt
    generalize hbe : begAt f ls i = b at *
    generalize hA : (allT 0 f (ls.take i)).length = A at *
    simp only [go_sem, h2, n0, hz, Lg.v, cells_end, get_end, put_at_end]
    generalize hq : H.length = q at *
    have hI : H0.length ≤ (H ++ [some (Row.cells false 2 [AVal.agg [AVal.int IntKind.i64 z.tk, AVal.int IntKind.i64 z.ht]]), some (Row.cells false 3 [AVal.agg [AVal.int IntKind.i64 i, AVal.int IntKind.i64 0, AVal.int IntKind.i64 b]])]).length ∧
        (H ++ [some (Row.cells false 2 [AVal.agg [AVal.int IntKind.i64 z.tk, AVal.int IntKind.i64 z.ht]]), some (Row.cells false 3 [AVal.agg [AVal.int IntKind.i64 i, AVal.int IntKind.i64 0, AVal.int IntKind.i64 b]])])[q]? = some (some (Row.cells false 2 [AVal.agg [AVal.int IntKind.i64 z.tk, AVal.int IntKind.i64 z.ht]])) ∧
        (∃ x, (H ++ [some (Row.cells false 2 [AVal.agg [AVal.int IntKind.i64 z.tk, AVal.int IntKind.i64 z.ht]]), some (Row.cells false 3 [AVal.agg [AVal.int IntKind.i64 i, AVal.int IntKind.i64 0, AVal.int IntKind.i64 b]])])[q + 1]? = some (some (Row.cells false 3 [AVal.agg [AVal.int IntKind.i64 i, AVal.int IntKind.i64 x, AVal.int IntKind.i64 (toAt b z.ht z.tk 0)]]))) ∧
        Pre (A + 0) (H ++ [some (Row.cells false 2 [AVal.agg [AVal.int IntKind.i64 z.tk, AVal.int IntKind.i64 z.ht]]), some (Row.cells false 3 [AVal.agg [AVal.int IntKind.i64 i, AVal.int IntKind.i64 0, AVal.int IntKind.i64 b]])]) := by
      refine ⟨by simp; omega, ?_, ⟨0, ?_⟩, ?_⟩
      · rw [List.getElem?_append_right (by omega), hq, Nat.sub_self]; rfl
      · rw [toAt_zero, List.getElem?_append_right (by omega), hq, show q + 1 - q = 1 by omega]; rfl
      · have := hB.grow _ _ (some (Row.cells false 3 [AVal.agg [AVal.int IntKind.i64 i, AVal.int IntKind.i64 0, AVal.int IntKind.i64 b]])) (hB.grow _ _ (some (Row.cells false 2 [AVal.agg [AVal.int IntKind.i64 z.tk, AVal.int IntKind.i64 z.ht]])) hp)
        simpa using this
    generalize (H ++ [some (Row.cells false 2 [AVal.agg [AVal.int IntKind.i64 z.tk, AVal.int IntKind.i64 z.ht]]), some (Row.cells false 3 [AVal.agg [AVal.int IntKind.i64 i, AVal.int IntKind.i64 0, AVal.int IntKind.i64 b]])] : Heap) = K0 at *
    obtain ⟨i1, i2, i3, i4⟩ := hI
    refine loop_ind k_glass_ticks_1_r11.eq_1 (fun a : Nat × Heap => a.1 ≤ z.tk.toNat ∧ H0.length ≤ a.2.length ∧ a.2[q]? = some (some (Row.cells false 2 [AVal.agg [AVal.int IntKind.i64 z.tk, AVal.int IntKind.i64 z.ht]])) ∧ (∃ x, a.2[q + 1]? = some (some (Row.cells false 3 [AVal.agg [AVal.int IntKind.i64 i, AVal.int IntKind.i64 x, AVal.int IntKind.i64 (toAt b z.ht z.tk a.1)]]))) ∧ Pre (A + a.1) a.2) (fun a => z.tk.toNat - a.1)
      (fun a => (tsets 50 [(0, .yfn r), (1, .ptr jo 0 0 1), (3, .int .i64 b), (5, .ptr q 0 0 1), (6, .ptr (q + 1) 0 0 1), (11, .view (ls.map Lg.v)), (12, .int .i64 ls.length), (13, .int .i64 i), (22, .int .i64 z.tk), (23, .int .i64 a.1)], a.2))
      (0, K0) ⟨Nat.zero_le _, i1, i2, i3, i4⟩ (by simp [go_sem]) rfl ?_
    rintro ⟨k, J⟩ ⟨hk, hJ0, hJq, ⟨x, hJt⟩, hpj⟩ ih2
    dsimp only at hk hJ0 hJq hJt hpj ih2 ⊢
    have cq := cells_at hJq
    have ct := cells_at hJt
    by_cases h4 : k < z.tk.toNat
    · have h5 : (k : Int) < z.tk := by omega
      have t0 := toAt_in hb hzh hzt.1 (i := k) (by omega)
      have t1 := toAt_in hb hzh hzt.1 (i := k + 1) (by omega)
      have f1 := hlt k h4
      have m1 : -4000000 ≤ (z.ht - b) * ((k : Int) + 1) ∧ (z.ht - b) * ((k : Int) + 1) ≤ 4000000 := by
        rcases Int.le_total b z.ht with c | c
        · have := mul_bd' (a := z.ht - b) (b := (k : Int) + 1) (A := 2000) (B := 2000) (by omega) (by omega); omega
        · have := mul_bd' (a := b - z.ht) (b := (k : Int) + 1) (A := 2000) (B := 2000) (by omega) (by omega)
          have e : (z.ht - b) * ((k : Int) + 1) = -((b - z.ht) * ((k : Int) + 1)) := by rw [← Int.neg_mul]; congr 1; omega
          omega
      have w1 : IntKind.i64.wrap (z.ht - b) = z.ht - b := w64 (by omega)
      have w2 : IntKind.i64.wrap ((k : Int) + 1) = (k : Int) + 1 := w64 (by omega)
      have w3 : IntKind.i64.wrap ((z.ht - b) * ((k : Int) + 1)) = (z.ht - b) * ((k : Int) + 1) := w64 (by omega)
      have dd := divideDown_run ((z.ht - b) * ((k : Int) + 1)) z.tk (by omega) (by omega)
      have et : b + (z.ht - b) * ((k : Int) + 1) / z.tk = toAt b z.ht z.tk (k + 1) := by unfold toAt; push_cast; rfl
      have w4 : IntKind.i64.wrap (b + (z.ht - b) * ((k : Int) + 1) / z.tk) = toAt b z.ht z.tk (k + 1) := by rw [et]; exact w64 (by omega)
      simp only [go_sem, h5, cq, ct, w1, w2, w3]
      refine dP dd ?_
      have lt1 : q + 1 < J.length := (List.getElem?_eq_some_iff.1 hJt).1
      have pu := fun x => put_lt (H := J) (x := x) lt1
      have gs := fun l => cells_at (H := J.set (q + 1) (some (.cells false 3 l))) (List.getElem?_set_self lt1)
      have pu2 := fun l y => put_lt (H := J.set (q + 1) (some (.cells false 3 l))) (x := y) (j := q + 1) (by rw [List.length_set]; exact lt1)
      simp only [go_sem, w4, ct, pu, gs, pu2, List.set_set]
      have hp2 := hB.set _ _ (q + 1) (some (Row.cells false 3 [AVal.agg [AVal.int IntKind.i64 i, AVal.int IntKind.i64 (toAt b z.ht z.tk k), AVal.int IntKind.i64 (toAt b z.ht z.tk (k + 1))]])) (by omega) hpj
      have hMt : (J.set (q + 1) (some (Row.cells false 3 [AVal.agg [AVal.int IntKind.i64 i, AVal.int IntKind.i64 (toAt b z.ht z.tk k), AVal.int IntKind.i64 (toAt b z.ht z.tk (k + 1))]])))[q + 1]? = some (some (Row.cells false 3 [AVal.agg [AVal.int IntKind.i64 i, AVal.int IntKind.i64 (toAt b z.ht z.tk k), AVal.int IntKind.i64 (toAt b z.ht z.tk (k + 1))]])) := List.getElem?_set_self lt1
      have hMq : (J.set (q + 1) (some (Row.cells false 3 [AVal.agg [AVal.int IntKind.i64 i, AVal.int IntKind.i64 (toAt b z.ht z.tk k), AVal.int IntKind.i64 (toAt b z.ht z.tk (k + 1))]])))[q]? = some (some (Row.cells false 2 [AVal.agg [AVal.int IntKind.i64 z.tk, AVal.int IntKind.i64 z.ht]])) := by rw [List.getElem?_set_ne (by omega)]; exact hJq
      have hMl : (J.set (q + 1) (some (Row.cells false 3 [AVal.agg [AVal.int IntKind.i64 i, AVal.int IntKind.i64 (toAt b z.ht z.tk k), AVal.int IntKind.i64 (toAt b z.ht z.tk (k + 1))]]))).length = J.length := List.length_set
      generalize (J.set (q + 1) (some (Row.cells false 3 [AVal.agg [AVal.int IntKind.i64 i, AVal.int IntKind.i64 (toAt b z.ht z.tk k), AVal.int IntKind.i64 (toAt b z.ht z.tk (k + 1))]])) : Heap) = M at *
      clear gs pu pu2
      have hrd := hB.round _ _ M f1 hp2
      simp only [tkV] at hrd
      refine yieldR _ rfl rfl (by simp [go_sem]) (by simp [go_sem]) (by omega) ?_
      refine hrd.mono ?_
      rintro v S ⟨⟨q1, q2⟩, ⟨rfl, q3⟩ | ⟨rfl, q3⟩⟩
      · refine ⟨fun q hq => by simp at hq, ?_⟩
        simp only [go_sem, w2]
        refine ih2 (k + 1, S) (by dsimp only; omega) ⟨h4, by dsimp only; omega, by dsimp only; rw [q2 q (by omega) (by omega)]; exact hMq, ⟨toAt b z.ht z.tk k, by dsimp only; rw [q2 (q + 1) (by omega) (by omega)]; exact hMt⟩, by dsimp only; rw [← Nat.add_assoc]; exact q3⟩ _ (by simp [go_sem])
      · refine ⟨fun q hq => by simp at hq, ?_⟩
        simp only [go_sem]
        exact .inr q3
    · have h5 : ¬ (k : Int) < z.tk := by omega
      have hte : k = z.tk.toNat := by omega
      simp only [go_sem, h5, cq, h3]
      refine ih (i + 1, J) (by dsimp only; omega) ⟨h1, hJ0, by dsimp only; rw [hln]; simpa [hte] using hpj⟩ _ ?_
      rw [hb1]
      simp [go_sem]
  · have h2 : ¬ (i : Int) < ls.length := by omega
    simp only [go_sem, h2]
    rw [List.take_of_length_le (by omega)] at hp
    exact .inl hp
end Go.Proofs

namespace Go.Proofs
open Go Go.Sx
attribute [local irreducible] Run

theorem legT_ok {n b : Int} (hb : 0 ≤ b ∧ b ≤ 2000) {l : Lg} (hl : LgOK l) : ∀ t ∈ legT n b l, TkOK t := by
  intro t ht
  unfold legT at ht
  obtain ⟨i, hi, rfl⟩ := List.mem_map.1 ht
  have hi' := List.mem_range.1 hi
  have := hl.tk
  exact ⟨toAt_in hb hl.ht (by omega) (by omega), toAt_in (i := i + 1) hb hl.ht (by omega) (by omega)⟩
theorem allT_ok : ∀ {ls : List Lg} {n b : Int}, 0 ≤ b ∧ b ≤ 2000 → (∀ l ∈ ls, LgOK l) → ∀ t ∈ allT n b ls, TkOK t
  | [], _, _, _, _, t, ht => by simp [allT] at ht
  | l :: r, n, b, hb, h, t, ht => by
    rw [allT] at ht
    have hl := h l List.mem_cons_self
    rcases List.mem_append.1 ht with h1 | h1
    · exact legT_ok hb hl t h1
    · exact allT_ok hl.ht (fun x hx => h x (List.mem_cons_of_mem _ hx)) t h1

def stepS (zs : List Zn) (th : Int) (p : Int × Int) (t : Tk) : Int × Int :=
  (min (leastL p.1 (zAt zs t.t) + addL t (zAt zs t.t) th) capS, min (mostL p.2 (zAt zs t.t) + addH t (zAt zs t.t) th) capS)
def stAt (zs : List Zn) (th : Int) (ts : List Tk) (i : Nat) : Int × Int := (ts.take i).foldl (stepS zs th) (0, 0)
theorem stAt_succ {zs : List Zn} {th : Int} {ts : List Tk} {i : Nat} {t : Tk} (h : ts[i]? = some t) : stAt zs th ts (i + 1) = stepS zs th (stAt zs th ts i) t := by
  unfold stAt
  rw [List.take_add_one, h, Option.toList_some, List.foldl_append]
  rfl
theorem zAt_ok {zs : List Zn} (hz : ZsOK zs) (t : Int) : ZnOK (zAt zs t) := hz.all _ (zAt_mem t (fun h => by have := hz.len; rw [h] at this; simp at this))
theorem stepS_in {zs : List Zn} (hz : ZsOK zs) {th : Int} (hth : 1 ≤ th ∧ th ≤ 1000) {p : Int × Int} (hp : 0 ≤ p.1 ∧ p.1 ≤ capS ∧ 0 ≤ p.2 ∧ p.2 ≤ capS) {t : Tk} (ht : TkOK t) :
    0 ≤ (stepS zs th p t).1 ∧ (stepS zs th p t).1 ≤ capS ∧ 0 ≤ (stepS zs th p t).2 ∧ (stepS zs th p t).2 ≤ capS := by
  have ho := zAt_ok hz t.t
  have h1 := leastL_in hp.1 ho
  have h2 := mostL_in hp.2.2.1 ho
  have h3 := add_in ht ho hth
  simp only [stepS]
  unfold capS at *
  omega
theorem foldS_in {zs : List Zn} (hz : ZsOK zs) {th : Int} (hth : 1 ≤ th ∧ th ≤ 1000) : ∀ (ts : List Tk) (p : Int × Int), (0 ≤ p.1 ∧ p.1 ≤ capS ∧ 0 ≤ p.2 ∧ p.2 ≤ capS) → (∀ t ∈ ts, TkOK t) →
    0 ≤ (ts.foldl (stepS zs th) p).1 ∧ (ts.foldl (stepS zs th) p).1 ≤ capS ∧ 0 ≤ (ts.foldl (stepS zs th) p).2 ∧ (ts.foldl (stepS zs th) p).2 ≤ capS
  | [], _, hp, _ => hp
  | t :: r, p, hp, h => foldS_in hz hth r _ (stepS_in hz hth hp (h t List.mem_cons_self)) fun x hx => h x (List.mem_cons_of_mem _ hx)
theorem stAt_in {zs : List Zn} (hz : ZsOK zs) {th : Int} (hth : 1 ≤ th ∧ th ≤ 1000) {ts : List Tk} (h : ∀ t ∈ ts, TkOK t) (i : Nat) :
    0 ≤ (stAt zs th ts i).1 ∧ (stAt zs th ts i).1 ≤ capS ∧ 0 ≤ (stAt zs th ts i).2 ∧ (stAt zs th ts i).2 ≤ capS :=
  foldS_in hz hth _ _ (by simp [capS]) fun t ht => h t (List.mem_of_mem_take ht)

structure SBody (G : Ctx) (brk : Int) (zs : List Zn) (th f : Int) (ls : List Lg) (r jo jw N : Nat) (Pre : Nat → Heap → Prop) (Stop : Heap → Prop) : Prop where
  row : ∀ i H, Pre i H → N ≤ H.length ∧ H[jo]? = some (some (.cells false 2 [ovV f ls])) ∧ H[jw]? = some (some (.cells false 3 [wlV brk zs th]))
  grow : ∀ i H x, Pre i H → Pre i (H ++ [x])
  set : ∀ i H q x, N ≤ q → Pre i H → Pre i (H.set q x)
  halt : ∀ H q x, N ≤ q → Stop H → Stop (H.set q x)
  round : ∀ i t H, (allT 0 f ls)[i]? = some t → Pre i H → RoundW Try.prog G r [.int .i64 t.n, r2 (stAt zs th (allT 0 f ls) (i + 1)).1 (stAt zs th (allT 0 f ls) (i + 1)).2] H fun v H' =>
    (H.length ≤ H'.length ∧ ∀ q, N ≤ q → q < H.length → H'[q]? = H[q]?) ∧ ((v = .bool true ∧ Pre (i + 1) H') ∨ (v = .bool false ∧ Stop H'))

def siT (m jw : Nat) : List (Nat × AVal) := [(2, .ptr jw 0 0 1), (3, .ptr m 0 0 1), (4, .ptr (m + 1) 0 0 1), (8, .fn (.func n_glass_ticks_1) [] [.ptr (m + 2) 0 0 1])]
def siL (m jw : Nat) (st : LoopState) (pe : Option ACode) : Row := .loop (tsets 30 (siT m jw)) [9] k_glass_wall_strains_1_r7 k_glass_wall_strains_1_r8 (m + 3) st pe
structure SiH (f : Int) (ls : List Lg) (p : Int × Int) (r m : Nat) (lr : Row) (J : Heap) : Prop where
  len : m + 5 ≤ J.length
  y : J[m]? = some (some (.cells false 1 [.yfn r]))
  acc : J[m + 1]? = some (some (.cells false 2 [r2 p.1 p.2]))
  o : J[m + 2]? = some (some (.cells false 2 [ovV f ls]))
  d : J[m + 3]? = some (some .dfr)
  l : J[m + 4]? = some (some lr)
section
variable {f : Int} {ls : List Lg} {p : Int × Int} {r m : Nat} {lr : Row} {J K : Heap}
theorem SiH.mono (h : SiH f ls p r m lr J) (hl : J.length ≤ K.length) (hk : ∀ q, m ≤ q → q < J.length → K[q]? = J[q]?) : SiH f ls p r m lr K :=
  have h1 := h.len
  ⟨by omega, by rw [hk _ (by omega) (by omega)]; exact h.y, by rw [hk _ (by omega) (by omega)]; exact h.acc, by rw [hk _ (by omega) (by omega)]; exact h.o,
    by rw [hk _ (by omega) (by omega)]; exact h.d, by rw [hk _ (by omega) (by omega)]; exact h.l⟩
theorem SiH.off (h : SiH f ls p r m lr J) {q : Nat} (hq : m + 5 ≤ q) (x : Option Row) : SiH f ls p r m lr (J.set q x) :=
  ⟨by rw [List.length_set]; exact h.len, by rw [List.getElem?_set_ne (by omega)]; exact h.y, by rw [List.getElem?_set_ne (by omega)]; exact h.acc, by rw [List.getElem?_set_ne (by omega)]; exact h.o,
    by rw [List.getElem?_set_ne (by omega)]; exact h.d, by rw [List.getElem?_set_ne (by omega)]; exact h.l⟩
theorem SiH.setA (h : SiH f ls p r m lr J) (p' : Int × Int) : SiH f ls p' r m lr (J.set (m + 1) (some (.cells false 2 [r2 p'.1 p'.2]))) :=
  have h1 := h.len
  ⟨by rw [List.length_set]; exact h.len, by rw [List.getElem?_set_ne (by omega)]; exact h.y, List.getElem?_set_self (by omega), by rw [List.getElem?_set_ne (by omega)]; exact h.o,
    by rw [List.getElem?_set_ne (by omega)]; exact h.d, by rw [List.getElem?_set_ne (by omega)]; exact h.l⟩
theorem SiH.setL (h : SiH f ls p r m lr J) (x : Row) : SiH f ls p r m x (J.set (m + 4) (some x)) :=
  have h1 := h.len
  ⟨by rw [List.length_set]; exact h.len, by rw [List.getElem?_set_ne (by omega)]; exact h.y, by rw [List.getElem?_set_ne (by omega)]; exact h.acc, by rw [List.getElem?_set_ne (by omega)]; exact h.o,
    by rw [List.getElem?_set_ne (by omega)]; exact h.d, List.getElem?_set_self (by omega)⟩
end

set_option maxHeartbeats 4000000 in
set_option maxRecDepth 10000 in
theorem strains_iter {G : Ctx} {brk : Int} {zs : List Zn} (hz : ZsOK zs) {th : Int} (hth : 1 ≤ th ∧ th ≤ 1000) {f : Int} {ls : List Lg} (ho : OvOK f ls) {r jo jw N : Nat} {Pre : Nat → Heap → Prop} {Stop : Heap → Prop} (hB : SBody G brk zs th f ls r jo jw N Pre Stop) {H0 : Heap} (h0 : Pre 0 H0) :
    CallW Try.prog G n_glass_wall_strains_1 [.yfn r, .ptr jo 0 0 1, .ptr jw 0 0 1] H0 fun v H' => v = .tup [] ∧ (Pre (allT 0 f ls).length H' ∨ Stop H') := by
  obtain ⟨hN, hjo, hjw⟩ := hB.row 0 H0 h0
  have co := fun Y => cells_more (cells_at hjo) Y
  simp only [ovV] at co
  have htk := allT_ok (n := 0) ho.f ho.all
  have gt := gticks_run f ls
  simp only [ovV] at gt
  refine callW_run 3000 e_glass_wall_strains_1 ?_
  simp only [go_sem, co]
  refine cN1 gt ?_
  simp only [go_sem, ren, rens]
  generalize hm : H0.length = m at *
  have hl0 : (H0 ++ [some (Row.cells false 1 [AVal.yfn r]), some (Row.cells false 2 [AVal.agg [AVal.int IntKind.i64 0, AVal.int IntKind.i64 0]]), some (Row.cells false 2 [AVal.agg [AVal.int IntKind.i64 f, AVal.view (List.map Lg.v ls)]])]).length = m + 3 := by simp [hm]
  have hL : Pre 0 (H0 ++ [some (Row.cells false 1 [AVal.yfn r]), some (Row.cells false 2 [AVal.agg [AVal.int IntKind.i64 0, AVal.int IntKind.i64 0]]), some (Row.cells false 2 [AVal.agg [AVal.int IntKind.i64 f, AVal.view (List.map Lg.v ls)]])] ++ [some .dfr] ++ [some (siL m jw .ready none)]) := by
    have := hB.grow _ _ (some (siL m jw .ready none)) (hB.grow _ _ (some .dfr) (hB.grow _ _ (some (Row.cells false 2 [AVal.agg [AVal.int IntKind.i64 f, AVal.view (List.map Lg.v ls)]])) (hB.grow _ _ (some (Row.cells false 2 [AVal.agg [AVal.int IntKind.i64 0, AVal.int IntKind.i64 0]])) (hB.grow _ _ (some (Row.cells false 1 [AVal.yfn r])) h0))))
    simpa using this
  have hSi : SiH f ls (stAt zs th (allT 0 f ls) 0) r m (siL m jw .ready none) (H0 ++ [some (Row.cells false 1 [AVal.yfn r]), some (Row.cells false 2 [AVal.agg [AVal.int IntKind.i64 0, AVal.int IntKind.i64 0]]), some (Row.cells false 2 [AVal.agg [AVal.int IntKind.i64 f, AVal.view (List.map Lg.v ls)]])] ++ [some .dfr] ++ [some (siL m jw .ready none)]) := by
    have ea : ∀ (x y z u w : Option Row), H0 ++ [x, y, z] ++ [u] ++ [w] = H0 ++ [x, y, z, u, w] := fun x y z u w => by simp
    rw [ea]
    have new : ∀ (j : Nat) (Y : Heap), (H0 ++ Y)[m + j]? = Y[j]? := fun j Y => by
      rw [List.getElem?_append_right (by omega), hm, Nat.add_sub_cancel_left]
    exact ⟨by simp [hm], by have := new 0; rw [Nat.add_zero] at this; rw [this]; rfl, by rw [new 1]; rfl, by rw [new 2]; rfl, by rw [new 3]; rfl, by rw [new 4]; rfl⟩
  have hit : CallW Try.prog G n_glass_ticks_1 [.yfn (m + 4), .ptr (m + 2) 0 0 1] (H0 ++ [some (Row.cells false 1 [AVal.yfn r]), some (Row.cells false 2 [AVal.agg [AVal.int IntKind.i64 0, AVal.int IntKind.i64 0]]), some (Row.cells false 2 [AVal.agg [AVal.int IntKind.i64 f, AVal.view (List.map Lg.v ls)]])] ++ [some .dfr] ++ [some (siL m jw .ready none)]) fun v J => v = .tup [] ∧
      ((Pre (allT 0 f ls).length J ∧ SiH f ls (stAt zs th (allT 0 f ls) (allT 0 f ls).length) r m (siL m jw .ready none) J) ∨ Stop J ∧ ∃ p, SiH f ls p r m (siL m jw .done (some .ret)) J) := by
    refine ticks_iter (r := m + 4) (jo := m + 2) (N := m + 5) ho
      (Pre := fun i J => Pre i J ∧ SiH f ls (stAt zs th (allT 0 f ls) i) r m (siL m jw .ready none) J)
      (Stop := fun J => Stop J ∧ ∃ p, SiH f ls p r m (siL m jw .done (some .ret)) J) ⟨?_, ?_, ?_, ?_⟩ ⟨hL, hSi⟩
    · rintro i J ⟨_, h⟩
      exact ⟨h.len, h.o⟩
    · rintro i J x ⟨h3, h4⟩
      exact ⟨hB.grow _ _ _ h3, h4.mono (by simp) fun q _ hq => List.getElem?_append_left hq⟩
    · rintro i J q x hq ⟨h3, h4⟩
      exact ⟨hB.set _ _ _ _ (by omega) h3, h4.off hq x⟩
    · rintro i t J hi ⟨hp3, hd⟩
      have hts := htk t (List.mem_of_getElem? hi)
      have htt := hts.t
      have hrd := hB.round i t
      rw [stAt_succ hi] at hrd ⊢
      have hpi := stAt_in hz hth htk i
      have zo := zoneOf_run brk hz htt
      have hzo := zAt_ok hz t.t
      generalize stAt zs th (allT 0 f ls) i = p at *
      have es : stepS zs th p t = (min (leastL p.1 (zAt zs t.t) + addL t (zAt zs t.t) th) capS, min (mostL p.2 (zAt zs t.t) + addH t (zAt zs t.t) th) capS) := rfl
      generalize stepS zs th p t = p' at *
      generalize zAt zs t.t = z at *
      have l1 := leastL_in hpi.1 hzo
      have l2 := mostL_in hpi.2.2.1 hzo
      have l3 := add_in hts hzo hth
      have hcs : capS = 1099511627776 := rfl
      have kr := relaxed_run (a := p.1) (b := p.2) ⟨hpi.1, hpi.2.1⟩ ⟨hpi.2.2.1, hpi.2.2.2⟩ hzo
      have ka := added_run (brk := brk) (zs := zs) hth hts hzo
      have kp := plus_run (leastL p.1 z) (mostL p.2 z) (addL t z th) (addH t z th) (by omega)
      have kc := capped_run (a := leastL p.1 z + addL t z th) (b := mostL p.2 z + addH t z th) (by omega) (by omega)
      generalize leastL p.1 z = u1 at *
      generalize mostL p.2 z = u2 at *
      generalize addL t z th = u3 at *
      generalize addH t z th = u4 at *
      have ep1 : min (u1 + u3) capS = p'.1 := by rw [es]
      have ep2 : min (u2 + u4) capS = p'.2 := by rw [es]
      rw [ep1, ep2] at kc
      clear es
      have hdl := hd.len
      refine RoundW.mono (R := fun v J' => ((v = .bool true ∧ Pre (i + 1) J' ∧ SiH f ls p' r m (siL m jw .ready none) J') ∨ (v = .bool false ∧ Stop J' ∧ ∃ p, SiH f ls p r m (siL m jw .done (some .ret)) J')) ∧ J.length ≤ J'.length ∧ ∀ q, m + 5 ≤ q → q < J.length → J'[q]? = J[q]?) ?_ ?_
      rotate_left
      · rintro v J' ⟨h3, h4⟩
        exact ⟨h4, h3⟩
      generalize hR : (fun (v : AVal) (J' : Heap) => ((v = .bool true ∧ Pre (i + 1) J' ∧ SiH f ls p' r m (siL m jw .ready none) J') ∨ (v = .bool false ∧ Stop J' ∧ ∃ p, SiH f ls p r m (siL m jw .done (some .ret)) J')) ∧ J.length ≤ J'.length ∧ ∀ q, m + 5 ≤ q → q < J.length → J'[q]? = J[q]?) = R
      have hon : ∀ J', Pre (i + 1) J' → SiH f ls p' r m (siL m jw .ready none) J' → J.length ≤ J'.length → (∀ q, m + 5 ≤ q → q < J.length → J'[q]? = J[q]?) → R (.bool true) J' := fun J' a1 a2 a3 a4 => by rw [← hR]; exact ⟨.inl ⟨rfl, a1, a2⟩, a3, a4⟩
      have hoff : ∀ J' p, Stop J' → SiH f ls p r m (siL m jw .done (some .ret)) J' → J.length ≤ J'.length → (∀ q, m + 5 ≤ q → q < J.length → J'[q]? = J[q]?) → R (.bool false) J' := fun J' p a1 a2 a3 a4 => by rw [← hR]; exact ⟨.inr ⟨rfl, a1, p, a2⟩, a3, a4⟩
      clear hR
      refine roundW_run 500 k_glass_wall_strains_1_r7.eq_1 hd.l rfl (ρ' := tsets 30 (siT m jw ++ [(9, tkV t)])) rfl ?_
      simp only [go_sem, siT, tkV, put_at_end]
      have hp1 := hB.grow _ _ (some (Row.cells false 3 [AVal.agg [AVal.int IntKind.i64 t.n, AVal.int IntKind.i64 t.f, AVal.int IntKind.i64 t.t]])) hp3
      have hd1 := hd.mono (K := J ++ [some (Row.cells false 3 [AVal.agg [AVal.int IntKind.i64 t.n, AVal.int IntKind.i64 t.f, AVal.int IntKind.i64 t.t]])]) (by simp) fun q _ hq => List.getElem?_append_left hq
      have hb1 := get_end J (some (Row.cells false 3 [AVal.agg [AVal.int IntKind.i64 t.n, AVal.int IntKind.i64 t.f, AVal.int IntKind.i64 t.t]]))
      have hl1 : (J ++ [some (Row.cells false 3 [AVal.agg [AVal.int IntKind.i64 t.n, AVal.int IntKind.i64 t.f, AVal.int IntKind.i64 t.t]])]).length = J.length + 1 := by simp
      have ho1 : ∀ q, q < J.length → (J ++ [some (Row.cells false 3 [AVal.agg [AVal.int IntKind.i64 t.n, AVal.int IntKind.i64 t.f, AVal.int IntKind.i64 t.t]])])[q]? = J[q]? := fun q hq => List.getElem?_append_left hq
      generalize (J ++ [some (Row.cells false 3 [AVal.agg [AVal.int IntKind.i64 t.n, AVal.int IntKind.i64 t.f, AVal.int IntKind.i64 t.t]])] : Heap) = L at *
      generalize hjl' : J.length = q at *
      have hlt : m + 4 < L.length := by omega
      refine roundMid_run 500 k_glass_wall_strains_1_r8.eq_1 hd1.l (put_lt hlt) ?_
      have hp2 := hB.set _ _ (m + 4) (some (siL m jw .busy none)) (by omega) hp1
      have hd2 := hd1.setL (siL m jw .busy none)
      have hb2 : (L.set (m + 4) (some (siL m jw .busy none)))[q]? = some (some (Row.cells false 3 [AVal.agg [AVal.int IntKind.i64 t.n, AVal.int IntKind.i64 t.f, AVal.int IntKind.i64 t.t]])) := by rw [List.getElem?_set_ne (by omega)]; exact hb1
      have hl2 : (L.set (m + 4) (some (siL m jw .busy none))).length = q + 1 := by rw [List.length_set]; exact hl1
      have ho2 : ∀ x, m + 5 ≤ x → x < q → (L.set (m + 4) (some (siL m jw .busy none)))[x]? = J[x]? := fun x hx hxq => by rw [List.getElem?_set_ne (by omega)]; exact ho1 x hxq
      simp only [siL, siT] at hp2 hd2 hb2 hl2 ho2 ⊢
      generalize hM : (L.set (m + 4) _ : Heap) = M at hp2 hd2 hb2 hl2 ho2 ⊢
      clear hM hp1 hd1 hb1 hl1 ho1
      have c1 := cells_at (hB.row _ _ hp2).2.2
      have c2 := cells_at hb2
      simp only [wlV] at c1
      simp only [stV, Zn.v, Zn.cs] at zo
      simp only [go_sem, c1, c2]
      refine cP zo ?_ (hk := by omega)
      have hgW : ∀ Y : Option Row, (M ++ [Y])[q + 1]? = some Y := fun Y => by rw [List.getElem?_append_right (by omega), hl2, Nat.sub_self]; rfl
      have hbz := hgW (some (Row.cells false 5 [AVal.agg [AVal.int IntKind.i64 z.f, AVal.int IntKind.i64 z.glo, AVal.int IntKind.i64 z.ghi, AVal.int IntKind.i64 z.rlo, AVal.int IntKind.i64 z.rhi]]))
      have hp4 := hB.grow _ _ (some (Row.cells false 5 [AVal.agg [AVal.int IntKind.i64 z.f, AVal.int IntKind.i64 z.glo, AVal.int IntKind.i64 z.ghi, AVal.int IntKind.i64 z.rlo, AVal.int IntKind.i64 z.rhi]])) hp2
      have hd4 := hd2.mono (K := M ++ [some (Row.cells false 5 [AVal.agg [AVal.int IntKind.i64 z.f, AVal.int IntKind.i64 z.glo, AVal.int IntKind.i64 z.ghi, AVal.int IntKind.i64 z.rlo, AVal.int IntKind.i64 z.rhi]])]) (by simp) fun q _ hq => List.getElem?_append_left hq
      have hb4 : (M ++ [some (Row.cells false 5 [AVal.agg [AVal.int IntKind.i64 z.f, AVal.int IntKind.i64 z.glo, AVal.int IntKind.i64 z.ghi, AVal.int IntKind.i64 z.rlo, AVal.int IntKind.i64 z.rhi]])])[q]? = _ := (List.getElem?_append_left (by omega)).trans hb2
      have hl4 : (M ++ [some (Row.cells false 5 [AVal.agg [AVal.int IntKind.i64 z.f, AVal.int IntKind.i64 z.glo, AVal.int IntKind.i64 z.ghi, AVal.int IntKind.i64 z.rlo, AVal.int IntKind.i64 z.rhi]])]).length = q + 2 := by simp [hl2]
      have ho4 : ∀ x, m + 5 ≤ x → x < q → (M ++ [some (Row.cells false 5 [AVal.agg [AVal.int IntKind.i64 z.f, AVal.int IntKind.i64 z.glo, AVal.int IntKind.i64 z.ghi, AVal.int IntKind.i64 z.rlo, AVal.int IntKind.i64 z.rhi]])])[x]? = J[x]? := fun x hx hxq => by rw [List.getElem?_append_left (by omega)]; exact ho2 x hx hxq
      have ca := cells_at hd4.acc
      have cz := cells_at hbz
      have cw := cells_at (hB.row _ _ hp4).2.2
      have ct := cells_at hb4
      have cy := cells_at hd4.y
      simp only [r2, Zn.v, Zn.cs, wlV, Tk.v] at kr ka kp kc ca cw
      simp only [go_sem]
      rw [hl2]
      generalize (M ++ [some (Row.cells false 5 [AVal.agg [AVal.int IntKind.i64 z.f, AVal.int IntKind.i64 z.glo, AVal.int IntKind.i64 z.ghi, AVal.int IntKind.i64 z.rlo, AVal.int IntKind.i64 z.rhi]])] : Heap) = W at *
      simp only [go_sem, ca, cz, cw, ct, cy]
      refine dP kr ?_
      simp only [go_sem, ca, cz, cw, ct, cy]
      refine cP ka ?_ (hk := by omega)
      simp only [go_sem]
      refine cP kp ?_ (hk := by omega)
      simp only [go_sem]
      refine cP kc ?_ (hk := by omega)
      have hlm : m + 1 < W.length := by omega
      have hput := fun x => put_lt (x := x) hlm
      simp only [go_sem, ca, cz, cw, ct, cy, hput]
      have hp5 := hB.set _ _ (m + 1) (some (Row.cells false 2 [r2 p'.1 p'.2])) (by omega) hp4
      have hd5 := hd4.setA p'
      have hl5 : (W.set (m + 1) (some (Row.cells false 2 [r2 p'.1 p'.2]))).length = q + 2 := by rw [List.length_set]; exact hl4
      have ho5 : ∀ x, m + 5 ≤ x → x < q → (W.set (m + 1) (some (Row.cells false 2 [r2 p'.1 p'.2])))[x]? = J[x]? := fun x hx hxq => by rw [List.getElem?_set_ne (by omega)]; exact ho4 x hx hxq
      have hb5 : (W.set (m + 1) (some (Row.cells false 2 [r2 p'.1 p'.2])))[q]? = _ := (List.getElem?_set_ne (by omega)).trans hb4
      simp only [r2] at hp5 hd5 hl5 ho5 hb5 hrd
      generalize (W.set (m + 1) _ : Heap) = S at hp5 hd5 hl5 ho5 hb5 ⊢
      have c5 := cells_at hd5.acc
      have c6 := cells_at hd5.y
      have c7 := cells_at hb5
      simp only [r2] at c5
      have hrd := hrd S hi hp5
      simp only [go_sem, c5, c6, c7]
      refine yieldR _ rfl rfl (by simp [go_sem]) (by simp [go_sem]) (by omega) ?_
      refine hrd.mono ?_
      rintro v S' ⟨⟨q4, q5⟩, ⟨rfl, q6⟩ | ⟨rfl, q6⟩⟩
      · have hds := hd5.mono q4 fun x hx => q5 x (by omega)
        have hlt' : m + 4 < S'.length := by have := hds.len; omega
        refine ⟨fun x hx => by simp at hx, ?_⟩
        simp only [go_sem]
        refine roundEnd_on hds.l ?_
        rw [put_lt hlt']
        exact hon _ (hB.set _ _ _ _ (by omega) q6) (hds.setL _) (by rw [List.length_set]; omega) fun x hx hxq => by rw [List.getElem?_set_ne (by omega), q5 x (by omega) (by omega)]; exact ho5 x hx hxq
      · have hds := hd5.mono q4 fun x hx => q5 x (by omega)
        have hlt' : m + 4 < S'.length := by have := hds.len; omega
        refine ⟨fun x hx => by simp at hx, ?_⟩
        simp only [go_sem]
        refine roundEnd_ret hds.l ?_
        rw [put_lt hlt']
        exact hoff _ _ (hB.halt _ _ _ (by omega) q6) (hds.setL _) (by rw [List.length_set]; omega) fun x hx hxq => by rw [List.getElem?_set_ne (by omega), q5 x (by omega) (by omega)]; exact ho5 x hx hxq
  refine rangeF 2000 (ρ := tsets 30 (siT m jw)) (by simp [go_sem, siT]) (by simp only [go_sem, siT]; rfl) (by rw [hl0]; exact hit) (by rw [hl0]; omega) ?_
  rw [hl0]
  rintro v J ⟨rfl, ⟨h3, hd⟩ | ⟨h3, p, hd⟩⟩
  · refine ⟨fun q hq => by simp at hq; subst hq; exact hd.d, _, _, _, _, _, _, _, hd.l, by decide, ?_⟩
    have hfin := hB.set _ _ (m + 3) none (by omega) (hB.set _ _ (m + 3 + 1) none (by omega) h3)
    simp only [go_sem, siT]
    exact ⟨by simp, .inl hfin⟩
  · refine ⟨fun q hq => by simp at hq; subst hq; exact hd.d, _, _, _, _, _, _, _, hd.l, by decide, ?_⟩
    have hfin := hB.halt _ (m + 3) none (by omega) (hB.halt _ (m + 3 + 1) none (by omega) h3)
    simp only [go_sem, siT]
    exact ⟨by simp, .inr hfin⟩
end Go.Proofs

