/- A part of the proof. -/
import Derived.Test.YtcnpapgcojagpaaPE
set_option linter.unusedSimpArgs false
set_option linter.unusedVariables false
namespace Go.Proofs
open Go Go.Sx Go.Fam

abbrev CellF := Nat → Nat → Int → Option (Int × Int) → Option (Int × Int) → Cell
def gRow (c : Nat → Int → Option (Int × Int) → Option (Int × Int) → Cell) (U : Option (List Int × List Int)) : Nat → Int → List Int → List Int → RowR
  | 0, w, lo, hi => ⟨lo, hi, w⟩
  | m + 1, w, lo, hi => gRow c U m (c lo.length w (upOf U lo.length) (prevOf lo hi)).w (lo ++ [(c lo.length w (upOf U lo.length) (prevOf lo hi)).lo]) (hi ++ [(c lo.length w (upOf U lo.length) (prevOf lo hi)).hi])
def gTab (c : CellF) (n : Nat) : Nat → Int → List (List Int) → List (List Int) → TabR
  | 0, w, L, H => ⟨L, H, w⟩
  | m + 1, w, L, H => gTab c n m (gRow (c L.length) (lastOf L H) n w [] []).w (L ++ [(gRow (c L.length) (lastOf L H) n w [] []).lo]) (H ++ [(gRow (c L.length) (lastOf L H) n w [] []).hi])
theorem rowGo_g (U : Option (List Int × List Int)) : ∀ (m : Nat) (w : Int) (lo hi : List Int), rowGo U m w lo hi = gRow (fun _ => cell) U m w lo hi
  | 0, _, _, _ => rfl
  | m + 1, w, lo, hi => by simp only [rowGo, gRow]; exact rowGo_g U m _ _ _
theorem tabGo_g (n : Nat) : ∀ (m : Nat) (w : Int) (L H : List (List Int)), tabGo n m w L H = gTab (fun _ _ => cell) n m w L H
  | 0, _, _, _ => rfl
  | m + 1, w, L, H => by simp only [tabGo, gTab, rowGo_g]; exact tabGo_g n m _ _ _

def Nx (q x : Int × Int) : Prop := q.1 ≤ x.1 ∧ q.2 ≤ x.2
structure CellOK (c : CellF) (M N : Nat) (E : Nat → Nat → Int × Int → Prop) : Prop where
  ok : ∀ i k w u l, i < M → k < N → (∀ q, u = some q → ∃ j, i = j + 1 ∧ E j k q) → (∀ q, l = some q → ∃ j, k = j + 1 ∧ E i j q) →
    E i k ((c i k w u l).lo, (c i k w u l).hi) ∧ (∀ q, u = some q → Nx q ((c i k w u l).lo, (c i k w u l).hi)) ∧ ∀ q, l = some q → Nx q ((c i k w u l).lo, (c i k w u l).hi)
structure RowI (E : Nat → Nat → Int × Int → Prop) (i : Nat) (U : Option (List Int × List Int)) (lo hi : List Int) : Prop where
  len : hi.length = lo.length
  e : ∀ j, j < lo.length → E i j (at1 lo j, at1 hi j)
  u : ∀ j q, j < lo.length → upOf U j = some q → Nx q (at1 lo j, at1 hi j)
  r : ∀ j, j + 1 < lo.length → Nx (at1 lo j, at1 hi j) (at1 lo (j + 1), at1 hi (j + 1))
theorem at1_lt {l : List Int} {x : Int} {j : Nat} (h : j < l.length) : at1 (l ++ [x]) j = at1 l j := by
  unfold at1; rw [List.getD_eq_getElem?_getD, List.getD_eq_getElem?_getD, List.getElem?_append_left h]
theorem at1_last {l : List Int} {x : Int} {j : Nat} (h : j = l.length) : at1 (l ++ [x]) j = x := by
  unfold at1; rw [List.getD_eq_getElem?_getD, h, List.getElem?_append_right (Nat.le_refl _)]; simp
theorem RowI.snoc {E : Nat → Nat → Int × Int → Prop} {i : Nat} {U : Option (List Int × List Int)} {lo hi : List Int} {x y : Int} (h : RowI E i U lo hi) (he : E i lo.length (x, y)) (hu : ∀ q, upOf U lo.length = some q → Nx q (x, y)) (hl : ∀ q, prevOf lo hi = some q → Nx q (x, y)) : RowI E i U (lo ++ [x]) (hi ++ [y]) := by
  have hn := h.len
  have lt : ∀ {j}, j < lo.length → at1 (lo ++ [x]) j = at1 lo j ∧ at1 (hi ++ [y]) j = at1 hi j := fun hj => ⟨at1_lt hj, at1_lt (by omega)⟩
  have la : ∀ {j}, j = lo.length → at1 (lo ++ [x]) j = x ∧ at1 (hi ++ [y]) j = y := fun hj => ⟨at1_last hj, at1_last (by omega)⟩
  refine ⟨by simp [hn], fun j hj => ?_, fun j q hj hq => ?_, fun j hj => ?_⟩ <;> simp only [List.length_append, List.length_singleton] at hj
  · by_cases c : j < lo.length
    · rw [(lt c).1, (lt c).2]; exact h.e j c
    · obtain rfl : j = lo.length := by omega
      rw [(la rfl).1, (la rfl).2]; exact he
  · by_cases c : j < lo.length
    · rw [(lt c).1, (lt c).2]; exact h.u j q c hq
    · obtain rfl : j = lo.length := by omega
      rw [(la rfl).1, (la rfl).2]; exact hu q hq
  · by_cases c : j + 1 < lo.length
    · rw [(lt c).1, (lt c).2, (lt (j := j) (by omega)).1, (lt (j := j) (by omega)).2]; exact h.r j c
    · have c' : j + 1 = lo.length := by omega
      rw [(la c').1, (la c').2, (lt (j := j) (by omega)).1, (lt (j := j) (by omega)).2]
      refine hl _ ?_
      unfold prevOf
      rw [if_neg (by omega), ← c', Nat.add_sub_cancel]
theorem gRow_ok {c : CellF} {M N i : Nat} {E : Nat → Nat → Int × Int → Prop} {U : Option (List Int × List Int)} (hc : CellOK c M N E) (hi' : i < M) (hU : ∀ j q, j < N → upOf U j = some q → ∃ i', i = i' + 1 ∧ E i' j q) : ∀ (m : Nat) (w : Int) (lo hi : List Int), RowI E i U lo hi → lo.length + m = N →
    RowI E i U (gRow (c i) U m w lo hi).lo (gRow (c i) U m w lo hi).hi ∧ (gRow (c i) U m w lo hi).lo.length = N
  | 0, w, lo, hi, h, hn => ⟨h, by simpa [gRow] using hn⟩
  | m + 1, w, lo, hi, h, hn => by
    simp only [gRow]
    have hk := hc.ok i lo.length w (upOf U lo.length) (prevOf lo hi) hi' (by omega) (fun q hq => hU _ q (by omega) hq) (fun q hq => by
      unfold prevOf at hq
      split at hq
      · cases hq
      · cases hq
        exact ⟨lo.length - 1, by omega, h.e _ (by omega)⟩)
    exact gRow_ok hc hi' hU m _ _ _ (h.snoc hk.1 hk.2.1 hk.2.2) (by simp; omega)
structure TabI (E : Nat → Nat → Int × Int → Prop) (N : Nat) (L H : List (List Int)) : Prop where
  len : H.length = L.length
  l : ∀ r ∈ L, r.length = N
  h : ∀ r ∈ H, r.length = N
  e : ∀ i k, i < L.length → k < N → E i k (tg L i k, tg H i k)
  r : ∀ i k, i < L.length → k + 1 < N → Nx (tg L i k, tg H i k) (tg L i (k + 1), tg H i (k + 1))
  u : ∀ i k, i + 1 < L.length → k < N → Nx (tg L i k, tg H i k) (tg L (i + 1) k, tg H (i + 1) k)
theorem tg_lt {t : List (List Int)} {r : List Int} {i k : Nat} (h : i < t.length) : tg (t ++ [r]) i k = tg t i k := by
  unfold tg; rw [List.getD_eq_getElem?_getD (l := t ++ [r]), List.getElem?_append_left h, ← List.getD_eq_getElem?_getD]
theorem tg_last {t : List (List Int)} {r : List Int} {i k : Nat} (h : i = t.length) : tg (t ++ [r]) i k = at1 r k := by
  unfold tg at1; rw [List.getD_eq_getElem?_getD (l := t ++ [r]), h, List.getElem?_append_right (Nat.le_refl _)]; simp
theorem TabI.snoc {E : Nat → Nat → Int × Int → Prop} {N : Nat} {L H : List (List Int)} {lo hi : List Int} (h : TabI E N L H) (hr : RowI E L.length (lastOf L H) lo hi) (hn : lo.length = N) : TabI E N (L ++ [lo]) (H ++ [hi]) := by
  have hl := h.len
  have lt : ∀ {i k}, i < L.length → tg (L ++ [lo]) i k = tg L i k ∧ tg (H ++ [hi]) i k = tg H i k := fun hi => ⟨tg_lt hi, tg_lt (by omega)⟩
  have la : ∀ {i k}, i = L.length → tg (L ++ [lo]) i k = at1 lo k ∧ tg (H ++ [hi]) i k = at1 hi k := fun hi => ⟨tg_last hi, tg_last (by omega)⟩
  have hh := hr.len
  refine ⟨by simp [hl], fun r hr => ?_, fun r hr => ?_, fun i k h1 h2 => ?_, fun i k h1 h2 => ?_, fun i k h1 h2 => ?_⟩
  · rcases List.mem_append.1 hr with h' | h'
    · exact h.l r h'
    · obtain rfl : r = lo := by simpa using h'
      exact hn
  · rcases List.mem_append.1 hr with h' | h'
    · exact h.h r h'
    · obtain rfl : r = hi := by simpa using h'
      omega
  all_goals simp only [List.length_append, List.length_singleton] at h1
  · by_cases c : i < L.length
    · rw [(lt c).1, (lt c).2]; exact h.e i k c h2
    · have c' : i = L.length := by omega
      rw [(la c').1, (la c').2, c']; exact hr.e k (by omega)
  · by_cases c : i < L.length
    · rw [(lt c).1, (lt c).2, (lt c).1, (lt c).2]; exact h.r i k c h2
    · have c' : i = L.length := by omega
      rw [(la c').1, (la c').2, (la c').1, (la c').2]; exact hr.r k (by omega)
  · by_cases c : i + 1 < L.length
    · rw [(lt c).1, (lt c).2, (lt (by omega)).1, (lt (by omega)).2]; exact h.u i k c h2
    · have c' : i + 1 = L.length := by omega
      rw [(la c').1, (la c').2, (lt (by omega)).1, (lt (by omega)).2]
      refine hr.u k _ (by omega) ?_
      unfold lastOf upOf
      rw [if_neg (by omega), ← c', Nat.add_sub_cancel]; rfl
theorem gTab_ok {c : CellF} {M N : Nat} {E : Nat → Nat → Int × Int → Prop} (hc : CellOK c M N E) : ∀ (m : Nat) (w : Int) (L H : List (List Int)), TabI E N L H → L.length + m = M →
    TabI E N (gTab c N m w L H).lo (gTab c N m w L H).hi ∧ (gTab c N m w L H).lo.length = M
  | 0, w, L, H, h, hn => ⟨h, by simpa [gTab] using hn⟩
  | m + 1, w, L, H, h, hn => by
    simp only [gTab]
    have hr := gRow_ok (U := lastOf L H) (i := L.length) hc (by omega) (fun j q hj hq => by
      unfold lastOf upOf at hq
      split at hq
      · cases hq
      · cases hq
        exact ⟨L.length - 1, by omega, h.e (L.length - 1) j (by omega) hj⟩) N w [] [] ⟨rfl, by simp, by simp, by simp⟩ (by simp)
    exact gTab_ok hc m _ _ _ (h.snoc hr.1 hr.2) (by simp; omega)
theorem tab0 {E : Nat → Nat → Int × Int → Prop} {N : Nat} : TabI E N [] [] := ⟨rfl, by simp, by simp, by simp, by simp, by simp⟩
theorem TabI.fa {E : Nat → Nat → Int × Int → Prop} {g p : List Int} {L H : List (List Int)} (h : TabI E p.length L H) (hl : L.length = g.length) (hg : Asc (-1000000) g) (hp : Asc 0 p) (hE : ∀ i k q, i < g.length → k < p.length → E i k q → 0 ≤ q.1 ∧ q.1 ≤ q.2 ∧ q.2 ≤ 1000000) : FaOK ⟨g, p, L, H⟩ := by
  have hn := h.len
  exact ⟨hg, hp, hl, by dsimp only; omega, h.l, h.h, fun i k h1 h2 => hE i k _ h1 h2 (h.e i k (by dsimp only at h1; omega) h2), fun i k h1 h2 => h.r i k (by dsimp only at h1; omega) h2, fun i k h1 h2 => h.u i k (by dsimp only at h1; omega) h2⟩

def famE0 (i _k : Nat) (q : Int × Int) : Prop := 0 ≤ q.1 ∧ q.1 ≤ 60 + 20 * (i : Int) ∧ q.1 ≤ q.2 ∧ q.2 ≤ 1000 * ((i : Int) + 1)
theorem cell_ok (M N : Nat) (hM : M ≤ 40) : CellOK (fun _ _ => cell) M N famE0 := by
  refine ⟨fun i k w u l hiM _ hu hl => ?_⟩
  have t1 := upto_in (w := w) (n := 60) (by omega)
  have t2 := upto_in (w := dstep w) (n := 30) (by omega)
  have t3 := upto_in (w := dstep (dstep w)) (n := 20) (by omega)
  try dsimp only
  obtain ⟨a0, h1⟩ : ∃ x, upto w 60 = x := ⟨_, rfl⟩
  obtain ⟨b0, h3⟩ : ∃ x, upto (dstep w) 30 = x := ⟨_, rfl⟩
  obtain ⟨t0, h5⟩ : ∃ x, upto (dstep (dstep w)) 20 = x := ⟨_, rfl⟩
  rw [h1] at t1
  rw [h3] at t2
  rw [h5] at t3
  cases u with
  | none =>
    cases l with
    | none =>
      rw [cell00 h1 rfl h3 rfl]
      have m1 := mx_or 0 b0
      dsimp only [famE0]
      refine ⟨by omega, ?_, ?_⟩ <;> first | trivial | (intro q hq; cases hq; done) | (intro q hq; cases hq; dsimp only; omega) | (simp; done) | (simp; omega)
    | some l =>
      obtain ⟨p1, p2⟩ := l
      obtain ⟨j, rfl, e1⟩ := hl _ rfl
      rw [cell01 h1 rfl h3 rfl]
      dsimp only [famE0, Nx] at e1 ⊢
      have m1 := mx_or a0 p1
      have m2 := mx_or (mx a0 p1 + b0) p2
      have m3 := mx_or 0 (mx (mx a0 p1 + b0) p2 - mx a0 p1)
      refine ⟨by omega, ?_, ?_⟩ <;> first | trivial | (intro q hq; cases hq; done) | (intro q hq; cases hq; dsimp only; omega) | (simp; done) | (simp; omega)
  | some u =>
    obtain ⟨q1, q2⟩ := u
    obtain ⟨j, rfl, e1⟩ := hu _ rfl
    have m4 := mx_or a0 (q1 + t0)
    obtain ⟨a1, h7⟩ : ∃ x, mx a0 (q1 + t0) = x := ⟨_, rfl⟩
    rw [h7] at m4
    have m5 := mx_or (a1 + b0) q2
    obtain ⟨b1, h8⟩ : ∃ x, mx (a1 + b0) q2 - a1 = x := ⟨_, rfl⟩
    cases l with
    | none =>
      rw [cell10 h1 rfl h3 rfl h5 rfl h7 h8]
      dsimp only [famE0, Nx] at e1 ⊢
      have m1 := mx_or (a1 + b1) q2
      have m2 := mx_or 0 (mx (a1 + b1) q2 - a1)
      refine ⟨by omega, ?_, ?_⟩ <;> first | trivial | (intro q hq; cases hq; done) | (intro q hq; cases hq; dsimp only; omega) | (simp; done) | (simp; omega)
    | some l =>
      obtain ⟨p1, p2⟩ := l
      obtain ⟨j', rfl, e2⟩ := hl _ rfl
      rw [cell11 h1 rfl h3 rfl h5 rfl h7 h8 rfl rfl]
      dsimp only [famE0, Nx] at e1 e2 ⊢
      have m1 := mx_or a1 p1
      have m2 := mx_or (mx a1 p1 + b1) p2
      have m3 := mx_or (mx a1 p1 + (mx (mx a1 p1 + b1) p2 - mx a1 p1)) q2
      have m6 := mx_or 0 (mx (mx a1 p1 + (mx (mx a1 p1 + b1) p2 - mx a1 p1)) q2 - mx a1 p1)
      refine ⟨by omega, ?_, ?_⟩ <;> first | trivial | (intro q hq; cases hq; done) | (intro q hq; cases hq; dsimp only; omega) | (simp; done) | (simp; omega)
theorem curOf_in {l : Lw} (h : LwOK l) (g p : Int) : 0 ≤ (curOf l g p).lo ∧ (curOf l g p).hi ≤ 1000000 := by
  have hp := h.part
  have hf := h.full
  have hv := h.perv
  have hd0 := (bnd_in (g + l.shift.lo + (1000 * p) / l.gain.hi)).1
  constructor
  · show 0 ≤ curLo l (driveOf l g p)
    unfold curLo
    refine Int.ediv_nonneg (Int.mul_nonneg hp.1 ?_) (by decide)
    have hs : 0 ≤ spaceLo l (driveOf l g p) := Int.ediv_nonneg (Int.mul_nonneg hv.1 (root_ok (Int.mul_nonneg (Int.mul_nonneg hd0 hd0) hd0)).1) (by decide)
    exact (mn_in hs hf.1).1
  · show curHi l (driveOf l g p) ≤ 1000000
    unfold curHi
    have hm : mn (spaceHi l (driveOf l g p)) l.full.hi ≤ 1000000 := by unfold mn; split <;> omega
    have h1 : l.part.hi * mn (spaceHi l (driveOf l g p)) l.full.hi ≤ 1000000 * 1000000 := by
      by_cases c : 0 ≤ mn (spaceHi l (driveOf l g p)) l.full.hi
      · exact Int.mul_le_mul hp.2.2 hm c (by decide)
      · have := Int.mul_nonpos_of_nonneg_of_nonpos (a := l.part.hi) (b := mn (spaceHi l (driveOf l g p)) l.full.hi) (by omega) (by omega)
        omega
    unfold rup
    omega
theorem ofF_ok {l : Lw} (hl : LwOK l) {g p : List Int} (hg : Asc (-1000000) g) (hp : Asc 0 p) : FaOK (ofF l g p) := by
  have tgE : ∀ (f : Rg → Int) i k, i < g.length → k < p.length → tg (ofT f l g p) i k = f (curOf l (at1 g i) (at1 p k)) := fun f i k h1 h2 => by
    unfold tg ofT at1
    simp only [List.getD_eq_getElem?_getD, List.getElem?_map, List.getElem?_eq_getElem h1, Option.map_some, Option.getD_some, List.getElem?_eq_getElem h2]
  have R := fun i k b (hp' : 0 ≤ at1 p k) (hb : 0 ≤ b) => rises hl (g := at1 g i) (p := at1 p k) (b := b) hp' hb
  have P := fun k (hk : k < p.length) => (hp.inn k hk).1
  refine ⟨hg, hp, by simp [ofF, ofT], by simp [ofF, ofT], ?_, ?_, ?_, ?_, ?_⟩
  · intro r hr
    obtain ⟨x, _, rfl⟩ := List.mem_map.1 hr; simp [ofF]
  · intro r hr
    obtain ⟨x, _, rfl⟩ := List.mem_map.1 hr; simp [ofF]
  · intro i k h1 h2
    have := R i k 0 (P k h2) (Int.le_refl _)
    have d0 := curOf_in hl (at1 g i) (at1 p k)
    show 0 ≤ tg (ofT Rg.lo l g p) i k ∧ tg (ofT Rg.lo l g p) i k ≤ tg (ofT Rg.hi l g p) i k ∧ tg (ofT Rg.hi l g p) i k ≤ 1000000
    rw [tgE _ _ _ h1 h2, tgE _ _ _ h1 h2]
    omega
  · intro i k h1 h2
    have := R i k (at1 p (k + 1) - at1 p k) (P k (by dsimp only [ofF] at h2; omega)) (by have := hp.asc k h2; omega)
    show tg (ofT Rg.lo l g p) i k ≤ tg (ofT Rg.lo l g p) i (k + 1) ∧ tg (ofT Rg.hi l g p) i k ≤ tg (ofT Rg.hi l g p) i (k + 1)
    have h3 : k < p.length := by dsimp only [ofF] at h2; omega
    rw [tgE _ _ _ h1 h2, tgE _ _ _ h1 h2, tgE _ _ _ h1 h3, tgE _ _ _ h1 h3]
    rw [show at1 p k + (at1 p (k + 1) - at1 p k) = at1 p (k + 1) by omega] at this
    omega
  · intro i k h1 h2
    have := rises hl (g := at1 g i) (p := at1 p k) (b := at1 g (i + 1) - at1 g i) (P k h2) (by have := hg.asc i h1; omega)
    show tg (ofT Rg.lo l g p) i k ≤ tg (ofT Rg.lo l g p) (i + 1) k ∧ tg (ofT Rg.hi l g p) i k ≤ tg (ofT Rg.hi l g p) (i + 1) k
    have h3 : i < g.length := by dsimp only [ofF] at h1; omega
    rw [tgE _ _ _ h1 h2, tgE _ _ _ h1 h2, tgE _ _ _ h3 h2, tgE _ _ _ h3 h2]
    rw [show at1 g i + (at1 g (i + 1) - at1 g i) = at1 g (i + 1) by omega] at this
    omega
theorem famOf_ok (w : Int) : FaOK (famOf w) := by
  have hg := famG_asc w
  have hp := famP_asc w
  unfold famOf
  split
  · exact ofF_ok (lawOf_in _) hg.1 hp.1
  · have h := gTab_ok (cell_ok (famG w).length (famP w).length (by omega)) (famG w).length (dstep (famW2 w)) [] [] tab0 (by simp)
    rw [← tabGo_g] at h
    exact h.1.fa h.2 hg.1 hp.1 fun i k q h1 _ he => by
      unfold famE0 at he
      have := hg.2
      omega

def wOpt (a : Int) (q : Option Int) : Int := match q with | none => a | some x => mx a x
def wA (f : Fa) (i k : Nat) (w : Int) (u l : Option (Int × Int)) : Int := wOpt (wOpt (btw w (tg f.lo i k) (tg f.hi i k)) (u.map (·.1))) (l.map (·.1))
def wB (f : Fa) (b : Bool) (i k : Nat) (w : Int) (u l : Option (Int × Int)) : Int := if b then wA f i k w u l else wOpt (wOpt (btw (dstep w) (wA f i k w u l) (tg f.hi i k)) (u.map (·.2))) (l.map (·.2))
def wcell (f : Fa) (b : Bool) : CellF := fun i k w u l => ⟨wA f i k w u l, wB f b i k w u l, if b then dstep w else dstep (dstep w)⟩
def wnE (f : Fa) (b : Bool) (i k : Nat) (q : Int × Int) : Prop := tg f.lo i k ≤ q.1 ∧ q.1 ≤ q.2 ∧ q.2 ≤ tg f.hi i k ∧ (b = true → q.1 = q.2)
def wnT (f : Fa) (b : Bool) (w : Int) : TabR := gTab (wcell f b) f.p.length f.g.length w [] []
def wnF (f : Fa) (b : Bool) (w : Int) : Fa := ⟨f.g, f.p, (wnT f b w).lo, (wnT f b w).hi⟩
theorem wOpt_le {a b : Int} {q : Option Int} (h : a ≤ b) (hq : ∀ x, q = some x → x ≤ b) : a ≤ wOpt a q ∧ wOpt a q ≤ b ∧ ∀ x, q = some x → x ≤ wOpt a q := by
  unfold wOpt
  cases q with
  | none => exact ⟨Int.le_refl _, h, by simp⟩
  | some x => exact ⟨mx_l _ _, mx_le h (hq x rfl), fun y hy => by cases hy; exact mx_r _ _⟩
theorem wcell_ok {f : Fa} (hf : FaOK f) (b : Bool) : CellOK (wcell f b) f.g.length f.p.length (wnE f b) := by
  refine ⟨fun i k w u l hi hk hu hl => ?_⟩
  have h0 := hf.inn i k hi hk
  have hu' : ∀ q, u = some q → q.1 ≤ q.2 ∧ q.2 ≤ tg f.hi i k ∧ (b = true → q.1 = q.2) := fun q hq => by
    obtain ⟨j, rfl, h1⟩ := hu q hq
    have := hf.up j k hi hk
    unfold wnE at h1
    exact ⟨h1.2.1, by omega, h1.2.2.2⟩
  have hl' : ∀ q, l = some q → q.1 ≤ q.2 ∧ q.2 ≤ tg f.hi i k ∧ (b = true → q.1 = q.2) := fun q hq => by
    obtain ⟨j, rfl, h1⟩ := hl q hq
    have := hf.right i j hi hk
    unfold wnE at h1
    exact ⟨h1.2.1, by omega, h1.2.2.2⟩
  have m1 : ∀ {o : Option (Int × Int)} {x : Int}, o.map (·.1) = some x → ∃ q, o = some q ∧ q.1 = x := fun h => by simpa using h
  have m2 : ∀ {o : Option (Int × Int)} {x : Int}, o.map (·.2) = some x → ∃ q, o = some q ∧ q.2 = x := fun h => by simpa using h
  have a0 := btw_in (w := w) (lo := tg f.lo i k) (hi := tg f.hi i k) (by omega)
  have a1 := wOpt_le (a := btw w (tg f.lo i k) (tg f.hi i k)) (b := tg f.hi i k) (q := u.map (·.1)) a0.2 fun x hx => by
    obtain ⟨q, rfl, rfl⟩ := m1 hx
    have := hu' q rfl; omega
  have a2 := wOpt_le (a := wOpt (btw w (tg f.lo i k) (tg f.hi i k)) (u.map (·.1))) (b := tg f.hi i k) (q := l.map (·.1)) a1.2.1 fun x hx => by
    obtain ⟨q, rfl, rfl⟩ := m1 hx
    have := hl' q rfl; omega
  have ea : (wcell f b i k w u l).lo = wOpt (wOpt (btw w (tg f.lo i k) (tg f.hi i k)) (u.map (·.1))) (l.map (·.1)) := rfl
  have eb : (wcell f b i k w u l).hi = wB f b i k w u l := rfl
  rw [← ea] at a2
  rw [eb]
  have u1 : ∀ q, u = some q → q.1 ≤ (wcell f b i k w u l).lo := fun q hq => by
    have := a1.2.2 q.1 (by rw [hq]; rfl); omega
  have l1 : ∀ q, l = some q → q.1 ≤ (wcell f b i k w u l).lo := fun q hq => a2.2.2 q.1 (by rw [hq]; rfl)
  have e2 : wA f i k w u l = (wcell f b i k w u l).lo := rfl
  obtain ⟨A, hA⟩ : ∃ x, (wcell f b i k w u l).lo = x := ⟨_, rfl⟩
  rw [hA] at a2 u1 l1 e2 ⊢
  cases b with
  | true =>
    have e3 : wB f true i k w u l = A := e2
    rw [e3]
    exact ⟨⟨by dsimp only; omega, Int.le_refl _, by dsimp only; omega, fun _ => rfl⟩, fun q hq => ⟨u1 q hq, by have := (hu' q hq).2.2 rfl; have := u1 q hq; dsimp only; omega⟩, fun q hq => ⟨l1 q hq, by have := (hl' q hq).2.2 rfl; have := l1 q hq; dsimp only; omega⟩⟩
  | false =>
    have b0 := btw_in (w := dstep w) (lo := A) (hi := tg f.hi i k) (by omega)
    have b1 := wOpt_le (a := btw (dstep w) A (tg f.hi i k)) (b := tg f.hi i k) (q := u.map (·.2)) b0.2 fun x hx => by
      obtain ⟨q, rfl, rfl⟩ := m2 hx
      exact (hu' q rfl).2.1
    have b2 := wOpt_le (a := wOpt (btw (dstep w) A (tg f.hi i k)) (u.map (·.2))) (b := tg f.hi i k) (q := l.map (·.2)) b1.2.1 fun x hx => by
      obtain ⟨q, rfl, rfl⟩ := m2 hx
      exact (hl' q rfl).2.1
    have e3 : wB f false i k w u l = wOpt (wOpt (btw (dstep w) A (tg f.hi i k)) (u.map (·.2))) (l.map (·.2)) := by
      unfold wB; rw [e2]; rfl
    rw [e3]
    exact ⟨⟨by dsimp only; omega, by dsimp only; omega, b2.2.1, fun h => by cases h⟩, fun q hq => ⟨u1 q hq, by have := b1.2.2 q.2 (by rw [hq]; rfl); dsimp only; omega⟩, fun q hq => ⟨l1 q hq, b2.2.2 q.2 (by rw [hq]; rfl)⟩⟩
theorem wnF_tab {f : Fa} (hf : FaOK f) (b : Bool) (w : Int) : TabI (wnE f b) f.p.length (wnT f b w).lo (wnT f b w).hi ∧ (wnT f b w).lo.length = f.g.length :=
  gTab_ok (wcell_ok hf b) f.g.length w [] [] tab0 (by simp)
theorem wnF_ok {f : Fa} (hf : FaOK f) (b : Bool) (w : Int) : FaOK (wnF f b w) ∧ InF (wnF f b w) f := by
  have h := wnF_tab hf b w
  refine ⟨h.1.fa h.2 hf.g hf.p fun i k q h1 h2 he => ?_, rfl, rfl, fun i k h1 h2 => ?_⟩
  · have := hf.inn i k h1 h2
    unfold wnE at he; omega
  · have := h.1.e i k (by omega) h2
    unfold wnE at this
    exact ⟨this.1, this.2.2.1⟩
theorem wnF_ne {f : Fa} (hf : FaOK f) (hn : FaNE f) (b : Bool) (w : Int) : FaNE (wnF f b w) := by
  have h := wnF_tab hf b w
  have := h.1.len
  exact ⟨hn.g, hn.p, ⟨h.2, h.1.l⟩, ⟨by show (wnT f b w).hi.length = _; have := h.2; show _ = f.g.length; omega, h.1.h⟩⟩
end Go.Proofs

namespace Go.Proofs
open Go Go.Sx Go.Fam
attribute [local irreducible] Run

def loB (f t : Fa) (x y a b : Sp) : Bool := decide (vN t.lo a b * (x.whole * y.whole) < vN f.lo x y * (a.whole * b.whole))
def hiB (f t : Fa) (x y a b : Sp) : Bool := decide (vN f.hi x y * (a.whole * b.whole) < vN t.hi a b * (x.whole * y.whole))
def inAt (f t : Fa) (g p : Int) : Bool := !loB f t (spot f.g g) (spot f.p p) (spot t.g g) (spot t.p p) && !hiB f t (spot f.g g) (spot f.p p) (spot t.g g) (spot t.p p)

theorem vN_in {m n : Nat} {t : List (List Int)} {x y : Sp} (hS : Small m n t) (hx : SpOK m 2000000 x) (hy : SpOK n 1000000 y) : 0 ≤ vN t x y ∧ vN t x y ≤ 4000000000000000000 := by
  have := pacc_in hS hx hy (q := 4) (by omega)
  rw [pacc_all] at this
  omega
set_option maxHeartbeats 4000000 in
set_option maxRecDepth 20000 in
theorem insideAt_run {f t : Fa} (hf : FaOK f) (ht : FaOK t) {g p : Int} (hg : -1000000 ≤ g ∧ g ≤ 1000000) (hp : 0 ≤ p ∧ p ≤ 1000000) : Ans Try.prog n_curve_insideAt [Fv f, Fv t, .int .i64 g, .int .i64 p] [] (.bool (inAt f t g p)) [] := by
  obtain ⟨tL, tH, sL, sH⟩ := hf.tabs
  obtain ⟨uL, uH, rL, rH⟩ := ht.tabs
  have fg := hf.g.most
  have fp := hf.p.most
  have tg := ht.g.most
  have tp := ht.p.most
  have k1 := spotOf_run (a := -1000000) (by omega) hf.g (v := g) hg
  have k2 := spotOf_run (a := 0) (by omega) hf.p (v := p) (by omega)
  have k3 := spotOf_run (a := -1000000) (by omega) ht.g (v := g) hg
  have k4 := spotOf_run (a := 0) (by omega) ht.p (v := p) (by omega)
  have h1 : SpOK f.g.length 2000000 (spot f.g g) := spot_ok hf.g (by omega)
  have h2 : SpOK f.p.length 1000000 (spot f.p p) := spot_ok hf.p (by omega)
  have h3 : SpOK t.g.length 2000000 (spot t.g g) := spot_ok ht.g (by omega)
  have h4 : SpOK t.p.length 1000000 (spot t.p p) := spot_ok ht.p (by omega)
  unfold inAt
  generalize spot f.g g = x at *
  generalize spot f.p p = y at *
  generalize spot t.g g = a at *
  generalize spot t.p p = b at *
  have v1 := value_run uL rL (by omega) h3 h4
  have v2 := value_run tL sL (by omega) h1 h2
  have v3 := value_run tH sH (by omega) h1 h2
  have v4 := value_run uH rH (by omega) h3 h4
  have c1 := vN_in rL h3 h4
  have c2 := vN_in sL h1 h2
  have c3 := vN_in sH h1 h2
  have c4 := vN_in rH h3 h4
  have W : ∀ {m n : Nat} {s q : Sp}, SpOK m 2000000 s → SpOK n 1000000 q → 0 ≤ s.whole * q.whole ∧ s.whole * q.whole ≤ 2000000 * 1000000 := fun {m n s q} hs hq => ⟨Int.mul_nonneg (by have := hs.part; omega) (by have := hq.part; omega), Int.mul_le_mul hs.whole hq.whole (by have := hq.part; omega) (by omega)⟩
  have w1 := W h1 h2
  have w2 := W h3 h4
  have l1 := less_run (vN t.lo a b) (a.whole * b.whole) (vN f.lo x y) (x.whole * y.whole) (by omega) (by omega) (by omega) (by omega)
  have l2 := less_run (vN f.hi x y) (x.whole * y.whole) (vN t.hi a b) (a.whole * b.whole) (by omega) (by omega) (by omega) (by omega)
  have e1 : decide (vN t.lo a b * (x.whole * y.whole) < vN f.lo x y * (a.whole * b.whole)) = loB f t x y a b := rfl
  have e2 : decide (vN f.hi x y * (a.whole * b.whole) < vN t.hi a b * (x.whole * y.whole)) = hiB f t x y a b := rfl
  rw [e1] at l1
  rw [e2] at l2
  generalize loB f t x y a b = B1 at *
  generalize hiB f t x y a b = B2 at *
  simp only [Sv, vw, tw] at k1 k2 k3 k4 v1 v2 v3 v4
  refine spec_run e_curve_insideAt fun G => ?_
  simp only [go_sem, Fv, Fcs, vw, tw]
  refine dP k1 ?_
  simp only [go_sem, vw]
  refine dP k2 ?_
  simp only [go_sem, vw]
  refine dP k3 ?_
  simp only [go_sem, vw]
  refine dP k4 ?_
  simp only [go_sem, vw]
  refine dP v1 ?_
  simp only [go_sem, vw]
  refine cP v2 ?_
  simp only [go_sem, vw]
  refine cP l1 ?_
  simp only [go_sem, vw]
  cases B1
  · simp only [go_sem, vw]
    refine dP v3 ?_
    simp only [go_sem, vw]
    refine cP v4 ?_
    simp only [go_sem, vw]
    refine cP l2 ?_
    simp only [go_sem, vw]
  · simp only [go_sem, vw]
end Go.Proofs

namespace Go.Proofs
open Go Go.Sx Go.Fam
attribute [local irreducible] Run

def insB (f t : Fa) : Bool := decide (famE f = 0) && (decide (famE t = 0) && (f.g ++ t.g).all fun g => (f.p ++ t.p).all fun p => inAt f t g p)
theorem all_take {α : Type} {q : α → Bool} {l : List α} {i : Nat} (h : ∀ j x, j < i → l[j]? = some x → q x = true) (hi : l.length ≤ i) : l.all q = true := by
  rw [List.all_eq_true]
  intro x hx
  obtain ⟨j, hj⟩ := List.mem_iff_getElem?.1 hx
  exact h j x (by have := (List.getElem?_eq_some_iff.1 hj).1; omega) hj
theorem all_not {α : Type} {q : α → Bool} {l : List α} {i : Nat} {x : α} (h : l[i]? = some x) (hq : q x = false) : l.all q = false := by
  rw [Bool.eq_false_iff]
  intro h2
  rw [List.all_eq_true] at h2
  rw [h2 x (List.mem_of_getElem? h)] at hq; cases hq
theorem in_lines {a : Int} {l k : List Int} (h1 : Asc a l) (h2 : Asc a k) {x : Int} {i : Nat} (h : (l ++ k)[i]? = some x) : a ≤ x ∧ x ≤ 1000000 := by
  have : ∀ {l : List Int}, Asc a l → x ∈ l → a ≤ x ∧ x ≤ 1000000 := fun {l} hl hx => by
    obtain ⟨j, hj⟩ := List.mem_iff_getElem?.1 hx
    have hlt := (List.getElem?_eq_some_iff.1 hj).1
    have := hl.inn j hlt
    rw [get_at hlt] at hj
    cases hj; exact this
  rcases List.mem_append.1 (List.mem_of_getElem? h) with hx | hx
  · exact this h1 hx
  · exact this h2 hx
def iT (n : Nat) : List (Nat × AVal) := [(2, .ptr 0 0 0 1), (3, .ptr 1 0 0 1), (22, .sl 3 0 n), (23, .int .i64 n)]
structure InH (f t : Fa) (J : Heap) : Prop where
  r0 : J[0]? = some (some (.cells false 4 [Fv f]))
  r1 : J[1]? = some (some (.cells false 4 [Fv t]))
  r3 : J[3]? = some (some (.cells true 1 (ivL f.g ++ ivL t.g)))
theorem InH.more {f t : Fa} {J : Heap} (h : InH f t J) (Y : Heap) : InH f t (J ++ Y) := by
  have l0 := (List.getElem?_eq_some_iff.1 h.r0).1
  have l1 := (List.getElem?_eq_some_iff.1 h.r1).1
  have l3 := (List.getElem?_eq_some_iff.1 h.r3).1
  exact ⟨by rw [List.getElem?_append_left l0]; exact h.r0, by rw [List.getElem?_append_left l1]; exact h.r1, by rw [List.getElem?_append_left l3]; exact h.r3⟩

set_option maxHeartbeats 4000000 in
set_option maxRecDepth 20000 in
theorem Inside_run (f t : Fa) (hg : f.g.length ≤ 1000000) (hp : f.p.length ≤ 1000000) (hl : f.lo.length ≤ 1000000) (hh : f.hi.length ≤ 1000000) (tg : t.g.length ≤ 1000000) (tp : t.p.length ≤ 1000000) (tl : t.lo.length ≤ 1000000) (th : t.hi.length ≤ 1000000) :
    Ans Try.prog n_curve_Inside [Fv f, Fv t] [] (.bool (insB f t)) [] := by
  have k1 := Check_run f hg hp hl hh
  have k2 := Check_run t tg tp tl th
  simp only [Fv, Fcs, vw, tw] at k1 k2
  refine spec_run e_curve_Inside fun G => ?_
  simp only [go_sem, Fv, Fcs, vw, tw]
  refine cP k1 ?_
  by_cases c1 : famE f = 0
  · rw [c1]
    simp only [go_sem]
    refine cP k2 ?_
    by_cases c2 : famE t = 0
    · rw [c2]
      have hf := fam_iff.1 c1
      have ht := fam_iff.1 c2
      have gp := hf.g.pos
      have gm := hf.g.most
      have pp := hf.p.pos
      have pm := hf.p.most
      have hgp := ht.g.pos
      have hgm := ht.g.most
      have hpp := ht.p.pos
      have hpm := ht.p.most
      have q1 := Concat_run f.g t.g (by omega) (by omega)
      have q2 := Concat_run f.p t.p (by omega) (by omega)
      have glen : (f.g ++ t.g).length = f.g.length + t.g.length := List.length_append
      have plen : (f.p ++ t.p).length = f.p.length + t.p.length := List.length_append
      have eB : insB f t = (f.g ++ t.g).all fun g => (f.p ++ t.p).all fun p => inAt f t g p := by unfold insB; rw [decide_eq_true c1, decide_eq_true c2]; simp
      rw [eB]
      clear eB
      simp only [go_sem]
      refine cFN q1 6 ⟨.inl (by rw [frz_sl (n := 2) (j := 2) (g := false) (sz := 1) (es := [vw f.g, vw t.g]) rfl rfl]; simp [frz, tw, vw, Function.comp_def]), trivial⟩ ?_ (hx := by rw [← List.map_append, rowi_bel]; trivial) (hxn := by rw [← List.map_append, rowi_nv]; trivial)
      simp only [go_sem, ren]
      refine loop_ind k_curve_Inside_r14.eq_1 (fun a : Nat × Heap => a.1 ≤ f.g.length + t.g.length ∧ InH f t a.2 ∧ ∀ j x, j < a.1 → (f.g ++ t.g)[j]? = some x → ((f.p ++ t.p).all fun p => inAt f t x p) = true) (fun a => f.g.length + t.g.length - a.1)
        (fun a => (tsets 47 (iT (f.g.length + t.g.length) ++ [(24, .int .i64 a.1)]), a.2)) (0, [some (.cells false 4 [Fv f]), some (.cells false 4 [Fv t]), some (.cells false 1 [vw f.g, vw t.g]), some (.cells true 1 (ivL f.g ++ ivL t.g))]) ⟨Nat.zero_le _, ⟨rfl, rfl, rfl⟩, fun j x h => by simp at h⟩ (by simp [go_sem, iT]) (by simp [Fv, Fcs, tw, vw]) ?_
      rintro ⟨i, J⟩ ⟨hi, hH, hAll⟩ ih
      dsimp only at hi hH hAll ih ⊢
      have d0 := cells_at hH.r0
      have d1 := cells_at hH.r1
      have d3 := cells_at hH.r3
      simp only [Fv, Fcs, vw, tw] at d0 d1
      by_cases h1 : i < f.g.length + t.g.length
      · have h2 : (i : Int) < ((f.g.length + t.g.length : Nat) : Int) := by omega
        have h3 := idx_next h1 (by omega)
        have m0 : ¬ (i : Int) < 0 := by omega
        obtain ⟨x, hx⟩ : ∃ x, (f.g ++ t.g)[i]? = some x := ⟨_, List.getElem?_eq_getElem (by omega)⟩
        have hx2 : (ivL f.g ++ ivL t.g)[i]? = some (.int .i64 x) := by rw [← List.map_append, List.getElem?_map, hx]; rfl
        have bx := in_lines hf.g ht.g hx
        have e3 := fun Y => cells_more d3 Y
        have e0 := fun Y => cells_more d0 Y
        have e1 := fun Y => cells_more d1 Y
        have hlt := (List.getElem?_eq_some_iff.1 hH.r3).1
        simp only [go_sem, iT, h2, m0, d0, d1, d3, hx2, Int.toNat_natCast, List.length_map]
        refine cFN q2 6 ⟨.inl (by rw [frz_sl (n := 2) (es := [vw f.p, vw t.p]) (H := J ++ [some (Row.cells false 1 [AVal.view (ivL f.p), AVal.view (ivL t.p)])]) (j := J.length) (by rw [List.getElem?_append_right (Nat.le_refl _), Nat.sub_self]; rfl) rfl]; simp [frz, tw, vw, Function.comp_def]), trivial⟩ ?_ (hx := by rw [← List.map_append, rowi_bel]; trivial) (hxn := by rw [← List.map_append, rowi_nv]; trivial)
        simp only [go_sem, ren]
        have hK : ∃ K, K = J ++ [some (Row.cells false 1 [AVal.view (ivL f.p), AVal.view (ivL t.p)]), some (Row.cells true 1 (ivL f.p ++ ivL t.p))] := ⟨_, rfl⟩
        obtain ⟨K, hK⟩ := hK
        have g0 := e0 [some (Row.cells false 1 [AVal.view (ivL f.p), AVal.view (ivL t.p)]), some (Row.cells true 1 (ivL f.p ++ ivL t.p))]
        have g1 := e1 [some (Row.cells false 1 [AVal.view (ivL f.p), AVal.view (ivL t.p)]), some (Row.cells true 1 (ivL f.p ++ ivL t.p))]
        rw [← hK] at g0 g1
        have g3 : Heap.cellsAt K (J.length + 1) = some (true, 1, ivL f.p ++ ivL t.p) := by rw [hK]; exact cells_at (by rw [get_new rfl]; rfl)
        have hK3 : InH f t K := by rw [hK]; exact hH.more _
        refine loop_ind k_curve_Inside_r12.eq_1 (fun k : Nat => k ≤ f.p.length + t.p.length ∧ ∀ j p, j < k → (f.p ++ t.p)[j]? = some p → inAt f t x p = true) (fun k => f.p.length + t.p.length - k)
          (fun k => (tsets 47 (iT (f.g.length + t.g.length) ++ [(6, .int .i64 x), (24, .int .i64 i), (33, .sl (J.length + 1) 0 (f.p.length + t.p.length)), (34, .int .i64 ((f.p.length + t.p.length : Nat) : Int)), (35, .int .i64 k)]), K)) 0 ⟨Nat.zero_le _, fun j p h => by omega⟩ (by simp [go_sem, iT]) hK.symm ?_
        rintro k ⟨hk, hAllk⟩ ihk
        dsimp only at hk hAllk ihk ⊢
        by_cases j1 : k < f.p.length + t.p.length
        · have j2 : (k : Int) < ((f.p.length + t.p.length : Nat) : Int) := by omega
          have j3 := idx_next j1 (by omega)
          have m1 : ¬ (k : Int) < 0 := by omega
          obtain ⟨y, hy⟩ : ∃ y, (f.p ++ t.p)[k]? = some y := ⟨_, List.getElem?_eq_getElem (by omega)⟩
          have hy2 : (ivL f.p ++ ivL t.p)[k]? = some (.int .i64 y) := by rw [← List.map_append, List.getElem?_map, hy]; rfl
          have byy := in_lines hf.p ht.p hy
          have ki := insideAt_run hf ht bx byy
          simp only [Fv, Fcs, vw, tw] at ki
          simp only [go_sem, iT, j2, m1, g0, g1, g3, hy2, Int.toNat_natCast, List.length_append, List.length_map]
          refine cP ki ?_
          cases hb : inAt f t x y
          · have hE : ((f.g ++ t.g).all fun g => (f.p ++ t.p).all fun p => inAt f t g p) = false := all_not hx (all_not hy hb)
            rw [hE]
            simp only [go_sem]
          · simp only [go_sem, j3]
            refine ihk (k + 1) (by omega) ⟨by omega, fun j p hj hp' => ?_⟩ _ (by simp [go_sem, iT])
            by_cases c : j < k
            · exact hAllk j p c hp'
            · obtain rfl : j = k := by omega
              rw [hy] at hp'; cases hp'; exact hb
        · have j2 : ¬ (k : Int) < ((f.p.length + t.p.length : Nat) : Int) := by omega
          simp only [go_sem, iT, j2, h3]
          refine ih (i + 1, K) (by omega) ⟨by omega, hK3, fun j z hj hz => ?_⟩ _ (by simp [go_sem, iT])
          by_cases c : j < i
          · exact hAll j z c hz
          · obtain rfl : j = i := by omega
            rw [hx] at hz; cases hz
            exact all_take hAllk (by omega)
      · have h2 : ¬ (i : Int) < ((f.g.length + t.g.length : Nat) : Int) := by omega
        have hB := all_take hAll (by omega)
        rw [hB]
        simp only [go_sem, iT, h2]
    · have b2 : (famE t == 0) = false := beq_eq_false_iff_ne.2 c2
      have eB : insB f t = false := by unfold insB; rw [decide_eq_false c2]; simp
      rw [eB]
      simp only [go_sem, bne, b2]
  · have b1 : (famE f == 0) = false := beq_eq_false_iff_ne.2 c1
    have eB : insB f t = false := by unfold insB; rw [decide_eq_false c1]; simp
    rw [eB]
    simp only [go_sem, bne, b1]
end Go.Proofs

namespace Go.Proofs
open Go Go.Sx Go.Fam

def lin (x : Sp) (φ : Nat → Int) : Int := (x.whole - x.part) * φ x.at_ + x.part * φ (x.at_ + 1)
theorem vN_lin (t : List (List Int)) (x y : Sp) : vN t x y = lin x fun i => lin y fun k => tg t i k := by
  unfold lin vN
  generalize x.whole - x.part = a
  generalize y.whole - y.part = b
  generalize x.part = c
  generalize y.part = d
  simp only [Int.mul_add, ← Int.mul_assoc]
  omega
theorem lin_mono {n : Nat} {M : Int} {x : Sp} (h : SpOK n M x) {φ ψ : Nat → Int} (hφ : ∀ i, i < n → φ i ≤ ψ i) : lin x φ ≤ lin x ψ := by
  obtain ⟨p0, p1⟩ := h.part
  unfold lin
  have a1 : (x.whole - x.part) * φ x.at_ ≤ (x.whole - x.part) * ψ x.at_ := Int.mul_le_mul_of_nonneg_left (hφ _ h.at_) (by omega)
  by_cases hp : 0 < x.part
  · have a2 : x.part * φ (x.at_ + 1) ≤ x.part * ψ (x.at_ + 1) := Int.mul_le_mul_of_nonneg_left (hφ _ (h.next hp)) (by omega)
    omega
  · have e : x.part = 0 := by omega
    rw [e] at a1 ⊢
    rw [Int.zero_mul, Int.zero_mul]
    omega
theorem sp_g {f : Fa} (hf : FaOK f) (g : Int) : SpOK f.g.length 2000000 (spot f.g g) := spot_ok hf.g (by omega)
theorem sp_p {f : Fa} (hf : FaOK f) (p : Int) : SpOK f.p.length 1000000 (spot f.p p) := spot_ok hf.p (by omega)
theorem vN_wn {f : Fa} {t : Fa} (hi : InF t f) {x y : Sp} (hx : SpOK f.g.length 2000000 x) (hy : SpOK f.p.length 1000000 y) : vN f.lo x y ≤ vN t.lo x y ∧ vN t.hi x y ≤ vN f.hi x y := by
  rw [vN_lin, vN_lin, vN_lin t.hi, vN_lin f.hi]
  exact ⟨lin_mono hx fun i h1 => lin_mono hy fun k h2 => (hi.inn i k h1 h2).1, lin_mono hx fun i h1 => lin_mono hy fun k h2 => (hi.inn i k h1 h2).2⟩
theorem in_wn {f : Fa} (hf : FaOK f) {t : Fa} (hi : InF t f) (g p : Int) : inAt f t g p = true := by
  have hx := sp_g hf g
  have hy := sp_p hf p
  unfold inAt loB hiB
  rw [hi.g, hi.p]
  generalize spot f.g g = x at *
  generalize spot f.p p = y at *
  have w1 : 0 < x.whole := by have := hx.part; omega
  have w3 : 0 < y.whole := by have := hy.part; omega
  obtain ⟨a, b⟩ := vN_wn hi hx hy
  have hw : 0 ≤ x.whole * y.whole := Int.le_of_lt (Int.mul_pos w1 w3)
  have a' := Int.mul_le_mul_of_nonneg_right a hw
  have b' := Int.mul_le_mul_of_nonneg_right b hw
  rw [decide_eq_false (by omega), decide_eq_false (by omega)]; rfl
theorem insB_wn {f : Fa} (hf : FaOK f) {t : Fa} (ht : FaOK t) (hi : InF t f) : insB f t = true := by
  unfold insB
  rw [decide_eq_true (fam_iff.2 hf), decide_eq_true (fam_iff.2 ht), Bool.true_and, Bool.true_and, List.all_eq_true]
  exact fun g _ => List.all_eq_true.2 fun p _ => in_wn hf hi g p
theorem spot_line {a : Int} {l : List Int} (h : Asc a l) {i : Nat} (hi : i < l.length) : (spot l (at1 l i)).at_ = i ∧ (spot l (at1 l i)).part = 0 ∧ 0 < (spot l (at1 l i)).whole := by
  have hc : cnt (at1 l i) l = i + 1 := cnt_eq h hi (fun j hj => h.le (by omega) hi) fun hlt => h.lt (by omega) hlt
  unfold spot
  rw [hc, if_neg (by omega)]
  by_cases c : i + 1 = l.length
  · rw [if_pos c]; exact ⟨by dsimp only; omega, rfl, Int.zero_lt_one⟩
  · rw [if_neg c]
    have := h.lt (i := i) (j := i + 1) (by omega) (by omega)
    exact ⟨by dsimp only; omega, by dsimp only; rw [Nat.add_sub_cancel]; omega, by dsimp only; rw [Nat.add_sub_cancel]; omega⟩
theorem vN_line {t : List (List Int)} {x y : Sp} (hx : x.part = 0) (hy : y.part = 0) : vN t x y = x.whole * y.whole * tg t x.at_ y.at_ := by
  unfold vN; rw [hx, hy]; simp
theorem insB_iff {f t : Fa} (hf : FaOK f) (ht : FaOK t) (hg : t.g = f.g) (hp : t.p = f.p) : insB f t = true ↔ InF t f := by
  refine ⟨fun h => ⟨hg, hp, fun i k hi hk => ?_⟩, insB_wn hf ht⟩
  unfold insB at h
  rw [decide_eq_true (fam_iff.2 hf), decide_eq_true (fam_iff.2 ht), Bool.true_and, Bool.true_and, List.all_eq_true] at h
  have m1 : at1 f.g i ∈ f.g ++ t.g := List.mem_append_left _ (List.mem_of_getElem? (get_at hi))
  have m2 : at1 f.p k ∈ f.p ++ t.p := List.mem_append_left _ (List.mem_of_getElem? (get_at hk))
  have h := (List.all_eq_true.1 (h _ m1)) _ m2
  unfold inAt loB hiB at h
  rw [hg, hp] at h
  obtain ⟨a1, a2, a3⟩ := spot_line hf.g hi
  obtain ⟨b1, b2, b3⟩ := spot_line hf.p hk
  rw [vN_line a2 b2, vN_line a2 b2, vN_line a2 b2, vN_line a2 b2, a1, b1] at h
  have hw := Int.mul_pos a3 b3
  generalize (spot f.g (at1 f.g i)).whole * (spot f.p (at1 f.p k)).whole = D at *
  simp only [Bool.and_eq_true, Bool.not_eq_true', decide_eq_false_iff_not, Int.not_lt] at h
  obtain ⟨h1, h2⟩ := h
  rw [Int.mul_comm D, Int.mul_assoc, Int.mul_comm D (tg t.lo i k), Int.mul_assoc] at h1
  rw [Int.mul_comm D, Int.mul_assoc, Int.mul_comm D (tg f.hi i k), Int.mul_assoc] at h2
  have hDD := Int.mul_pos hw hw
  exact ⟨Int.le_of_mul_le_mul_right h1 hDD, Int.le_of_mul_le_mul_right h2 hDD⟩
end Go.Proofs

namespace Go.Proofs
open Go Go.Sx Go.Fam
attribute [local irreducible] Run

def wF (a : Nat) : Prop := a = 0 ∨ a = 1 ∨ a = 2 ∨ a = 5
structure WnH (f : Fa) (J : Heap) (w : Int) (v0 v1 v2 v3 : AVal) : Prop where
  r0 : J[0]? = some (some (Dr w))
  r1 : J[1]? = some (some (.cells false 4 [Fv f]))
  r2 : J[2]? = some (some (.cells false 4 [.agg [.nilsl, .nilsl, .nilsl, .nilsl]]))
  r5 : J[5]? = some (some (.cells false 4 [.agg [v0, v1, v2, v3]]))
theorem WnH.mono {f : Fa} {J J' : Heap} {w w' : Int} {v0 v1 v2 v3 : AVal} (h : WnH f J w v0 v1 v2 v3) (h0 : J'[0]? = some (some (Dr w'))) (hJ : ∀ q, wF q → q ≠ 0 → q < J.length → J'[q]? = J[q]?) : WnH f J' w' v0 v1 v2 v3 :=
  ⟨h0, by rw [hJ 1 (by simp [wF]) (by decide) (List.getElem?_eq_some_iff.1 h.r1).1]; exact h.r1, by rw [hJ 2 (by simp [wF]) (by decide) (List.getElem?_eq_some_iff.1 h.r2).1]; exact h.r2, by rw [hJ 5 (by simp [wF]) (by decide) (List.getElem?_eq_some_iff.1 h.r5).1]; exact h.r5⟩
def WnI (f : Fa) (J : Heap) (w : Int) (L U : List (List Int)) (lo hi : List Int) (v0 v1 v2 v3 v4 v5 : AVal) : Prop := WnH f J w v0 v1 v2 v3 ∧ ∃ κ0 κ1 κ2 κ3 κ4 κ5, FS wF J f.g f.p L U lo hi v0 v1 v2 v3 v4 v5 κ0 κ1 κ2 κ3 κ4 κ5
def wT (b : Bool) : List (Nat × AVal) := [(0, .ptr 0 0 0 1), (2, .bool b), (4, .ptr 1 0 0 1), (6, .ptr 2 0 0 1), (7, .ptr 5 0 0 1)]

set_option maxHeartbeats 16000000 in
set_option maxRecDepth 20000 in
theorem within_true {f : Fa} (hf : FaOK f) (w0 : Int) : Go.Sx.Fn Try.prog n_kit_WithinFamily [.ptr 0 0 0 1, Fv f, .bool true] [some (Dr w0)] fun v H' => ∃ ι, Dat 6 H' ι v (Fv (wnF f true w0)) ∧ ι.Nodup ∧ 0 ∉ ι ∧ H'[0]? = some (some (Dr (wnT f true w0).w)) := by
  obtain ⟨tL, tH, sL, sH⟩ := hf.tabs
  have g0 : f.g ≠ [] := by have := hf.g.pos; intro e; rw [e] at this; simp at this
  have p0 : f.p ≠ [] := by have := hf.p.pos; intro e; rw [e] at this; simp at this
  have gl0 := hf.g.pos
  have pl0 := hf.p.pos
  have gm := hf.g.most
  have pm := hf.p.most
  have o1 := Own_run f.g (by omega)
  have o2 := Own_run f.p (by omega)
  simp only [vw] at o1 o2
  refine run_fn e_kit_WithinFamily fun G => ?_
  simp only [go_sem, Fv, Fcs, tw, vw]
  refine dFN o1 6 [] ?_ ?_
  · exact ⟨.inl (by simp [frz, Function.comp_def]), trivial⟩
  simp only [go_sem, ren]
  refine dFN o2 6 [] ?_ ?_
  · exact ⟨.inl (by simp [frz, Function.comp_def]), trivial⟩
  simp only [go_sem, ren]
  obtain ⟨T, hT⟩ : ∃ T, wnT f true w0 = T := ⟨_, rfl⟩
  have hw : wnF f true w0 = ⟨f.g, f.p, T.lo, T.hi⟩ := by unfold wnF; rw [hT]
  rw [hw, hT]
  have hI0 : WnI f [some (Dr w0), some (.cells false 4 [Fv f]), some (.cells false 4 [.agg [.nilsl, .nilsl, .nilsl, .nilsl]]), some (.cells true 1 (ivL f.g)), some (.cells true 1 (ivL f.p)), some (.cells false 4 [.agg [.sl 3 0 f.g.length, .sl 4 0 f.p.length, .nilsl, .nilsl]])] w0 [] [] [] []
      (.sl 3 0 f.g.length) (.sl 4 0 f.p.length) .nilsl .nilsl .nilsl .nilsl := by
    refine ⟨⟨rfl, rfl, rfl, rfl⟩, [3], [4], [], [], [], [], fun a ha => by unfold wF at ha; simp; omega, vw_put g0 rfl rfl, vw_put p0 rfl rfl, ⟨rfl, rfl, rfl⟩, ⟨rfl, rfl, rfl⟩, ⟨rfl, rfl, rfl⟩, ⟨rfl, rfl, rfl⟩, fun a => ?_, fun a ha => ?_⟩
    · simp only [List.count_cons, List.count_nil, beq_iff_eq]
      split <;> split <;> omega
    · unfold wF at ha
      simp only [List.count_cons, List.count_nil, beq_iff_eq]
      rw [if_neg (by omega), if_neg (by omega)]
  refine loop_ind k_kit_WithinFamily_r24.eq_1 (fun a : Nat × Int × Heap × List (List Int) × List (List Int) × AVal × AVal × AVal × AVal => ∃ m, f.g.length = a.1 + m ∧ gTab (wcell f true) f.p.length m a.2.1 a.2.2.2.1 a.2.2.2.2.1 = T ∧ a.2.2.2.1.length = a.1 ∧ TabI (wnE f true) f.p.length a.2.2.2.1 a.2.2.2.2.1 ∧
      WnI f a.2.2.1 a.2.1 a.2.2.2.1 a.2.2.2.2.1 [] [] a.2.2.2.2.2.1 a.2.2.2.2.2.2.1 a.2.2.2.2.2.2.2.1 a.2.2.2.2.2.2.2.2 .nilsl .nilsl) (fun a => f.g.length - a.1)
    (fun a => (tsets 132 (wT true ++ [(8, .int .i64 a.1)]), a.2.2.1)) (0, w0, _, [], [], .sl 3 0 f.g.length, .sl 4 0 f.p.length, .nilsl, .nilsl) ⟨f.g.length, by simp, hT, rfl, tab0, hI0⟩ (by simp [go_sem, wT]) (by simp [Fv, Fcs, tw, vw]) ?_
  rintro ⟨i, w, J, L, U, v0, v1, v2, v3⟩ ⟨m, hm, hG, hL, hTab, hI⟩ ih
  dsimp only at hm hG hL hTab hI ih ⊢
  have hU : U.length = i := by rw [hTab.len, hL]
  by_cases h1 : i < f.g.length
  · have h2 : (i : Int) < f.g.length := by omega
    have m0 : ¬ (i : Int) < 0 := by omega
    have h3 := idx_next h1 (by omega)
    obtain ⟨m, rfl⟩ : ∃ n, m = n + 1 := ⟨m - 1, by omega⟩
    obtain ⟨Ur, hUr⟩ : ∃ Ur, lastOf L U = Ur := ⟨_, rfl⟩
    simp only [gTab, hUr] at hG
    obtain ⟨R, hR⟩ : ∃ R, gRow (wcell f true i) Ur f.p.length w [] [] = R := ⟨_, rfl⟩
    rw [hL, hR] at hG
    have hUE : ∀ j q, j < f.p.length → upOf Ur j = some q → ∃ i', i = i' + 1 ∧ wnE f true i' j q := fun j q hj hq => by
      rw [← hUr] at hq
      unfold lastOf upOf at hq
      split at hq
      · cases hq
      · cases hq
        have := hTab.e (L.length - 1) j (by omega) hj
        rw [show U.getD (L.length - 1) [] = U.getD (L.length - 1) [] from rfl] 
        exact ⟨L.length - 1, by omega, this⟩
    have hc := wcell_ok hf true
    obtain ⟨rl, hrl', ll⟩ := tL.row i h1
    obtain ⟨rh, hrh', lh⟩ := tH.row i h1
    have c0 := cells_at hI.1.r1
    simp only [Fv, Fcs, vw, tw] at c0
    simp only [go_sem, wT, h2, c0, List.length_map]
    refine loop_ind k_kit_WithinFamily_r21.eq_1 (fun a : Nat × Int × Heap × List Int × List Int × AVal × AVal => ∃ m, f.p.length = a.1 + m ∧ gRow (wcell f true i) Ur m a.2.1 a.2.2.2.1 a.2.2.2.2.1 = R ∧ a.2.2.2.1.length = a.1 ∧ RowI (wnE f true) i Ur a.2.2.2.1 a.2.2.2.2.1 ∧
        WnI f a.2.2.1 a.2.1 L U a.2.2.2.1 a.2.2.2.2.1 v0 v1 v2 v3 a.2.2.2.2.2.1 a.2.2.2.2.2.2) (fun a => f.p.length - a.1)
      (fun a => (tsets 132 (wT true ++ [(8, .int .i64 i), (9, a.2.2.2.2.2.1), (10, a.2.2.2.2.2.2), (11, .int .i64 a.1)]), a.2.2.1)) (0, w, J, [], [], .nilsl, .nilsl) ⟨f.p.length, by simp, hR, rfl, ⟨rfl, by simp, by simp, by simp⟩, hI⟩ (by simp [go_sem, wT]) rfl ?_
    rintro ⟨k, w, J, lo, hi, v4, v5⟩ ⟨n, hn, hRg, hlo, hRow, hR'⟩ ihk
    clear hI
    dsimp only at hn hRg hlo hRow hR' ihk ⊢
    obtain ⟨hH, κ0, κ1, κ2, κ3, κ4, κ5, hF⟩ := hR'
    obtain ⟨f0, f1, f2, f5⟩ := hH
    have hhi : hi.length = k := by rw [hRow.len, hlo]
    have c0 := cells_at f1
    simp only [Fv, Fcs, vw, tw] at c0
    by_cases j1 : k < f.p.length
    · have j2 : (k : Int) < f.p.length := by omega
      have m1 : ¬ (k : Int) < 0 := by omega
      have j3 := idx_next j1 (by omega)
      obtain ⟨n, rfl⟩ : ∃ q, n = q + 1 := ⟨n - 1, by omega⟩
      simp only [gRow, hlo] at hRg
      have y1 := get_at (l := rl) (i := k) (by omega)
      have y2 := get_at (l := rh) (i := k) (by omega)
      rw [← tg_get hrl'] at y1
      rw [← tg_get hrh'] at y2
      have hk0 := hf.inn i k h1 j1
      have hcell := hc.ok i k w (upOf Ur k) (prevOf lo hi) h1 j1 (fun q hq => hUE k q j1 hq) (fun q hq => by
        unfold prevOf at hq
        split at hq
        · cases hq
        · cases hq
          exact ⟨lo.length - 1, by omega, hRow.e _ (by omega)⟩)
      have hrow' := hRow.snoc (by rw [hlo]; exact hcell.1) (by rw [hlo]; exact hcell.2.1) hcell.2.2
      have ihn := fun J' v4' v5' hh => ihk (k + 1, (wcell f true i k w (upOf Ur k) (prevOf lo hi)).w, J', lo ++ [(wcell f true i k w (upOf Ur k) (prevOf lo hi)).lo], hi ++ [(wcell f true i k w (upOf Ur k) (prevOf lo hi)).hi], v4', v5') (by omega) ⟨n, by omega, hRg, by simp; omega, hrow', hh⟩
      clear ihk hRg hrow'
      dsimp only at ihn
      have kb := between_ok w (tg f.lo i k) (tg f.hi i k) (by omega) (by omega) (by omega)
      have bi := btw_in (w := w) (lo := tg f.lo i k) (hi := tg f.hi i k) (by omega)
      obtain ⟨A, hA⟩ : ∃ x, btw w (tg f.lo i k) (tg f.hi i k) = x := ⟨_, rfl⟩
      obtain ⟨wA, hwA⟩ : ∃ x, dstep w = x := ⟨_, rfl⟩
      rw [hA, hwA] at kb
      rw [hA] at bi
      have z5 := hF.len 5 (by simp [wF])
      have l0 := (List.getElem?_eq_some_iff.1 f0).1
      have hset : ∀ X : Row, (J.set 0 (some X))[0]? = some (some X) := fun X => List.getElem?_set_self l0
      have off : ∀ {j : Nat} {g : Bool} {sz : Nat} {es : List AVal}, J[j]? = some (some (.cells g sz es)) → j ≠ 0 → ∀ X, Heap.cellsAt (J.set 0 X) j = some (g, sz, es) := fun h hj X => cells_at (by rw [List.getElem?_set_ne (fun e => hj e.symm)]; exact h)
      have hF2 : ∀ X, FS wF (J.set 0 X) f.g f.p L U lo hi v0 v1 v2 v3 v4 v5 κ0 κ1 κ2 κ3 κ4 κ5 := fun X => hF.fix (fun q hq => List.getElem?_set_ne (fun e => hq (by simp [wF, ← e]))) (fun a ha => by have := hF.len a ha; simpa using this)
      have hlen : ∀ X, (J.set 0 X).length = J.length := fun X => List.length_set
      have o1 : ∀ X, Heap.cellsAt (J.set 0 X) 1 = _ := fun X => off f1 (by decide) X
      simp only [Fv, Fcs, vw, tw] at o1
      have o5 : ∀ X, Heap.cellsAt (J.set 0 X) 5 = _ := fun X => off f5 (by decide) X
      by_cases i0 : i = 0
      · skip
        have k1 : ¬ (i : Int) > 0 := by omega
        have hU0 : Ur = none := by rw [← hUr]; unfold lastOf; rw [if_pos (by omega)]
        have eu : upOf Ur k = none := by rw [hU0]; rfl
        rw [eu] at ihn hcell
        by_cases k0 : k = 0
        · skip
          have k2 : ¬ (k : Int) > 0 := by omega
          have : lo = [] := List.length_eq_zero_iff.1 (by omega)
          subst this
          have : hi = [] := List.length_eq_zero_iff.1 (by omega)
          subst this
          have ep : prevOf [] [] = none := rfl
          rw [ep] at ihn hcell
          obtain ⟨e4, e5, -⟩ := hF.first
          subst e4; subst e5
          have ec : wcell f true i k w (none) (none) = ⟨A, A, wA⟩ := by subst hA; subst hwA; rfl
          rw [ec] at ihn hcell
          dsimp only at ihn
          clear hcell hRow hUE hc
          simp only [go_sem, wT, j2, vw, List.length_map, m0, m1, hrl', hrh', y1, y2, Int.toNat_natCast, c0]
          refine cD kb ?_ (hj := f0) (hk := by omega)
          simp only [go_sem, List.set_set, e_mx, k1, k2, j3, Int.toNat_natCast, o1, o5, List.length_map, vw]
          refine ⟨by decide, by decide, ?_⟩
          exact ihn _ _ _ ⟨WnH.mono ⟨f0, f1, f2, f5⟩ (by rw [List.getElem?_append_left (by rw [hlen]; omega)]; exact hset _) (fun q hq q0 hl => by rw [List.getElem?_append_left (by rw [hlen]; exact hl), List.getElem?_set_ne (fun e => q0 e.symm)]), _, _, _, _, _, _,
            (hF2 (Dr wA)).first.2.2 _ ((J.set 0 (some (Dr wA))).length + 1) ((J.set 0 (some (Dr wA))).length + 3) A A (by omega) (by omega) (by omega) (fun q _ hq => List.getElem?_append_left hq) (by rw [get_new rfl]; rfl) (by rw [get_new rfl]; rfl)⟩ _ (by simp [go_sem, wT])
        · skip
          have k2 : (k : Int) > 0 := by omega
          obtain ⟨j, rfl⟩ : ∃ j, k = j + 1 := ⟨k - 1, by omega⟩
          have lo0 : lo ≠ [] := by rintro rfl; simp at hlo
          have hi0 : hi ≠ [] := by rintro rfl; simp at hhi
          have l1 := get_at (l := lo) (i := j) (by omega)
          have l2 := get_at (l := hi) (i := j) (by omega)
          have ep : prevOf lo hi = some (at1 lo j, at1 hi j) := by unfold prevOf; rw [if_neg (by omega), hlo, Nat.add_sub_cancel]
          rw [ep] at ihn hcell
          obtain ⟨p1, hp1⟩ : ∃ x, at1 lo j = x := ⟨_, rfl⟩
          obtain ⟨p2, hp2⟩ : ∃ x, at1 hi j = x := ⟨_, rfl⟩
          rw [hp1] at l1 ihn hcell
          rw [hp2] at l2 ihn hcell
          have x4 : IntKind.i64.wrap (((j + 1 : Nat) : Int) - 1) = j := by rw [w64 (by omega)]; omega
          have n4 : ¬ (j : Int) < 0 := by omega
          have y3 : (j : Int) < lo.length := by omega
          have y4 : (j : Int) < hi.length := by omega
          have z3 : (lo.length + 1) * 8 ≤ 2 ^ 44 := by omega
          have z4 : (hi.length + 1) * 8 ≤ 2 ^ 44 := by omega
          obtain ⟨r, s, e4, e5, hrs, hr, hs, g4, g5, -⟩ := hF.next lo0 hi0
          have r0 : r ≠ 0 := by rintro rfl; exact hr (by simp [wF])
          have s0 : s ≠ 0 := by rintro rfl; exact hs (by simp [wF])
          have d1 := off g4 r0
          have d2 := off g5 s0
          have hrl := (List.getElem?_eq_some_iff.1 g4).1
          have hsl := (List.getElem?_eq_some_iff.1 g5).1
          have q1 := fun X Y => cells_more (d1 X) Y
          have q2 := fun X Y x => put_more (H := J.set 0 X) (j := r) (by rw [List.length_set]; exact hrl) Y x
          have q3 := fun X x Y => cells_more (H := (J.set 0 X).set r x) (j := s) (cells_at (by rw [List.getElem?_set_ne hrs, List.getElem?_set_ne (fun e => s0 e.symm)]; exact g5)) Y
          have q4 := fun X z Y x => put_more (H := (J.set 0 X).set r z) (j := s) (by simpa using hsl) Y x
          have ec : wcell f true i (j + 1) w (none) (some (p1, p2)) = ⟨mx A p1, mx A p1, wA⟩ := by subst hA; subst hwA; rfl
          rw [ec] at ihn hcell
          dsimp only at ihn
          obtain ⟨C, hC⟩ : ∃ x, mx A p1 = x := ⟨_, rfl⟩
          rw [hC] at ihn
          obtain ⟨r', s', e4', e5', -, -, -, -, -, hnn⟩ := (hF2 (Dr wA)).next lo0 hi0
          subst e4; subst e5
          obtain rfl : r = r' := by simpa using e4'
          obtain rfl : s = s' := by simpa using e5'
          clear hcell hRow hUE hc
          simp only [go_sem, wT, j2, vw, List.length_map, m0, m1, hrl', hrh', y1, y2, Int.toNat_natCast, c0]
          refine cD kb ?_ (hj := f0) (hk := by omega)
          simp only [go_sem, List.set_set, e_mx, k1, k2, j3, Int.toNat_natCast, o1, o5, List.length_map, vw, d1, d2, l1, l2, x4, n4, y3, y4, z3, z4, q1, q2, q3, q4, hC]
          have hrl' : r < (J.set 0 (some (Dr wA))).length := by rw [hlen]; exact hrl
          have hsl' : s < (J.set 0 (some (Dr wA))).length := by rw [hlen]; exact hsl
          have nF : ∀ q, wF q → q ≠ r ∧ q ≠ s := fun q hq => ⟨fun e => hr (by rw [← e]; exact hq), fun e => hs (by rw [← e]; exact hq)⟩
          exact ihn _ _ _ ⟨WnH.mono ⟨f0, f1, f2, f5⟩ (by rw [two_off (by rw [hlen]; omega) (nF 0 (by simp [wF])).1 (nF 0 (by simp [wF])).2]; exact hset _) (fun q hq q0 hl => by rw [two_off (by rw [hlen]; exact hl) (nF q hq).1 (nF q hq).2, List.getElem?_set_ne (fun e => q0 e.symm)]), _, _, _, _, _, _,
            hnn _ C C (fun q _ hl a b => two_off hl a b) (two_r hrl' hrs) (two_s hsl') (fun a ha => by have := hF.len a ha; simp; omega)⟩ _ (by simp [go_sem, wT])
      · skip
        have k1 : (i : Int) > 0 := by omega
        obtain ⟨i', rfl⟩ : ∃ q, i = q + 1 := ⟨i - 1, by omega⟩
        have L0 : L ≠ [] := by rintro rfl; simp at hL
        have U0 : U ≠ [] := by rintro rfl; simp at hU
        obtain ⟨ra, hra⟩ : ∃ x, L[i']? = some x := ⟨_, List.getElem?_eq_getElem (by omega)⟩
        obtain ⟨rb, hrb⟩ : ∃ x, U[i']? = some x := ⟨_, List.getElem?_eq_getElem (by omega)⟩
        have la := hTab.l ra (List.mem_of_getElem? hra)
        have lb := hTab.h rb (List.mem_of_getElem? hrb)
        have hU0 : Ur = some (ra, rb) := by
          rw [← hUr]; unfold lastOf; rw [if_neg (by omega), hL]
          simp only [Nat.add_sub_cancel]
          rw [List.getD_eq_getElem?_getD, List.getD_eq_getElem?_getD, hra, hrb]; rfl
        have eu : upOf Ur k = some (at1 ra k, at1 rb k) := by rw [hU0]; rfl
        rw [eu] at ihn hcell
        obtain ⟨tr, ts, vs, us, ta, tb, ev2, ev3, nr, ns, na, nb, gr, gs, lvs, lus, gva, gub, ga, gb⟩ := hF.read L0 U0 hra hrb
        have tr0 : tr ≠ 0 := by rintro rfl; exact nr (by simp [wF])
        have ts0 : ts ≠ 0 := by rintro rfl; exact ns (by simp [wF])
        have ta0 : ta ≠ 0 := by rintro rfl; exact na (by simp [wF])
        have tb0 : tb ≠ 0 := by rintro rfl; exact nb (by simp [wF])
        have t1 := off gr tr0
        have t2 := off gs ts0
        have t3 := off ga ta0
        have t4 := off gb tb0
        have l5 := get_at (l := ra) (i := k) (by omega)
        have l6 := get_at (l := rb) (i := k) (by omega)
        obtain ⟨Q1, hQ1⟩ : ∃ x, at1 ra k = x := ⟨_, rfl⟩
        obtain ⟨Q2, hQ2⟩ : ∃ x, at1 rb k = x := ⟨_, rfl⟩
        rw [hQ1] at l5 ihn hcell
        rw [hQ2] at l6 ihn hcell
        have x5 : IntKind.i64.wrap (((i' + 1 : Nat) : Int) - 1) = i' := by rw [w64 (by omega)]; omega
        have n5 : ¬ (i' : Int) < 0 := by omega
        have n6 : ¬ (k : Int) < 0 := by omega
        have y5 : (i' : Int) < L.length := by omega
        have y6 : (i' : Int) < U.length := by omega
        have y7 : (k : Int) < ra.length := by omega
        have y8 : (k : Int) < rb.length := by omega
        subst ev2; subst ev3
        by_cases k0 : k = 0
        · skip
          have k2 : ¬ (k : Int) > 0 := by omega
          have : lo = [] := List.length_eq_zero_iff.1 (by omega)
          subst this
          have : hi = [] := List.length_eq_zero_iff.1 (by omega)
          subst this
          have ep : prevOf [] [] = none := rfl
          rw [ep] at ihn hcell
          obtain ⟨e4, e5, -⟩ := hF.first
          subst e4; subst e5
          have ec : wcell f true (i' + 1) k w (some (Q1, Q2)) (none) = ⟨mx A Q1, mx A Q1, wA⟩ := by subst hA; subst hwA; rfl
          rw [ec] at ihn hcell
          dsimp only at ihn
          obtain ⟨C, hC⟩ : ∃ x, mx A Q1 = x := ⟨_, rfl⟩
          rw [hC] at ihn
          clear hcell hRow hUE hc
          simp only [go_sem, wT, j2, vw, List.length_map, m0, m1, hrl', hrh', y1, y2, Int.toNat_natCast, c0]
          refine cD kb ?_ (hj := f0) (hk := by omega)
          simp only [go_sem, List.set_set, e_mx, k1, k2, j3, Int.toNat_natCast, o1, o5, List.length_map, vw, x5, n5, n6, y5, y6, y7, y8, gva, gub, lvs, lus, t1, t2, t3, t4, l5, l6, hC]
          refine ⟨by decide, by decide, ?_⟩
          exact ihn _ _ _ ⟨WnH.mono ⟨f0, f1, f2, f5⟩ (by rw [List.getElem?_append_left (by rw [hlen]; omega)]; exact hset _) (fun q hq q0 hl => by rw [List.getElem?_append_left (by rw [hlen]; exact hl), List.getElem?_set_ne (fun e => q0 e.symm)]), _, _, _, _, _, _,
            (hF2 (Dr wA)).first.2.2 _ ((J.set 0 (some (Dr wA))).length + 1) ((J.set 0 (some (Dr wA))).length + 3) C C (by omega) (by omega) (by omega) (fun q _ hq => List.getElem?_append_left hq) (by rw [get_new rfl]; rfl) (by rw [get_new rfl]; rfl)⟩ _ (by simp [go_sem, wT])
        · skip
          have k2 : (k : Int) > 0 := by omega
          obtain ⟨j, rfl⟩ : ∃ j, k = j + 1 := ⟨k - 1, by omega⟩
          have lo0 : lo ≠ [] := by rintro rfl; simp at hlo
          have hi0 : hi ≠ [] := by rintro rfl; simp at hhi
          have l1 := get_at (l := lo) (i := j) (by omega)
          have l2 := get_at (l := hi) (i := j) (by omega)
          have ep : prevOf lo hi = some (at1 lo j, at1 hi j) := by unfold prevOf; rw [if_neg (by omega), hlo, Nat.add_sub_cancel]
          rw [ep] at ihn hcell
          obtain ⟨p1, hp1⟩ : ∃ x, at1 lo j = x := ⟨_, rfl⟩
          obtain ⟨p2, hp2⟩ : ∃ x, at1 hi j = x := ⟨_, rfl⟩
          rw [hp1] at l1 ihn hcell
          rw [hp2] at l2 ihn hcell
          have x4 : IntKind.i64.wrap (((j + 1 : Nat) : Int) - 1) = j := by rw [w64 (by omega)]; omega
          have n4 : ¬ (j : Int) < 0 := by omega
          have y3 : (j : Int) < lo.length := by omega
          have y4 : (j : Int) < hi.length := by omega
          have z3 : (lo.length + 1) * 8 ≤ 2 ^ 44 := by omega
          have z4 : (hi.length + 1) * 8 ≤ 2 ^ 44 := by omega
          obtain ⟨r, s, e4, e5, hrs, hr, hs, g4, g5, -⟩ := hF.next lo0 hi0
          have r0 : r ≠ 0 := by rintro rfl; exact hr (by simp [wF])
          have s0 : s ≠ 0 := by rintro rfl; exact hs (by simp [wF])
          have d1 := off g4 r0
          have d2 := off g5 s0
          have hrl := (List.getElem?_eq_some_iff.1 g4).1
          have hsl := (List.getElem?_eq_some_iff.1 g5).1
          have q1 := fun X Y => cells_more (d1 X) Y
          have q2 := fun X Y x => put_more (H := J.set 0 X) (j := r) (by rw [List.length_set]; exact hrl) Y x
          have q3 := fun X x Y => cells_more (H := (J.set 0 X).set r x) (j := s) (cells_at (by rw [List.getElem?_set_ne hrs, List.getElem?_set_ne (fun e => s0 e.symm)]; exact g5)) Y
          have q4 := fun X z Y x => put_more (H := (J.set 0 X).set r z) (j := s) (by simpa using hsl) Y x
          have ec : wcell f true (i' + 1) (j + 1) w (some (Q1, Q2)) (some (p1, p2)) = ⟨mx (mx A Q1) p1, mx (mx A Q1) p1, wA⟩ := by subst hA; subst hwA; rfl
          rw [ec] at ihn hcell
          dsimp only at ihn
          obtain ⟨C, hC⟩ : ∃ x, mx (mx A Q1) p1 = x := ⟨_, rfl⟩
          rw [hC] at ihn
          obtain ⟨r', s', e4', e5', -, -, -, -, -, hnn⟩ := (hF2 (Dr wA)).next lo0 hi0
          subst e4; subst e5
          obtain rfl : r = r' := by simpa using e4'
          obtain rfl : s = s' := by simpa using e5'
          clear hcell hRow hUE hc
          simp only [go_sem, wT, j2, vw, List.length_map, m0, m1, hrl', hrh', y1, y2, Int.toNat_natCast, c0]
          refine cD kb ?_ (hj := f0) (hk := by omega)
          simp only [go_sem, List.set_set, e_mx, k1, k2, j3, Int.toNat_natCast, o1, o5, List.length_map, vw, x5, n5, n6, y5, y6, y7, y8, gva, gub, lvs, lus, t1, t2, t3, t4, l5, l6, d1, d2, l1, l2, x4, n4, y3, y4, z3, z4, q1, q2, q3, q4, hC]
          have hrl' : r < (J.set 0 (some (Dr wA))).length := by rw [hlen]; exact hrl
          have hsl' : s < (J.set 0 (some (Dr wA))).length := by rw [hlen]; exact hsl
          have nF : ∀ q, wF q → q ≠ r ∧ q ≠ s := fun q hq => ⟨fun e => hr (by rw [← e]; exact hq), fun e => hs (by rw [← e]; exact hq)⟩
          exact ihn _ _ _ ⟨WnH.mono ⟨f0, f1, f2, f5⟩ (by rw [two_off (by rw [hlen]; omega) (nF 0 (by simp [wF])).1 (nF 0 (by simp [wF])).2]; exact hset _) (fun q hq q0 hl => by rw [two_off (by rw [hlen]; exact hl) (nF q hq).1 (nF q hq).2, List.getElem?_set_ne (fun e => q0 e.symm)]), _, _, _, _, _, _,
            hnn _ C C (fun q _ hl a b => two_off hl a b) (two_r hrl' hrs) (two_s hsl') (fun a ha => by have := hF.len a ha; simp; omega)⟩ _ (by simp [go_sem, wT])
    · have j2 : ¬ (k : Int) < f.p.length := by omega
      obtain rfl : n = 0 := by omega
      simp only [gRow] at hRg
      subst hRg
      dsimp only at hG
      have kp : k = f.p.length := by omega
      have lo0 : lo ≠ [] := by rintro rfl; simp at hlo; omega
      have hi0 : hi ≠ [] := by rintro rfl; simp at hhi; omega
      have ihn := fun J' v0' v1' v2' v3' hh => ih (i + 1, w, J', L ++ [lo], U ++ [hi], v0', v1', v2', v3') (by omega) ⟨m, by omega, hG, by simp; omega, hTab.snoc (by rw [hUr, hL]; exact hRow) (by omega), hh⟩
      clear ih ihk
      dsimp only at ihn
      have c5 := cells_at f5
      have z0 := hF.len 5 (by simp [wF])
      obtain ⟨r4, e4, -, -⟩ := ls_get hF.d4 lo0
      obtain ⟨r5, e5, -, -⟩ := ls_get hF.d5 hi0
      subst e4; subst e5
      have hlt5 := (List.getElem?_eq_some_iff.1 f5).1
      have q1 := fun Y => cells_more c5 Y
      by_cases i0 : i = 0
      · have : L = [] := List.length_eq_zero_iff.1 (by omega)
        subst this
        have : U = [] := List.length_eq_zero_iff.1 (by omega)
        subst this
        obtain ⟨e2, e3, hn⟩ := hF.row1 lo0 hi0
        subst e2; subst e3
        have q2 := fun Y x => put_more (H := J) hlt5 Y x
        have q3 := fun g sz es Y => cells_more (H := J.set 5 (some (Row.cells g sz es))) (j := 5) (cells_at (List.getElem?_set_self hlt5)) Y
        have q4 := fun z Y x => put_more (H := J.set 5 z) (j := 5) (by simpa using hlt5) Y x
        simp only [go_sem, wT, j2, vw, List.length_map, c0, c5, h3, q1, q2, q3, q4, List.set_set]
        refine ⟨(by first | (simp; done) | (simp; omega)), by decide, (by first | (simp; done) | (simp; omega)), (by first | (simp; done) | (simp; omega)), (by first | (simp; done) | (simp; omega)), by decide, (by first | (simp; done) | (simp; omega)), ?_⟩
        have off : ∀ (A : Option Row) (Y : Heap) (q : Nat), q < J.length → q ≠ 5 → (J.set 5 A ++ Y)[q]? = J[q]? := fun A Y q hq hn => by rw [List.getElem?_append_left (by simpa using hq), List.getElem?_set_ne (fun e => hn e.symm)]
        have at5 : ∀ (A : Option Row) (Y : Heap), (J.set 5 A ++ Y)[5]? = some A := fun A Y => by rw [List.getElem?_append_left (by simpa using hlt5), List.getElem?_set_self hlt5]
        exact ihn _ _ _ _ _ ⟨⟨by rw [off _ _ 0 (by omega) (by omega)]; exact f0, by rw [off _ _ 1 (by omega) (by omega)]; exact f1, by rw [off _ _ 2 (by omega) (by omega)]; exact f2, at5 _ _⟩, _, _, _, _, _, _, hn _ (J.length + 1) (J.length + 3) (by omega) (by omega) (by omega) (fun q hnF hq => off _ _ q hq (by rintro rfl; exact hnF (by simp [wF]))) (by rw [get_new (by simp)]; rfl) (by rw [get_new (by simp)]; rfl)⟩ _ (by simp [go_sem, wT])
      · have L0 : L ≠ [] := by rintro rfl; simp at hL; omega
        have U0 : U ≠ [] := by rintro rfl; simp at hU; omega
        obtain ⟨r, s, vs, us, κ2', κ3', e2, e3, hrs, hr, hs, g2, g3, l2, l3, hn⟩ := hF.rows L0 U0 lo0 hi0
        subst e2; subst e3
        have hrl := (List.getElem?_eq_some_iff.1 g2).1
        have hsl := (List.getElem?_eq_some_iff.1 g3).1
        have r5' : r ≠ 5 := by rintro rfl; exact hr (by simp [wF])
        have s5' : s ≠ 5 := by rintro rfl; exact hs (by simp [wF])
        have z1 : (L.length + 1) * 24 ≤ 2 ^ 44 := by omega
        have z2 : (U.length + 1) * 24 ≤ 2 ^ 44 := by omega
        have a1 := fun Y => cells_more (cells_at g2) Y
        have a2 := fun Y x => put_more (H := J) hrl Y x
        have a3 := fun x Y => cells_more (H := J.set r x) (j := 5) (cells_at (by rw [List.getElem?_set_ne r5']; exact f5)) Y
        have a4 := fun x Y => cells_more (H := J.set r x) (j := s) (cells_at (by rw [List.getElem?_set_ne hrs]; exact g3)) Y
        have a5 := fun z Y x => put_more (H := J.set r z) (j := s) (by simpa using hsl) Y x
        have a6 := fun x y Y => cells_more (H := (J.set r x).set s y) (j := 5) (cells_at (by rw [List.getElem?_set_ne s5', List.getElem?_set_ne r5']; exact f5)) Y
        have a7 := fun z y Y x => put_more (H := (J.set r z).set s y) (j := 5) (by simpa using hlt5) Y x
        have a8 := fun x y g sz es Y => cells_more (H := ((J.set r x).set s y).set 5 (some (Row.cells g sz es))) (j := 5) (cells_at (List.getElem?_set_self (by simpa using hlt5))) Y
        have a9 := fun z y w Y x => put_more (H := ((J.set r z).set s y).set 5 w) (j := 5) (by simpa using hlt5) Y x
        simp only [go_sem, wT, j2, vw, List.length_map, c0, c5, h3, q1, a1, a2, a3, a4, a5, a6, a7, a8, a9, List.set_set, z1, z2, l2, l3]
        simp only [List.length_set]
        refine ⟨(by first | (simp; done) | (simp; omega)), (by first | (simp; done) | (simp; omega)), (by first | (simp; done) | (simp; omega)), (by first | (simp; done) | (simp; omega)), (by first | (simp; done) | (simp; omega)), ?_⟩
        have off : ∀ (A B C : Option Row) (Y : Heap) (q : Nat), q < J.length → q ≠ r → q ≠ s → q ≠ 5 → (((J.set r A).set s B).set 5 C ++ Y)[q]? = J[q]? := fun A B C Y q hq n1 n2 n3 => by
          rw [List.getElem?_append_left (by simpa using hq), List.getElem?_set_ne (fun e => n3 e.symm), List.getElem?_set_ne (fun e => n2 e.symm), List.getElem?_set_ne (fun e => n1 e.symm)]
        have at5 : ∀ (A B C : Option Row) (Y : Heap), (((J.set r A).set s B).set 5 C ++ Y)[5]? = some C := fun A B C Y => by rw [List.getElem?_append_left (by simpa using hlt5), List.getElem?_set_self (by simpa using hlt5)]
        have atr : ∀ (A B C : Option Row) (Y : Heap), (((J.set r A).set s B).set 5 C ++ Y)[r]? = some A := fun A B C Y => by
          rw [List.getElem?_append_left (by simpa using hrl), List.getElem?_set_ne (fun e => r5' e.symm), List.getElem?_set_ne (fun e => hrs e.symm), List.getElem?_set_self hrl]
        have ats : ∀ (A B C : Option Row) (Y : Heap), (((J.set r A).set s B).set 5 C ++ Y)[s]? = some B := fun A B C Y => by
          rw [List.getElem?_append_left (by simpa using hsl), List.getElem?_set_ne (fun e => s5' e.symm), List.getElem?_set_self (by simpa using hsl)]
        have nr : ∀ q, wF q → q ≠ r := fun q hq e => hr (by rw [← e]; exact hq)
        have ns : ∀ q, wF q → q ≠ s := fun q hq e => hs (by rw [← e]; exact hq)
        exact ihn _ _ _ _ _ ⟨⟨by rw [off _ _ _ _ 0 (by omega) (nr 0 (by simp [wF])) (ns 0 (by simp [wF])) (by omega)]; exact f0, by rw [off _ _ _ _ 1 (by omega) (nr 1 (by simp [wF])) (ns 1 (by simp [wF])) (by omega)]; exact f1, by rw [off _ _ _ _ 2 (by omega) (nr 2 (by simp [wF])) (ns 2 (by simp [wF])) (by omega)]; exact f2, at5 _ _ _ _⟩, _, _, _, _, _, _,
          hn _ (fun q hnF hq n1 n2 => off _ _ _ _ q hq n1 n2 (by rintro rfl; exact hnF (by simp [wF]))) (atr _ _ _ _) (ats _ _ _ _) (fun a ha => by have := hF.len a ha; simp; omega)⟩ _ (by simp [go_sem, wT])
  · have h2 : ¬ (i : Int) < f.g.length := by omega
    obtain rfl : m = 0 := by omega
    simp only [gTab] at hG
    subst hG
    obtain ⟨⟨f0, f1, f2, f5⟩, κ0, κ1, κ2, κ3, κ4, κ5, hF⟩ := hI
    have L0 : L ≠ [] := by rintro rfl; simp at hL; omega
    have U0 : U ≠ [] := by rintro rfl; simp at hU; omega
    obtain ⟨ι, hD, hnd, hge⟩ := hF.all L0 U0
    obtain ⟨_, b0, e0, -, -⟩ := vw_get hF.d0
    obtain ⟨_, b1, e1, -, -⟩ := vw_get hF.d1
    obtain ⟨b2, _, _, e2, -, -, -⟩ := tb_get hF.d2 L0
    obtain ⟨b3, _, _, e3, -, -, -⟩ := tb_get hF.d3 U0
    subst e0; subst e1; subst e2; subst e3
    have c0 := cells_at f1
    simp only [Fv, Fcs, vw, tw] at c0
    have c5 := cells_at f5
    have c2 := cells_at f2
    have hlt2 := (List.getElem?_eq_some_iff.1 f2).1
    have q1 := fun x => put_lt (H := J) (x := x) hlt2
    have q2 := fun g sz es => cells_at (H := J.set 2 (some (Row.cells g sz es))) (j := 2) (List.getElem?_set_self hlt2)
    simp only [go_sem, wT, h2, vw, List.length_map, c0, c5, c2, q1, q2]
    exact ⟨ι, hD.set _ (fun h => hge 2 h (by simp [wF])), hnd, fun h => hge 0 h (by simp [wF]), by rw [List.getElem?_set_ne (by omega)]; exact f0⟩
end Go.Proofs

