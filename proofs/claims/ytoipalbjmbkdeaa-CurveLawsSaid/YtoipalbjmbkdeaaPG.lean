/- A part of the proof. -/
import Derived.Test.YtoipalbjmbkdeaaPF
set_option linter.unusedSimpArgs false
set_option linter.unusedVariables false
namespace Go.Proofs
open Go Go.Sx Go.Fam
attribute [local irreducible] Run

def oG (g p : List Int) (m : Nat) : List (Nat × AVal) := [(1, vw g), (2, vw p), (3, .ptr 0 0 0 1), (6, .ptr 1 0 0 1), (7, .int .i64 0), (10, .ptr m 0 0 1), (32, vw g), (33, .int .i64 g.length)]
structure OgI (l : Lw) (g p : List Int) (m : Nat) (ι : List Nat) (v0 v1 v2 v3 : AVal) (J : Heap) (L U : List (List Int)) : Prop where
  r0 : J[0]? = some (some (.cells false 10 [l.v]))
  r1 : J[1]? = some (some (.cells false 4 [.agg [.nilsl, .nilsl, .nilsl, .nilsl]]))
  rm : J[m]? = some (some (.cells false 4 [.agg [v0, v1, v2, v3]]))
  dat : Dat 6 J ι (.agg [v0, v1, v2, v3]) (Fv ⟨g, p, L, U⟩)
def tI (f : Rg → Int) (l : Lw) (g p : List Int) (i : Nat) : List (List Int) := ofT f l (g.take i) p ++ zT (g.length - i) p.length
def rK (f : Rg → Int) (l : Lw) (x : Int) (p : List Int) (k : Nat) : List Int := rowT f l x (p.take k) ++ zeros (p.length - k)
def tK (f : Rg → Int) (l : Lw) (g p : List Int) (i : Nat) (x : Int) (k : Nat) : List (List Int) := ofT f l (g.take i) p ++ rK f l x p k :: zT (g.length - (i + 1)) p.length
theorem zT_cons (m n : Nat) : zT (m + 1) n = zeros n :: zT m n := List.replicate_succ
theorem zeros_cons (n : Nat) : zeros (n + 1) = 0 :: zeros n := List.replicate_succ
theorem ofT_len (f : Rg → Int) (l : Lw) (g p : List Int) : (ofT f l g p).length = g.length := by simp [ofT]
theorem rowT_len (f : Rg → Int) (l : Lw) (x : Int) (p : List Int) : (rowT f l x p).length = p.length := by simp [rowT]
theorem zeros_len (n : Nat) : (zeros n).length = n := by simp [zeros]
theorem zT_len (m n : Nat) : (zT m n).length = m := by simp [zT]
theorem rK_len {f : Rg → Int} {l : Lw} {x : Int} {p : List Int} {k : Nat} (hk : k ≤ p.length) : (rK f l x p k).length = p.length := by
  unfold rK; rw [List.length_append, rowT_len, zeros_len, List.length_take]; omega
theorem tK_len {f : Rg → Int} {l : Lw} {g p : List Int} {i k : Nat} {x : Int} (hi : i < g.length) : (tK f l g p i x k).length = g.length := by
  unfold tK; rw [List.length_append, ofT_len, List.length_cons, zT_len, List.length_take]; omega
theorem tI_enter {f : Rg → Int} {l : Lw} {g p : List Int} {i : Nat} (x : Int) (hi : i < g.length) : tI f l g p i = tK f l g p i x 0 := by
  unfold tI tK rK
  rw [show g.length - i = (g.length - (i + 1)) + 1 by omega, zT_cons]; rfl
theorem tK_at {f : Rg → Int} {l : Lw} {g p : List Int} {i k : Nat} {x : Int} (hi : i < g.length) : (tK f l g p i x k)[i]? = some (rK f l x p k) := by
  unfold tK
  have : (ofT f l (g.take i) p).length = i := by rw [ofT_len, List.length_take]; omega
  rw [List.getElem?_append_right (by omega), this, Nat.sub_self]; rfl
theorem tK_set {f : Rg → Int} {l : Lw} {g p : List Int} {i k : Nat} {x : Int} (hi : i < g.length) : (tK f l g p i x k).set i (rK f l x p (k + 1)) = tK f l g p i x (k + 1) := by
  unfold tK
  have : (ofT f l (g.take i) p).length = i := by rw [ofT_len, List.length_take]; omega
  rw [List.set_append_right _ _ (by omega), this, Nat.sub_self]; rfl
theorem rK_set {f : Rg → Int} {l : Lw} {x y : Int} {p : List Int} {k : Nat} (hk : k < p.length) (hy : p[k]? = some y) : (rK f l x p k).set k (f (curOf l x y)) = rK f l x p (k + 1) := by
  unfold rK
  have e1 : (rowT f l x (p.take k)).length = k := by rw [rowT_len, List.length_take]; omega
  have e2 : rowT f l x (p.take (k + 1)) = rowT f l x (p.take k) ++ [f (curOf l x y)] := by unfold rowT; rw [List.take_add_one, hy, List.map_append]; rfl
  rw [List.set_append_right _ _ (by omega), e1, Nat.sub_self, show p.length - k = (p.length - (k + 1)) + 1 by omega, zeros_cons, e2, List.append_assoc]; rfl
theorem rK_all (f : Rg → Int) (l : Lw) (x : Int) (p : List Int) : rK f l x p p.length = rowT f l x p := by
  unfold rK; rw [List.take_length, Nat.sub_self]; exact List.append_nil _
theorem tK_leave {f : Rg → Int} {l : Lw} {g p : List Int} {i : Nat} {x : Int} (hi : i < g.length) (hx : g[i]? = some x) : tK f l g p i x p.length = tI f l g p (i + 1) := by
  unfold tK tI
  rw [rK_all]
  have : ofT f l (g.take (i + 1)) p = ofT f l (g.take i) p ++ [rowT f l x p] := by unfold ofT rowT; rw [List.take_add_one, hx, List.map_append]; rfl
  rw [this, List.append_assoc]; rfl
theorem tI_all (f : Rg → Int) (l : Lw) (g p : List Int) : tI f l g p g.length = ofT f l g p := by
  unfold tI; rw [List.take_length, Nat.sub_self]; exact List.append_nil _
theorem rK_at {f : Rg → Int} {l : Lw} {x : Int} {p : List Int} {k : Nat} (hk : k < p.length) : (rK f l x p k)[k]? = some 0 := by
  unfold rK
  have e1 : (rowT f l x (p.take k)).length = k := by rw [rowT_len, List.length_take]; omega
  rw [List.getElem?_append_right (by omega), e1, Nat.sub_self, show p.length - k = (p.length - (k + 1)) + 1 by omega, zeros_cons]; rfl
theorem ivL_set (l : List Int) (k : Nat) (x : Int) : (ivL l).set k (.int .i64 x) = ivL (l.set k x) := by unfold ivL; rw [List.map_set]
set_option maxHeartbeats 4000000 in
set_option maxRecDepth 20000 in
theorem Of_fn (l : Lw) (h : LwOK l) (g p : List Int) (hg : Asc (-1000000) g) (hp : Asc 0 p) : Go.Sx.Fn Try.prog n_curve_Of [l.v, vw g, vw p] [] fun v H' => ∃ ι, Dat 7 H' ι v (.tup [Fv (ofF l g p), .int .i64 0]) ∧ ι.Nodup := by
  have g0 : g ≠ [] := by have := hg.pos; rintro rfl; simp at this
  have p0 : p ≠ [] := by have := hp.pos; rintro rfl; simp at this
  have gm := hg.most
  have pm := hp.most
  have k1 := checkLaw_raw l
  rw [lawE_of h] at k1
  have k2 := checkLines_run g p (by omega) (by omega)
  rw [line_iff.2 ⟨hg, hp⟩] at k2
  have k3 := linesOf_run g0 p0 gm pm
  have kp := zF_pure g0 p0
  refine run_fn e_curve_Of fun G => ?_
  simp only [Lw.v, Lw.cs] at k1
  simp only [go_sem, Lw.v, Lw.cs]
  refine cP k1 ?_
  simp only [go_sem]
  refine cP k2 ?_
  simp only [go_sem]
  refine cFD k3 kp 2 ⟨.inl (by simp [vw, frz, Function.comp_def]), .inl (by simp [vw, frz, Function.comp_def]), trivial⟩ ?_
  obtain ⟨u0, u1, u2, u3, e⟩ := thaw_fv (zF g p) 2
  have hD := fun (A : Heap) (hA : A.length = 2) => thaw_dat (H := A ++ (thaw 6 2 (Fv (zF g p))).2) 2 kp fun i hi => by rw [get_new hA]
  simp only [List.length_cons, List.length_nil, e] at hD ⊢
  generalize (thaw 6 2 (Fv (zF g p))).2 = Y at *
  simp only [go_sem, vw, List.length_map]
  obtain ⟨ι, hι⟩ : ∃ x, upFrom 2 Y.length = x := ⟨_, rfl⟩
  have hι' : ∀ r, r ∈ ι ↔ 2 ≤ r ∧ r < 2 + Y.length := fun r => by rw [← hι]; exact upFrom_mem
  have hnd : ι.Nodup := by rw [← hι]; exact upFrom_nodup _ _
  rw [hι] at hD
  have z0 : zT g.length p.length = tI Rg.lo l g p 0 := by unfold tI; rfl
  have z1 : zT g.length p.length = tI Rg.hi l g p 0 := by unfold tI; rfl
  have hI0 : ∀ (Z : Heap), Z = some (.cells false 10 [l.v]) :: some (.cells false 4 [.agg [.nilsl, .nilsl, .nilsl, .nilsl]]) :: (Y ++ [some (.cells false 4 [.agg [AVal.sl u0 0 g.length, AVal.sl u1 0 p.length, AVal.sl u2 0 g.length, AVal.sl u3 0 g.length]])]) →
      OgI l g p (Y.length + 1 + 1) ι (.sl u0 0 g.length) (.sl u1 0 p.length) (.sl u2 0 g.length) (.sl u3 0 g.length) Z (tI Rg.lo l g p 0) (tI Rg.hi l g p 0) := by
    rintro Z rfl
    refine ⟨rfl, rfl, ?_, ?_⟩
    · simp
    · have := (hD [some (.cells false 10 [l.v]), some (.cells false 4 [.agg [.nilsl, .nilsl, .nilsl, .nilsl]])] rfl).app [some (.cells false 4 [.agg [AVal.sl u0 0 g.length, AVal.sl u1 0 p.length, AVal.sl u2 0 g.length, AVal.sl u3 0 g.length]])] (fun r hr => by rw [hι'] at hr; simp; omega)
      have e1 : zF g p = ⟨g, p, tI Rg.lo l g p 0, tI Rg.hi l g p 0⟩ := by unfold zF; rw [← z0, ← z1]
      rw [e1] at this
      have zl : ∀ f : Rg → Int, (tI f l g p 0).length = g.length := fun f => by unfold tI; simp [ofT, zT]
      simp only [zl] at this
      exact this
  have zg : (zF g p).g.length = g.length ∧ (zF g p).p.length = p.length ∧ (zF g p).lo.length = g.length ∧ (zF g p).hi.length = g.length := ⟨rfl, rfl, zT_len _ _, zT_len _ _⟩
  rw [zg.1, zg.2.1, zg.2.2.1, zg.2.2.2]
  have hm2 : 2 ≤ Y.length + 1 + 1 := by omega
  have hmι : Y.length + 1 + 1 ∉ ι := fun h => by rw [hι'] at h; omega
  have h0ι : 0 ∉ ι := fun h => by rw [hι'] at h; omega
  have h1ι : 1 ∉ ι := fun h => by rw [hι'] at h; omega
  generalize Y.length + 1 + 1 = m at *
  clear k1 k2 k3 kp hD hι z0 z1 zg
  refine loop_ind k_curve_Of_r19.eq_1 (fun a : Nat × Heap => a.1 ≤ g.length ∧ OgI l g p m ι (.sl u0 0 g.length) (.sl u1 0 p.length) (.sl u2 0 g.length) (.sl u3 0 g.length) a.2 (tI Rg.lo l g p a.1) (tI Rg.hi l g p a.1)) (fun a => g.length - a.1)
    (fun a => (tsets 71 (oG g p m ++ [(34, .int .i64 a.1)]), a.2)) (0, _) ⟨Nat.zero_le _, hI0 _ rfl⟩ (by simp [go_sem, oG, vw]) (by simp [Lw.v, Lw.cs]) ?_
  rintro ⟨i, J⟩ ⟨hi, hI⟩ ih
  dsimp only at hi hI ih ⊢
  by_cases h1 : i < g.length
  · have h2 : (i : Int) < g.length := by omega
    have m0 : ¬ (i : Int) < 0 := by omega
    have h3 := idx_next h1 (by omega)
    have hx := get_at h1
    obtain ⟨x, hxe⟩ : ∃ x, at1 g i = x := ⟨_, rfl⟩
    have hxr := hg.inn i h1
    rw [hxe] at hx hxr
    rw [tI_enter x h1, tI_enter x h1] at hI
    simp only [go_sem, oG, h2, vw, List.length_map, m0, hx, Int.toNat_natCast]
    refine loop_ind k_curve_Of_r17.eq_1 (fun a1 : Nat × Heap => a1.1 ≤ p.length ∧ OgI l g p m ι (.sl u0 0 g.length) (.sl u1 0 p.length) (.sl u2 0 g.length) (.sl u3 0 g.length) a1.2 (tK Rg.lo l g p i x a1.1) (tK Rg.hi l g p i x a1.1)) (fun a => p.length - a.1)
      (fun a => (tsets 71 (oG g p m ++ [(34, .int .i64 i), (11, .int .i64 i), (12, .int .i64 x), (39, vw p), (40, .int .i64 p.length), (41, .int .i64 a.1)]), a.2)) (0, J) ⟨Nat.zero_le _, hI⟩ (by simp [go_sem, oG, vw]) rfl ?_
    rintro ⟨k, J⟩ ⟨hk, hR⟩ ihk
    dsimp only at hk hR ihk ⊢
    by_cases j1 : k < p.length
    · have j2 : (k : Int) < p.length := by omega
      have m1 : ¬ (k : Int) < 0 := by omega
      have j3 := idx_next j1 (by omega)
      have hy := get_at j1
      obtain ⟨y, hye⟩ : ∃ y, at1 p k = y := ⟨_, rfl⟩
      have hyr := hp.inn k j1
      rw [hye] at hy hyr
      have kc := current_ok l h x y (by omega) (by omega)
      obtain ⟨f0, f1, fm, hd⟩ := hR
      have ihn := fun J' hh => ihk (k + 1, J') (by omega) ⟨j1, hh⟩
      clear ihk ih
      dsimp only at ihn
      have c0 := cells_at f0
      have cm := cells_at fm
      simp only [Lw.v, Lw.cs, Rg.v] at kc c0
      obtain ⟨r, s, vs, us, q, t, e2, e3, gr, gs, lv, lu, gi, gj, gq, gt, hq, ht, hqt, up⟩ := fam_upd hd hnd (tK_at h1) (tK_at h1)
      rw [tK_len h1] at e2 e3 lv lu
      cases e2; cases e3
      rw [rK_len (by omega)] at gi gj
      have q0 := fun Y => cells_more cm Y
      have q1 := fun Y => cells_more (cells_at gr) Y
      have q2 := fun Y => cells_more (cells_at gs) Y
      have q3 := fun Y => cells_more (cells_at gq) Y
      have q4 := fun Y => cells_more (cells_at gt) Y
      simp only [go_sem, oG, j2, vw, List.length_map, m1, m0, hx, hy, h2, Int.toNat_natCast, c0]
      refine cP kc ?_
      have hql := (List.getElem?_eq_some_iff.1 gq).1
      have htl := (List.getElem?_eq_some_iff.1 gt).1
      have w1 := rK_len (f := Rg.lo) (l := l) (x := x) (p := p) (k := k) (by omega)
      have w2 := rK_len (f := Rg.hi) (l := l) (x := x) (p := p) (k := k) (by omega)
      have w3 := rK_at (f := Rg.lo) (l := l) (x := x) j1
      have w4 := rK_at (f := Rg.hi) (l := l) (x := x) j1
      have w5 := rK_set (f := Rg.lo) (l := l) (x := x) j1 hy
      have w6 := rK_set (f := Rg.hi) (l := l) (x := x) j1 hy
      have q5 := fun Y x => put_more (H := J) hql Y x
      have q6 := fun x Y => cells_more (H := J.set q x) (j := t) (cells_at (by rw [List.getElem?_set_ne hqt]; exact gt)) Y
      have q7 := fun z Y x => put_more (H := J.set q z) (j := t) (by simpa using htl) Y x
      simp only [go_sem, oG, j2, j3, vw, List.length_map, m1, m0, h2, Int.toNat_natCast, q0, q1, q2, q3, q4, lv, lu, gi, gj, w1, w2, w3, w4, q5, q6, q7, ivL_set, w5, w6]
      have ne : ∀ f : Rg → Int, rK f l x p (k + 1) ≠ [] := fun f e => by
        have := rK_len (f := f) (l := l) (x := x) (p := p) (k := k + 1) (by omega)
        rw [e] at this
        exact p0 (List.length_eq_zero_iff.1 this.symm)
      have nq : ∀ a, a ∉ ι → a ≠ q ∧ a ≠ t := fun a ha => ⟨by rintro rfl; exact ha hq, by rintro rfl; exact ha ht⟩
      have l0 := (List.getElem?_eq_some_iff.1 f0).1
      have l1 := (List.getElem?_eq_some_iff.1 f1).1
      have lm := (List.getElem?_eq_some_iff.1 fm).1
      refine ⟨by rw [show (J.length == q) = false from beq_eq_false_iff_ne.2 (by omega)]; rfl, ihn _ ⟨?_, ?_, ?_, ?_⟩ _ (by simp [go_sem, oG, vw])⟩
      · rw [two_off l0 (nq 0 h0ι).1 (nq 0 h0ι).2]; exact f0
      · rw [two_off l1 (nq 1 h1ι).1 (nq 1 h1ι).2]; exact f1
      · rw [two_off lm (nq m hmι).1 (nq m hmι).2]; exact fm
      · have := up ((J.set q (some (Row.cells true 1 (ivL (rK Rg.lo l x p (k + 1)))))).set t (some (Row.cells true 1 (ivL (rK Rg.hi l x p (k + 1))))) ++ [some (Row.cells false 2 [AVal.agg [AVal.int IntKind.i64 (curOf l x y).lo, AVal.int IntKind.i64 (curOf l x y).hi]])]) (rK Rg.lo l x p (k + 1)) (rK Rg.hi l x p (k + 1)) (ne _) (ne _)
          (by rw [rK_len (by omega), rK_len (by omega)]) (by rw [rK_len (by omega), rK_len (by omega)]) (fun a ha n1 n2 => two_off (hd.lt a ha) n1 n2) (two_r hql hqt) (two_s htl)
        rw [tK_set h1, tK_set h1] at this
        exact this
    · have j2 : ¬ (k : Int) < p.length := by omega
      obtain rfl : k = p.length := by omega
      rw [tK_leave h1 hx, tK_leave h1 hx] at hR
      clear ihk
      simp only [go_sem, oG, j2, vw, List.length_map, h3]
      exact ih (i + 1, J) (by omega) ⟨h1, hR⟩ _ (by simp [go_sem, oG, vw])
  · have h2 : ¬ (i : Int) < g.length := by omega
    obtain rfl : i = g.length := by omega
    rw [tI_all, tI_all] at hI
    obtain ⟨f0, f1, fm, hd⟩ := hI
    have cm := cells_at fm
    have c1 := cells_at f1
    have hlt1 := (List.getElem?_eq_some_iff.1 f1).1
    have q1 := fun x => put_lt (H := J) (x := x) hlt1
    have q2 := fun g sz es => cells_at (H := J.set 1 (some (Row.cells g sz es))) (j := 1) (List.getElem?_set_self hlt1)
    simp only [go_sem, oG, h2, vw, List.length_map, cm, c1, q1, q2]
    exact ⟨ι, ⟨_, rfl, ι, [], by simp, hd.set _ h1ι, [], [], rfl, .int _ _ _ _, rfl⟩, hnd⟩
theorem Of_run (l : Lw) (h : LwOK l) {g p : List Int} (hg : Asc (-1000000) g) (hp : Asc 0 p) : Ans Try.prog n_curve_Of [l.v, vw g, vw p] [] (thaw 7 0 (ofC l g p)).1 (thaw 7 0 (ofC l g p)).2 :=
  ans_dat0 (ofC_pure l (by have := hg.pos; rintro rfl; simp at this) (by have := hp.pos; rintro rfl; simp at this)) (Of_fn l h g p hg hp)
end Go.Proofs

namespace Go.Sx
open Go
section
variable {P : Program} {g : FuncId} {c : AVal} {d : Nat} {G : Ctx} {H : Heap} {k : Nat} {rd : Option Nat} {R : Runner} {l : List AOper} {fs : List Frame} {ρ : List AVal} {ms : List Nat} {Q : Goal} {dst : Option Nat}
  {ao : AOper} {lo hi : Nat} {tr : List (List Nat × List Nat)} {ss : List (List AOper)} {args ys : List AVal}
theorem dFD (h : Ans P g ys [] (thaw d 0 c).1 (thaw d 0 c).2) (hp : Pure d c) (e : Nat) (deps : List Nat) (hys : Sx.lss (args.map (frz e (H.onlyR deps))) ys)
    (hK : R (.grp lo l (tr ++ [(deps, upFrom H.length (thaw d H.length c).2.length)]) hi ss) fs ⟨setD ρ ao.dst (thaw d H.length c).1, H ++ (thaw d H.length c).2, ms⟩ Q)
    (hms : ∀ q ∈ ms, q < H.length := by simp) (hd : dynOK ao.free deps (upFrom H.length (thaw d H.length c).2.length) tr lo = true := by first | (simp only [go_sem]; done) | (simp [go_sem]; done) | (simp [go_sem]; omega)) : DCallR P R g args ao lo l tr hi ss fs ρ H ms Q := by
  have hw := thaw_wf 0 hp
  have hσ : ∀ i, outσ [] H.length (0 + i) = H.length + (0 + i) := fun i => by simp [outσ]
  obtain ⟨e1, e2⟩ := thaw_ren (σ := outσ [] H.length) (k' := H.length) 0 0 hp fun i _ => hσ i
  rw [Nat.add_zero] at e1 e2
  have e3 : H.puts (outΔ (outσ [] H.length) 0 (thaw d 0 c).2) = H ++ (thaw d H.length c).2 := by
    rw [puts_from (thaw_rows hp 0) fun i _ => by rw [hσ, Nat.zero_add], e2]
  have e4 : (outΔ (outσ [] H.length) 0 (thaw d 0 c).2).map (·.1) = upFrom H.length (thaw d H.length c).2.length := by
    rw [outΔ_names (N := H.length) (thaw_rows hp 0) fun i _ => by rw [hσ, Nat.zero_add], thaw_len hp 0 H.length]
  have h1 := (h.lss hys).dfrz (H := H) (args := args) e deps rfl (hw.2.1.mono fun r hr => by omega) hw.2.2 (by simpa using full_thaw (A := []) hp 0 rfl fun i hi => by omega) (by simpa using fullnv_thaw (A := []) hp 0 trivial)
  rw [e1] at h1
  refine dcallR (deps := deps) h1 ⟨fun q hq => ?_, fun q hq => ?_, ?_, ?_⟩
  · show q ∉ (outΔ _ _ _).map (·.1)
    rw [e4]
    have := hms q hq
    simp only [upFrom_mem]; omega
  · rw [mem_newNames] at hq
    refine ⟨hq.1, ?_⟩
    show q < (H.puts (outΔ _ _ _)).length
    rw [e3, List.length_append, ← thaw_len hp 0 H.length]
    omega
  · show dynOK _ _ ((outΔ _ _ _).map (·.1)) _ _ = true
    rw [e4]; exact hd
  · show R (.grp lo l (tr ++ [(deps, (outΔ _ _ _).map (·.1))]) hi ss) fs ⟨_, H.puts (outΔ _ _ _), ms⟩ Q
    rw [e4, e3]; exact hK
end
end Go.Sx
namespace Go.Proofs
open Go Go.Sx Go.Fam
attribute [local irreducible] Run
def ofE (l : Lw) (g p : List Int) : Int := if lawE l = 0 then lineE g p else lawE l
def noF (e : Int) : AVal := .tup [.agg [.nilsl, .nilsl, .nilsl, .nilsl], .int .i64 e]
theorem Of_bad (l : Lw) (g p : List Int) (hg : g.length ≤ 1000000) (hp : p.length ≤ 1000000) (h : ofE l g p ≠ 0) : Ans Try.prog n_curve_Of [l.v, vw g, vw p] [] (noF (ofE l g p)) [] := by
  have k1 := checkLaw_raw l
  have k2 := checkLines_run g p (by omega) (by omega)
  simp only [Lw.v, Lw.cs] at k1
  unfold noF ofE at *
  refine spec_run e_curve_Of fun G => ?_
  simp only [go_sem, Lw.v, Lw.cs]
  refine cP k1 ?_
  by_cases c : lawE l = 0
  · rw [if_pos c] at h ⊢
    simp only [go_sem, c]
    refine cP k2 ?_
    simp only [go_sem, h]
  · rw [if_neg c] at h ⊢
    simp only [go_sem, c]
theorem rOf_bad (l : Lw) (g p : List Int) (hg : g.length ≤ 1000000) (hp : p.length ≤ 1000000) (h : ofE l g p ≠ 0) : Ans Try.prog n_ref02_Of [l.v, vw g, vw p] [] (noF (ofE l g p)) [] := by
  have k1 := rcheckLaw_raw l
  have k2 := rcheckLines_run g p (by omega) (by omega)
  simp only [Lw.v, Lw.cs] at k1
  unfold noF ofE at *
  refine spec_run e_ref02_Of fun G => ?_
  simp only [go_sem, Lw.v, Lw.cs]
  refine cP k1 ?_
  by_cases c : lawE l = 0
  · rw [if_pos c] at h ⊢
    simp only [go_sem, c]
    refine cP k2 ?_
    simp only [go_sem, h]
  · rw [if_neg c] at h ⊢
    simp only [go_sem, c]
theorem ofE_ok {l : Lw} {g p : List Int} (h : ofE l g p = 0) : LwOK l ∧ Asc (-1000000) g ∧ Asc 0 p := by
  unfold ofE at h
  by_cases c : lawE l = 0
  · rw [if_pos c] at h; exact ⟨lawE_ok c, line_iff.1 h⟩
  · rw [if_neg c] at h; exact absurd h c
end Go.Proofs

namespace Go.Proofs
open Go Go.Sx Go.Fam
attribute [local irreducible] Run

def Bd1 (m : Int) (l : List Int) : Prop := ∀ x ∈ l, 0 ≤ x ∧ x ≤ m
theorem Bd1.at1 {m : Int} {l : List Int} (h : Bd1 m l) {i : Nat} (hi : i < l.length) : 0 ≤ Go.Fam.at1 l i ∧ Go.Fam.at1 l i ≤ m := by
  have := get_at hi
  exact h _ (List.mem_of_getElem? this)
theorem FS.g2 {F : Nat → Prop} {J : Heap} {g p : List Int} {L U : List (List Int)} {lo hi : List Int} {v0 v1 v2 v3 v4 v5 : AVal} {κ2 κ3 κ4 κ5 : List Nat} (h : FS F J g p L U lo hi v0 v1 v2 v3 v4 v5 [2] [3] κ2 κ3 κ4 κ5) : v0 = .sl 2 0 g.length ∧ v1 = .sl 3 0 p.length ∧ J[2]? = some (some (.cells true 1 (ivL g))) ∧ J[3]? = some (some (.cells true 1 (ivL p))) := by
  obtain ⟨_, a, e1, e2, e3⟩ := vw_get h.d0
  obtain ⟨_, b, e4, e5, e6⟩ := vw_get h.d1
  obtain rfl : 2 = a := by simpa using e2
  obtain rfl : 3 = b := by simpa using e5
  exact ⟨e1, e4, e3, e6⟩
theorem Bd1.snoc {m x : Int} {l : List Int} (h : Bd1 m l) (hx : 0 ≤ x ∧ x ≤ m) : Bd1 m (l ++ [x]) := fun y hy => by
  rcases List.mem_append.1 hy with hy | hy
  · exact h y hy
  · obtain rfl : y = x := by simpa using hy
    exact hx
end Go.Proofs

namespace Go.Proofs
open Go Go.Sx Go.Fam
attribute [local irreducible] Run

end Go.Proofs

namespace Go.Proofs
open Go Go.Sx
def yes : Option (AVal × Heap) → Bool
  | some (.bool b, _) => b
  | _ => false
theorem yes_ans {P : Program} (hm : P.follows .mixedOrders = true) {tab : Nat → Option AFun} (hT : ∀ g af, tab g = some af → EntryOK P g af) {m n g : Nat} (h : yes (exFn tab m n g [] []) = true) : Ans P g [] [] (.bool true) [] := by
  match hx : exFn tab m n g [] [] with
  | none => rw [hx] at h; cases h
  | some (v, H') =>
    rw [hx] at h
    cases v <;> try (cases h; done)
    rename_i b
    have hb : b = true := h
    subst hb
    exact (spec_ex hm hT hx).mono fun v H'' hv => ⟨hv.1, H'', rfl⟩
end Go.Proofs

namespace Go.Proofs
open Go Go.Sx
theorem awake_yes : yes (exFn tab 3000 40 n_law02_awake [] []) = true := by kernel_rfl
theorem awake_ok : Ans Try.prog n_law02_awake [] [] (.bool true) [] := yes_ans mixed tab_ok awake_yes
end Go.Proofs

namespace Go.Proofs
open Go Go.Sx Go.Fam
attribute [local irreducible] Run

def lngB (t : List (List Int)) : Bool := t.any fun r => decide (50 < r.length)
theorem long_run (t : List (List Int)) (ht : t.length ≤ 1000000) : Ans Try.prog n_law02_long [tw t] [] (.bool (lngB t)) [] := by
  refine spec_run e_law02_long fun G => ?_
  simp only [go_sem, tw]
  refine loop_ind k_law02_long_r6.eq_1 (fun i : Nat => i ≤ t.length ∧ lngB (t.drop i) = lngB t) (fun i => t.length - i)
    (fun i => (tsets 16 [(0, .view (t.map vw)), (2, .bool false), (3, .int .i64 i)], [])) 0 ⟨Nat.zero_le _, rfl⟩ (by simp [go_sem]) rfl ?_
  rintro i ⟨hi, hE⟩ ih
  by_cases h1 : i < t.length
  · have h2 : (i : Int) < t.length := by omega
    have m0 : ¬ (i : Int) < 0 := by omega
    have h3 := idx_next h1 (by omega)
    obtain ⟨r, hr⟩ : ∃ r, t[i]? = some r := ⟨_, List.getElem?_eq_getElem h1⟩
    have hd : t.drop i = r :: t.drop (i + 1) := by rw [List.drop_eq_getElem_cons h1]; congr 1; rw [List.getElem?_eq_getElem h1] at hr; simpa using hr
    rw [hd] at hE
    by_cases c : (r.length : Int) > 50
    · have : lngB t = true := by rw [← hE]; unfold lngB; rw [List.any_cons, decide_eq_true (by omega)]; rfl
      rw [this]
      simp only [go_sem, h2, List.length_map, m0, hr, Int.toNat_natCast, vw, c]
    · have : lngB (t.drop (i + 1)) = lngB t := by rw [← hE]; unfold lngB; rw [List.any_cons, decide_eq_false (by omega)]; rfl
      simp only [go_sem, h2, List.length_map, m0, hr, Int.toNat_natCast, vw, c, h3]
      exact ih (i + 1) (by omega) ⟨h1, this⟩ _ (by simp [go_sem])
  · have h2 : ¬ (i : Int) < t.length := by omega
    have : lngB t = false := by rw [← hE, List.drop_of_length_le (by omega)]; rfl
    rw [this]
    simp only [go_sem, h2, List.length_map]
end Go.Proofs

namespace Go.Proofs
open Go Go.Sx Go.Fam
attribute [local irreducible] Run

@[go_sem] theorem upFrom_contains (k n r : Nat) : (upFrom k n).contains r = decide (k ≤ r ∧ r < k + n) := by
  rw [Bool.eq_iff_iff]; simp [upFrom_mem]
@[go_sem] theorem disj_up (k n : Nat) (l : List Nat) : disj (upFrom k n) l = l.all fun r => !decide (k ≤ r ∧ r < k + n) := by
  unfold disj
  rw [Bool.eq_iff_iff]
  simp only [List.all_eq_true, upFrom_mem, Bool.not_eq_true', List.contains_eq_mem, decide_eq_false_iff_not]
  exact ⟨fun h r hr hk => h r hk hr, fun h r hk hr => h r hr hk⟩
@[go_sem] theorem dr_nv (w : Int) : (Dr w).nv = True := eq_true (by unfold Dr; exact row_nv_cells _ _ ⟨.agg _ (by intro i hi; simp at hi; subst hi; exact .int _ _), trivial⟩)
end Go.Proofs

namespace Go.Proofs
open Go Go.Sx Go.Fam
attribute [local irreducible] Run

theorem frz_iv {d : Nat} {H : Heap} {j : Nat} {gr : Bool} {l : List Int} (h : H[j]? = some (some (.cells gr 1 (l.map (.int .i64))))) : frz (d + 2) H (.sl j 0 l.length) = vw l := by
  rw [frz_sl h (by simp)]
  simp [frz, vw, Function.comp_def]

theorem loop_drop {P : Program} {G : Ctx} {k : Nat} {ρ ρ' : List AVal} {A Y : Heap} {rd : Option Nat} {c : ACode} {fs : List Sx.Frame} {Q : Goal} (hk : k ≤ A.length) (hA : ∀ (i : Nat) (x : Row), A[i]? = some (some x) → x.ren (fun i => i) = x ∧ x.bel (· < A.length)) (hρ : WkR (fun i => i) ρ ρ') (hb : Bels (· < A.length) ρ')
    (h : Sx.Loop P G k rd c fs ⟨ρ', A, []⟩ Q) : Sx.Loop P G k rd c fs ⟨ρ, A ++ Y, []⟩ Q :=
  loop_gc (fun i => i) (fun _ _ => rfl) hk (fun _ _ _ _ e => e) hρ hb (fun i x hx => ⟨by rw [(hA i x hx).1, List.getElem?_append_left (List.getElem?_eq_some_iff.1 hx).1]; exact hx, (hA i x hx).2⟩) h
def fmA (l M : Lw) (g p Gl Pl : List Int) (w : Int) : Heap := [some (.cells false 10 [l.v]), some (.cells false 1 [vw g, vw p]), some (Dr w), some (.cells false 10 [l.v, M.v]), some (.cells true 1 (Gl.map (.int .i64))), some (.cells false 1 [vw g, .sl 4 0 Gl.length]), some (.cells true 1 (Pl.map (.int .i64))), some (.cells false 1 [vw p, .sl 6 0 Pl.length])]
def fmT : List (Nat × AVal) := [(8, .bool false), (10, .sl 3 0 2), (11, .sl 5 0 2), (12, .sl 7 0 2)]
theorem famA_ok (l M : Lw) (g p Gl Pl : List Int) (w : Int) : ∀ (i : Nat) (x : Row), (fmA l M g p Gl Pl w)[i]? = some (some x) → x.ren (fun i => i) = x ∧ x.bel (· < (fmA l M g p Gl Pl w).length) := by
  intro i x hx
  have hb : ∀ {y : Row}, y.bel (fun _ => False) → y.ren (fun i => i) = y ∧ y.bel (· < (fmA l M g p Gl Pl w).length) := fun h => ⟨Row.ren_same h, bel_mono_row h fun _ h => h.elim⟩
  have ints : ∀ L : List Int, (Row.cells true 1 (L.map (.int .i64))).bel (fun _ => False) := fun L => by rw [row_bel_cells, bels_ints]; trivial
  have vv : ∀ (L : List Int), ren (fun i => i) (vw L) = vw L := fun L => ren_same (by rw [vw_bel]; trivial)
  match i with
  | 0 => cases hx; exact hb (by rw [row_bel_cells]; exact ⟨lw_bel _ _, trivial⟩)
  | 1 => cases hx; exact hb (by rw [row_bel_cells]; simp only [go_sem])
  | 2 => cases hx; exact hb (dr_bel _ _)
  | 3 => cases hx; exact hb (by rw [row_bel_cells]; exact ⟨lw_bel _ _, lw_bel _ _, trivial⟩)
  | 4 => cases hx; exact hb (ints _)
  | 5 => cases hx; refine ⟨by simp only [Row.ren, rens_eq, List.map_cons, List.map_nil, vv, ren], ?_⟩; rw [row_bel_cells]; simp [go_sem, fmA]
  | 6 => cases hx; exact hb (ints _)
  | 7 => cases hx; refine ⟨by simp only [Row.ren, rens_eq, List.map_cons, List.map_nil, vv, ren], ?_⟩; rw [row_bel_cells]; simp [go_sem, fmA]
  | i + 8 => simp [fmA] at hx

set_option maxHeartbeats 4000000 in
set_option maxRecDepth 20000 in
theorem families_ok (l : Lw) (g p xs : List Int) (hl : xs.length ≤ 9223372036854775807) : Ans Try.prog n_law02_families [l.v, vw g, vw p, .view (xs.map (.int .i64))] [] (.bool true) [] := by
  have kl := long_run [g, p] (by simp)
  refine spec_run e_law02_families fun G => ?_
  simp only [go_sem, Lw.v, Lw.cs, vw]
  simp only [tw] at kl
  refine cF kl 6 ⟨.inl ?_, trivial⟩ ?_
  · simp [frz, Heap.cellsAt, tw, vw, Function.comp_def]
  by_cases c : lngB [g, p] = true
  · rw [c]
    simp only [go_sem]
  · rw [Bool.not_eq_true] at c
    have : lngB [g, p] = (decide (50 < g.length) || (decide (50 < p.length) || false)) := rfl
    have hgp : g.length ≤ 50 ∧ p.length ≤ 50 := by
      rw [this] at c
      simp at c; omega
    clear this
    rw [c]
    have kd := newdice_ok xs hl
    obtain ⟨w, hw⟩ : ∃ w, feed (IntKind.u64.wrap (IntKind.u64.wrap xs.length + 1374496523)) xs = w := ⟨_, rfl⟩
    rw [hw] at kd
    have kw := lawof_ok w
    have lok := lawOf_in w
    obtain ⟨M, hM⟩ : ∃ x, lawOf w = x := ⟨_, rfl⟩
    obtain ⟨w1, hw1⟩ : ∃ x, lawEnd w = x := ⟨_, rfl⟩
    rw [hM, hw1] at kw
    rw [hM] at lok
    have n1 := Lines_run w1 (-9000) 9000 6 (by omega) (by omega)
    have a1 := (linesOf_ok (w := w1) (lo := -9000) (hi := 9000) (most := 6) (a := -1000000) (by omega) (by omega) (by omega) (by omega)).1
    obtain ⟨Gl, hG⟩ : ∃ x, linesOf w1 (-9000) 9000 6 = x := ⟨_, rfl⟩
    obtain ⟨w2, hw2⟩ : ∃ x, linesEnd w1 (-9000) 9000 6 = x := ⟨_, rfl⟩
    rw [hG, hw2] at n1
    rw [hG] at a1
    have n2 := Lines_run w2 0 400000 6 (by omega) (by omega)
    have a2 := (linesOf_ok (w := w2) (lo := 0) (hi := 400000) (most := 6) (a := 0) (by omega) (by omega) (by omega) (by omega)).1
    obtain ⟨Pl, hP⟩ : ∃ x, linesOf w2 0 400000 6 = x := ⟨_, rfl⟩
    obtain ⟨w3, hw3⟩ : ∃ x, linesEnd w2 0 400000 6 = x := ⟨_, rfl⟩
    rw [hP, hw3] at n2
    rw [hP] at a2
    clear hw hM hw1 hG hw2 hP hw3
    simp only [go_sem]
    refine callN1 kd ⟨by rw [bel_view, bels_ints]; trivial, trivial⟩ (dr_bel _ _) (by simp) (by simp) ?_
    simp only [go_sem]
    simp only [Lw.v, Lw.cs] at kw
    refine dD kw ?_
    simp only [go_sem]
    have gne : Gl.map (AVal.int .i64) ≠ [] := by have h := a1.pos; intro e; have := congrArg List.length e; rw [List.length_map] at this; simp at this; rw [this] at h; simp at h
    have pne : Pl.map (AVal.int .i64) ≠ [] := by have h := a2.pos; intro e; have := congrArg List.length e; rw [List.length_map] at this; simp at this; rw [this] at h; simp at h
    have n1' : Ans Try.prog n_kit_Lines [.ptr 0 0 0 1, .int .i64 (-9000), .int .i64 9000, .int .i64 6] [some (Dr w1)] (slv 1 (Gl.map (.int .i64))) (some (Dr w2) :: slrG true 1 (Gl.map (.int .i64))) := by
      unfold slv slrG; rw [if_neg gne, if_neg gne, List.length_map]; exact n1
    have n2' : Ans Try.prog n_kit_Lines [.ptr 0 0 0 1, .int .i64 0, .int .i64 400000, .int .i64 6] [some (Dr w2)] (slv 1 (Pl.map (.int .i64))) (some (Dr w3) :: slrG true 1 (Pl.map (.int .i64))) := by
      unfold slv slrG; rw [if_neg pne, if_neg pne, List.length_map]; exact n2
    refine dDs n1' gne rfl (by simp only [go_sem]) (dr_bel _ _) (dr_bel _ _) (by rw [bels_ints]; trivial) (by simp) (by simp [go_sem]) ?_
    simp only [go_sem, List.length_map]
    refine dDs n2' pne rfl (by simp only [go_sem]) (dr_bel _ _) (dr_bel _ _) (by rw [bels_ints]; trivial) (by simp) (by simp [go_sem]) ?_
    simp only [go_sem, List.length_map]
    have w1' : IntKind.i64.wrap 1 = 1 := by decide
    have w2' : IntKind.i64.wrap 2 = 2 := by decide
    have o1 := Own_run g (by omega)
    have o2 := Own_run p (by omega)
    simp only [vw] at o1 o2
    refine loop_ind k_law02_families_r13.eq_1 (fun i : Nat => i ≤ 2) (fun i => 2 - i)
      (fun i => (tsets 107 (fmT ++ [(13, .int .i64 i)]), fmA l M g p Gl Pl w3)) 0 (Nat.zero_le _) (by simp [go_sem, fmT]) (by simp [fmA, Lw.v, Lw.cs, vw]) ?_
    intro i hi ih
    dsimp only at hi ih ⊢
    obtain rfl | rfl | rfl : i = 0 ∨ i = 1 ∨ i = 2 := by omega
    rotate_left
    · skip
      have c1 : ((1 : Nat) : Int) = 1 := rfl
      have o1 := Own_run Gl (by have := a1.most; omega)
      have o2 := Own_run Pl (by have := a2.most; omega)
      simp only [vw] at o1 o2
      have gl40 := a1.most
      have pl40 := a2.most
      simp only [fmA, fmT, vw, Lw.v, Lw.cs, c1]
      simp only [go_sem, w1', w2', w2']
      refine dFN o1 6 [4] ?_ ?_
      · exact ⟨.inl (frz_iv rfl), trivial⟩
      simp only [go_sem, ren]
      refine cFN o2 6 ⟨.inl (frz_iv rfl), trivial⟩ ?_
      simp only [go_sem, ren, w1', w2']
      have lk := lok
      have ag := a1
      have ap := a2
      have g0 : Gl ≠ [] := by have := ag.pos; rintro rfl; simp at this
      have p0 : Pl ≠ [] := by have := ap.pos; rintro rfl; simp at this
      have kp := ofC_pure M g0 p0
      have k1 := Of_run M lk ag ap
      have k2 := rOf_run M lk ag ap
      simp only [Lw.v, Lw.cs] at k1 k2
      refine cFD k1 kp 6 ⟨.inl rfl, .inl (frz_iv rfl), .inl (frz_iv rfl), trivial⟩ ?_
      have hf := ofF_pure M g0 p0
      have fs : FaS (ofF M Gl Pl) := ⟨by show Gl.length ≤ _; omega, by show Pl.length ≤ _; omega, ⟨by show (ofT _ M Gl Pl).length ≤ _; simp [ofT]; omega, fun r hr => by
        obtain ⟨x, _, rfl⟩ := List.mem_map.1 hr; simp; omega⟩, by show (ofT _ M Gl Pl).length ≤ _; simp [ofT]; omega, fun r hr => by
        obtain ⟨x, _, rfl⟩ := List.mem_map.1 hr; simp; omega⟩
      have ks := rSame_run _ (ofF M Gl Pl) fs
      rw [decide_eq_true rfl] at ks
      obtain ⟨u0, u1, u2, u3, e⟩ := thaw_fv (ofF M Gl Pl) 10
      have hD := fun (A : Heap) (hA : A.length = 10) => thaw_dat (H := A ++ (thaw 6 10 (Fv (ofF M Gl Pl))).2) 10 hf fun i hi => by rw [get_new hA]
      simp only [List.length_cons, List.length_nil, Nat.zero_add, Nat.reduceAdd, thaw_ofC, e] at hD ⊢
      generalize (thaw 6 10 (Fv (ofF M Gl Pl))).2 = Y at *
      simp only [go_sem, w1', w2']
      refine dFD k2 kp 6 [4, 6] ⟨.inl rfl, .inl (frz_iv rfl), .inl (frz_iv rfl), trivial⟩ ?_
      simp only [List.length_cons, List.length_nil, List.length_append, Nat.zero_add, Nat.reduceAdd, thaw_ofC]
      obtain ⟨t0, t1, t2, t3, e'⟩ := thaw_fv (ofF M Gl Pl) (Y.length + 1 + 1 + 1 + 1 + 1 + 1 + 1 + 1 + 1 + 1 + 1)
      have hD2 := fun (A : Heap) (hA : A.length = (Y.length + 1 + 1 + 1 + 1 + 1 + 1 + 1 + 1 + 1 + 1 + 1)) => thaw_dat (H := A ++ (thaw 6 (Y.length + 1 + 1 + 1 + 1 + 1 + 1 + 1 + 1 + 1 + 1 + 1) (Fv (ofF M Gl Pl))).2) (Y.length + 1 + 1 + 1 + 1 + 1 + 1 + 1 + 1 + 1 + 1 + 1) hf fun i hi => by rw [get_new hA]
      simp only [e'] at hD2 ⊢
      generalize (thaw 6 (Y.length + 1 + 1 + 1 + 1 + 1 + 1 + 1 + 1 + 1 + 1 + 1) (Fv (ofF M Gl Pl))).2 = Z at *
      simp only [go_sem, w1', w2', List.cons_append, List.append_assoc]
      have hE1 : ∀ (r0 r1 r2 r3 r4 r5 r6 r7 r8 r9 : Option Row) (R : Heap), frz 6 (r0 :: r1 :: r2 :: r3 :: r4 :: r5 :: r6 :: r7 :: r8 :: r9 :: (Y ++ R)) (.agg [.sl u0 0 (ofF M Gl Pl).g.length, .sl u1 0 (ofF M Gl Pl).p.length, .sl u2 0 (ofF M Gl Pl).lo.length, .sl u3 0 (ofF M Gl Pl).hi.length]) = Fv (ofF M Gl Pl) := fun r0 r1 r2 r3 r4 r5 r6 r7 r8 r9 R => ((hD [r0, r1, r2, r3, r4, r5, r6, r7, r8, r9] rfl).app R (fun r hr => by rw [upFrom_mem] at hr; simp; omega)).frz
      have hE2 : ∀ (r0 r1 r2 r3 r4 r5 r6 r7 r8 r9 b : Option Row) (R : Heap), frz 6 (r0 :: r1 :: r2 :: r3 :: r4 :: r5 :: r6 :: r7 :: r8 :: r9 :: (Y ++ b :: (Z ++ R))) (.agg [.sl t0 0 (ofF M Gl Pl).g.length, .sl t1 0 (ofF M Gl Pl).p.length, .sl t2 0 (ofF M Gl Pl).lo.length, .sl t3 0 (ofF M Gl Pl).hi.length]) = Fv (ofF M Gl Pl) := fun r0 r1 r2 r3 r4 r5 r6 r7 r8 r9 b R => by
        have := ((hD2 ([r0, r1, r2, r3, r4, r5, r6, r7, r8, r9] ++ (Y ++ [b])) (by simp)).app R (fun r hr => by rw [upFrom_mem] at hr; simp; omega)).frz
        simpa using this
      refine ⟨by simp; omega, cF ks 6 ⟨.inl (hE1 _ _ _ _ _ _ _ _ _ _ _), .inl (hE2 _ _ _ _ _ _ _ _ _ _ _ _), trivial⟩ ?_⟩
      have kg := kSame_run Gl Gl (by omega)
      have kq := kSame_run Pl Pl (by omega)
      rw [decide_eq_true rfl] at kg kq
      simp only [go_sem, w1', w2']
      refine cF kg 6 ⟨.inl (frz_iv rfl), .inl (frz_iv rfl), trivial⟩ ?_
      simp only [go_sem, w1', w2']
      refine cF kq 6 ⟨.inl (frz_iv rfl), .inl (frz_iv rfl), trivial⟩ ?_
      simp only [go_sem, w1', w2']
      refine loop_drop (A := fmA l M g p Gl Pl w3) (Nat.zero_le _) (famA_ok _ _ _ _ _ _ _) ?_ ?_ (ih 2 (by omega) (by omega) (tsets 107 (fmT ++ [(13, .int .i64 ((2 : Nat) : Int))])) (wk_refl _))
      · simp [go_sem, fmT, ren]
      · simp [go_sem, fmT, fmA]
    · simp only [go_sem, fmT, fmA]
    simp only [fmA, fmT, vw, Lw.v, Lw.cs]
    simp only [go_sem, w1']
    refine dFN o1 6 [] ?_ ?_
    · exact ⟨.inl (by simp [frz, Function.comp_def]), trivial⟩
    simp only [go_sem, ren]
    refine cFN o2 6 ⟨.inl (by simp [frz, Function.comp_def]), trivial⟩ ?_
    simp only [go_sem, ren, w1']
    by_cases cE : ofE l g p = 0
    · obtain ⟨lk, ag, ap⟩ := ofE_ok cE
      have g0 : g ≠ [] := by have := ag.pos; rintro rfl; simp at this
      have p0 : p ≠ [] := by have := ap.pos; rintro rfl; simp at this
      have kp := ofC_pure l g0 p0
      have k1 := Of_run l lk ag ap
      have k2 := rOf_run l lk ag ap
      simp only [Lw.v, Lw.cs] at k1 k2
      refine cFD k1 kp 6 ⟨.inl rfl, .inl (frz_iv rfl), .inl (frz_iv rfl), trivial⟩ ?_
      have hf := ofF_pure l g0 p0
      have fs : FaS (ofF l g p) := ⟨by show g.length ≤ _; omega, by show p.length ≤ _; omega, ⟨by show (ofT _ l g p).length ≤ _; simp [ofT]; omega, fun r hr => by
        obtain ⟨x, _, rfl⟩ := List.mem_map.1 hr; simp; omega⟩, by show (ofT _ l g p).length ≤ _; simp [ofT]; omega, fun r hr => by
        obtain ⟨x, _, rfl⟩ := List.mem_map.1 hr; simp; omega⟩
      have ks := rSame_run _ (ofF l g p) fs
      rw [decide_eq_true rfl] at ks
      obtain ⟨u0, u1, u2, u3, e⟩ := thaw_fv (ofF l g p) 10
      have hD := fun (A : Heap) (hA : A.length = 10) => thaw_dat (H := A ++ (thaw 6 10 (Fv (ofF l g p))).2) 10 hf fun i hi => by rw [get_new hA]
      simp only [List.length_cons, List.length_nil, Nat.zero_add, Nat.reduceAdd, thaw_ofC, e] at hD ⊢
      generalize (thaw 6 10 (Fv (ofF l g p))).2 = Y at *
      simp only [go_sem, w1']
      refine dFD k2 kp 6 [] ⟨.inl rfl, .inl (by simp [frz, vw, Function.comp_def]), .inl (by simp [frz, vw, Function.comp_def]), trivial⟩ ?_
      simp only [List.length_cons, List.length_nil, List.length_append, Nat.zero_add, Nat.reduceAdd, thaw_ofC]
      obtain ⟨t0, t1, t2, t3, e'⟩ := thaw_fv (ofF l g p) (Y.length + 1 + 1 + 1 + 1 + 1 + 1 + 1 + 1 + 1 + 1 + 1)
      have hD2 := fun (A : Heap) (hA : A.length = (Y.length + 1 + 1 + 1 + 1 + 1 + 1 + 1 + 1 + 1 + 1 + 1)) => thaw_dat (H := A ++ (thaw 6 (Y.length + 1 + 1 + 1 + 1 + 1 + 1 + 1 + 1 + 1 + 1 + 1) (Fv (ofF l g p))).2) (Y.length + 1 + 1 + 1 + 1 + 1 + 1 + 1 + 1 + 1 + 1 + 1) hf fun i hi => by rw [get_new hA]
      simp only [e'] at hD2 ⊢
      generalize (thaw 6 (Y.length + 1 + 1 + 1 + 1 + 1 + 1 + 1 + 1 + 1 + 1 + 1) (Fv (ofF l g p))).2 = Z at *
      simp only [go_sem, w1', List.cons_append, List.append_assoc]
      have hE1 : ∀ (r0 r1 r2 r3 r4 r5 r6 r7 r8 r9 : Option Row) (R : Heap), frz 6 (r0 :: r1 :: r2 :: r3 :: r4 :: r5 :: r6 :: r7 :: r8 :: r9 :: (Y ++ R)) (.agg [.sl u0 0 (ofF l g p).g.length, .sl u1 0 (ofF l g p).p.length, .sl u2 0 (ofF l g p).lo.length, .sl u3 0 (ofF l g p).hi.length]) = Fv (ofF l g p) := fun r0 r1 r2 r3 r4 r5 r6 r7 r8 r9 R => ((hD [r0, r1, r2, r3, r4, r5, r6, r7, r8, r9] rfl).app R (fun r hr => by rw [upFrom_mem] at hr; simp; omega)).frz
      have hE2 : ∀ (r0 r1 r2 r3 r4 r5 r6 r7 r8 r9 b : Option Row) (R : Heap), frz 6 (r0 :: r1 :: r2 :: r3 :: r4 :: r5 :: r6 :: r7 :: r8 :: r9 :: (Y ++ b :: (Z ++ R))) (.agg [.sl t0 0 (ofF l g p).g.length, .sl t1 0 (ofF l g p).p.length, .sl t2 0 (ofF l g p).lo.length, .sl t3 0 (ofF l g p).hi.length]) = Fv (ofF l g p) := fun r0 r1 r2 r3 r4 r5 r6 r7 r8 r9 b R => by
        have := ((hD2 ([r0, r1, r2, r3, r4, r5, r6, r7, r8, r9] ++ (Y ++ [b])) (by simp)).app R (fun r hr => by rw [upFrom_mem] at hr; simp; omega)).frz
        simpa using this
      refine ⟨by simp; omega, cF ks 6 ⟨.inl (hE1 _ _ _ _ _ _ _ _ _ _ _), .inl (hE2 _ _ _ _ _ _ _ _ _ _ _ _), trivial⟩ ?_⟩
      have kg := kSame_run g g (by omega)
      have kq := kSame_run p p (by omega)
      rw [decide_eq_true rfl] at kg kq
      simp only [go_sem, w1']
      refine cF kg 6 ⟨.inl (frz_iv rfl), .inl (by simp [frz, vw, Function.comp_def]), trivial⟩ ?_
      simp only [go_sem, w1']
      refine cF kq 6 ⟨.inl (frz_iv rfl), .inl (by simp [frz, vw, Function.comp_def]), trivial⟩ ?_
      simp only [go_sem, w1']
      refine loop_drop (A := fmA l M g p Gl Pl w3) (Nat.zero_le _) (famA_ok _ _ _ _ _ _ _) ?_ ?_ (ih 1 (by omega) (by omega) (tsets 107 (fmT ++ [(13, .int .i64 ((1 : Nat) : Int))])) (wk_refl _))
      · simp [go_sem, fmT, ren]
      · simp [go_sem, fmT, fmA]
    · have k1 := Of_bad l g p (by omega) (by omega) cE
      have k2 := rOf_bad l g p (by omega) (by omega) cE
      simp only [Lw.v, Lw.cs, noF] at k1 k2
      generalize ofE l g p = e at *
      have kg := kSame_run g g (by omega)
      have kq := kSame_run p p (by omega)
      rw [decide_eq_true rfl] at kg kq
      refine cF k1 6 ⟨.inl rfl, .inl (frz_iv rfl), .inl (frz_iv rfl), trivial⟩ ?_
      simp only [go_sem, w1']
      refine dF k2 6 [] ⟨.inl rfl, .inl (by simp [frz, vw, Function.comp_def]), .inl (by simp [frz, vw, Function.comp_def]), trivial⟩ ?_
      simp only [go_sem, w1']
      refine cP rSame_none ?_
      simp only [go_sem, w1']
      refine cF kg 6 ⟨.inl (frz_iv rfl), .inl (by simp [frz, vw, Function.comp_def]), trivial⟩ ?_
      simp only [go_sem, w1']
      refine cF kq 6 ⟨.inl (frz_iv rfl), .inl (by simp [frz, vw, Function.comp_def]), trivial⟩ ?_
      simp only [go_sem, w1']
      refine loop_drop (A := fmA l M g p Gl Pl w3) (Nat.zero_le _) (famA_ok _ _ _ _ _ _ _) ?_ ?_ (ih 1 (by omega) (by omega) (tsets 107 (fmT ++ [(13, .int .i64 ((1 : Nat) : Int))])) (wk_refl _))
      · simp [go_sem, fmT, ren]
      · simp [go_sem, fmT, fmA]
end Go.Proofs

namespace Go.Proofs
open Go Go.Sx Go.Fam
attribute [local irreducible] Run

set_option maxHeartbeats 4000000 in
set_option maxRecDepth 20000 in
theorem curveLaws_ok (l : Lw) (g p : Int) (a b xs : List Int) (hl : xs.length ≤ 9223372036854775807) : Ans Try.prog n_law02_CurveLaws [l.v, .int .i64 g, .int .i64 p, vw a, vw b, .view (xs.map (.int .i64))] [] (.bool true) [] := by
  have kf := families_ok l a b xs hl
  have kd := newdice_ok xs hl
  obtain ⟨w, hw⟩ : ∃ w, feed (IntKind.u64.wrap (IntKind.u64.wrap xs.length + 1374496523)) xs = w := ⟨_, rfl⟩
  rw [hw] at kd
  have kw := lawof_ok w
  obtain ⟨M, hM⟩ : ∃ x, lawOf w = x := ⟨_, rfl⟩
  obtain ⟨w1, hw1⟩ : ∃ x, lawEnd w = x := ⟨_, rfl⟩
  rw [hM, hw1] at kw
  have v1 := between_ok w1 (-9000) 9000 (by omega) (by omega) (by omega)
  obtain ⟨w2, hw2⟩ : ∃ x, dstep w1 = x := ⟨_, rfl⟩
  obtain ⟨x1, hx1⟩ : ∃ x, btw w1 (-9000) 9000 = x := ⟨_, rfl⟩
  rw [hw2, hx1] at v1
  have v2 := between_ok w2 (-9000) 9000 (by omega) (by omega) (by omega)
  obtain ⟨w3, hw3⟩ : ∃ x, dstep w2 = x := ⟨_, rfl⟩
  obtain ⟨x2, hx2⟩ : ∃ x, btw w2 (-9000) 9000 = x := ⟨_, rfl⟩
  rw [hw3, hx2] at v2
  have v3 := upto_ok w3 400000 (by omega)
  obtain ⟨w4, hw4⟩ : ∃ x, dstep w3 = x := ⟨_, rfl⟩
  obtain ⟨x3, hx3⟩ : ∃ x, upto w3 400000 = x := ⟨_, rfl⟩
  rw [hw4, hx3] at v3
  have v4 := upto_ok w4 400000 (by omega)
  obtain ⟨w5, hw5⟩ : ∃ x, dstep w4 = x := ⟨_, rfl⟩
  obtain ⟨x4, hx4⟩ : ∃ x, upto w4 400000 = x := ⟨_, rfl⟩
  rw [hw5, hx4] at v4
  clear hw hM hw1 hw2 hw3 hw4 hw5 hx1 hx2 hx3 hx4
  have w1' : IntKind.i64.wrap 1 = 1 := by decide
  have w2' : IntKind.i64.wrap 2 = 2 := by decide
  have w3' : IntKind.i64.wrap 3 = 3 := by decide
  have A := Drive_raw
  have B := rDrive_raw
  have C := Current_raw
  have D := rCurrent_raw
  have E := checkLaw_raw
  have F := rcheckLaw_raw
  simp only [rgA_eq, Lw.v, Lw.cs] at A B C D E F kw
  simp only [Lw.v, Lw.cs, vw] at kf
  refine spec_run e_law02_CurveLaws fun G => ?_
  simp only [go_sem, Lw.v, Lw.cs, vw]
  refine callN1 kd ⟨by rw [bel_view, bels_ints]; trivial, trivial⟩ (dr_bel _ _) (by simp) (by simp) ?_
  simp only [go_sem]
  refine dD kw ?_
  simp only [go_sem]
  refine dD v1 ?_
  simp only [go_sem]
  refine dD v2 ?_
  simp only [go_sem]
  refine dD v3 ?_
  simp only [go_sem]
  refine dD v4 ?_
  simp only [go_sem]
  refine loop_body 3000 k_law02_CurveLaws_r12.eq_1 ?_
  simp only [go_sem, w1', w2', w3']
  refine dP (A l g p) ?_
  simp only [go_sem, w1', w2', w3']
  refine dP (B l g p) ?_
  simp only [go_sem, w1', w2', w3']
  refine dP (C l g p) ?_
  simp only [go_sem, w1', w2', w3']
  refine dP (D l g p) ?_
  simp only [go_sem, w1', w2', w3']
  refine dP (E l) ?_
  simp only [go_sem, w1', w2', w3']
  refine cP (F l) ?_
  simp only [go_sem, w1', w2', w3']
  refine loop_body 3000 k_law02_CurveLaws_r12.eq_1 ?_
  simp only [go_sem, w1', w2', w3']
  refine dP (A M x1 x3) ?_
  simp only [go_sem, w1', w2', w3']
  refine dP (B M x1 x3) ?_
  simp only [go_sem, w1', w2', w3']
  refine dP (C M x1 x3) ?_
  simp only [go_sem, w1', w2', w3']
  refine dP (D M x1 x3) ?_
  simp only [go_sem, w1', w2', w3']
  refine dP (E M) ?_
  simp only [go_sem, w1', w2', w3']
  refine cP (F M) ?_
  simp only [go_sem, w1', w2', w3']
  refine loop_body 3000 k_law02_CurveLaws_r12.eq_1 ?_
  simp only [go_sem, w1', w2', w3']
  refine dP (A l x2 x4) ?_
  simp only [go_sem, w1', w2', w3']
  refine dP (B l x2 x4) ?_
  simp only [go_sem, w1', w2', w3']
  refine dP (C l x2 x4) ?_
  simp only [go_sem, w1', w2', w3']
  refine dP (D l x2 x4) ?_
  simp only [go_sem, w1', w2', w3']
  refine dP (E l) ?_
  simp only [go_sem, w1', w2', w3']
  refine cP (F l) ?_
  simp only [go_sem, w1', w2', w3']
  refine loop_body 3000 k_law02_CurveLaws_r12.eq_1 ?_
  simp only [go_sem, w1', w2', w3']
  refine cP kf ?_
  simp only [go_sem]
  refine cP awake_ok ?_
  simp only [go_sem]
end Go.Proofs

namespace Go.Proofs
open Go Go.Sx Go.Fam

theorem at_struct {P : Program} {n : Nat} {t : TypeId} {fs : Array Field} (hu : P.underlying t = some (.struct fs)) {vs : List AVal} (h : AT P (n + 1) t vs) : ATs (AT P n) fs.toList vs := by
  unfold AT at h; rw [hu] at h; exact h
theorem at_int {P : Program} {n : Nat} {t : TypeId} {k : IntKind} (hu : P.underlying t = some (.int k)) {vs : List AVal} (h : AT P (n + 1) t vs) : ∃ m, vs = [.int k m] ∧ (Lit.int k m).wf = true := by
  unfold AT at h; rw [hu] at h; exact h
theorem at_slice {P : Program} {n : Nat} {t e : TypeId} (hu : P.underlying t = some (.slice e)) {vs : List AVal} (h : AT P (n + 1) t vs) : ∃ es, vs = [.view es] ∧ es.length ≤ maxLen ∧ ∀ x ∈ es, if aggT P e = true then ∃ ws, x = .agg ws ∧ AT P n e ws else AT P n e [x] := by
  unfold AT at h; rw [hu] at h; exact h
theorem list_mapQ {α β : Type} {f : α → β} {Q : α → Prop} : ∀ l : List β, (∀ x ∈ l, ∃ a, x = f a ∧ Q a) → ∃ l' : List α, l = l'.map f ∧ ∀ a ∈ l', Q a
  | [], _ => ⟨[], rfl, fun a ha => by simp at ha⟩
  | x :: l, h => by
    obtain ⟨a, rfl, ha⟩ := h x (by simp)
    obtain ⟨l', rfl, h'⟩ := list_mapQ l fun y hy => h y (by simp [hy])
    exact ⟨a :: l', rfl, fun b hb => by
      rcases List.mem_cons.1 hb with rfl | hb
      · exact ha
      · exact h' b hb⟩

attribute [local irreducible] AT
set_option maxRecDepth 100000
theorem atn_int {n : Nat} {vs : List AVal} (h : AT Try.prog (n + 1) 3 vs) : ∃ m, vs = [.int .i64 m] ∧ (Lit.int .i64 m).wf = true := at_int Try.underlying3 h
theorem at_ints {n : Nat} {x : AVal} (h : AT Try.prog (n + 2) 26 [x]) : ∃ l : List Int, x = vw l ∧ l.length ≤ 9223372036854775807 := by
  obtain ⟨es, h1, hl, he⟩ := at_slice Try.underlying26 h
  obtain rfl : x = .view es := by simpa using h1
  have hg : ¬ aggT Try.prog 3 = true := by unfold aggT; rw [Try.underlying3]; decide
  obtain ⟨l, rfl, -⟩ := list_mapQ (f := AVal.int .i64) (Q := fun _ => True) es fun x hx => by
    have := he x hx
    rw [if_neg hg] at this
    obtain ⟨m, hm, -⟩ := atn_int this
    exact ⟨m, by simpa using hm, trivial⟩
  have hm : maxLen = 9223372036854775807 := rfl
  rw [hm] at hl
  exact ⟨l, rfl, by simpa using hl⟩
end Go.Proofs

namespace Go.Proofs
open Go Go.Sx Go.Fam
attribute [local irreducible] AT
set_option maxRecDepth 100000
theorem at_rng {n : Nat} {ws : List AVal} (h : AT Try.prog (n + 2) 23 ws) : ∃ r : Rg, ws = [.int .i64 r.lo, .int .i64 r.hi] := by
  obtain ⟨a, _, rfl, ha, b, _, rfl, hb, rfl⟩ := at_struct Try.underlying23 h
  obtain ⟨x, rfl, hx⟩ := atn_int ha
  obtain ⟨y, rfl, hy⟩ := atn_int hb
  exact ⟨⟨x, y⟩, rfl⟩
theorem at_law {n : Nat} {ws : List AVal} (h : AT Try.prog (n + 3) 25 ws) : ∃ l : Lw, .agg ws = l.v := by
  obtain ⟨a, _, rfl, ha, b, _, rfl, hb, c, _, rfl, hc, d, _, rfl, hd, e, _, rfl, he, rfl⟩ := at_struct Try.underlying25 h
  obtain ⟨x1, rfl⟩ := at_rng ha
  obtain ⟨x2, rfl⟩ := at_rng hb
  obtain ⟨x3, rfl⟩ := at_rng hc
  obtain ⟨x4, rfl⟩ := at_rng hd
  obtain ⟨x5, rfl⟩ := at_rng he
  exact ⟨⟨x1, x2, x3, x4, x5⟩, rfl⟩
end Go.Proofs

