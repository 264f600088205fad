/- A part of the proof. -/
import Derived.Test.YtcnpapgcojagpaaPD
set_option linter.unusedSimpArgs false
set_option linter.unusedVariables false
namespace Go.Proofs
open Go Go.Sx Go.Fam
attribute [local irreducible] Run

structure AcH (f : Fa) (J : Heap) (v0 v1 v2 v3 : AVal) : Prop where
  r0 : J[0]? = some (some (.cells false 4 [Fv f]))
  r1 : J[1]? = some (some (.cells false 4 [.agg [.nilsl, .nilsl, .nilsl, .nilsl]]))
  r4 : J[4]? = some (some (.cells false 4 [.agg [v0, v1, v2, v3]]))
theorem AcH.mono {f : Fa} {J J' : Heap} {v0 v1 v2 v3 : AVal} (h : AcH f J v0 v1 v2 v3) (hJ : ∀ q, oF q → q < J.length → J'[q]? = J[q]?) : AcH f J' v0 v1 v2 v3 :=
  ⟨by rw [hJ 0 (by simp [oF]) (List.getElem?_eq_some_iff.1 h.r0).1]; exact h.r0, by rw [hJ 1 (by simp [oF]) (List.getElem?_eq_some_iff.1 h.r1).1]; exact h.r1, by rw [hJ 4 (by simp [oF]) (List.getElem?_eq_some_iff.1 h.r4).1]; exact h.r4⟩
end Go.Proofs

namespace Go.Proofs
open Go Go.Sx Go.Fam
attribute [local irreducible] Run

end Go.Proofs

namespace Go.Proofs
open Go Go.Sx
theorem awake_yes : yes (exFn tab 3000 40 n_law02_awake [] []) = true := by kernel_rfl
theorem awake_ok : Ans Try.prog n_law02_awake [] [] (.bool true) [] := yes_ans mixed tab_ok awake_yes
end Go.Proofs

namespace Go.Proofs
open Go Go.Sx Go.Fam
attribute [local irreducible] Run

end Go.Proofs

namespace Go.Proofs
open Go Go.Sx Go.Fam
attribute [local irreducible] Run

@[go_sem] theorem upFrom_contains (k n r : Nat) : (upFrom k n).contains r = decide (k ≤ r ∧ r < k + n) := by
  rw [Bool.eq_iff_iff]; simp [upFrom_mem]
@[go_sem] theorem disj_up (k n : Nat) (l : List Nat) : disj (upFrom k n) l = l.all fun r => !decide (k ≤ r ∧ r < k + n) := by
  unfold disj
  rw [Bool.eq_iff_iff]
  simp only [List.all_eq_true, upFrom_mem, Bool.not_eq_true', List.contains_eq_mem, decide_eq_false_iff_not]
  exact ⟨fun h r hr hk => h r hk hr, fun h r hk hr => h r hr hk⟩
@[go_sem] theorem dr_nv (w : Int) : (Dr w).nv = True := eq_true (by unfold Dr; exact row_nv_cells _ _ ⟨.agg _ (by intro i hi; simp at hi; subst hi; exact .int _ _), trivial⟩)
end Go.Proofs

namespace Go.Proofs
open Go Go.Sx Go.Fam
attribute [local irreducible] Run

end Go.Proofs

namespace Go.Proofs
open Go Go.Sx Go.Fam

attribute [local irreducible] AT
set_option maxRecDepth 100000
end Go.Proofs

namespace Go.Proofs
open Go Go.Sx Go.Fam
attribute [local irreducible] Run

end Go.Proofs

namespace Go.Proofs
open Go Go.Sx Go.Fam
attribute [local irreducible] Run

end Go.Proofs

namespace Go.Proofs
open Go Go.Sx

end Go.Proofs

namespace Go.Proofs
open Go Go.Sx

end Go.Proofs

namespace Go.Proofs
open Go Go.Sx

end Go.Proofs

namespace Go.Proofs
open Go Go.Sx Go.Fam
attribute [local irreducible] Run

theorem atA_ok {f : Fa} (hf : FaOK f) {g p : Int} (hg : -1000000 ≤ g ∧ g ≤ 1000000) (hp : 0 ≤ p ∧ p ≤ 1000000) : atA f g p = .tup [.agg [.int .i64 (atV f g p).1, .int .i64 (atV f g p).2], .int .i64 0] := by
  unfold atA; rw [if_pos (fam_iff.2 hf), if_pos ⟨hg, hp⟩]

end Go.Proofs

namespace Go.Sx
open Go
theorem All3.upd {R : List Nat → AVal → AVal → Prop} : ∀ {ι : List Nat} {vs es : List AVal} (i : Nat) (e : AVal), All3 R ι vs es → es[i]? = some e →
    ∃ κ v, vs[i]? = some v ∧ (∀ r ∈ κ, r ∈ ι) ∧ R κ v e ∧ ∀ (R' : List Nat → AVal → AVal → Prop) (e' : AVal), (∀ κ' v' e'', (∀ r ∈ κ', r ∈ ι) → (∀ r ∈ κ', r ∉ κ) → R κ' v' e'' → R' κ' v' e'') → R' κ v e' → ι.Nodup → All3 R' ι vs (es.set i e')
  | _, v :: vs, e' :: es, 0, e, ⟨κ1, κ2, h1, h2, h3⟩, he => by
    simp at he; subst he; subst h1
    refine ⟨κ1, v, rfl, fun r hr => List.mem_append_left _ hr, h2, fun R' e'' hR hv hn => ⟨κ1, κ2, rfl, hv, h3.mono fun κ' v' e'' hs _ h => hR κ' v' e'' (fun r hr => List.mem_append_right _ (hs r hr)) (fun r hr h1 => ?_) h⟩⟩
    exact (List.nodup_append.1 hn).2.2 r h1 r (hs r hr) rfl
  | _, v :: vs, e' :: es, i + 1, e, ⟨κ1, κ2, h1, h2, h3⟩, he => by
    obtain ⟨κ, u, k1, k2, k3, k4⟩ := h3.upd i e (by simpa using he)
    subst h1
    refine ⟨κ, u, by simpa using k1, fun r hr => List.mem_append_right _ (k2 r hr), k3, fun R' e'' hR hv hn => ⟨κ1, κ2, rfl, ?_, k4 R' e'' (fun κ' v' e3 hs => hR κ' v' e3 fun r hr => List.mem_append_right _ (hs r hr)) hv (List.nodup_append.1 hn).2.1⟩⟩
    exact hR _ _ _ (fun r hr => List.mem_append_left _ hr) (fun r hr h1 => (List.nodup_append.1 hn).2.2 r hr r (k2 r h1) rfl) h2
  | _, [], [], i, e, _, he => by simp at he
  | _, [], _ :: _, _, _, h, _ => h.elim
  | _, _ :: _, [], _, _, h, _ => h.elim
end Go.Sx
namespace Go.Proofs
open Go Go.Sx Go.Fam

theorem tw_upd {J : Heap} {κ : List Nat} {v : AVal} {L : List (List Int)} {i : Nat} {lo : List Int} (h : Dat 5 J κ v (tw L)) (hi : L[i]? = some lo) (hn : κ.Nodup) : ∃ r vs q, v = .sl r 0 L.length ∧ J[r]? = some (some (.cells true 1 vs)) ∧ vs.length = L.length ∧ vs[i]? = some (.sl q 0 lo.length) ∧ r ∈ κ ∧ q ∈ κ ∧ J[q]? = some (some (.cells true 1 (ivL lo))) ∧
    ∀ (J' : Heap) (lo' : List Int), lo' ≠ [] → lo'.length = lo.length → (∀ a ∈ κ, a ≠ q → J'[a]? = J[a]?) → J'[q]? = some (some (.cells true 1 (ivL lo'))) → Dat 5 J' κ v (tw (L.set i lo')) := by
  have L0 : L ≠ [] := by rintro rfl; simp at hi
  have h' : Dat 5 J κ v (tbC L) := by unfold tbC; rwa [if_neg L0]
  obtain ⟨r, vs, κ', e, k, g, a⟩ := tb_get h' L0
  subst e; subst k
  have al := a.len
  simp only [List.length_map] at al
  obtain ⟨κ1, u, u1, u2, u3, u4⟩ := a.upd i (vw lo) (by rw [List.getElem?_map, hi]; rfl)
  obtain ⟨lo0, q, e1, k1, gq⟩ := vw_get u3
  subst e1; subst k1
  have nd := List.nodup_append.1 hn
  have hq : q ∈ κ' := u2 q (by simp)
  have hqr : r ≠ q := fun e => nd.2.2 q hq r (by simp) e.symm
  refine ⟨r, vs, q, rfl, g, al, u1, by simp, List.mem_append_left _ hq, gq, fun J' lo' l0 hl hJ hq' => ?_⟩
  have hs : L.set i lo' ≠ [] := by intro e; have := congrArg List.length e; simp at this; exact L0 this
  have := tb_put (d := 4) (n := L.length) hs (by simp) (by rw [hJ r (by simp) hqr]; exact g) (by rw [List.map_set]; exact u4 (Dat 4 J') (vw lo') (fun κ2 v2 e2 m1 m2 hd => hd.congr fun b hb => hJ b (List.mem_append_left _ (m1 b hb)) (by rintro rfl; exact m2 _ hb (by simp))) (vw_put l0 hl.symm hq') nd.1)
  unfold tbC at this
  rwa [if_neg hs] at this

theorem fam_upd {J : Heap} {ι : List Nat} {g p : List Int} {L U : List (List Int)} {v0 v1 v2 v3 : AVal} {i : Nat} {lo hi : List Int} (h : Dat 6 J ι (.agg [v0, v1, v2, v3]) (Fv ⟨g, p, L, U⟩)) (hn : ι.Nodup) (hL : L[i]? = some lo) (hU : U[i]? = some hi) :
    ∃ r s vs us q t, v2 = .sl r 0 L.length ∧ v3 = .sl s 0 U.length ∧ J[r]? = some (some (.cells true 1 vs)) ∧ J[s]? = some (some (.cells true 1 us)) ∧ vs.length = L.length ∧ us.length = U.length ∧ vs[i]? = some (.sl q 0 lo.length) ∧ us[i]? = some (.sl t 0 hi.length) ∧
      J[q]? = some (some (.cells true 1 (ivL lo))) ∧ J[t]? = some (some (.cells true 1 (ivL hi))) ∧ q ∈ ι ∧ t ∈ ι ∧ q ≠ t ∧
      ∀ (J' : Heap) (lo' hi' : List Int), lo' ≠ [] → hi' ≠ [] → lo'.length = lo.length → hi'.length = hi.length → (∀ a ∈ ι, a ≠ q → a ≠ t → J'[a]? = J[a]?) → J'[q]? = some (some (.cells true 1 (ivL lo'))) → J'[t]? = some (some (.cells true 1 (ivL hi'))) →
        Dat 6 J' ι (.agg [v0, v1, v2, v3]) (Fv ⟨g, p, L.set i lo', U.set i hi'⟩) := by
  obtain ⟨xs, ex, hx⟩ := h
  cases ex
  obtain ⟨κ0, κa, e0, d0, hx⟩ := (show All3 (Dat 5 J) ι [v0, v1, v2, v3] [vw g, vw p, tw L, tw U] from hx)
  obtain ⟨κ1, κb, e1, d1, hx⟩ := hx
  obtain ⟨κ2, κc, e2, d2, hx⟩ := hx
  obtain ⟨κ3, κd, e3, d3, hx⟩ := hx
  obtain rfl : κd = [] := hx
  subst e3; subst e2; subst e1; subst e0
  have n0 := List.nodup_append.1 hn
  have n1 := List.nodup_append.1 n0.2.1
  have n2 := List.nodup_append.1 n1.2.1
  have n3 := List.nodup_append.1 n2.2.1
  obtain ⟨r, vs, q, rfl, gr, lv, gi, hr, hq, gq, up2⟩ := tw_upd d2 hL n2.1
  obtain ⟨s, us, t, rfl, gs, lu, gj, hs, ht, gt, up3⟩ := tw_upd d3 hU n3.1
  have hqt : q ≠ t := fun e => n2.2.2 q hq t (List.mem_append_left _ ht) e
  refine ⟨r, s, vs, us, q, t, rfl, rfl, gr, gs, lv, lu, gi, gj, gq, gt, by simp [hq], by simp [ht], hqt, fun J' lo' hi' l0 h0 ll hl hJ h1 h2 => ?_⟩
  have c0 : ∀ a ∈ κ0, a ≠ q ∧ a ≠ t := fun a ha => ⟨n0.2.2 a ha q (by simp [hq]), n0.2.2 a ha t (by simp [ht])⟩
  have c1 : ∀ a ∈ κ1, a ≠ q ∧ a ≠ t := fun a ha => ⟨n1.2.2 a ha q (by simp [hq]), n1.2.2 a ha t (by simp [ht])⟩
  have c2 : ∀ a ∈ κ2, a ≠ t := fun a ha => n2.2.2 a ha t (by simp [ht])
  have c3 : ∀ a ∈ κ3, a ≠ q := fun a ha e => n2.2.2 q hq a (by simp [ha]) e.symm
  exact ⟨_, rfl, κ0, _, rfl, d0.congr fun a ha => hJ a (by simp [ha]) (c0 a ha).1 (c0 a ha).2, κ1, _, rfl, d1.congr fun a ha => hJ a (by simp [ha]) (c1 a ha).1 (c1 a ha).2,
    κ2, _, rfl, up2 J' lo' l0 ll (fun a ha n => hJ a (by simp [ha]) n (c2 a ha)) h1, κ3, [], rfl, up3 J' hi' h0 hl (fun a ha n => hJ a (by simp [ha]) (c3 a ha) n) h2, rfl⟩
end Go.Proofs

namespace Go.Proofs
open Go Go.Sx Go.Fam
attribute [local irreducible] Run

def oG (g p : List Int) (m : Nat) : List (Nat × AVal) := [(1, vw g), (2, vw p), (3, .ptr 0 0 0 1), (6, .ptr 1 0 0 1), (7, .int .i64 0), (10, .ptr m 0 0 1), (32, vw g), (33, .int .i64 g.length)]
structure OgI (l : Lw) (g p : List Int) (m : Nat) (ι : List Nat) (v0 v1 v2 v3 : AVal) (J : Heap) (L U : List (List Int)) : Prop where
  r0 : J[0]? = some (some (.cells false 10 [l.v]))
  r1 : J[1]? = some (some (.cells false 4 [.agg [.nilsl, .nilsl, .nilsl, .nilsl]]))
  rm : J[m]? = some (some (.cells false 4 [.agg [v0, v1, v2, v3]]))
  dat : Dat 6 J ι (.agg [v0, v1, v2, v3]) (Fv ⟨g, p, L, U⟩)
def tI (f : Rg → Int) (l : Lw) (g p : List Int) (i : Nat) : List (List Int) := ofT f l (g.take i) p ++ zT (g.length - i) p.length
def rK (f : Rg → Int) (l : Lw) (x : Int) (p : List Int) (k : Nat) : List Int := rowT f l x (p.take k) ++ zeros (p.length - k)
def tK (f : Rg → Int) (l : Lw) (g p : List Int) (i : Nat) (x : Int) (k : Nat) : List (List Int) := ofT f l (g.take i) p ++ rK f l x p k :: zT (g.length - (i + 1)) p.length
theorem zT_cons (m n : Nat) : zT (m + 1) n = zeros n :: zT m n := List.replicate_succ
theorem zeros_cons (n : Nat) : zeros (n + 1) = 0 :: zeros n := List.replicate_succ
theorem ofT_len (f : Rg → Int) (l : Lw) (g p : List Int) : (ofT f l g p).length = g.length := by simp [ofT]
theorem rowT_len (f : Rg → Int) (l : Lw) (x : Int) (p : List Int) : (rowT f l x p).length = p.length := by simp [rowT]
theorem zeros_len (n : Nat) : (zeros n).length = n := by simp [zeros]
theorem zT_len (m n : Nat) : (zT m n).length = m := by simp [zT]
theorem rK_len {f : Rg → Int} {l : Lw} {x : Int} {p : List Int} {k : Nat} (hk : k ≤ p.length) : (rK f l x p k).length = p.length := by
  unfold rK; rw [List.length_append, rowT_len, zeros_len, List.length_take]; omega
theorem tK_len {f : Rg → Int} {l : Lw} {g p : List Int} {i k : Nat} {x : Int} (hi : i < g.length) : (tK f l g p i x k).length = g.length := by
  unfold tK; rw [List.length_append, ofT_len, List.length_cons, zT_len, List.length_take]; omega
theorem tI_enter {f : Rg → Int} {l : Lw} {g p : List Int} {i : Nat} (x : Int) (hi : i < g.length) : tI f l g p i = tK f l g p i x 0 := by
  unfold tI tK rK
  rw [show g.length - i = (g.length - (i + 1)) + 1 by omega, zT_cons]; rfl
theorem tK_at {f : Rg → Int} {l : Lw} {g p : List Int} {i k : Nat} {x : Int} (hi : i < g.length) : (tK f l g p i x k)[i]? = some (rK f l x p k) := by
  unfold tK
  have : (ofT f l (g.take i) p).length = i := by rw [ofT_len, List.length_take]; omega
  rw [List.getElem?_append_right (by omega), this, Nat.sub_self]; rfl
theorem tK_set {f : Rg → Int} {l : Lw} {g p : List Int} {i k : Nat} {x : Int} (hi : i < g.length) : (tK f l g p i x k).set i (rK f l x p (k + 1)) = tK f l g p i x (k + 1) := by
  unfold tK
  have : (ofT f l (g.take i) p).length = i := by rw [ofT_len, List.length_take]; omega
  rw [List.set_append_right _ _ (by omega), this, Nat.sub_self]; rfl
theorem rK_set {f : Rg → Int} {l : Lw} {x y : Int} {p : List Int} {k : Nat} (hk : k < p.length) (hy : p[k]? = some y) : (rK f l x p k).set k (f (curOf l x y)) = rK f l x p (k + 1) := by
  unfold rK
  have e1 : (rowT f l x (p.take k)).length = k := by rw [rowT_len, List.length_take]; omega
  have e2 : rowT f l x (p.take (k + 1)) = rowT f l x (p.take k) ++ [f (curOf l x y)] := by unfold rowT; rw [List.take_add_one, hy, List.map_append]; rfl
  rw [List.set_append_right _ _ (by omega), e1, Nat.sub_self, show p.length - k = (p.length - (k + 1)) + 1 by omega, zeros_cons, e2, List.append_assoc]; rfl
theorem rK_all (f : Rg → Int) (l : Lw) (x : Int) (p : List Int) : rK f l x p p.length = rowT f l x p := by
  unfold rK; rw [List.take_length, Nat.sub_self]; exact List.append_nil _
theorem tK_leave {f : Rg → Int} {l : Lw} {g p : List Int} {i : Nat} {x : Int} (hi : i < g.length) (hx : g[i]? = some x) : tK f l g p i x p.length = tI f l g p (i + 1) := by
  unfold tK tI
  rw [rK_all]
  have : ofT f l (g.take (i + 1)) p = ofT f l (g.take i) p ++ [rowT f l x p] := by unfold ofT rowT; rw [List.take_add_one, hx, List.map_append]; rfl
  rw [this, List.append_assoc]; rfl
theorem tI_all (f : Rg → Int) (l : Lw) (g p : List Int) : tI f l g p g.length = ofT f l g p := by
  unfold tI; rw [List.take_length, Nat.sub_self]; exact List.append_nil _
theorem rK_at {f : Rg → Int} {l : Lw} {x : Int} {p : List Int} {k : Nat} (hk : k < p.length) : (rK f l x p k)[k]? = some 0 := by
  unfold rK
  have e1 : (rowT f l x (p.take k)).length = k := by rw [rowT_len, List.length_take]; omega
  rw [List.getElem?_append_right (by omega), e1, Nat.sub_self, show p.length - k = (p.length - (k + 1)) + 1 by omega, zeros_cons]; rfl
theorem ivL_set (l : List Int) (k : Nat) (x : Int) : (ivL l).set k (.int .i64 x) = ivL (l.set k x) := by unfold ivL; rw [List.map_set]
set_option maxHeartbeats 4000000 in
set_option maxRecDepth 20000 in
theorem Of_fn (l : Lw) (h : LwOK l) (g p : List Int) (hg : Asc (-1000000) g) (hp : Asc 0 p) : Go.Sx.Fn Try.prog n_curve_Of [l.v, vw g, vw p] [] fun v H' => ∃ ι, Dat 7 H' ι v (.tup [Fv (ofF l g p), .int .i64 0]) ∧ ι.Nodup := by
  have g0 : g ≠ [] := by have := hg.pos; rintro rfl; simp at this
  have p0 : p ≠ [] := by have := hp.pos; rintro rfl; simp at this
  have gm := hg.most
  have pm := hp.most
  have k1 := checkLaw_raw l
  rw [lawE_of h] at k1
  have k2 := checkLines_run g p (by omega) (by omega)
  rw [line_iff.2 ⟨hg, hp⟩] at k2
  have k3 := linesOf_run g0 p0 gm pm
  have kp := zF_pure g0 p0
  refine run_fn e_curve_Of fun G => ?_
  simp only [Lw.v, Lw.cs] at k1
  simp only [go_sem, Lw.v, Lw.cs]
  refine cP k1 ?_
  simp only [go_sem]
  refine cP k2 ?_
  simp only [go_sem]
  refine cFD k3 kp 2 ⟨.inl (by simp [vw, frz, Function.comp_def]), .inl (by simp [vw, frz, Function.comp_def]), trivial⟩ ?_
  obtain ⟨u0, u1, u2, u3, e⟩ := thaw_fv (zF g p) 2
  have hD := fun (A : Heap) (hA : A.length = 2) => thaw_dat (H := A ++ (thaw 6 2 (Fv (zF g p))).2) 2 kp fun i hi => by rw [get_new hA]
  simp only [List.length_cons, List.length_nil, e] at hD ⊢
  generalize (thaw 6 2 (Fv (zF g p))).2 = Y at *
  simp only [go_sem, vw, List.length_map]
  obtain ⟨ι, hι⟩ : ∃ x, upFrom 2 Y.length = x := ⟨_, rfl⟩
  have hι' : ∀ r, r ∈ ι ↔ 2 ≤ r ∧ r < 2 + Y.length := fun r => by rw [← hι]; exact upFrom_mem
  have hnd : ι.Nodup := by rw [← hι]; exact upFrom_nodup _ _
  rw [hι] at hD
  have z0 : zT g.length p.length = tI Rg.lo l g p 0 := by unfold tI; rfl
  have z1 : zT g.length p.length = tI Rg.hi l g p 0 := by unfold tI; rfl
  have hI0 : ∀ (Z : Heap), Z = some (.cells false 10 [l.v]) :: some (.cells false 4 [.agg [.nilsl, .nilsl, .nilsl, .nilsl]]) :: (Y ++ [some (.cells false 4 [.agg [AVal.sl u0 0 g.length, AVal.sl u1 0 p.length, AVal.sl u2 0 g.length, AVal.sl u3 0 g.length]])]) →
      OgI l g p (Y.length + 1 + 1) ι (.sl u0 0 g.length) (.sl u1 0 p.length) (.sl u2 0 g.length) (.sl u3 0 g.length) Z (tI Rg.lo l g p 0) (tI Rg.hi l g p 0) := by
    rintro Z rfl
    refine ⟨rfl, rfl, ?_, ?_⟩
    · simp
    · have := (hD [some (.cells false 10 [l.v]), some (.cells false 4 [.agg [.nilsl, .nilsl, .nilsl, .nilsl]])] rfl).app [some (.cells false 4 [.agg [AVal.sl u0 0 g.length, AVal.sl u1 0 p.length, AVal.sl u2 0 g.length, AVal.sl u3 0 g.length]])] (fun r hr => by rw [hι'] at hr; simp; omega)
      have e1 : zF g p = ⟨g, p, tI Rg.lo l g p 0, tI Rg.hi l g p 0⟩ := by unfold zF; rw [← z0, ← z1]
      rw [e1] at this
      have zl : ∀ f : Rg → Int, (tI f l g p 0).length = g.length := fun f => by unfold tI; simp [ofT, zT]
      simp only [zl] at this
      exact this
  have zg : (zF g p).g.length = g.length ∧ (zF g p).p.length = p.length ∧ (zF g p).lo.length = g.length ∧ (zF g p).hi.length = g.length := ⟨rfl, rfl, zT_len _ _, zT_len _ _⟩
  rw [zg.1, zg.2.1, zg.2.2.1, zg.2.2.2]
  have hm2 : 2 ≤ Y.length + 1 + 1 := by omega
  have hmι : Y.length + 1 + 1 ∉ ι := fun h => by rw [hι'] at h; omega
  have h0ι : 0 ∉ ι := fun h => by rw [hι'] at h; omega
  have h1ι : 1 ∉ ι := fun h => by rw [hι'] at h; omega
  generalize Y.length + 1 + 1 = m at *
  clear k1 k2 k3 kp hD hι z0 z1 zg
  refine loop_ind k_curve_Of_r19.eq_1 (fun a : Nat × Heap => a.1 ≤ g.length ∧ OgI l g p m ι (.sl u0 0 g.length) (.sl u1 0 p.length) (.sl u2 0 g.length) (.sl u3 0 g.length) a.2 (tI Rg.lo l g p a.1) (tI Rg.hi l g p a.1)) (fun a => g.length - a.1)
    (fun a => (tsets 71 (oG g p m ++ [(34, .int .i64 a.1)]), a.2)) (0, _) ⟨Nat.zero_le _, hI0 _ rfl⟩ (by simp [go_sem, oG, vw]) (by simp [Lw.v, Lw.cs]) ?_
  rintro ⟨i, J⟩ ⟨hi, hI⟩ ih
  dsimp only at hi hI ih ⊢
  by_cases h1 : i < g.length
  · have h2 : (i : Int) < g.length := by omega
    have m0 : ¬ (i : Int) < 0 := by omega
    have h3 := idx_next h1 (by omega)
    have hx := get_at h1
    obtain ⟨x, hxe⟩ : ∃ x, at1 g i = x := ⟨_, rfl⟩
    have hxr := hg.inn i h1
    rw [hxe] at hx hxr
    rw [tI_enter x h1, tI_enter x h1] at hI
    simp only [go_sem, oG, h2, vw, List.length_map, m0, hx, Int.toNat_natCast]
    refine loop_ind k_curve_Of_r17.eq_1 (fun a1 : Nat × Heap => a1.1 ≤ p.length ∧ OgI l g p m ι (.sl u0 0 g.length) (.sl u1 0 p.length) (.sl u2 0 g.length) (.sl u3 0 g.length) a1.2 (tK Rg.lo l g p i x a1.1) (tK Rg.hi l g p i x a1.1)) (fun a => p.length - a.1)
      (fun a => (tsets 71 (oG g p m ++ [(34, .int .i64 i), (11, .int .i64 i), (12, .int .i64 x), (39, vw p), (40, .int .i64 p.length), (41, .int .i64 a.1)]), a.2)) (0, J) ⟨Nat.zero_le _, hI⟩ (by simp [go_sem, oG, vw]) rfl ?_
    rintro ⟨k, J⟩ ⟨hk, hR⟩ ihk
    dsimp only at hk hR ihk ⊢
    by_cases j1 : k < p.length
    · have j2 : (k : Int) < p.length := by omega
      have m1 : ¬ (k : Int) < 0 := by omega
      have j3 := idx_next j1 (by omega)
      have hy := get_at j1
      obtain ⟨y, hye⟩ : ∃ y, at1 p k = y := ⟨_, rfl⟩
      have hyr := hp.inn k j1
      rw [hye] at hy hyr
      have kc := current_ok l h x y (by omega) (by omega)
      obtain ⟨f0, f1, fm, hd⟩ := hR
      have ihn := fun J' hh => ihk (k + 1, J') (by omega) ⟨j1, hh⟩
      clear ihk ih
      dsimp only at ihn
      have c0 := cells_at f0
      have cm := cells_at fm
      simp only [Lw.v, Lw.cs, Rg.v] at kc c0
      obtain ⟨r, s, vs, us, q, t, e2, e3, gr, gs, lv, lu, gi, gj, gq, gt, hq, ht, hqt, up⟩ := fam_upd hd hnd (tK_at h1) (tK_at h1)
      rw [tK_len h1] at e2 e3 lv lu
      cases e2; cases e3
      rw [rK_len (by omega)] at gi gj
      have q0 := fun Y => cells_more cm Y
      have q1 := fun Y => cells_more (cells_at gr) Y
      have q2 := fun Y => cells_more (cells_at gs) Y
      have q3 := fun Y => cells_more (cells_at gq) Y
      have q4 := fun Y => cells_more (cells_at gt) Y
      simp only [go_sem, oG, j2, vw, List.length_map, m1, m0, hx, hy, h2, Int.toNat_natCast, c0]
      refine cP kc ?_
      have hql := (List.getElem?_eq_some_iff.1 gq).1
      have htl := (List.getElem?_eq_some_iff.1 gt).1
      have w1 := rK_len (f := Rg.lo) (l := l) (x := x) (p := p) (k := k) (by omega)
      have w2 := rK_len (f := Rg.hi) (l := l) (x := x) (p := p) (k := k) (by omega)
      have w3 := rK_at (f := Rg.lo) (l := l) (x := x) j1
      have w4 := rK_at (f := Rg.hi) (l := l) (x := x) j1
      have w5 := rK_set (f := Rg.lo) (l := l) (x := x) j1 hy
      have w6 := rK_set (f := Rg.hi) (l := l) (x := x) j1 hy
      have q5 := fun Y x => put_more (H := J) hql Y x
      have q6 := fun x Y => cells_more (H := J.set q x) (j := t) (cells_at (by rw [List.getElem?_set_ne hqt]; exact gt)) Y
      have q7 := fun z Y x => put_more (H := J.set q z) (j := t) (by simpa using htl) Y x
      simp only [go_sem, oG, j2, j3, vw, List.length_map, m1, m0, h2, Int.toNat_natCast, q0, q1, q2, q3, q4, lv, lu, gi, gj, w1, w2, w3, w4, q5, q6, q7, ivL_set, w5, w6]
      have ne : ∀ f : Rg → Int, rK f l x p (k + 1) ≠ [] := fun f e => by
        have := rK_len (f := f) (l := l) (x := x) (p := p) (k := k + 1) (by omega)
        rw [e] at this
        exact p0 (List.length_eq_zero_iff.1 this.symm)
      have nq : ∀ a, a ∉ ι → a ≠ q ∧ a ≠ t := fun a ha => ⟨by rintro rfl; exact ha hq, by rintro rfl; exact ha ht⟩
      have l0 := (List.getElem?_eq_some_iff.1 f0).1
      have l1 := (List.getElem?_eq_some_iff.1 f1).1
      have lm := (List.getElem?_eq_some_iff.1 fm).1
      refine ⟨by rw [show (J.length == q) = false from beq_eq_false_iff_ne.2 (by omega)]; rfl, ihn _ ⟨?_, ?_, ?_, ?_⟩ _ (by simp [go_sem, oG, vw])⟩
      · rw [two_off l0 (nq 0 h0ι).1 (nq 0 h0ι).2]; exact f0
      · rw [two_off l1 (nq 1 h1ι).1 (nq 1 h1ι).2]; exact f1
      · rw [two_off lm (nq m hmι).1 (nq m hmι).2]; exact fm
      · have := up ((J.set q (some (Row.cells true 1 (ivL (rK Rg.lo l x p (k + 1)))))).set t (some (Row.cells true 1 (ivL (rK Rg.hi l x p (k + 1))))) ++ [some (Row.cells false 2 [AVal.agg [AVal.int IntKind.i64 (curOf l x y).lo, AVal.int IntKind.i64 (curOf l x y).hi]])]) (rK Rg.lo l x p (k + 1)) (rK Rg.hi l x p (k + 1)) (ne _) (ne _)
          (by rw [rK_len (by omega), rK_len (by omega)]) (by rw [rK_len (by omega), rK_len (by omega)]) (fun a ha n1 n2 => two_off (hd.lt a ha) n1 n2) (two_r hql hqt) (two_s htl)
        rw [tK_set h1, tK_set h1] at this
        exact this
    · have j2 : ¬ (k : Int) < p.length := by omega
      obtain rfl : k = p.length := by omega
      rw [tK_leave h1 hx, tK_leave h1 hx] at hR
      clear ihk
      simp only [go_sem, oG, j2, vw, List.length_map, h3]
      exact ih (i + 1, J) (by omega) ⟨h1, hR⟩ _ (by simp [go_sem, oG, vw])
  · have h2 : ¬ (i : Int) < g.length := by omega
    obtain rfl : i = g.length := by omega
    rw [tI_all, tI_all] at hI
    obtain ⟨f0, f1, fm, hd⟩ := hI
    have cm := cells_at fm
    have c1 := cells_at f1
    have hlt1 := (List.getElem?_eq_some_iff.1 f1).1
    have q1 := fun x => put_lt (H := J) (x := x) hlt1
    have q2 := fun g sz es => cells_at (H := J.set 1 (some (Row.cells g sz es))) (j := 1) (List.getElem?_set_self hlt1)
    simp only [go_sem, oG, h2, vw, List.length_map, cm, c1, q1, q2]
    exact ⟨ι, ⟨_, rfl, ι, [], by simp, hd.set _ h1ι, [], [], rfl, .int _ _ _ _, rfl⟩, hnd⟩
theorem Of_run (l : Lw) (h : LwOK l) {g p : List Int} (hg : Asc (-1000000) g) (hp : Asc 0 p) : Ans Try.prog n_curve_Of [l.v, vw g, vw p] [] (thaw 7 0 (ofC l g p)).1 (thaw 7 0 (ofC l g p)).2 :=
  ans_dat0 (ofC_pure l (by have := hg.pos; rintro rfl; simp at this) (by have := hp.pos; rintro rfl; simp at this)) (Of_fn l h g p hg hp)
end Go.Proofs

namespace Go.Sx
open Go
section
variable {P : Program} {g : FuncId} {c : AVal} {d : Nat} {G : Ctx} {H : Heap} {k : Nat} {rd : Option Nat} {R : Runner} {l : List AOper} {fs : List Frame} {ρ : List AVal} {ms : List Nat} {Q : Goal} {dst : Option Nat}
  {ao : AOper} {lo hi : Nat} {tr : List (List Nat × List Nat)} {ss : List (List AOper)} {args ys : List AVal}
end
end Go.Sx
namespace Go.Proofs
open Go Go.Sx Go.Fam
attribute [local irreducible] Run
end Go.Proofs

namespace Go.Proofs
open Go Go.Sx Go.Fam
attribute [local irreducible] Run

end Go.Proofs

namespace Go.Proofs
open Go Go.Sx Go.Fam
attribute [local irreducible] Run

end Go.Proofs

namespace Go.Proofs
open Go Go.Sx Go.Fam
attribute [local irreducible] AT
set_option maxRecDepth 100000
end Go.Proofs

namespace Go.Proofs
open Go Go.Sx Go.Fam
attribute [local irreducible] Run


theorem In_ok (w : Int) (r : Rg) (h1 : -1152921504606846976 ≤ r.lo) (h2 : r.lo ≤ r.hi) (h3 : r.hi ≤ 1152921504606846976) : Ans Try.prog n_kit_Dice_In [.ptr 0 0 0 1, r.v] [some (Dr w)] (.int .i64 (btw w r.lo r.hi)) [some (Dr (dstep w))] := by
  have e : (if r.hi > r.lo then r.hi else r.lo) = r.hi := by split <;> omega
  refine spec_run e_kit_Dice_In fun G => ?_
  simp only [go_sem, Rg.v, e]
  refine callD (between_ok w r.lo r.hi h1 h2 h3) rfl ⟨.int _ _, .int _ _, trivial⟩ (.int _ _) (dr_bel _ _) (dr_bel _ _) (by simp) (by simp) ?_
  simp only [go_sem]
  exact ⟨_, rfl⟩

def inR (w : Int) (r : Rg) (exact : Bool) : Rg := if exact then ⟨btw w r.lo r.hi, btw w r.lo r.hi⟩ else hullR (btw w r.lo r.hi) (btw (dstep w) r.lo r.hi)
theorem inR_in {w : Int} {r : Rg} {b : Bool} (h : r.lo ≤ r.hi) : r.lo ≤ (inR w r b).lo ∧ (inR w r b).lo ≤ (inR w r b).hi ∧ (inR w r b).hi ≤ r.hi := by
  have h1 := btw_in (w := w) h
  have h2 := btw_in (w := dstep w) h
  unfold inR hullR
  split
  · exact ⟨h1.1, Int.le_refl _, h1.2⟩
  · refine ⟨?_, ?_, ?_⟩ <;> dsimp only <;> (repeat' split) <;> omega

def Pr : Row := .cells false 1 [.ptr 0 0 0 1]
def Br (b : Bool) : Row := .cells false 1 [.bool b]

theorem in_ok (w : Int) (r : Rg) (b : Bool) (h1 : -1152921504606846976 ≤ r.lo) (h2 : r.lo ≤ r.hi) (h3 : r.hi ≤ 1152921504606846976) :
    Ans Try.prog n_kit_WithinLaw_1 [r.v, .ptr 1 0 0 1, .ptr 2 0 0 1] [some (Dr w), some Pr, some (Br b)] (inR w r b).v [some (Dr (d2 w)), some Pr, some (Br b)] := by
  have hi := In_ok w r h1 h2 h3
  have hi2 := In_ok (dstep w) r h1 h2 h3
  cases b
  · refine spec_run e_kit_WithinLaw_1 fun G => ?_
    simp only [go_sem, Rg.v, Pr, Br]
    refine dD hi ?_
    simp only [go_sem]
    refine cD hi2 ?_
    simp only [go_sem, inR, hullR, d2]
    exact ⟨_, rfl⟩
  · refine spec_run e_kit_WithinLaw_1 fun G => ?_
    simp only [go_sem, Rg.v, Pr, Br]
    refine dD hi ?_
    simp only [go_sem]
    refine cD hi2 ?_
    simp only [go_sem, inR, d2]
    exact ⟨_, rfl⟩

def inLaw (w : Int) (l : Lw) (b : Bool) : Lw := ⟨inR w l.perv b, inR (d2 w) l.gain b, inR (d2 (d2 w)) l.shift b, inR (d2 (d2 (d2 w))) l.full b, inR (d2 (d2 (d2 (d2 w)))) l.part b⟩

theorem within_call {P : Program} {R : Runner} {ao : AOper} {lo hi : Nat} {l : List AOper} {fs : List Sx.Frame} {ρ : List AVal} {tr : List (List Nat × List Nat)} {ss : List (List AOper)} {Q : Goal} {g : Nat} {w w' : Int} {r v : AVal} {b : Bool} {X Y : Row}
    (h : Ans P g [r, .ptr 1 0 0 1, .ptr 2 0 0 1] [some (Dr w), some Pr, some (Br b)] v [some (Dr w'), some Pr, some (Br b)]) (hr : Bel (fun _ => False) r) (hv : Bel (fun _ => False) v)
    (hd : dynOK ao.free [0, 1, 3] [0, 1, 3] tr lo = true)
    (hK : R (.grp lo l (tr ++ [([0, 1, 3], [0, 1, 3])]) hi ss) fs ⟨setD ρ ao.dst v, [some (Dr w'), some Pr, some X, some (Br b), some Y], []⟩ Q) :
    DCallR P R g [r, .ptr 1 0 0 1, .ptr 3 0 0 1] ao lo l tr hi ss fs ρ [some (Dr w), some Pr, some X, some (Br b), some Y] [] Q := by
  have e : outΔ (outσ [0, 1, 3] 5) 0 [some (Dr w'), some Pr, some (Br b)] = [(0, Dr w'), (1, Pr), (3, Br b)] := rfl
  refine dS h [0, 1, 3] (by decide) ⟨rfl, rfl, rfl, trivial⟩ ?_ ?_ ⟨dr_bel _ _, ?_, ?_, trivial⟩ rfl hv ⟨dr_bel _ _, ?_, ?_, trivial⟩ (by simp) (by simp) ?_ ?_
  · show _ = [ren _ r, .ptr 1 0 0 1, .ptr 3 0 0 1]
    rw [ren_same hr]
  · exact ⟨hr.mono fun _ h => h.elim, by rw [bel_ptr]; simp, by rw [bel_ptr]; simp, trivial⟩
  · unfold Pr; rw [row_bel_cells]; exact ⟨by rw [bel_ptr]; simp, trivial⟩
  · unfold Br; rw [row_bel_cells]; exact ⟨.bool _, trivial⟩
  · unfold Pr; rw [row_bel_cells]; exact ⟨by rw [bel_ptr]; simp, trivial⟩
  · unfold Br; rw [row_bel_cells]; exact ⟨.bool _, trivial⟩
  · exact hd
  · exact hK

theorem within_callS {P : Program} {G : Ctx} {R : Runner} {k : Nat} {l : List AOper} {fs : List Sx.Frame} {ρ : List AVal} {Q : Goal} {g : Nat} {w w' : Int} {r v : AVal} {b : Bool} {X Y : Row} {dst : Option Nat}
    (h : Ans P g [r, .ptr 1 0 0 1, .ptr 2 0 0 1] [some (Dr w), some Pr, some (Br b)] v [some (Dr w'), some Pr, some (Br b)]) (hr : Bel (fun _ => False) r) (hv : Bel (fun _ => False) v) (hk : k ≤ 5)
    (hK : R (.ops l) fs ⟨setD ρ dst v, [some (Dr w'), some Pr, some X, some (Br b), some Y], []⟩ Q) :
    CallR P G k R g [r, .ptr 1 0 0 1, .ptr 3 0 0 1] dst l fs ρ [some (Dr w), some Pr, some X, some (Br b), some Y] [] Q := by
  refine callS h [0, 1, 3] (by decide) ⟨rfl, rfl, rfl, trivial⟩ ?_ ?_ ⟨dr_bel _ _, ?_, ?_, trivial⟩ (Nat.le_refl _) (hv.mono fun _ h => h.elim) ⟨dr_bel _ _, ?_, ?_, trivial⟩ (by simp) hk (by simp) ?_
  · show _ = [ren _ r, .ptr 1 0 0 1, .ptr 3 0 0 1]
    rw [ren_same hr]
  · exact ⟨hr.mono fun _ h => h.elim, by rw [bel_ptr]; simp, by rw [bel_ptr]; simp, trivial⟩
  · unfold Pr; rw [row_bel_cells]; exact ⟨by rw [bel_ptr]; simp, trivial⟩
  · unfold Br; rw [row_bel_cells]; exact ⟨.bool _, trivial⟩
  · unfold Pr; rw [row_bel_cells]; exact ⟨by rw [bel_ptr]; simp, trivial⟩
  · unfold Br; rw [row_bel_cells]; exact ⟨.bool _, trivial⟩
  · rw [ren_same hv]; exact hK

theorem withinLaw_ok (w : Int) (l : Lw) (hl : LwOK l) (b : Bool) : Ans Try.prog n_kit_WithinLaw [.ptr 0 0 0 1, l.v, .bool b] [some (Dr w)] (inLaw w l b).v [some (Dr (d2 (d2 (d2 (d2 (d2 w))))))] := by
  obtain ⟨p1, p2, p3, p4, p5⟩ := hl
  have c1 := in_ok w l.perv b (by omega) (by omega) (by omega)
  have c2 := in_ok (d2 w) l.gain b (by omega) (by omega) (by omega)
  have c3 := in_ok (d2 (d2 w)) l.shift b (by omega) (by omega) (by omega)
  have c4 := in_ok (d2 (d2 (d2 w))) l.full b (by omega) (by omega) (by omega)
  have c5 := in_ok (d2 (d2 (d2 (d2 w)))) l.part b (by omega) (by omega) (by omega)
  refine spec_run e_kit_WithinLaw fun G => ?_
  simp only [go_sem, Lw.v, Lw.cs]
  refine within_call (X := _) (Y := _) c1 (rg_bel _ _) (rg_bel _ _) ?_ ?_
  · simp only [go_sem]
  simp only [go_sem, Pr, Br, Rg.v]
  refine within_call (X := _) (Y := _) c2 (rg_bel _ _) (rg_bel _ _) ?_ ?_
  · simp only [go_sem]
  simp only [go_sem, Pr, Br, Rg.v]
  refine within_call (X := _) (Y := _) c3 (rg_bel _ _) (rg_bel _ _) ?_ ?_
  · simp only [go_sem]
  simp only [go_sem, Pr, Br, Rg.v]
  refine within_call (X := _) (Y := _) c4 (rg_bel _ _) (rg_bel _ _) ?_ ?_
  · simp only [go_sem]
  simp only [go_sem, Pr, Br, Rg.v]
  refine within_callS (X := _) (Y := _) c5 (rg_bel _ _) (rg_bel _ _) (by decide) ?_
  simp only [go_sem, Pr, Br, Rg.v]
  exact ⟨rfl, _, rfl⟩

structure SubR (a b : Rg) : Prop where
  lo : b.lo ≤ a.lo
  hi : a.hi ≤ b.hi
structure SubL (m l : Lw) : Prop where
  perv : SubR m.perv l.perv
  gain : SubR m.gain l.gain
  shift : SubR m.shift l.shift
  full : SubR m.full l.full
  part : SubR m.part l.part
theorem inLaw_ok {w : Int} {l : Lw} {b : Bool} (hl : LwOK l) : LwOK (inLaw w l b) ∧ SubL (inLaw w l b) l := by
  obtain ⟨p1, p2, p3, p4, p5⟩ := hl
  have c1 := inR_in (w := w) (r := l.perv) (b := b) p1.2.1
  have c2 := inR_in (w := d2 w) (r := l.gain) (b := b) p2.2.1
  have c3 := inR_in (w := d2 (d2 w)) (r := l.shift) (b := b) p3.2.1
  have c4 := inR_in (w := d2 (d2 (d2 w))) (r := l.full) (b := b) p4.2.1
  have c5 := inR_in (w := d2 (d2 (d2 (d2 w)))) (r := l.part) (b := b) p5.2.1
  unfold inLaw
  refine ⟨⟨?_, ?_, ?_, ?_, ?_⟩, ⟨⟨c1.1, c1.2.2⟩, ⟨c2.1, c2.2.2⟩, ⟨c3.1, c3.2.2⟩, ⟨c4.1, c4.2.2⟩, ⟨c5.1, c5.2.2⟩⟩⟩ <;> dsimp only <;> omega

theorem div_anti {n a b : Int} (hn : 0 ≤ n) (ha : 1 ≤ a) (hab : a ≤ b) : n / b ≤ n / a := by
  rw [Int.le_ediv_iff_mul_le (by omega)]
  have h2 : n / b * a ≤ n / b * b := Int.mul_le_mul_of_nonneg_left hab (Int.ediv_nonneg hn (by omega))
  have h3 := Int.ediv_mul_le n (b := b) (by omega)
  omega
theorem rup_anti {n a b : Int} (hn : 0 ≤ n) (ha : 1 ≤ a) (hab : a ≤ b) : rup n b ≤ rup n a := by
  have h1 : n ≤ rup n a * a := by
    have := Int.lt_ediv_add_one_mul_self (n + a - 1) (b := a) (by omega)
    unfold rup
    rw [Int.add_mul] at this
    omega
  have h0 : 0 ≤ rup n a := Int.ediv_nonneg (by omega) (by omega)
  have h2 : rup n a * a ≤ rup n a * b := Int.mul_le_mul_of_nonneg_left hab h0
  have h3 : n + b - 1 < (rup n a + 1) * b := by rw [Int.add_mul]; omega
  have := Int.ediv_lt_of_lt_mul (by omega : 0 < b) h3
  show (n + b - 1) / b ≤ _
  omega

theorem drive_sub {l m : Lw} (hl : LwOK l) (hm : LwOK m) (h : SubL m l) {g p : Int} (hp : 0 ≤ p) : SubR (driveOf m g p) (driveOf l g p) := by
  have k1 := div_anti (n := 1000 * p) (by omega) (show 1 ≤ m.gain.hi by have := hm.gain; omega) h.gain.hi
  have k2 := rup_anti (n := 1000 * p) (by omega) hl.gain.1 h.gain.lo
  have s1 := h.shift.lo; have s2 := h.shift.hi
  exact ⟨bnd_mono (by omega), bnd_mono (by omega)⟩
theorem mn_mono2 {a b c d : Int} (h : a ≤ b) (h2 : c ≤ d) : mn a c ≤ mn b d := by unfold mn; split <;> split <;> omega
theorem cur_sub {l m : Lw} (hl : LwOK l) (hm : LwOK m) (h : SubL m l) {g p : Int} (hp : 0 ≤ p) : SubR (curOf m g p) (curOf l g p) := by
  have hd := drive_sub hl hm h (g := g) hp
  have d0 := (bnd_in (g + l.shift.lo + (1000 * p) / l.gain.hi)).1
  have d1 := (bnd_in (g + m.shift.hi + rup (1000 * p) m.gain.lo)).1
  have d2 := drive_le hl (g := g) (p := p) hp
  have d3 := drive_le hm (g := g) (p := p) hp
  have e0 : 0 ≤ (driveOf l g p).lo := d0
  have e1 : 0 ≤ (driveOf m g p).hi := d1
  have e2 : 0 ≤ (driveOf m g p).lo := Int.le_trans e0 hd.lo
  have lp := hl.perv; have mp := hm.perv; have lq := hl.part; have mq := hm.part; have lf := hl.full; have mf := hm.full
  have hp1 := h.perv.lo; have hp2 := h.perv.hi; have hq1 := h.part.lo; have hq2 := h.part.hi
  unfold curOf
  generalize driveOf l g p = dl at *
  generalize driveOf m g p = dm at *
  obtain ⟨r0, _, _⟩ := root_ok (cube_nonneg e0)
  obtain ⟨r1, _, _⟩ := root_ok (cube_nonneg e1)
  obtain ⟨u0, _, _⟩ := rootU_ok (cube_nonneg e1)
  have a1 := root_mono (cube_nonneg e0) (cube_le e0 hd.lo)
  have a2 := rootU_mono (cube_nonneg e1) (cube_le e1 hd.hi)
  have b1 : l.perv.lo * root (cube dl.lo) ≤ m.perv.lo * root (cube dm.lo) := Int.mul_le_mul hp1 a1 r0 (by omega)
  have b2 : m.perv.hi * rootU (cube dm.hi) ≤ l.perv.hi * rootU (cube dl.hi) := Int.mul_le_mul hp2 a2 (by omega) (by omega)
  have c1 : spaceLo l dl ≤ spaceLo m dm := Int.ediv_le_ediv (by decide) b1
  have c2 : spaceHi m dm ≤ spaceHi l dl := rup_mono b2 (by decide)
  have z1 : 0 ≤ spaceLo l dl := Int.ediv_nonneg (Int.mul_nonneg lp.1 r0) (by decide)
  have z2 : 0 ≤ spaceHi m dm := (rup_in (Int.mul_nonneg (by omega) (by omega)) (by decide)).1
  have f1 := mn_mono2 c1 h.full.lo
  have f2 := mn_mono2 c2 h.full.hi
  have y1 : 0 ≤ mn (spaceLo l dl) l.full.lo := (mn_in z1 lf.1).1
  have y2 : 0 ≤ mn (spaceHi m dm) m.full.hi := (mn_in z2 (by omega)).1
  exact ⟨Int.ediv_le_ediv (by decide) (Int.mul_le_mul hq1 f1 y1 (by omega)), rup_mono (Int.mul_le_mul hq2 f2 y2 (by omega)) (by decide)⟩

end Go.Proofs

namespace Go.Proofs
open Go Go.Sx

def k_law02_CurveLines_r0 : List AOper := [
  ⟨(some (2)), .move (.const (.bool false)), none, []⟩]
def k_law02_CurveLines_r1 : List AOper := [
  ⟨(some (18)), .move (.tmp 0), none, []⟩, 
  ⟨(some (19)), .call (.const (.fn (.func 12) [] [])) [.tmp 18], none, []⟩, 
  ⟨(some (3)), .move (.tmp 19), none, []⟩]
def k_law02_CurveLines_r2 : List AOper := [
  ⟨(some (20)), .move (.tmp 3), none, []⟩, 
  ⟨(some (21)), .call (.const (.fn (.func 13) [] [])) [.tmp 20], none, []⟩, 
  ⟨(some (4)), .box (.const (.agg [.int .i64 0, .int .i64 0, .int .i64 0, .int .i64 0, .int .i64 0, .int .i64 0, .int .i64 0, .int .i64 0, .int .i64 0, .int .i64 0])), none, []⟩, 
  ⟨none, .store 10 (.tmp 4) (.tmp 21), none, []⟩]
def k_law02_CurveLines_r3 : List AOper := [
  ⟨(some (22)), .move (.tmp 3), none, []⟩, 
  ⟨(some (23)), .load (some (10)) (.tmp 4), none, [0]⟩, 
  ⟨(some (24)), .move (.tmp 3), none, [0, 1]⟩, 
  ⟨(some (25)), .call (.const (.fn (.func 36) [] [])) [.tmp 24, .const (.int .i64 2)], none, [0, 1]⟩, 
  ⟨(some (26)), .call (.const (.fn (.func 47) [] [])) [.tmp 22, .tmp 23, .tmp 25], none, []⟩, 
  ⟨(some (5)), .box (.const (.agg [.int .i64 0, .int .i64 0, .int .i64 0, .int .i64 0, .int .i64 0, .int .i64 0, .int .i64 0, .int .i64 0, .int .i64 0, .int .i64 0])), none, [0, 1, 2, 3, 4]⟩, 
  ⟨none, .store 10 (.tmp 5) (.tmp 26), none, []⟩]
def k_law02_CurveLines_r3s : List (List AOper) := [
  [
  ⟨(some (22)), .move (.tmp 3), none, []⟩, 
  ⟨(some (23)), .load (some (10)) (.tmp 4), none, [0]⟩, 
  ⟨(some (24)), .move (.tmp 3), none, [0, 1]⟩, 
  ⟨(some (25)), .call (.const (.fn (.func 36) [] [])) [.tmp 24, .const (.int .i64 2)], none, [0, 1]⟩, 
  ⟨(some (26)), .call (.const (.fn (.func 47) [] [])) [.tmp 22, .tmp 23, .tmp 25], none, []⟩, 
  ⟨(some (5)), .box (.const (.agg [.int .i64 0, .int .i64 0, .int .i64 0, .int .i64 0, .int .i64 0, .int .i64 0, .int .i64 0, .int .i64 0, .int .i64 0, .int .i64 0])), none, [0, 1, 2, 3, 4]⟩], 
  [
  ⟨none, .store 10 (.tmp 5) (.tmp 26), none, []⟩]]
theorem k_law02_CurveLines_r3_sg : segs k_law02_CurveLines_r3 = k_law02_CurveLines_r3s := by kernel_rfl
theorem k_law02_CurveLines_r3_st : statOK k_law02_CurveLines_r3 = true := by kernel_rfl
def k_law02_CurveLines_r4 : List AOper := [
  ⟨(some (27)), .move (.tmp 3), none, []⟩, 
  ⟨(some (28)), .call (.const (.fn (.func 48) [] [])) [.tmp 27, .const (.int .i64 (-9000)), .const (.int .i64 9000), .const (.int .i64 5)], none, []⟩, 
  ⟨(some (29)), .move (.tmp 3), none, []⟩, 
  ⟨(some (30)), .call (.const (.fn (.func 48) [] [])) [.tmp 29, .const (.int .i64 0), .const (.int .i64 400000), .const (.int .i64 5)], none, []⟩, 
  ⟨(some (6)), .move (.tmp 28), none, []⟩, 
  ⟨(some (7)), .move (.tmp 30), none, []⟩]
def k_law02_CurveLines_r5 : List AOper := [
  ⟨(some (32)), .load (some (10)) (.tmp 4), none, []⟩, 
  ⟨(some (33)), .move (.tmp 6), none, []⟩, 
  ⟨(some (34)), .move (.tmp 7), none, []⟩, 
  ⟨(some (35)), .call (.const (.fn (.func 49) [] [])) [.tmp 32, .tmp 33, .tmp 34], none, []⟩, 
  ⟨(some (31)), .move (.tmp 35), none, []⟩, 
  ⟨(some (36)), .extract (.tmp 31) 0, none, []⟩, 
  ⟨(some (37)), .extract (.tmp 31) 1, none, []⟩, 
  ⟨(some (8)), .box (.const (.agg [.nilsl, .nilsl, .nilsl, .nilsl])), none, []⟩, 
  ⟨none, .store 4 (.tmp 8) (.tmp 36), none, []⟩, 
  ⟨(some (9)), .move (.tmp 37), none, []⟩]
def k_law02_CurveLines_r6 : List AOper := [
  ⟨(some (39)), .load (some (10)) (.tmp 5), none, []⟩, 
  ⟨(some (40)), .move (.tmp 6), none, []⟩, 
  ⟨(some (41)), .move (.tmp 7), none, []⟩, 
  ⟨(some (42)), .call (.const (.fn (.func 49) [] [])) [.tmp 39, .tmp 40, .tmp 41], none, []⟩, 
  ⟨(some (38)), .move (.tmp 42), none, []⟩, 
  ⟨(some (43)), .extract (.tmp 38) 0, none, []⟩, 
  ⟨(some (44)), .extract (.tmp 38) 1, none, []⟩, 
  ⟨(some (10)), .box (.const (.agg [.nilsl, .nilsl, .nilsl, .nilsl])), none, []⟩, 
  ⟨none, .store 4 (.tmp 10) (.tmp 43), none, []⟩, 
  ⟨(some (11)), .move (.tmp 44), none, []⟩]
def k_law02_CurveLines_r7 : List AOper := [
  ⟨(some (45)), .move (.tmp 9), none, []⟩, 
  ⟨(some (46)), .bin .plain .neq (.tmp 45) (.const (.int .i64 0)), none, []⟩, 
  ⟨(some (47)), .move (.tmp 46), none, []⟩, 
  ⟨(some (48)), .move (.tmp 11), (some (47, false)), []⟩, 
  ⟨(some (49)), .bin .plain .neq (.tmp 48) (.const (.int .i64 0)), (some (47, false)), []⟩, 
  ⟨(some (50)), .pick (.tmp 47) (.const (.bool true)) (.tmp 49), none, []⟩, 
  ⟨(some (51)), .move (.tmp 50), none, []⟩, 
  ⟨(some (52)), .load (some (4)) (.tmp 8), (some (51, false)), []⟩, 
  ⟨(some (53)), .call (.const (.fn (.func 27) [] [])) [.tmp 52], (some (51, false)), []⟩, 
  ⟨(some (54)), .bin .plain .neq (.tmp 53) (.const (.int .i64 0)), (some (51, false)), []⟩, 
  ⟨(some (55)), .pick (.tmp 51) (.const (.bool true)) (.tmp 54), none, []⟩, 
  ⟨(some (56)), .move (.tmp 55), none, []⟩, 
  ⟨(some (57)), .load (some (4)) (.tmp 8), (some (56, false)), []⟩, 
  ⟨(some (58)), .load (some (4)) (.tmp 10), (some (56, false)), []⟩, 
  ⟨(some (59)), .call (.const (.fn (.func 37) [] [])) [.tmp 57, .tmp 58], (some (56, false)), []⟩, 
  ⟨(some (60)), .not (.tmp 59), (some (56, false)), []⟩, 
  ⟨(some (61)), .pick (.tmp 56) (.const (.bool true)) (.tmp 60), none, []⟩]
def k_law02_CurveLines_r8 : List AOper := [
  ⟨(some (2)), .move (.const (.bool false)), none, []⟩]
def k_law02_CurveLines_r9 : List AOper := [
  ⟨(some (12)), .move (.const (.int .i64 0)), none, []⟩]
def k_law02_CurveLines_r10 : List AOper := [
  ⟨(some (62)), .move (.tmp 12), none, []⟩, 
  ⟨(some (63)), .move (.tmp 6), none, []⟩, 
  ⟨(some (64)), .len false (.tmp 63), none, []⟩, 
  ⟨(some (65)), .bin .plain .lss (.tmp 62) (.tmp 64), none, []⟩]
def k_law02_CurveLines_r11 : List AOper := [
  ⟨(some (13)), .move (.const (.int .i64 0)), none, []⟩]
def k_law02_CurveLines_r12 : List AOper := [
  ⟨(some (68)), .move (.tmp 13), none, []⟩, 
  ⟨(some (69)), .move (.tmp 7), none, []⟩, 
  ⟨(some (70)), .len false (.tmp 69), none, []⟩, 
  ⟨(some (71)), .bin .plain .lss (.tmp 68) (.tmp 70), none, []⟩]
def k_law02_CurveLines_r13 : List AOper := [
  ⟨(some (75)), .load (some (10)) (.tmp 4), none, []⟩, 
  ⟨(some (76)), .move (.tmp 6), none, [0]⟩, 
  ⟨(some (77)), .move (.tmp 12), none, [0, 1]⟩, 
  ⟨(some (78)), .indexAddr 1 (.tmp 76) (.tmp 77), none, [0]⟩, 
  ⟨(some (79)), .load none (.tmp 78), none, [0]⟩, 
  ⟨(some (80)), .move (.tmp 7), none, [0, 1, 2, 3, 4]⟩, 
  ⟨(some (81)), .move (.tmp 13), none, [0, 1, 2, 3, 4, 5]⟩, 
  ⟨(some (82)), .indexAddr 1 (.tmp 80) (.tmp 81), none, [0, 1, 2, 3, 4]⟩, 
  ⟨(some (83)), .load none (.tmp 82), none, [0, 1, 2, 3, 4]⟩, 
  ⟨(some (84)), .call (.const (.fn (.func 18) [] [])) [.tmp 75, .tmp 79, .tmp 83], none, []⟩, 
  ⟨(some (74)), .move (.tmp 84), none, []⟩, 
  ⟨(some (85)), .extract (.tmp 74) 0, none, []⟩, 
  ⟨(some (86)), .extract (.tmp 74) 1, none, [11]⟩, 
  ⟨(some (14)), .box (.const (.agg [.int .i64 0, .int .i64 0])), none, [0, 1, 2, 3, 4, 5, 6, 7, 8, 9, 10, 11, 12]⟩, 
  ⟨none, .store 2 (.tmp 14) (.tmp 85), none, [12]⟩, 
  ⟨(some (15)), .move (.tmp 86), none, []⟩]
def k_law02_CurveLines_r13s : List (List AOper) := [
  [
  ⟨(some (75)), .load (some (10)) (.tmp 4), none, []⟩, 
  ⟨(some (76)), .move (.tmp 6), none, [0]⟩, 
  ⟨(some (77)), .move (.tmp 12), none, [0, 1]⟩, 
  ⟨(some (78)), .indexAddr 1 (.tmp 76) (.tmp 77), none, [0]⟩, 
  ⟨(some (79)), .load none (.tmp 78), none, [0]⟩, 
  ⟨(some (80)), .move (.tmp 7), none, [0, 1, 2, 3, 4]⟩, 
  ⟨(some (81)), .move (.tmp 13), none, [0, 1, 2, 3, 4, 5]⟩, 
  ⟨(some (82)), .indexAddr 1 (.tmp 80) (.tmp 81), none, [0, 1, 2, 3, 4]⟩, 
  ⟨(some (83)), .load none (.tmp 82), none, [0, 1, 2, 3, 4]⟩, 
  ⟨(some (84)), .call (.const (.fn (.func 18) [] [])) [.tmp 75, .tmp 79, .tmp 83], none, []⟩, 
  ⟨(some (74)), .move (.tmp 84), none, []⟩, 
  ⟨(some (85)), .extract (.tmp 74) 0, none, []⟩, 
  ⟨(some (86)), .extract (.tmp 74) 1, none, [11]⟩, 
  ⟨(some (14)), .box (.const (.agg [.int .i64 0, .int .i64 0])), none, [0, 1, 2, 3, 4, 5, 6, 7, 8, 9, 10, 11, 12]⟩, 
  ⟨none, .store 2 (.tmp 14) (.tmp 85), none, [12]⟩], 
  [
  ⟨(some (15)), .move (.tmp 86), none, []⟩]]
theorem k_law02_CurveLines_r13_sg : segs k_law02_CurveLines_r13 = k_law02_CurveLines_r13s := by kernel_rfl
theorem k_law02_CurveLines_r13_st : statOK k_law02_CurveLines_r13 = true := by kernel_rfl
def k_law02_CurveLines_r14 : List AOper := [
  ⟨(some (88)), .load (some (4)) (.tmp 8), none, []⟩, 
  ⟨(some (89)), .move (.tmp 6), none, [0]⟩, 
  ⟨(some (90)), .move (.tmp 12), none, [0, 1]⟩, 
  ⟨(some (91)), .indexAddr 1 (.tmp 89) (.tmp 90), none, [0]⟩, 
  ⟨(some (92)), .load none (.tmp 91), none, [0]⟩, 
  ⟨(some (93)), .move (.tmp 7), none, [0, 1, 2, 3, 4]⟩, 
  ⟨(some (94)), .move (.tmp 13), none, [0, 1, 2, 3, 4, 5]⟩, 
  ⟨(some (95)), .indexAddr 1 (.tmp 93) (.tmp 94), none, [0, 1, 2, 3, 4]⟩, 
  ⟨(some (96)), .load none (.tmp 95), none, [0, 1, 2, 3, 4]⟩, 
  ⟨(some (97)), .call (.const (.fn (.func 33) [] [])) [.tmp 88, .tmp 92, .tmp 96], none, []⟩, 
  ⟨(some (87)), .move (.tmp 97), none, []⟩, 
  ⟨(some (98)), .extract (.tmp 87) 0, none, []⟩, 
  ⟨(some (99)), .extract (.tmp 87) 1, none, [11]⟩, 
  ⟨(some (16)), .box (.const (.agg [.int .i64 0, .int .i64 0])), none, [0, 1, 2, 3, 4, 5, 6, 7, 8, 9, 10, 11, 12]⟩, 
  ⟨none, .store 2 (.tmp 16) (.tmp 98), none, [12]⟩, 
  ⟨(some (17)), .move (.tmp 99), none, []⟩]
def k_law02_CurveLines_r14s : List (List AOper) := [
  [
  ⟨(some (88)), .load (some (4)) (.tmp 8), none, []⟩, 
  ⟨(some (89)), .move (.tmp 6), none, [0]⟩, 
  ⟨(some (90)), .move (.tmp 12), none, [0, 1]⟩, 
  ⟨(some (91)), .indexAddr 1 (.tmp 89) (.tmp 90), none, [0]⟩, 
  ⟨(some (92)), .load none (.tmp 91), none, [0]⟩, 
  ⟨(some (93)), .move (.tmp 7), none, [0, 1, 2, 3, 4]⟩, 
  ⟨(some (94)), .move (.tmp 13), none, [0, 1, 2, 3, 4, 5]⟩, 
  ⟨(some (95)), .indexAddr 1 (.tmp 93) (.tmp 94), none, [0, 1, 2, 3, 4]⟩, 
  ⟨(some (96)), .load none (.tmp 95), none, [0, 1, 2, 3, 4]⟩, 
  ⟨(some (97)), .call (.const (.fn (.func 33) [] [])) [.tmp 88, .tmp 92, .tmp 96], none, []⟩, 
  ⟨(some (87)), .move (.tmp 97), none, []⟩, 
  ⟨(some (98)), .extract (.tmp 87) 0, none, []⟩, 
  ⟨(some (99)), .extract (.tmp 87) 1, none, [11]⟩, 
  ⟨(some (16)), .box (.const (.agg [.int .i64 0, .int .i64 0])), none, [0, 1, 2, 3, 4, 5, 6, 7, 8, 9, 10, 11, 12]⟩, 
  ⟨none, .store 2 (.tmp 16) (.tmp 98), none, [12]⟩], 
  [
  ⟨(some (17)), .move (.tmp 99), none, []⟩]]
theorem k_law02_CurveLines_r14_sg : segs k_law02_CurveLines_r14 = k_law02_CurveLines_r14s := by kernel_rfl
theorem k_law02_CurveLines_r14_st : statOK k_law02_CurveLines_r14 = true := by kernel_rfl
def k_law02_CurveLines_r15 : List AOper := [
  ⟨(some (100)), .move (.tmp 15), none, []⟩, 
  ⟨(some (101)), .bin .plain .neq (.tmp 100) (.const (.int .i64 0)), none, []⟩, 
  ⟨(some (102)), .move (.tmp 101), none, []⟩, 
  ⟨(some (103)), .move (.tmp 17), (some (102, false)), []⟩, 
  ⟨(some (104)), .bin .plain .neq (.tmp 103) (.const (.int .i64 0)), (some (102, false)), []⟩, 
  ⟨(some (105)), .pick (.tmp 102) (.const (.bool true)) (.tmp 104), none, []⟩, 
  ⟨(some (106)), .move (.tmp 105), none, []⟩, 
  ⟨(some (107)), .load (some (2)) (.tmp 14), (some (106, false)), []⟩, 
  ⟨(some (108)), .load (some (2)) (.tmp 16), (some (106, false)), []⟩, 
  ⟨(some (109)), .eqAgg true [.int, .int] (.tmp 107) (.tmp 108), (some (106, false)), []⟩, 
  ⟨(some (110)), .pick (.tmp 106) (.const (.bool true)) (.tmp 109), none, []⟩]
def k_law02_CurveLines_r16 : List AOper := [
  ⟨(some (2)), .move (.const (.bool false)), none, []⟩]
def k_law02_CurveLines_r17 : List AOper := [
  ⟨(some (72)), .move (.tmp 13), none, []⟩, 
  ⟨(some (73)), .bin .plain .add (.tmp 72) (.const (.int .i64 1)), none, []⟩, 
  ⟨(some (13)), .move (.tmp 73), none, []⟩]
def k_law02_CurveLines_r18 : ACode := (.seq (.seq (.reg k_law02_CurveLines_r12 false) (.cond (.tmp 71) .skip (.exit 2))) (.seq (.block 3 (.seq (.reg k_law02_CurveLines_r13 true) (.seq (.reg k_law02_CurveLines_r14 true) (.seq (.reg k_law02_CurveLines_r15 false) (.cond (.tmp 110) (.seq (.reg k_law02_CurveLines_r16 false) .ret) .skip))))) (.reg k_law02_CurveLines_r17 false)))
def k_law02_CurveLines_r19 : List AOper := [
  ⟨(some (66)), .move (.tmp 12), none, []⟩, 
  ⟨(some (67)), .bin .plain .add (.tmp 66) (.const (.int .i64 1)), none, []⟩, 
  ⟨(some (12)), .move (.tmp 67), none, []⟩]
def k_law02_CurveLines_r20 : ACode := (.seq (.seq (.reg k_law02_CurveLines_r10 false) (.cond (.tmp 65) .skip (.exit 0))) (.seq (.block 1 (.seq (.reg k_law02_CurveLines_r11 false) (.block 2 (.loop k_law02_CurveLines_r18)))) (.reg k_law02_CurveLines_r19 false)))
def k_law02_CurveLines_r21 : List AOper := [
  ⟨(some (111)), .call (.const (.fn (.func 23) [] [])) [], none, []⟩, 
  ⟨(some (2)), .move (.tmp 111), none, []⟩]
def k_law02_CurveLines : AFun := { params := 1, ntmps := 112, body := (.seq (.reg k_law02_CurveLines_r0 false) (.seq (.reg k_law02_CurveLines_r1 false) (.seq (.reg k_law02_CurveLines_r2 false) (.seq (.reg k_law02_CurveLines_r3 true) (.seq (.reg k_law02_CurveLines_r4 false) (.seq (.reg k_law02_CurveLines_r5 false) (.seq (.reg k_law02_CurveLines_r6 false) (.seq (.seq (.reg k_law02_CurveLines_r7 false) (.cond (.tmp 61) (.seq (.reg k_law02_CurveLines_r8 false) .ret) .skip)) (.seq (.seq (.reg k_law02_CurveLines_r9 false) (.block 0 (.loop k_law02_CurveLines_r20))) (.seq (.reg k_law02_CurveLines_r21 false) .ret)))))))))), res := [.tmp 2] }
theorem k_law02_CurveLines_ok : cfun Try.prog Try.f8 = k_law02_CurveLines := by kernel_rfl


abbrev n_law02_CurveLines : Nat := 8
theorem e_law02_CurveLines : EntryOK Try.prog n_law02_CurveLines k_law02_CurveLines := ⟨Try.f8, Try.func8, k_law02_CurveLines_ok, by kernel_rfl⟩

attribute [go_sem] k_law02_CurveLines_r0 k_law02_CurveLines_r1 k_law02_CurveLines_r2 k_law02_CurveLines_r3s k_law02_CurveLines_r4 k_law02_CurveLines_r5 k_law02_CurveLines_r6 k_law02_CurveLines_r7 k_law02_CurveLines_r8 k_law02_CurveLines_r9 k_law02_CurveLines_r10 k_law02_CurveLines_r11
attribute [go_sem] k_law02_CurveLines_r12 k_law02_CurveLines_r13s k_law02_CurveLines_r14s k_law02_CurveLines_r15 k_law02_CurveLines_r16 k_law02_CurveLines_r17 k_law02_CurveLines_r19 k_law02_CurveLines_r21 k_law02_CurveLines_r3_sg k_law02_CurveLines_r14_sg k_law02_CurveLines_r13_sg k_law02_CurveLines_r3_st
attribute [go_sem] k_law02_CurveLines_r14_st k_law02_CurveLines_r13_st k_law02_CurveLines
end Go.Proofs

namespace Go.Proofs
open Go Go.Sx Go.Fam
attribute [local irreducible] Run

theorem ofF_inf {l m : Lw} (hl : LwOK l) (hm : LwOK m) (h : SubL m l) {g p : List Int} (hp : Asc 0 p) : InF (ofF m g p) (ofF l g p) := by
  refine ⟨rfl, rfl, fun i k h1 h2 => ?_⟩
  have h1' : i < g.length := h1
  have h2' : k < p.length := h2
  have tgE : ∀ (f : Rg → Int) (l : Lw), tg (ofT f l g p) i k = f (curOf l (at1 g i) (at1 p k)) := fun f l => by
    unfold tg ofT at1
    simp only [List.getD_eq_getElem?_getD, List.getElem?_map, List.getElem?_eq_getElem h1', Option.map_some, Option.getD_some, List.getElem?_eq_getElem h2']
  have := cur_sub hl hm h (g := at1 g i) (p := at1 p k) (hp.inn k h2').1
  show tg (ofT Rg.lo l g p) i k ≤ tg (ofT Rg.lo m g p) i k ∧ tg (ofT Rg.hi m g p) i k ≤ tg (ofT Rg.hi l g p) i k
  rw [tgE, tgE, tgE, tgE]
  exact ⟨this.lo, this.hi⟩
theorem ofF_tg (l : Lw) {g p : List Int} {i k : Nat} (h1 : i < g.length) (h2 : k < p.length) : (tg (ofF l g p).lo i k, tg (ofF l g p).hi i k) = ((curOf l (at1 g i) (at1 p k)).lo, (curOf l (at1 g i) (at1 p k)).hi) := by
  have tgE : ∀ (f : Rg → Int), tg (ofT f l g p) i k = f (curOf l (at1 g i) (at1 p k)) := fun f => by
    unfold tg ofT at1
    simp only [List.getD_eq_getElem?_getD, List.getElem?_map, List.getElem?_eq_getElem h1, Option.map_some, Option.getD_some, List.getElem?_eq_getElem h2]
  show (tg (ofT Rg.lo l g p) i k, tg (ofT Rg.hi l g p) i k) = _
  rw [tgE, tgE]

def cuH (w : Int) (l m : Lw) (gL pL : List Int) (Y Z : Heap) (bF bG : Row) (X : Heap) : Heap := some (Dr w) :: some (.cells false 10 [l.v]) :: some (.cells false 10 [m.v]) :: some (.cells true 1 (ivL gL)) :: some (.cells true 1 (ivL pL)) :: (Y ++ some bF :: (Z ++ some bG :: X))
def cuT (n gn pn : Nat) : List (Nat × AVal) := [(4, .ptr 1 0 0 1), (6, .sl 3 0 gn), (7, .sl 4 0 pn), (8, .ptr (n + 1 + 1 + 1 + 1 + 1) 0 0 1)]
set_option maxHeartbeats 8000000 in
set_option maxRecDepth 20000 in
theorem curveLines_ok (xs : List Int) (hl : xs.length ≤ 9223372036854775807) : Ans Try.prog n_law02_CurveLines [.view (xs.map (.int .i64))] [] (.bool true) [] := by
  have kd := newdice_ok xs hl
  obtain ⟨w, hw⟩ : ∃ w, feed (IntKind.u64.wrap (IntKind.u64.wrap xs.length + 1374496523)) xs = w := ⟨_, rfl⟩
  rw [hw] at kd
  have kl := lawof_ok w
  have lok := lawOf_in w
  obtain ⟨l, hl'⟩ : ∃ l, lawOf w = l := ⟨_, rfl⟩
  obtain ⟨w1, hw1⟩ : ∃ x, lawEnd w = x := ⟨_, rfl⟩
  rw [hl'] at kl lok
  rw [hw1] at kl
  have k2 := one_ok w1 2 (by omega)
  obtain ⟨bb, hbb⟩ : ∃ b, (upto w1 2 == 0) = b := ⟨_, rfl⟩
  obtain ⟨w2, hw2⟩ : ∃ x, dstep w1 = x := ⟨_, rfl⟩
  rw [hbb, hw2] at k2
  have km := withinLaw_ok w2 l lok bb
  obtain ⟨mok, hsub⟩ := inLaw_ok (w := w2) (b := bb) lok
  obtain ⟨m, hm⟩ : ∃ m, inLaw w2 l bb = m := ⟨_, rfl⟩
  obtain ⟨w3, hw3⟩ : ∃ x, d2 (d2 (d2 (d2 (d2 w2)))) = x := ⟨_, rfl⟩
  rw [hm] at km mok hsub
  rw [hw3] at km
  have n1 := Lines_run w3 (-9000) 9000 5 (by omega) (by omega)
  have a1 := linesOf_ok (w := w3) (lo := -9000) (hi := 9000) (most := 5) (a := -1000000) (by omega) (by omega) (by omega) (by omega)
  obtain ⟨gL, hG⟩ : ∃ x, linesOf w3 (-9000) 9000 5 = x := ⟨_, rfl⟩
  obtain ⟨w4, hw4⟩ : ∃ x, linesEnd w3 (-9000) 9000 5 = x := ⟨_, rfl⟩
  rw [hG, hw4] at n1
  rw [hG] at a1
  have n2 := Lines_run w4 0 400000 5 (by omega) (by omega)
  have a2 := linesOf_ok (w := w4) (lo := 0) (hi := 400000) (most := 5) (a := 0) (by omega) (by omega) (by omega) (by omega)
  obtain ⟨pL, hP⟩ : ∃ x, linesOf w4 0 400000 5 = x := ⟨_, rfl⟩
  obtain ⟨w5, hw5⟩ : ∃ x, linesEnd w4 0 400000 5 = x := ⟨_, rfl⟩
  rw [hP, hw5] at n2
  rw [hP] at a2
  clear hw hl' hw1 hbb hw2 hm hw3 hG hw4 hP hw5
  obtain ⟨a1, gm⟩ := a1
  obtain ⟨a2, pm⟩ := a2
  have g0 : gL ≠ [] := by have := a1.pos; rintro rfl; simp at this
  have p0 : pL ≠ [] := by have := a2.pos; rintro rfl; simp at this
  have kF := Of_run l lok a1 a2
  have kG := Of_run m mok a1 a2
  have pF := ofC_pure l g0 p0
  have pG := ofC_pure m g0 p0
  have ppF := ofF_pure l g0 p0
  have ppG := ofF_pure m g0 p0
  simp only [Lw.v, Lw.cs] at kl km kF kG
  refine spec_run e_law02_CurveLines fun G => ?_
  simp only [go_sem]
  refine callN1 kd ⟨by rw [bel_view, bels_ints]; trivial, trivial⟩ (dr_bel _ _) (by simp) (by simp) ?_
  simp only [go_sem]
  refine cD kl ?_
  simp only [go_sem]
  refine dD k2 ?_
  simp only [go_sem]
  refine dD km ?_
  simp only [go_sem]
  refine cDN n1 ?_ (by rw [bel_sl])
  simp only [go_sem, ren]
  refine cDN n2 ?_ (by rw [bel_sl])
  simp only [go_sem, ren]
  refine cFD kF pF 8 ⟨.inl ?_, .inl (vw_put (d := 6) (l := gL) g0 rfl rfl).frz, .inl (vw_put (d := 6) (l := pL) p0 rfl rfl).frz, trivial⟩ ?_
  · simp [frz]
  simp only [List.length_cons, List.length_nil, Nat.zero_add, Nat.reduceAdd, thaw_ofC]
  obtain ⟨a, b, c, d, e⟩ := thaw_fv (ofF l gL pL) 5
  have hD := fun (A : Heap) (hA : A.length = 5) => thaw_dat (H := A ++ (thaw 6 5 (Fv (ofF l gL pL))).2) 5 ppF fun i hi => by rw [get_new hA]
  simp only [e] at hD ⊢
  generalize (thaw 6 5 (Fv (ofF l gL pL))).2 = Y at *
  simp only [go_sem]
  have hgp : ∀ {J : Heap}, J[3]? = some (some (.cells true 1 (ivL gL))) → J[4]? = some (some (.cells true 1 (ivL pL))) → frz 8 J (.sl 3 0 gL.length) = vw gL ∧ frz 8 J (.sl 4 0 pL.length) = vw pL := fun h1 h2 => ⟨(vw_put (d := 6) (l := gL) g0 rfl h1).frz, (vw_put (d := 6) (l := pL) p0 rfl h2).frz⟩
  refine cFD kG pG 8 ⟨.inl ?_, .inl (hgp rfl rfl).1, .inl (hgp rfl rfl).2, trivial⟩ ?_
  · simp [frz]
  simp only [List.length_cons, List.length_append, List.length_nil, Nat.zero_add, Nat.reduceAdd, thaw_ofC]
  obtain ⟨a', b', c', d', e'⟩ := thaw_fv (ofF m gL pL) (Y.length + 1 + 1 + 1 + 1 + 1 + 1)
  have hD2 := fun (A : Heap) (hA : A.length = Y.length + 1 + 1 + 1 + 1 + 1 + 1) => thaw_dat (H := A ++ (thaw 6 (Y.length + 1 + 1 + 1 + 1 + 1 + 1) (Fv (ofF m gL pL))).2) (Y.length + 1 + 1 + 1 + 1 + 1 + 1) ppG fun i hi => by rw [get_new hA]
  simp only [e'] at hD2 ⊢
  generalize (thaw 6 (Y.length + 1 + 1 + 1 + 1 + 1 + 1) (Fv (ofF m gL pL))).2 = Z at *
  have hE : ∀ (r0 r1 r2 r3 r4 : Option Row) (R : Heap), frz 6 (r0 :: r1 :: r2 :: r3 :: r4 :: (Y ++ R)) (.agg [.sl a 0 (ofF l gL pL).g.length, .sl b 0 (ofF l gL pL).p.length, .sl c 0 (ofF l gL pL).lo.length, .sl d 0 (ofF l gL pL).hi.length]) = Fv (ofF l gL pL) := fun r0 r1 r2 r3 r4 R => ((hD [r0, r1, r2, r3, r4] rfl).app R (fun r hr => by rw [upFrom_mem] at hr; simp; omega)).frz
  have hEo : ∀ (r0 r1 r2 r3 r4 : Option Row) (R : Heap), frz 6 (Heap.onlyR (r0 :: r1 :: r2 :: r3 :: r4 :: (Y ++ R)) (upFrom 5 Y.length)) (.agg [.sl a 0 (ofF l gL pL).g.length, .sl b 0 (ofF l gL pL).p.length, .sl c 0 (ofF l gL pL).lo.length, .sl d 0 (ofF l gL pL).hi.length]) = Fv (ofF l gL pL) := fun r0 r1 r2 r3 r4 R => (((hD [r0, r1, r2, r3, r4] rfl).app R (fun r hr => by rw [upFrom_mem] at hr; simp; omega)).onlyR (fun _ h => h)).frz
  have hE2 : ∀ (r0 r1 r2 r3 r4 b : Option Row) (R : Heap), frz 6 (r0 :: r1 :: r2 :: r3 :: r4 :: (Y ++ b :: (Z ++ R))) (.agg [.sl a' 0 (ofF m gL pL).g.length, .sl b' 0 (ofF m gL pL).p.length, .sl c' 0 (ofF m gL pL).lo.length, .sl d' 0 (ofF m gL pL).hi.length]) = Fv (ofF m gL pL) := fun r0 r1 r2 r3 r4 b R => by
    have := ((hD2 ([r0, r1, r2, r3, r4] ++ (Y ++ [b])) (by simp)).app R (fun r hr => by rw [upFrom_mem] at hr; simp; omega)).frz
    simpa using this
  have fok := ofF_ok lok a1 a2
  have gok := ofF_ok mok a1 a2
  have fin := ofF_inf lok mok hsub (g := gL) a2
  have L1 : (ofF l gL pL).g.length = gL.length := rfl
  have L2 : (ofF l gL pL).p.length = pL.length := rfl
  have L3 : (ofF l gL pL).lo.length = gL.length := by simp [ofF, ofT]
  have L4 : (ofF l gL pL).hi.length = gL.length := by simp [ofF, ofT]
  have M3 : (ofF m gL pL).lo.length = gL.length := by simp [ofF, ofT]
  have M4 : (ofF m gL pL).hi.length = gL.length := by simp [ofF, ofT]
  have M1 : (ofF m gL pL).g.length = gL.length := rfl
  have M2 : (ofF m gL pL).p.length = pL.length := rfl
  have kC := Check_run (ofF l gL pL) (by omega) (by omega) (by omega) (by omega)
  rw [fam_iff.2 fok] at kC
  have kI := Inside_run (ofF l gL pL) (ofF m gL pL) (by omega) (by omega) (by omega) (by omega) (by omega) (by omega) (by omega) (by omega)
  rw [insB_wn fok gok fin] at kI
  have kA : ∀ i k, i < gL.length → k < pL.length → Ans Try.prog n_curve_At [Fv (ofF l gL pL), .int .i64 (at1 gL i), .int .i64 (at1 pL k)] [] (.tup [.agg [.int .i64 (curOf l (at1 gL i) (at1 pL k)).lo, .int .i64 (curOf l (at1 gL i) (at1 pL k)).hi], .int .i64 0]) [] := fun i k hi hk => by
    have h1 := At_run (ofF l gL pL) (by omega) (by omega) (by omega) (by omega) (at1 gL i) (at1 pL k)
    have b1 := a1.inn i hi
    have b2 := a2.inn k hk
    rw [atA_ok fok (by omega) (by omega)] at h1
    have h2 := at_line fok (i := i) (k := k) hi hk
    have h3 := ofF_tg l hi hk
    rw [h3] at h2
    rw [show atV (ofF l gL pL) (at1 gL i) (at1 pL k) = _ from h2] at h1
    exact h1
  have kK : ∀ i k, i < gL.length → k < pL.length → Ans Try.prog n_curve_Current [l.v, .int .i64 (at1 gL i), .int .i64 (at1 pL k)] [] (.tup [(curOf l (at1 gL i) (at1 pL k)).v, .int .i64 0]) [] := fun i k hi hk => by
    have b1 := a1.inn i hi
    have b2 := a2.inn k hk
    exact Current_ok l lok _ _ (by omega) (by omega)
  simp only [Lw.v, Lw.cs, Rg.v] at kK
  clear hD hD2 kF kG pF pG ppF ppG kl km k2 n1 n2 kd e e' hgp
  simp only [L1, L2, L3, L4, M1, M2, M3, M4] at *
  simp only [go_sem, List.append_assoc, List.cons_append, List.nil_append]
  refine cF kC 6 ⟨.inl (hE _ _ _ _ _ _), trivial⟩ ?_
  simp only [go_sem, List.append_assoc, List.cons_append, List.nil_append]
  refine cF kI 6 ⟨.inl (hE _ _ _ _ _ _), .inl (hE2 _ _ _ _ _ _ _), trivial⟩ ?_
  simp only [go_sem, List.append_assoc, List.cons_append, List.nil_append]
  refine loop_ind k_law02_CurveLines_r20.eq_1 (fun q : Nat × Heap => q.1 ≤ gL.length) (fun q => gL.length - q.1)
    (fun q => (tsets 112 (cuT Y.length gL.length pL.length ++ [(12, .int .i64 q.1)]), cuH w5 l m gL pL Y Z (.cells false 4 [.agg [.sl a 0 gL.length, .sl b 0 pL.length, .sl c 0 gL.length, .sl d 0 gL.length]]) (.cells false 4 [.agg [.sl a' 0 gL.length, .sl b' 0 pL.length, .sl c' 0 gL.length, .sl d' 0 gL.length]]) q.2)) (0, []) (Nat.zero_le _) (by simp [go_sem, cuT]) (by simp [cuH, Lw.v, Lw.cs]) ?_
  rintro ⟨i, X⟩ hi ih
  dsimp only at hi ih ⊢
  by_cases h1 : i < gL.length
  · have h2 : (i : Int) < gL.length := by omega
    have h3 := idx_next h1 (by omega)
    have m0 : ¬ (i : Int) < 0 := by omega
    have x1 := get_at h1
    simp only [go_sem, cuT, cuH, h2, List.length_map]
    refine loop_ind k_law02_CurveLines_r18.eq_1 (fun q : Nat × Heap => q.1 ≤ pL.length) (fun q => pL.length - q.1)
      (fun q => (tsets 112 (cuT Y.length gL.length pL.length ++ [(12, .int .i64 i), (13, .int .i64 q.1)]), cuH w5 l m gL pL Y Z (.cells false 4 [.agg [.sl a 0 gL.length, .sl b 0 pL.length, .sl c 0 gL.length, .sl d 0 gL.length]]) (.cells false 4 [.agg [.sl a' 0 gL.length, .sl b' 0 pL.length, .sl c' 0 gL.length, .sl d' 0 gL.length]]) q.2)) (0, X) (Nat.zero_le _) (by simp [go_sem, cuT]) (by simp [cuH, Lw.v, Lw.cs]) ?_
    rintro ⟨k, X⟩ hk ihk
    dsimp only at hk ihk ⊢
    by_cases j1 : k < pL.length
    · have j2 : (k : Int) < pL.length := by omega
      have j3 := idx_next j1 (by omega)
      have m1 : ¬ (k : Int) < 0 := by omega
      have x2 := get_at j1
      have v1 := kK i k h1 j1
      have v2 := kA i k h1 j1
      generalize curOf l (at1 gL i) (at1 pL k) = C at *
      simp only [go_sem, cuT, cuH, h2, j2, m0, m1, x1, x2, Int.toNat_natCast, List.length_map, Lw.v, Lw.cs]
      refine dP v1 ?_
      simp only [go_sem, h2, j2, j3, m0, m1, x1, x2, Int.toNat_natCast, List.length_map, List.append_assoc, List.cons_append, List.nil_append]
      repeat (refine ⟨by first | (simp; done) | (simp; omega) | omega, ?_⟩)
      refine dF v2 6 (upFrom 5 Y.length) ⟨.inl (hEo _ _ _ _ _ _), .inl rfl, .inl rfl, trivial⟩ ?_
      simp only [go_sem, h2, j2, j3, m0, m1, x1, x2, Int.toNat_natCast, List.length_map, List.append_assoc, List.cons_append, List.nil_append]
      repeat (refine ⟨by first | (simp; done) | (simp; omega) | omega, ?_⟩)
      exact ihk (k + 1, _) (by omega) j1 _ (by simp [go_sem, cuT])
    · have j2 : ¬ (k : Int) < pL.length := by omega
      simp only [go_sem, cuT, cuH, j2, h3, List.length_map]
      exact ih (i + 1, X) (by omega) h1 _ (by simp [go_sem, cuT])
  · have h2 : ¬ (i : Int) < gL.length := by omega
    simp only [go_sem, cuT, cuH, h2, List.length_map]
    refine cP awake_ok ?_
    simp only [go_sem]
end Go.Proofs

