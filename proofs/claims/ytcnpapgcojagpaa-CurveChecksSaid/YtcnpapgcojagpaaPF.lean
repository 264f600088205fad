/- A part of the proof. -/
import Derived.Test.YtcnpapgcojagpaaPE
set_option linter.unusedSimpArgs false
set_option linter.unusedVariables false
namespace Go.Proofs
open Go Go.Sx Go.Fam
attribute [local irreducible] Run

end Go.Proofs

namespace Go.Proofs
open Go Go.Sx Go.Fam
attribute [local irreducible] AT
set_option maxRecDepth 100000
end Go.Proofs

namespace Go.Proofs
open Go Go.Sx Go.Fam
attribute [local irreducible] Run


end Go.Proofs

namespace Go.Proofs
open Go Go.Sx

end Go.Proofs

namespace Go.Proofs
open Go Go.Sx Go.Fam
attribute [local irreducible] Run

end Go.Proofs

namespace Go.Proofs
open Go Go.Sx Go.Fam
attribute [local irreducible] Run

def eqT (a b : List AVal) (n : Nat) : List (Nat × AVal) := [(0, .view a), (1, .view b), (4, .bool false), (11, .view a), (12, .int .i64 n)]
theorem pEqual_run (a b : List Int) (hl : a.length ≤ 9223372036854775807) : Ans Try.prog n_slices_Equal_int_int [vw a, vw b] [] (.bool (decide (a = b))) [] := by
  refine spec_run e_slices_Equal_int_int fun G => ?_
  by_cases c : a.length = b.length
  · have c' : (a.length : Int) = b.length := by omega
    have c3 : ((a.length : Int) == b.length) = true := by rw [c']; exact beq_self_eq_true _
    simp only [go_sem, vw, List.length_map, bne, c3]
    refine loop_ind k_slices_Equal_int_int_r9.eq_1 (fun i : Nat => i ≤ a.length ∧ a.take i = b.take i) (fun i => a.length - i)
      (fun i => (tsets 26 (eqT (a.map (.int .i64)) (b.map (.int .i64)) a.length ++ [(13, .int .i64 i)]), [])) 0 ⟨Nat.zero_le _, rfl⟩ (by simp [go_sem, eqT]) rfl ?_
    rintro i ⟨hi, hE⟩ ih
    dsimp only at hi hE ih ⊢
    by_cases h1 : i < a.length
    · have h2 : (i : Int) < a.length := by omega
      have h2' : (i : Int) < b.length := by omega
      have m0 : ¬ (i : Int) < 0 := by omega
      have h3 := idx_next h1 hl
      have x1 := get_at h1
      have x2 := get_at (l := b) (i := i) (by omega)
      by_cases e : at1 a i = at1 b i
      · have e' : (at1 a i == at1 b i) = true := by simp [e]
        simp only [go_sem, eqT, h2, h2', List.length_map, m0, x1, x2, Int.toNat_natCast, h3, bne, e', beq_self_eq_true]
        exact ih (i + 1) (by omega) ⟨h1, take_more hE x1 x2 e⟩ _ (by simp [go_sem, eqT])
      · have e' : (at1 a i == at1 b i) = false := by simp [e]
        have : decide (a = b) = false := decide_eq_false (ne_at x1 x2 e)
        rw [this]
        simp only [go_sem, eqT, h2, h2', List.length_map, m0, x1, x2, Int.toNat_natCast, bne, e', beq_self_eq_true]
    · have h2 : ¬ (i : Int) < a.length := by omega
      have : decide (a = b) = true := decide_eq_true (take_all hE c h1)
      rw [this]
      simp only [go_sem, eqT, h2, List.length_map]
  · have c' : ¬ (a.length : Int) = b.length := by omega
    have c2 : ((a.length : Int) == b.length) = false := by simp; exact c'
    have : decide (a = b) = false := decide_eq_false fun h => c (by rw [h])
    rw [this]
    simp only [go_sem, vw, List.length_map, bne, c2]
def efT (a b : List AVal) (n : Nat) : List (Nat × AVal) := [(0, .view a), (1, .view b), (2, .fn (.func n_slices_Equal_int_int) [] []), (6, .bool false), (15, .view a), (16, .int .i64 n)]
theorem pEqualFunc_run (a b : List (List Int)) (hl : a.length ≤ 1000000) (hr : ∀ r ∈ a, r.length ≤ 9223372036854775807) : Ans Try.prog n_slices_EqualFunc_int_int_int_int [tw a, tw b, .fn (.func n_slices_Equal_int_int) [] []] [] (.bool (decide (a = b))) [] := by
  refine spec_run e_slices_EqualFunc_int_int_int_int fun G => ?_
  by_cases c : a.length = b.length
  · have c' : (a.length : Int) = b.length := by omega
    have c3 : ((a.length : Int) == b.length) = true := by rw [c']; exact beq_self_eq_true _
    simp only [go_sem, tw, List.length_map, bne, c3]
    refine loop_ind k_slices_EqualFunc_int_int_int_int_r10.eq_1 (fun i : Nat => i ≤ a.length ∧ a.take i = b.take i) (fun i => a.length - i)
      (fun i => (tsets 32 (efT (a.map vw) (b.map vw) a.length ++ [(17, .int .i64 i)]), [])) 0 ⟨Nat.zero_le _, rfl⟩ (by simp [go_sem, efT]) rfl ?_
    rintro i ⟨hi, hE⟩ ih
    dsimp only at hi hE ih ⊢
    by_cases h1 : i < a.length
    · have h2 : (i : Int) < a.length := by omega
      have h2' : (i : Int) < b.length := by omega
      have m0 : ¬ (i : Int) < 0 := by omega
      have h3 := idx_next h1 (by omega)
      obtain ⟨r, x1⟩ : ∃ r, a[i]? = some r := ⟨_, List.getElem?_eq_getElem h1⟩
      obtain ⟨s, x2⟩ : ∃ s, b[i]? = some s := ⟨_, List.getElem?_eq_getElem (by omega)⟩
      have k := pEqual_run r s (hr r (List.mem_of_getElem? x1))
      simp only [vw] at k
      simp only [go_sem, efT, h2, h2', List.length_map, m0, x1, x2, Int.toNat_natCast, vw]
      refine cP k ?_
      by_cases e : r = s
      · rw [decide_eq_true e]
        simp only [go_sem, h3]
        exact ih (i + 1) (by omega) ⟨h1, take_more hE x1 x2 e⟩ _ (by simp [go_sem, efT])
      · have : decide (a = b) = false := decide_eq_false (ne_at x1 x2 e)
        rw [this, decide_eq_false e]
        simp only [go_sem]
    · have h2 : ¬ (i : Int) < a.length := by omega
      have : decide (a = b) = true := decide_eq_true (take_all hE c h1)
      rw [this]
      simp only [go_sem, efT, h2, List.length_map]
  · have c' : ¬ (a.length : Int) = b.length := by omega
    have c2 : ((a.length : Int) == b.length) = false := by simp; exact c'
    have : decide (a = b) = false := decide_eq_false fun h => c (by rw [h])
    rw [this]
    simp only [go_sem, tw, List.length_map, bne, c2]
theorem psameTable_run (a b : List (List Int)) (hl : a.length ≤ 1000000) (hr : ∀ r ∈ a, r.length ≤ 9223372036854775807) : Ans Try.prog n_curve_sameTable [tw a, tw b] [] (.bool (decide (a = b))) [] := by
  have k := pEqualFunc_run a b hl hr
  refine spec_run e_curve_sameTable fun G => ?_
  simp only [go_sem]
  refine cP k ?_
  simp only [go_sem]
theorem pSame_run (a b : Fa) (h : FaS a) : Ans Try.prog n_curve_Same [Fv a, Fv b] [] (.bool (decide (a = b))) [] := by
  obtain ⟨l1, l2, l3, l4⟩ := h
  have k1 := pEqual_run a.g b.g (by omega)
  have k2 := pEqual_run a.p b.p (by omega)
  have k3 := psameTable_run a.lo b.lo l3.1 l3.2
  have k4 := psameTable_run a.hi b.hi l4.1 l4.2
  rw [fa_eq]
  refine spec_run e_curve_Same fun G => ?_
  simp only [go_sem, Fv, Fcs]
  refine cP k1 ?_
  by_cases c1 : a.g = b.g
  · rw [decide_eq_true c1]
    simp only [go_sem]
    refine cP k2 ?_
    by_cases c2 : a.p = b.p
    · rw [decide_eq_true c2]
      simp only [go_sem]
      refine cP k3 ?_
      by_cases c3 : a.lo = b.lo
      · rw [decide_eq_true c3]
        simp only [go_sem]
        refine cP k4 ?_
        simp only [go_sem]
      · rw [decide_eq_false c3]
        simp only [go_sem]
    · rw [decide_eq_false c2]
      simp only [go_sem]
  · rw [decide_eq_false c1]
    simp only [go_sem]
end Go.Proofs

namespace Go.Proofs
open Go Go.Sx Go.Fam
attribute [local irreducible] Run

structure TS (J : Heap) (κ : List Nat) (v : AVal) (L : List (List Int)) : Prop where
  dat : Dat 5 J κ v (tbC L)
  nd : κ.Nodup
theorem TS.first {J : Heap} {κ : List Nat} {v : AVal} (h : TS J κ v []) : v = .nilsl ∧ ∀ (J' : Heap) (n m : Nat) (row : List Int), row ≠ [] → n ≠ m → J'[n]? = some (some (.cells true 1 (ivL row))) → J'[m]? = some (some (.cells true 1 [.sl n 0 row.length])) → TS J' [n, m] (.sl m 0 1) [row] := by
  obtain ⟨e, -⟩ := nil_get (J := J) (d := 4) (κ := κ) (v := v) (by simpa [tbC] using h.dat)
  exact ⟨e, fun J' n m row h0 hn h1 h2 => ⟨tb_put (κ := [n]) (by simp) rfl h2 (row_one (vw_put h0 rfl h1)), by simp [hn]⟩⟩
theorem TS.next {J : Heap} {κ : List Nat} {v : AVal} {L : List (List Int)} (h : TS J κ v L) (hL : L ≠ []) : ∃ r vs, v = .sl r 0 L.length ∧ J[r]? = some (some (.cells true 1 vs)) ∧ vs.length = L.length ∧
    ∀ (J' : Heap) (n : Nat) (row : List Int), row ≠ [] → J.length ≤ n → (∀ q, q < J.length → q ≠ r → J'[q]? = J[q]?) → J'[n]? = some (some (.cells true 1 (ivL row))) → J'[r]? = some (some (.cells true 1 (vs ++ [.sl n 0 row.length]))) → ∃ κ', TS J' κ' (.sl r 0 (L.length + 1)) (L ++ [row]) := by
  obtain ⟨r, vs, κ', e, k, g, a⟩ := tb_get h.dat hL
  subst k
  have al := a.len
  simp only [List.length_map] at al
  have nd := List.nodup_append.1 h.nd
  refine ⟨r, vs, e, g, al, fun J' n row h0 hn hJ h1 h2 => ⟨κ' ++ [n] ++ [r], tb_put (by simp) (by simp) h2 (row_more (a.mono fun κ2 u w hs _ hd => hd.congr fun q hq => hJ q (hd.lt q hq) fun e => nd.2.2 _ (hs _ hq) _ (by simp) e) (vw_put h0 rfl h1)), ?_⟩⟩
  · have hlt : ∀ q ∈ κ', q < J.length := fun q hq => h.dat.lt q (by simp [hq])
    have hr := (List.getElem?_eq_some_iff.1 g).1
    refine List.nodup_append.2 ⟨List.nodup_append.2 ⟨nd.1, by simp, fun x hx y hy => ?_⟩, by simp, fun x hx y hy => ?_⟩
    · simp at hy; subst hy; have := hlt x hx; omega
    · simp at hy; subst hy
      simp only [List.mem_append, List.mem_singleton] at hx
      rcases hx with hx | rfl
      · exact nd.2.2 _ hx _ (by simp)
      · omega
theorem TS.mono {J J' : Heap} {κ : List Nat} {v : AVal} {L : List (List Int)} (h : TS J κ v L) (hJ : ∀ q, q < J.length → J'[q]? = J[q]?) : TS J' κ v L := ⟨h.dat.congr fun q hq => hJ q (h.dat.lt q hq), h.nd⟩

structure FaP (f : Fa) : Prop where
  g : f.g ≠ [] ∧ f.g.length ≤ 1000000
  p : f.p ≠ [] ∧ f.p.length ≤ 1000000
  lo : f.lo ≠ [] ∧ f.lo.length ≤ 1000000 ∧ ∀ r ∈ f.lo, r ≠ [] ∧ r.length ≤ 1000000
  hi : f.hi ≠ [] ∧ f.hi.length ≤ 1000000 ∧ ∀ r ∈ f.hi, r ≠ [] ∧ r.length ≤ 1000000
theorem FaP.pure {f : Fa} (h : FaP f) : Pure 6 (Fv f) := fv_pure h.g.1 h.p.1 h.lo.1 h.hi.1 (fun r hr => (h.lo.2.2 r hr).1) fun r hr => (h.hi.2.2 r hr).1
end Go.Proofs

namespace Go.Proofs
open Go Go.Sx Go.Fam

def mkR (n : Nat) (ψ : Nat → Int) : List Int := (List.range n).map ψ
def mkT (m n : Nat) (φ : Nat → Nat → Int) : List (List Int) := (List.range m).map fun i => mkR n (φ i)
def hj (a b : Fa) : Fa := ⟨a.g, a.p, mkT a.g.length a.p.length fun i k => mn (tg a.lo i k) (tg b.lo i k), mkT a.g.length a.p.length fun i k => mx (tg a.hi i k) (tg b.hi i k)⟩
theorem InF.trans {a b c : Fa} (h1 : InF a b) (h2 : InF b c) : InF a c := ⟨h1.g.trans h2.g, h1.p.trans h2.p, fun i k hi hk => by
  have e1 := h2.inn i k hi hk
  have e2 := h1.inn i k (by rw [h2.g]; exact hi) (by rw [h2.p]; exact hk)
  omega⟩
theorem InF.refl (a : Fa) : InF a a := ⟨rfl, rfl, fun _ _ _ _ => ⟨Int.le_refl _, Int.le_refl _⟩⟩
end Go.Proofs

namespace Go.Proofs
open Go Go.Sx Go.Fam
attribute [local irreducible] Run

def huL (l : List Fa) : AVal := .view (l.map Fv)
def hT (l : List Fa) : List (Nat × AVal) := [(0, huL l), (2, .ptr 0 0 0 1), (3, .int .i64 0), (20, huL l), (21, .int .i64 l.length)]
def hU (l : List Fa) (m : Nat) : List (Nat × AVal) := [(2, .ptr 0 0 0 1), (7, .ptr m 0 0 1), (57, huL (l.drop 1)), (58, .int .i64 (l.length - 1 : Nat))]
end Go.Proofs

namespace Go.Proofs
open Go Go.Sx Go.Fam
attribute [local irreducible] Run

end Go.Proofs

namespace Go.Proofs
open Go Go.Sx Go.Fam
attribute [local irreducible] Run

def cw (l : List Int) : AVal := if l = [] then .nilsl else vw l
def ctw (t : List (List Int)) : AVal := if t = [] then .nilsl else .view (t.map cw)
def cFv (f : Fa) : AVal := .agg [cw f.g, cw f.p, ctw f.lo, ctw f.hi]
theorem cw_nil : cw [] = .nilsl := rfl
theorem cw_ne {l : List Int} (h : l ≠ []) : cw l = vw l := if_neg h
theorem ctw_nil : ctw [] = .nilsl := rfl
theorem ctw_ne {t : List (List Int)} (h : t ≠ []) : ctw t = .view (t.map cw) := if_neg h
theorem cw_cells (l : List Int) : acells (cw l) = [cw l] := by unfold cw; split <;> rfl
theorem cw_pure (l : List Int) (d : Nat) : Pure (d + 2) (cw l) := by
  by_cases h : l = []
  · rw [h]; exact rfl
  · rw [cw_ne h]
    exact ⟨by simpa using h, fun e he => by obtain ⟨x, -, rfl⟩ := List.mem_map.1 he; exact rfl⟩
theorem ctw_pure (t : List (List Int)) (d : Nat) : Pure (d + 3) (ctw t) := by
  by_cases h : t = []
  · rw [h]; exact rfl
  · rw [ctw_ne h]
    exact ⟨by simpa using h, fun e he => by obtain ⟨x, -, rfl⟩ := List.mem_map.1 he; exact cw_pure x _⟩
theorem cFv_pure (f : Fa) : Pure 6 (cFv f) := fun e he => by
  simp only [List.mem_cons, List.not_mem_nil, or_false] at he
  rcases he with rfl | rfl | rfl | rfl
  · exact cw_pure _ _
  · exact cw_pure _ _
  · exact ctw_pure _ _
  · exact ctw_pure _ _

theorem vr_cw {G : Ctx} {μ : Mu} {l : List Int} {c : Value} (h : VR G μ (cw l) c) : VR G μ (vw l) c := by
  by_cases e : l = []
  · subst e; rw [cw_nil] at h; cases h; exact .viewnil none 0
  · rwa [cw_ne e] at h
theorem vr_rows {G : Ctx} {μ : Mu} {es us : List AVal} (hl : us.length = es.length) (hc : ∀ i, i < es.length → acells (es.getD i .any) = [es.getD i .any] ∧ acells (us.getD i .any) = [us.getD i .any])
    (hv : ∀ i c, i < es.length → VR G μ (es.getD i .any) c → VR G μ (us.getD i .any) c) {c : Value} (h : VR G μ (.view es) c) : VR G μ (.view us) c := by
  cases h with
  | viewnil a cap =>
    have : us = [] := List.eq_nil_of_length_eq_zero (by simpa using hl)
    rw [this]; exact .viewnil a cap
  | view es b o sz cap f hb hcap hs hf hv' =>
    rw [← hl]
    refine .view us b o sz cap f hb (by omega) (fun i hi => ?_) (fun i j hi hj => hf i j (by omega) hj) fun i j hi hj => ?_
    · have := hs i (by omega)
      rw [(hc i (by omega)).1] at this
      rw [(hc i (by omega)).2]; exact this
    · have h1 := hs i (by omega)
      rw [(hc i (by omega)).1] at h1
      have j0 : j = 0 := by simp at h1; omega
      subst j0
      have h2 := hv' i 0 (by omega) hj
      rw [(hc i (by omega)).1] at h2
      rw [(hc i (by omega)).2]
      exact hv i _ (by omega) h2
theorem vr_ctw {G : Ctx} {μ : Mu} {t : List (List Int)} {c : Value} (h : VR G μ (ctw t) c) : VR G μ (tw t) c := by
  by_cases e : t = []
  · subst e; rw [ctw_nil] at h; cases h; exact .viewnil none 0
  · rw [ctw_ne e] at h
    refine vr_rows (by simp) (fun i hi => ?_) (fun i c hi hv => ?_) h
    · have hi' : i < t.length := by simpa using hi
      have a : (t.map cw).getD i .any = cw t[i] := by simp [List.getD_eq_getElem?_getD, List.getElem?_eq_getElem hi']
      have b : (t.map vw).getD i .any = vw t[i] := by simp [List.getD_eq_getElem?_getD, List.getElem?_eq_getElem hi']
      rw [a, b]
      exact ⟨cw_cells _, rfl⟩
    · have hi' : i < t.length := by simpa using hi
      have a : (t.map cw).getD i .any = cw t[i] := by simp [List.getD_eq_getElem?_getD, List.getElem?_eq_getElem hi']
      have b : (t.map vw).getD i .any = vw t[i] := by simp [List.getD_eq_getElem?_getD, List.getElem?_eq_getElem hi']
      rw [a] at hv
      rw [b]
      exact vr_cw hv
theorem vr_cFv {G : Ctx} {μ : Mu} {f : Fa} {c : Value} (h : VR G μ (cFv f) c) : VR G μ (Fv f) c := by
  unfold cFv at h
  generalize e : [cw f.g, cw f.p, ctw f.lo, ctw f.hi] = cs at h
  cases h with
  | agg _ vs hl hv =>
    subst e
    refine .agg _ vs (by simpa [Fcs] using hl) fun i hi => ?_
    have := hv i (by simpa [Fcs] using hi)
    match i, hi with
    | 0, _ => exact vr_cw this
    | 1, _ => exact vr_cw this
    | 2, _ => exact vr_ctw this
    | 3, _ => exact vr_ctw this

def Vle (v u : AVal) : Prop := ∀ (G : Ctx) (μ : Mu) (c : Value), VR G μ v c → VR G μ u c
theorem Vle.rfl {v : AVal} : Vle v v := fun _ _ _ h => h
theorem vle_cFv (f : Fa) : Vle (cFv f) (Fv f) := fun _ _ _ h => vr_cFv h
def Vles : List AVal → List AVal → Prop
  | [], [] => True
  | v :: vs, u :: us => Vle v u ∧ Vles vs us
  | _, _ => False
theorem Vles.len : ∀ {vs us : List AVal}, Vles vs us → vs.length = us.length
  | [], [], _ => Eq.refl 0
  | _ :: _, _ :: _, h => congrArg (· + 1) h.2.len
  | [], _ :: _, h => h.elim
  | _ :: _, [], h => h.elim
theorem Vles.get : ∀ {vs us : List AVal}, Vles vs us → ∀ i, Vle (vs.getD i .any) (us.getD i .any)
  | [], [], _, i => by simp; exact .rfl
  | v :: vs, u :: us, h, 0 => by simpa using h.1
  | v :: vs, u :: us, h, i + 1 => by simpa using h.2.get i
  | [], _ :: _, h, _ => h.elim
  | _ :: _, [], h, _ => h.elim
theorem ans_vle {P : Program} {g : FuncId} {args args' : List AVal} {LH LH' : Heap} {r : AVal} (h : Ans P g args LH r LH') (hw : Vles args' args) : Ans P g args' LH r LH' :=
  h.weak hw.len fun G μ i c _ hv => hw.get i G μ c hv

structure TSr (J : Heap) (κ : List Nat) (v : AVal) (L : List (List Int)) : Prop where
  dat : Dat 5 J κ v (ctw L)
  nd : κ.Nodup
theorem hd_cells {es : List AVal} (h : ∀ e ∈ es, acells e = [e]) (h0 : es ≠ []) : (acells (es.headD .any)).length = 1 := by
  cases es with
  | nil => exact absurd rfl h0
  | cons e es => simp [h e (by simp)]
theorem ctw_put {J : Heap} {r n : Nat} {κ : List Nat} {vs : List AVal} {t : List (List Int)} (h0 : t ≠ []) (hn : n = t.length) (h : J[r]? = some (some (.cells true 1 vs))) (h3 : All3 (Dat 4 J) κ vs (t.map cw)) : Dat 5 J (κ ++ [r]) (.sl r 0 n) (ctw t) := by
  rw [ctw_ne h0]
  refine Dat.list (by simpa using h0) (by simpa using hn) (hd_cells (fun e he => ?_) (by simpa using h0)).symm h h3
  obtain ⟨x, -, rfl⟩ := List.mem_map.1 he
  exact cw_cells x
theorem ctw_get {J : Heap} {κ : List Nat} {v : AVal} {t : List (List Int)} (h : Dat 5 J κ v (ctw t)) (h0 : t ≠ []) : ∃ r vs κ', v = .sl r 0 t.length ∧ κ = κ' ++ [r] ∧ J[r]? = some (some (.cells true 1 vs)) ∧ All3 (Dat 4 J) κ' vs (t.map cw) := by
  rw [ctw_ne h0] at h
  obtain ⟨hne, r, vs, κ', e, k, g, a⟩ := h
  rw [hd_cells (fun e he => by obtain ⟨x, -, rfl⟩ := List.mem_map.1 he; exact cw_cells x) hne] at g
  exact ⟨r, vs, κ', by simpa using e, k, g, a⟩
theorem TSr.first {J : Heap} {κ : List Nat} {v : AVal} (h : TSr J κ v []) : v = .nilsl ∧ ∀ (J' : Heap) (m : Nat) (ν : List Nat) (x : AVal) (row : List Int), Dat 4 J' ν x (cw row) → ν.Nodup → m ∉ ν → J'[m]? = some (some (.cells true 1 [x])) → TSr J' (ν ++ [m]) (.sl m 0 1) [row] := by
  obtain ⟨e, -⟩ := nil_get (J := J) (d := 4) (κ := κ) (v := v) h.dat
  refine ⟨e, fun J' m ν x row hd hn hm h2 => ⟨ctw_put (by simp) rfl h2 ⟨ν, [], by simp, hd, rfl⟩, ?_⟩⟩
  exact List.nodup_append.2 ⟨hn, by simp, fun a ha b hb e => by simp at hb; subst hb; subst e; exact hm ha⟩
theorem TSr.next {J : Heap} {κ : List Nat} {v : AVal} {L : List (List Int)} (h : TSr J κ v L) (hL : L ≠ []) : ∃ r vs, v = .sl r 0 L.length ∧ J[r]? = some (some (.cells true 1 vs)) ∧ vs.length = L.length ∧
    ∀ (J' : Heap) (ν : List Nat) (x : AVal) (row : List Int), Dat 4 J' ν x (cw row) → ν.Nodup → (∀ n ∈ ν, J.length ≤ n) → (∀ q, q < J.length → q ≠ r → J'[q]? = J[q]?) → J'[r]? = some (some (.cells true 1 (vs ++ [x]))) → ∃ κ', TSr J' κ' (.sl r 0 (L.length + 1)) (L ++ [row]) := by
  obtain ⟨r, vs, κ', e, k, g, a⟩ := ctw_get h.dat hL
  subst k
  have al := a.len
  simp only [List.length_map] at al
  have nd := List.nodup_append.1 h.nd
  have hlt : ∀ q ∈ κ', q < J.length := fun q hq => h.dat.lt q (by simp [hq])
  have hr := (List.getElem?_eq_some_iff.1 g).1
  refine ⟨r, vs, e, g, al, fun J' ν x row hd hn hge hJ h2 => ⟨(κ' ++ ν) ++ [r], ctw_put (by simp) (by simp) h2 ?_, ?_⟩⟩
  · have := (a.mono fun κ2 u w hs _ hd' => hd'.congr fun q hq => hJ q (hd'.lt q hq |> fun _ => hlt q (hs _ hq)) fun e => nd.2.2 _ (hs _ hq) _ (by simp) e : All3 (Dat 4 J') κ' vs (L.map cw))
    simpa using this.snoc hd
  · refine List.nodup_append.2 ⟨List.nodup_append.2 ⟨nd.1, hn, fun a ha b hb e => ?_⟩, by simp, fun a ha b hb e => ?_⟩
    · have := hlt a ha; have := hge b hb; omega
    · simp at hb
      rcases List.mem_append.1 ha with h | h
      · exact nd.2.2 _ h r (by simp) (e.trans hb)
      · have := hge _ h; omega
end Go.Proofs

namespace Go.Proofs
open Go Go.Sx Go.Fam
attribute [local irreducible] Run

def FaR (f : Fa) : Prop := f.g.length ≤ 1000000 ∧ f.p.length ≤ 1000000 ∧ (f.lo.length ≤ 1000000 ∧ ∀ r ∈ f.lo, r.length ≤ 1000000) ∧ f.hi.length ≤ 1000000 ∧ ∀ r ∈ f.hi, r.length ≤ 1000000
theorem FaR.faS {f : Fa} (h : FaR f) : FaS f := ⟨h.1, h.2.1, ⟨h.2.2.1.1, fun r hr => Nat.le_trans (h.2.2.1.2 r hr) (by decide)⟩, h.2.2.2.1, fun r hr => Nat.le_trans (h.2.2.2.2 r hr) (by decide)⟩

theorem pwlist_nil : Ans Try.prog n_curve_copied [vw []] [] .nilsl [] := by
  refine spec_run e_curve_copied fun G => ?_
  simp only [go_sem, vw, List.map_nil]
theorem pwlist_fn (l : List Int) (hl : l.length ≤ 1000000) : Go.Sx.Fn Try.prog n_curve_copied [vw l] [] fun v H' => ∃ ι, Dat 5 H' ι v (cw l) ∧ ι.Nodup := by
  by_cases h0 : l = []
  · subst h0
    refine run_fn e_curve_copied fun G => ?_
    simp only [go_sem, vw, List.map_nil]
    exact ⟨[], ⟨rfl, rfl, rfl⟩, by simp⟩
  · have h8 : l.length * 8 ≤ 2 ^ 44 := by omega
    refine run_fn e_curve_copied fun G => ?_
    simp only [go_sem, vw, List.length_map, h8, h0]
    simp [h0]
    rw [cw_ne h0]
    exact ⟨[0], vw_put h0 rfl rfl, by simp⟩
theorem pwlist_run (l : List Int) (hl : l.length ≤ 1000000) : Ans Try.prog n_curve_copied [vw l] [] (thaw 5 0 (cw l)).1 (thaw 5 0 (cw l)).2 := ans_dat0 (cw_pure l 3) (pwlist_fn l hl)
def pwT (t : List (List Int)) : List (Nat × AVal) := [(6, tw t), (7, .int .i64 t.length)]
set_option maxHeartbeats 2000000 in
set_option maxRecDepth 20000 in
theorem pwtable_fn (t : List (List Int)) (hl : t.length ≤ 1000000) (h0 : ∀ r ∈ t, r.length ≤ 1000000) : Go.Sx.Fn Try.prog n_curve_copiedTable [tw t] [] fun v H' => ∃ ι, Dat 5 H' ι v (ctw t) ∧ ι.Nodup := by
  suffices h : Go.Sx.Fn Try.prog n_curve_copiedTable [tw t] [] fun v H' => ∃ ι, TSr H' ι v t from h.mono fun v H' ⟨ι, h⟩ => ⟨ι, h.dat, h.nd⟩
  refine run_fn e_curve_copiedTable fun G => ?_
  simp only [go_sem, tw, List.length_map]
  refine loop_ind k_curve_copiedTable_r7.eq_1 (fun q : Nat × Heap × AVal × List Nat => q.1 ≤ t.length ∧ TSr q.2.1 q.2.2.2 q.2.2.1 (t.take q.1)) (fun q => t.length - q.1)
    (fun q => (tsets 19 (pwT t ++ [(3, q.2.2.1), (8, .int .i64 q.1)]), q.2.1)) (0, [], .nilsl, []) ⟨Nat.zero_le _, ⟨rfl, rfl, rfl⟩, by simp⟩ (by simp [go_sem, pwT, tw]) rfl ?_
  rintro ⟨i, J, v, κ⟩ ⟨hi, hT⟩ ih
  dsimp only at hi hT ih ⊢
  by_cases h1 : i < t.length
  · have h2 : (i : Int) < t.length := by omega
    have h3 := idx_next h1 (by omega)
    have m0 : ¬ (i : Int) < 0 := by omega
    obtain ⟨row, hr⟩ : ∃ r, t[i]? = some r := ⟨_, List.getElem?_eq_getElem h1⟩
    have rl := h0 row (List.mem_of_getElem? hr)
    have et : t.take (i + 1) = t.take i ++ [row] := by rw [List.take_add_one, hr]; rfl
    have lt : (t.take i).length = i := by rw [List.length_take]; omega
    by_cases r0 : row = []
    · have kn := pwlist_nil
      simp only [vw, List.map_nil] at kn
      have ew : List.map (AVal.int IntKind.i64) row = [] := by rw [r0]; rfl
      have dn : ∀ J' : Heap, Dat 4 J' [] .nilsl (cw row) := fun J' => by rw [r0]; exact ⟨rfl, rfl, rfl⟩
      by_cases i0 : i = 0
      · have e0 : t.take i = [] := by rw [i0]; rfl
        rw [e0] at hT et
        obtain ⟨ev, hn⟩ := hT.first
        subst ev
        simp only [go_sem, pwT, tw, h2, m0, hr, Int.toNat_natCast, List.length_map, vw, ew]
        refine cP kn ?_
        simp only [go_sem, ren, h3]
        refine ⟨by decide, ?_⟩
        refine ih (i + 1, _, .sl (J.length + 1) 0 1, [] ++ [J.length + 1]) (by omega) ⟨h1, ?_⟩ _ (by simp [go_sem, pwT, tw])
        dsimp only
        rw [et]
        exact hn _ _ [] .nilsl row (dn _) (by simp) (by simp) (by rw [get_new rfl]; rfl)
      · have L0 : t.take i ≠ [] := by intro e; rw [e] at lt; simp at lt; omega
        obtain ⟨r, vs, ev, g, al, hn⟩ := hT.next L0
        subst ev
        rw [lt] at al hn ⊢
        have hrl := (List.getElem?_eq_some_iff.1 g).1
        have a1 := fun Y => cells_more (cells_at g) Y
        have a2 := fun Y x => put_more (H := J) hrl Y x
        have z1 : (i + 1) * 24 ≤ 2 ^ 44 := by omega
        simp only [go_sem, pwT, tw, h2, m0, hr, Int.toNat_natCast, List.length_map, vw, ew]
        refine cP kn ?_
        simp only [go_sem, ren, h3, a1, a2, al, z1]
        obtain ⟨κ', hk⟩ := hn (J.set r (some (Row.cells true 1 (vs ++ [AVal.nilsl]))) ++ [some (Row.cells false 1 [AVal.nilsl])]) [] .nilsl row (dn _) (by simp) (by simp)
          (fun q hq hn => by rw [List.getElem?_append_left (by simpa using hq), List.getElem?_set_ne (fun e => hn e.symm)]) (by rw [List.getElem?_append_left (by simpa using hrl), List.getElem?_set_self hrl])
        exact ih (i + 1, _, _, κ') (by omega) ⟨h1, by dsimp only; rw [et]; exact hk⟩ _ (by simp [go_sem, pwT, tw])
    · have kc := copied_run row rl r0
      simp only [vw] at kc
      by_cases i0 : i = 0
      · have e0 : t.take i = [] := by rw [i0]; rfl
        rw [e0] at hT et
        obtain ⟨ev, hn⟩ := hT.first
        subst ev
        simp only [go_sem, pwT, tw, h2, m0, hr, Int.toNat_natCast, List.length_map, vw]
        refine cN1 kc ?_
        simp only [go_sem, ren, h3]
        refine ⟨by decide, ?_⟩
        refine ih (i + 1, _, .sl (J.length + 2) 0 1, [J.length] ++ [J.length + 2]) (by omega) ⟨h1, ?_⟩ _ (by simp [go_sem, pwT, tw])
        dsimp only
        rw [et]
        refine hn _ _ [J.length] (.sl J.length 0 row.length) row ?_ (by simp) (by simp) (by rw [get_new rfl]; rfl)
        rw [cw_ne r0]
        exact vw_put r0 rfl (by rw [List.getElem?_append_right (Nat.le_refl _), Nat.sub_self]; rfl)
      · have L0 : t.take i ≠ [] := by intro e; rw [e] at lt; simp at lt; omega
        obtain ⟨r, vs, ev, g, al, hn⟩ := hT.next L0
        subst ev
        rw [lt] at al hn ⊢
        have hrl := (List.getElem?_eq_some_iff.1 g).1
        have a1 := fun Y => cells_more (cells_at g) Y
        have a2 := fun Y x => put_more (H := J) hrl Y x
        have z1 : (i + 1) * 24 ≤ 2 ^ 44 := by omega
        simp only [go_sem, pwT, tw, h2, m0, hr, Int.toNat_natCast, List.length_map, vw]
        refine cN1 kc ?_
        simp only [go_sem, ren, h3, a1, a2, al, z1]
        obtain ⟨κ', hk⟩ := hn (J.set r (some (Row.cells true 1 (vs ++ [AVal.sl J.length 0 row.length]))) ++ [some (Row.cells true 1 (ivL row)), some (Row.cells false 1 [AVal.sl J.length 0 row.length])]) [J.length] (.sl J.length 0 row.length) row
          (by rw [cw_ne r0]; exact vw_put r0 rfl (by rw [List.getElem?_append_right (by simp)]; simp)) (by simp) (by simp)
          (fun q hq hn => by rw [List.getElem?_append_left (by simpa using hq), List.getElem?_set_ne (fun e => hn e.symm)]) (by rw [List.getElem?_append_left (by simpa using hrl), List.getElem?_set_self hrl])
        exact ih (i + 1, _, _, κ') (by omega) ⟨h1, by dsimp only; rw [et]; exact hk⟩ _ (by simp [go_sem, pwT, tw])
  · have h2 : ¬ (i : Int) < t.length := by omega
    have : t.take i = t := List.take_of_length_le (by omega)
    rw [this] at hT
    simp only [go_sem, pwT, tw, List.length_map, h2]
    exact ⟨κ, hT⟩
theorem pwtable_run (t : List (List Int)) (hl : t.length ≤ 1000000) (h0 : ∀ r ∈ t, r.length ≤ 1000000) : Ans Try.prog n_curve_copiedTable [tw t] [] (thaw 5 0 (ctw t)).1 (thaw 5 0 (ctw t)).2 := ans_dat0 (ctw_pure t 2) (pwtable_fn t hl h0)

theorem rwlist_nil : Ans Try.prog n_ref02_ints [vw []] [] .nilsl [] := by
  refine spec_run e_ref02_ints fun G => ?_
  simp only [go_sem, vw, List.map_nil]
theorem rwlist_fn (l : List Int) (hl : l.length ≤ 1000000) : Go.Sx.Fn Try.prog n_ref02_ints [vw l] [] fun v H' => ∃ ι, Dat 5 H' ι v (cw l) ∧ ι.Nodup := by
  by_cases h0 : l = []
  · subst h0
    refine run_fn e_ref02_ints fun G => ?_
    simp only [go_sem, vw, List.map_nil]
    exact ⟨[], ⟨rfl, rfl, rfl⟩, by simp⟩
  · have h8 : l.length * 8 ≤ 2 ^ 44 := by omega
    refine run_fn e_ref02_ints fun G => ?_
    simp only [go_sem, vw, List.length_map, h8, h0]
    simp [h0]
    rw [cw_ne h0]
    exact ⟨[0], vw_put h0 rfl rfl, by simp⟩
theorem rwlist_run (l : List Int) (hl : l.length ≤ 1000000) : Ans Try.prog n_ref02_ints [vw l] [] (thaw 5 0 (cw l)).1 (thaw 5 0 (cw l)).2 := ans_dat0 (cw_pure l 3) (rwlist_fn l hl)
def rwT (t : List (List Int)) : List (Nat × AVal) := [(0, tw t)]
set_option maxHeartbeats 2000000 in
set_option maxRecDepth 20000 in
theorem rwtable_fn (t : List (List Int)) (hl : t.length ≤ 1000000) (h0 : ∀ r ∈ t, r.length ≤ 1000000) : Go.Sx.Fn Try.prog n_ref02_table [tw t] [] fun v H' => ∃ ι, Dat 5 H' ι v (ctw t) ∧ ι.Nodup := by
  suffices h : Go.Sx.Fn Try.prog n_ref02_table [tw t] [] fun v H' => ∃ ι, TSr H' ι v t from h.mono fun v H' ⟨ι, h⟩ => ⟨ι, h.dat, h.nd⟩
  refine run_fn e_ref02_table fun G => ?_
  simp only [go_sem, tw, List.length_map]
  refine loop_ind k_ref02_table_r6.eq_1 (fun q : Nat × Heap × AVal × List Nat => q.1 ≤ t.length ∧ TSr q.2.1 q.2.2.2 q.2.2.1 (t.take q.1)) (fun q => t.length - q.1)
    (fun q => (tsets 20 (rwT t ++ [(3, q.2.2.1), (4, .int .i64 q.1)]), q.2.1)) (0, [], .nilsl, []) ⟨Nat.zero_le _, ⟨rfl, rfl, rfl⟩, by simp⟩ (by simp [go_sem, rwT, tw]) rfl ?_
  rintro ⟨i, J, v, κ⟩ ⟨hi, hT⟩ ih
  dsimp only at hi hT ih ⊢
  by_cases h1 : i < t.length
  · have h2 : (i : Int) < t.length := by omega
    have h3 := idx_next h1 (by omega)
    have m0 : ¬ (i : Int) < 0 := by omega
    obtain ⟨row, hr⟩ : ∃ r, t[i]? = some r := ⟨_, List.getElem?_eq_getElem h1⟩
    have rl := h0 row (List.mem_of_getElem? hr)
    have et : t.take (i + 1) = t.take i ++ [row] := by rw [List.take_add_one, hr]; rfl
    have lt : (t.take i).length = i := by rw [List.length_take]; omega
    by_cases r0 : row = []
    · have kn := rwlist_nil
      simp only [vw, List.map_nil] at kn
      have ew : List.map (AVal.int IntKind.i64) row = [] := by rw [r0]; rfl
      have dn : ∀ J' : Heap, Dat 4 J' [] .nilsl (cw row) := fun J' => by rw [r0]; exact ⟨rfl, rfl, rfl⟩
      by_cases i0 : i = 0
      · have e0 : t.take i = [] := by rw [i0]; rfl
        rw [e0] at hT et
        obtain ⟨ev, hn⟩ := hT.first
        subst ev
        simp only [go_sem, rwT, tw, h2, m0, hr, Int.toNat_natCast, List.length_map, vw, ew]
        refine cP kn ?_
        simp only [go_sem, ren, h3]
        refine ⟨by decide, ?_⟩
        refine ih (i + 1, _, .sl (J.length + 1) 0 1, [] ++ [J.length + 1]) (by omega) ⟨h1, ?_⟩ _ (by simp [go_sem, rwT, tw])
        dsimp only
        rw [et]
        exact hn _ _ [] .nilsl row (dn _) (by simp) (by simp) (by rw [get_new rfl]; rfl)
      · have L0 : t.take i ≠ [] := by intro e; rw [e] at lt; simp at lt; omega
        obtain ⟨r, vs, ev, g, al, hn⟩ := hT.next L0
        subst ev
        rw [lt] at al hn ⊢
        have hrl := (List.getElem?_eq_some_iff.1 g).1
        have a1 := fun Y => cells_more (cells_at g) Y
        have a2 := fun Y x => put_more (H := J) hrl Y x
        have z1 : (i + 1) * 24 ≤ 2 ^ 44 := by omega
        simp only [go_sem, rwT, tw, h2, m0, hr, Int.toNat_natCast, List.length_map, vw, ew]
        refine cP kn ?_
        simp only [go_sem, ren, h3, a1, a2, al, z1]
        obtain ⟨κ', hk⟩ := hn (J.set r (some (Row.cells true 1 (vs ++ [AVal.nilsl]))) ++ [some (Row.cells false 1 [AVal.nilsl])]) [] .nilsl row (dn _) (by simp) (by simp)
          (fun q hq hn => by rw [List.getElem?_append_left (by simpa using hq), List.getElem?_set_ne (fun e => hn e.symm)]) (by rw [List.getElem?_append_left (by simpa using hrl), List.getElem?_set_self hrl])
        exact ih (i + 1, _, _, κ') (by omega) ⟨h1, by dsimp only; rw [et]; exact hk⟩ _ (by simp [go_sem, rwT, tw])
    · have kc := rints_run row rl r0
      simp only [vw] at kc
      by_cases i0 : i = 0
      · have e0 : t.take i = [] := by rw [i0]; rfl
        rw [e0] at hT et
        obtain ⟨ev, hn⟩ := hT.first
        subst ev
        simp only [go_sem, rwT, tw, h2, m0, hr, Int.toNat_natCast, List.length_map, vw]
        refine cN1 kc ?_
        simp only [go_sem, ren, h3]
        refine ⟨by decide, ?_⟩
        refine ih (i + 1, _, .sl (J.length + 2) 0 1, [J.length] ++ [J.length + 2]) (by omega) ⟨h1, ?_⟩ _ (by simp [go_sem, rwT, tw])
        dsimp only
        rw [et]
        refine hn _ _ [J.length] (.sl J.length 0 row.length) row ?_ (by simp) (by simp) (by rw [get_new rfl]; rfl)
        rw [cw_ne r0]
        exact vw_put r0 rfl (by rw [List.getElem?_append_right (Nat.le_refl _), Nat.sub_self]; rfl)
      · have L0 : t.take i ≠ [] := by intro e; rw [e] at lt; simp at lt; omega
        obtain ⟨r, vs, ev, g, al, hn⟩ := hT.next L0
        subst ev
        rw [lt] at al hn ⊢
        have hrl := (List.getElem?_eq_some_iff.1 g).1
        have a1 := fun Y => cells_more (cells_at g) Y
        have a2 := fun Y x => put_more (H := J) hrl Y x
        have z1 : (i + 1) * 24 ≤ 2 ^ 44 := by omega
        simp only [go_sem, rwT, tw, h2, m0, hr, Int.toNat_natCast, List.length_map, vw]
        refine cN1 kc ?_
        simp only [go_sem, ren, h3, a1, a2, al, z1]
        obtain ⟨κ', hk⟩ := hn (J.set r (some (Row.cells true 1 (vs ++ [AVal.sl J.length 0 row.length]))) ++ [some (Row.cells true 1 (ivL row)), some (Row.cells false 1 [AVal.sl J.length 0 row.length])]) [J.length] (.sl J.length 0 row.length) row
          (by rw [cw_ne r0]; exact vw_put r0 rfl (by rw [List.getElem?_append_right (by simp)]; simp)) (by simp) (by simp)
          (fun q hq hn => by rw [List.getElem?_append_left (by simpa using hq), List.getElem?_set_ne (fun e => hn e.symm)]) (by rw [List.getElem?_append_left (by simpa using hrl), List.getElem?_set_self hrl])
        exact ih (i + 1, _, _, κ') (by omega) ⟨h1, by dsimp only; rw [et]; exact hk⟩ _ (by simp [go_sem, rwT, tw])
  · have h2 : ¬ (i : Int) < t.length := by omega
    have : t.take i = t := List.take_of_length_le (by omega)
    rw [this] at hT
    simp only [go_sem, rwT, tw, List.length_map, h2]
    exact ⟨κ, hT⟩
theorem rwtable_run (t : List (List Int)) (hl : t.length ≤ 1000000) (h0 : ∀ r ∈ t, r.length ≤ 1000000) : Ans Try.prog n_ref02_table [tw t] [] (thaw 5 0 (ctw t)).1 (thaw 5 0 (ctw t)).2 := ans_dat0 (ctw_pure t 2) (rwtable_fn t hl h0)
end Go.Proofs

namespace Go.Proofs
open Go Go.Sx Go.Fam
attribute [local irreducible] Run

theorem thaw_cw (l : List Int) (k : Nat) : (thaw 5 k (cw l)).1 = .nilsl ∨ ∃ a n, (thaw 5 k (cw l)).1 = .sl a 0 n := by
  unfold cw; split
  · exact .inl rfl
  · exact .inr ⟨_, _, rfl⟩
theorem thaw_ctw (t : List (List Int)) (k : Nat) : (thaw 5 k (ctw t)).1 = .nilsl ∨ ∃ a n, (thaw 5 k (ctw t)).1 = .sl a 0 n := by
  unfold ctw; split
  · exact .inl rfl
  · exact .inr ⟨_, _, rfl⟩

set_option maxHeartbeats 2000000 in
set_option maxRecDepth 20000 in
theorem pwCopy_fn {f : Fa} (h : FaR f) : Go.Sx.Fn Try.prog n_curve_Copy [Fv f] [] fun v H' => ∃ ι, Dat 6 H' ι v (cFv f) ∧ ι.Nodup := by
  have c1 := pwlist_run f.g h.1
  have c2 := pwlist_run f.p h.2.1
  have c3 := pwtable_run f.lo h.2.2.1.1 h.2.2.1.2
  have c4 := pwtable_run f.hi h.2.2.2.1 h.2.2.2.2
  have p1 := cw_pure f.g 3
  have p2 := cw_pure f.p 3
  have p3 := ctw_pure f.lo 2
  have p4 := ctw_pure f.hi 2
  simp only [vw] at c1 c2
  refine run_fn e_curve_Copy fun G => ?_
  simp only [go_sem, Fv, Fcs, vw, tw]
  refine dFD c1 p1 6 [] ?_ ?_
  · exact ⟨.inl (by simp [frz, vw, tw, Function.comp_def]), trivial⟩
  simp only [List.length_cons, List.length_nil, List.length_append, Nat.zero_add, Nat.reduceAdd]
  have hD1 := fun (A : Heap) (hA : A.length = 2) => thaw_dat (H := A ++ (thaw 5 (2) (cw f.g)).2) (2) p1 fun i hi => by rw [get_new hA]
  have o1 := thaw_cw f.g (2)
  generalize (thaw 5 (2) (cw f.g)).1 = w1 at *
  generalize (thaw 5 (2) (cw f.g)).2 = Y1 at *
  simp only [go_sem]
  refine dFD c2 p2 6 [] ?_ ?_
  · exact ⟨.inl (by simp [frz, vw, tw, Function.comp_def]), trivial⟩
  simp only [List.length_cons, List.length_nil, List.length_append, Nat.zero_add, Nat.reduceAdd]
  have hD2 := fun (A : Heap) (hA : A.length = Y1.length + 1 + 1) => thaw_dat (H := A ++ (thaw 5 (Y1.length + 1 + 1) (cw f.p)).2) (Y1.length + 1 + 1) p2 fun i hi => by rw [get_new hA]
  have o2 := thaw_cw f.p (Y1.length + 1 + 1)
  generalize (thaw 5 (Y1.length + 1 + 1) (cw f.p)).1 = w2 at *
  generalize (thaw 5 (Y1.length + 1 + 1) (cw f.p)).2 = Y2 at *
  simp only [go_sem]
  refine dFD c3 p3 6 [] ?_ ?_
  · exact ⟨.inl (by simp [frz, vw, tw, Function.comp_def]), trivial⟩
  simp only [List.length_cons, List.length_nil, List.length_append, Nat.zero_add, Nat.reduceAdd]
  have hD3 := fun (A : Heap) (hA : A.length = Y1.length + Y2.length + 1 + 1) => thaw_dat (H := A ++ (thaw 5 (Y1.length + Y2.length + 1 + 1) (ctw f.lo)).2) (Y1.length + Y2.length + 1 + 1) p3 fun i hi => by rw [get_new hA]
  have o3 := thaw_ctw f.lo (Y1.length + Y2.length + 1 + 1)
  generalize (thaw 5 (Y1.length + Y2.length + 1 + 1) (ctw f.lo)).1 = w3 at *
  generalize (thaw 5 (Y1.length + Y2.length + 1 + 1) (ctw f.lo)).2 = Y3 at *
  simp only [go_sem]
  refine cFD c4 p4 6 ?_ ?_
  · exact ⟨.inl (by simp [frz, vw, tw, Function.comp_def]), trivial⟩
  simp only [List.length_cons, List.length_nil, List.length_append, Nat.zero_add, Nat.reduceAdd]
  have hD4 := fun (A : Heap) (hA : A.length = Y1.length + (Y2.length + Y3.length) + 1 + 1) => thaw_dat (H := A ++ (thaw 5 (Y1.length + (Y2.length + Y3.length) + 1 + 1) (ctw f.hi)).2) (Y1.length + (Y2.length + Y3.length) + 1 + 1) p4 fun i hi => by rw [get_new hA]
  have o4 := thaw_ctw f.hi (Y1.length + (Y2.length + Y3.length) + 1 + 1)
  generalize (thaw 5 (Y1.length + (Y2.length + Y3.length) + 1 + 1) (ctw f.hi)).1 = w4 at *
  generalize (thaw 5 (Y1.length + (Y2.length + Y3.length) + 1 + 1) (ctw f.hi)).2 = Y4 at *
  have fin : ∀ r1 r2 : Option Row, ∃ ι, Dat 6 (r1 :: r2 :: (Y1 ++ (Y2 ++ (Y3 ++ Y4)))) ι (.agg [w1, w2, w3, w4]) (cFv f) ∧ ι.Nodup := fun r1 r2 => by
    have k1 := (hD1 [r1, r2] rfl).app (Y2 ++ (Y3 ++ Y4)) (fun r hr => by rw [upFrom_mem] at hr; simp; omega)
    have k2 := (hD2 ([r1, r2] ++ Y1) (by simp)).app (Y3 ++ Y4) (fun r hr => by rw [upFrom_mem] at hr; simp; omega)
    have k3 := (hD3 ([r1, r2] ++ (Y1 ++ Y2)) (by simp)).app Y4 (fun r hr => by rw [upFrom_mem] at hr; simp; omega)
    have k4 := hD4 ([r1, r2] ++ (Y1 ++ (Y2 ++ Y3))) (by simp)
    simp only [List.cons_append, List.nil_append, List.append_assoc] at k1 k2 k3 k4
    refine ⟨_ ++ (_ ++ (_ ++ (_ ++ []))), ⟨_, rfl, _, _, rfl, k1, _, _, rfl, k2, _, _, rfl, k3, _, _, rfl, k4, rfl⟩, ?_⟩
    refine List.nodup_append.2 ⟨upFrom_nodup _ _, List.nodup_append.2 ⟨upFrom_nodup _ _, List.nodup_append.2 ⟨upFrom_nodup _ _, List.nodup_append.2 ⟨upFrom_nodup _ _, by simp, by simp⟩, ?_⟩, ?_⟩, ?_⟩ <;>
    · intro a ha b hb e
      simp only [List.mem_append, upFrom_mem, List.not_mem_nil, or_false] at ha hb
      omega
  clear hD1 hD2 hD3 hD4 c1 c2 c3 c4 p1 p2 p3 p4
  rcases o1 with rfl | ⟨a1, n1, rfl⟩ <;> rcases o2 with rfl | ⟨a2, n2, rfl⟩ <;> rcases o3 with rfl | ⟨a3, n3, rfl⟩ <;> rcases o4 with rfl | ⟨a4, n4, rfl⟩ <;>
  · simp only [go_sem, List.append_assoc, List.cons_append, List.nil_append]
    exact fin _ _
theorem pwCopy_run {f : Fa} (h : FaR f) : Ans Try.prog n_curve_Copy [Fv f] [] (thaw 6 0 (cFv f)).1 (thaw 6 0 (cFv f)).2 := ans_dat0 (cFv_pure f) (pwCopy_fn h)

set_option maxHeartbeats 2000000 in
set_option maxRecDepth 20000 in
theorem rwCopy_fn {f : Fa} (h : FaR f) : Go.Sx.Fn Try.prog n_ref02_Copy [Fv f] [] fun v H' => ∃ ι, Dat 6 H' ι v (cFv f) ∧ ι.Nodup := by
  have c1 := rwlist_run f.g h.1
  have c2 := rwlist_run f.p h.2.1
  have c3 := rwtable_run f.lo h.2.2.1.1 h.2.2.1.2
  have c4 := rwtable_run f.hi h.2.2.2.1 h.2.2.2.2
  have p1 := cw_pure f.g 3
  have p2 := cw_pure f.p 3
  have p3 := ctw_pure f.lo 2
  have p4 := ctw_pure f.hi 2
  simp only [vw] at c1 c2
  refine run_fn e_ref02_Copy fun G => ?_
  simp only [go_sem, Fv, Fcs, vw, tw]
  refine dFD c1 p1 6 [] ?_ ?_
  · exact ⟨.inl (by simp [frz, vw, tw, Function.comp_def]), trivial⟩
  simp only [List.length_cons, List.length_nil, List.length_append, Nat.zero_add, Nat.reduceAdd]
  have hD1 := fun (A : Heap) (hA : A.length = 2) => thaw_dat (H := A ++ (thaw 5 (2) (cw f.g)).2) (2) p1 fun i hi => by rw [get_new hA]
  have o1 := thaw_cw f.g (2)
  generalize (thaw 5 (2) (cw f.g)).1 = w1 at *
  generalize (thaw 5 (2) (cw f.g)).2 = Y1 at *
  simp only [go_sem]
  refine dFD c2 p2 6 [] ?_ ?_
  · exact ⟨.inl (by simp [frz, vw, tw, Function.comp_def]), trivial⟩
  simp only [List.length_cons, List.length_nil, List.length_append, Nat.zero_add, Nat.reduceAdd]
  have hD2 := fun (A : Heap) (hA : A.length = Y1.length + 1 + 1) => thaw_dat (H := A ++ (thaw 5 (Y1.length + 1 + 1) (cw f.p)).2) (Y1.length + 1 + 1) p2 fun i hi => by rw [get_new hA]
  have o2 := thaw_cw f.p (Y1.length + 1 + 1)
  generalize (thaw 5 (Y1.length + 1 + 1) (cw f.p)).1 = w2 at *
  generalize (thaw 5 (Y1.length + 1 + 1) (cw f.p)).2 = Y2 at *
  simp only [go_sem]
  refine dFD c3 p3 6 [] ?_ ?_
  · exact ⟨.inl (by simp [frz, vw, tw, Function.comp_def]), trivial⟩
  simp only [List.length_cons, List.length_nil, List.length_append, Nat.zero_add, Nat.reduceAdd]
  have hD3 := fun (A : Heap) (hA : A.length = Y1.length + Y2.length + 1 + 1) => thaw_dat (H := A ++ (thaw 5 (Y1.length + Y2.length + 1 + 1) (ctw f.lo)).2) (Y1.length + Y2.length + 1 + 1) p3 fun i hi => by rw [get_new hA]
  have o3 := thaw_ctw f.lo (Y1.length + Y2.length + 1 + 1)
  generalize (thaw 5 (Y1.length + Y2.length + 1 + 1) (ctw f.lo)).1 = w3 at *
  generalize (thaw 5 (Y1.length + Y2.length + 1 + 1) (ctw f.lo)).2 = Y3 at *
  simp only [go_sem]
  refine cFD c4 p4 6 ?_ ?_
  · exact ⟨.inl (by simp [frz, vw, tw, Function.comp_def]), trivial⟩
  simp only [List.length_cons, List.length_nil, List.length_append, Nat.zero_add, Nat.reduceAdd]
  have hD4 := fun (A : Heap) (hA : A.length = Y1.length + (Y2.length + Y3.length) + 1 + 1) => thaw_dat (H := A ++ (thaw 5 (Y1.length + (Y2.length + Y3.length) + 1 + 1) (ctw f.hi)).2) (Y1.length + (Y2.length + Y3.length) + 1 + 1) p4 fun i hi => by rw [get_new hA]
  have o4 := thaw_ctw f.hi (Y1.length + (Y2.length + Y3.length) + 1 + 1)
  generalize (thaw 5 (Y1.length + (Y2.length + Y3.length) + 1 + 1) (ctw f.hi)).1 = w4 at *
  generalize (thaw 5 (Y1.length + (Y2.length + Y3.length) + 1 + 1) (ctw f.hi)).2 = Y4 at *
  have fin : ∀ r1 r2 : Option Row, ∃ ι, Dat 6 (r1 :: r2 :: (Y1 ++ (Y2 ++ (Y3 ++ Y4)))) ι (.agg [w1, w2, w3, w4]) (cFv f) ∧ ι.Nodup := fun r1 r2 => by
    have k1 := (hD1 [r1, r2] rfl).app (Y2 ++ (Y3 ++ Y4)) (fun r hr => by rw [upFrom_mem] at hr; simp; omega)
    have k2 := (hD2 ([r1, r2] ++ Y1) (by simp)).app (Y3 ++ Y4) (fun r hr => by rw [upFrom_mem] at hr; simp; omega)
    have k3 := (hD3 ([r1, r2] ++ (Y1 ++ Y2)) (by simp)).app Y4 (fun r hr => by rw [upFrom_mem] at hr; simp; omega)
    have k4 := hD4 ([r1, r2] ++ (Y1 ++ (Y2 ++ Y3))) (by simp)
    simp only [List.cons_append, List.nil_append, List.append_assoc] at k1 k2 k3 k4
    refine ⟨_ ++ (_ ++ (_ ++ (_ ++ []))), ⟨_, rfl, _, _, rfl, k1, _, _, rfl, k2, _, _, rfl, k3, _, _, rfl, k4, rfl⟩, ?_⟩
    refine List.nodup_append.2 ⟨upFrom_nodup _ _, List.nodup_append.2 ⟨upFrom_nodup _ _, List.nodup_append.2 ⟨upFrom_nodup _ _, List.nodup_append.2 ⟨upFrom_nodup _ _, by simp, by simp⟩, ?_⟩, ?_⟩, ?_⟩ <;>
    · intro a ha b hb e
      simp only [List.mem_append, upFrom_mem, List.not_mem_nil, or_false] at ha hb
      omega
  clear hD1 hD2 hD3 hD4 c1 c2 c3 c4 p1 p2 p3 p4
  rcases o1 with rfl | ⟨a1, n1, rfl⟩ <;> rcases o2 with rfl | ⟨a2, n2, rfl⟩ <;> rcases o3 with rfl | ⟨a3, n3, rfl⟩ <;> rcases o4 with rfl | ⟨a4, n4, rfl⟩ <;>
  · simp only [go_sem, List.append_assoc, List.cons_append, List.nil_append]
    exact fin _ _
theorem rwCopy_run {f : Fa} (h : FaR f) : Ans Try.prog n_ref02_Copy [Fv f] [] (thaw 6 0 (cFv f)).1 (thaw 6 0 (cFv f)).2 := ans_dat0 (cFv_pure f) (rwCopy_fn h)
end Go.Proofs

namespace Go.Proofs
open Go Go.Sx

def k_law02_CurveChecks_r0 : List AOper := [
  ⟨some 3, .box (.tmp 0), none, []⟩,
 ⟨some 4, .box (.tmp 1), none, []⟩,
 ⟨some 6, .move (.const (.bool false)), none, []⟩]
def k_law02_CurveChecks_r1 : List AOper := [
  ⟨some 11, .load (some (4)) (.tmp 3), none, []⟩,
 ⟨some 12, .call (.const (.fn (.func 24) [] [])) [.tmp 11], none, []⟩,
 ⟨some 13, .move (.tmp 12), none, []⟩,
 ⟨some 14, .load (some (4)) (.tmp 4), (some (13, false)), []⟩,
 ⟨some 15, .call (.const (.fn (.func 24) [] [])) [.tmp 14], (some (13, false)), []⟩,
 ⟨some 16, .pick (.tmp 13) (.const (.bool true)) (.tmp 15), none, []⟩]
def k_law02_CurveChecks_r2 : List AOper := [
  ⟨some 17, .call (.const (.fn (.func 23) [] [])) [], none, []⟩,
 ⟨some 6, .move (.tmp 17), none, []⟩]
def k_law02_CurveChecks_r3 : List AOper := [
  ⟨some 18, .load (some (4)) (.tmp 3), none, []⟩,
 ⟨some 19, .move (.tmp 2), none, [0]⟩,
 ⟨some 20, .call (.const (.fn (.func 12) [] [])) [.tmp 19], none, [0]⟩,
 ⟨some 21, .call (.const (.fn (.func 25) [] [])) [.tmp 20], none, [0]⟩,
 ⟨some 22, .buildSlice 4 [.tmp 18, .tmp 21], none, []⟩,
 ⟨some 7, .move (.tmp 22), none, []⟩]
def k_law02_CurveChecks_r3s : List (List AOper) := [
  [
  ⟨some 18, .load (some (4)) (.tmp 3), none, []⟩,
 ⟨some 19, .move (.tmp 2), none, [0]⟩,
 ⟨some 20, .call (.const (.fn (.func 12) [] [])) [.tmp 19], none, [0]⟩,
 ⟨some 21, .call (.const (.fn (.func 25) [] [])) [.tmp 20], none, [0]⟩], 
  [
  ⟨some 22, .buildSlice 4 [.tmp 18, .tmp 21], none, []⟩], 
  [
  ⟨some 7, .move (.tmp 22), none, []⟩]]
theorem k_law02_CurveChecks_r3_sg : segs k_law02_CurveChecks_r3 = k_law02_CurveChecks_r3s := by kernel_rfl
theorem k_law02_CurveChecks_r3_st : statOK k_law02_CurveChecks_r3 = true := by kernel_rfl
def k_law02_CurveChecks_r4 : List AOper := [
  ⟨some 8, .move (.const (.int .i64 0)), none, []⟩]
def k_law02_CurveChecks_r5 : List AOper := [
  ⟨some 23, .move (.tmp 8), none, []⟩,
 ⟨some 24, .move (.tmp 7), none, []⟩,
 ⟨some 25, .len false (.tmp 24), none, []⟩,
 ⟨some 26, .bin .plain .lss (.tmp 23) (.tmp 25), none, []⟩]
def k_law02_CurveChecks_r6 : List AOper := [
  ⟨some 29, .move (.tmp 7), none, []⟩,
 ⟨some 30, .move (.tmp 8), none, []⟩,
 ⟨some 31, .indexAddr 4 (.tmp 29) (.tmp 30), none, []⟩,
 ⟨some 32, .load (some (4)) (.tmp 31), none, []⟩,
 ⟨some 33, .call (.const (.fn (.func 26) [] [])) [.tmp 32], none, []⟩,
 ⟨some 9, .box (.const (.agg [.nilsl, .nilsl, .nilsl, .nilsl])), none, []⟩,
 ⟨none, .store 4 (.tmp 9) (.tmp 33), none, []⟩]
def k_law02_CurveChecks_r7 : List AOper := [
  ⟨some 34, .load (some (4)) (.tmp 9), none, []⟩,
 ⟨some 35, .call (.const (.fn (.func 27) [] [])) [.tmp 34], none, []⟩,
 ⟨some 36, .move (.tmp 7), none, [0, 1]⟩,
 ⟨some 37, .move (.tmp 8), none, [0, 1, 2]⟩,
 ⟨some 38, .indexAddr 4 (.tmp 36) (.tmp 37), none, [0, 1]⟩,
 ⟨some 39, .load (some (4)) (.tmp 38), none, [0, 1]⟩,
 ⟨some 40, .call (.const (.fn (.func 28) [] [])) [.tmp 39], none, []⟩,
 ⟨some 41, .bin .plain .neq (.tmp 35) (.tmp 40), none, []⟩,
 ⟨some 42, .move (.tmp 41), none, []⟩,
 ⟨some 43, .load (some (4)) (.tmp 9), (some (42, false)), []⟩,
 ⟨some 44, .load (some (4)) (.tmp 4), (some (42, false)), [9]⟩,
 ⟨some 45, .call (.const (.fn (.func 29) [] [])) [.tmp 43, .tmp 44], (some (42, false)), []⟩,
 ⟨some 46, .move (.tmp 7), (some (42, false)), [9, 10, 11]⟩,
 ⟨some 47, .move (.tmp 8), (some (42, false)), [9, 10, 11, 12]⟩,
 ⟨some 48, .indexAddr 4 (.tmp 46) (.tmp 47), (some (42, false)), [9, 10, 11]⟩,
 ⟨some 49, .load (some (4)) (.tmp 48), (some (42, false)), [9, 10, 11]⟩,
 ⟨some 50, .load (some (4)) (.tmp 4), (some (42, false)), [9, 10, 11, 12, 13, 14, 15]⟩,
 ⟨some 51, .call (.const (.fn (.func 30) [] [])) [.tmp 49, .tmp 50], (some (42, false)), []⟩,
 ⟨some 52, .bin .bool .neq (.tmp 45) (.tmp 51), (some (42, false)), []⟩,
 ⟨some 53, .pick (.tmp 42) (.const (.bool true)) (.tmp 52), none, []⟩,
 ⟨some 54, .move (.tmp 53), none, []⟩,
 ⟨some 55, .load (some (4)) (.tmp 9), (some (54, false)), []⟩,
 ⟨some 56, .move (.tmp 7), (some (54, false)), [21]⟩,
 ⟨some 57, .move (.tmp 8), (some (54, false)), [21, 22]⟩,
 ⟨some 58, .indexAddr 4 (.tmp 56) (.tmp 57), (some (54, false)), [21]⟩,
 ⟨some 59, .load (some (4)) (.tmp 58), (some (54, false)), [21]⟩,
 ⟨some 60, .call (.const (.fn (.func 29) [] [])) [.tmp 55, .tmp 59], (some (54, false)), []⟩,
 ⟨some 61, .not (.tmp 60), (some (54, false)), []⟩,
 ⟨some 62, .pick (.tmp 54) (.const (.bool true)) (.tmp 61), none, []⟩]
def k_law02_CurveChecks_r7s : List (List AOper) := [
  [
  ⟨some 34, .load (some (4)) (.tmp 9), none, []⟩,
 ⟨some 35, .call (.const (.fn (.func 27) [] [])) [.tmp 34], none, []⟩,
 ⟨some 36, .move (.tmp 7), none, [0, 1]⟩,
 ⟨some 37, .move (.tmp 8), none, [0, 1, 2]⟩,
 ⟨some 38, .indexAddr 4 (.tmp 36) (.tmp 37), none, [0, 1]⟩,
 ⟨some 39, .load (some (4)) (.tmp 38), none, [0, 1]⟩], 
  [
  ⟨some 40, .call (.const (.fn (.func 28) [] [])) [.tmp 39], none, []⟩], 
  [
  ⟨some 41, .bin .plain .neq (.tmp 35) (.tmp 40), none, []⟩], 
  [
  ⟨some 42, .move (.tmp 41), none, []⟩], 
  [
  ⟨some 43, .load (some (4)) (.tmp 9), (some (42, false)), []⟩,
 ⟨some 44, .load (some (4)) (.tmp 4), (some (42, false)), [9]⟩,
 ⟨some 45, .call (.const (.fn (.func 29) [] [])) [.tmp 43, .tmp 44], (some (42, false)), []⟩,
 ⟨some 46, .move (.tmp 7), (some (42, false)), [9, 10, 11]⟩,
 ⟨some 47, .move (.tmp 8), (some (42, false)), [9, 10, 11, 12]⟩,
 ⟨some 48, .indexAddr 4 (.tmp 46) (.tmp 47), (some (42, false)), [9, 10, 11]⟩,
 ⟨some 49, .load (some (4)) (.tmp 48), (some (42, false)), [9, 10, 11]⟩,
 ⟨some 50, .load (some (4)) (.tmp 4), (some (42, false)), [9, 10, 11, 12, 13, 14, 15]⟩], 
  [
  ⟨some 51, .call (.const (.fn (.func 30) [] [])) [.tmp 49, .tmp 50], (some (42, false)), []⟩], 
  [
  ⟨some 52, .bin .bool .neq (.tmp 45) (.tmp 51), (some (42, false)), []⟩], 
  [
  ⟨some 53, .pick (.tmp 42) (.const (.bool true)) (.tmp 52), none, []⟩], 
  [
  ⟨some 54, .move (.tmp 53), none, []⟩], 
  [
  ⟨some 55, .load (some (4)) (.tmp 9), (some (54, false)), []⟩,
 ⟨some 56, .move (.tmp 7), (some (54, false)), [21]⟩,
 ⟨some 57, .move (.tmp 8), (some (54, false)), [21, 22]⟩,
 ⟨some 58, .indexAddr 4 (.tmp 56) (.tmp 57), (some (54, false)), [21]⟩,
 ⟨some 59, .load (some (4)) (.tmp 58), (some (54, false)), [21]⟩], 
  [
  ⟨some 60, .call (.const (.fn (.func 29) [] [])) [.tmp 55, .tmp 59], (some (54, false)), []⟩], 
  [
  ⟨some 61, .not (.tmp 60), (some (54, false)), []⟩], 
  [
  ⟨some 62, .pick (.tmp 54) (.const (.bool true)) (.tmp 61), none, []⟩]]
theorem k_law02_CurveChecks_r7_sg : segs k_law02_CurveChecks_r7 = k_law02_CurveChecks_r7s := by kernel_rfl
theorem k_law02_CurveChecks_r7_st : statOK k_law02_CurveChecks_r7 = true := by kernel_rfl
def k_law02_CurveChecks_r8 : List AOper := [
  ⟨some 6, .move (.const (.bool false)), none, []⟩]
def k_law02_CurveChecks_r9 : List AOper := [
  ⟨some 63, .load (some (4)) (.tmp 9), none, []⟩,
 ⟨some 64, .call (.const (.fn (.func 31) [] [])) [.tmp 63], none, []⟩,
 ⟨some 10, .box (.const (.agg [.nilsl, .nilsl, .nilsl, .nilsl])), none, []⟩,
 ⟨none, .store 4 (.tmp 10) (.tmp 64), none, []⟩]
def k_law02_CurveChecks_r10 : List AOper := [
  ⟨some 65, .load (some (4)) (.tmp 10), none, []⟩,
 ⟨some 66, .move (.tmp 7), none, [0]⟩,
 ⟨some 67, .move (.tmp 8), none, [0, 1]⟩,
 ⟨some 68, .indexAddr 4 (.tmp 66) (.tmp 67), none, [0]⟩,
 ⟨some 69, .load (some (4)) (.tmp 68), none, [0]⟩,
 ⟨some 70, .call (.const (.fn (.func 30) [] [])) [.tmp 65, .tmp 69], none, []⟩,
 ⟨some 71, .not (.tmp 70), none, []⟩]
def k_law02_CurveChecks_r10s : List (List AOper) := [
  [
  ⟨some 65, .load (some (4)) (.tmp 10), none, []⟩,
 ⟨some 66, .move (.tmp 7), none, [0]⟩,
 ⟨some 67, .move (.tmp 8), none, [0, 1]⟩,
 ⟨some 68, .indexAddr 4 (.tmp 66) (.tmp 67), none, [0]⟩,
 ⟨some 69, .load (some (4)) (.tmp 68), none, [0]⟩], 
  [
  ⟨some 70, .call (.const (.fn (.func 30) [] [])) [.tmp 65, .tmp 69], none, []⟩], 
  [
  ⟨some 71, .not (.tmp 70), none, []⟩]]
theorem k_law02_CurveChecks_r10_sg : segs k_law02_CurveChecks_r10 = k_law02_CurveChecks_r10s := by kernel_rfl
theorem k_law02_CurveChecks_r10_st : statOK k_law02_CurveChecks_r10 = true := by kernel_rfl
def k_law02_CurveChecks_r11 : List AOper := [
  ⟨some 6, .move (.const (.bool false)), none, []⟩]
def k_law02_CurveChecks_r12 : List AOper := [
  ⟨some 72, .load (some (4)) (.tmp 10), none, []⟩,
 ⟨some 73, .call (.const (.fn (.func 32) [] [])) [.tmp 72], none, []⟩]
def k_law02_CurveChecks_r13 : List AOper := [
  ⟨some 74, .load (some (4)) (.tmp 9), none, []⟩,
 ⟨some 75, .move (.tmp 7), none, [0]⟩,
 ⟨some 76, .move (.tmp 8), none, [0, 1]⟩,
 ⟨some 77, .indexAddr 4 (.tmp 75) (.tmp 76), none, [0]⟩,
 ⟨some 78, .load (some (4)) (.tmp 77), none, [0]⟩,
 ⟨some 79, .call (.const (.fn (.func 30) [] [])) [.tmp 74, .tmp 78], none, []⟩,
 ⟨some 80, .not (.tmp 79), none, []⟩]
def k_law02_CurveChecks_r13s : List (List AOper) := [
  [
  ⟨some 74, .load (some (4)) (.tmp 9), none, []⟩,
 ⟨some 75, .move (.tmp 7), none, [0]⟩,
 ⟨some 76, .move (.tmp 8), none, [0, 1]⟩,
 ⟨some 77, .indexAddr 4 (.tmp 75) (.tmp 76), none, [0]⟩,
 ⟨some 78, .load (some (4)) (.tmp 77), none, [0]⟩], 
  [
  ⟨some 79, .call (.const (.fn (.func 30) [] [])) [.tmp 74, .tmp 78], none, []⟩], 
  [
  ⟨some 80, .not (.tmp 79), none, []⟩]]
theorem k_law02_CurveChecks_r13_sg : segs k_law02_CurveChecks_r13 = k_law02_CurveChecks_r13s := by kernel_rfl
theorem k_law02_CurveChecks_r13_st : statOK k_law02_CurveChecks_r13 = true := by kernel_rfl
def k_law02_CurveChecks_r14 : List AOper := [
  ⟨some 6, .move (.const (.bool false)), none, []⟩]
def k_law02_CurveChecks_r15 : List AOper := [
  ⟨some 27, .move (.tmp 8), none, []⟩,
 ⟨some 28, .bin .plain .add (.tmp 27) (.const (.int .i64 1)), none, []⟩,
 ⟨some 8, .move (.tmp 28), none, []⟩]
def k_law02_CurveChecks_r16 : ACode := (.seq (.seq (.reg k_law02_CurveChecks_r5 false) (.cond (.tmp 26) .skip (.exit 0))) (.seq (.block 1 (.seq (.reg k_law02_CurveChecks_r6 false) (.seq (.seq (.reg k_law02_CurveChecks_r7 true) (.cond (.tmp 62) (.seq (.reg k_law02_CurveChecks_r8 false) .ret) .skip)) (.seq (.reg k_law02_CurveChecks_r9 false) (.seq (.seq (.reg k_law02_CurveChecks_r10 true) (.cond (.tmp 71) (.seq (.reg k_law02_CurveChecks_r11 false) .ret) .skip)) (.seq (.reg k_law02_CurveChecks_r12 false) (.seq (.reg k_law02_CurveChecks_r13 true) (.cond (.tmp 80) (.seq (.reg k_law02_CurveChecks_r14 false) .ret) .skip)))))))) (.reg k_law02_CurveChecks_r15 false)))
def k_law02_CurveChecks_r17 : List AOper := [
  ⟨some 81, .call (.const (.fn (.func 23) [] [])) [], none, []⟩,
 ⟨some 6, .move (.tmp 81), none, []⟩]
def k_law02_CurveChecks : AFun := { params := 3, ntmps := 82, body := (.seq (.reg k_law02_CurveChecks_r0 false) (.seq (.seq (.reg k_law02_CurveChecks_r1 false) (.cond (.tmp 16) (.seq (.reg k_law02_CurveChecks_r2 false) .ret) .skip)) (.seq (.reg k_law02_CurveChecks_r3 true) (.seq (.seq (.reg k_law02_CurveChecks_r4 false) (.block 0 (.loop k_law02_CurveChecks_r16))) (.seq (.reg k_law02_CurveChecks_r17 false) .ret))))), res := [.tmp 6] }
theorem k_law02_CurveChecks_ok : cfun Try.prog Try.f4 = k_law02_CurveChecks := by kernel_rfl

def k_law02_spoil_r0 : List AOper := [
  ⟨some 1, .box (.tmp 0), none, []⟩]
def k_law02_spoil_r1 : List AOper := [
  ⟨some 5, .fieldAddr 0 (.tmp 1), none, []⟩,
 ⟨some 6, .load none (.tmp 5), none, []⟩,
 ⟨some 7, .fieldAddr 1 (.tmp 1), none, [0, 1]⟩,
 ⟨some 8, .load none (.tmp 7), none, [0, 1]⟩,
 ⟨some 9, .buildSlice 1 [.tmp 6, .tmp 8], none, []⟩,
 ⟨some 10, .fieldAddr 2 (.tmp 1), none, [0, 1, 2, 3, 4]⟩,
 ⟨some 11, .load none (.tmp 10), none, [0, 1, 2, 3, 4]⟩,
 ⟨some 12, .append 1 24 false (.tmp 9) (.tmp 11), none, []⟩,
 ⟨some 13, .fieldAddr 3 (.tmp 1), none, [0, 1, 2, 3, 4, 5, 6, 7]⟩,
 ⟨some 14, .load none (.tmp 13), none, [0, 1, 2, 3, 4, 5, 6, 7]⟩,
 ⟨some 15, .append 1 24 false (.tmp 12) (.tmp 14), none, []⟩,
 ⟨some 2, .move (.tmp 15), none, []⟩]
def k_law02_spoil_r1s : List (List AOper) := [
  [
  ⟨some 5, .fieldAddr 0 (.tmp 1), none, []⟩,
 ⟨some 6, .load none (.tmp 5), none, []⟩,
 ⟨some 7, .fieldAddr 1 (.tmp 1), none, [0, 1]⟩,
 ⟨some 8, .load none (.tmp 7), none, [0, 1]⟩,
 ⟨some 9, .buildSlice 1 [.tmp 6, .tmp 8], none, []⟩,
 ⟨some 10, .fieldAddr 2 (.tmp 1), none, [0, 1, 2, 3, 4]⟩,
 ⟨some 11, .load none (.tmp 10), none, [0, 1, 2, 3, 4]⟩,
 ⟨some 12, .append 1 24 false (.tmp 9) (.tmp 11), none, []⟩,
 ⟨some 13, .fieldAddr 3 (.tmp 1), none, [0, 1, 2, 3, 4, 5, 6, 7]⟩,
 ⟨some 14, .load none (.tmp 13), none, [0, 1, 2, 3, 4, 5, 6, 7]⟩], 
  [
  ⟨some 15, .append 1 24 false (.tmp 12) (.tmp 14), none, []⟩], 
  [
  ⟨some 2, .move (.tmp 15), none, []⟩]]
theorem k_law02_spoil_r1_sg : segs k_law02_spoil_r1 = k_law02_spoil_r1s := by kernel_rfl
theorem k_law02_spoil_r1_st : statOK k_law02_spoil_r1 = true := by kernel_rfl
def k_law02_spoil_r2 : List AOper := [
  ⟨some 3, .move (.const (.int .i64 0)), none, []⟩]
def k_law02_spoil_r3 : List AOper := [
  ⟨some 16, .move (.tmp 3), none, []⟩,
 ⟨some 17, .move (.tmp 2), none, []⟩,
 ⟨some 18, .len false (.tmp 17), none, []⟩,
 ⟨some 19, .bin .plain .lss (.tmp 16) (.tmp 18), none, []⟩]
def k_law02_spoil_r4 : List AOper := [
  ⟨some 4, .move (.const (.int .i64 0)), none, []⟩]
def k_law02_spoil_r5 : List AOper := [
  ⟨some 22, .move (.tmp 4), none, []⟩,
 ⟨some 23, .move (.tmp 2), none, []⟩,
 ⟨some 24, .move (.tmp 3), none, []⟩,
 ⟨some 25, .indexAddr 1 (.tmp 23) (.tmp 24), none, []⟩,
 ⟨some 26, .load none (.tmp 25), none, []⟩,
 ⟨some 27, .len false (.tmp 26), none, []⟩,
 ⟨some 28, .bin .plain .lss (.tmp 22) (.tmp 27), none, []⟩]
def k_law02_spoil_r6 : List AOper := [
  ⟨some 31, .move (.tmp 2), none, []⟩,
 ⟨some 32, .move (.tmp 3), none, []⟩,
 ⟨some 33, .indexAddr 1 (.tmp 31) (.tmp 32), none, []⟩,
 ⟨some 34, .load none (.tmp 33), none, []⟩,
 ⟨some 35, .move (.tmp 4), none, []⟩,
 ⟨some 36, .indexAddr 1 (.tmp 34) (.tmp 35), none, []⟩,
 ⟨some 37, .load none (.tmp 36), none, []⟩,
 ⟨some 38, .bin .plain .add (.tmp 37) (.const (.int .i64 1)), none, []⟩,
 ⟨some 39, .indexAddr 1 (.tmp 34) (.tmp 35), none, []⟩,
 ⟨none, .store 1 (.tmp 39) (.tmp 38), none, []⟩]
def k_law02_spoil_r7 : List AOper := [
  ⟨some 29, .move (.tmp 4), none, []⟩,
 ⟨some 30, .bin .plain .add (.tmp 29) (.const (.int .i64 1)), none, []⟩,
 ⟨some 4, .move (.tmp 30), none, []⟩]
def k_law02_spoil_r8 : ACode := (.seq (.seq (.reg k_law02_spoil_r5 false) (.cond (.tmp 28) .skip (.exit 2))) (.seq (.block 3 (.reg k_law02_spoil_r6 false)) (.reg k_law02_spoil_r7 false)))
def k_law02_spoil_r9 : List AOper := [
  ⟨some 20, .move (.tmp 3), none, []⟩,
 ⟨some 21, .bin .plain .add (.tmp 20) (.const (.int .i64 1)), none, []⟩,
 ⟨some 3, .move (.tmp 21), none, []⟩]
def k_law02_spoil_r10 : ACode := (.seq (.seq (.reg k_law02_spoil_r3 false) (.cond (.tmp 19) .skip (.exit 0))) (.seq (.block 1 (.seq (.reg k_law02_spoil_r4 false) (.block 2 (.loop k_law02_spoil_r8)))) (.reg k_law02_spoil_r9 false)))
def k_law02_spoil : AFun := { params := 1, ntmps := 40, body := (.seq (.reg k_law02_spoil_r0 false) (.seq (.reg k_law02_spoil_r1 true) (.seq (.reg k_law02_spoil_r2 false) (.block 0 (.loop k_law02_spoil_r10))))), res := [] }
theorem k_law02_spoil_ok : cfun Try.prog Try.f32 = k_law02_spoil := by kernel_rfl


abbrev n_law02_CurveChecks : Nat := 4
theorem e_law02_CurveChecks : EntryOK Try.prog n_law02_CurveChecks k_law02_CurveChecks := ⟨Try.f4, Try.func4, k_law02_CurveChecks_ok, by kernel_rfl⟩
abbrev n_law02_spoil : Nat := 32
theorem e_law02_spoil : EntryOK Try.prog n_law02_spoil k_law02_spoil := ⟨Try.f32, Try.func32, k_law02_spoil_ok, by kernel_rfl⟩

attribute [go_sem] k_law02_CurveChecks_r0 k_law02_CurveChecks_r1 k_law02_CurveChecks_r2 k_law02_CurveChecks_r3s k_law02_CurveChecks_r4 k_law02_CurveChecks_r5 k_law02_CurveChecks_r6 k_law02_CurveChecks_r7s k_law02_CurveChecks_r8 k_law02_CurveChecks_r9 k_law02_CurveChecks_r10s k_law02_CurveChecks_r11
attribute [go_sem] k_law02_CurveChecks_r12 k_law02_CurveChecks_r13s k_law02_CurveChecks_r14 k_law02_CurveChecks_r15 k_law02_CurveChecks_r17 k_law02_spoil_r0 k_law02_spoil_r1s k_law02_spoil_r2 k_law02_spoil_r3 k_law02_spoil_r4 k_law02_spoil_r5 k_law02_spoil_r6
attribute [go_sem] k_law02_spoil_r7 k_law02_spoil_r9 k_law02_CurveChecks_r13_sg k_law02_spoil_r1_sg k_law02_CurveChecks_r10_sg k_law02_CurveChecks_r3_sg k_law02_CurveChecks_r7_sg k_law02_CurveChecks_r13_st k_law02_spoil_r1_st k_law02_CurveChecks_r10_st k_law02_CurveChecks_r3_st k_law02_CurveChecks_r7_st
attribute [go_sem] k_law02_CurveChecks k_law02_spoil
end Go.Proofs

namespace Go.Proofs
open Go Go.Sx Go.Fam
attribute [local irreducible] Run

def w1 (n : Int) : Int := IntKind.i64.wrap (n + 1)
def incL (xs : List Int) (k : Nat) : List Int := (xs.take k).map w1 ++ xs.drop k
theorem incL_zero (xs : List Int) : incL xs 0 = xs := by simp [incL]
theorem incL_len (xs : List Int) (k : Nat) : (incL xs k).length = xs.length := by simp [incL]; omega
theorem incL_all (xs : List Int) : incL xs xs.length = xs.map w1 := by simp [incL]
theorem incL_get (xs : List Int) (k : Nat) (hk : k < xs.length) : (incL xs k)[k]? = some xs[k] := by
  unfold incL
  rw [List.getElem?_append_right (by simp; omega), List.getElem?_drop, List.length_map, List.length_take, Nat.min_eq_left (by omega), Nat.sub_self, Nat.add_zero, List.getElem?_eq_getElem hk]
theorem incL_set (xs : List Int) (k : Nat) (hk : k < xs.length) : (incL xs k).set k (w1 xs[k]) = incL xs (k + 1) := by
  refine List.ext_getElem? fun j => ?_
  rw [List.getElem?_set, incL_len]
  unfold incL
  rw [List.getElem?_append, List.getElem?_append]
  simp only [List.length_map, List.length_take, List.getElem?_map, List.getElem?_take, List.getElem?_drop]
  by_cases e : k = j
  · subst e
    rw [if_pos rfl, if_pos hk, if_pos (by omega), if_pos (by omega), List.getElem?_eq_getElem hk]; rfl
  · rw [if_neg e]
    by_cases c : j < k
    · rw [if_pos (by omega), if_pos (by omega), if_pos (by omega), if_pos (by omega)]
    · rw [if_neg (by omega), if_neg (by omega)]
      congr 1; omega
def incv : AVal → AVal
  | .int k n => .int k (k.wrap (n + 1))
  | v => v
def incAt (J : Heap) (v : AVal) : Heap :=
  match v with
  | .sl q _ _ => match J[q]? with
    | some (some (.cells b sz vs)) => J.set q (some (.cells b sz (vs.map incv)))
    | _ => J
  | _ => J
def IntRow (J : Heap) (v : AVal) : Prop := v = .nilsl ∨ ∃ q xs, v = .sl q 0 xs.length ∧ J[q]? = some (some (.cells true 1 (ivL xs))) ∧ xs.length ≤ 1000000
theorem incAt_sl {J : Heap} {q n : Nat} {xs : List Int} (h : J[q]? = some (some (.cells true 1 (ivL xs)))) : incAt J (.sl q 0 n) = J.set q (some (.cells true 1 (ivL (xs.map w1)))) := by
  simp only [incAt]
  rw [h]
  simp [ivL, incv, w1, Function.comp_def]
theorem incAt_len (J : Heap) (v : AVal) : (incAt J v).length = J.length := by
  unfold incAt
  repeat' split
  all_goals simp
theorem IntRow.inc {J : Heap} {v u : AVal} (hv : IntRow J v) (hu : IntRow J u) : IntRow (incAt J v) u := by
  rcases hv with rfl | ⟨q, xs, rfl, h, hl⟩
  · exact hu
  · rw [incAt_sl h]
    rcases hu with rfl | ⟨q', xs', rfl, h', hl'⟩
    · exact .inl rfl
    · by_cases e : q = q'
      · subst e
        rw [h] at h'
        have e : ivL xs = ivL xs' := by injection h' with h'; injection h' with h'; injection h'
        have e2 : xs.length = xs'.length := by have := congrArg List.length e; simpa [ivL] using this
        exact .inr ⟨q, xs.map w1, by rw [List.length_map, e2], List.getElem?_set_self (List.getElem?_eq_some_iff.1 h).1, by rw [List.length_map]; exact hl⟩
      · exact .inr ⟨q', xs', rfl, by rw [List.getElem?_set_ne e]; exact h', hl'⟩
theorem cells_two {A : Heap} {n : Nat} (h : A.length = n) (x : Option Row) (g : Bool) (sz : Nat) (es : List AVal) : Heap.cellsAt (A ++ [x, some (.cells g sz es)]) (n + 1) = some (g, sz, es) :=
  cells_at (by rw [List.getElem?_append_right (by omega), h, Nat.add_sub_cancel_left]; rfl)
theorem set_same {J : Heap} {q : Nat} {x : Option Row} (h : J[q]? = some x) : J.set q x = J := by
  refine List.ext_getElem? fun j => ?_
  rw [List.getElem?_set]
  split
  · rename_i e; subst e
    rw [if_pos (List.getElem?_eq_some_iff.1 h).1, h]
  · rfl
def spT (a n : Nat) : List (Nat × AVal) := [(2, .sl a 0 n)]

set_option maxHeartbeats 2000000 in
set_option maxRecDepth 20000 in
theorem spoil_loop {G : Ctx} (LH : Heap) (bx : Option Row) (L : List AVal) (hL : L.length ≤ 1000) (hI : ∀ v ∈ L, IntRow LH v) (ρ : List AVal) (hw : Wk ρ (tsets 40 (spT (LH.length + 1) L.length ++ [(3, .int .i64 0)]))) :
    Sx.Loop Try.prog G LH.length none k_law02_spoil_r10 [Frame.blk 0] ⟨ρ, LH ++ [bx, some (.cells true 1 L)], []⟩ (RetPost [] fun v H'' => v = .tup [] ∧ ∃ X, H'' = L.foldl incAt LH ++ X) := by
  refine loop_ind k_law02_spoil_r10.eq_1 (fun q : Nat × Heap => q.1 ≤ L.length ∧ q.2 = (L.take q.1).foldl incAt LH ∧ q.2.length = LH.length ∧ ∀ v ∈ L, IntRow q.2 v) (fun q => L.length - q.1)
    (fun q => (tsets 40 (spT (LH.length + 1) L.length ++ [(3, .int .i64 q.1)]), q.2 ++ [bx, some (.cells true 1 L)])) (0, LH) ⟨Nat.zero_le _, rfl, rfl, hI⟩ hw rfl ?_
  rintro ⟨i, J⟩ ⟨hi, hJ, hl, hR⟩ ih
  dsimp only at hi hJ hl hR ih ⊢
  have cL := fun (A : Heap) (hA : A.length = LH.length) => cells_two hA bx true 1 L
  by_cases h1 : i < L.length
  · have h2 : (i : Int) < L.length := by omega
    have h3 := idx_next h1 (by omega)
    have m0 : ¬ (i : Int) < 0 := by omega
    obtain ⟨v, hv⟩ : ∃ v, L[i]? = some v := ⟨_, List.getElem?_eq_getElem h1⟩
    have hR' := hR v (List.mem_of_getElem? hv)
    have et : L.take (i + 1) = L.take i ++ [v] := by rw [List.take_add_one, hv]; rfl
    have next : ∀ J' : Heap, J' = incAt J v → i + 1 ≤ L.length ∧ J' = (L.take (i + 1)).foldl incAt LH ∧ J'.length = LH.length ∧ ∀ v ∈ L, IntRow J' v := fun J' e => by
      subst e
      refine ⟨h1, by rw [et, List.foldl_append, ← hJ]; rfl, by rw [incAt_len]; exact hl, fun u hu => hR'.inc (hR u hu)⟩
    rcases hR' with rfl | ⟨q, xs, rfl, hq, hxl⟩
    · have c0 := cL J hl
      simp only [go_sem, spT, h2, c0]
      refine loop_ind k_law02_spoil_r8.eq_1 (fun _ : Unit => True) (fun _ => 0)
        (fun _ => (tsets 40 (spT (LH.length + 1) L.length ++ [(3, .int .i64 i), (4, .int .i64 0)]), J ++ [bx, some (.cells true 1 L)])) () trivial (by simp [go_sem, spT]) rfl ?_
      intro _ _ _
      dsimp only
      simp only [go_sem, spT, c0, m0, hv, Int.toNat_natCast, h3]
      refine ⟨h2, ih (i + 1, J) (by dsimp only; omega) (next J rfl) _ (by simp [go_sem, spT])⟩
    · have c0 := cL J hl
      have hql := (List.getElem?_eq_some_iff.1 hq).1
      have cK := fun (k : Nat) => cL (J.set q (some (.cells true 1 (ivL (incL xs k))))) (by simpa using hl)
      have cq := fun (k : Nat) (Y : Heap) => cells_more (cells_at (H := J.set q (some (.cells true 1 (ivL (incL xs k))))) (List.getElem?_set_self hql)) Y
      have pq := fun (k : Nat) (Y : Heap) (x : Row) => put_more (H := J.set q (some (.cells true 1 (ivL (incL xs k))))) (j := q) (by simpa using hql) Y x
      simp only [go_sem, spT, h2, c0]
      refine loop_ind k_law02_spoil_r8.eq_1 (fun k : Nat => k ≤ xs.length) (fun k => xs.length - k)
        (fun k => (tsets 40 (spT (LH.length + 1) L.length ++ [(3, .int .i64 i), (4, .int .i64 k)]), J.set q (some (.cells true 1 (ivL (incL xs k)))) ++ [bx, some (.cells true 1 L)])) 0 (Nat.zero_le _) (by simp [go_sem, spT]) ?_ ?_
      · rw [incL_zero, set_same hq]
      intro k hk ihk
      dsimp only at hk ihk ⊢
      by_cases g1 : k < xs.length
      · have g2 : (k : Int) < xs.length := by omega
        have g3 := idx_next g1 (by omega)
        have gm : ¬ (k : Int) < 0 := by omega
        have gi := incL_get xs k g1
        have gs := incL_set xs k g1
        simp only [go_sem, spT, cK, cq, pq, m0, hv, Int.toNat_natCast, g2, g3, gm, gi, ivL, List.length_map, incL_len, List.getElem?_map, Option.map_some]
        rw [show (J.set q (some (.cells true 1 (List.map (.int .i64) (incL xs k))))).set q (some (.cells true 1 ((List.map (.int .i64) (incL xs k)).set k (.int .i64 (IntKind.i64.wrap (xs[k] + 1)))))) = J.set q (some (.cells true 1 (ivL (incL xs (k + 1))))) from by rw [List.set_set, ← gs, ivL, List.map_set]; rfl]
        exact ⟨h2, h2, ihk (k + 1) (by omega) g1 _ (by simp [go_sem, spT])⟩
      · have g2 : ¬ (k : Int) < xs.length := by omega
        have ke : k = xs.length := by omega
        subst ke
        simp only [go_sem, spT, cK, cq, m0, hv, Int.toNat_natCast, h3, g2, ivL, List.length_map, incL_len]
        refine ⟨h2, ih (i + 1, J.set q (some (.cells true 1 (ivL (incL xs xs.length))))) (by dsimp only; omega) (next _ ?_) _ (by simp [go_sem, spT])⟩
        rw [incL_all, incAt_sl hq]
  · have h2 : ¬ (i : Int) < L.length := by omega
    have : L.take i = L := List.take_of_length_le (by omega)
    rw [this] at hJ
    have c0 := cL J hl
    simp only [go_sem, spT, h2, c0]
    exact ⟨_, by rw [hJ]⟩
def TabV (J : Heap) (v : AVal) (L : List AVal) : Prop := (v = .nilsl ∧ L = []) ∨ ∃ s, v = .sl s 0 L.length ∧ J[s]? = some (some (.cells true 1 L))
theorem intRow_sized {J : Heap} {L : List AVal} (h : ∀ v ∈ L, IntRow J v) : sizedAll 1 L = true := by
  unfold sizedAll
  rw [List.all_eq_true]
  intro v hv
  rcases h v hv with rfl | ⟨q, xs, rfl, -, -⟩ <;> rfl
theorem intRow_sl {J : Heap} {v : AVal} (h : IntRow J v) : v = .nilsl ∨ ∃ q n, v = .sl q 0 n := by
  rcases h with rfl | ⟨q, xs, rfl, -, -⟩
  · exact .inl rfl
  · exact .inr ⟨_, _, rfl⟩
set_option maxHeartbeats 2000000 in
set_option maxRecDepth 20000 in
theorem spoil_run (LH : Heap) (v0 v1 v2 v3 : AVal) (L2 L3 : List AVal) (h2 : TabV LH v2 L2) (h3 : TabV LH v3 L3) (m2 : L2.length ≤ 100) (m3 : L3.length ≤ 100) (hI : ∀ v ∈ v0 :: v1 :: (L2 ++ L3), IntRow LH v) : Ans Try.prog n_law02_spoil [.agg [v0, v1, v2, v3]] LH (.tup []) ((v0 :: v1 :: (L2 ++ L3)).foldl incAt LH) := by
  have s2 : sizedAll 1 L2 = true := intRow_sized (J := LH) fun v hv => hI v (by simp [hv])
  have s3 : sizedAll 1 L3 = true := intRow_sized (J := LH) fun v hv => hI v (by simp [hv])
  have key := fun (G : Ctx) (bx : Option Row) (ρ : List AVal) hw => spoil_loop (G := G) LH bx (v0 :: v1 :: (L2 ++ L3)) (by simp; omega) hI ρ hw
  have z2 : (2 + L2.length) * 24 ≤ 2 ^ 44 := by omega
  have z3 : (2 + L2.length + L3.length) * 24 ≤ 2 ^ 44 := by omega
  have z4 : (2 + L3.length) * 24 ≤ 2 ^ 44 := by omega
  have q0 := intRow_sl (hI v0 (by simp))
  have q1 := intRow_sl (hI v1 (by simp))
  clear hI
  refine spec_run e_law02_spoil fun G => ?_
  have e1 : ¬ LH.length = LH.length + 1 := by omega
  have e2 : (LH.length == LH.length + 1) = false := by simp
  have e3 : 48 ≤ 2 ^ 44 := by decide
  rcases h2 with ⟨rfl, rfl⟩ | ⟨t2, rfl, h2⟩ <;> rcases h3 with ⟨rfl, rfl⟩ | ⟨t3, rfl, h3⟩
  · rcases q0 with rfl | ⟨a0, n0, rfl⟩ <;> rcases q1 with rfl | ⟨a1, n1, rfl⟩ <;>
    · simp only [go_sem, e1, e2, e3]
      exact key G _ _ (by simp [go_sem, spT]; try omega)
  · have c3 := fun Y => cells_more (cells_at h3) Y
    rcases q0 with rfl | ⟨a0, n0, rfl⟩ <;> rcases q1 with rfl | ⟨a1, n1, rfl⟩ <;>
    · simp only [go_sem, e1, e2, e3, c3, List.take_length, s3, z4]
      exact key G _ _ (by simp [go_sem, spT]; try omega)
  · have c2 := fun Y => cells_more (cells_at h2) Y
    simp only [List.append_nil] at key
    rcases q0 with rfl | ⟨a0, n0, rfl⟩ <;> rcases q1 with rfl | ⟨a1, n1, rfl⟩ <;>
    · simp only [go_sem, e1, e2, e3, c2, List.take_length, s2, z2]
      exact ⟨by omega, key G _ _ (by simp [go_sem, spT]; try omega)⟩
  · have c2 := fun Y => cells_more (cells_at h2) Y
    have c3 := fun Y => cells_more (cells_at h3) Y
    rcases q0 with rfl | ⟨a0, n0, rfl⟩ <;> rcases q1 with rfl | ⟨a1, n1, rfl⟩ <;>
    · simp only [go_sem, e1, e2, e3, c2, c3, List.take_length, s2, s3, z2, z3]
      exact ⟨by omega, key G _ _ (by simp [go_sem, spT]; try omega)⟩
end Go.Proofs

namespace Go.Proofs
open Go Go.Sx Go.Fam
attribute [local irreducible] Run

theorem cw_row {d : Nat} {J : Heap} {κ : List Nat} {v : AVal} {l : List Int} (h : Dat (d + 1) J κ v (cw l)) (hl : l.length ≤ 1000000) : IntRow J v := by
  by_cases e : l = []
  · subst e; exact .inl (nil_get h).1
  · rw [cw_ne e] at h
    obtain ⟨-, r, e1, -, hr⟩ := vw_get h
    exact .inr ⟨r, l, e1, hr, hl⟩
theorem ctw_tab {J : Heap} {κ : List Nat} {v : AVal} {t : List (List Int)} (h : Dat 5 J κ v (ctw t)) (hl : ∀ r ∈ t, r.length ≤ 1000000) : ∃ L, TabV J v L ∧ L.length = t.length ∧ ∀ u ∈ L, IntRow J u := by
  by_cases e : t = []
  · subst e; exact ⟨[], .inl ⟨(nil_get (d := 4) h).1, rfl⟩, rfl, fun u hu => by simp at hu⟩
  · obtain ⟨r, vs, κ', e1, -, g, a⟩ := ctw_get h e
    have al := a.len
    rw [List.length_map] at al
    refine ⟨vs, .inr ⟨r, by rw [al]; exact e1, g⟩, al, fun u hu => ?_⟩
    obtain ⟨i, hi, rfl⟩ := List.mem_iff_getElem.1 hu
    obtain ⟨κ2, w, h1, -, h2⟩ := a.get i (cw t[i]) (by rw [List.getElem?_map, List.getElem?_eq_getElem (by omega)]; rfl)
    rw [List.getElem?_eq_getElem hi] at h1
    cases h1
    exact cw_row h2 (hl _ (List.getElem_mem _))
theorem all3_cons {R : List Nat → AVal → AVal → Prop} {ι : List Nat} {vs es : List AVal} {e : AVal} (h : All3 R ι vs (e :: es)) : ∃ v ws κ κ', vs = v :: ws ∧ R κ v e ∧ All3 R κ' ws es := by
  cases vs with
  | nil => exact h.elim
  | cons v ws => obtain ⟨κ, κ', -, h1, h2⟩ := h; exact ⟨v, ws, κ, κ', rfl, h1, h2⟩
theorem fam_tabs {J : Heap} {ι : List Nat} {v : AVal} {f : Fa} (h : Dat 6 J ι v (cFv f)) (hf : FaR f) : ∃ v0 v1 v2 v3 L2 L3, v = .agg [v0, v1, v2, v3] ∧ TabV J v2 L2 ∧ TabV J v3 L3 ∧ L2.length = f.lo.length ∧ L3.length = f.hi.length ∧ ∀ u ∈ v0 :: v1 :: (L2 ++ L3), IntRow J u := by
  obtain ⟨vs, ev, hx⟩ := h
  obtain ⟨v0, ws, _, _, rfl, d0, hx⟩ := all3_cons hx
  obtain ⟨v1, ws, _, _, rfl, d1, hx⟩ := all3_cons hx
  obtain ⟨v2, ws, _, _, rfl, d2, hx⟩ := all3_cons hx
  obtain ⟨v3, ws, _, _, rfl, d3, hx⟩ := all3_cons hx
  have : ws = [] := by have := hx.len; simpa using this
  subst this
  obtain ⟨L2, t2, l2, r2⟩ := ctw_tab d2 hf.2.2.1.2
  obtain ⟨L3, t3, l3, r3⟩ := ctw_tab d3 hf.2.2.2.2
  refine ⟨v0, v1, v2, v3, L2, L3, ev, t2, t3, l2, l3, fun u hu => ?_⟩
  simp only [List.mem_cons, List.mem_append] at hu
  rcases hu with rfl | rfl | hu | hu
  · exact cw_row d0 hf.1
  · exact cw_row d1 hf.2.1
  · exact r2 u hu
  · exact r3 u hu

theorem full_of {S : Nat → Prop} : ∀ {L : Heap}, (∀ i, i < L.length → ∃ x, L[i]? = some (some x) ∧ x.bel S) → Full S L
  | [], _ => trivial
  | some x :: L, h => by
    obtain ⟨y, e, hy⟩ := h 0 (by simp)
    simp at e; subst e
    exact ⟨hy, full_of fun i hi => by
      obtain ⟨z, e, hz⟩ := h (i + 1) (by simpa using hi)
      exact ⟨z, by simpa using e, hz⟩⟩
  | none :: L, h => by
    obtain ⟨y, e, hy⟩ := h 0 (by simp)
    simp at e
theorem full_get {S : Nat → Prop} : ∀ {L : Heap}, Full S L → ∀ i, i < L.length → ∃ x, L[i]? = some (some x) ∧ x.bel S
  | [], _, i, hi => by simp at hi
  | some x :: L, h, 0, _ => ⟨x, rfl, h.1⟩
  | some x :: L, h, i + 1, hi => by
    obtain ⟨z, e, hz⟩ := full_get h.2 i (by simpa using hi)
    exact ⟨z, by simpa using e, hz⟩
  | none :: L, h, _, _ => h.elim
theorem incv_bel {S : Nat → Prop} {v : AVal} (h : Bel S v) : Bel S (incv v) := by
  cases v <;> first | exact h | exact .int _ _
theorem incAt_full {S : Nat → Prop} {J : Heap} (h : Full S J) (v : AVal) : Full S (incAt J v) := by
  unfold incAt
  repeat' split
  · rename_i q _ _ _ b sz vs hq
    refine full_of fun i hi => ?_
    rw [List.length_set] at hi
    by_cases e : q = i
    · subst e
      obtain ⟨x, e, hx⟩ := full_get h q hi
      rw [hq] at e
      cases e
      refine ⟨_, List.getElem?_set_self hi, ?_⟩
      rw [row_bel_cells] at hx ⊢
      refine bels_of fun u hu => ?_
      obtain ⟨w, hw, rfl⟩ := List.mem_map.1 hu
      exact incv_bel (bels_mem hx w hw)
    · rw [List.getElem?_set_ne e]
      exact full_get h i hi
  · exact h
  · exact h
theorem foldl_full {S : Nat → Prop} : ∀ {L : List AVal} {J : Heap}, Full S J → Full S (L.foldl incAt J)
  | [], _, h => h
  | v :: L, J, h => foldl_full (L := L) (J := incAt J v) (incAt_full h v)
theorem foldl_len : ∀ {L : List AVal} {J : Heap}, (L.foldl incAt J).length = J.length
  | [], _ => rfl
  | v :: L, J => by rw [List.foldl_cons, foldl_len, incAt_len]
theorem spoil_fam {f : Fa} (hf : FaR f) (m2 : f.lo.length ≤ 100) (m3 : f.hi.length ≤ 100) : ∃ LH', Ans Try.prog n_law02_spoil [(thaw 6 0 (cFv f)).1] (thaw 6 0 (cFv f)).2 (.tup []) LH' ∧ LH'.length = (thaw 6 0 (cFv f)).2.length ∧ Full (· < (thaw 6 0 (cFv f)).2.length) LH' ∧ Full (· < (thaw 6 0 (cFv f)).2.length) (thaw 6 0 (cFv f)).2 := by
  have hd : Dat 6 (thaw 6 0 (cFv f)).2 (upFrom 0 (thaw 6 0 (cFv f)).2.length) (thaw 6 0 (cFv f)).1 (cFv f) := thaw_dat 0 (cFv_pure f) fun i hi => by rw [Nat.zero_add]
  have hw := (thaw_wf 0 (cFv_pure f)).1
  have hF : Full (· < (thaw 6 0 (cFv f)).2.length) (thaw 6 0 (cFv f)).2 := full_of fun i hi => by
    obtain ⟨x, e, hx, -⟩ := hw i hi
    exact ⟨x, e, bel_mono_row hx fun r hr => by omega⟩
  obtain ⟨v0, v1, v2, v3, L2, L3, ev, t2, t3, l2, l3, hI⟩ := fam_tabs hd hf
  rw [ev]
  exact ⟨_, spoil_run _ v0 v1 v2 v3 L2 L3 t2 t3 (by omega) (by omega) hI, foldl_len, foldl_full hF, hF⟩

theorem rowsOK_of {H : Heap} {g : Nat → Nat} : ∀ {κ : List Nat} {L : Heap}, L.length = κ.length → (∀ i, i < L.length → ∃ x, L[i]? = some (some x)) → (∀ i x, L[i]? = some (some x) → H[nth κ i]? = some (some (x.ren g))) → rowsOK H g κ L
  | [], [], _, _, _ => trivial
  | r :: κ, some x :: L, hl, h1, h2 => ⟨by simpa [nth] using h2 0 x rfl, rowsOK_of (by simpa using hl) (fun i hi => by simpa using h1 (i + 1) (by simpa using hi)) fun i y hy => by simpa [nth] using h2 (i + 1) y (by simpa using hy)⟩
  | r :: κ, none :: L, hl, h1, h2 => by obtain ⟨x, e⟩ := h1 0 (by simp); simp at e
  | [], _ :: _, hl, _, _ => by simp at hl
  | _ :: _, [], hl, _, _ => by simp at hl
theorem puts_off : ∀ (Δ : List (Nat × Row)) (H : Heap), (∀ p ∈ Δ, p.1 < H.length) → (H.puts Δ).length = H.length ∧ ∀ q, (∀ p ∈ Δ, p.1 ≠ q) → (H.puts Δ)[q]? = H[q]?
  | [], H, _ => ⟨rfl, fun _ _ => rfl⟩
  | (r, x) :: Δ, H, h => by
    have h0 := h (r, x) (by simp)
    obtain ⟨h1, h2⟩ := puts_off Δ (H.set r (some x)) fun p hp => by rw [List.length_set]; exact h p (by simp [hp])
    rw [Heap.puts_cons, put_lt h0]
    exact ⟨by rw [h1, List.length_set], fun q hq => by rw [h2 q fun p hp => hq p (by simp [hp]), List.getElem?_set_ne (hq (r, x) (by simp))]⟩
theorem seg_ex {H' A X B : Heap} (hl : H'.length = (A ++ (X ++ B)).length) (h : ∀ q, q < A.length ∨ A.length + X.length ≤ q → H'[q]? = (A ++ (X ++ B))[q]?) : ∃ X', X'.length = X.length ∧ H' = A ++ (X' ++ B) := by
  simp only [List.length_append] at hl
  refine ⟨(H'.drop A.length).take X.length, by simp; omega, List.ext_getElem? fun q => ?_⟩
  by_cases c1 : q < A.length
  · rw [h q (.inl c1), List.getElem?_append_left c1, List.getElem?_append_left c1]
  · rw [List.getElem?_append_right (by omega)]
    by_cases c2 : q < A.length + X.length
    · rw [List.getElem?_append_left (by simp; omega), List.getElem?_take_of_lt (by omega), List.getElem?_drop]
      congr 1; omega
    · rw [h q (.inr (by omega)), List.getElem?_append_right (by omega), List.getElem?_append_right (by omega), List.getElem?_append_right (by simp; omega)]
      congr 1; simp; omega
section
variable {G : Ctx} {k : Nat} {R : Runner} {l : List AOper} {fs : List Sx.Frame} {ρ : List AVal} {H : Heap} {ms : List Nat} {Q : Goal} {dst : Option Nat}
theorem cSpoil {f : Fa} {v : AVal} {A X B : Heap} {n : Nat} (hf : FaR f) (m2 : f.lo.length ≤ 100) (m3 : f.hi.length ≤ 100) (hA : A.length = n) (eH : H = A ++ (X ++ B)) (hd : Dat 6 (A ++ (X ++ B)) (upFrom n X.length) v (cFv f)) (hk : k ≤ (A ++ (X ++ B)).length)
    (hK : ∀ X' : Heap, X'.length = X.length → R (.ops l) fs ⟨setD ρ dst (.tup []), A ++ (X' ++ B), []⟩ Q) : CallR Try.prog G k R n_law02_spoil [v] dst l fs ρ H [] Q := by
  subst eH
  obtain ⟨LH', ha, hlen, hF', hF⟩ := spoil_fam hf m2 m3
  obtain ⟨e1, st⟩ := hd.thaw (σ := nth (upFrom n X.length)) 0 (fun i _ => by rw [Nat.zero_add])
  have hw := thaw_wf 0 (cFv_pure f)
  have hl1 : (thaw 6 0 (cFv f)).2.length = (upFrom n X.length).length := st.len
  have hlt : ∀ q ∈ upFrom n X.length, q < (A ++ (X ++ B)).length := fun q hq => by
    have := upFrom_mem.1 hq
    simp only [List.length_append]; omega
  rw [hl1] at hF hF' hlen
  refine callS ha (upFrom n X.length) (upFrom_nodup _ _) (rowsOK_of hl1 (fun i hi => by obtain ⟨x, e, -⟩ := hw.1 i hi; exact ⟨x, e⟩) st.get) (by rw [e1]; rfl) ⟨?_, trivial⟩ hF (by omega) (.tup _ (by intro i hi; simp at hi)) (by rw [hlen]; exact hF') hlt hk (fun q hq => by simp at hq) ?_
  · exact hw.2.1.mono fun r hr => by omega
  · have hΔ : ∀ p ∈ outΔ (outσ (upFrom n X.length) (A ++ (X ++ B)).length) 0 LH', n ≤ p.1 ∧ p.1 < n + X.length := fun p hp => by
      obtain ⟨j, y, hj, e, -⟩ := outΔ_mem (r := p.1) (x := p.2) hp
      have hj' := (List.getElem?_eq_some_iff.1 hj).1
      rw [Nat.zero_add] at e
      rw [upFrom_len] at hlen
      rw [e, outσ, if_pos (by rw [upFrom_len]; omega), nth_upFrom (by omega)]
      omega
    have hlt' : ∀ p ∈ outΔ (outσ (upFrom n X.length) (A ++ (X ++ B)).length) 0 LH', p.1 < (A ++ (X ++ B)).length := fun p hp => by
      have := hΔ p hp
      simp only [List.length_append]; omega
    obtain ⟨q1, q2⟩ := puts_off _ _ hlt'
    obtain ⟨X', hX, e⟩ := seg_ex (A := A) (X := X) (B := B) q1 fun q hq => q2 q fun p hp e => by
      have := hΔ p hp
      omega
    rw [e]
    exact hK X' hX
end
end Go.Proofs

namespace Go.Proofs
open Go Go.Sx

end Go.Proofs

namespace Go.Proofs
open Go Go.Sx Go.Fam
attribute [local irreducible] Run

def AtF (n : Nat) (Y : Heap) (v : AVal) (F : Fa) : Prop := ∀ A R : Heap, A.length = n → Dat 6 (A ++ (Y ++ R)) (upFrom n Y.length) v (Fv F)
theorem atF_thaw {F : Fa} (hp : Pure 6 (Fv F)) (n : Nat) : AtF n (thaw 6 n (Fv F)).2 (thaw 6 n (Fv F)).1 F := fun A R hA => by
  rw [← List.append_assoc]
  exact (thaw_dat (H := A ++ (thaw 6 n (Fv F)).2) n hp fun i hi => by rw [get_new hA]).app R fun r hr => by rw [upFrom_mem] at hr; simp; omega
theorem AtF.frz {n : Nat} {Y : Heap} {v : AVal} {F : Fa} (h : AtF n Y v F) {H : Heap} (A R : Heap) (e : H = A ++ (Y ++ R)) (hA : A.length = n) : frz 6 H v = Fv F := by rw [e]; exact (h A R hA).frz
theorem AtF.only {n : Nat} {Y : Heap} {v : AVal} {F : Fa} (h : AtF n Y v F) {H : Heap} {κ : List Nat} (A R : Heap) (e : H = A ++ (Y ++ R)) (hA : A.length = n) (hκ : ∀ r ∈ upFrom n Y.length, r ∈ κ) : Sx.frz 6 (H.onlyR κ) v = Fv F := by
  rw [e]; exact ((h A R hA).onlyR hκ).frz
end Go.Proofs

