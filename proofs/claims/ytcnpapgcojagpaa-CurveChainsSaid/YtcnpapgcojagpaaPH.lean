/- A part of the proof. -/
import Derived.Test.YtcnpapgcojagpaaPG
set_option linter.unusedSimpArgs false
set_option linter.unusedVariables false
namespace Go.Proofs
open Go Go.Sx Go.Fam
attribute [local irreducible] Run

structure TS (J : Heap) (κ : List Nat) (v : AVal) (L : List (List Int)) : Prop where
  dat : Dat 5 J κ v (tbC L)
  nd : κ.Nodup
theorem TS.first {J : Heap} {κ : List Nat} {v : AVal} (h : TS J κ v []) : v = .nilsl ∧ ∀ (J' : Heap) (n m : Nat) (row : List Int), row ≠ [] → n ≠ m → J'[n]? = some (some (.cells true 1 (ivL row))) → J'[m]? = some (some (.cells true 1 [.sl n 0 row.length])) → TS J' [n, m] (.sl m 0 1) [row] := by
  obtain ⟨e, -⟩ := nil_get (J := J) (d := 4) (κ := κ) (v := v) (by simpa [tbC] using h.dat)
  exact ⟨e, fun J' n m row h0 hn h1 h2 => ⟨tb_put (κ := [n]) (by simp) rfl h2 (row_one (vw_put h0 rfl h1)), by simp [hn]⟩⟩
theorem TS.next {J : Heap} {κ : List Nat} {v : AVal} {L : List (List Int)} (h : TS J κ v L) (hL : L ≠ []) : ∃ r vs, v = .sl r 0 L.length ∧ J[r]? = some (some (.cells true 1 vs)) ∧ vs.length = L.length ∧
    ∀ (J' : Heap) (n : Nat) (row : List Int), row ≠ [] → J.length ≤ n → (∀ q, q < J.length → q ≠ r → J'[q]? = J[q]?) → J'[n]? = some (some (.cells true 1 (ivL row))) → J'[r]? = some (some (.cells true 1 (vs ++ [.sl n 0 row.length]))) → ∃ κ', TS J' κ' (.sl r 0 (L.length + 1)) (L ++ [row]) := by
  obtain ⟨r, vs, κ', e, k, g, a⟩ := tb_get h.dat hL
  subst k
  have al := a.len
  simp only [List.length_map] at al
  have nd := List.nodup_append.1 h.nd
  refine ⟨r, vs, e, g, al, fun J' n row h0 hn hJ h1 h2 => ⟨κ' ++ [n] ++ [r], tb_put (by simp) (by simp) h2 (row_more (a.mono fun κ2 u w hs _ hd => hd.congr fun q hq => hJ q (hd.lt q hq) fun e => nd.2.2 _ (hs _ hq) _ (by simp) e) (vw_put h0 rfl h1)), ?_⟩⟩
  · have hlt : ∀ q ∈ κ', q < J.length := fun q hq => h.dat.lt q (by simp [hq])
    have hr := (List.getElem?_eq_some_iff.1 g).1
    refine List.nodup_append.2 ⟨List.nodup_append.2 ⟨nd.1, by simp, fun x hx y hy => ?_⟩, by simp, fun x hx y hy => ?_⟩
    · simp at hy; subst hy; have := hlt x hx; omega
    · simp at hy; subst hy
      simp only [List.mem_append, List.mem_singleton] at hx
      rcases hx with hx | rfl
      · exact nd.2.2 _ hx _ (by simp)
      · omega
theorem TS.mono {J J' : Heap} {κ : List Nat} {v : AVal} {L : List (List Int)} (h : TS J κ v L) (hJ : ∀ q, q < J.length → J'[q]? = J[q]?) : TS J' κ v L := ⟨h.dat.congr fun q hq => hJ q (h.dat.lt q hq), h.nd⟩

def cpT (t : List (List Int)) : List (Nat × AVal) := [(6, tw t), (7, .int .i64 t.length)]
set_option maxHeartbeats 2000000 in
set_option maxRecDepth 20000 in
theorem copiedTable_fn (t : List (List Int)) (hl : t.length ≤ 1000000) (h0 : ∀ r ∈ t, r ≠ [] ∧ r.length ≤ 1000000) (ht : t ≠ []) : Go.Sx.Fn Try.prog n_curve_copiedTable [tw t] [] fun v H' => ∃ ι, Dat 5 H' ι v (tw t) ∧ ι.Nodup := by
  have e1 : tw t = tbC t := by unfold tbC; rw [if_neg ht]
  rw [e1]
  suffices h : Go.Sx.Fn Try.prog n_curve_copiedTable [tw t] [] fun v H' => ∃ ι, TS H' ι v t by
    rw [← e1]
    exact h.mono fun v H' ⟨ι, h⟩ => ⟨ι, by rw [e1]; exact h.dat, h.nd⟩
  clear e1
  refine run_fn e_curve_copiedTable fun G => ?_
  simp only [go_sem, tw, List.length_map]
  refine loop_ind k_curve_copiedTable_r7.eq_1 (fun q : Nat × Heap × AVal × List Nat => q.1 ≤ t.length ∧ TS q.2.1 q.2.2.2 q.2.2.1 (t.take q.1)) (fun q => t.length - q.1)
    (fun q => (tsets 19 (cpT t ++ [(3, q.2.2.1), (8, .int .i64 q.1)]), q.2.1)) (0, [], .nilsl, []) ⟨Nat.zero_le _, ⟨rfl, rfl, rfl⟩, by simp⟩ (by simp [go_sem, cpT, tw]) rfl ?_
  rintro ⟨i, J, v, κ⟩ ⟨hi, hT⟩ ih
  dsimp only at hi hT ih ⊢
  by_cases h1 : i < t.length
  · have h2 : (i : Int) < t.length := by omega
    have h3 := idx_next h1 (by omega)
    have m0 : ¬ (i : Int) < 0 := by omega
    obtain ⟨row, hr⟩ : ∃ r, t[i]? = some r := ⟨_, List.getElem?_eq_getElem h1⟩
    obtain ⟨r0, rl⟩ := h0 row (List.mem_of_getElem? hr)
    have kc := copied_run row rl r0
    simp only [vw] at kc
    have et : t.take (i + 1) = t.take i ++ [row] := by rw [List.take_add_one, hr]; rfl
    have lt : (t.take i).length = i := by rw [List.length_take]; omega
    by_cases i0 : i = 0
    · have e0 : t.take i = [] := by rw [i0]; rfl
      rw [e0] at hT et
      obtain ⟨ev, hn⟩ := hT.first
      subst ev
      simp only [go_sem, cpT, tw, h2, m0, hr, Int.toNat_natCast, List.length_map, vw]
      refine cN1 kc ?_
      simp only [go_sem, ren, h3]
      refine ⟨by decide, ?_⟩
      refine ih (i + 1, _, .sl (J.length + 2) 0 1, [J.length, J.length + 2]) (by omega) ⟨h1, ?_⟩ _ (by simp [go_sem, cpT, tw])
      dsimp only
      rw [et]
      exact hn _ _ _ row r0 (by omega) (by rw [List.getElem?_append_right (Nat.le_refl _), Nat.sub_self]; rfl) (by rw [get_new rfl]; rfl)
    · have L0 : t.take i ≠ [] := by intro e; rw [e] at lt; simp at lt; omega
      obtain ⟨r, vs, ev, g, al, hn⟩ := hT.next L0
      subst ev
      rw [lt] at al hn ⊢
      have hrl := (List.getElem?_eq_some_iff.1 g).1
      have a1 := fun Y => cells_more (cells_at g) Y
      have a2 := fun Y x => put_more (H := J) hrl Y x
      have z1 : (i + 1) * 24 ≤ 2 ^ 44 := by omega
      simp only [go_sem, cpT, tw, h2, m0, hr, Int.toNat_natCast, List.length_map, vw]
      refine cN1 kc ?_
      simp only [go_sem, ren, h3, a1, a2, al, z1]
      obtain ⟨κ', hk⟩ := hn (J.set r (some (Row.cells true 1 (vs ++ [AVal.sl J.length 0 row.length]))) ++ [some (Row.cells true 1 (ivL row)), some (Row.cells false 1 [AVal.sl J.length 0 row.length])]) J.length row r0 (Nat.le_refl _)
        (fun q hq hn => by rw [List.getElem?_append_left (by simpa using hq), List.getElem?_set_ne (fun e => hn e.symm)]) (by rw [List.getElem?_append_right (by simp)]; simp) (by rw [List.getElem?_append_left (by simpa using hrl), List.getElem?_set_self hrl])
      exact ih (i + 1, _, _, κ') (by omega) ⟨h1, by dsimp only; rw [et]; exact hk⟩ _ (by simp [go_sem, cpT, tw])
  · have h2 : ¬ (i : Int) < t.length := by omega
    have : t.take i = t := List.take_of_length_le (by omega)
    rw [this] at hT
    simp only [go_sem, cpT, h2]
    exact ⟨κ, hT⟩
theorem tw_pure (t : List (List Int)) (h0 : t ≠ []) (hr : ∀ r ∈ t, r ≠ []) : Pure 5 (tw t) := ⟨by simpa using h0, fun e he => by
  obtain ⟨x, hx, rfl⟩ := List.mem_map.1 he
  exact ⟨by simpa using hr x hx, fun e he => by obtain ⟨y, _, rfl⟩ := List.mem_map.1 he; rfl⟩⟩
theorem copiedTable_run (t : List (List Int)) (hl : t.length ≤ 1000000) (h0 : ∀ r ∈ t, r ≠ [] ∧ r.length ≤ 1000000) (ht : t ≠ []) : Ans Try.prog n_curve_copiedTable [tw t] [] (thaw 5 0 (tw t)).1 (thaw 5 0 (tw t)).2 :=
  ans_dat0 (tw_pure t ht fun r hr => (h0 r hr).1) (copiedTable_fn t hl h0 ht)
theorem thaw_tw (t : List (List Int)) (k : Nat) : ∃ a, (thaw 5 k (tw t)).1 = .sl a 0 t.length := by
  unfold tw
  simp only [thaw, mapk, List.length_map]
  exact ⟨_, rfl⟩
structure FaP (f : Fa) : Prop where
  g : f.g ≠ [] ∧ f.g.length ≤ 1000000
  p : f.p ≠ [] ∧ f.p.length ≤ 1000000
  lo : f.lo ≠ [] ∧ f.lo.length ≤ 1000000 ∧ ∀ r ∈ f.lo, r ≠ [] ∧ r.length ≤ 1000000
  hi : f.hi ≠ [] ∧ f.hi.length ≤ 1000000 ∧ ∀ r ∈ f.hi, r ≠ [] ∧ r.length ≤ 1000000
theorem FaP.pure {f : Fa} (h : FaP f) : Pure 6 (Fv f) := fv_pure h.g.1 h.p.1 h.lo.1 h.hi.1 (fun r hr => (h.lo.2.2 r hr).1) fun r hr => (h.hi.2.2 r hr).1
theorem _root_.Go.Fam.FaOK.faP {f : Fa} (h : FaOK f) : FaP f := by
  have gp := h.g.pos
  have pp := h.p.pos
  have gm := h.g.most
  have pm := h.p.most
  have hl := h.llen
  have hh := h.hlen
  have z : ∀ {α : Type} {l : List α} {n : Nat}, l.length = n → 1 ≤ n → l ≠ [] := fun e hn e' => by rw [e'] at e; simp at e; omega
  exact ⟨⟨z rfl gp, by omega⟩, ⟨z rfl pp, by omega⟩, ⟨z hl gp, by omega, fun r hr => ⟨z (h.lrow r hr) pp, by rw [h.lrow r hr]; omega⟩⟩, ⟨z hh gp, by omega, fun r hr => ⟨z (h.hrow r hr) pp, by rw [h.hrow r hr]; omega⟩⟩⟩
set_option maxHeartbeats 2000000 in
set_option maxRecDepth 20000 in
theorem Copy_fn {f : Fa} (h : FaP f) : Go.Sx.Fn Try.prog n_curve_Copy [Fv f] [] fun v H' => ∃ ι, Dat 6 H' ι v (Fv f) ∧ ι.Nodup := by
  have c1 := copied_run f.g h.g.2 h.g.1
  have c2 := copied_run f.p h.p.2 h.p.1
  have c3 := copiedTable_run f.lo h.lo.2.1 h.lo.2.2 h.lo.1
  have c4 := copiedTable_run f.hi h.hi.2.1 h.hi.2.2 h.hi.1
  have p3 := tw_pure f.lo h.lo.1 fun r hr => (h.lo.2.2 r hr).1
  have p4 := tw_pure f.hi h.hi.1 fun r hr => (h.hi.2.2 r hr).1
  simp only [vw] at c1 c2
  refine run_fn e_curve_Copy fun G => ?_
  simp only [go_sem, Fv, Fcs, vw, tw]
  refine dFN c1 6 [] ?_ ?_
  · exact ⟨.inl (by simp [frz, Function.comp_def]), trivial⟩
  simp only [go_sem, ren]
  refine dFN c2 6 [] ?_ ?_
  · exact ⟨.inl (by simp [frz, Function.comp_def]), trivial⟩
  simp only [go_sem, ren]
  refine dFD c3 p3 6 [] ?_ ?_
  · exact ⟨.inl (by simp [frz, vw, tw, Function.comp_def]), trivial⟩
  simp only [List.length_cons, List.length_nil, List.length_append, Nat.zero_add, Nat.reduceAdd]
  obtain ⟨a, ea⟩ := thaw_tw f.lo 4
  have hD := fun (A : Heap) (hA : A.length = 4) => thaw_dat (H := A ++ (thaw 5 4 (tw f.lo)).2) 4 p3 fun i hi => by rw [get_new hA]
  simp only [ea] at hD ⊢
  generalize (thaw 5 4 (tw f.lo)).2 = Y at *
  simp only [go_sem]
  refine cFD c4 p4 6 ?_ ?_
  · exact ⟨.inl (by simp [frz, vw, tw, Function.comp_def]), trivial⟩
  simp only [List.length_cons, List.length_nil, List.length_append, Nat.zero_add, Nat.reduceAdd]
  obtain ⟨b, eb⟩ := thaw_tw f.hi (Y.length + 1 + 1 + 1 + 1)
  have hD2 := fun (A : Heap) (hA : A.length = Y.length + 1 + 1 + 1 + 1) => thaw_dat (H := A ++ (thaw 5 (Y.length + 1 + 1 + 1 + 1) (tw f.hi)).2) (Y.length + 1 + 1 + 1 + 1) p4 fun i hi => by rw [get_new hA]
  simp only [eb] at hD2 ⊢
  generalize (thaw 5 (Y.length + 1 + 1 + 1 + 1) (tw f.hi)).2 = Z at *
  simp only [go_sem, List.append_assoc, List.cons_append, List.nil_append]
  obtain ⟨r1, hr1⟩ : ∃ r, some (Row.cells false 4 [AVal.agg [AVal.view (List.map (AVal.int IntKind.i64) f.g), AVal.view (List.map (AVal.int IntKind.i64) f.p), AVal.view (List.map vw f.lo), AVal.view (List.map vw f.hi)]]) = r := ⟨_, rfl⟩
  obtain ⟨r2, hr2⟩ : ∃ r, some (Row.cells false 4 [AVal.agg [AVal.sl 2 0 f.g.length, AVal.sl 3 0 f.p.length, AVal.sl a 0 f.lo.length, AVal.sl b 0 f.hi.length]]) = r := ⟨_, rfl⟩
  simp only [hr1, hr2]
  have k1 : Dat 5 (r1 :: r2 :: some (Row.cells true 1 (ivL f.g)) :: some (Row.cells true 1 (ivL f.p)) :: (Y ++ Z)) [2] (.sl 2 0 f.g.length) (vw f.g) := vw_put h.g.1 rfl rfl
  have k2 : Dat 5 (r1 :: r2 :: some (Row.cells true 1 (ivL f.g)) :: some (Row.cells true 1 (ivL f.p)) :: (Y ++ Z)) [3] (.sl 3 0 f.p.length) (vw f.p) := vw_put h.p.1 rfl rfl
  have k3 := (hD [r1, r2, some (Row.cells true 1 (ivL f.g)), some (Row.cells true 1 (ivL f.p))] rfl).app Z (fun r hr => by rw [upFrom_mem] at hr; simp; omega)
  have k4 := hD2 ([r1, r2, some (Row.cells true 1 (ivL f.g)), some (Row.cells true 1 (ivL f.p))] ++ Y) (by simp)
  refine ⟨[2] ++ ([3] ++ (upFrom 4 Y.length ++ (upFrom (Y.length + 1 + 1 + 1 + 1) Z.length ++ []))), ⟨_, rfl, [2], _, rfl, k1, [3], _, rfl, k2, upFrom 4 Y.length, _, rfl, k3, upFrom (Y.length + 1 + 1 + 1 + 1) Z.length, [], rfl, ?_, rfl⟩, ?_⟩
  · simp only [List.cons_append, List.nil_append, List.append_assoc] at k4
    exact k4
  · refine List.nodup_iff_count.2 fun x => ?_
    simp only [List.count_append, List.count_cons, List.count_nil, beq_iff_eq]
    have n3 := List.nodup_iff_count.1 (upFrom_nodup 4 Y.length) x
    have n4 := List.nodup_iff_count.1 (upFrom_nodup (Y.length + 1 + 1 + 1 + 1) Z.length) x
    have z3 : (upFrom 4 Y.length).count x = 0 ∨ (4 ≤ x ∧ x < 4 + Y.length) := by
      by_cases c : x ∈ upFrom 4 Y.length
      · exact .inr (upFrom_mem.1 c)
      · exact .inl (List.count_eq_zero.2 c)
    have z4 : (upFrom (Y.length + 1 + 1 + 1 + 1) Z.length).count x = 0 ∨ Y.length + 4 ≤ x := by
      by_cases c : x ∈ upFrom (Y.length + 1 + 1 + 1 + 1) Z.length
      · have := upFrom_mem.1 c; exact .inr (by omega)
      · exact .inl (List.count_eq_zero.2 c)
    split <;> split <;> omega
theorem Copy_run {f : Fa} (h : FaP f) : Ans Try.prog n_curve_Copy [Fv f] [] (thaw 6 0 (Fv f)).1 (thaw 6 0 (Fv f)).2 := ans_dat0 h.pure (Copy_fn h)
end Go.Proofs

namespace Go.Proofs
open Go Go.Sx Go.Fam

def mkR (n : Nat) (ψ : Nat → Int) : List Int := (List.range n).map ψ
def mkT (m n : Nat) (φ : Nat → Nat → Int) : List (List Int) := (List.range m).map fun i => mkR n (φ i)
theorem mkR_len (n : Nat) (ψ : Nat → Int) : (mkR n ψ).length = n := by simp [mkR]
theorem mkT_len (m n : Nat) (φ : Nat → Nat → Int) : (mkT m n φ).length = m := by simp [mkT]
theorem mkR_get {n k : Nat} (ψ : Nat → Int) (h : k < n) : (mkR n ψ)[k]? = some (ψ k) := by unfold mkR; rw [List.getElem?_map, List.getElem?_range h]; rfl
theorem mkT_get {m n i : Nat} (φ : Nat → Nat → Int) (h : i < m) : (mkT m n φ)[i]? = some (mkR n (φ i)) := by unfold mkT; rw [List.getElem?_map, List.getElem?_range h]; rfl
theorem mkR_set {n k : Nat} (ψ : Nat → Int) (x : Int) : (mkR n ψ).set k x = mkR n fun j => if j = k then x else ψ j := by
  refine List.ext_getElem? fun j => ?_
  rw [List.getElem?_set, mkR_len]
  by_cases c : j < n
  · rw [mkR_get _ c, mkR_get _ c]
    by_cases e : j = k
    · subst e; simp [c]
    · simp [e, Ne.symm e]
  · have e1 : (mkR n ψ)[j]? = none := List.getElem?_eq_none (by rw [mkR_len]; omega)
    have e2 : (mkR n fun j => if j = k then x else ψ j)[j]? = none := List.getElem?_eq_none (by rw [mkR_len]; omega)
    rw [e1, e2]
    split
    · rw [if_neg (by omega)]
    · rfl
theorem mkT_set {m n i : Nat} (φ : Nat → Nat → Int) (ψ : Nat → Int) : (mkT m n φ).set i (mkR n ψ) = mkT m n fun j => if j = i then ψ else φ j := by
  refine List.ext_getElem? fun j => ?_
  rw [List.getElem?_set, mkT_len]
  by_cases c : j < m
  · rw [mkT_get _ c, mkT_get _ c]
    by_cases e : j = i
    · subst e; simp [c]
    · simp [e, Ne.symm e]
  · have e1 : (mkT m n φ)[j]? = none := List.getElem?_eq_none (by rw [mkT_len]; omega)
    have e2 : (mkT m n fun j => if j = i then ψ else φ j)[j]? = none := List.getElem?_eq_none (by rw [mkT_len]; omega)
    rw [e1, e2]
    split
    · rw [if_neg (by omega)]
    · rfl
theorem mkR_congr {n : Nat} {ψ ψ' : Nat → Int} (h : ∀ k, k < n → ψ k = ψ' k) : mkR n ψ = mkR n ψ' := List.map_congr_left fun k hk => h k (List.mem_range.1 hk)
theorem mkT_congr {m n : Nat} {φ φ' : Nat → Nat → Int} (h : ∀ i k, i < m → k < n → φ i k = φ' i k) : mkT m n φ = mkT m n φ' := List.map_congr_left fun i hi => mkR_congr fun k hk => h i k (List.mem_range.1 hi) hk
theorem mkT_tg {m n i k : Nat} (φ : Nat → Nat → Int) (hi : i < m) (hk : k < n) : tg (mkT m n φ) i k = φ i k := by
  rw [tg_get (mkT_get φ hi)]
  unfold at1
  rw [List.getD_eq_getElem?_getD, mkR_get _ hk]; rfl
theorem mkT_of {m n : Nat} {t : List (List Int)} (h : Tab m n t) : t = mkT m n (tg t) := by
  refine List.ext_getElem? fun i => ?_
  by_cases c : i < m
  · obtain ⟨r, hr, hl⟩ := h.row i c
    rw [hr, mkT_get _ c]
    congr 1
    refine List.ext_getElem? fun k => ?_
    by_cases d : k < n
    · rw [mkR_get _ d, tg_get hr, get_at (by omega)]
    · rw [List.getElem?_eq_none (by omega), List.getElem?_eq_none (by rw [mkR_len]; omega)]
  · rw [List.getElem?_eq_none (by rw [h.len]; omega), List.getElem?_eq_none (by rw [mkT_len]; omega)]
def mixF (op : Int → Int → Int) (a b : Nat → Nat → Int) (i k : Nat) : Nat → Nat → Int := fun i' k' => if i' < i ∨ (i' = i ∧ k' < k) then op (a i' k') (b i' k') else a i' k'
theorem mixF_at (op : Int → Int → Int) (a b : Nat → Nat → Int) (i k : Nat) : mixF op a b i k i k = a i k := by unfold mixF; rw [if_neg (by omega)]
theorem mixF_step (op : Int → Int → Int) (a b : Nat → Nat → Int) {m n i k : Nat} (hi : i < m) (hk : k < n) :
    (mkT m n (mixF op a b i k)).set i ((mkR n (mixF op a b i k i)).set k (op (a i k) (b i k))) = mkT m n (mixF op a b i (k + 1)) := by
  rw [mkR_set, mkT_set]
  refine mkT_congr fun i' k' _ _ => ?_
  unfold mixF
  by_cases c : i' = i
  · subst c
    rw [if_pos rfl]
    by_cases d : k' = k
    · subst d; rw [if_pos rfl, if_pos (by omega)]
    · rw [if_neg d]
      by_cases e : k' < k
      · rw [if_pos (by omega), if_pos (by omega)]
      · rw [if_neg (by omega), if_neg (by omega)]
  · rw [if_neg c]
    by_cases e : i' < i
    · rw [if_pos (.inl e), if_pos (.inl e)]
    · rw [if_neg (by omega), if_neg (by omega)]
theorem mixF_row (op : Int → Int → Int) (a b : Nat → Nat → Int) (m n i : Nat) : mkT m n (mixF op a b i n) = mkT m n (mixF op a b (i + 1) 0) := mkT_congr fun i' k' _ hk => by
  unfold mixF
  by_cases c : i' < i ∨ (i' = i ∧ k' < n)
  · rw [if_pos c, if_pos (by omega)]
  · rw [if_neg c, if_neg (by omega)]
theorem mixF_end (op : Int → Int → Int) (a b : Nat → Nat → Int) (m n : Nat) : mkT m n (mixF op a b m 0) = mkT m n fun i k => op (a i k) (b i k) := mkT_congr fun i' k' hi _ => by
  unfold mixF; rw [if_pos (.inl hi)]
theorem mixF_start (op : Int → Int → Int) (a b : Nat → Nat → Int) (m n : Nat) : mkT m n (mixF op a b 0 0) = mkT m n a := mkT_congr fun i' k' hi _ => by
  unfold mixF; rw [if_neg (by omega)]
def hj (a b : Fa) : Fa := ⟨a.g, a.p, mkT a.g.length a.p.length fun i k => mn (tg a.lo i k) (tg b.lo i k), mkT a.g.length a.p.length fun i k => mx (tg a.hi i k) (tg b.hi i k)⟩
theorem mn_or (a b : Int) : (mn a b ≤ a ∧ mn a b ≤ b) ∧ (mn a b = a ∨ mn a b = b) := by unfold mn; split <;> omega
theorem mx_or2 (a b : Int) : (a ≤ mx a b ∧ b ≤ mx a b) ∧ (mx a b = a ∨ mx a b = b) := by unfold mx; split <;> omega
theorem hj_ok {a b : Fa} (ha : FaOK a) (hb : FaOK b) (hg : b.g = a.g) (hp : b.p = a.p) : FaOK (hj a b) ∧ InF a (hj a b) ∧ InF b (hj a b) := by
  have el : ∀ i k, i < a.g.length → k < a.p.length → tg (hj a b).lo i k = mn (tg a.lo i k) (tg b.lo i k) := fun i k h1 h2 => mkT_tg _ h1 h2
  have eh : ∀ i k, i < a.g.length → k < a.p.length → tg (hj a b).hi i k = mx (tg a.hi i k) (tg b.hi i k) := fun i k h1 h2 => mkT_tg _ h1 h2
  have bl : b.g.length = a.g.length := by rw [hg]
  have bp : b.p.length = a.p.length := by rw [hp]
  have rows : ∀ {φ : Nat → Nat → Int}, ∀ r ∈ mkT a.g.length a.p.length φ, r.length = a.p.length := fun r hr => by
    obtain ⟨x, _, rfl⟩ := List.mem_map.1 hr; exact mkR_len _ _
  have M := fun i k => mn_or (tg a.lo i k) (tg b.lo i k)
  have X := fun i k => mx_or2 (tg a.hi i k) (tg b.hi i k)
  refine ⟨⟨ha.g, ha.p, mkT_len _ _ _, mkT_len _ _ _, rows, rows, fun i k h1 h2 => ?_, fun i k h1 h2 => ?_, fun i k h1 h2 => ?_⟩, ⟨rfl, rfl, fun i k h1 h2 => ?_⟩, ⟨hg, hp, fun i k h1 h2 => ?_⟩⟩
  · have h1 : i < a.g.length := h1
    have h2 : k < a.p.length := h2
    rw [el i k h1 h2, eh i k h1 h2]
    have := ha.inn i k h1 h2
    have := hb.inn i k (by omega) (by omega)
    have := M i k
    have := X i k
    omega
  · have h1 : i < a.g.length := h1
    have h2 : k + 1 < a.p.length := h2
    rw [el i k h1 (by omega), eh i k h1 (by omega), el i (k + 1) h1 h2, eh i (k + 1) h1 h2]
    have := ha.right i k h1 h2
    have := hb.right i k (by omega) (by omega)
    have := M i k
    have := X i k
    have := M i (k + 1)
    have := X i (k + 1)
    omega
  · have h1 : i + 1 < a.g.length := h1
    have h2 : k < a.p.length := h2
    rw [el i k (by omega) h2, eh i k (by omega) h2, el (i + 1) k h1 h2, eh (i + 1) k h1 h2]
    have := ha.up i k h1 h2
    have := hb.up i k (by omega) (by omega)
    have := M i k
    have := X i k
    have := M (i + 1) k
    have := X (i + 1) k
    omega
  · have h1 : i < a.g.length := h1
    have h2 : k < a.p.length := h2
    rw [el i k h1 h2, eh i k h1 h2]
    exact ⟨(M i k).1.1, (X i k).1.1⟩
  · have h1 : i < a.g.length := h1
    have h2 : k < a.p.length := h2
    rw [el i k h1 h2, eh i k h1 h2]
    exact ⟨(M i k).1.2, (X i k).1.2⟩
theorem InF.trans {a b c : Fa} (h1 : InF a b) (h2 : InF b c) : InF a c := ⟨h1.g.trans h2.g, h1.p.trans h2.p, fun i k hi hk => by
  have e1 := h2.inn i k hi hk
  have e2 := h1.inn i k (by rw [h2.g]; exact hi) (by rw [h2.p]; exact hk)
  omega⟩
theorem InF.refl (a : Fa) : InF a a := ⟨rfl, rfl, fun _ _ _ _ => ⟨Int.le_refl _, Int.le_refl _⟩⟩
theorem fa_tabs {f : Fa} (h : FaOK f) : f.lo = mkT f.g.length f.p.length (tg f.lo) ∧ f.hi = mkT f.g.length f.p.length (tg f.hi) := ⟨mkT_of h.tabs.1, mkT_of h.tabs.2.1⟩
theorem InF.anti {a b : Fa} (ha : FaOK a) (hb : FaOK b) (h1 : InF a b) (h2 : InF b a) : a = b := by
  obtain ⟨e1, e2⟩ := fa_tabs ha
  obtain ⟨e3, e4⟩ := fa_tabs hb
  have eg := h1.g
  have ep := h1.p
  have el : a.lo = b.lo := by
    rw [e1, e3, eg, ep]
    exact mkT_congr fun i k hi hk => by
      have := h1.inn i k hi hk
      have := h2.inn i k (by rw [eg]; exact hi) (by rw [ep]; exact hk)
      omega
  have eh : a.hi = b.hi := by
    rw [e2, e4, eg, ep]
    exact mkT_congr fun i k hi hk => by
      have := h1.inn i k hi hk
      have := h2.inn i k (by rw [eg]; exact hi) (by rw [ep]; exact hk)
      omega
  have ext : ∀ {a b : Fa}, a.g = b.g → a.p = b.p → a.lo = b.lo → a.hi = b.hi → a = b := fun {a b} h1 h2 h3 h4 => by cases a; cases b; cases h1; cases h2; cases h3; cases h4; rfl
  exact ext eg ep el eh
def hullGo (f0 : Fa) : List Fa → Int
  | [] => 0
  | f :: r => if famE f = 0 then (if f.g = f0.g ∧ f.p = f0.p then hullGo f0 r else 3) else famE f
def hullE (l : List Fa) : Int := match l with | [] => 6 | f0 :: r => if 40 < (f0 :: r).length then 8 else hullGo f0 (f0 :: r)
def hullTo (f0 : Fa) (r : List Fa) : Fa := r.foldl hj f0
def HuOK (f0 : Fa) (l : List Fa) : Prop := ∀ f ∈ l, FaOK f ∧ f.g = f0.g ∧ f.p = f0.p
theorem hullGo_ok {f0 : Fa} : ∀ {l : List Fa}, hullGo f0 l = 0 ↔ HuOK f0 l
  | [] => by simp [hullGo, HuOK]
  | f :: r => by
    have ih := hullGo_ok (f0 := f0) (l := r)
    unfold hullGo
    constructor
    · intro h
      split at h
      · rename_i h1
        split at h
        · rename_i h2
          intro x hx
          rcases List.mem_cons.1 hx with rfl | hx
          · exact ⟨fam_iff.1 h1, h2⟩
          · exact ih.1 h x hx
        · cases h
      · rename_i h1; exact absurd h h1
    · intro h
      have h0 := h f (by simp)
      rw [if_pos (fam_iff.2 h0.1), if_pos h0.2]
      exact ih.2 fun x hx => h x (List.mem_cons_of_mem _ hx)
theorem hullTo_ok {f0 : Fa} (h0 : FaOK f0) : ∀ {r : List Fa}, HuOK f0 r → FaOK (hullTo f0 r) ∧ (hullTo f0 r).g = f0.g ∧ (hullTo f0 r).p = f0.p ∧ InF f0 (hullTo f0 r) ∧ ∀ f ∈ r, InF f (hullTo f0 r) := by
  intro r
  suffices H : ∀ (r : List Fa) (a : Fa), FaOK a → a.g = f0.g → a.p = f0.p → HuOK f0 r → FaOK (r.foldl hj a) ∧ (r.foldl hj a).g = f0.g ∧ (r.foldl hj a).p = f0.p ∧ InF a (r.foldl hj a) ∧ ∀ f ∈ r, InF f (r.foldl hj a) from fun h => H r f0 h0 rfl rfl h
  intro r
  induction r with
  | nil => intro a ha hg hp _; exact ⟨ha, hg, hp, InF.refl a, by simp⟩
  | cons f r ih =>
    intro a ha hg hp h
    obtain ⟨hf, fg, fp⟩ := h f (by simp)
    obtain ⟨k1, k2, k3⟩ := hj_ok ha hf (fg.trans hg.symm) (fp.trans hp.symm)
    obtain ⟨m1, m2, m3, m4, m5⟩ := ih (hj a f) k1 hg hp fun x hx => h x (List.mem_cons_of_mem _ hx)
    refine ⟨m1, m2, m3, k2.trans m4, fun x hx => ?_⟩
    rcases List.mem_cons.1 hx with rfl | hx
    · exact k3.trans m4
    · exact m5 x hx
end Go.Proofs

namespace Go.Proofs
open Go Go.Sx Go.Fam
attribute [local irreducible] Run

def nils4 : AVal := .agg [.nilsl, .nilsl, .nilsl, .nilsl]
def huL (l : List Fa) : AVal := .view (l.map Fv)
def huC (f : Fa) : AVal := .tup [Fv f, .int .i64 0]
def hT (l : List Fa) : List (Nat × AVal) := [(0, huL l), (2, .ptr 0 0 0 1), (3, .int .i64 0), (20, huL l), (21, .int .i64 l.length)]
def FaLs (l : List Fa) : Prop := ∀ f ∈ l, f.g.length ≤ 1000000 ∧ f.p.length ≤ 1000000 ∧ f.lo.length ≤ 1000000 ∧ f.hi.length ≤ 1000000
theorem hullGo_bad {f0 : Fa} : ∀ {l : List Fa} {i : Nat} {f : Fa}, (∀ j g, j < i → l[j]? = some g → famE g = 0 ∧ g.g = f0.g ∧ g.p = f0.p) → l[i]? = some f → ¬ (famE f = 0 ∧ f.g = f0.g ∧ f.p = f0.p) → hullGo f0 l = if famE f = 0 then 3 else famE f
  | [], i, f, _, hf, _ => by simp at hf
  | g :: l, 0, f, _, hf, hn => by
    simp at hf; subst hf
    unfold hullGo
    by_cases c : famE g = 0
    · rw [if_pos c, if_pos c, if_neg (fun h => hn ⟨c, h⟩)]
    · rw [if_neg c, if_neg c]
  | g :: l, i + 1, f, h, hf, hn => by
    obtain ⟨h1, h2⟩ := h 0 g (by omega) rfl
    unfold hullGo
    rw [if_pos h1, if_pos h2]
    exact hullGo_bad (i := i) (fun j x hj hx => h (j + 1) x (by omega) (by simpa using hx)) (by simpa using hf) hn
theorem hullE_of {l : List Fa} {f0 : Fa} (h : l[0]? = some f0) : hullE l = if 40 < l.length then 8 else hullGo f0 l := by
  cases l with
  | nil => simp at h
  | cons a r => simp at h; subst h; rfl
def HuPost (l : List Fa) (f0 : Fa) (v : AVal) (H' : Heap) : Prop := (hullE l ≠ 0 ∧ v = .tup [nils4, .int .i64 (hullE l)]) ∨ (hullE l = 0 ∧ ∃ ι, Dat 7 H' ι v (huC (hullTo f0 (l.drop 1))) ∧ ι.Nodup)

structure HuI (m : Nat) (ι : List Nat) (v0 v1 v2 v3 : AVal) (J : Heap) (F : Fa) : Prop where
  r0 : J[0]? = some (some (.cells false 4 [nils4]))
  rm : J[m]? = some (some (.cells false 4 [.agg [v0, v1, v2, v3]]))
  dat : Dat 6 J ι (.agg [v0, v1, v2, v3]) (Fv F)
theorem HuI.more {m : Nat} {ι : List Nat} {v0 v1 v2 v3 : AVal} {J : Heap} {F : Fa} (h : HuI m ι v0 v1 v2 v3 J F) (Y : Heap) : HuI m ι v0 v1 v2 v3 (J ++ Y) F :=
  ⟨by rw [List.getElem?_append_left (List.getElem?_eq_some_iff.1 h.r0).1]; exact h.r0, by rw [List.getElem?_append_left (List.getElem?_eq_some_iff.1 h.rm).1]; exact h.rm, h.dat.app Y fun r hr => h.dat.lt r hr⟩
theorem fam_lines {J : Heap} {ι : List Nat} {F : Fa} {a b n n' : Nat} {v2 v3 : AVal} (h : Dat 6 J ι (.agg [.sl a 0 n, .sl b 0 n', v2, v3]) (Fv F)) : J.cellsAt a = some (true, 1, ivL F.g) ∧ J.cellsAt b = some (true, 1, ivL F.p) := by
  obtain ⟨vs, ev, hx⟩ := h
  cases ev
  obtain ⟨κ0, κa, e0, d0, hx⟩ := (show All3 (Dat 5 _) _ [_, _, _, _] [vw F.g, vw F.p, tw F.lo, tw F.hi] from hx)
  obtain ⟨κ1, κb, e1, d1, hx⟩ := hx
  obtain ⟨_, q, eq, -, hq⟩ := vw_get d0
  obtain ⟨_, q', eq', -, hq'⟩ := vw_get d1
  cases eq; cases eq'
  exact ⟨cells_at hq, cells_at hq'⟩
def hMix (A f : Fa) (i k : Nat) : Fa := ⟨A.g, A.p, mkT A.g.length A.p.length (mixF mn (tg A.lo) (tg f.lo) i k), mkT A.g.length A.p.length (mixF mx (tg A.hi) (tg f.hi) i k)⟩
theorem hMix_start {A : Fa} (hA : FaOK A) (f : Fa) : hMix A f 0 0 = A := by
  obtain ⟨e1, e2⟩ := fa_tabs hA
  unfold hMix
  rw [mixF_start, mixF_start, ← e1, ← e2]
theorem hMix_row (A f : Fa) (i : Nat) : hMix A f i A.p.length = hMix A f (i + 1) 0 := by unfold hMix; rw [mixF_row, mixF_row]
theorem hMix_end (A f : Fa) : hMix A f A.g.length 0 = hj A f := by unfold hMix hj; rw [mixF_end, mixF_end]
theorem hullTo_snoc (f0 f : Fa) (r : List Fa) : hullTo f0 (r ++ [f]) = hj (hullTo f0 r) f := by unfold hullTo; rw [List.foldl_append]; rfl
def hU (l : List Fa) (m : Nat) : List (Nat × AVal) := [(2, .ptr 0 0 0 1), (7, .ptr m 0 0 1), (57, huL (l.drop 1)), (58, .int .i64 (l.length - 1 : Nat))]
theorem e_mn (a b : Int) : (if b < a then b else a) = mn a b := rfl
set_option maxHeartbeats 8000000 in
set_option maxRecDepth 20000 in
theorem Hull_fn (l : List Fa) (f0 : Fa) (h0 : l[0]? = some f0) (hl : FaLs l) (hn : l.length ≤ 1000000) : Go.Sx.Fn Try.prog n_curve_Hull [huL l] [] (HuPost l f0) := by
  have npos : 0 < l.length := (List.getElem?_eq_some_iff.1 h0).1
  have c0 : ((l.length : Int) == 0) = false := beq_eq_false_iff_ne.2 (by omega)
  refine run_fn e_curve_Hull fun G => ?_
  by_cases c : 40 < l.length
  · have eE : hullE l = 8 := by rw [hullE_of h0, if_pos c]
    have c2 : (l.length : Int) > 40 := by omega
    simp only [go_sem, huL, List.length_map, c0, c2]
    exact .inl ⟨by rw [eE]; decide, by rw [eE]; rfl⟩
  have c2 : ¬ (l.length : Int) > 40 := by omega
  have eE : hullE l = hullGo f0 l := by rw [hullE_of h0, if_neg c]
  simp only [go_sem, huL, List.length_map, c0, c2]
  refine loop_ind k_curve_Hull_r14.eq_1 (fun q : Nat × Heap => q.1 ≤ l.length ∧ q.2[0]? = some (some (.cells false 4 [nils4])) ∧ ∀ j g, j < q.1 → l[j]? = some g → famE g = 0 ∧ g.g = f0.g ∧ g.p = f0.p) (fun q => l.length - q.1)
    (fun q => (tsets 127 (hT l ++ [(22, .int .i64 q.1)]), q.2)) (0, [some (.cells false 4 [nils4])]) ⟨Nat.zero_le _, rfl, fun j g h => by omega⟩ (by simp [go_sem, hT, huL]) (by simp [nils4]) ?_
  rintro ⟨i, J⟩ ⟨hi, hJ, hA⟩ ih
  dsimp only at hi hJ hA ih ⊢
  have d0 := cells_at hJ
  simp only [nils4] at d0
  have lt0 := (List.getElem?_eq_some_iff.1 hJ).1
  by_cases h1 : i < l.length
  · have h2 : (i : Int) < l.length := by omega
    have h3 := idx_next h1 (by omega)
    have m0 : ¬ (i : Int) < 0 := by omega
    obtain ⟨f, hf⟩ : ∃ f, l[i]? = some f := ⟨_, List.getElem?_eq_getElem h1⟩
    obtain ⟨l1, l2, l3, l4⟩ := hl f (List.mem_of_getElem? hf)
    have kc := Check_run f l1 l2 l3 l4
    have k1 := pEqual_run f.g f0.g (by omega)
    have k2 := pEqual_run f.p f0.p (by omega)
    have e0 := fun Y => cells_more d0 Y
    have p0 := fun Y x => put_more (H := J) lt0 Y x
    have s0 := fun g sz es Y => cells_more (H := J.set 0 (some (Row.cells g sz es))) (j := 0) (cells_at (List.getElem?_set_self lt0)) Y
    simp only [Fv, Fcs, vw, tw] at kc
    simp only [vw] at k1 k2
    have z0 : ¬ (0 : Int) < 0 := by decide
    simp only [go_sem, hT, huL, h2, m0, hf, Int.toNat_natCast, List.length_map, Fv, Fcs, vw, tw]
    refine cP kc ?_
    by_cases c3 : famE f = 0
    · rw [c3]
      simp only [go_sem, h0, z0, Fv, Fcs, vw, tw]
      refine cP k1 ?_
      by_cases c4 : f.g = f0.g
      · rw [decide_eq_true c4]
        simp only [go_sem, h0, z0, Fv, Fcs, vw, tw]
        refine cP k2 ?_
        by_cases c5 : f.p = f0.p
        · rw [decide_eq_true c5]
          simp only [go_sem, h3]
          refine ih (i + 1, _) (by omega) ⟨h1, by rw [List.getElem?_append_left lt0]; exact hJ, fun j g hj hg => ?_⟩ _ (by simp [go_sem, hT, huL])
          by_cases c6 : j < i
          · exact hA j g c6 hg
          · obtain rfl : j = i := by omega
            rw [hf] at hg; cases hg
            exact ⟨c3, c4, c5⟩
        · rw [decide_eq_false c5]
          have eh := hullGo_bad hA hf (fun h => c5 h.2.2)
          rw [if_pos c3] at eh
          simp only [go_sem, e0, p0, s0]
          exact .inl ⟨by rw [eE, eh]; decide, by rw [eE, eh]; rfl⟩
      · rw [decide_eq_false c4]
        have eh := hullGo_bad hA hf (fun h => c4 h.2.1)
        rw [if_pos c3] at eh
        simp only [go_sem, e0, p0, s0]
        exact .inl ⟨by rw [eE, eh]; decide, by rw [eE, eh]; rfl⟩
    · have b1 : (famE f == 0) = false := beq_eq_false_iff_ne.2 c3
      have eh := hullGo_bad hA hf (fun h => c3 h.1)
      rw [if_neg c3] at eh
      simp only [go_sem, bne, b1, e0, p0, s0]
      exact .inl ⟨by rw [eE, eh]; exact c3, by rw [eE, eh]; rfl⟩
  · have h2 : ¬ (i : Int) < l.length := by omega
    clear ih
    have hok : HuOK f0 l := fun f hf => by
      obtain ⟨j, hj⟩ := List.mem_iff_getElem?.1 hf
      have := (List.getElem?_eq_some_iff.1 hj).1
      obtain ⟨a, b⟩ := hA j f (by omega) hj
      exact ⟨fam_iff.1 a, b⟩
    have hz : hullE l = 0 := by rw [eE]; exact hullGo_ok.2 hok
    have h0k := (hok f0 (List.mem_of_getElem? h0)).1
    have kc := Copy_run h0k.faP
    have pc := h0k.faP.pure
    have z0 : ¬ (0 : Int) < 0 := by decide
    simp only [go_sem, hT, huL, h2, h0, z0, List.length_map, Fv, Fcs, vw, tw]
    refine cFD kc pc 6 ⟨.inl (by simp [frz, Fv, Fcs, vw, tw, Function.comp_def]), trivial⟩ ?_
    obtain ⟨a, b, c', d, e⟩ := thaw_fv f0 J.length
    have hD := fun (R : Heap) => (thaw_dat (H := J ++ (thaw 6 J.length (Fv f0)).2) J.length pc fun i hi => by rw [get_new rfl]).app R (fun r hr => by rw [upFrom_mem] at hr; simp; omega)
    simp only [e] at hD ⊢
    generalize (thaw 6 J.length (Fv f0)).2 = Y at *
    simp only [go_sem, h2, List.length_map, List.append_assoc, List.length_append]
    refine ⟨by omega, by rw [List.all_eq_true]; intro e he; obtain ⟨x, -, rfl⟩ := List.mem_map.1 he; rfl, ?_⟩
    have hL : J.length + Y.length ≠ 0 := by omega
    have hnd := upFrom_nodup J.length Y.length
    have h0ι : 0 ∉ upFrom J.length Y.length := fun h => by have := upFrom_mem.1 h; omega
    have hmι : J.length + Y.length ∉ upFrom J.length Y.length := fun h => by have := upFrom_mem.1 h; omega
    have hI0 : HuI (J.length + Y.length) (upFrom J.length Y.length) (.sl a 0 f0.g.length) (.sl b 0 f0.p.length) (.sl c' 0 f0.lo.length) (.sl d 0 f0.hi.length) (J ++ (Y ++ [some (Row.cells false 4 [AVal.agg [AVal.sl a 0 f0.g.length, AVal.sl b 0 f0.p.length, AVal.sl c' 0 f0.lo.length, AVal.sl d 0 f0.hi.length]])])) f0 := by
      refine ⟨by rw [List.getElem?_append_left lt0]; exact hJ, ?_, ?_⟩
      · rw [← List.append_assoc, List.getElem?_append_right (by simp)]; simp
      · rw [← List.append_assoc]; exact hD _
    generalize upFrom J.length Y.length = ι at *
    generalize J.length + Y.length = m at *
    have hll : f0.lo.length = f0.g.length := h0k.llen
    have hhl : f0.hi.length = f0.g.length := h0k.hlen
    rw [hll, hhl] at hI0
    have gm := h0k.g.most
    have pm := h0k.p.most
    have gp := h0k.g.pos
    have pp := h0k.p.pos
    refine loop_ind k_curve_Hull_r32.eq_1 (fun q : Nat × Heap => q.1 ≤ l.length - 1 ∧ HuI m ι (.sl a 0 f0.g.length) (.sl b 0 f0.p.length) (.sl c' 0 f0.g.length) (.sl d 0 f0.g.length) q.2 (hullTo f0 ((l.drop 1).take q.1))) (fun q => l.length - 1 - q.1)
      (fun q => (tsets 127 (hU l m ++ [(59, .int .i64 q.1)]), q.2)) (0, _) ⟨Nat.zero_le _, hI0⟩ (by simp [go_sem, hU, huL]; exact (List.take_of_length_le (by simp)).symm) (by simp [hll, hhl]) ?_
    clear hI0 hD hJ hA kc pc d0 lt0 e
    rintro ⟨j, J⟩ ⟨hjl, hI⟩ ih
    dsimp only at hjl hI ih ⊢
    by_cases j1 : j < l.length - 1
    · have j2 : (j : Int) < ((l.length - 1 : Nat) : Int) := by omega
      have j3 := idx_next j1 (by omega)
      have mj : ¬ (j : Int) < 0 := by omega
      have hlen : (l.drop 1).length = l.length - 1 := List.length_drop
      obtain ⟨f, hf⟩ : ∃ f, (l.drop 1)[j]? = some f := ⟨_, List.getElem?_eq_getElem (by omega)⟩
      obtain ⟨fok, fg, fp⟩ := hok f (List.mem_of_mem_drop (List.mem_of_getElem? hf))
      obtain ⟨Aok, Ag, Ap, -, -⟩ := hullTo_ok h0k (r := (l.drop 1).take j) fun x hx => hok x (List.mem_of_mem_drop (List.mem_of_mem_take hx))
      have esn : hullTo f0 ((l.drop 1).take (j + 1)) = hj (hullTo f0 ((l.drop 1).take j)) f := by
        rw [List.take_add_one, hf]; exact hullTo_snoc _ _ _
      have ihn := fun J' hh => ih (j + 1, J') (by omega) ⟨by omega, hh⟩
      clear ih
      dsimp only at ihn
      rw [esn] at ihn
      clear esn
      generalize hullTo f0 ((l.drop 1).take j) = A at *
      have gl : A.g.length = f0.g.length := by rw [Ag]
      have pl : A.p.length = f0.p.length := by rw [Ap]
      rw [← gl, ← pl] at hI ihn
      have fgl : f.g.length = A.g.length := by rw [fg, Ag]
      have fpl : f.p.length = A.p.length := by rw [fp, Ap]
      have d0 := cells_at hI.r0
      have cm := fun Y => cells_more (cells_at hI.rm) Y
      have cg := fun Y => cells_more (fam_lines hI.dat).1 Y
      have hI1 := hI.more [some (Row.cells false 4 [Fv f])]
      have hfb : (J ++ [some (Row.cells false 4 [Fv f])])[J.length]? = some (some (.cells false 4 [Fv f])) := by rw [List.getElem?_append_right (Nat.le_refl _), Nat.sub_self]; rfl
      have hbx : J.length ∉ ι := fun h => by have := hI.dat.lt _ h; omega
      rw [← hMix_start Aok f] at hI1
      simp only [go_sem, hU, huL, j2, mj, hf, Int.toNat_natCast, List.length_map, hlen, Fv, Fcs, vw, tw, cm, cg]
      generalize J.length = bx at *
      refine loop_ind k_curve_Hull_r30.eq_1 (fun q : Nat × Heap => q.1 ≤ A.g.length ∧ HuI m ι (.sl a 0 A.g.length) (.sl b 0 A.p.length) (.sl c' 0 A.g.length) (.sl d 0 A.g.length) q.2 (hMix A f q.1 0) ∧ q.2[bx]? = some (some (.cells false 4 [Fv f]))) (fun q => A.g.length - q.1)
        (fun q => (tsets 127 (hU l m ++ [(59, .int .i64 j), (9, .ptr bx 0 0 1), (65, .int .i64 A.g.length), (66, .int .i64 q.1)]), q.2)) (0, _) ⟨Nat.zero_le _, hI1, hfb⟩ (by simp [go_sem, hU, huL]) (by simp [Fv, Fcs, vw, tw]) ?_
      clear hI1 hfb cm cg hI d0
      rintro ⟨i, J⟩ ⟨hi2, hI, hfb⟩ ihi
      dsimp only at hi2 hI hfb ihi ⊢
      have cm := cells_at hI.rm
      have cp := (fam_lines hI.dat).2
      by_cases i1 : i < A.g.length
      · have i2 : (i : Int) < A.g.length := by omega
        have i3 := idx_next i1 (by omega)
        have mi : ¬ (i : Int) < 0 := by omega
        have cpl : (ivL (hMix A f i 0).p).length = A.p.length := by rw [List.length_map]; rfl
        simp only [go_sem, hU, huL, i2, cm, cp, cpl]
        refine loop_ind k_curve_Hull_r28.eq_1 (fun q : Nat × Heap => q.1 ≤ A.p.length ∧ HuI m ι (.sl a 0 A.g.length) (.sl b 0 A.p.length) (.sl c' 0 A.g.length) (.sl d 0 A.g.length) q.2 (hMix A f i q.1) ∧ q.2[bx]? = some (some (.cells false 4 [Fv f]))) (fun q => A.p.length - q.1)
          (fun q => (tsets 127 (hU l m ++ [(59, .int .i64 j), (9, .ptr bx 0 0 1), (10, .int .i64 i), (65, .int .i64 A.g.length), (66, .int .i64 i), (71, .int .i64 A.p.length), (72, .int .i64 q.1)]), q.2)) (0, J) ⟨Nat.zero_le _, hI, hfb⟩ (by simp [go_sem, hU, huL]) rfl ?_
        clear hI hfb cm cp cpl
        rintro ⟨k, J⟩ ⟨hk2, hI, hfb⟩ ihk
        dsimp only at hk2 hI hfb ihk ⊢
        by_cases k1 : k < A.p.length
        · have k2 : (k : Int) < A.p.length := by omega
          have k3 := idx_next k1 (by omega)
          have mk : ¬ (k : Int) < 0 := by omega
          have ihn := fun J' hh => ihk (k + 1, J') (by omega) ⟨k1, hh⟩
          clear ihk
          dsimp only at ihn
          have cm := cells_at hI.rm
          have cf := cells_at hfb
          simp only [Fv, Fcs, vw, tw] at cf
          obtain ⟨tL, tH, sL, sH⟩ := fok.tabs
          obtain ⟨rl, hrl, ll⟩ := tL.row i (by omega)
          obtain ⟨rh, hrh, lh⟩ := tH.row i (by omega)
          have y1 := get_at (l := rl) (i := k) (by omega)
          have y2 := get_at (l := rh) (i := k) (by omega)
          rw [← tg_get hrl] at y1
          rw [← tg_get hrh] at y2
          obtain ⟨r, s, vs, us, q, t, e2, e3, gr, gs, lv, lu, gi, gj, gq, gt, hq, ht, hqt, up⟩ := fam_upd hI.dat hnd (mkT_get _ i1) (mkT_get _ i1)
          rw [mkT_len] at e2 e3 lv lu
          cases e2; cases e3
          rw [mkR_len] at gi gj
          have w1 := mkR_get (mixF mn (tg A.lo) (tg f.lo) i k i) k1
          have w2 := mkR_get (mixF mx (tg A.hi) (tg f.hi) i k i) k1
          rw [mixF_at] at w1 w2
          have w3 := mkR_len A.p.length (mixF mn (tg A.lo) (tg f.lo) i k i)
          have w4 := mkR_len A.p.length (mixF mx (tg A.hi) (tg f.hi) i k i)
          have hql := (List.getElem?_eq_some_iff.1 gq).1
          have htl := (List.getElem?_eq_some_iff.1 gt).1
          have nq : ∀ a, a ∉ ι → a ≠ q ∧ a ≠ t := fun a ha => ⟨by rintro rfl; exact ha hq, by rintro rfl; exact ha ht⟩
          have c1 := cells_at gr
          have c2 := cells_at gs
          have c3 := cells_at gq
          have c4 := cells_at gt
          have rq : c' ≠ q := by
            rintro rfl
            rw [gr] at gq
            obtain rfl : vs = _ := by simpa using gq
            rw [List.getElem?_map, Option.map_eq_some_iff] at gi; obtain ⟨_, _, h⟩ := gi; cases h
          have sq : d ≠ q := by
            rintro rfl
            rw [gs] at gq
            obtain rfl : us = _ := by simpa using gq
            rw [List.getElem?_map, Option.map_eq_some_iff] at gj; obtain ⟨_, _, h⟩ := gj; cases h
          have hmq := nq m hmι
          have hbq := nq bx hbx
          have z1 := fun X => cells_at (H := J.set q X) (j := m) (by rw [List.getElem?_set_ne hmq.1.symm]; exact hI.rm)
          have z2 := fun X => cells_at (H := J.set q X) (j := d) (by rw [List.getElem?_set_ne sq.symm]; exact gs)
          have z3 := fun X => cells_at (H := J.set q X) (j := t) (by rw [List.getElem?_set_ne hqt]; exact gt)
          have z4 := fun X => cells_at (H := J.set q X) (j := bx) (by rw [List.getElem?_set_ne hbq.1.symm]; exact hfb)
          simp only [Fv, Fcs, vw, tw] at z4
          have q5 := fun x => put_lt (H := J) (x := x) hql
          have q6 := fun z x => put_lt (H := J.set q z) (j := t) (x := x) (by simpa using htl)
          simp only [go_sem, hU, huL, i2, k2, k3, mi, mk, Int.toNat_natCast, List.length_map, cm, cf, c1, c2, c3, c4, lv, lu, gi, gj, hrl, hrh, y1, y2, w1, w2, w3, w4, vw, z1, z2, z3, z4, q5, q6, ivL_set, e_mn, e_mx]
          refine ihn _ ⟨⟨?_, ?_, ?_⟩, ?_⟩ _ (by simp [go_sem, hU, huL])
          · rw [List.getElem?_set_ne (nq 0 h0ι).2.symm, List.getElem?_set_ne (nq 0 h0ι).1.symm]; exact hI.r0
          · rw [List.getElem?_set_ne hmq.2.symm, List.getElem?_set_ne hmq.1.symm]; exact hI.rm
          · have ne : ∀ {ψ : Nat → Int} {x : Int}, (mkR A.p.length ψ).set k x ≠ [] := fun {ψ x} e => by
              have := congrArg List.length e
              rw [List.length_set, mkR_len, List.length_nil] at this
              omega
            have := up ((J.set q (some (Row.cells true 1 (ivL ((mkR A.p.length (mixF mn (tg A.lo) (tg f.lo) i k i)).set k (mn (tg A.lo i k) (tg f.lo i k))))))).set t (some (Row.cells true 1 (ivL ((mkR A.p.length (mixF mx (tg A.hi) (tg f.hi) i k i)).set k (mx (tg A.hi i k) (tg f.hi i k)))))))
              _ _ ne ne List.length_set List.length_set (fun a ha n1 n2 => by rw [List.getElem?_set_ne n2.symm, List.getElem?_set_ne n1.symm]) (by rw [List.getElem?_set_ne hqt.symm, List.getElem?_set_self hql]) (by rw [List.getElem?_set_self (by simpa using htl)])
            rw [mixF_step _ _ _ i1 k1, mixF_step _ _ _ i1 k1] at this
            exact this
          · rw [List.getElem?_set_ne hbq.2.symm, List.getElem?_set_ne hbq.1.symm]; exact hfb
        · have k2 : ¬ (k : Int) < A.p.length := by omega
          obtain rfl : k = A.p.length := by omega
          rw [hMix_row] at hI
          simp only [go_sem, hU, huL, k2, i3]
          exact ihi (i + 1, J) (by omega) ⟨i1, hI, hfb⟩ _ (by simp [go_sem, hU, huL])
      · have i2 : ¬ (i : Int) < A.g.length := by omega
        obtain rfl : i = A.g.length := by omega
        rw [hMix_end] at hI
        simp only [go_sem, hU, huL, i2, j3]
        exact ihn J hI _ (by simp [go_sem, hU, huL])
    · have j2 : ¬ (j : Int) < ((l.length - 1 : Nat) : Int) := by omega
      have : (l.drop 1).take j = l.drop 1 := List.take_of_length_le (by rw [List.length_drop]; omega)
      rw [this] at hI
      obtain ⟨r0, rm, dat⟩ := hI
      have cm := cells_at rm
      have c1 := cells_at r0
      simp only [nils4] at c1
      have hlt1 := (List.getElem?_eq_some_iff.1 r0).1
      have q1 := fun x => put_lt (H := J) (x := x) hlt1
      have q2 := fun g sz es => cells_at (H := J.set 0 (some (Row.cells g sz es))) (j := 0) (List.getElem?_set_self hlt1)
      simp only [go_sem, hU, j2, cm, c1, q1, q2]
      exact .inr ⟨hz, ι, ⟨_, rfl, ι, [], by simp, dat.set _ h0ι, [], [], rfl, .int _ _ _ _, rfl⟩, hnd⟩
theorem thaw_huC (f : Fa) (k : Nat) : thaw 7 k (huC f) = (.tup [(thaw 6 k (Fv f)).1, .int .i64 0], (thaw 6 k (Fv f)).2) := by
  unfold huC
  simp only [thaw, mapk, List.append_nil]
theorem huC_pure {f : Fa} (h : Pure 6 (Fv f)) : Pure 7 (huC f) := by
  intro e he
  simp only [List.mem_cons, List.not_mem_nil, or_false] at he
  rcases he with rfl | rfl
  · exact h
  · rfl
theorem Hull_run {l : List Fa} {f0 : Fa} (h0 : l[0]? = some f0) (hl : FaLs l) (hn : l.length ≤ 1000000) (he : hullE l = 0) (hp : Pure 6 (Fv (hullTo f0 (l.drop 1)))) :
    Ans Try.prog n_curve_Hull [huL l] [] (thaw 7 0 (huC (hullTo f0 (l.drop 1)))).1 (thaw 7 0 (huC (hullTo f0 (l.drop 1)))).2 :=
  ans_dat0 (huC_pure hp) ((Hull_fn l f0 h0 hl hn).mono fun v H' h => by
    rcases h with ⟨h, -⟩ | ⟨-, h⟩
    · exact absurd he h
    · exact h)
end Go.Proofs

namespace Go.Proofs
open Go Go.Sx

def k_law02_CurveChains_r0 : List AOper := [
  ⟨some 2, .move (.const (.bool false)), none, []⟩]
def k_law02_CurveChains_r1 : List AOper := [
  ⟨some 11, .move (.tmp 0), none, []⟩,
 ⟨some 12, .call (.const (.fn (.func 12) [] [])) [.tmp 11], none, []⟩,
 ⟨some 3, .move (.tmp 12), none, []⟩]
def k_law02_CurveChains_r2 : List AOper := [
  ⟨some 13, .move (.tmp 3), none, []⟩,
 ⟨some 14, .call (.const (.fn (.func 25) [] [])) [.tmp 13], none, []⟩,
 ⟨some 4, .box (.const (.agg [.nilsl, .nilsl, .nilsl, .nilsl])), none, []⟩,
 ⟨none, .store 4 (.tmp 4) (.tmp 14), none, []⟩]
def k_law02_CurveChains_r3 : List AOper := [
  ⟨some 15, .move (.tmp 3), none, []⟩,
 ⟨some 16, .load (some (4)) (.tmp 4), none, []⟩,
 ⟨some 17, .call (.const (.fn (.func 35) [] [])) [.tmp 15, .tmp 16, .const (.bool false)], none, []⟩,
 ⟨some 5, .box (.const (.agg [.nilsl, .nilsl, .nilsl, .nilsl])), none, []⟩,
 ⟨none, .store 4 (.tmp 5) (.tmp 17), none, []⟩]
def k_law02_CurveChains_r4 : List AOper := [
  ⟨some 18, .move (.tmp 3), none, []⟩,
 ⟨some 19, .load (some (4)) (.tmp 5), none, [0]⟩,
 ⟨some 20, .move (.tmp 3), none, [0, 1]⟩,
 ⟨some 21, .call (.const (.fn (.func 36) [] [])) [.tmp 20, .const (.int .i64 2)], none, [0, 1]⟩,
 ⟨some 22, .call (.const (.fn (.func 35) [] [])) [.tmp 18, .tmp 19, .tmp 21], none, []⟩,
 ⟨some 6, .box (.const (.agg [.nilsl, .nilsl, .nilsl, .nilsl])), none, [0, 1, 2, 3, 4]⟩,
 ⟨none, .store 4 (.tmp 6) (.tmp 22), none, []⟩]
def k_law02_CurveChains_r4s : List (List AOper) := [
  [
  ⟨some 18, .move (.tmp 3), none, []⟩,
 ⟨some 19, .load (some (4)) (.tmp 5), none, [0]⟩,
 ⟨some 20, .move (.tmp 3), none, [0, 1]⟩,
 ⟨some 21, .call (.const (.fn (.func 36) [] [])) [.tmp 20, .const (.int .i64 2)], none, [0, 1]⟩,
 ⟨some 22, .call (.const (.fn (.func 35) [] [])) [.tmp 18, .tmp 19, .tmp 21], none, []⟩,
 ⟨some 6, .box (.const (.agg [.nilsl, .nilsl, .nilsl, .nilsl])), none, [0, 1, 2, 3, 4]⟩], 
  [
  ⟨none, .store 4 (.tmp 6) (.tmp 22), none, []⟩]]
theorem k_law02_CurveChains_r4_sg : segs k_law02_CurveChains_r4 = k_law02_CurveChains_r4s := by kernel_rfl
theorem k_law02_CurveChains_r4_st : statOK k_law02_CurveChains_r4 = true := by kernel_rfl
def k_law02_CurveChains_r5 : List AOper := [
  ⟨some 23, .load (some (4)) (.tmp 4), none, []⟩,
 ⟨some 24, .load (some (4)) (.tmp 4), none, [0]⟩,
 ⟨some 25, .call (.const (.fn (.func 37) [] [])) [.tmp 23, .tmp 24], none, []⟩,
 ⟨some 26, .not (.tmp 25), none, []⟩,
 ⟨some 27, .move (.tmp 26), none, []⟩,
 ⟨some 28, .load (some (4)) (.tmp 4), (some (27, false)), []⟩,
 ⟨some 29, .load (some (4)) (.tmp 5), (some (27, false)), [5]⟩,
 ⟨some 30, .call (.const (.fn (.func 37) [] [])) [.tmp 28, .tmp 29], (some (27, false)), []⟩,
 ⟨some 31, .not (.tmp 30), (some (27, false)), []⟩,
 ⟨some 32, .pick (.tmp 27) (.const (.bool true)) (.tmp 31), none, []⟩,
 ⟨some 33, .move (.tmp 32), none, []⟩,
 ⟨some 34, .load (some (4)) (.tmp 5), (some (33, false)), []⟩,
 ⟨some 35, .load (some (4)) (.tmp 6), (some (33, false)), [11]⟩,
 ⟨some 36, .call (.const (.fn (.func 37) [] [])) [.tmp 34, .tmp 35], (some (33, false)), []⟩,
 ⟨some 37, .not (.tmp 36), (some (33, false)), []⟩,
 ⟨some 38, .pick (.tmp 33) (.const (.bool true)) (.tmp 37), none, []⟩,
 ⟨some 39, .move (.tmp 38), none, []⟩,
 ⟨some 40, .load (some (4)) (.tmp 4), (some (39, false)), []⟩,
 ⟨some 41, .load (some (4)) (.tmp 6), (some (39, false)), [17]⟩,
 ⟨some 42, .call (.const (.fn (.func 37) [] [])) [.tmp 40, .tmp 41], (some (39, false)), []⟩,
 ⟨some 43, .not (.tmp 42), (some (39, false)), []⟩,
 ⟨some 44, .pick (.tmp 39) (.const (.bool true)) (.tmp 43), none, []⟩,
 ⟨some 45, .move (.tmp 44), none, []⟩,
 ⟨some 46, .load (some (4)) (.tmp 5), (some (45, false)), []⟩,
 ⟨some 47, .load (some (4)) (.tmp 4), (some (45, false)), [23]⟩,
 ⟨some 48, .call (.const (.fn (.func 37) [] [])) [.tmp 46, .tmp 47], (some (45, false)), []⟩,
 ⟨some 49, .load (some (4)) (.tmp 4), (some (45, false)), [23, 24, 25]⟩,
 ⟨some 50, .load (some (4)) (.tmp 5), (some (45, false)), [23, 24, 25, 26]⟩,
 ⟨some 51, .call (.const (.fn (.func 29) [] [])) [.tmp 49, .tmp 50], (some (45, false)), []⟩,
 ⟨some 52, .bin .bool .neq (.tmp 48) (.tmp 51), (some (45, false)), []⟩,
 ⟨some 53, .pick (.tmp 45) (.const (.bool true)) (.tmp 52), none, []⟩]
def k_law02_CurveChains_r5s : List (List AOper) := [
  [
  ⟨some 23, .load (some (4)) (.tmp 4), none, []⟩,
 ⟨some 24, .load (some (4)) (.tmp 4), none, [0]⟩], 
  [
  ⟨some 25, .call (.const (.fn (.func 37) [] [])) [.tmp 23, .tmp 24], none, []⟩], 
  [
  ⟨some 26, .not (.tmp 25), none, []⟩], 
  [
  ⟨some 27, .move (.tmp 26), none, []⟩], 
  [
  ⟨some 28, .load (some (4)) (.tmp 4), (some (27, false)), []⟩,
 ⟨some 29, .load (some (4)) (.tmp 5), (some (27, false)), [5]⟩], 
  [
  ⟨some 30, .call (.const (.fn (.func 37) [] [])) [.tmp 28, .tmp 29], (some (27, false)), []⟩], 
  [
  ⟨some 31, .not (.tmp 30), (some (27, false)), []⟩], 
  [
  ⟨some 32, .pick (.tmp 27) (.const (.bool true)) (.tmp 31), none, []⟩], 
  [
  ⟨some 33, .move (.tmp 32), none, []⟩], 
  [
  ⟨some 34, .load (some (4)) (.tmp 5), (some (33, false)), []⟩,
 ⟨some 35, .load (some (4)) (.tmp 6), (some (33, false)), [11]⟩], 
  [
  ⟨some 36, .call (.const (.fn (.func 37) [] [])) [.tmp 34, .tmp 35], (some (33, false)), []⟩], 
  [
  ⟨some 37, .not (.tmp 36), (some (33, false)), []⟩], 
  [
  ⟨some 38, .pick (.tmp 33) (.const (.bool true)) (.tmp 37), none, []⟩], 
  [
  ⟨some 39, .move (.tmp 38), none, []⟩], 
  [
  ⟨some 40, .load (some (4)) (.tmp 4), (some (39, false)), []⟩,
 ⟨some 41, .load (some (4)) (.tmp 6), (some (39, false)), [17]⟩], 
  [
  ⟨some 42, .call (.const (.fn (.func 37) [] [])) [.tmp 40, .tmp 41], (some (39, false)), []⟩], 
  [
  ⟨some 43, .not (.tmp 42), (some (39, false)), []⟩], 
  [
  ⟨some 44, .pick (.tmp 39) (.const (.bool true)) (.tmp 43), none, []⟩], 
  [
  ⟨some 45, .move (.tmp 44), none, []⟩], 
  [
  ⟨some 46, .load (some (4)) (.tmp 5), (some (45, false)), []⟩,
 ⟨some 47, .load (some (4)) (.tmp 4), (some (45, false)), [23]⟩,
 ⟨some 48, .call (.const (.fn (.func 37) [] [])) [.tmp 46, .tmp 47], (some (45, false)), []⟩,
 ⟨some 49, .load (some (4)) (.tmp 4), (some (45, false)), [23, 24, 25]⟩,
 ⟨some 50, .load (some (4)) (.tmp 5), (some (45, false)), [23, 24, 25, 26]⟩], 
  [
  ⟨some 51, .call (.const (.fn (.func 29) [] [])) [.tmp 49, .tmp 50], (some (45, false)), []⟩], 
  [
  ⟨some 52, .bin .bool .neq (.tmp 48) (.tmp 51), (some (45, false)), []⟩], 
  [
  ⟨some 53, .pick (.tmp 45) (.const (.bool true)) (.tmp 52), none, []⟩]]
theorem k_law02_CurveChains_r5_sg : segs k_law02_CurveChains_r5 = k_law02_CurveChains_r5s := by kernel_rfl
theorem k_law02_CurveChains_r5_st : statOK k_law02_CurveChains_r5 = true := by kernel_rfl
def k_law02_CurveChains_r6 : List AOper := [
  ⟨some 2, .move (.const (.bool false)), none, []⟩]
def k_law02_CurveChains_r7 : List AOper := [
  ⟨some 54, .move (.tmp 3), none, []⟩,
 ⟨some 55, .load (some (4)) (.tmp 4), none, [0]⟩,
 ⟨some 56, .call (.const (.fn (.func 35) [] [])) [.tmp 54, .tmp 55, .const (.bool false)], none, []⟩,
 ⟨some 57, .move (.tmp 3), none, [0, 1, 2]⟩,
 ⟨some 58, .load (some (4)) (.tmp 4), none, [0, 1, 2, 3]⟩,
 ⟨some 59, .call (.const (.fn (.func 35) [] [])) [.tmp 57, .tmp 58, .const (.bool true)], none, []⟩,
 ⟨some 7, .box (.const (.agg [.nilsl, .nilsl, .nilsl, .nilsl])), none, [0, 1, 2, 3, 4, 5]⟩,
 ⟨some 8, .box (.const (.agg [.nilsl, .nilsl, .nilsl, .nilsl])), none, [0, 1, 2, 3, 4, 5, 6]⟩,
 ⟨none, .store 4 (.tmp 7) (.tmp 56), none, []⟩,
 ⟨none, .store 4 (.tmp 8) (.tmp 59), none, []⟩]
def k_law02_CurveChains_r7s : List (List AOper) := [
  [
  ⟨some 54, .move (.tmp 3), none, []⟩,
 ⟨some 55, .load (some (4)) (.tmp 4), none, [0]⟩,
 ⟨some 56, .call (.const (.fn (.func 35) [] [])) [.tmp 54, .tmp 55, .const (.bool false)], none, []⟩,
 ⟨some 57, .move (.tmp 3), none, [0, 1, 2]⟩,
 ⟨some 58, .load (some (4)) (.tmp 4), none, [0, 1, 2, 3]⟩,
 ⟨some 59, .call (.const (.fn (.func 35) [] [])) [.tmp 57, .tmp 58, .const (.bool true)], none, []⟩,
 ⟨some 7, .box (.const (.agg [.nilsl, .nilsl, .nilsl, .nilsl])), none, [0, 1, 2, 3, 4, 5]⟩,
 ⟨some 8, .box (.const (.agg [.nilsl, .nilsl, .nilsl, .nilsl])), none, [0, 1, 2, 3, 4, 5, 6]⟩], 
  [
  ⟨none, .store 4 (.tmp 7) (.tmp 56), none, []⟩], 
  [
  ⟨none, .store 4 (.tmp 8) (.tmp 59), none, []⟩]]
theorem k_law02_CurveChains_r7_sg : segs k_law02_CurveChains_r7 = k_law02_CurveChains_r7s := by kernel_rfl
theorem k_law02_CurveChains_r7_st : statOK k_law02_CurveChains_r7 = true := by kernel_rfl
def k_law02_CurveChains_r8 : List AOper := [
  ⟨some 61, .load (some (4)) (.tmp 7), none, []⟩,
 ⟨some 62, .load (some (4)) (.tmp 8), none, []⟩,
 ⟨some 63, .load (some (4)) (.tmp 6), none, []⟩,
 ⟨some 64, .buildSlice 4 [.tmp 61, .tmp 62, .tmp 63], none, []⟩,
 ⟨some 65, .call (.const (.fn (.func 39) [] [])) [.tmp 64], none, []⟩,
 ⟨some 60, .move (.tmp 65), none, []⟩,
 ⟨some 66, .extract (.tmp 60) 0, none, []⟩,
 ⟨some 67, .extract (.tmp 60) 1, none, []⟩,
 ⟨some 9, .box (.const (.agg [.nilsl, .nilsl, .nilsl, .nilsl])), none, []⟩,
 ⟨none, .store 4 (.tmp 9) (.tmp 66), none, []⟩,
 ⟨some 10, .move (.tmp 67), none, []⟩]
def k_law02_CurveChains_r9 : List AOper := [
  ⟨some 68, .move (.tmp 10), none, []⟩,
 ⟨some 69, .bin .plain .eql (.tmp 68) (.const (.int .i64 0)), none, []⟩,
 ⟨some 70, .move (.tmp 69), none, []⟩,
 ⟨some 71, .load (some (4)) (.tmp 9), (some (70, true)), []⟩,
 ⟨some 72, .call (.const (.fn (.func 27) [] [])) [.tmp 71], (some (70, true)), []⟩,
 ⟨some 73, .bin .plain .eql (.tmp 72) (.const (.int .i64 0)), (some (70, true)), []⟩,
 ⟨some 74, .pick (.tmp 70) (.tmp 73) (.const (.bool false)), none, []⟩,
 ⟨some 75, .move (.tmp 74), none, []⟩,
 ⟨some 76, .load (some (4)) (.tmp 9), (some (75, true)), []⟩,
 ⟨some 77, .load (some (4)) (.tmp 7), (some (75, true)), []⟩,
 ⟨some 78, .call (.const (.fn (.func 37) [] [])) [.tmp 76, .tmp 77], (some (75, true)), []⟩,
 ⟨some 79, .pick (.tmp 75) (.tmp 78) (.const (.bool false)), none, []⟩,
 ⟨some 80, .move (.tmp 79), none, []⟩,
 ⟨some 81, .load (some (4)) (.tmp 9), (some (80, true)), []⟩,
 ⟨some 82, .load (some (4)) (.tmp 8), (some (80, true)), []⟩,
 ⟨some 83, .call (.const (.fn (.func 37) [] [])) [.tmp 81, .tmp 82], (some (80, true)), []⟩,
 ⟨some 84, .pick (.tmp 80) (.tmp 83) (.const (.bool false)), none, []⟩,
 ⟨some 85, .move (.tmp 84), none, []⟩,
 ⟨some 86, .load (some (4)) (.tmp 9), (some (85, true)), []⟩,
 ⟨some 87, .load (some (4)) (.tmp 6), (some (85, true)), []⟩,
 ⟨some 88, .call (.const (.fn (.func 37) [] [])) [.tmp 86, .tmp 87], (some (85, true)), []⟩,
 ⟨some 89, .pick (.tmp 85) (.tmp 88) (.const (.bool false)), none, []⟩,
 ⟨some 90, .move (.tmp 89), none, []⟩,
 ⟨some 91, .load (some (4)) (.tmp 4), (some (90, true)), []⟩,
 ⟨some 92, .load (some (4)) (.tmp 9), (some (90, true)), []⟩,
 ⟨some 93, .call (.const (.fn (.func 37) [] [])) [.tmp 91, .tmp 92], (some (90, true)), []⟩,
 ⟨some 94, .pick (.tmp 90) (.tmp 93) (.const (.bool false)), none, []⟩,
 ⟨some 95, .move (.tmp 94), none, []⟩,
 ⟨some 96, .call (.const (.fn (.func 23) [] [])) [], (some (95, true)), []⟩,
 ⟨some 97, .pick (.tmp 95) (.tmp 96) (.const (.bool false)), none, []⟩,
 ⟨some 2, .move (.tmp 97), none, []⟩]
def k_law02_CurveChains : AFun := { params := 1, ntmps := 98, body := (.seq (.reg k_law02_CurveChains_r0 false) (.seq (.reg k_law02_CurveChains_r1 false) (.seq (.reg k_law02_CurveChains_r2 false) (.seq (.reg k_law02_CurveChains_r3 false) (.seq (.reg k_law02_CurveChains_r4 true) (.seq (.seq (.reg k_law02_CurveChains_r5 true) (.cond (.tmp 53) (.seq (.reg k_law02_CurveChains_r6 false) .ret) .skip)) (.seq (.reg k_law02_CurveChains_r7 true) (.seq (.reg k_law02_CurveChains_r8 false) (.seq (.reg k_law02_CurveChains_r9 false) .ret))))))))), res := [.tmp 2] }
theorem k_law02_CurveChains_ok : cfun Try.prog Try.f10 = k_law02_CurveChains := by kernel_rfl


abbrev n_law02_CurveChains : Nat := 10
theorem e_law02_CurveChains : EntryOK Try.prog n_law02_CurveChains k_law02_CurveChains := ⟨Try.f10, Try.func10, k_law02_CurveChains_ok, by kernel_rfl⟩

attribute [go_sem] k_law02_CurveChains_r0 k_law02_CurveChains_r1 k_law02_CurveChains_r2 k_law02_CurveChains_r3 k_law02_CurveChains_r4s k_law02_CurveChains_r5s k_law02_CurveChains_r6 k_law02_CurveChains_r7s k_law02_CurveChains_r8 k_law02_CurveChains_r9 k_law02_CurveChains_r5_sg k_law02_CurveChains_r4_sg
attribute [go_sem] k_law02_CurveChains_r7_sg k_law02_CurveChains_r5_st k_law02_CurveChains_r4_st k_law02_CurveChains_r7_st k_law02_CurveChains
end Go.Proofs

namespace Go.Proofs
open Go Go.Sx Go.Fam
attribute [local irreducible] Run

def AtF (n : Nat) (Y : Heap) (v : AVal) (F : Fa) : Prop := ∀ A R : Heap, A.length = n → Dat 6 (A ++ (Y ++ R)) (upFrom n Y.length) v (Fv F)
theorem atF_thaw {F : Fa} (hp : Pure 6 (Fv F)) (n : Nat) : AtF n (thaw 6 n (Fv F)).2 (thaw 6 n (Fv F)).1 F := fun A R hA => by
  rw [← List.append_assoc]
  exact (thaw_dat (H := A ++ (thaw 6 n (Fv F)).2) n hp fun i hi => by rw [get_new hA]).app R fun r hr => by rw [upFrom_mem] at hr; simp; omega
theorem AtF.frz {n : Nat} {Y : Heap} {v : AVal} {F : Fa} (h : AtF n Y v F) {H : Heap} (A R : Heap) (e : H = A ++ (Y ++ R)) (hA : A.length = n) : frz 6 H v = Fv F := by rw [e]; exact (h A R hA).frz
theorem AtF.mask {n : Nat} {Y : Heap} {v : AVal} {F : Fa} (h : AtF n Y v F) {H : Heap} (A R : Heap) (e : H = A ++ (Y ++ R)) (hA : A.length = n) (hn : 0 < n) : Sx.frz 6 (H.mask [0]) v = Fv F := by
  rw [e]; exact ((h A R hA).mask fun r hr => by rw [upFrom_mem] at hr; simp; omega).frz
theorem AtF.only {n : Nat} {Y : Heap} {v : AVal} {F : Fa} (h : AtF n Y v F) {H : Heap} {κ : List Nat} (A R : Heap) (e : H = A ++ (Y ++ R)) (hA : A.length = n) (hκ : ∀ r ∈ upFrom n Y.length, r ∈ κ) : Sx.frz 6 (H.onlyR κ) v = Fv F := by
  rw [e]; exact ((h A R hA).onlyR hκ).frz
theorem frz_cells {d r sz n : Nat} {H : Heap} {g : Bool} {es : List AVal} (h : H.cellsAt r = some (g, sz, es)) (hn : n = es.length) : frz (d + 1) H (.sl r 0 n) = .view (es.map (frz d H)) := by
  subst hn
  simp [frz, h]
theorem hj_in {a b c : Fa} (h1 : InF a c) (h2 : InF b c) : InF (hj a b) c := by
  refine ⟨h1.g, h1.p, fun i k hi hk => ?_⟩
  have e1 := h1.inn i k hi hk
  have e2 := h2.inn i k hi hk
  have l1 : i < a.g.length := by rw [h1.g]; exact hi
  have l2 : k < a.p.length := by rw [h1.p]; exact hk
  have el : tg (hj a b).lo i k = mn (tg a.lo i k) (tg b.lo i k) := mkT_tg _ l1 l2
  have eh : tg (hj a b).hi i k = mx (tg a.hi i k) (tg b.hi i k) := mkT_tg _ l1 l2
  have := mn_or (tg a.lo i k) (tg b.lo i k)
  have := mx_or2 (tg a.hi i k) (tg b.hi i k)
  rw [el, eh]
  omega
theorem hullTo_in {f0 c : Fa} : ∀ {r : List Fa}, InF f0 c → (∀ f ∈ r, InF f c) → InF (hullTo f0 r) c := by
  intro r
  induction r generalizing f0 with
  | nil => intro h _; exact h
  | cons f r ih => intro h hr; exact ih (f0 := hj f0 f) (hj_in h (hr f (by simp))) fun x hx => hr x (List.mem_cons_of_mem _ hx)

set_option maxHeartbeats 8000000 in
set_option maxRecDepth 20000 in
theorem curveChains_ok (xs : List Int) (hl : xs.length ≤ 9223372036854775807) : Ans Try.prog n_law02_CurveChains [.view (xs.map (.int .i64))] [] (.bool true) [] := by
  have kd := newdice_ok xs hl
  obtain ⟨w, hw⟩ : ∃ w, feed (IntKind.u64.wrap (IntKind.u64.wrap xs.length + 1374496523)) xs = w := ⟨_, rfl⟩
  rw [hw] at kd
  have ka := FamilyOf_run w
  have na := famOf_ne w
  have oa := famOf_ok w
  obtain ⟨A, hA⟩ : ∃ F, famOf w = F := ⟨_, rfl⟩
  obtain ⟨w1, hw1⟩ : ∃ x, famEnd w = x := ⟨_, rfl⟩
  rw [hA] at ka na oa
  rw [hw1] at ka
  have kb := WithinFamily_run oa na false w1
  obtain ⟨ob, iba⟩ := wnF_ok oa false w1
  have nb := wnF_ne oa na false w1
  obtain ⟨B, hB⟩ : ∃ T, wnF A false w1 = T := ⟨_, rfl⟩
  obtain ⟨w2, hw2⟩ : ∃ x, (wnT A false w1).w = x := ⟨_, rfl⟩
  rw [hB] at kb ob iba nb
  rw [hw2] at kb
  have k1 := one_ok w2 2 (by omega)
  obtain ⟨bb, hbb⟩ : ∃ b, (upto w2 2 == 0) = b := ⟨_, rfl⟩
  obtain ⟨w3, hw3⟩ : ∃ x, dstep w2 = x := ⟨_, rfl⟩
  rw [hbb, hw3] at k1
  have kc := WithinFamily_run ob nb bb w3
  obtain ⟨oc, icb⟩ := wnF_ok ob bb w3
  have nc := wnF_ne ob nb bb w3
  obtain ⟨C, hC⟩ : ∃ T, wnF B bb w3 = T := ⟨_, rfl⟩
  obtain ⟨w4, hw4⟩ : ∃ x, (wnT B bb w3).w = x := ⟨_, rfl⟩
  rw [hC] at kc oc icb nc
  rw [hw4] at kc
  have kx := WithinFamily_run oa na false w4
  obtain ⟨ox, ixa⟩ := wnF_ok oa false w4
  have nx := wnF_ne oa na false w4
  obtain ⟨X, hX⟩ : ∃ T, wnF A false w4 = T := ⟨_, rfl⟩
  obtain ⟨w5, hw5⟩ : ∃ x, (wnT A false w4).w = x := ⟨_, rfl⟩
  rw [hX] at kx ox ixa nx
  rw [hw5] at kx
  have ky := WithinFamily_run oa na true w5
  obtain ⟨oy, iya⟩ := wnF_ok oa true w5
  have ny := wnF_ne oa na true w5
  obtain ⟨Y, hY⟩ : ∃ T, wnF A true w5 = T := ⟨_, rfl⟩
  obtain ⟨w6, hw6⟩ : ∃ x, (wnT A true w5).w = x := ⟨_, rfl⟩
  rw [hY] at ky oy iya ny
  rw [hw6] at ky
  have SZ : ∀ {F : Fa}, FaNE F → F.g.length ≤ 5 ∧ F.p.length ≤ 5 ∧ F.lo.length ≤ 5 ∧ F.hi.length ≤ 5 := fun h => ⟨h.g.2, h.p.2, by rw [h.lo.1]; exact h.g.2, by rw [h.hi.1]; exact h.g.2⟩
  have zA := SZ na
  have zB := SZ nb
  have zC := SZ nc
  have zX := SZ nx
  have zY := SZ ny
  have sA : FaS A := ⟨by omega, by omega, ⟨by omega, fun r hr => by rw [na.lo.2 r hr]; omega⟩, by omega, fun r hr => by rw [na.hi.2 r hr]; omega⟩
  clear SZ
  clear hw hA hw1 hB hw2 hbb hw3 hC hw4 hX hw5 hY hw6
  refine spec_run e_law02_CurveChains fun G => ?_
  simp only [go_sem]
  refine callN1 kd ⟨by rw [bel_view, bels_ints]; trivial, trivial⟩ (dr_bel _ _) (by simp) (by simp) ?_
  simp only [go_sem]
  refine cMD ka na.pure 1 trivial ?_
  have fa := atF_thaw na.pure 1
  obtain ⟨a1, a2, a3, a4, ea⟩ := thaw_fv A 1
  simp only [List.length_cons, List.length_nil, ea] at fa ⊢
  generalize (thaw 6 1 (Fv A)).2 = YA at *
  simp only [go_sem]
  refine cMD kb nb.pure 6 ⟨.inl (fa.mask [some (Dr w1)] [some (Row.cells false 4 [AVal.agg [AVal.sl a1 0 A.g.length, AVal.sl a2 0 A.p.length, AVal.sl a3 0 A.lo.length, AVal.sl a4 0 A.hi.length]])] rfl rfl (by omega)), .inl rfl, trivial⟩ ?_
  have fb := atF_thaw nb.pure (YA.length + 1 + 1)
  obtain ⟨b1, b2, b3, b4, eb⟩ := thaw_fv B (YA.length + 1 + 1)
  simp only [List.length_cons, List.length_append, List.length_nil, Nat.zero_add, eb] at fb ⊢
  generalize (thaw 6 (YA.length + 1 + 1) (Fv B)).2 = YB at *
  simp only [List.set_cons_zero, List.cons_append, List.append_assoc, List.nil_append]
  simp only [go_sem]
  refine dD k1 ?_
  simp only [go_sem]
  refine dMD kc nc.pure 6 (upFrom (YA.length + 1 + 1) YB.length) (fun h => by have := upFrom_mem.1 h; omega) ⟨.inl (fb.only (some (Dr w3) :: (YA ++ [some (Row.cells false 4 [AVal.agg [AVal.sl a1 0 A.g.length, AVal.sl a2 0 A.p.length, AVal.sl a3 0 A.lo.length, AVal.sl a4 0 A.hi.length]])])) [some (Row.cells false 4 [AVal.agg [AVal.sl b1 0 B.g.length, AVal.sl b2 0 B.p.length, AVal.sl b3 0 B.lo.length, AVal.sl b4 0 B.hi.length]])] (by simp) (by simp) fun _ h => h), .inl rfl, trivial⟩ ?_
  have fc := atF_thaw nc.pure (YA.length + (YB.length + 1 + 1) + 1)
  obtain ⟨c1, c2, c3, c4, ec⟩ := thaw_fv C (YA.length + (YB.length + 1 + 1) + 1)
  simp only [List.length_cons, List.length_append, List.length_nil, Nat.zero_add, ec] at fc ⊢
  generalize (thaw 6 (YA.length + (YB.length + 1 + 1) + 1) (Fv C)).2 = YC at *
  simp only [List.set_cons_zero, List.append_assoc, List.cons_append, List.nil_append]
  simp only [go_sem, List.append_assoc, List.cons_append, List.nil_append]
  refine ⟨by first | (simp only [Bool.or_eq_false_iff, Bool.and_eq_true, Bool.not_eq_true', beq_eq_false_iff_ne, decide_eq_false_iff_not, ne_eq]; omega) | (simp; done) | (simp; omega) | omega, ?_⟩
  have iAA := Inside_run A A (by omega) (by omega) (by omega) (by omega) (by omega) (by omega) (by omega) (by omega)
  rw [insB_wn oa oa (InF.refl A)] at iAA
  have iAB := Inside_run A B (by omega) (by omega) (by omega) (by omega) (by omega) (by omega) (by omega) (by omega)
  rw [insB_wn oa ob iba] at iAB
  have iBC := Inside_run B C (by omega) (by omega) (by omega) (by omega) (by omega) (by omega) (by omega) (by omega)
  rw [insB_wn ob oc icb] at iBC
  have iAC := Inside_run A C (by omega) (by omega) (by omega) (by omega) (by omega) (by omega) (by omega) (by omega)
  rw [insB_wn oa oc (icb.trans iba)] at iAC
  have iBA := Inside_run B A (by omega) (by omega) (by omega) (by omega) (by omega) (by omega) (by omega) (by omega)
  have hBA : insB B A = decide (A = B) := by
    rw [Bool.eq_iff_iff, insB_iff ob oa iba.g.symm iba.p.symm, decide_eq_true_eq]
    exact ⟨fun h => InF.anti oa ob h iba, fun h => by rw [h]; exact InF.refl B⟩
  rw [hBA] at iBA
  have sAB := pSame_run A B sA
  have eA : ∀ (r0 : Option Row) (R : Heap), frz 6 (r0 :: (YA ++ R)) (AVal.agg [AVal.sl a1 0 A.g.length, AVal.sl a2 0 A.p.length, AVal.sl a3 0 A.lo.length, AVal.sl a4 0 A.hi.length]) = Fv A := fun r0 R => fa.frz [r0] R rfl rfl
  have eB : ∀ (r0 b : Option Row) (R : Heap), frz 6 (r0 :: (YA ++ b :: (YB ++ R))) (AVal.agg [AVal.sl b1 0 B.g.length, AVal.sl b2 0 B.p.length, AVal.sl b3 0 B.lo.length, AVal.sl b4 0 B.hi.length]) = Fv B := fun r0 b R => fb.frz (r0 :: (YA ++ [b])) R (by simp) (by simp)
  have eC : ∀ (r0 b b' : Option Row) (R : Heap), frz 6 (r0 :: (YA ++ b :: (YB ++ b' :: (YC ++ R)))) (AVal.agg [AVal.sl c1 0 C.g.length, AVal.sl c2 0 C.p.length, AVal.sl c3 0 C.lo.length, AVal.sl c4 0 C.hi.length]) = Fv C := fun r0 b b' R => fc.frz (r0 :: (YA ++ b :: (YB ++ [b']))) R (by simp) (by simp)
  refine cF iAA 6 ⟨.inl (eA _ _), .inl (eA _ _), trivial⟩ ?_
  simp only [go_sem]
  refine cF iAB 6 ⟨.inl (eA _ _), .inl (eB _ _ _), trivial⟩ ?_
  simp only [go_sem]
  refine cF iBC 6 ⟨.inl (eB _ _ _), .inl (eC _ _ _ _), trivial⟩ ?_
  simp only [go_sem]
  refine cF iAC 6 ⟨.inl (eA _ _), .inl (eC _ _ _ _), trivial⟩ ?_
  simp only [go_sem]
  refine dF iBA 6 (upFrom (YA.length + 1 + 1) YB.length ++ upFrom 1 YA.length) ⟨.inl (fb.only (some (Dr w4) :: (YA ++ [some (Row.cells false 4 [AVal.agg [AVal.sl a1 0 A.g.length, AVal.sl a2 0 A.p.length, AVal.sl a3 0 A.lo.length, AVal.sl a4 0 A.hi.length]])])) ([some (Row.cells false 4 [AVal.agg [AVal.sl b1 0 B.g.length, AVal.sl b2 0 B.p.length, AVal.sl b3 0 B.lo.length, AVal.sl b4 0 B.hi.length]])] ++ (YC ++ [some (Row.cells false 4 [AVal.agg [AVal.sl c1 0 C.g.length, AVal.sl c2 0 C.p.length, AVal.sl c3 0 C.lo.length, AVal.sl c4 0 C.hi.length]])])) (by simp) (by simp) fun r h => List.mem_append_left _ h), .inl (fa.only [some (Dr w4)] ([some (Row.cells false 4 [AVal.agg [AVal.sl a1 0 A.g.length, AVal.sl a2 0 A.p.length, AVal.sl a3 0 A.lo.length, AVal.sl a4 0 A.hi.length]])] ++ (YB ++ ([some (Row.cells false 4 [AVal.agg [AVal.sl b1 0 B.g.length, AVal.sl b2 0 B.p.length, AVal.sl b3 0 B.lo.length, AVal.sl b4 0 B.hi.length]])] ++ (YC ++ [some (Row.cells false 4 [AVal.agg [AVal.sl c1 0 C.g.length, AVal.sl c2 0 C.p.length, AVal.sl c3 0 C.lo.length, AVal.sl c4 0 C.hi.length]])])))) (by simp) rfl fun r h => List.mem_append_right _ h), trivial⟩ ?_
  simp only [go_sem]
  refine cF sAB 6 ⟨.inl (eA _ _), .inl (eB _ _ _), trivial⟩ ?_
  have b0 : (decide (A = B) == decide (A = B)) = true := beq_self_eq_true _
  simp only [go_sem, bne, b0]
  refine dMD kx nx.pure 6 (upFrom 1 YA.length) (fun h => by have := upFrom_mem.1 h; omega) ⟨.inl (fa.only [some (Dr w4)] ([some (Row.cells false 4 [AVal.agg [AVal.sl a1 0 A.g.length, AVal.sl a2 0 A.p.length, AVal.sl a3 0 A.lo.length, AVal.sl a4 0 A.hi.length]])] ++ (YB ++ ([some (Row.cells false 4 [AVal.agg [AVal.sl b1 0 B.g.length, AVal.sl b2 0 B.p.length, AVal.sl b3 0 B.lo.length, AVal.sl b4 0 B.hi.length]])] ++ (YC ++ [some (Row.cells false 4 [AVal.agg [AVal.sl c1 0 C.g.length, AVal.sl c2 0 C.p.length, AVal.sl c3 0 C.lo.length, AVal.sl c4 0 C.hi.length]])])))) (by simp) rfl fun _ h => h), .inl rfl, trivial⟩ ?_
  have fx := atF_thaw nx.pure (YA.length + (YB.length + (YC.length + 1 + 1) + 1) + 1)
  obtain ⟨x1, x2, x3, x4, ex⟩ := thaw_fv X (YA.length + (YB.length + (YC.length + 1 + 1) + 1) + 1)
  simp only [List.length_cons, List.length_append, List.length_nil, Nat.zero_add, ex] at fx ⊢
  generalize (thaw 6 (YA.length + (YB.length + (YC.length + 1 + 1) + 1) + 1) (Fv X)).2 = YX at *
  simp only [List.set_cons_zero, List.append_assoc, List.cons_append, List.nil_append]
  simp only [go_sem, List.append_assoc, List.cons_append, List.nil_append]
  refine ⟨by first | (simp only [Bool.or_eq_false_iff, Bool.and_eq_true, Bool.not_eq_true', beq_eq_false_iff_ne, decide_eq_false_iff_not, ne_eq]; omega) | (simp; done) | (simp; omega) | omega, ?_⟩
  refine dMD ky ny.pure 6 (upFrom 1 YA.length) (fun h => by have := upFrom_mem.1 h; omega) ⟨.inl (fa.only [some (Dr w5)] ([some (Row.cells false 4 [AVal.agg [AVal.sl a1 0 A.g.length, AVal.sl a2 0 A.p.length, AVal.sl a3 0 A.lo.length, AVal.sl a4 0 A.hi.length]])] ++ (YB ++ ([some (Row.cells false 4 [AVal.agg [AVal.sl b1 0 B.g.length, AVal.sl b2 0 B.p.length, AVal.sl b3 0 B.lo.length, AVal.sl b4 0 B.hi.length]])] ++ (YC ++ ([some (Row.cells false 4 [AVal.agg [AVal.sl c1 0 C.g.length, AVal.sl c2 0 C.p.length, AVal.sl c3 0 C.lo.length, AVal.sl c4 0 C.hi.length]])] ++ YX))))) (by simp) rfl fun _ h => h), .inl rfl, trivial⟩ ?_
  have fy := atF_thaw ny.pure (YA.length + (YB.length + (YC.length + (YX.length + 1) + 1) + 1) + 1)
  obtain ⟨y1, y2, y3, y4, ey⟩ := thaw_fv Y (YA.length + (YB.length + (YC.length + (YX.length + 1) + 1) + 1) + 1)
  simp only [List.length_cons, List.length_append, List.length_nil, Nat.zero_add, ey] at fy ⊢
  generalize (thaw 6 (YA.length + (YB.length + (YC.length + (YX.length + 1) + 1) + 1) + 1) (Fv Y)).2 = YY at *
  simp only [List.set_cons_zero, List.append_assoc, List.cons_append, List.nil_append]
  simp only [go_sem, List.append_assoc, List.cons_append, List.nil_append]
  refine ⟨by first | (simp only [Bool.or_eq_false_iff, Bool.and_eq_true, Bool.not_eq_true', beq_eq_false_iff_ne, decide_eq_false_iff_not, ne_eq]; omega) | (simp; done) | (simp; omega) | omega, ?_⟩
  refine ⟨by first | (simp only [Bool.or_eq_false_iff, Bool.and_eq_true, Bool.not_eq_true', beq_eq_false_iff_ne, decide_eq_false_iff_not, ne_eq]; omega) | (simp; done) | (simp; omega) | omega, ?_⟩
  have eX : ∀ (r0 b b' b2 : Option Row) (R : Heap), frz 6 (r0 :: (YA ++ b :: (YB ++ b' :: (YC ++ b2 :: (YX ++ R))))) (AVal.agg [AVal.sl x1 0 X.g.length, AVal.sl x2 0 X.p.length, AVal.sl x3 0 X.lo.length, AVal.sl x4 0 X.hi.length]) = Fv X := fun r0 b b' b2 R => fx.frz (r0 :: (YA ++ b :: (YB ++ b' :: (YC ++ [b2])))) R (by simp) (by simp)
  have eY : ∀ (r0 b b' b2 : Option Row) (R : Heap), frz 6 (r0 :: (YA ++ b :: (YB ++ b' :: (YC ++ b2 :: (YX ++ (YY ++ R)))))) (AVal.agg [AVal.sl y1 0 Y.g.length, AVal.sl y2 0 Y.p.length, AVal.sl y3 0 Y.lo.length, AVal.sl y4 0 Y.hi.length]) = Fv Y := fun r0 b b' b2 R => fy.frz (r0 :: (YA ++ b :: (YB ++ b' :: (YC ++ b2 :: YX)))) R (by simp) (by simp)
  have hco : HuOK X [X, Y, C] := fun f hf => by
    have gx := ixa.g
    have px := ixa.p
    simp only [List.mem_cons, List.not_mem_nil, or_false] at hf
    rcases hf with rfl | rfl | rfl
    · exact ⟨ox, rfl, rfl⟩
    · exact ⟨oy, by rw [iya.g, gx], by rw [iya.p, px]⟩
    · exact ⟨oc, by rw [icb.g, iba.g, gx], by rw [icb.p, iba.p, px]⟩
  have hE0 : hullE [X, Y, C] = 0 := by rw [hullE_of (f0 := X) rfl, if_neg (by simp)]; exact hullGo_ok.2 hco
  obtain ⟨oH, Hg, Hp, ixH, iH⟩ := hullTo_ok ox (r := [Y, C]) fun f hf => hco f (List.mem_cons_of_mem _ hf)
  have iHA : InF (hullTo X [Y, C]) A := hullTo_in ixa fun f hf => by
    simp only [List.mem_cons, List.not_mem_nil, or_false] at hf
    rcases hf with rfl | rfl
    · exact iya
    · exact icb.trans iba
  have kH := Hull_run (l := [X, Y, C]) (f0 := X) rfl (fun f hf => by
    simp only [List.mem_cons, List.not_mem_nil, or_false] at hf
    rcases hf with rfl | rfl | rfl <;> omega) (by simp) hE0 oH.faP.pure
  rw [show List.drop 1 [X, Y, C] = [Y, C] from rfl] at kH
  have iyH := iH Y (by simp)
  have icH := iH C (by simp)
  have zH : (hullTo X [Y, C]).g.length ≤ 5 ∧ (hullTo X [Y, C]).p.length ≤ 5 := ⟨by rw [Hg]; omega, by rw [Hp]; omega⟩
  have zH3 := oH.llen
  have zH4 := oH.hlen
  generalize hullTo X [Y, C] = H at *
  refine cFD kH (huC_pure oH.faP.pure) 7 ⟨.inl ?_, trivial⟩ ?_
  · refine Eq.trans (frz_cells (n := 3) (g := false) (sz := 4) (es := [AVal.agg [AVal.sl x1 0 X.g.length, AVal.sl x2 0 X.p.length, AVal.sl x3 0 X.lo.length, AVal.sl x4 0 X.hi.length], AVal.agg [AVal.sl y1 0 Y.g.length, AVal.sl y2 0 Y.p.length, AVal.sl y3 0 Y.lo.length, AVal.sl y4 0 Y.hi.length], AVal.agg [AVal.sl c1 0 C.g.length, AVal.sl c2 0 C.p.length, AVal.sl c3 0 C.lo.length, AVal.sl c4 0 C.hi.length]]) ?_ rfl) ?_
    · simp only [go_sem]
    simp only [List.map_cons, List.map_nil, eX, eY, eC, huL]
  simp only [List.length_cons, List.length_append, List.length_nil, Nat.zero_add, thaw_huC]
  have fh := atF_thaw oH.faP.pure (YA.length + (YB.length + (YC.length + (YX.length + (YY.length + 1 + 1 + 1) + 1) + 1) + 1) + 1)
  obtain ⟨h1, h2, h3, h4, eh⟩ := thaw_fv H (YA.length + (YB.length + (YC.length + (YX.length + (YY.length + 1 + 1 + 1) + 1) + 1) + 1) + 1)
  simp only [eh] at fh ⊢
  generalize (thaw 6 (YA.length + (YB.length + (YC.length + (YX.length + (YY.length + 1 + 1 + 1) + 1) + 1) + 1) + 1) (Fv H)).2 = YH at *
  have eH : ∀ (r0 b b' b2 b3 b4 b5 : Option Row) (R : Heap), frz 6 (r0 :: (YA ++ b :: (YB ++ b' :: (YC ++ b2 :: (YX ++ (YY ++ b3 :: b4 :: b5 :: (YH ++ R))))))) (AVal.agg [AVal.sl h1 0 H.g.length, AVal.sl h2 0 H.p.length, AVal.sl h3 0 H.lo.length, AVal.sl h4 0 H.hi.length]) = Fv H := fun r0 b b' b2 b3 b4 b5 R => fh.frz (r0 :: (YA ++ b :: (YB ++ b' :: (YC ++ b2 :: (YX ++ (YY ++ [b3, b4, b5])))))) R (by simp) (by simp)
  have kC := Check_run H (by omega) (by omega) (by omega) (by omega)
  rw [fam_iff.2 oH] at kC
  have iHX := Inside_run H X (by omega) (by omega) (by omega) (by omega) (by omega) (by omega) (by omega) (by omega)
  rw [insB_wn oH ox ixH] at iHX
  have iHY := Inside_run H Y (by omega) (by omega) (by omega) (by omega) (by omega) (by omega) (by omega) (by omega)
  rw [insB_wn oH oy iyH] at iHY
  have iHC := Inside_run H C (by omega) (by omega) (by omega) (by omega) (by omega) (by omega) (by omega) (by omega)
  rw [insB_wn oH oc icH] at iHC
  have iAH := Inside_run A H (by omega) (by omega) (by omega) (by omega) (by omega) (by omega) (by omega) (by omega)
  rw [insB_wn oa oH iHA] at iAH
  simp only [go_sem, List.append_assoc, List.cons_append, List.nil_append]
  refine cF kC 6 ⟨.inl (eH _ _ _ _ _ _ _ _), trivial⟩ ?_
  simp only [go_sem, List.append_assoc, List.cons_append, List.nil_append]
  refine cF iHX 6 ⟨.inl (eH _ _ _ _ _ _ _ _), .inl (eX _ _ _ _ _), trivial⟩ ?_
  simp only [go_sem, List.append_assoc, List.cons_append, List.nil_append]
  refine cF iHY 6 ⟨.inl (eH _ _ _ _ _ _ _ _), .inl (eY _ _ _ _ _), trivial⟩ ?_
  simp only [go_sem, List.append_assoc, List.cons_append, List.nil_append]
  refine cF iHC 6 ⟨.inl (eH _ _ _ _ _ _ _ _), .inl (eC _ _ _ _), trivial⟩ ?_
  simp only [go_sem, List.append_assoc, List.cons_append, List.nil_append]
  refine cF iAH 6 ⟨.inl (eA _ _), .inl (eH _ _ _ _ _ _ _ _), trivial⟩ ?_
  simp only [go_sem, List.append_assoc, List.cons_append, List.nil_append]
  refine cP awake_ok ?_
  simp only [go_sem]
end Go.Proofs

