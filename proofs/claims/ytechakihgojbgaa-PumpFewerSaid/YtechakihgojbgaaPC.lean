/- A part of the proof. -/
import Derived.Test.YtechakihgojbgaaPB
set_option linter.unusedSimpArgs false
set_option linter.unusedVariables false
namespace Go.Proofs
open Go Go.Sx
attribute [local irreducible] Run

def ofL (l : List Nat) : List AVal := l.map fun k : Nat => AVal.int .i64 (k : Int)
def inV (b : Nat) (l : List Nat) : AVal := if l = [] then .nilsl else .sl (b + 2) 0 l.length
def inH (g0 : Row) (l : List Nat) (K : Heap) : Heap := if l = [] then [] else some g0 :: some (.cells true 1 (ofL l)) :: K
theorem cells_more {H : Heap} {j : Nat} {r : Bool × Nat × List AVal} (h : H.cellsAt j = some r) (Y : Heap) : (H ++ Y).cellsAt j = some r := by
  unfold Heap.cellsAt at *
  rcases hj : H[j]? with _ | _ | x
  · rw [hj] at h; simp at h
  · rw [hj] at h; simp at h
  · rw [List.getElem?_append_left (List.getElem?_eq_some_iff.1 hj).1, hj]
    rw [hj] at h
    exact h
theorem put_more {H : Heap} {j : Nat} (h : j < H.length) (Y : Heap) (x : Row) : Heap.put (H ++ Y) j x = H.set j (some x) ++ Y := by
  rw [put_lt (by simp; omega), List.set_append_left _ _ h]
theorem inV_sl (b : Nat) (l : List Nat) : inV b l = .nilsl ∨ ∃ x y z, inV b l = .sl x y z := by
  unfold inV; split
  · exact .inl rfl
  · exact .inr ⟨_, _, _, rfl⟩
def hT0 (m k : Int) : List (Nat × AVal) := [(0, .ptr 0 0 0 1), (6, .ptr 1 0 0 1), (7, .ptr 2 0 0 1)]
def hH (w : Int) (n : Nat) (vT : AVal) (J : Heap) : Heap := some (Dr w) :: some (.cells false 2 [.agg [.int .i64 0, .nilsl]]) :: some (.cells false 2 [.agg [.int .i64 n, vT]]) :: J
def inT (i : Int) (b k : Nat) : List (Nat × AVal) := [(0, .ptr 0 0 0 1), (6, .ptr 1 0 0 1), (7, .ptr 2 0 0 1), (8, .int .i64 i), (9, .ptr (b + 3) 0 0 1), (10, .int .i64 k)]
def tb (b : Nat) (l : List Nat) (c : Int) : Row := .cells false 2 [.agg [inV (b + 3) l, .int .i64 c]]
set_option maxHeartbeats 4000000 in
set_option maxRecDepth 20000 in
theorem in_loop {G : Ctx} {k : Nat} {fs : List Sx.Frame} {Q : Go.Sx.Goal} (i : Int) (w : Int) (n : Nat) (hn : n ≤ 1000) (vT : AVal) (J : Heap) (c : Int)
    (hQ : ∀ g0 K, Run Try.prog G k none 2986 (.out .normal) fs ⟨tsets 50 (inT i J.length n ++ [(29, .int .i64 n), (30, .ptr 2 0 0 1), (31, .int .i64 n), (32, .bool false)]), hH (dstp n w) n vT (J ++ some (tb J.length (ofS w n) c) :: inH g0 (ofS w n) K), []⟩ Q) (hk : k ≤ 3) :
    ∀ ρ', Wk ρ' (tsets 50 (inT i J.length 0)) → Sx.Loop Try.prog G k none k_kit_HuntOf_r12 (.blk 2 :: fs) ⟨ρ', hH w n vT (J ++ [some (tb J.length [] c)]), []⟩ Q := by
  intro ρ' hw
  refine loop_ind k_kit_HuntOf_r12.eq_1 (fun a : Nat × Row × Heap => a.1 ≤ n) (fun a => n - a.1)
    (fun a => (tsets 50 (inT i J.length a.1), hH (dstp a.1 w) n vT (J ++ some (tb J.length (ofS w a.1) c) :: inH a.2.1 (ofS w a.1) a.2.2))) (0, .dfr, []) (Nat.zero_le _) hw (by simp [ofS, inH, dstp]) ?_
  rintro ⟨q, g0, K⟩ hq ih
  dsimp only at hq ih ⊢
  by_cases q1 : q < n
  · have q2 : (q : Int) < n := by omega
    have w5 : IntKind.i64.wrap ((q : Int) + 1) = ((q + 1 : Nat) : Int) := by rw [w64 (by omega)]; rfl
    have ihk := fun g K => ih (q + 1, g, K) (by simp only; omega) q1
    clear ih
    dsimp only at ihk
    have ll : (ofS w q).length ≤ q := (ofS_asc w q).len
    have k1 := one_ok (dstp q w) 2 (by decide)
    by_cases u : upto (dstp q w) 2 = 0
    · have e : ofS w (q + 1) = ofS w q ++ [q] := by rw [ofS, if_pos u]
      rw [e, show dstp (q + 1) w = dstep (dstp q w) from rfl] at ihk
      rw [show (upto (dstp q w) 2 == 0) = true by rw [u]; rfl] at k1
      generalize ofS w q = l at *
      generalize dstp q w = w' at *
      have ne : ¬ (l ++ [q] = []) := by simp
      have ol : (ofL l).length = l.length := by simp [ofL]
      have oe : ofL (l ++ [q]) = ofL l ++ [.int .i64 q] := by simp [ofL]
      simp only [hH, tb, inV, inH, ne, if_false, oe, List.length_append, List.length_cons, List.length_nil, Nat.zero_add] at ihk
      have eb : (l.length + 1) * 8 ≤ 2 ^ 44 := by omega
      by_cases l0 : l = []
      · subst l0
        simp only [go_sem, inT, hH, tb, inV, inH, q2, if_true]
        refine cD k1 ?_ (hk := by simp; omega)
        simp only [go_sem, w5]
        refine ⟨by decide, ?_⟩
        exact ihk (.cells false 1 [.int .i64 q]) [] _ (by simp [go_sem, inT])
      · simp only [go_sem, inT, hH, tb, inV, inH, q2, l0, if_false]
        refine cD k1 ?_ (hk := by simp; omega)
        simp only [go_sem, w5]
        refine ⟨⟨ol.symm, eb⟩, ?_⟩
        exact ihk g0 _ _ (by simp [go_sem, inT])
    · have e : ofS w (q + 1) = ofS w q := by rw [ofS, if_neg u]
      rw [e, show dstp (q + 1) w = dstep (dstp q w) from rfl] at ihk
      rw [show (upto (dstp q w) 2 == 0) = false from beq_eq_false_iff_ne.2 u] at k1
      generalize ofS w q = l at *
      generalize dstp q w = w' at *
      simp only [hH, tb] at ihk
      simp only [go_sem, inT, hH, tb, q2]
      refine cD k1 ?_ (hk := by simp; omega)
      simp only [go_sem, w5]
      exact ihk g0 K _ (by simp [go_sem, inT])
  · obtain rfl : q = n := by omega
    have q2 : ¬ (q : Int) < q := by omega
    clear ih
    simp only [go_sem, inT, hH, tb, q2]
    have h := hQ g0 K
    simp only [go_sem, inT, hH, tb] at h
    exact h
def TSt (J : Heap) (vT : AVal) (ts : List Tr) : Prop := (ts = [] ∧ vT = .nilsl) ∨ (ts ≠ [] ∧ ∃ r vs κ, vT = .sl (r + 3) 0 ts.length ∧ J[r]? = some (some (.cells true 2 vs)) ∧ (∀ H : Heap, H.length = 3 → All3 (Dat 4 (H ++ J)) κ vs (ts.map trC)) ∧ (κ ++ [r + 3]).Nodup ∧ ∀ q ∈ κ ++ [r + 3], 3 ≤ q)
theorem all3_two {H : Heap} {d : Nat} {κ : List Nat} {v c : AVal} {n : Int} (h : Dat (d + 1) H κ v c) : All3 (Dat (d + 1) H) κ [.int .i64 n, v] [.int .i64 n, c] := by
  have a : All3 (Dat (d + 1) H) ([] ++ [] ++ κ) ([] ++ [.int .i64 n] ++ [v]) ([] ++ [.int .i64 n] ++ [c]) := .snoc h (.snoc (.int d H .i64 n) (by exact rfl))
  simpa using a
theorem all3_two' {H : Heap} {d : Nat} {κ : List Nat} {v c : AVal} {n : Int} (h : Dat (d + 1) H κ v c) : All3 (Dat (d + 1) H) κ [v, .int .i64 n] [c, .int .i64 n] := by
  have a : All3 (Dat (d + 1) H) ([] ++ κ ++ []) ([] ++ [v] ++ [.int .i64 n]) ([] ++ [c] ++ [.int .i64 n]) := .snoc (.int d H .i64 n) (.snoc h (by exact rfl))
  simpa using a
def elK (b : Nat) (l : List Nat) : List Nat := if l = [] then [] else [b + 5]
theorem elem_dat {H A rest K : Heap} {g0 : Row} {t0 : Option Row} {b : Nat} {l : List Nat} {c : Int} (hH : H.length = 3) (hA : A.length = b) : Dat 4 (H ++ (A ++ t0 :: (inH g0 l K ++ rest))) (elK b l) (.agg [inV (b + 3) l, .int .i64 c]) (trC ⟨l, c⟩) := by
  refine ⟨_, rfl, all3_two' ?_⟩
  unfold elK inV ofC inH
  by_cases h : l = []
  · simp only [h, if_true]
    exact Dat.leaf rfl
  · simp only [h, if_false]
    refine Dat.list (κ := []) (vs := ofL l) (sz := 1) (by simpa using h) (by simp) ?_ ?_ (of_all3 _ 1 l)
    · match l, h with
      | q :: l, _ => rfl
    · rw [List.getElem?_append_right (by omega), List.getElem?_append_right (by omega), hH, hA, show b + 3 + 2 - 3 - b = 2 by omega]
      rfl
theorem elK_in {b : Nat} {l : List Nat} : ∀ q ∈ elK b l, q = b + 5 := fun q hq => by
  unfold elK at hq
  split at hq
  · simp at hq
  · simpa using hq
theorem elK_nodup (b : Nat) (l : List Nat) : (elK b l).Nodup := by
  unfold elK; split <;> simp
theorem tst_nil {J K : Heap} {g0 bs : Row} {t0 : Option Row} {l : List Nat} {c : Int} {X : Nat} (hX : X = J.length + ((inH g0 l K).length + 1 + 1)) :
    TSt (J ++ t0 :: (inH g0 l K ++ [some bs, some (.cells true 2 [.agg [inV (J.length + 3) l, .int .i64 c]])])) (.sl (X + 3) 0 1) [⟨l, c⟩] := by
  refine .inr ⟨by simp, X, [.agg [inV (J.length + 3) l, .int .i64 c]], elK J.length l, rfl, ?_, fun H hH => ?_, ?_, ?_⟩
  rotate_left
  · have := All3.snoc (elem_dat (A := J) (g0 := g0) (K := K) (l := l) (c := c) (t0 := t0) (rest := [some bs, some (.cells true 2 [.agg [inV (J.length + 3) l, .int .i64 c]])]) hH rfl) (ι := []) (vs := []) (es := []) (by exact rfl)
    simpa using this
  · rw [List.nodup_append]
    refine ⟨elK_nodup _ _, by simp, fun a ha b hb => ?_⟩
    have h1 := elK_in a ha
    have h2 : b = X + 3 := by simpa using hb
    have h3 : l ≠ [] := fun e => by rw [e] at ha; simp [elK] at ha
    have h4 : (inH g0 l K).length = K.length + 2 := by simp [inH, h3]
    omega
  · intro q hq
    rcases List.mem_append.1 hq with h | h
    · have := elK_in q h; omega
    · have : q = X + 3 := by simpa using h
      omega
  · rw [List.getElem?_append_right (by omega), hX, Nat.add_sub_cancel_left, List.getElem?_cons_succ, List.getElem?_append_right (by omega), Nat.add_sub_cancel_left]
    rfl
theorem tst_more {J K : Heap} {g0 bs : Row} {t0 : Option Row} {l : List Nat} {c : Int} {ts : List Tr} {r : Nat} {vs : List AVal} {κ : List Nat} (h0 : ts ≠ []) (hr : J[r]? = some (some (.cells true 2 vs)))
    (hd : ∀ H : Heap, H.length = 3 → All3 (Dat 4 (H ++ J)) κ vs (ts.map trC)) (hn : (κ ++ [r + 3]).Nodup) (hge : ∀ q ∈ κ ++ [r + 3], 3 ≤ q) :
    TSt (J.set r (some (.cells true 2 (vs ++ [.agg [inV (J.length + 3) l, .int .i64 c]]))) ++ t0 :: (inH g0 l K ++ [some bs])) (.sl (r + 3) 0 (ts.length + 1)) (ts ++ [⟨l, c⟩]) := by
  have hlt := (List.getElem?_eq_some_iff.1 hr).1
  rw [List.nodup_append] at hn
  have kl : ∀ q ∈ κ, q < J.length + 3 := by
    have := hd [none, none, none] rfl
    intro q hq
    have h2 : Dat 5 ([none, none, none] ++ J) κ (.agg vs) (.agg (ts.map trC)) := ⟨vs, rfl, this⟩
    have := h2.lt q hq
    simp only [List.length_append, List.length_cons, List.length_nil] at this
    omega
  refine .inr ⟨by simp, r, vs ++ [.agg [inV (J.length + 3) l, .int .i64 c]], κ ++ elK J.length l, by simp, ?_, fun H hH => ?_, ?_, ?_⟩
  · rw [List.getElem?_append_left (by simpa using hlt), List.getElem?_set_self hlt]
  · rw [List.map_append]
    refine All3.snoc (elem_dat hH (by simp)) ?_
    have h2 : Dat 5 (H ++ J) κ (.agg vs) (.agg (ts.map trC)) := ⟨vs, rfl, hd H hH⟩
    have h3 : Dat 5 (H ++ (J.set r (some (.cells true 2 (vs ++ [.agg [inV (J.length + 3) l, .int .i64 c]]))) ++ t0 :: (inH g0 l K ++ [some bs]))) κ (.agg vs) (.agg (ts.map trC)) := h2.congr fun q hq => by
      have q1 := kl q hq
      have q2 := hge q (by simp [hq])
      have q3 : q ≠ r + 3 := fun e => hn.2.2 q hq (r + 3) (by simp) e
      have q4 : H.length ≤ q := by omega
      rw [List.getElem?_append_right q4, List.getElem?_append_right q4, hH, List.getElem?_append_left (by rw [List.length_set]; omega), List.getElem?_set_ne (by omega)]
    obtain ⟨vs', e, h4⟩ := h3
    cases e
    exact h4
  · rw [List.append_assoc, List.nodup_append]
    refine ⟨hn.1, ?_, fun a ha b hb => ?_⟩
    · rw [List.nodup_append]
      refine ⟨elK_nodup _ _, by simp, fun a ha b hb => ?_⟩
      have := elK_in a ha
      have : b = r + 3 := by simpa using hb
      omega
    · have k1 := kl a ha
      rcases List.mem_append.1 hb with h | h
      · have := elK_in b h; omega
      · exact hn.2.2 a ha b h
  · intro q hq
    simp only [List.mem_append] at hq
    rcases hq with (h | h) | h
    · exact hge q (by simp [h])
    · have := elK_in q h; omega
    · exact hge q (by simp only [List.mem_append]; exact .inr h)
theorem tst_dat {J : Heap} {vT : AVal} {ts : List Tr} (h : TSt J vT ts) {H : Heap} (hH : H.length = 3) : ∃ ι, Dat 5 (H ++ J) ι vT (tsC ts) ∧ ι.Nodup ∧ ∀ q ∈ ι, 3 ≤ q := by
  rcases h with ⟨rfl, rfl⟩ | ⟨h0, r, vs, κ, rfl, hr, hd, hn, hge⟩
  · exact ⟨[], .leaf rfl, by simp, fun q hq => by simp at hq⟩
  · refine ⟨κ ++ [r + 3], ?_, hn, hge⟩
    unfold tsC
    rw [if_neg h0]
    refine Dat.list (sz := 2) (by simpa using h0) (by simp) ?_ ?_ (hd H hH)
    · match ts, h0 with
      | t :: ts, _ => rfl
    · rw [List.getElem?_append_right (by omega), hH, Nat.add_sub_cancel]; exact hr
theorem le12 {N k : Nat} (u : 0 ≤ (N : Int) ∧ (N : Int) < k + 1) (hk : k ≤ 11) : N ≤ 12 := by omega
theorem b32 {x j N : Nat} (h : x = j) (hj : j < N) (hN : N ≤ 12) : (x + 1) * 32 ≤ 2 ^ 44 := by omega
theorem n1000 {n m : Nat} (b : 1 ≤ (n : Int) ∧ (n : Int) ≤ m) (hm : 1 ≤ m ∧ m ≤ 12) : n ≤ 1000 := by omega
theorem j_gt {j N : Nat} (h : j < N) : (N : Int) - j > 0 := by omega
theorem j_wr {j N : Nat} (h : j < N) (hN : N ≤ 12) : IntKind.i64.wrap ((N : Int) - j - 1) = (N : Int) - ((j + 1 : Nat) : Int) := by rw [w64 (by omega)]; omega
theorem one3 : (1 : Nat) ≤ 3 := by decide
set_option maxHeartbeats 8000000 in
set_option maxRecDepth 20000 in
theorem HuntOf_fn (w : Int) {m k : Nat} (hm : 1 ≤ m ∧ m ≤ 12) (hk : k ≤ 11) : Go.Sx.Fn Try.prog n_kit_HuntOf [.ptr 0 0 0 1, .int .i64 m, .int .i64 k] [some (Dr w)] fun v H' => ∃ ι, Dat 6 H' ι v (htC (hnN w m) (hnT w m k).1) ∧ ι.Nodup ∧ 0 ∉ ι ∧ H'[0]? = some (some (Dr (hnT w m k).2)) := by
  have b1 := btw_in (w := w) (lo := 1) (hi := m) (by omega)
  have u1 := upto_in (w := dstep w) (n := k + 1) (by omega)
  have kb := between_ok w 1 m (by decide) (by omega) (by omega)
  have ku := upto_ok (dstep w) (k + 1) (by omega)
  have wk : IntKind.i64.wrap ((k : Int) + 1) = (k : Int) + 1 := w64 (by omega)
  unfold hnT hnN
  obtain ⟨n, hn⟩ : ∃ n : Nat, btw w 1 m = n := ⟨(btw w 1 m).toNat, by omega⟩
  obtain ⟨N, hN⟩ : ∃ N : Nat, upto (dstep w) (k + 1) = N := ⟨(upto (dstep w) (k + 1)).toNat, by omega⟩
  rw [hn] at kb b1 ⊢
  rw [hN] at ku u1 ⊢
  simp only [Int.toNat_natCast]
  have hN12 := le12 u1 hk
  have hn1000 := n1000 b1 hm
  generalize dstep (dstep w) = w2 at *
  refine run_fn e_kit_HuntOf fun G => ?_
  simp only [go_sem]
  refine cD kb ?_
  simp only [go_sem, wk]
  refine cD ku ?_
  simp only [go_sem]
  refine loop_ind k_kit_HuntOf_r15.eq_1 (fun a : Nat × AVal × Heap => a.1 ≤ N ∧ TSt a.2.2 a.2.1 (tsS n w2 a.1).1) (fun a => N - a.1)
    (fun a => (tsets 50 (hT0 0 0 ++ [(8, .int .i64 ((N : Int) - a.1))]), hH (tsS n w2 a.1).2 n a.2.1 a.2.2)) (0, .nilsl, []) ⟨Nat.zero_le _, .inl ⟨rfl, rfl⟩⟩ (by simp [go_sem, hT0]) (by simp [hH, tsS]) ?_
  rintro ⟨j, vT, J⟩ ⟨hj, hT⟩ ih
  dsimp only at hj hT ih ⊢
  by_cases j1 : j < N
  · have j2 : (N : Int) - j > 0 := j_gt j1
    have w5 : IntKind.i64.wrap ((N : Int) - j - 1) = (N : Int) - ((j + 1 : Nat) : Int) := j_wr j1 hN12
    have ihk := fun v J' h => ih (j + 1, v, J') (by simp only; omega) ⟨j1, h⟩
    clear ih
    dsimp only at ihk
    simp only [tsS, trS, trW] at ihk
    have tl := (tsS_ok n w2 j).1
    generalize tsS n w2 j = st at *
    have k1 := upto_ok st.2 9 (by decide)
    have k2 := one_ok (dstep st.2) 2 (by decide)
    simp only [go_sem, hT0, hH, j2]
    refine cD k1 ?_
    simp only [go_sem]
    refine cD k2 ?_
    simp only [go_sem]
    refine ⟨fun u => ?_, fun u => ?_⟩
    · have ec : (if upto (dstep st.2) 2 = 0 then (1 : Int) else upto st.2 9) = 1 := if_pos u
      rw [ec] at ihk
      refine in_loop ((N : Int) - j) (dstep (dstep st.2)) n hn1000 vT J (1) ?_ one3 _ (by simp [go_sem, inT])
      intro g0 K
      generalize ofS (dstep (dstep st.2)) n = l at *
      generalize dstp n (dstep (dstep st.2)) = w3 at *
      generalize (1 : Int) = cst at *
      rcases hT with ⟨t0, rfl⟩ | ⟨t0, r, vs, κ, rfl, hr, hd, hnd, hge⟩
      · rw [t0] at ihk
        simp only [go_sem, inT, hH, tb, w5]
        refine ⟨by rcases inV_sl (J.length + 3) l with h | ⟨_, _, _, h⟩ <;> rw [h], by rcases inV_sl (J.length + 3) l with h | ⟨_, _, _, h⟩ <;> rw [h] <;> simp, by decide, ?_⟩
        refine ihk _ _ ?_ _ ?_
        rotate_left
        · simp [go_sem, hT0]
        · exact tst_nil (by simp)
      · have hc := fun L => cells_more (cells_at hr) L
        have hp := fun L x => put_more (H := J) (List.getElem?_eq_some_iff.1 hr).1 L x
        have vl : st.1.length = vs.length := by have := (hd [none, none, none] rfl).len; rw [List.length_map] at this; exact this.symm
        simp only [go_sem, inT, hH, tb, w5, hc, hp]
        refine ⟨by rcases inV_sl (J.length + 3) l with h | ⟨_, _, _, h⟩ <;> rw [h], by rcases inV_sl (J.length + 3) l with h | ⟨_, _, _, h⟩ <;> rw [h] <;> simp, ⟨vl, b32 tl j1 hN12⟩, ?_⟩
        refine ihk _ _ ?_ _ ?_
        rotate_left
        · simp [go_sem, hT0]
        · exact tst_more t0 hr hd hnd hge
    · have ec : (if upto (dstep st.2) 2 = 0 then (1 : Int) else upto st.2 9) = upto st.2 9 := if_neg u
      rw [ec] at ihk
      refine in_loop ((N : Int) - j) (dstep (dstep st.2)) n hn1000 vT J (upto st.2 9) ?_ one3 _ (by simp [go_sem, inT])
      intro g0 K
      generalize ofS (dstep (dstep st.2)) n = l at *
      generalize dstp n (dstep (dstep st.2)) = w3 at *
      generalize (upto st.2 9 : Int) = cst at *
      rcases hT with ⟨t0, rfl⟩ | ⟨t0, r, vs, κ, rfl, hr, hd, hnd, hge⟩
      · rw [t0] at ihk
        simp only [go_sem, inT, hH, tb, w5]
        refine ⟨by rcases inV_sl (J.length + 3) l with h | ⟨_, _, _, h⟩ <;> rw [h], by rcases inV_sl (J.length + 3) l with h | ⟨_, _, _, h⟩ <;> rw [h] <;> simp, by decide, ?_⟩
        refine ihk _ _ ?_ _ ?_
        rotate_left
        · simp [go_sem, hT0]
        · exact tst_nil (by simp)
      · have hc := fun L => cells_more (cells_at hr) L
        have hp := fun L x => put_more (H := J) (List.getElem?_eq_some_iff.1 hr).1 L x
        have vl : st.1.length = vs.length := by have := (hd [none, none, none] rfl).len; rw [List.length_map] at this; exact this.symm
        simp only [go_sem, inT, hH, tb, w5, hc, hp]
        refine ⟨by rcases inV_sl (J.length + 3) l with h | ⟨_, _, _, h⟩ <;> rw [h], by rcases inV_sl (J.length + 3) l with h | ⟨_, _, _, h⟩ <;> rw [h] <;> simp, ⟨vl, b32 tl j1 hN12⟩, ?_⟩
        refine ihk _ _ ?_ _ ?_
        rotate_left
        · simp [go_sem, hT0]
        · exact tst_more t0 hr hd hnd hge
  · obtain rfl : j = N := by omega
    have j2 : ¬ (j : Int) - j > 0 := by omega
    clear ih
    generalize tsS n w2 j = st at *
    have vt : ∀ A B : Prop, A ∧ B → A ∧ B := fun _ _ h => h
    simp only [go_sem, hT0, hH, j2]
    obtain ⟨ι, d1, d2, d3⟩ := tst_dat hT (H := [some (Dr st.2), some (.cells false 2 [.agg [.int .i64 n, vT]]), some (.cells false 2 [.agg [.int .i64 n, vT]])]) rfl
    refine ⟨?_, ι, ⟨_, rfl, all3_two d1⟩, d2, fun h => by have := d3 0 h; omega⟩
    rcases hT with ⟨_, rfl⟩ | ⟨_, r, vs, κ, rfl, _⟩ <;> rfl
theorem HuntOf_run (w : Int) {m k : Nat} (hm : 1 ≤ m ∧ m ≤ 12) (hk : k ≤ 11) : Ans Try.prog n_kit_HuntOf [.ptr 0 0 0 1, .int .i64 m, .int .i64 k] [some (Dr w)] (thaw 6 1 (htC (hnN w m) (hnT w m k).1)).1 (some (Dr (hnT w m k).2) :: (thaw 6 1 (htC (hnN w m) (hnT w m k).1)).2) :=
  ans_dat (htC_pure _ _) (dr_bel _ _) (HuntOf_fn w hm hk)
end Go.Proofs

namespace Go.Proofs
open Go Go.Sx
attribute [local irreducible] Run

def Vle (v u : AVal) : Prop := ∀ (G : Ctx) (μ : Mu) (c : Value), VR G μ v c → VR G μ u c
theorem Vle.rfl {v : AVal} : Vle v v := fun _ _ _ h => h
def Vles : List AVal → List AVal → Prop
  | [], [] => True
  | v :: vs, u :: us => Vle v u ∧ Vles vs us
  | _, _ => False
theorem Vles.len : ∀ {vs us : List AVal}, Vles vs us → vs.length = us.length
  | [], [], _ => Eq.refl 0
  | _ :: _, _ :: _, h => congrArg (· + 1) h.2.len
  | [], _ :: _, h => h.elim
  | _ :: _, [], h => h.elim
theorem Vles.get : ∀ {vs us : List AVal}, Vles vs us → ∀ i, Vle (vs.getD i .any) (us.getD i .any)
  | [], [], _, i => by simp; exact .rfl
  | v :: vs, u :: us, h, 0 => by simpa using h.1
  | v :: vs, u :: us, h, i + 1 => by simpa using h.2.get i
  | [], _ :: _, h, _ => h.elim
  | _ :: _, [], h, _ => h.elim
theorem ans_vle {P : Program} {g : FuncId} {args args' : List AVal} {LH LH' : Heap} {r : AVal} (h : Ans P g args LH r LH') (hw : Vles args' args) : Ans P g args' LH r LH' :=
  h.weak hw.len fun G μ i c _ hv => hw.get i G μ c hv

theorem vr_cells {G : Ctx} {μ : Mu} {es us : List AVal} (hl : us.length = es.length) (hc : ∀ i, i < es.length → (acells (us.getD i .any)).length = (acells (es.getD i .any)).length)
    (hv : ∀ i j c, i < es.length → VR G μ ((acells (es.getD i .any)).getD j .any) c → VR G μ ((acells (us.getD i .any)).getD j .any) c) {c : Value} (h : VR G μ (.view es) c) : VR G μ (.view us) c := by
  cases h with
  | viewnil a cap =>
    have : us = [] := List.eq_nil_of_length_eq_zero (by simpa using hl)
    rw [this]; exact .viewnil a cap
  | view es b o sz cap f hb hcap hs hf hv' =>
    rw [← hl]
    refine .view us b o sz cap f hb (by omega) (fun i hi => ?_) (fun i j hi hj => hf i j (by omega) hj) fun i j hi hj => ?_
    · rw [hc i (by omega)]; exact hs i (by omega)
    · exact hv i j _ (by omega) (hv' i j (by omega) hj)
theorem vle_ofC (l : List Nat) : Vle (ofC l) (nvw l) := fun G μ c h => by
  unfold ofC at h
  split at h
  · rename_i e; subst e; cases h; exact .viewnil none 0
  · exact h
theorem vle_tsC (ts : List Tr) : Vle (tsC ts) (.view (ts.map Tr.v)) := fun G μ c h => by
  unfold tsC at h
  split at h
  · rename_i e; subst e; cases h; exact .viewnil none 0
  · refine vr_cells (by simp) (fun i hi => ?_) (fun i j c hi hv => ?_) h
    · have hi' : i < ts.length := by simpa using hi
      have a : (ts.map trC).getD i .any = trC ts[i] := by simp [List.getD_eq_getElem?_getD, List.getElem?_eq_getElem hi']
      have b : (ts.map Tr.v).getD i .any = Tr.v ts[i] := by simp [List.getD_eq_getElem?_getD, List.getElem?_eq_getElem hi']
      rw [a, b]; rfl
    · have hi' : i < ts.length := by simpa using hi
      have a : (ts.map trC).getD i .any = trC ts[i] := by simp [List.getD_eq_getElem?_getD, List.getElem?_eq_getElem hi']
      have b : (ts.map Tr.v).getD i .any = Tr.v ts[i] := by simp [List.getD_eq_getElem?_getD, List.getElem?_eq_getElem hi']
      rw [a] at hv
      rw [b]
      match j with
      | 0 => exact vle_ofC _ G μ c hv
      | 1 => exact hv
      | j + 2 => exact hv
theorem vle_htC (n : Nat) (ts : List Tr) : Vle (htC n ts) (huntV n ts) := fun G μ c h => by
  unfold htC at h
  generalize e : [AVal.int .i64 n, tsC ts] = cs at h
  cases h with
  | agg _ vs hl hv =>
    subst e
    refine .agg _ vs (by simpa using hl) fun i hi => ?_
    have := hv i (by simpa using hi)
    match i, hi with
    | 0, _ => exact this
    | 1, _ => exact vle_tsC ts G μ _ this
def wTup (p : Pl) : AVal := .tup (if p.told = true then [.int .i64 p.cost, .int .i64 p.trial, .int .i64 0] else [.int .i64 0, .int .i64 0, .int .i64 15])
set_option maxHeartbeats 4000000 in
set_option maxRecDepth 20000 in
theorem plan_nil {s : Nat} (hs : s < 65536) : Ans Try.prog n_pump_hunter_plan [.agg [.nilsl, .nilsl, .mp 0], .int .u16 (s : Int)] [some (mrow [])] (planF [] [] (s + 1) s []).1.v [some (mrow (planF [] [] (s + 1) s []).2)] := by
  have k1 := isOne_run hs
  rw [planF]
  refine spec_run e_pump_hunter_plan fun G => ?_
  simp only [go_sem]
  refine cP k1 ?_
  by_cases h1 : one1 s = true
  · rw [if_pos h1, h1]
    simp only [go_sem, Pl.v]
    exact ⟨_, rfl⟩
  rw [if_neg h1]
  rw [Bool.not_eq_true] at h1
  rw [h1]
  simp only [go_sem, mrow, mks, mvs, fnd, List.map_nil, lkV]
  refine loop_body 3000 k_pump_hunter_plan_r14.eq_1 ?_
  simp only [go_sem]
  exact ⟨rfl, _, rfl⟩
theorem mrow_nil_bel (S : Nat → Prop) : Full S [some (mrow [])] := ⟨mrow_bel [], trivial⟩
set_option maxRecDepth 20000 in
theorem newHunter_nil (n : Nat) : Ans Try.prog n_pump_newHunter [.agg [.int .i64 n, .nilsl]] [] (.agg [.nilsl, .nilsl, .mp 0]) [some (mrow [])] := by
  refine Ans.keep ?_ (by simp) ?_ (mrow_nil_bel _)
  · refine run_fn e_pump_newHunter fun G => ?_
    simp only [go_sem]
    refine loop_body 3000 k_pump_newHunter_r8.eq_1 ?_
    simp only [go_sem]
    exact kept_one 2 rfl (mrow_bel []) rfl
  · rw [bel_agg]
    exact ⟨.nilsl, .nilsl, .mp 0 (by decide), trivial⟩
set_option maxHeartbeats 4000000 in
set_option maxRecDepth 20000 in
theorem Worst_nil {n : Nat} (hn : 1 ≤ n ∧ n ≤ 12) {l : List Nat} (hl : Asc n l) (l0 : l ≠ []) : Ans Try.prog n_pump_Worst [.agg [.int .i64 n, .nilsl], nvw l] [] (wTup (plnOf [] (setN l))) [] := by
  have h : HtOK n [] := ⟨hn, by simp, fun t ht => by simp at ht⟩
  have k1 : Ans Try.prog n_pump_CheckHunt [.agg [.int .i64 n, .nilsl]] [] (.int .i64 0) [] := ans_vle (CheckHunt_run h) ⟨by have := vle_htC n []; exact this, trivial⟩
  have k2 := checkNumbers_run (n := n) (by omega) hl
  have k3 := newHunter_nil n
  have k4 := setOf_run (n := n) (by omega) hl.2 (by have := hl.len; omega)
  have sl : setN l < 65536 := setN_lt (n := n) (by omega) hl.2 (by decide)
  have k5 := plan_nil sl
  have lp : 0 < l.length := List.length_pos_iff.2 l0
  have b1 := nvw_bel l (fun _ => False)
  have le : ((l.length : Int) == 0) = false := beq_eq_false_iff_ne.2 (by omega)
  unfold plnOf wTup
  rw [show tof [] = [] from rfl, show tcs [] = [] from rfl]
  generalize planF [] [] (setN l + 1) (setN l) [] = r at *
  refine spec_run e_pump_Worst fun G => ?_
  simp only [nvw] at k2 k4 b1 ⊢
  simp only [go_sem]
  refine cP k1 ?_
  simp only [go_sem, bne, List.length_map, le]
  refine cP k2 ?_ (hb := ⟨b1, by simp only [go_sem], trivial⟩)
  simp only [go_sem, bne]
  have hm : (mrow []).bel (fun _ => False) := mrow_bel []
  have hm2 : (mrow r.2).bel (fun _ => False) := mrow_bel _
  have hb3 : Bel (· < 1) (.agg [.nilsl, .nilsl, .mp 0]) := by rw [bel_agg]; exact ⟨.nilsl, .nilsl, .mp 0 (by decide), trivial⟩
  refine cN1 k3 ?_ (hr := hb3) (hx := hm)
  simp only [go_sem, ren, rens]
  refine cP k4 ?_ (hb := ⟨b1, trivial⟩)
  simp only [go_sem]
  refine callS k5 [1] (by decide) ⟨by rw [Row.ren_same hm]; rfl, trivial⟩ rfl ⟨hb3, by simp only [go_sem], trivial⟩ (mrow_nil_bel _) (Nat.le_refl _) (pl_bel _ _) ⟨mrow_bel _, trivial⟩ (by simp) (by simp) (by simp) ?_
  rw [show outΔ (outσ [1] _) 0 [some (mrow r.2)] = [(1, mrow r.2)] by simp only [outΔ, Row.ren_same hm2]; rfl, ren_same (pl_bel _ _)]
  simp only [go_sem, Pl.v]
  refine ⟨fun a => ?_, fun a => ?_⟩
  · simp only [a]; rfl
  · simp only [a, if_true]
theorem Worst_all {n : Nat} {ts : List Tr} (h : HtOK n ts) {l : List Nat} (hl : Asc n l) (l0 : l ≠ []) : Ans Try.prog n_pump_Worst [htC n ts, ofC l] [] (wTup (plnOf ts (setN l))) [] := by
  by_cases h0 : ts = []
  · subst h0
    exact ans_vle (Worst_nil h.many hl l0) ⟨.rfl, vle_ofC l, trivial⟩
  · exact ans_vle (Worst_run h h0 hl l0) ⟨vle_htC n ts, vle_ofC l, trivial⟩
end Go.Proofs

namespace Go.Proofs
open Go Go.Sx

def k_law06_PumpFewer_r0 : List AOper := [
  ⟨some 2, .move (.const (.bool false)), none, []⟩]
def k_law06_PumpFewer_r1 : List AOper := [
  ⟨some 20, .move (.tmp 0), none, []⟩,
 ⟨some 21, .call (.const (.fn (.func 22) [] [])) [.tmp 20], none, []⟩,
 ⟨some 3, .move (.tmp 21), none, []⟩]
def k_law06_PumpFewer_r2 : List AOper := [
  ⟨some 22, .move (.tmp 3), none, []⟩,
 ⟨some 23, .call (.const (.fn (.func 51) [] [])) [.tmp 22, .const (.int .i64 8), .const (.int .i64 9)], none, []⟩,
 ⟨some 4, .box (.const (.agg [.int .i64 0, .nilsl])), none, []⟩,
 ⟨none, .store 2 (.tmp 4) (.tmp 23), none, []⟩]
def k_law06_PumpFewer_r3 : List AOper := [
  ⟨some 24, .fieldAddr 0 (.tmp 4), none, []⟩,
 ⟨some 25, .load none (.tmp 24), none, []⟩,
 ⟨some 26, .call (.const (.fn (.func 53) [] [])) [.tmp 25], none, []⟩,
 ⟨some 5, .move (.tmp 26), none, []⟩]
def k_law06_PumpFewer_r4 : List AOper := [
  ⟨some 28, .load (some (2)) (.tmp 4), none, []⟩,
 ⟨some 29, .move (.tmp 5), none, []⟩,
 ⟨some 30, .call (.const (.fn (.func 54) [] [])) [.tmp 28, .tmp 29], none, []⟩,
 ⟨some 27, .move (.tmp 30), none, []⟩,
 ⟨some 31, .extract (.tmp 27) 0, none, []⟩,
 ⟨some 32, .extract (.tmp 27) 1, none, []⟩,
 ⟨some 33, .extract (.tmp 27) 2, none, []⟩,
 ⟨some 6, .move (.tmp 31), none, []⟩,
 ⟨some 7, .move (.tmp 32), none, []⟩,
 ⟨some 8, .move (.tmp 33), none, []⟩]
def k_law06_PumpFewer_r5 : List AOper := [
  ⟨some 34, .move (.tmp 8), none, []⟩,
 ⟨some 35, .bin .plain .neq (.tmp 34) (.const (.int .i64 0)), none, []⟩]
def k_law06_PumpFewer_r6 : List AOper := [
  ⟨some 36, .move (.tmp 8), none, []⟩,
 ⟨some 37, .bin .plain .eql (.tmp 36) (.const (.int .i64 15)), none, []⟩,
 ⟨some 38, .move (.tmp 37), none, []⟩,
 ⟨some 39, .call (.const (.fn (.func 20) [] [])) [], (some (38, true)), []⟩,
 ⟨some 40, .pick (.tmp 38) (.tmp 39) (.const (.bool false)), none, []⟩,
 ⟨some 2, .move (.tmp 40), none, []⟩]
def k_law06_PumpFewer_r7 : List AOper := [
  ⟨some 41, .fieldAddr 0 (.tmp 4), none, []⟩,
 ⟨some 42, .load none (.tmp 41), none, []⟩,
 ⟨some 43, .buildSlice 2 [], none, [0, 1]⟩,
 ⟨some 44, .fieldAddr 1 (.tmp 4), none, [0, 1, 2]⟩,
 ⟨some 45, .load none (.tmp 44), none, [0, 1, 2]⟩,
 ⟨some 46, .append 2 32 true (.tmp 43) (.tmp 45), none, [0, 1]⟩,
 ⟨some 47, .build [.int .i64 0, .nilsl] [(0, 1, .tmp 42), (1, 1, .tmp 46)], none, []⟩,
 ⟨some 9, .box (.const (.agg [.int .i64 0, .nilsl])), none, [0, 1, 2, 3, 4, 5, 6]⟩,
 ⟨none, .store 2 (.tmp 9) (.tmp 47), none, []⟩]
def k_law06_PumpFewer_r7s : List (List AOper) := [
  [
  ⟨some 41, .fieldAddr 0 (.tmp 4), none, []⟩,
 ⟨some 42, .load none (.tmp 41), none, []⟩,
 ⟨some 43, .buildSlice 2 [], none, [0, 1]⟩,
 ⟨some 44, .fieldAddr 1 (.tmp 4), none, [0, 1, 2]⟩,
 ⟨some 45, .load none (.tmp 44), none, [0, 1, 2]⟩,
 ⟨some 46, .append 2 32 true (.tmp 43) (.tmp 45), none, [0, 1]⟩,
 ⟨some 47, .build [.int .i64 0, .nilsl] [(0, 1, .tmp 42), (1, 1, .tmp 46)], none, []⟩,
 ⟨some 9, .box (.const (.agg [.int .i64 0, .nilsl])), none, [0, 1, 2, 3, 4, 5, 6]⟩], 
  [
  ⟨none, .store 2 (.tmp 9) (.tmp 47), none, []⟩]]
theorem k_law06_PumpFewer_r7_sg : segs k_law06_PumpFewer_r7 = k_law06_PumpFewer_r7s := by kernel_rfl
theorem k_law06_PumpFewer_r7_st : statOK k_law06_PumpFewer_r7 = true := by kernel_rfl
def k_law06_PumpFewer_r8 : List AOper := [
  ⟨some 48, .fieldAddr 1 (.tmp 9), none, []⟩,
 ⟨some 49, .load none (.tmp 48), none, []⟩,
 ⟨some 50, .len false (.tmp 49), none, []⟩,
 ⟨some 51, .bin .plain .gtr (.tmp 50) (.const (.int .i64 0)), none, []⟩,
 ⟨some 52, .move (.tmp 51), none, []⟩,
 ⟨some 53, .move (.tmp 3), (some (52, true)), []⟩,
 ⟨some 54, .call (.const (.fn (.func 52) [] [])) [.tmp 53, .const (.int .i64 2)], (some (52, true)), []⟩,
 ⟨some 55, .pick (.tmp 52) (.tmp 54) (.const (.bool false)), none, []⟩]
def k_law06_PumpFewer_r9 : List AOper := [
  ⟨some 56, .fieldAddr 1 (.tmp 9), none, []⟩,
 ⟨some 57, .load none (.tmp 56), none, []⟩,
 ⟨some 58, .move (.tmp 3), none, [0, 1]⟩,
 ⟨some 59, .fieldAddr 1 (.tmp 9), none, [0, 1, 2]⟩,
 ⟨some 60, .load none (.tmp 59), none, [0, 1, 2]⟩,
 ⟨some 61, .len false (.tmp 60), none, [0, 1, 2]⟩,
 ⟨some 62, .call (.const (.fn (.func 36) [] [])) [.tmp 58, .tmp 61], none, [0, 1]⟩,
 ⟨some 63, .indexAddr 2 (.tmp 57) (.tmp 62), none, []⟩,
 ⟨some 10, .move (.tmp 63), none, []⟩]
def k_law06_PumpFewer_r9s : List (List AOper) := [
  [
  ⟨some 56, .fieldAddr 1 (.tmp 9), none, []⟩,
 ⟨some 57, .load none (.tmp 56), none, []⟩,
 ⟨some 58, .move (.tmp 3), none, [0, 1]⟩,
 ⟨some 59, .fieldAddr 1 (.tmp 9), none, [0, 1, 2]⟩,
 ⟨some 60, .load none (.tmp 59), none, [0, 1, 2]⟩,
 ⟨some 61, .len false (.tmp 60), none, [0, 1, 2]⟩,
 ⟨some 62, .call (.const (.fn (.func 36) [] [])) [.tmp 58, .tmp 61], none, [0, 1]⟩], 
  [
  ⟨some 63, .indexAddr 2 (.tmp 57) (.tmp 62), none, []⟩], 
  [
  ⟨some 10, .move (.tmp 63), none, []⟩]]
theorem k_law06_PumpFewer_r9_sg : segs k_law06_PumpFewer_r9 = k_law06_PumpFewer_r9s := by kernel_rfl
theorem k_law06_PumpFewer_r9_st : statOK k_law06_PumpFewer_r9 = true := by kernel_rfl
def k_law06_PumpFewer_r10 : List AOper := [
  ⟨some 64, .move (.tmp 10), none, []⟩,
 ⟨some 65, .move (.tmp 3), none, []⟩,
 ⟨some 66, .move (.tmp 10), none, []⟩,
 ⟨some 67, .nilCheck (.tmp 66), none, []⟩,
 ⟨some 68, .fieldAddr 1 (.tmp 67), none, []⟩,
 ⟨some 69, .load none (.tmp 68), none, []⟩,
 ⟨some 70, .bin .plain .add (.tmp 69) (.const (.int .i64 1)), none, []⟩,
 ⟨some 71, .call (.const (.fn (.func 36) [] [])) [.tmp 65, .tmp 70], none, []⟩,
 ⟨some 72, .nilCheck (.tmp 64), none, []⟩,
 ⟨some 73, .fieldAddr 1 (.tmp 72), none, []⟩,
 ⟨none, .store 1 (.tmp 73) (.tmp 71), none, []⟩]
def k_law06_PumpFewer_r11 : List AOper := [
  ⟨some 74, .move (.tmp 3), none, []⟩,
 ⟨some 75, .call (.const (.fn (.func 36) [] [])) [.tmp 74, .const (.int .i64 5)], none, []⟩,
 ⟨some 76, .build [.nilsl, .int .i64 0] [(1, 1, .tmp 75)], none, []⟩,
 ⟨some 11, .box (.const (.agg [.nilsl, .int .i64 0])), none, []⟩,
 ⟨none, .store 2 (.tmp 11) (.tmp 76), none, []⟩]
def k_law06_PumpFewer_r12 : List AOper := [
  ⟨some 12, .move (.const (.nilsl)), none, []⟩]
def k_law06_PumpFewer_r13 : List AOper := [
  ⟨some 13, .move (.const (.int .i64 0)), none, []⟩]
def k_law06_PumpFewer_r14 : List AOper := [
  ⟨some 77, .move (.tmp 13), none, []⟩,
 ⟨some 78, .fieldAddr 0 (.tmp 4), none, []⟩,
 ⟨some 79, .load none (.tmp 78), none, []⟩,
 ⟨some 80, .bin .plain .lss (.tmp 77) (.tmp 79), none, []⟩]
def k_law06_PumpFewer_r15 : List AOper := [
  ⟨some 83, .move (.tmp 3), none, []⟩,
 ⟨some 84, .call (.const (.fn (.func 52) [] [])) [.tmp 83, .const (.int .i64 2)], none, []⟩]
def k_law06_PumpFewer_r16 : List AOper := [
  ⟨some 85, .fieldAddr 0 (.tmp 11), none, []⟩,
 ⟨some 86, .load none (.tmp 85), none, []⟩,
 ⟨some 87, .move (.tmp 13), none, []⟩,
 ⟨some 88, .buildSlice 1 [.tmp 87], none, []⟩,
 ⟨some 89, .append 1 8 false (.tmp 86) (.tmp 88), none, []⟩,
 ⟨some 90, .fieldAddr 0 (.tmp 11), none, []⟩,
 ⟨none, .store 1 (.tmp 90) (.tmp 89), none, []⟩]
def k_law06_PumpFewer_r17 : List AOper := [
  ⟨some 91, .move (.tmp 3), none, []⟩,
 ⟨some 92, .call (.const (.fn (.func 52) [] [])) [.tmp 91, .const (.int .i64 2)], none, []⟩]
def k_law06_PumpFewer_r18 : List AOper := [
  ⟨some 93, .move (.tmp 12), none, []⟩,
 ⟨some 94, .move (.tmp 13), none, []⟩,
 ⟨some 95, .buildSlice 1 [.tmp 94], none, []⟩,
 ⟨some 96, .append 1 8 false (.tmp 93) (.tmp 95), none, []⟩,
 ⟨some 12, .move (.tmp 96), none, []⟩]
def k_law06_PumpFewer_r19 : List AOper := [
  ⟨some 81, .move (.tmp 13), none, []⟩,
 ⟨some 82, .bin .plain .add (.tmp 81) (.const (.int .i64 1)), none, []⟩,
 ⟨some 13, .move (.tmp 82), none, []⟩]
def k_law06_PumpFewer_r20 : ACode := (.seq (.seq (.reg k_law06_PumpFewer_r14 false) (.cond (.tmp 80) .skip (.exit 0))) (.seq (.block 1 (.seq (.seq (.reg k_law06_PumpFewer_r15 false) (.cond (.tmp 84) (.reg k_law06_PumpFewer_r16 false) .skip)) (.seq (.reg k_law06_PumpFewer_r17 false) (.cond (.tmp 92) (.reg k_law06_PumpFewer_r18 false) .skip)))) (.reg k_law06_PumpFewer_r19 false)))
def k_law06_PumpFewer_r21 : List AOper := [
  ⟨some 97, .fieldAddr 1 (.tmp 9), none, []⟩,
 ⟨some 98, .load none (.tmp 97), none, []⟩,
 ⟨some 99, .load (some (2)) (.tmp 11), none, []⟩,
 ⟨some 100, .buildSlice 2 [.tmp 99], none, []⟩,
 ⟨some 101, .append 2 32 true (.tmp 98) (.tmp 100), none, []⟩,
 ⟨some 102, .fieldAddr 1 (.tmp 9), none, []⟩,
 ⟨none, .store 1 (.tmp 102) (.tmp 101), none, []⟩]
def k_law06_PumpFewer_r22 : List AOper := [
  ⟨some 104, .load (some (2)) (.tmp 9), none, []⟩,
 ⟨some 105, .move (.tmp 5), none, []⟩,
 ⟨some 106, .call (.const (.fn (.func 54) [] [])) [.tmp 104, .tmp 105], none, []⟩,
 ⟨some 103, .move (.tmp 106), none, []⟩,
 ⟨some 107, .extract (.tmp 103) 0, none, []⟩,
 ⟨some 108, .extract (.tmp 103) 1, none, []⟩,
 ⟨some 109, .extract (.tmp 103) 2, none, []⟩,
 ⟨some 14, .move (.tmp 107), none, []⟩,
 ⟨some 15, .move (.tmp 108), none, []⟩,
 ⟨some 16, .move (.tmp 109), none, []⟩]
def k_law06_PumpFewer_r23 : List AOper := [
  ⟨some 110, .move (.tmp 16), none, []⟩,
 ⟨some 111, .bin .plain .neq (.tmp 110) (.const (.int .i64 0)), none, []⟩,
 ⟨some 112, .move (.tmp 111), none, []⟩,
 ⟨some 113, .move (.tmp 14), (some (112, false)), []⟩,
 ⟨some 114, .move (.tmp 6), (some (112, false)), []⟩,
 ⟨some 115, .bin .plain .gtr (.tmp 113) (.tmp 114), (some (112, false)), []⟩,
 ⟨some 116, .pick (.tmp 112) (.const (.bool true)) (.tmp 115), none, []⟩]
def k_law06_PumpFewer_r24 : List AOper := [
  ⟨some 2, .move (.const (.bool false)), none, []⟩]
def k_law06_PumpFewer_r25 : List AOper := [
  ⟨some 117, .move (.tmp 12), none, []⟩,
 ⟨some 118, .len false (.tmp 117), none, []⟩,
 ⟨some 119, .bin .plain .eql (.tmp 118) (.const (.int .i64 0)), none, []⟩]
def k_law06_PumpFewer_r26 : List AOper := [
  ⟨some 120, .call (.const (.fn (.func 20) [] [])) [], none, []⟩,
 ⟨some 2, .move (.tmp 120), none, []⟩]
def k_law06_PumpFewer_r27 : List AOper := [
  ⟨some 122, .load (some (2)) (.tmp 4), none, []⟩,
 ⟨some 123, .move (.tmp 12), none, []⟩,
 ⟨some 124, .call (.const (.fn (.func 54) [] [])) [.tmp 122, .tmp 123], none, []⟩,
 ⟨some 121, .move (.tmp 124), none, []⟩,
 ⟨some 125, .extract (.tmp 121) 0, none, []⟩,
 ⟨some 126, .extract (.tmp 121) 1, none, []⟩,
 ⟨some 127, .extract (.tmp 121) 2, none, []⟩,
 ⟨some 17, .move (.tmp 125), none, []⟩,
 ⟨some 18, .move (.tmp 126), none, []⟩,
 ⟨some 19, .move (.tmp 127), none, []⟩]
def k_law06_PumpFewer_r28 : List AOper := [
  ⟨some 128, .move (.tmp 19), none, []⟩,
 ⟨some 129, .bin .plain .eql (.tmp 128) (.const (.int .i64 0)), none, []⟩,
 ⟨some 130, .move (.tmp 129), none, []⟩,
 ⟨some 131, .move (.tmp 17), (some (130, true)), []⟩,
 ⟨some 132, .move (.tmp 6), (some (130, true)), []⟩,
 ⟨some 133, .bin .plain .leq (.tmp 131) (.tmp 132), (some (130, true)), []⟩,
 ⟨some 134, .pick (.tmp 130) (.tmp 133) (.const (.bool false)), none, []⟩,
 ⟨some 135, .move (.tmp 134), none, []⟩,
 ⟨some 136, .call (.const (.fn (.func 20) [] [])) [], (some (135, true)), []⟩,
 ⟨some 137, .pick (.tmp 135) (.tmp 136) (.const (.bool false)), none, []⟩,
 ⟨some 2, .move (.tmp 137), none, []⟩]
def k_law06_PumpFewer : AFun := { params := 1, ntmps := 138, body := (.seq (.reg k_law06_PumpFewer_r0 false) (.seq (.reg k_law06_PumpFewer_r1 false) (.seq (.reg k_law06_PumpFewer_r2 false) (.seq (.reg k_law06_PumpFewer_r3 false) (.seq (.reg k_law06_PumpFewer_r4 false) (.seq (.seq (.reg k_law06_PumpFewer_r5 false) (.cond (.tmp 35) (.seq (.reg k_law06_PumpFewer_r6 false) .ret) .skip)) (.seq (.reg k_law06_PumpFewer_r7 true) (.seq (.seq (.reg k_law06_PumpFewer_r8 false) (.cond (.tmp 55) (.seq (.reg k_law06_PumpFewer_r9 true) (.reg k_law06_PumpFewer_r10 false)) .skip)) (.seq (.reg k_law06_PumpFewer_r11 false) (.seq (.reg k_law06_PumpFewer_r12 false) (.seq (.seq (.reg k_law06_PumpFewer_r13 false) (.block 0 (.loop k_law06_PumpFewer_r20))) (.seq (.reg k_law06_PumpFewer_r21 false) (.seq (.reg k_law06_PumpFewer_r22 false) (.seq (.seq (.reg k_law06_PumpFewer_r23 false) (.cond (.tmp 116) (.seq (.reg k_law06_PumpFewer_r24 false) .ret) .skip)) (.seq (.seq (.reg k_law06_PumpFewer_r25 false) (.cond (.tmp 119) (.seq (.reg k_law06_PumpFewer_r26 false) .ret) .skip)) (.seq (.reg k_law06_PumpFewer_r27 false) (.seq (.reg k_law06_PumpFewer_r28 false) .ret))))))))))))))))), res := [.tmp 2] }
theorem k_law06_PumpFewer_ok : cfun Try.prog Try.f18 = k_law06_PumpFewer := by kernel_rfl


abbrev n_law06_PumpFewer : Nat := 18
theorem e_law06_PumpFewer : EntryOK Try.prog n_law06_PumpFewer k_law06_PumpFewer := ⟨Try.f18, Try.func18, k_law06_PumpFewer_ok, by kernel_rfl⟩

attribute [go_sem] k_law06_PumpFewer_r0 k_law06_PumpFewer_r1 k_law06_PumpFewer_r2 k_law06_PumpFewer_r3 k_law06_PumpFewer_r4 k_law06_PumpFewer_r5 k_law06_PumpFewer_r6 k_law06_PumpFewer_r7s k_law06_PumpFewer_r8 k_law06_PumpFewer_r9s k_law06_PumpFewer_r10 k_law06_PumpFewer_r11
attribute [go_sem] k_law06_PumpFewer_r12 k_law06_PumpFewer_r13 k_law06_PumpFewer_r14 k_law06_PumpFewer_r15 k_law06_PumpFewer_r16 k_law06_PumpFewer_r17 k_law06_PumpFewer_r18 k_law06_PumpFewer_r19 k_law06_PumpFewer_r21 k_law06_PumpFewer_r22 k_law06_PumpFewer_r23 k_law06_PumpFewer_r24
attribute [go_sem] k_law06_PumpFewer_r25 k_law06_PumpFewer_r26 k_law06_PumpFewer_r27 k_law06_PumpFewer_r28 k_law06_PumpFewer_r7_sg k_law06_PumpFewer_r9_sg k_law06_PumpFewer_r7_st k_law06_PumpFewer_r9_st k_law06_PumpFewer
end Go.Proofs

namespace Go.Proofs
open Go Go.Sx

attribute [local irreducible] Run
def fstV (n : Nat) : List AVal := (List.range n).map fun k : Nat => AVal.int .i64 (k : Int)
set_option maxRecDepth 20000 in
theorem First_run {n : Nat} (h0 : 1 ≤ n) (h : n ≤ 1000) : Ans Try.prog n_kit_First [.int .i64 (n : Int)] [] (.sl 0 0 n) [some (.cells true 1 (fstV n))] := by
  have hb : (Row.cells true 1 (fstV n)).bel (fun _ => False) := by
    rw [row_bel_cells]
    exact bels_of fun v hv => by
      obtain ⟨k, -, rfl⟩ := List.mem_map.1 hv
      exact .int _ _
  refine Ans.keep ?_ (by simp) (by simp [go_sem]) ⟨bel_mono_row hb fun _ h => h.elim, trivial⟩
  refine run_fn e_kit_First fun G => ?_
  simp only [go_sem]
  have z0 : (0 : Int) < n := by omega
  have w1 : IntKind.i64.wrap 1 = 1 := by decide
  refine loop_body 3000 k_kit_First_r6.eq_1 ?_
  simp only [go_sem, z0, Int.zero_add, w1]
  refine ⟨by decide, ?_⟩
  refine loop_ind k_kit_First_r6.eq_1 (fun a : Nat × Heap => 1 ≤ a.1 ∧ a.1 ≤ n) (fun a => n - a.1)
    (fun a => (tsets 15 [(0, .int .i64 n), (3, .sl 1 0 a.1), (4, .int .i64 a.1)], some (.cells false 1 [.int .i64 0]) :: some (.cells true 1 (fstV a.1)) :: a.2)) (1, []) ⟨Nat.le_refl _, h0⟩ (by simp [go_sem]) rfl ?_
  rintro ⟨i, J⟩ ⟨hi0, hi⟩ ih
  dsimp only at hi hi0 ih ⊢
  have l1 : (fstV i).length = i := by simp [fstV]
  by_cases i1 : i < n
  · have i2 : (i : Int) < n := by omega
    have w5 : IntKind.i64.wrap ((i : Int) + 1) = ((i + 1 : Nat) : Int) := by rw [w64 (by omega)]; rfl
    have ihk := fun J' => ih (i + 1, J') (by simp only; omega) ⟨by simp only; omega, i1⟩
    clear ih
    have u : fstV (i + 1) = fstV i ++ [.int .i64 i] := by unfold fstV; rw [List.range_succ, List.map_append]; rfl
    dsimp only at ihk
    rw [u] at ihk
    generalize fstV i = A at *
    have e1 : (i + 1) * 8 ≤ 2 ^ 44 := by omega
    simp only [go_sem, i2, w5, l1, e1]
    exact ihk _ _ (by simp [go_sem])
  · obtain rfl : i = n := by omega
    have i2 : ¬ (i : Int) < i := by omega
    clear ih
    simp only [go_sem, i2]
    exact kept_one 1 rfl hb rfl
theorem range_asc {n m : Nat} (h : m ≤ n) : Asc n (List.range m) := ⟨List.pairwise_lt_range, fun k hk => by have := List.mem_range.1 hk; omega⟩
end Go.Proofs

namespace Go.Proofs
open Go Go.Sx
attribute [local irreducible] Run

def LAt (K : Heap) (y a : Nat) (v : AVal) (l : List Nat) : Prop := (l = [] ∧ v = .nilsl) ∨ (l ≠ [] ∧ (∃ q, v = .sl q 0 l.length ∧ q = y + (a + 5) + 1) ∧ K[a]? = some (some (.cells true 1 (ofL l))))
structure DSt (K : Heap) (base i : Nat) (vE vS : AVal) (lE lS : List Nat) : Prop where
  e : Asc i lE
  s : Asc i lS
  at' : ∃ a b, LAt K base a vE lE ∧ LAt K base b vS lS ∧ (lE ≠ [] → lS ≠ [] → a ≠ b)
theorem Asc.more {i : Nat} {l : List Nat} (h : Asc i l) : Asc (i + 1) l := ⟨h.1, fun k hk => by have := h.2 k hk; omega⟩
theorem Asc.snoc {i : Nat} {l : List Nat} (h : Asc i l) : Asc (i + 1) (l ++ [i]) := ⟨by
  rw [List.pairwise_append]
  exact ⟨h.1, List.pairwise_singleton _ _, fun a ha b hb => by
    have := h.2 a ha
    have : b = i := by simpa using hb
    omega⟩, fun k hk => by
  rcases List.mem_append.1 hk with h1 | h1
  · have := h.2 k h1; omega
  · have : k = i := by simpa using h1
    omega⟩
theorem LAt.app {K : Heap} {base a : Nat} {v : AVal} {l : List Nat} (h : LAt K base a v l) (X : Heap) : LAt (K ++ X) base a v l := by
  rcases h with h | ⟨h0, h1, h2⟩
  · exact .inl h
  · exact .inr ⟨h0, h1, by rw [List.getElem?_append_left (List.getElem?_eq_some_iff.1 h2).1]; exact h2⟩
theorem LAt.set {K : Heap} {base a q : Nat} {v : AVal} {l : List Nat} (h : LAt K base a v l) (x : Option Row) (hq : l ≠ [] → q ≠ a) : LAt (K.set q x) base a v l := by
  rcases h with h | ⟨h0, h1, h2⟩
  · exact .inl h
  · exact .inr ⟨h0, h1, by rw [List.getElem?_set_ne (hq h0)]; exact h2⟩
theorem ofL_snoc (l : List Nat) (i : Nat) : ofL (l ++ [i]) = ofL l ++ [.int .i64 i] := by simp [ofL]
theorem ofL_len (l : List Nat) : (ofL l).length = l.length := by simp [ofL]
theorem DSt.e_nil {K : Heap} {base i : Nat} {vE vS : AVal} {lS : List Nat} (h : DSt K base i vE vS [] lS) (x : Option Row) {q : Nat} (hq : q = base + (K.length + 6) + 1) : DSt (K ++ [x, some (.cells true 1 [.int .i64 i])]) base (i + 1) (.sl q 0 1) vS [i] lS := by
  obtain ⟨a, b, h1, h2, h3⟩ := h.at'
  refine ⟨h.e.snoc, h.s.more, K.length + 1, b, .inr ⟨by simp, ⟨q, rfl, by omega⟩, ?_⟩, h2.app _, fun _ hS => ?_⟩
  · rw [List.getElem?_append_right (by omega), show K.length + 1 - K.length = 1 by omega]; rfl
  · rcases h2 with ⟨h4, _⟩ | ⟨_, _, h5⟩
    · exact absurd h4 hS
    · have := (List.getElem?_eq_some_iff.1 h5).1; omega
theorem DSt.e_more {K : Heap} {base i a b : Nat} {vS : AVal} {lE lS : List Nat} (hE : Asc i lE) (hS : Asc i lS) (h0 : lE ≠ []) (hK : K[a]? = some (some (.cells true 1 (ofL lE)))) (h2 : LAt K base b vS lS) (h3 : lE ≠ [] → lS ≠ [] → a ≠ b) (x : Option Row) :
    DSt (K.set a (some (.cells true 1 (ofL lE ++ [.int .i64 i]))) ++ [x]) base (i + 1) (.sl (base + (a + 5) + 1) 0 (lE.length + 1)) vS (lE ++ [i]) lS := by
  have hlt := (List.getElem?_eq_some_iff.1 hK).1
  refine ⟨hE.snoc, hS.more, a, b, .inr ⟨by simp, ⟨_, by simp, rfl⟩, ?_⟩, (h2.set _ fun e => h3 h0 e).app _, fun _ e => h3 h0 e⟩
  rw [List.getElem?_append_left (by simpa using hlt), List.getElem?_set_self hlt, ofL_snoc]
theorem DSt.s_nil {K : Heap} {base i : Nat} {vE : AVal} {lE : List Nat} (hE : Asc (i + 1) lE) (h1 : ∃ a, LAt K base a vE lE) (x : Option Row) {q : Nat} (hq : q = base + (K.length + 6) + 1) : DSt (K ++ [x, some (.cells true 1 [.int .i64 i])]) base (i + 1) vE (.sl q 0 1) lE [i] := by
  obtain ⟨a, h1⟩ := h1
  refine ⟨hE, ⟨List.pairwise_singleton _ _, fun k hk => by have : k = i := by simpa using hk
                                                           omega⟩, a, K.length + 1, h1.app _, .inr ⟨by simp, ⟨q, rfl, by omega⟩, ?_⟩, fun hE _ => ?_⟩
  · rw [List.getElem?_append_right (by omega), show K.length + 1 - K.length = 1 by omega]; rfl
  · rcases h1 with ⟨h4, _⟩ | ⟨_, _, h5⟩
    · exact absurd h4 hE
    · have := (List.getElem?_eq_some_iff.1 h5).1; omega
theorem DSt.s_more {K : Heap} {base i a b : Nat} {vE : AVal} {lE lS : List Nat} (hE : Asc (i + 1) lE) (hS : Asc i lS) (h0 : lS ≠ []) (hK : K[b]? = some (some (.cells true 1 (ofL lS)))) (h1 : LAt K base a vE lE) (h3 : lE ≠ [] → lS ≠ [] → a ≠ b) (x : Option Row) :
    DSt (K.set b (some (.cells true 1 (ofL lS ++ [.int .i64 i]))) ++ [x]) base (i + 1) vE (.sl (base + (b + 5) + 1) 0 (lS.length + 1)) lE (lS ++ [i]) := by
  have hlt := (List.getElem?_eq_some_iff.1 hK).1
  refine ⟨hE, hS.snoc, a, b, (h1.set _ fun e => (h3 e h0).symm).app _, .inr ⟨by simp, ⟨_, by simp, rfl⟩, ?_⟩, fun e _ => h3 e h0⟩
  rw [List.getElem?_append_left (by simpa using hlt), List.getElem?_set_self hlt, ofL_snoc]
def fwT (y : Nat) (n : Nat) (cost : Int) : List (Nat × AVal) := [(3, .ptr 0 0 0 1), (4, .ptr (y + 1) 0 0 1), (5, .sl (y + 2) 0 n), (6, .int .i64 cost), (9, .ptr (y + 4) 0 0 1), (11, .ptr (y + 5) 0 0 1)]
def fwH (w : Int) (Y : Heap) (n : Nat) (vT : AVal) (x2 x3 x4 : Option Row) (vE : AVal) (c : Int) (K : Heap) : Heap :=
  some (Dr w) :: (Y ++ some (.cells false 2 [.agg [.int .i64 n, vT]]) :: x2 :: x3 :: x4 :: some (.cells false 2 [.agg [vE, .int .i64 c]]) :: K)
theorem vE_sl {K : Heap} {base a : Nat} {v : AVal} {l : List Nat} (h : LAt K base a v l) : v = .nilsl ∨ ∃ x y z, v = .sl x y z := by
  rcases h with ⟨_, h⟩ | ⟨_, ⟨q, h, _⟩, _⟩
  · exact .inl h
  · exact .inr ⟨_, _, _, h⟩
set_option maxHeartbeats 8000000 in
set_option maxRecDepth 20000 in
theorem few_loop {G : Ctx} {k : Nat} {fs : List Sx.Frame} {Q : Go.Sx.Goal} (w : Int) (Y : Heap) (n : Nat) (hn : n ≤ 1000) (vT : AVal) (x2 x3 x4 : Option Row) (cost c : Int)
    (hQ : ∀ w' vE vS K lE lS, DSt K Y.length n vE vS lE lS → Run Try.prog G k none 2986 (.out .normal) fs ⟨tsets 138 (fwT Y.length n cost ++ [(12, vS), (13, .int .i64 n), (77, .int .i64 n), (78, .ptr (Y.length + 1) 0 0 1), (79, .int .i64 n), (80, .bool false)]), fwH w' Y n vT x2 x3 x4 vE c K, []⟩ Q) (hk : k ≤ 3) :
    ∀ ρ', Wk ρ' (tsets 138 (fwT Y.length n cost ++ [(12, .nilsl), (13, .int .i64 0)])) → Sx.Loop Try.prog G k none k_law06_PumpFewer_r20 (.blk 0 :: fs) ⟨ρ', fwH w Y n vT x2 x3 x4 .nilsl c [], []⟩ Q := by
  intro ρ' hw
  refine loop_ind k_law06_PumpFewer_r20.eq_1 (fun a : Nat × Int × AVal × AVal × Heap => a.1 ≤ n ∧ ∃ lE lS, DSt a.2.2.2.2 Y.length a.1 a.2.2.1 a.2.2.2.1 lE lS) (fun a => n - a.1)
    (fun a => (tsets 138 (fwT Y.length n cost ++ [(12, a.2.2.2.1), (13, .int .i64 a.1)]), fwH a.2.1 Y n vT x2 x3 x4 a.2.2.1 c a.2.2.2.2)) (0, w, .nilsl, .nilsl, []) ⟨Nat.zero_le _, [], [], ⟨by simp, fun k h => by simp at h⟩, ⟨by simp, fun k h => by simp at h⟩, 0, 0, .inl ⟨rfl, rfl⟩, .inl ⟨rfl, rfl⟩, fun h => absurd rfl h⟩ hw rfl ?_
  rintro ⟨i, w', vE, vS, K⟩ ⟨hi, lE, lS, hD⟩ ih
  dsimp only at hi hD ih ⊢
  by_cases i1 : i < n
  · have i2 : (i : Int) < n := by omega
    have w5 : IntKind.i64.wrap ((i : Int) + 1) = ((i + 1 : Nat) : Int) := by rw [w64 (by omega)]; rfl
    have ihk := fun w'' vE' vS' K' lE' lS' h => ih (i + 1, w'', vE', vS', K') (by simp only; omega) ⟨i1, lE', lS', h⟩
    clear ih
    dsimp only at ihk
    have k1 := one_ok w' 2 (by decide)
    have k2 := one_ok (dstep w') 2 (by decide)
    have le1 := hD.e.len
    have le2 := hD.s.len
    have eb1 : (lE.length + 1) * 8 ≤ 2 ^ 44 := by omega
    have eb2 : (lS.length + 1) * 8 ≤ 2 ^ 44 := by omega
    generalize (upto w' 2 == 0) = b1 at *
    generalize (upto (dstep w') 2 == 0) = b2 at *
    generalize dstep (dstep w') = w3 at *
    simp only [fwH, fwT] at ihk
    obtain ⟨a, b, hE, hS, hab⟩ := hD.at'
    have hDe := hD.e
    have hDs := hD.s
    have ve := vE_sl hE
    have D0 : DSt K Y.length (i + 1) vE vS lE lS := ⟨hDe.more, hDs.more, a, b, hE, hS, hab⟩
    have bl : lS ≠ [] → b < K.length := fun h => by
      rcases hS with ⟨h', _⟩ | ⟨_, _, h'⟩
      · exact absurd h' h
      · exact (List.getElem?_eq_some_iff.1 h').1
    cases b1 with
    | false =>
      cases b2 with
      | false =>
        simp only [go_sem, fwT, fwH, i2]
        refine cD k1 ?_ (hk := by simp; omega)
        simp only [go_sem]
        refine cD k2 ?_ (hk := by simp; omega)
        simp only [go_sem, w5]
        refine ihk _ _ vS _ lE lS ?_ _ (by simp [go_sem, fwT] <;> omega)
        have d1 := D0
        exact d1
      | true =>
        rcases hS with ⟨rfl, rfl⟩ | ⟨s0, ⟨q2, rfl, rfl⟩, sK⟩
        · have hS : LAt K Y.length b .nilsl [] := .inl ⟨rfl, rfl⟩
          simp only [go_sem, fwT, fwH, i2]
          refine cD k1 ?_ (hk := by simp; omega)
          simp only [go_sem]
          refine cD k2 ?_ (hk := by simp; omega)
          simp only [go_sem, w5]
          refine ⟨by decide, ?_⟩
          refine ihk _ _ (.sl (Y.length + (K.length + 6) + 1) 0 1) _ lE [i] ?_ _ (by simp [go_sem, fwT] <;> omega)
          have d1 := D0
          obtain ⟨a1, _, h1, _⟩ := d1.at'
          have d2 := fun q hq => DSt.s_nil (q := q) d1.e ⟨a1, h1⟩ (some (.cells false 1 [.int .i64 i])) hq
          exact d2 _ (by simp <;> omega)
        · have hcS := fun L => cells_more (cells_at sK) L
          have hpS := fun L x => put_more (H := K) (List.getElem?_eq_some_iff.1 sK).1 L x
          have hS : LAt K Y.length b (.sl (Y.length + (b + 5) + 1) 0 lS.length) lS := .inr ⟨s0, ⟨_, rfl, rfl⟩, sK⟩
          simp only [go_sem, fwT, fwH, i2]
          refine cD k1 ?_ (hk := by simp; omega)
          simp only [go_sem, hcS, hpS]
          refine cD k2 ?_ (hk := by simp; omega)
          simp only [go_sem, hcS, hpS, w5]
          refine ⟨⟨(ofL_len _).symm, eb2⟩, ?_⟩
          refine ihk _ _ (.sl (Y.length + (b + 5) + 1) 0 (lS.length + 1)) _ lE (lS ++ [i]) ?_ _ (by simp [go_sem, fwT] <;> omega)
          have d1 := D0
          exact DSt.s_more d1.e hDs s0 sK hE hab (some (.cells false 1 [.int .i64 i]))
    | true =>
      rcases hE with ⟨rfl, rfl⟩ | ⟨e0, ⟨q, rfl, rfl⟩, eK⟩
      · have hE : LAt K Y.length a .nilsl [] := .inl ⟨rfl, rfl⟩
        cases b2 with
        | false =>
          simp only [go_sem, fwT, fwH, i2]
          refine cD k1 ?_ (hk := by simp; omega)
          simp only [go_sem]
          refine ⟨by decide, ?_⟩
          refine cD k2 ?_ (hk := by simp; omega)
          simp only [go_sem, w5]
          refine ihk _ _ vS _ [i] lS ?_ _ (by simp [go_sem, fwT] <;> omega)
          have d1 := hD.e_nil (some (.cells false 1 [.int .i64 i])) (q := Y.length + (K.length + 6) + 1) rfl
          exact d1
        | true =>
          rcases hS with ⟨rfl, rfl⟩ | ⟨s0, ⟨q2, rfl, rfl⟩, sK⟩
          · have hS : LAt K Y.length b .nilsl [] := .inl ⟨rfl, rfl⟩
            simp only [go_sem, fwT, fwH, i2]
            refine cD k1 ?_ (hk := by simp; omega)
            simp only [go_sem]
            refine ⟨by decide, ?_⟩
            refine cD k2 ?_ (hk := by simp; omega)
            simp only [go_sem, w5]
            refine ⟨by decide, ?_⟩
            refine ihk _ _ (.sl (Y.length + (K.length + 8) + 1) 0 1) _ [i] [i] ?_ _ (by simp [go_sem, fwT] <;> omega)
            have d1 := hD.e_nil (some (.cells false 1 [.int .i64 i])) (q := Y.length + (K.length + 6) + 1) rfl
            obtain ⟨a1, _, h1, _⟩ := d1.at'
            have d2 := fun q hq => DSt.s_nil (q := q) d1.e ⟨a1, h1⟩ (some (.cells false 1 [.int .i64 i])) hq
            rw [List.append_assoc] at d2
            exact d2 _ (by simp <;> omega)
          · have hcS := fun L => cells_more (cells_at sK) L
            have hpS := fun L x => put_more (H := K) (List.getElem?_eq_some_iff.1 sK).1 L x
            have hS : LAt K Y.length b (.sl (Y.length + (b + 5) + 1) 0 lS.length) lS := .inr ⟨s0, ⟨_, rfl, rfl⟩, sK⟩
            simp only [go_sem, fwT, fwH, i2]
            refine cD k1 ?_ (hk := by simp; omega)
            simp only [go_sem, hcS, hpS]
            refine ⟨by decide, ?_⟩
            refine cD k2 ?_ (hk := by simp; omega)
            simp only [go_sem, hcS, hpS, w5]
            refine ⟨⟨(ofL_len _).symm, eb2⟩, ?_⟩
            refine ihk _ _ (.sl (Y.length + (b + 5) + 1) 0 (lS.length + 1)) _ [i] (lS ++ [i]) ?_ _ (by simp [go_sem, fwT] <;> omega)
            have d1 := hD.e_nil (some (.cells false 1 [.int .i64 i])) (q := Y.length + (K.length + 6) + 1) rfl
            have bk := bl s0
            have h1 : LAt (K ++ [some (.cells false 1 [.int .i64 i]), some (.cells true 1 [.int .i64 i])]) Y.length (K.length + 1) (.sl (Y.length + (K.length + 6) + 1) 0 1) [i] := .inr ⟨by simp, ⟨_, rfl, by omega⟩, by rw [List.getElem?_append_right (by omega), show K.length + 1 - K.length = 1 by omega]; rfl⟩
            have d2 := DSt.s_more d1.e hDs s0 (by rw [List.getElem?_append_left bk]; exact sK) h1 (fun _ _ => by omega) (some (.cells false 1 [.int .i64 i]))
            rw [List.set_append_left _ _ bk, List.append_assoc] at d2
            exact d2
      · have hcE := fun L => cells_more (cells_at eK) L
        have hpE := fun L x => put_more (H := K) (List.getElem?_eq_some_iff.1 eK).1 L x
        cases b2 with
        | false =>
          simp only [go_sem, fwT, fwH, i2]
          refine cD k1 ?_ (hk := by simp; omega)
          simp only [go_sem, hcE, hpE]
          refine ⟨⟨(ofL_len _).symm, eb1⟩, ?_⟩
          refine cD k2 ?_ (hk := by simp; omega)
          simp only [go_sem, hcE, hpE, w5]
          refine ihk _ _ vS _ (lE ++ [i]) lS ?_ _ (by simp [go_sem, fwT] <;> omega)
          have d1 := DSt.e_more hDe hDs e0 eK hS hab (some (.cells false 1 [.int .i64 i]))
          exact d1
        | true =>
          rcases hS with ⟨rfl, rfl⟩ | ⟨s0, ⟨q2, rfl, rfl⟩, sK⟩
          · have hS : LAt K Y.length b .nilsl [] := .inl ⟨rfl, rfl⟩
            simp only [go_sem, fwT, fwH, i2]
            refine cD k1 ?_ (hk := by simp; omega)
            simp only [go_sem, hcE, hpE]
            refine ⟨⟨(ofL_len _).symm, eb1⟩, ?_⟩
            refine cD k2 ?_ (hk := by simp; omega)
            simp only [go_sem, hcE, hpE, w5]
            refine ⟨by decide, ?_⟩
            refine ihk _ _ (.sl (Y.length + (K.length + 7) + 1) 0 1) _ (lE ++ [i]) [i] ?_ _ (by simp [go_sem, fwT] <;> omega)
            have d1 := DSt.e_more hDe hDs e0 eK hS hab (some (.cells false 1 [.int .i64 i]))
            obtain ⟨a1, _, h1, _⟩ := d1.at'
            have d2 := fun q hq => DSt.s_nil (q := q) d1.e ⟨a1, h1⟩ (some (.cells false 1 [.int .i64 i])) hq
            rw [List.append_assoc] at d2
            exact d2 _ (by simp <;> omega)
          · have hcS := fun L => cells_more (cells_at sK) L
            have hpS := fun L x => put_more (H := K) (List.getElem?_eq_some_iff.1 sK).1 L x
            have nab : a ≠ b := hab e0 s0
            have sK2 : ∀ X, (K.set a X)[b]? = some (some (.cells true 1 (ofL lS))) := fun X => by rw [List.getElem?_set_ne nab]; exact sK
            have hcS2 := fun X L => cells_more (cells_at (sK2 X)) L
            have hpS2 := fun X L x => put_more (H := K.set a X) (List.getElem?_eq_some_iff.1 (sK2 X)).1 L x
            have hS : LAt K Y.length b (.sl (Y.length + (b + 5) + 1) 0 lS.length) lS := .inr ⟨s0, ⟨_, rfl, rfl⟩, sK⟩
            simp only [go_sem, fwT, fwH, i2]
            refine cD k1 ?_ (hk := by simp; omega)
            simp only [go_sem, hcE, hpE, hcS2, hpS2]
            refine ⟨⟨(ofL_len _).symm, eb1⟩, ?_⟩
            refine cD k2 ?_ (hk := by simp; omega)
            simp only [go_sem, hcE, hpE, hcS2, hpS2, w5]
            refine ⟨⟨(ofL_len _).symm, eb2⟩, ?_⟩
            refine ihk _ _ (.sl (Y.length + (b + 5) + 1) 0 (lS.length + 1)) _ (lE ++ [i]) (lS ++ [i]) ?_ _ (by simp [go_sem, fwT] <;> omega)
            have d1 := DSt.e_more hDe hDs e0 eK hS hab (some (.cells false 1 [.int .i64 i]))
            have bk : b < (K.set a (some (.cells true 1 (ofL lE ++ [.int .i64 i])))).length := by rw [List.length_set]; exact bl s0
            have h1 : LAt (K.set a (some (.cells true 1 (ofL lE ++ [.int .i64 i]))) ++ [some (.cells false 1 [.int .i64 i])]) Y.length a (.sl (Y.length + (a + 5) + 1) 0 (lE.length + 1)) (lE ++ [i]) := .inr ⟨by simp, ⟨_, by simp, rfl⟩, by rw [List.getElem?_append_left (by rw [List.length_set]; exact (List.getElem?_eq_some_iff.1 eK).1), List.getElem?_set_self (List.getElem?_eq_some_iff.1 eK).1, ofL_snoc]⟩
            have d2 := DSt.s_more d1.e hDs s0 (by rw [List.getElem?_append_left bk]; exact sK2 _) h1 (fun _ _ => nab) (some (.cells false 1 [.int .i64 i]))
            rw [List.set_append_left _ _ bk, List.append_assoc] at d2
            exact d2
  · obtain rfl : i = n := by omega
    have i2 : ¬ (i : Int) < i := by omega
    clear ih
    have h := hQ w' vE vS K lE lS hD
    simp only [go_sem, fwT, fwH] at h
    simp only [go_sem, fwT, fwH, i2]
    exact h
end Go.Proofs

namespace Go.Proofs
open Go Go.Sx
attribute [local irreducible] Run

theorem setN_bit' (i : Nat) : ∀ (l : List Nat) (s : Nat), (l.foldl (fun s k => s ||| 2 ^ k) s).testBit i = (s.testBit i || decide (i ∈ l))
  | [], s => by simp
  | k :: l, s => by
    rw [List.foldl_cons, setN_bit' i l, Nat.testBit_or, Nat.testBit_two_pow]
    by_cases h : k = i
    · subst h; simp
    · have h2 : ¬ i = k := fun e => h e.symm
      simp [h, h2]
theorem setN_bit (l : List Nat) (i : Nat) : (setN l).testBit i = decide (i ∈ l) := by
  unfold setN; rw [setN_bit', Nat.zero_testBit, Bool.false_or]
theorem setN_sub {n : Nat} {l : List Nat} (h : Asc n l) : Sub (setN l) (setN (List.range n)) := fun i hi => by
  rw [setN_bit] at hi ⊢
  have := h.2 i (by simpa using hi)
  simpa using this
theorem setN_ne {l : List Nat} (h : l ≠ []) : setN l ≠ 0 := fun e => by
  match l, h with
  | k :: l, _ =>
    have := setN_bit (k :: l) k
    rw [e] at this
    simp at this
theorem setN_lt12 : ∀ {l : List Nat} {s : Nat}, (∀ k ∈ l, k < 12) → s < 4096 → l.foldl (fun s k => s ||| 2 ^ k) s < 4096
  | [], s, _, hs => hs
  | k :: l, s, h, hs => by
    rw [List.foldl_cons]
    exact setN_lt12 (fun q hq => h q (by simp [hq])) (Nat.or_lt_two_pow (n := 12) hs (Nat.pow_lt_pow_right (by decide) (h k (by simp))))
theorem all_lt {n : Nat} (hn : n ≤ 12) : setN (List.range n) < 4096 := setN_lt12 (fun k hk => by have := List.mem_range.1 hk; omega) (by decide)
theorem pln_some {n : Nat} {ts : List Tr} (h : HtOK n ts) (hp : (plnOf ts (setN (List.range n))).told = true) {l : List Nat} (hl : Asc n l) (l0 : l ≠ []) :
    (plnOf ts (setN l)).told = true ∧ (plnOf ts (setN l)).cost ≤ (plnOf ts (setN (List.range n))).cost := by
  have hn := h.many
  have a := all_lt (n := n) (by omega)
  have g := pln_good h (s := setN (List.range n)) (by omega)
  have sub := setN_sub hl
  have le := sub_le sub
  have g2 := pln_good h (s := setN l) (by omega)
  obtain ⟨_, _, t, _⟩ := g.yes hp
  have t2 := tell_sub h.htn t a (setN l) sub (setN_ne l0)
  cases e : (plnOf ts (setN l)).told with
  | false => exact absurd t2 (g2.no e _)
  | true => exact ⟨rfl, (g2.yes e).2.2.2 _ t2⟩
theorem pln_more {n : Nat} {ts ts' : List Tr} (h : HtOK n ts) (h' : HtOK n ts') (hp : (plnOf ts (setN (List.range n))).told = true)
    (hm : ∀ (m : Nat) (t : Tr), ts[m]? = some t → ∃ t' : Tr, ts'[m]? = some t' ∧ t'.of = t.of ∧ t'.cost ≤ t.cost) :
    (plnOf ts' (setN (List.range n))).told = true ∧ (plnOf ts' (setN (List.range n))).cost ≤ (plnOf ts (setN (List.range n))).cost := by
  have hn := h.many
  have a := all_lt (n := n) (by omega)
  have g := pln_good h (s := setN (List.range n)) (by omega)
  have g2 := pln_good h' (s := setN (List.range n)) (by omega)
  obtain ⟨_, _, t, _⟩ := g.yes hp
  have t2 : Tell (tof ts') (tcs ts') (setN (List.range n)) (plnOf ts (setN (List.range n))).cost := tell_more (fun m hm2 => by
    rw [tof_len] at hm2
    obtain ⟨t', e1, e2, e3⟩ := hm m ts[m] (List.getElem?_eq_getElem hm2)
    have l2 := (List.getElem?_eq_some_iff.1 e1).1
    refine ⟨m, by rw [tof_len]; exact l2, ?_, ?_⟩
    · simp [tof, List.getD_eq_getElem?_getD, e1, List.getElem?_eq_getElem hm2, e2]
    · simpa [tcs, List.getD_eq_getElem?_getD, e1, List.getElem?_eq_getElem hm2] using e3) t
  cases e : (plnOf ts' (setN (List.range n))).told with
  | false => exact absurd t2 (g2.no e _)
  | true => exact ⟨rfl, (g2.yes e).2.2.2 _ t2⟩
def isSl (v : AVal) : Prop := v = .nilsl ∨ ∃ x y z, v = .sl x y z
structure VS (Y : Heap) (vs : List AVal) (ts : List Tr) : Prop where
  len : vs.length = ts.length
  el : ∀ (i : Nat) (t : Tr), ts[i]? = some t → ∃ vo, vs[i]? = some (.agg [vo, .int .i64 t.cost]) ∧ isSl vo ∧ ∀ x Z, frz 3 (x :: (Y ++ Z)) vo = ofC t.of
theorem all3_cons {R : List Nat → AVal → AVal → Prop} {ι : List Nat} {vs : List AVal} {e : AVal} {es : List AVal} (h : All3 R ι vs (e :: es)) : ∃ v vs' κ κ', vs = v :: vs' ∧ R κ v e ∧ All3 R κ' vs' es ∧ ∀ q, q ∈ κ ∨ q ∈ κ' → q ∈ ι := by
  match vs, h with
  | v :: vs', h =>
    obtain ⟨κ, κ', e1, e2, e3⟩ := h
    subst e1
    exact ⟨v, vs', κ, κ', rfl, e2, e3, fun q hq => List.mem_append.2 hq⟩
theorem of_shape {H : Heap} {d : Nat} {κ : List Nat} {v : AVal} {l : List Nat} (h : Dat (d + 1) H κ v (ofC l)) : isSl v := by
  unfold ofC at h
  split at h
  · obtain ⟨rfl, _, _⟩ := h; exact .inl rfl
  · obtain ⟨_, r, vs, κ', rfl, _⟩ := h; exact .inr ⟨_, _, _, rfl⟩
theorem tr_shape {H : Heap} {κ : List Nat} {v : AVal} {t : Tr} (h : Dat 4 H κ v (trC t)) : ∃ vo, v = .agg [vo, .int .i64 t.cost] ∧ isSl vo ∧ frz 3 H vo = ofC t.of := by
  obtain ⟨vs, rfl, h⟩ := h
  obtain ⟨vo, vs1, κ1, κ2, rfl, d1, h, _⟩ := all3_cons h
  obtain ⟨vc, vs2, κ3, κ4, rfl, d2, h, _⟩ := all3_cons h
  match vs2, h with
  | [], _ =>
    obtain ⟨rfl, _, _⟩ := d2
    exact ⟨vo, rfl, of_shape d1, d1.frz⟩
theorem hunt_lies {Y : Heap} {v : AVal} {ι : List Nat} {n : Nat} {ts : List Tr} (D : ∀ x Z, Dat 6 (x :: (Y ++ Z)) ι v (htC n ts)) :
    ∃ vT, v = .agg [.int .i64 n, vT] ∧ ((ts = [] ∧ vT = .nilsl) ∨ ∃ j vs, ts ≠ [] ∧ vT = .sl (j + 1) 0 ts.length ∧ Y[j]? = some (some (.cells true 2 vs)) ∧ VS Y vs ts) := by
  obtain ⟨vs0, rfl, h⟩ := D none []
  obtain ⟨v1, vs1, κ1, κ2, rfl, d1, h, _⟩ := all3_cons h
  obtain ⟨vT, vs2, κ3, κ4, rfl, d2, h, _⟩ := all3_cons h
  match vs2, h with
  | [], _ =>
    obtain ⟨rfl, _, _⟩ := d1
    refine ⟨vT, rfl, ?_⟩
    have DT : ∀ x Z, ∃ κ, Dat 5 (x :: (Y ++ Z)) κ vT (tsC ts) := fun x Z => by
      obtain ⟨vs0, e, h⟩ := D x Z
      obtain ⟨v1, vs1, κ1, κ2, rfl, d1, h, _⟩ := all3_cons h
      obtain ⟨vT', vs2, κ3, κ4, rfl, d2, h, _⟩ := all3_cons h
      cases e
      exact ⟨κ3, d2⟩
    by_cases h0 : ts = []
    · subst h0
      obtain ⟨rfl, _, _⟩ := d2
      exact .inl ⟨rfl, rfl⟩
    · have e0 : tsC ts = .view (ts.map trC) := if_neg h0
      rw [e0] at d2
      obtain ⟨_, r, vs, κ', rfl, _, hr, ha⟩ := d2
      have sz : (acells ((ts.map trC).headD .any)).length = 2 := by
        match ts, h0 with
        | t :: ts, _ => rfl
      rw [sz] at hr
      rw [List.append_nil] at hr
      match r, hr with
      | 0, hr => simp at hr
      | j + 1, hr =>
        rw [List.getElem?_cons_succ] at hr
        have hl := ha.len
        rw [List.length_map] at hl
        refine .inr ⟨j, vs, h0, by rw [List.length_map], hr, hl, fun i t ht => ?_⟩
        obtain ⟨κ, u, e1, _, e2⟩ := ha.get i (trC t) (by rw [List.getElem?_map, ht]; rfl)
        obtain ⟨vo, e3, e4, _⟩ := tr_shape e2
        subst e3
        refine ⟨vo, e1, e4, fun x Z => ?_⟩
        obtain ⟨κ'', d3⟩ := DT x Z
        rw [e0] at d3
        obtain ⟨_, r', vs', κ3', e5, _, hr', ha'⟩ := d3
        cases e5
        rw [List.getElem?_cons_succ, List.getElem?_append_left (List.getElem?_eq_some_iff.1 hr).1, hr, sz] at hr'
        cases hr'
        obtain ⟨κ5, u5, e6, _, e7⟩ := ha'.get i (trC t) (by rw [List.getElem?_map, ht]; rfl)
        rw [e1] at e6
        cases e6
        obtain ⟨vo', e8, _, e9⟩ := tr_shape e7
        cases e8
        exact e9
end Go.Proofs

namespace Go.Proofs
open Go Go.Sx
attribute [local irreducible] Run

theorem fst_bel (n : Nat) {S : Nat → Prop} : (Row.cells true 1 (fstV n)).bel S := by
  rw [row_bel_cells]
  exact bels_of fun v hv => by
    obtain ⟨k, -, rfl⟩ := List.mem_map.1 hv
    exact .int _ _
end Go.Proofs

namespace Go.Proofs
open Go Go.Sx
attribute [local irreducible] Run

theorem at_Y {x : Option Row} {Y Z : Heap} {k : Nat} : (x :: (Y ++ Z))[Y.length + k + 1]? = Z[k]? := by
  rw [List.getElem?_cons_succ, List.getElem?_append_right (by omega), Nat.add_sub_cancel_left]
theorem sl_frz {H : Heap} {r m : Nat} {g : Bool} {l : List Nat} (h : H[r]? = some (some (.cells g 1 (ofL l)))) (h0 : l ≠ []) (hm : m = l.length) : frz 6 H (.sl r 0 m) = ofC l := by
  subst hm
  unfold ofC
  rw [if_neg h0, frz_sl (d := 5) h (by rw [ofL_len]), ofL, List.map_map]
  rfl
theorem wTup_bel (p : Pl) (S : Nat → Prop) : Bel S (wTup p) := by
  unfold wTup; split <;> simp only [go_sem]
theorem VS.sized {Y : Heap} {vs : List AVal} {ts : List Tr} (h : VS Y vs ts) : sizedAll 2 vs = true := by
  unfold sizedAll
  rw [List.all_eq_true]
  intro v hv
  obtain ⟨i, hi, rfl⟩ := List.mem_iff_getElem.1 hv
  obtain ⟨vo, e, h1, _⟩ := h.el i (ts[i]'(by have := h.len; omega)) (List.getElem?_eq_getElem _)
  rw [List.getElem?_eq_getElem hi] at e
  have e2 : vs[i] = _ := Option.some.inj e
  rw [e2]
  rcases h1 with rfl | ⟨_, _, _, rfl⟩ <;> rfl
theorem hunt_len (w : Int) (m k : Nat) : (hnT w m k).1.length ≤ k := by
  have u := upto_in (w := dstep w) (n := k + 1) (by omega)
  have := (tsS_ok (hnN w m) (dstep (dstep w)) (upto (dstep w) (k + 1)).toNat).1
  unfold hnT; omega
theorem ht_snoc {n : Nat} {ts : List Tr} (h : HtOK n ts) {l : List Nat} {c : Int} (hl : (ts ++ [(⟨l, c⟩ : Tr)]).length ≤ 12) (ha : Asc n l) (hc : 0 ≤ c ∧ c < 5) : HtOK n (ts ++ [⟨l, c⟩]) := ⟨h.many, hl, fun t ht => by
  rcases List.mem_append.1 ht with h1 | h1
  · exact h.ts t h1
  · have : t = (⟨l, c⟩ : Tr) := by simpa using h1
    subst this
    exact ⟨ha, by dsimp only; omega⟩⟩
theorem DSt.app {K : Heap} {y i : Nat} {vE vS : AVal} {lE lS : List Nat} (h : DSt K y i vE vS lE lS) (X : Heap) : DSt (K ++ X) y i vE vS lE lS := by
  obtain ⟨a, b, h1, h2, h3⟩ := h.at'
  exact ⟨h.e, h.s, a, b, h1.app X, h2.app X, h3⟩
theorem frz_more {x : Option Row} {Y K : Heap} {a b mb eb : Option Row} {vs : List AVal} {ts : List Tr} {vE vS : AVal} {lE lS : List Nat} {c : Int} {n i : Nat} (h : VS Y vs ts) (hD : DSt K Y.length i vE vS lE lS) :
    frz 6 (x :: (Y ++ a :: b :: some (.cells true 2 (vs ++ [.agg [vE, .int .i64 c]])) :: mb :: eb :: K)) (.agg [.int .i64 n, .sl (Y.length + 3) 0 (ts.length + 1)]) = htC n (ts ++ [⟨lE, c⟩]) := by
  obtain ⟨H, hH⟩ : ∃ H, (x :: (Y ++ a :: b :: some (.cells true 2 (vs ++ [.agg [vE, .int .i64 c]])) :: mb :: eb :: K)) = H := ⟨_, rfl⟩
  have hr : H[Y.length + 3]? = some (some (.cells true 2 (vs ++ [.agg [vE, .int .i64 c]]))) := by rw [← hH]; exact at_Y (k := 2)
  have hE : frz 3 H vE = ofC lE := by
    obtain ⟨p, _, h1, _⟩ := hD.at'
    rcases h1 with ⟨rfl, rfl⟩ | ⟨h0, ⟨q, rfl, rfl⟩, hK⟩
    · rfl
    · unfold ofC
      rw [if_neg h0, frz_sl (d := 2) (g := true) (sz := 1) (es := ofL lE) (by rw [← hH, at_Y (k := p + 5)]; exact hK) (by rw [ofL_len]), ofL, List.map_map]
      rfl
  have hs : frz 5 H (.sl (Y.length + 3) 0 (ts.length + 1)) = .view ((ts ++ [(⟨lE, c⟩ : Tr)]).map trC) := by
    rw [frz_sl (d := 4) hr (by simp [h.len])]
    congr 1
    apply List.ext_getElem?
    intro i
    rw [List.getElem?_map, List.getElem?_map]
    rcases Nat.lt_trichotomy i ts.length with hi | hi | hi
    · obtain ⟨vo, e1, _, e2⟩ := h.el i ts[i] (List.getElem?_eq_getElem hi)
      rw [List.getElem?_append_left (by rw [h.len]; exact hi), List.getElem?_append_left hi, e1, List.getElem?_eq_getElem hi]
      have e3 := e2 x (a :: b :: some (.cells true 2 (vs ++ [.agg [vE, .int .i64 c]])) :: mb :: eb :: K)
      rw [hH] at e3
      show some (AVal.agg [frz 3 H vo, _]) = _
      rw [e3]; rfl
    · subst hi
      rw [List.getElem?_append_right (by rw [h.len]; exact Nat.le_refl _), List.getElem?_append_right (Nat.le_refl _), h.len, Nat.sub_self]
      show some (AVal.agg [frz 3 H vE, _]) = _
      rw [hE]; rfl
    · rw [List.getElem?_append_right (by rw [h.len]; omega), List.getElem?_append_right (by omega), h.len]
      obtain ⟨k, hk⟩ : ∃ k, i - ts.length = k + 1 := ⟨i - ts.length - 1, by omega⟩
      rw [hk]; rfl
  rw [hH]
  show AVal.agg [_, frz 5 H (.sl (Y.length + 3) 0 (ts.length + 1))] = _
  rw [hs]
  unfold htC tsC
  rw [if_neg (by simp)]
  rfl
theorem dr_nv (w : Int) : (Dr w).nv := row_nv_cells _ _ (by simp only [go_sem])
set_option maxHeartbeats 16000000 in
set_option maxRecDepth 20000 in
theorem fewer_law (zs : List Int) (hl : zs.length ≤ 9223372036854775807) : Ans Try.prog n_law06_PumpFewer [.view (zs.map (.int .i64))] [] (.bool true) [] := by
  refine spec_run e_law06_PumpFewer fun G => ?_
  simp only [go_sem]
  refine callN1 (newdice_ok zs hl) (by simp only [go_sem]) (dr_bel _ _) (by simp) (by simp) ?_
  generalize seedW zs = w
  simp only [go_sem]
  have hun := HuntOf_run w (m := 8) (k := 9) (by decide) (by decide)
  have hok := hunt_ok w (m := 8) (k := 9) (by decide) (by decide)
  have hln := hunt_len w 8 9
  have hpu := htC_pure (hnN w 8) (hnT w 8 9).1
  obtain ⟨n, hn⟩ : ∃ n, hnN w 8 = n := ⟨_, rfl⟩
  obtain ⟨p, hp⟩ : ∃ p, hnT w 8 9 = p := ⟨_, rfl⟩
  rw [hn, hp] at hun hok hpu
  rw [hp] at hln
  obtain ⟨ts, w1⟩ := p
  dsimp only at hun hok hpu hln
  clear hn hp
  refine cMD hun hpu 6 ⟨.inl rfl, .inl rfl, trivial⟩ ?_ (hxn := dr_nv _) (hxn' := dr_nv _)
  have D := fun (x : Option Row) (Z : Heap) => thaw_dat (H := x :: ((thaw 6 1 (htC n ts)).2 ++ Z)) 1 hpu (fun i hi => by
    rw [Nat.add_comm, List.getElem?_cons_succ, List.getElem?_append_left hi])
  simp only [go_sem]
  obtain ⟨Y, hY⟩ : ∃ Y, (thaw 6 1 (htC n ts)).2 = Y := ⟨_, rfl⟩
  obtain ⟨v, hv⟩ : ∃ v, (thaw 6 1 (htC n ts)).1 = v := ⟨_, rfl⟩
  rw [hY, hv] at D
  rw [hY, hv]
  obtain ⟨vT, rfl, hT⟩ := hunt_lies D
  have vs1 : isSl vT := by
    rcases hT with ⟨_, rfl⟩ | ⟨j, vs, _, rfl, _⟩
    · exact .inl rfl
    · exact .inr ⟨_, _, _, rfl⟩
  simp only [go_sem]
  have many := hok.many
  have rne : List.range n ≠ [] := fun e => by have := congrArg List.length e; simp at this; omega
  have kw := Worst_all hok (l := List.range n) (range_asc (Nat.le_refl _)) rne
  have F := fun x Z => (D x Z).frz
  refine ⟨by rcases vs1 with h | ⟨_, _, _, h⟩ <;> rw [h], ?_⟩
  refine cN1 (First_run (n := n) many.1 (by omega)) ?_ (hx := fst_bel n)
  simp only [go_sem, ren, rens]
  refine cF kw 6 ⟨.inl (F _ _), .inl (sl_frz (l := List.range n) (g := true) ?_ rne (by simp)), trivial⟩ ?_ (hr := wTup_bel _ _) (hnv := by unfold wTup; split <;> simp only [go_sem])
  · exact at_Y (k := 1)
  have ps := fun l hl l0 => pln_some (l := l) hok (hl := hl) (l0 := l0)
  have pm := fun ts' h' => pln_more (ts' := ts') hok h'
  obtain ⟨pw, hpw⟩ : ∃ p, plnOf ts (setN (List.range n)) = p := ⟨_, rfl⟩
  rw [hpw] at ps pm
  simp only [wTup, hpw]
  obtain ⟨told, cost, trial⟩ := pw
  cases told with
  | false =>
    simp only [Bool.false_eq_true, if_false]
    simp only [go_sem, bne]
    refine cP awake_ok ?_
    simp only [go_sem]
  | true =>
    simp only [if_true]
    simp only [go_sem, bne]
    rcases hT with ⟨rfl, rfl⟩ | ⟨j, vs, t0, rfl, hj, hVS⟩
    · refine ⟨by simp <;> omega, by omega, by omega, ?_⟩
      simp only [go_sem]
      refine ⟨by decide, by simp <;> omega, by simp <;> omega, ?_⟩
      refine cD (upto_ok (w1) 5 (by decide)) ?_
      have u5 := upto_in (w := w1) (n := 5) (by decide)
      obtain ⟨c5, hc5⟩ : ∃ c, upto (w1) 5 = c := ⟨_, rfl⟩
      rw [hc5] at u5 ⊢
      obtain ⟨w9, hw9⟩ : ∃ x, dstep (w1) = x := ⟨_, rfl⟩
      rw [hw9]
      clear hc5 hw9
      simp only [go_sem]
      refine few_loop w9 Y n (by omega) .nilsl (some (.cells true 1 (fstV n))) (some (.cells true 2 ([] : List AVal))) (some (.cells false 2 [.agg [.int .i64 n, .sl (Y.length + 3) 0 (([] : List Tr).length)]])) cost c5 ?_ (by omega) _ (by simp [go_sem, fwT])
      intro w' vE vS K lE lS hD
      have veI := hD.at'
      have slE : isSl vE := by obtain ⟨a, b, h, _⟩ := veI; exact vE_sl h
      have slS : isSl vS := by obtain ⟨a, b, _, h, _⟩ := veI; exact vE_sl h
      simp only [go_sem, fwT, fwH]
      refine ⟨by rcases slE with h | ⟨_, _, _, h⟩ <;> rw [h], by rcases slE with h | ⟨_, _, _, h⟩ <;> rw [h] <;> simp, by decide, ?_⟩
      have hok2 : HtOK n (([] : List Tr) ++ [⟨lE, c5⟩]) := ht_snoc hok (by simp only [List.length_append, List.length_set, List.length_cons, List.length_nil]; omega) hD.e (by omega)
      have hm2 : ∀ (m : Nat) (u0 : Tr), ([] : List Tr)[m]? = some u0 → ∃ t' : Tr, (([] : List Tr) ++ [⟨lE, c5⟩])[m]? = some t' ∧ t'.of = u0.of ∧ t'.cost ≤ u0.cost := (fun m t h => by simp at h)
      obtain ⟨q1, q2⟩ := pm _ hok2 rfl hm2
      have kw2 := Worst_all hok2 (l := List.range n) (range_asc (Nat.le_refl _)) rne
      generalize plnOf (([] : List Tr) ++ [⟨lE, c5⟩]) (setN (List.range n)) = pl2 at *
      obtain ⟨t2, cost2, trial2⟩ := pl2
      dsimp only at q1 q2
      subst q1
      refine cF kw2 6 ⟨.inl (frz_more (vs := ([] : List AVal)) (ts := ([] : List Tr)) (⟨rfl, fun i t h => by simp at h⟩ : VS Y [] []) (hD.app _)), .inl (sl_frz (l := List.range n) (g := true) (at_Y (k := 1)) rne (by simp)), trivial⟩ ?_ (hr := wTup_bel _ _) (hnv := by unfold wTup; split <;> simp only [go_sem])
      simp only [wTup, if_true]
      have ng : ¬ cost2 > cost := by omega
      simp only [go_sem, bne, ng]
      by_cases s0 : lS = []
      · have vn : vS = .nilsl := by
          obtain ⟨a, b, _, h, _⟩ := hD.at'
          rcases h with ⟨_, h⟩ | ⟨h, _⟩
          · exact h
          · exact absurd s0 h
        subst vn
        simp only [go_sem]
        refine cP awake_ok ?_
        simp only [go_sem]
      · obtain ⟨a, b, _, hS, _⟩ := hD.at'
        rcases hS with ⟨h, _⟩ | ⟨_, ⟨q, rfl, rfl⟩, hK⟩
        · exact absurd h s0
        have ln : ((lS.length : Int) == 0) = false := beq_eq_false_iff_ne.2 (by have := List.length_pos_iff.2 s0; omega)
        obtain ⟨r1, r2⟩ := ps lS hD.s s0 rfl
        have kw3 := Worst_all hok hD.s s0
        generalize plnOf ([] : List Tr) (setN lS) = pl3 at *
        obtain ⟨t3, cost3, trial3⟩ := pl3
        dsimp only at r1 r2
        subst r1
        have hcK := fun L => cells_more (cells_at hK) L
        simp only [go_sem, ln, hcK, ofL_len]
        refine cF kw3 6 ⟨.inl (F _ _), .inl (sl_frz (l := lS) (g := true) (by rw [at_Y (k := b + 5)]; show (K ++ [_])[b]? = _; rw [List.getElem?_append_left (List.getElem?_eq_some_iff.1 hK).1]; exact hK) s0 rfl), trivial⟩ ?_ (hr := wTup_bel _ _) (hnv := by unfold wTup; split <;> simp only [go_sem])
        simp only [wTup, if_true]
        simp only [go_sem, bne, r2]
        refine cP awake_ok ?_
        simp only [go_sem]
    · have hc := fun L => cells_more (cells_at hj) L
      have vl := hVS.len
      have sz := hVS.sized
      have tk : List.take ts.length vs = vs := List.take_of_length_le (by omega)
      refine ⟨by simp <;> omega, by omega, by omega, ?_⟩
      have lp : (0 : Int) < ts.length := by have := List.length_pos_iff.2 t0; omega
      simp only [go_sem, hc, vl, tk, sz, lp]
      have jl := (List.getElem?_eq_some_iff.1 hj).1
      refine ⟨by omega, by simp <;> omega, by simp <;> omega, ?_⟩
      have k1 := one_ok w1 2 (by decide)
      obtain ⟨b1, hb1⟩ : ∃ b, (upto w1 2 == 0) = b := ⟨_, rfl⟩
      obtain ⟨w2, hw2⟩ : ∃ x, dstep w1 = x := ⟨_, rfl⟩
      rw [hb1, hw2] at k1
      clear hb1 hw2
      refine cD k1 ?_
      cases b1 with
      | false =>
        simp only [go_sem]
        refine cD (upto_ok (w2) 5 (by decide)) ?_
        have u5 := upto_in (w := w2) (n := 5) (by decide)
        obtain ⟨c5, hc5⟩ : ∃ c, upto (w2) 5 = c := ⟨_, rfl⟩
        rw [hc5] at u5 ⊢
        obtain ⟨w9, hw9⟩ : ∃ x, dstep (w2) = x := ⟨_, rfl⟩
        rw [hw9]
        clear hc5 hw9
        simp only [go_sem]
        refine few_loop w9 Y n (by omega) (.sl (j + 1) 0 ts.length) (some (.cells true 1 (fstV n))) (some (.cells true 2 vs)) (some (.cells false 2 [.agg [.int .i64 n, .sl (Y.length + 3) 0 (ts.length)]])) cost c5 ?_ (by omega) _ (by simp [go_sem, fwT])
        intro w' vE vS K lE lS hD
        have veI := hD.at'
        have slE : isSl vE := by obtain ⟨a, b, h, _⟩ := veI; exact vE_sl h
        have slS : isSl vS := by obtain ⟨a, b, _, h, _⟩ := veI; exact vE_sl h
        simp only [go_sem, fwT, fwH, vl]
        refine ⟨by rcases slE with h | ⟨_, _, _, h⟩ <;> rw [h], by rcases slE with h | ⟨_, _, _, h⟩ <;> rw [h] <;> simp, by omega, ?_⟩
        have hok2 : HtOK n (ts ++ [⟨lE, c5⟩]) := ht_snoc hok (by simp only [List.length_append, List.length_set, List.length_cons, List.length_nil]; omega) hD.e (by omega)
        have hm2 : ∀ (m : Nat) (u0 : Tr), ts[m]? = some u0 → ∃ t' : Tr, (ts ++ [⟨lE, c5⟩])[m]? = some t' ∧ t'.of = u0.of ∧ t'.cost ≤ u0.cost := (fun m t h => ⟨t, by rw [List.getElem?_append_left (List.getElem?_eq_some_iff.1 h).1]; exact h, rfl, Int.le_refl _⟩)
        obtain ⟨q1, q2⟩ := pm _ hok2 rfl hm2
        have kw2 := Worst_all hok2 (l := List.range n) (range_asc (Nat.le_refl _)) rne
        generalize plnOf (ts ++ [⟨lE, c5⟩]) (setN (List.range n)) = pl2 at *
        obtain ⟨t2, cost2, trial2⟩ := pl2
        dsimp only at q1 q2
        subst q1
        refine cF kw2 6 ⟨.inl (frz_more (vs := vs) (ts := ts) hVS (hD.app _)), .inl (sl_frz (l := List.range n) (g := true) (at_Y (k := 1)) rne (by simp)), trivial⟩ ?_ (hr := wTup_bel _ _) (hnv := by unfold wTup; split <;> simp only [go_sem])
        simp only [wTup, if_true]
        have ng : ¬ cost2 > cost := by omega
        simp only [go_sem, bne, ng]
        by_cases s0 : lS = []
        · have vn : vS = .nilsl := by
            obtain ⟨a, b, _, h, _⟩ := hD.at'
            rcases h with ⟨_, h⟩ | ⟨h, _⟩
            · exact h
            · exact absurd s0 h
          subst vn
          simp only [go_sem]
          refine cP awake_ok ?_
          simp only [go_sem]
        · obtain ⟨a, b, _, hS, _⟩ := hD.at'
          rcases hS with ⟨h, _⟩ | ⟨_, ⟨q, rfl, rfl⟩, hK⟩
          · exact absurd h s0
          have ln : ((lS.length : Int) == 0) = false := beq_eq_false_iff_ne.2 (by have := List.length_pos_iff.2 s0; omega)
          obtain ⟨r1, r2⟩ := ps lS hD.s s0 rfl
          have kw3 := Worst_all hok hD.s s0
          generalize plnOf ts (setN lS) = pl3 at *
          obtain ⟨t3, cost3, trial3⟩ := pl3
          dsimp only at r1 r2
          subst r1
          have hcK := fun L => cells_more (cells_at hK) L
          simp only [go_sem, ln, hcK, ofL_len]
          refine cF kw3 6 ⟨.inl (F _ _), .inl (sl_frz (l := lS) (g := true) (by rw [at_Y (k := b + 5)]; show (K ++ [_])[b]? = _; rw [List.getElem?_append_left (List.getElem?_eq_some_iff.1 hK).1]; exact hK) s0 rfl), trivial⟩ ?_ (hr := wTup_bel _ _) (hnv := by unfold wTup; split <;> simp only [go_sem])
          simp only [wTup, if_true]
          simp only [go_sem, bne, r2]
          refine cP awake_ok ?_
          simp only [go_sem]
      | true =>
        simp only [go_sem, vl]
        have ui := upto_in (w := w2) (n := ts.length) (by omega)
        have kU := upto_ok w2 ts.length (by omega)
        obtain ⟨i, hi⟩ : ∃ i : Nat, upto w2 ts.length = i := ⟨(upto w2 ts.length).toNat, by omega⟩
        rw [hi] at ui kU
        obtain ⟨w3, hw3⟩ : ∃ x, dstep w2 = x := ⟨_, rfl⟩
        rw [hw3] at kU
        clear hi hw3
        refine dD kU ?_
        have il : i < ts.length := by omega
        obtain ⟨t, ht⟩ : ∃ t, ts[i]? = some t := ⟨_, List.getElem?_eq_getElem il⟩
        obtain ⟨vo, hvi, hvo, hvf⟩ := hVS.el i t ht
        have tok := hok.ts t (List.mem_of_getElem? ht)
        have nI : ¬ (i : Int) < 0 := by omega
        have lI : (i : Int) < ts.length := by omega
        have wc : IntKind.i64.wrap (t.cost + 1) = t.cost + 1 := w64 (by have := tok.cost; omega)
        simp only [go_sem, vl, nI, lI, hvi, wc]
        have uc := upto_in (w := w3) (n := t.cost + 1) (by have := tok.cost; omega)
        have kC := upto_ok w3 (t.cost + 1) (by have := tok.cost; omega)
        obtain ⟨c2, hc2⟩ : ∃ c, upto w3 (t.cost + 1) = c := ⟨_, rfl⟩
        rw [hc2] at uc kC
        obtain ⟨w4, hw4⟩ : ∃ x, dstep w3 = x := ⟨_, rfl⟩
        rw [hw4] at kC
        clear hc2 hw4
        refine cD kC ?_
        have VS2 : VS Y (vs.set i (.agg [vo, .int .i64 c2])) (ts.set i ⟨t.of, c2⟩) := ⟨by rw [List.length_set, List.length_set]; exact vl, fun q u hu => by
          by_cases e : q = i
          · subst e
            rw [List.getElem?_set_self il] at hu
            cases hu
            exact ⟨vo, List.getElem?_set_self (by omega), hvo, hvf⟩
          · rw [List.getElem?_set_ne (fun x => e x.symm)] at hu ⊢
            exact hVS.el q u hu⟩
        have hok1 : HtOK n (ts.set i ⟨t.of, c2⟩) := ⟨hok.many, by rw [List.length_set]; exact hok.len, fun u hu => by
          rcases List.mem_or_eq_of_mem_set hu with h | rfl
          · exact hok.ts u h
          · exact ⟨tok.of, by have := tok.cost; dsimp only; omega⟩⟩
        simp only [go_sem, vl, nI, lI, hvi]
        refine cD (upto_ok (w4) 5 (by decide)) ?_
        have u5 := upto_in (w := w4) (n := 5) (by decide)
        obtain ⟨c5, hc5⟩ : ∃ c, upto (w4) 5 = c := ⟨_, rfl⟩
        rw [hc5] at u5 ⊢
        obtain ⟨w9, hw9⟩ : ∃ x, dstep (w4) = x := ⟨_, rfl⟩
        rw [hw9]
        clear hc5 hw9
        simp only [go_sem]
        refine few_loop w9 Y n (by omega) (.sl (j + 1) 0 ts.length) (some (.cells true 1 (fstV n))) (some (.cells true 2 (vs.set i (.agg [vo, .int .i64 c2])))) (some (.cells false 2 [.agg [.int .i64 n, .sl (Y.length + 3) 0 (ts.length)]])) cost c5 ?_ (by omega) _ (by simp [go_sem, fwT])
        intro w' vE vS K lE lS hD
        have veI := hD.at'
        have slE : isSl vE := by obtain ⟨a, b, h, _⟩ := veI; exact vE_sl h
        have slS : isSl vS := by obtain ⟨a, b, _, h, _⟩ := veI; exact vE_sl h
        simp only [go_sem, fwT, fwH, vl, List.length_set]
        refine ⟨by rcases slE with h | ⟨_, _, _, h⟩ <;> rw [h], by rcases slE with h | ⟨_, _, _, h⟩ <;> rw [h] <;> simp, by omega, ?_⟩
        have hok2 : HtOK n ((ts.set i ⟨t.of, c2⟩) ++ [⟨lE, c5⟩]) := ht_snoc hok1 (by simp only [List.length_append, List.length_set, List.length_cons, List.length_nil]; omega) hD.e (by omega)
        have hm2 : ∀ (m : Nat) (u0 : Tr), ts[m]? = some u0 → ∃ t' : Tr, ((ts.set i ⟨t.of, c2⟩) ++ [⟨lE, c5⟩])[m]? = some t' ∧ t'.of = u0.of ∧ t'.cost ≤ u0.cost := (fun m u h => by
          by_cases e : m = i
          · subst e
            rw [ht] at h
            cases h
            exact ⟨⟨t.of, c2⟩, by rw [List.getElem?_append_left (by rw [List.length_set]; exact il), List.getElem?_set_self il], rfl, by dsimp only; omega⟩
          · exact ⟨u, by rw [List.getElem?_append_left (by rw [List.length_set]; exact (List.getElem?_eq_some_iff.1 h).1), List.getElem?_set_ne (fun x => e x.symm)]; exact h, rfl, Int.le_refl _⟩)
        obtain ⟨q1, q2⟩ := pm _ hok2 rfl hm2
        have kw2 := Worst_all hok2 (l := List.range n) (range_asc (Nat.le_refl _)) rne
        generalize plnOf ((ts.set i ⟨t.of, c2⟩) ++ [⟨lE, c5⟩]) (setN (List.range n)) = pl2 at *
        obtain ⟨t2, cost2, trial2⟩ := pl2
        dsimp only at q1 q2
        subst q1
        refine cF kw2 6 ⟨.inl (by rw [show ts.length + 1 = (ts.set i ⟨t.of, c2⟩ : List Tr).length + 1 by rw [List.length_set]]; exact frz_more (vs := (vs.set i (.agg [vo, .int .i64 c2]))) (ts := (ts.set i ⟨t.of, c2⟩)) VS2 (hD.app _)), .inl (sl_frz (l := List.range n) (g := true) (at_Y (k := 1)) rne (by simp)), trivial⟩ ?_ (hr := wTup_bel _ _) (hnv := by unfold wTup; split <;> simp only [go_sem])
        simp only [wTup, if_true]
        have ng : ¬ cost2 > cost := by omega
        simp only [go_sem, bne, ng]
        by_cases s0 : lS = []
        · have vn : vS = .nilsl := by
            obtain ⟨a, b, _, h, _⟩ := hD.at'
            rcases h with ⟨_, h⟩ | ⟨h, _⟩
            · exact h
            · exact absurd s0 h
          subst vn
          simp only [go_sem]
          refine cP awake_ok ?_
          simp only [go_sem]
        · obtain ⟨a, b, _, hS, _⟩ := hD.at'
          rcases hS with ⟨h, _⟩ | ⟨_, ⟨q, rfl, rfl⟩, hK⟩
          · exact absurd h s0
          have ln : ((lS.length : Int) == 0) = false := beq_eq_false_iff_ne.2 (by have := List.length_pos_iff.2 s0; omega)
          obtain ⟨r1, r2⟩ := ps lS hD.s s0 rfl
          have kw3 := Worst_all hok hD.s s0
          generalize plnOf ts (setN lS) = pl3 at *
          obtain ⟨t3, cost3, trial3⟩ := pl3
          dsimp only at r1 r2
          subst r1
          have hcK := fun L => cells_more (cells_at hK) L
          simp only [go_sem, ln, hcK, ofL_len]
          refine cF kw3 6 ⟨.inl (F _ _), .inl (sl_frz (l := lS) (g := true) (by rw [at_Y (k := b + 5)]; show (K ++ [_])[b]? = _; rw [List.getElem?_append_left (List.getElem?_eq_some_iff.1 hK).1]; exact hK) s0 rfl), trivial⟩ ?_ (hr := wTup_bel _ _) (hnv := by unfold wTup; split <;> simp only [go_sem])
          simp only [wTup, if_true]
          simp only [go_sem, bne, r2]
          refine cP awake_ok ?_
          simp only [go_sem]

end Go.Proofs

