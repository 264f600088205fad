/- A part of the proof: the abstract semantics. -/
import Derived.Test.YtmpocglkfgfpbaaSxA
import Derived.Lib.Strings
import Derived.Laws.StructEq
import Derived.Laws.MakeOwn
import Derived.Laws.Append
set_option linter.unusedSimpArgs false
set_option linter.unusedVariables false
/- 'aev' is sound: operations on memory. -/
namespace Go.Sx
open Go

variable {P : Program} {G : Ctx} {μ : Mu} {H : Heap} {n : Nat} {w : World} {ρ : List AVal} {a : Act} {v : AVal} {Δ : List (Nat × Row)}

theorem cellsAt_row {r : Nat} {g : Bool} {sz : Nat} {es : List AVal} (h : H.cellsAt r = some (g, sz, es)) : H[r]? = some (some (.cells g sz es)) := by
  unfold Heap.cellsAt at h
  split at h
  · cases h; assumption
  · cases h

theorem add_at (b o j : Nat) : (⟨b, o, none⟩ : Addr).add j = ⟨b, o + j, none⟩ := by
  unfold Addr.add
  split <;> simp_all

theorem cell_at {w : World} {b : Nat} {C : Array Value} {ty : TypeId} {fr : Nat × Nat} (h : w.heap[b]? = some (.cells C ty fr)) (o : Nat) : w.cell? ⟨b, o, none⟩ = C[o]? := by
  simp [World.cell?, h]

theorem HR.own (hH : HR P G μ H w) {r : Nat} {g : Bool} {sz : Nat} {es : List AVal} (h : H.cellsAt r = some (g, sz, es)) :
    ∃ (p : Place) (C : Array Value) (ty : TypeId × Mark p.size p.vec), μ r = some p ∧ ¬ G.keep p.blk ∧ p.blk < w.heap.size ∧ p.sz = sz ∧ p.len = es.length ∧ (g = false → p.grown = false) ∧ w.heap[p.blk]? = some (.cells C ty.1 ty.2.1) ∧ C.size = p.size ∧
      ∀ i, i < es.length → (acells (es.getD i .any)).length = sz ∧ ∀ j, j < sz → ∃ c, C[p.off + i * sz + j]? = some c ∧ VR G μ ((acells (es.getD i .any)).getD j .any) c := by
  obtain ⟨p, h1, h2, h3, h4, h5, h6, C, ty, h7, h8, h9⟩ := hH.row r _ (cellsAt_row h) nofun
  exact ⟨p, C, ty, h1, h2, h3, h4, h5, h6, h7, h8, h9⟩

theorem live_of {g : Bool} {p : Place} {L m : Nat} (hg : g = false → p.grown = false) (hl : p.len = m) (h : g = false ∨ L = m) : p.live L := by
  rcases h with h | h
  · exact .inl (hg h)
  · exact .inr (by omega)

theorem getD_of_get {es : List AVal} {i : Nat} {e : AVal} (h : es[i]? = some e) : i < es.length ∧ es.getD i .any = e := by
  obtain ⟨hi, he⟩ := List.getElem?_eq_some_iff.1 h
  exact ⟨hi, by simp [List.getD_eq_getElem?_getD, h]⟩

theorem lkind_run {t : TypeId} {k : Option Nat} (h : lkind P t = some k) :
    (match k with | some m => (isAgg t).run P w = .ok true w ∧ (sizeOf t).run P w = .ok m w | none => (isAgg t).run P w = .ok false w) := by
  unfold lkind isAggT at h
  cases hu : P.underlying t with
  | none => simp [hu] at h
  | some d =>
    cases d <;> simp [hu] at h <;> first
      | (subst h; simp [isAgg, run_underlying hu]; done)
      | (obtain ⟨m, hm, rfl⟩ := h; exact ⟨by simp [isAgg, run_underlying hu], run_sizeT hm⟩)

theorem loadVar_sound {t : TypeId} {k : Option Nat} (hk : lkind P t = some k) (b o off : Nat) (cs : List AVal) (f : Nat → Value)
    (hf : ∀ j, j < cs.length → w.cell? ⟨b, o + j, none⟩ = some (f j)) (hv : ∀ j, j < cs.length → VR G μ (cs.getD j .any) (f j)) (h : partOf cs off k = some v) :
    ∃ cv, (loadVar t ⟨b, o + off, none⟩).run P w = .ok cv w ∧ VR G μ v cv := by
  have hr := lkind_run (w := w) hk
  cases k with
  | none =>
    simp only [partOf] at h
    obtain ⟨hi, he⟩ := List.getElem?_eq_some_iff.1 h
    refine ⟨f off, ?_, ?_⟩
    · simp [loadVar, hr, load, Sem.run, hf off hi]
    · have := hv off hi
      simpa [List.getD_eq_getElem?_getD, h] using this
  | some m =>
    simp only [partOf] at h
    split at h
    · rename_i hm
      cases h
      have hl := run_loadCells (P := P) w ⟨b, o + off, none⟩ m (fun j => f (off + j)) (fun j hj => by rw [add_at, Nat.add_assoc]; exact hf _ (by omega))
      refine ⟨_, by simp [loadVar, hr.1, hr.2, hl]; rfl, .agg _ _ (by simp; omega) fun i hi => ?_⟩
      have hi' : i < m := by simp at hi; omega
      have := hv (off + i) (by omega)
      simp only [List.getD_eq_getElem?_getD, List.getElem?_take_of_lt hi', List.getElem?_drop, Array.getD_eq_getD_getElem?]
      simp [hi']
      simpa [List.getD_eq_getElem?_getD] using this
    · cases h

theorem HR.ro_cell (hH : HR P G μ H w) {b o : Nat} (hb : G.ro b) : w.cell? ⟨b, o, none⟩ = G.w0.cell? ⟨b, o, none⟩ := by
  simp only [World.cell?, (hH.kept b (hH.ro b hb)).2]

theorem ldv_run (hH : HR P G μ H w) {t : TypeId} {k : Option Nat} (hk : lkind P t = some k) {x : AVal} {c : Value} (hx : VR G μ x c) (h : ldv H k x = some v) :
    ∃ ad cv, c = .pointer (some ad) ∧ (loadVar t ad).run P w = .ok cv w ∧ VR G μ v cv := by
  unfold ldv at h
  split at h
  · rename_i r i off L
    split at h
    · rename_i g sz es hc
      split at h
      · rename_i hg
        split at h
        · rename_i e he
          obtain ⟨p, C, ty, h1, h2, h3, h4, h5, h6, h7, h8, h9⟩ := hH.own hc
          obtain ⟨p', h1', hL, hcv⟩ := hx.inv_ptr
          rw [h1] at h1'; cases h1'
          have hcv := hcv (live_of h6 h5 hg)
          obtain ⟨hi, hd⟩ := getD_of_get he
          obtain ⟨h10, h11⟩ := h9 i hi
          rw [hd] at h10 h11
          have hcell : ∀ j, j < (acells e).length → w.cell? ⟨p.blk, p.off + i * p.sz + j, none⟩ = some (C.getD (p.off + i * p.sz + j) undef) := fun j hj => by
            obtain ⟨c, hc1, _⟩ := h11 j (by omega)
            rw [h4, cell_at h7, Array.getD_eq_getD_getElem?, hc1]; rfl
          obtain ⟨cv, hrun, hvr⟩ := loadVar_sound (w := w) hk p.blk (p.off + i * p.sz) off (acells e) _ hcell (fun j hj => by
            obtain ⟨c, hc1, hc2⟩ := h11 j (by omega)
            rw [h4, Array.getD_eq_getD_getElem?, hc1]; exact hc2) h
          exact ⟨_, cv, hcv, hrun, hvr⟩
        · cases h
      · cases h
    · cases h
  · rename_i e off
    generalize hq : AVal.rptr e off = q at hx
    cases hx <;> cases hq
    rename_i b o f hb hf hv
    obtain ⟨cv, hrun, hvr⟩ := loadVar_sound (w := w) hk b o off (acells e) f (fun j hj => by rw [hH.ro_cell hb]; exact hf j hj) hv h
    exact ⟨_, cv, rfl, hrun, hvr⟩
  · cases h

theorem aev_load (hT : TR G μ ρ a.tmps) (hH : HR P G μ H w) (t : TypeId) (x : Operand) (o : Oper) (ho : o.op = .load t x)
    (h : aev (cop P o) ρ H n = some (v, Δ)) : Step P G μ H n (execOp a.eval o) w v Δ := by
  have hex : execOp a.eval o = (do pure (.value (← Instr.loadAt t (a.eval x)))) := by simp only [execOp, ho]
  rw [hex]
  simp only [cop, ho] at h
  split at h
  · rename_i k hk
    simp only [aev] at h
    obtain ⟨hb, rfl⟩ := map_nil h
    obtain ⟨ad, cv, h1, h2, h3⟩ := ldv_run hH hk (opd_sound hH.glob hT x) hb
    exact Step.pure (cv := cv) hH (by simp [Instr.loadAt, h1, Instr.sureAddr, h2]) h3
  · simp [aev] at h

theorem aev_move (hT : TR G μ ρ a.tmps) (hH : HR P G μ H w) (x : Operand) (h : aev (.move ((copd P) x)) ρ H n = some (v, Δ)) (s : Sem Next) (hs : s = pure (.value (a.eval x))) : Step P G μ H n s w v Δ := by
  simp only [aev] at h
  obtain ⟨rfl, rfl⟩ := some_nil h
  subst hs
  exact Step.pure hH (by simp) (opd_sound hH.glob hT x)

theorem all_one {vs : List AVal} {c : Value} (hc : CR G μ vs c.cells) (h : vs.all AVal.one = true) : ∀ u ∈ c.cells.toList, u.oneCell' = true := by
  intro u hu
  obtain ⟨i, hi, rfl⟩ := List.mem_iff_getElem.1 hu
  have hi' : i < vs.length := by rw [hc.1]; simpa using hi
  have h1 := hc.2 i hi'
  have h2 : (vs.getD i .any).one = true := by
    have := List.all_eq_true.1 h vs[i] (List.getElem_mem hi')
    simpa [List.getD_eq_getElem?_getD, hi'] using this
  have := h1.one h2
  have hi'' : i < c.cells.size := by simpa using hi
  rw [Array.getD_eq_getD_getElem?] at this
  simpa [hi''] using this

theorem setPart_cells {e e' : AVal} {off : Nat} {vs : List AVal} (h : setPart e off vs = some e') (hone : vs.all AVal.one = true) :
    off + vs.length ≤ (acells e).length ∧ acells e' = (acells e).take off ++ vs ++ (acells e).drop (off + vs.length) := by
  unfold setPart at h
  split at h
  · split at h
    · cases h; exact ⟨by assumption, rfl⟩
    · cases h
  · rename_i hne
    split at h
    · rename_i v'
      obtain rfl : v' = e' := by cases h; rfl
      have h1 : acells e = [e] := by cases e <;> first | rfl | exact absurd rfl (hne _)
      have h2 : acells v' = [v'] := by cases v' <;> first | rfl | simp [AVal.one] at hone
      rw [h1, h2]
      exact ⟨by simp, by simp⟩
    · cases h

theorem splice_get {α : Type} (C : List α) (Y : List α) (k q : Nat) (h : k + Y.length ≤ C.length) :
    (C.take k ++ Y ++ C.drop (k + Y.length))[q]? = if k ≤ q ∧ q < k + Y.length then Y[q - k]? else C[q]? := by
  by_cases h1 : q < k
  · rw [if_neg (by omega), List.append_assoc, List.getElem?_append_left (by simp; omega), List.getElem?_take_of_lt h1]
  · by_cases h2 : q < k + Y.length
    · rw [if_pos (by omega), List.append_assoc, List.getElem?_append_right (by simp; omega), List.getElem?_append_left (by simp; omega)]
      congr 1
      simp; omega
    · rw [if_neg (by omega), List.getElem?_append_right (by simp; omega), List.getElem?_drop]
      congr 1
      simp; omega

theorem run_storeCells_mk (g o : Nat) (t : TypeId) (fr : Nat × Nat) : ∀ (vs : List Value) (i : Nat) (cur : Array Value) (w : World), w.heap[g]? = some (.cells cur t fr) → (∀ j, j < cur.size → ¬ (fr.1 ≤ j ∧ j < fr.2)) → o + i + vs.length ≤ cur.size → (∀ v ∈ vs, v.oneCell' = true) →
    (storeCells ⟨g, o, none⟩ vs i).run P w = .ok () (w.setRow g (cur.toList.take (o + i) ++ vs ++ cur.toList.drop (o + i + vs.length)).toArray)
  | [], i, cur, w, hg, _, _, _ => by
    simp only [storeCells, List.append_nil, List.length_nil, Nat.add_zero, List.take_append_drop, Array.toArray_toList]
    rw [setRow_self w g cur t fr hg]
    rfl
  | v :: rest, i, cur, w, hg, hf, hl, h1 => by
    have hi : o + i < cur.size := by simp at hl; omega
    have hadd : (⟨g, o, none⟩ : Addr).add i = ⟨g, o + i, none⟩ := by unfold Addr.add; split <;> simp_all
    have hcell : w.cell? ⟨g, o + i, none⟩ = some cur[o + i] := by simp [World.cell?, hg, hi]
    have hfro : w.frozen? ⟨g, o + i, none⟩ = false := by
      have := hf (o + i) hi
      simp only [World.frozen?, hg]
      rw [Bool.and_eq_false_iff]
      rcases Nat.lt_or_ge (o + i) fr.1 with h | h
      · exact .inl (decide_eq_false (by omega))
      · exact .inr (decide_eq_false (fun h2 => this ⟨h, h2⟩))
    have hst : (store ((⟨g, o, none⟩ : Addr).add i) v).run P w = .ok () (w.setRow g (cur.setIfInBounds (o + i) v)) := by
      rw [hadd, run_store P w _ v _ (h1 v (by simp)), hcell]
      simp [hfro, setCell_eq_setRow w g (o + i) cur t fr v hg]
    have ih := run_storeCells_mk g o t fr rest (i + 1) (cur.setIfInBounds (o + i) v) (w.setRow g (cur.setIfInBounds (o + i) v)) (setRow_heap w g cur _ t _ hg) (fun j hj => hf j (by simpa using hj)) (by simp at hl ⊢; omega) (fun x hx => h1 x (by simp [hx]))
    simp only [storeCells, Sem.run_bind, hst, Result.andThen_ok, ih, setRow_setRow]
    congr 3
    have e := list_seg_step cur.toList (o + i) v rest (by simp at hl ⊢; omega)
    simpa [Array.toList_setIfInBounds, Nat.add_assoc] using e
theorem aev_store (hT : TR G μ ρ a.tmps) (hH : HR P G μ H w) (t : TypeId) (x y : Operand) (o : Oper) (ho : o.op = .store t x y)
    (h : aev (cop P o) ρ H n = some (v, Δ)) : Step P G μ H n (execOp a.eval o) w v Δ := by
  have hex : execOp a.eval o = (do Instr.storeAt t (a.eval x) (a.eval y); pure .skip) := by simp only [execOp, ho]
  rw [hex]
  simp only [cop, ho] at h
  split at h
  · rename_i m hm
    have hx := opd_sound hH.glob hT x
    have hy := opd_sound hH.glob hT y
    simp only [aev] at h
    split at h
    · rename_i r i off L hr
      rw [hr] at hx
      split at h
      · rename_i g sz es hc
        split at h
        · rename_i hg
          obtain ⟨hg, hpos, hlen, hone⟩ := hg
          split at h
          · rename_i e he
            split at h
            · rename_i e' he'
              cases h
              obtain ⟨p, C, ty, h1, h2, h3, h4, h5, h6, h7, h8, h9⟩ := hH.own hc
              obtain ⟨p', h1', hL, hcv⟩ := hx.inv_ptr
              rw [h1] at h1'; cases h1'
              have hcv := hcv (live_of h6 h5 hg)
              obtain ⟨hi, hd⟩ := getD_of_get he
              obtain ⟨h10, h11⟩ := h9 i hi
              rw [hd] at h10 h11
              obtain ⟨hle, hac⟩ := setPart_cells he' hone
              generalize hY : acells (opd ρ ((copd P) y)) = ys at *
              have hcy : CR G μ ys (a.eval y).cells := by
                rw [← hY]
                refine CR.of_VR hy ?_
                cases hopd : opd ρ ((copd P) y) <;> simp_all [AVal.isAny, acells, AVal.one] <;> (subst hY; simp [AVal.one] at hone)
              have hall := all_one hcy hone
              have hysz : ys.length = (a.eval y).cells.size := hcy.1
              have hC : p.off + i * p.sz + off + ys.length ≤ C.size := by
                obtain ⟨c, hc1, _⟩ := h11 (off + ys.length - 1) (by omega)
                obtain ⟨hlt, _⟩ := Array.getElem?_eq_some_iff.1 hc1
                rw [h4]; omega
              have hst := run_storeCells_mk (P := P) p.blk (p.off + i * p.sz + off) ty.1 ty.2.1 (a.eval y).cells.toList 0 C w h7 (fun j hj => ty.2.out (by omega)) (by simp; omega) hall
              generalize hC' : (List.take (p.off + i * p.sz + off + 0) C.toList ++ (a.eval y).cells.toList ++ List.drop (p.off + i * p.sz + off + 0 + (a.eval y).cells.toList.length) C.toList).toArray = C' at hst
              have hget : ∀ q, C'[q]? = if p.off + i * p.sz + off ≤ q ∧ q < p.off + i * p.sz + off + ys.length then (a.eval y).cells[q - (p.off + i * p.sz + off)]? else C[q]? := by
                intro q
                rw [← hC', hysz]
                simp only [Nat.add_zero, List.getElem?_toArray, Array.length_toList]
                have hsp := splice_get C.toList (a.eval y).cells.toList (p.off + i * p.sz + off) q (by simp; omega)
                simpa using hsp
              have hsz' : C'.size = C.size := by rw [← hC']; simp; omega
              have hrun : (do Instr.storeAt t (a.eval x) (a.eval y); pure Next.skip : Sem Next).run P w = .ok .skip (w.setRow p.blk C') := by
                simp [Instr.storeAt, hcv, Instr.sureAddr, storeVar, run_sizeT hm, ← hysz, hlen, hst]
              refine ⟨.skip, undef, w.setRow p.blk C', μ, hrun, .inr ⟨rfl, rfl⟩, .any _, Mu.le_refl _, ?_, fun _ h => .inl h⟩
              refine hH.put (p := p) ⟨rfl, rfl, rfl⟩ (Mu.le_refl _) (fun _ _ => rfl) h1 (by simp) (by simpa using h3) h2 (fun b _ hb => ?_) (fun s y q hs hy hq hnd => ?_) ?_
              · simp [World.setRow, Array.getElem?_modify, Ne.symm hb]
              · exact hH.apart s r y _ q p hy (cellsAt_row hc) hq h1 hs hnd nofun
              · refine ⟨h4, by simpa using h5, h6, C', ty, setRow_heap w _ _ _ _ _ h7, by rw [hsz', h8], fun k hk => ?_⟩
                have hk' : k < es.length := by simpa using hk
                by_cases hki : k = i
                · subst hki
                  have hgd : (es.set k e').getD k .any = e' := by simp [List.getD_eq_getElem?_getD, hk']
                  rw [hgd, hac]
                  refine ⟨by simp; omega, fun j hj => ?_⟩
                  rw [hget]
                  by_cases hjr : off ≤ j ∧ j < off + ys.length
                  · rw [if_pos (by rw [h4]; omega)]
                    have hq : p.off + k * sz + j - (p.off + k * p.sz + off) = j - off := by rw [h4]; omega
                    rw [hq]
                    have hc2 := hcy.2 (j - off) (by omega)
                    have hlt : j - off < (a.eval y).cells.size := by omega
                    refine ⟨(a.eval y).cells[j - off], by simp [hlt], ?_⟩
                    rw [Array.getD_eq_getD_getElem?] at hc2
                    rw [List.getD_eq_getElem?_getD, List.append_assoc, List.getElem?_append_right (by simp; omega), List.getElem?_append_left (by simp; omega)]
                    have e1 : j - (List.take off (acells e)).length = j - off := by simp; omega
                    rw [e1, ← List.getD_eq_getElem?_getD]
                    simpa [hlt] using hc2
                  · rw [if_neg (by rw [h4]; omega)]
                    obtain ⟨c, hc1, hc2⟩ := h11 j hj
                    refine ⟨c, hc1, ?_⟩
                    rw [List.getD_eq_getElem?_getD] at hc2 ⊢
                    by_cases hlt : j < off
                    · rw [List.append_assoc, List.getElem?_append_left (by simp; omega), List.getElem?_take_of_lt hlt]; exact hc2
                    · rw [List.getElem?_append_right (by simp; omega), List.getElem?_drop]
                      have e1 : off + ys.length + (j - (List.take off (acells e) ++ ys).length) = j := by simp; omega
                      rw [e1]; exact hc2
                · have hgd : (es.set i e').getD k .any = es.getD k .any := by simp [List.getD_eq_getElem?_getD, List.getElem?_set_ne (Ne.symm hki)]
                  rw [hgd]
                  refine ⟨(h9 k hk').1, fun j hj => ?_⟩
                  obtain ⟨c, hc1, hc2⟩ := (h9 k hk').2 j hj
                  refine ⟨c, ?_, hc2⟩
                  rw [hget, if_neg ?_, hc1]
                  rw [h4]
                  rintro ⟨q1, q2⟩
                  rcases Nat.lt_or_gt_of_ne hki with hlt | hlt
                  · have : (k + 1) * sz ≤ i * sz := Nat.mul_le_mul_right _ hlt
                    rw [Nat.add_mul, Nat.one_mul] at this
                    omega
                  · have : (i + 1) * sz ≤ k * sz := Nat.mul_le_mul_right _ hlt
                    rw [Nat.add_mul, Nat.one_mul] at this
                    omega
            · cases h
          · cases h
        · cases h
      · cases h
    · cases h
  · simp [aev] at h
end Go.Sx
/- 'aev' is sound: arithmetic, comparisons, parts of values. -/
namespace Go.Sx
open Go

variable {P : Program} {G : Ctx} {μ : Mu} {H : Heap} {n : Nat} {w : World} {ρ : List AVal} {a : Act} {v : AVal} {Δ : List (Nat × Row)}

theorem run_eqGuard (op : BinOp) (t : TypeId) (x y : Operand) (c d : Value) (h1 : ∀ vs, c ≠ .agg vs) (h2 : c ≠ .nilIface) : (eqGuard op t x y c d).run P w = .ok () w := by
  unfold eqGuard
  cases op <;> simp <;> (split <;> first | (exfalso; simp_all; done) | simp)

theorem isNil_run (hH : HR P G μ H w) {x : AVal} {c : Value} {b : Bool} (h : isNilIn H x = some b) (hx : VR G μ x c) :
    (c = .pointer none ∧ b = true ∨ (∃ a, c = .pointer (some a)) ∧ b = false) ∨ (c = .slice none 0 0 ∧ b = true ∨ (∃ a n m, c = .slice (some a) n m) ∧ b = false) ∨
    (c = .nilFunc ∧ b = true ∨ (∃ f p q, c = .func f p q) ∧ b = false) ∨ (c = .map none ∧ b = true ∨ (∃ r, c = .map (some r)) ∧ b = false) ∨
    (c = .nilIface ∧ b = true ∨ (∃ t v, c = .iface t v) ∧ b = false) := by
  cases hx <;> simp only [isNilIn, isNil] at h <;> first
    | (cases h; done)
    | (cases h; simp; done)
    | skip
  · rename_i r i off L p hp hL ho hc
    split at h
    · rename_i g sz es hca
      split at h
      · rename_i hg
        cases h
        obtain ⟨p', C, ty, h1, h2, h3, h4, h5, h6, h7, h8, h9⟩ := hH.own hca
        rw [hp] at h1; cases h1
        rw [hc (live_of h6 h5 hg)]
        simp
      · cases h
    · cases h
  · rename_i r off len p hp hvec hL ho hc
    split at h
    · rename_i g sz es hca
      split at h
      · rename_i hg
        cases h
        obtain ⟨p', C, ty, h1, h2, h3, h4, h5, h6, h7, h8, h9⟩ := hH.own hca
        rw [hp] at h1; cases h1
        obtain ⟨cap, hcs, _⟩ := hc (live_of h6 h5 hg)
        rw [hcs]
        simp
      · cases h
    · cases h

def tkOk (P : Program) (tk : TK) (t : TypeId) : Prop :=
  match tk with
  | .bool => P.underlying t = some .bool
  | .plain => True
  | .slice => ∃ e, P.underlying t = some (.slice e)
  | .ptr => ∃ e, P.underlying t = some (.pointer e) ∧ ∃ i, P.info? e = some i ∧ i.size ≠ 0
  | .map => ∃ k e, P.underlying t = some (.map k e)
  | .func => ∃ p q r, P.underlying t = some (.func p q r)

theorem isNil_ptr (hH : HR P G μ H w) {r i off L : Nat} {c : Value} {b : Bool} (h : isNilIn H (.ptr r i off L) = some b) (hx : VR G μ (.ptr r i off L) c) : (∃ a, c = .pointer (some a)) ∧ b = false := by
  obtain ⟨p, hp, hL, hc⟩ := hx.inv_ptr
  simp only [isNilIn] at h
  split at h
  · rename_i g sz es hca
    split at h
    · rename_i hg
      cases h
      obtain ⟨p', C, ty, h1, h2, h3, h4, h5, h6, h7, h8, h9⟩ := hH.own hca
      rw [hp] at h1; cases h1
      exact ⟨⟨_, hc (live_of h6 h5 hg)⟩, rfl⟩
    · cases h
  · cases h

theorem isNil_sl (hH : HR P G μ H w) {r off len : Nat} {c : Value} {b : Bool} (h : isNilIn H (.sl r off len) = some b) (hx : VR G μ (.sl r off len) c) : (∃ a n m, c = .slice (some a) n m) ∧ b = false := by
  obtain ⟨p, hp, hvec, hL, hc⟩ := hx.inv_sl
  simp only [isNilIn] at h
  split at h
  · rename_i g sz es hca
    split at h
    · rename_i hg
      cases h
      obtain ⟨p', C, ty, h1, h2, h3, h4, h5, h6, h7, h8, h9⟩ := hH.own hca
      rw [hp] at h1; cases h1
      obtain ⟨cap, hcs, _⟩ := hc (live_of h6 h5 hg)
      exact ⟨⟨_, _, _, hcs⟩, rfl⟩
    · cases h
  · cases h

theorem isNil_ne (hH : HR P G μ H w) {x : AVal} {c : Value} {b : Bool} {tk : TK} (h : isNilK H tk x = some b) (hx : VR G μ x c) :
    match tk with
    | .slice => c = .slice none 0 0 ∧ b = true ∨ (∃ a n m, c = .slice (some a) n m) ∧ b = false
    | .ptr => c = .pointer none ∧ b = true ∨ (∃ a, c = .pointer (some a)) ∧ b = false
    | .func => c = .nilFunc ∧ b = true ∨ (∃ f p q, c = .func f p q) ∧ b = false
    | .map => c = .map none ∧ b = true ∨ (∃ r, c = .map (some r)) ∧ b = false
    | _ => True := by
  unfold isNilK at h
  split at h
  · rename_i ht
    subst ht
    have hx0 := hx
    cases hx with
    | ptr r i off L p c hp hL ho hc => exact .inr (isNil_ptr hH h hx0)
    | sl r off len p c hp hvec hL ho hc => exact .inr (isNil_sl hH h hx0)
    | _ => simp only [tkOf, isNilIn, isNil] at h ⊢ <;> first
      | trivial
      | (cases h; done)
      | (cases h; simp; done)
  · cases h

theorem eqIn_bool {t : TypeId} (hu : P.underlying t = some .bool) (d : Nat) (x y : Bool) : (Op.equalIn (d + 1) t (.bool x) (.bool y)).run P w = .ok (x == y) w := by
  simp [Op.equalIn, run_underlying hu]
theorem eqIn_slice {t e : TypeId} (hu : P.underlying t = some (.slice e)) (d : Nat) (a : Option Addr) (k m : Nat) : (Op.equalIn (d + 1) t (.slice a k m) (.slice none 0 0)).run P w = .ok a.isNone w := by
  cases a <;> simp [Op.equalIn, run_underlying hu]
theorem eqIn_ptr {t e : TypeId} (hu : P.underlying t = some (.pointer e)) (d : Nat) (a : Option Addr) : (Op.equalIn (d + 1) t (.pointer a) (.pointer none)).run P w = .ok a.isNone w := by
  cases a <;> simp [Op.equalIn, run_underlying hu]
theorem eqIn_map {t k e : TypeId} (hu : P.underlying t = some (.map k e)) (d : Nat) (a : Option Nat) : (Op.equalIn (d + 1) t (.map a) (.map none)).run P w = .ok a.isNone w := by
  cases a <;> simp [Op.equalIn, run_underlying hu]
theorem eqIn_func {t : TypeId} {p q : Array TypeId} {r : Bool} (hu : P.underlying t = some (.func p q r)) (d : Nat) (f : Fn) (x y : Array Value) : (Op.equalIn (d + 1) t (.func f x y) .nilFunc).run P w = .ok false w := by
  simp [Op.equalIn, run_underlying hu]
theorem eqIn_func0 {t : TypeId} {p q : Array TypeId} {r : Bool} (hu : P.underlying t = some (.func p q r)) (d : Nat) : (Op.equalIn (d + 1) t .nilFunc .nilFunc).run P w = .ok true w := by
  simp [Op.equalIn, run_underlying hu]

theorem equal_nil (hH : HR P G μ H w) {t : TypeId} {x y : AVal} {c d : Value} {b : Bool} {tk : TK} (hy : VR G μ y d) (hyt : tk = .slice ∧ y = .nilsl ∨ tk = .ptr ∧ y = .nilptr ∨ tk = .func ∧ y = .nilfn ∨ tk = .map ∧ y = .nilmap)
    (ht : tkOk P tk t) (h : isNilK H tk x = some b) (hx : VR G μ x c) : (∀ vs, c ≠ .agg vs) ∧ c ≠ .nilIface ∧
      (binOp .eql t c d).run P w = .ok (.bool b) w ∧ (binOp .neq t c d).run P w = .ok (.bool (!b)) w := by
  have hn := isNil_ne hH h hx
  rcases hyt with ⟨rfl, rfl⟩ | ⟨rfl, rfl⟩ | ⟨rfl, rfl⟩ | ⟨rfl, rfl⟩ <;> cases hy <;> simp only [tkOk] at ht hn
  · obtain ⟨e, hu⟩ := ht
    have he := fun a k m => eqIn_slice (w := w) hu 9999 a k m
    rcases hn with ⟨rfl, rfl⟩ | ⟨⟨a, n, m, rfl⟩, rfl⟩ <;> exact ⟨by simp, by simp, by simp [binOp, Op.equal, Op.maxDepth, he], by simp [binOp, Op.equal, Op.maxDepth, he]⟩
  · obtain ⟨e, hu, _⟩ := ht
    have he := fun a => eqIn_ptr (w := w) hu 9999 a
    rcases hn with ⟨rfl, rfl⟩ | ⟨⟨a, rfl⟩, rfl⟩ <;> exact ⟨by simp, by simp, by simp [binOp, Op.equal, Op.maxDepth, he], by simp [binOp, Op.equal, Op.maxDepth, he]⟩
  · obtain ⟨p, q, r, hu⟩ := ht
    have he := fun a k m => eqIn_func (w := w) hu 9999 a k m
    have he0 := eqIn_func0 (w := w) hu 9999
    rcases hn with ⟨rfl, rfl⟩ | ⟨⟨f, p', q', rfl⟩, rfl⟩
    · exact ⟨by simp, by simp, by simp [binOp, Op.equal, Op.maxDepth, he0], by simp [binOp, Op.equal, Op.maxDepth, he0]⟩
    · exact ⟨by simp, by simp, by simp [binOp, Op.equal, Op.maxDepth, he], by simp [binOp, Op.equal, Op.maxDepth, he]⟩
  · obtain ⟨k, e, hu⟩ := ht
    have he := fun a => eqIn_map (w := w) hu 9999 a
    rcases hn with ⟨rfl, rfl⟩ | ⟨⟨r, rfl⟩, rfl⟩ <;> exact ⟨by simp, by simp, by simp [binOp, Op.equal, Op.maxDepth, he], by simp [binOp, Op.equal, Op.maxDepth, he]⟩

theorem abin_int {k k' : IntKind} {x y : Int} {t : TypeId} {op : BinOp} (h : abinInt op k x k' y = some v) :
    ∃ cv, (binOp op t (.int k x) (.int k' y)).run P w = .ok cv w ∧ VR G μ v cv := by
  cases op <;> simp [abinInt, bitsOf] at h
  case shl => obtain ⟨hy, rfl⟩ := h; exact ⟨.int k _, by simp [binOp, Op.shift, Int.not_lt.2 hy], .int _ _⟩
  case shr => obtain ⟨hy, rfl⟩ := h; exact ⟨.int k _, by simp [binOp, Op.shift, Int.not_lt.2 hy], .int _ _⟩
  case quo => obtain ⟨⟨rfl, hz⟩, rfl⟩ := h; exact ⟨.int k _, by simp [binOp, Op.intDiv, hz], .int _ _⟩
  case rem => obtain ⟨⟨rfl, hz⟩, rfl⟩ := h; exact ⟨.int k _, by simp [binOp, Op.intDiv, hz], .int _ _⟩
  all_goals obtain ⟨rfl, rfl⟩ := h
  case eql => exact ⟨.bool _, by simp [binOp, Op.intCmp], .bool _⟩
  case neq => exact ⟨.bool _, by simp [binOp, Op.intCmp], .bool _⟩
  case lss => exact ⟨.bool _, by simp [binOp, Op.intCmp], .bool _⟩
  case leq => exact ⟨.bool _, by simp [binOp, Op.intCmp], .bool _⟩
  case gtr => exact ⟨.bool _, by simp [binOp, Op.intCmp], .bool _⟩
  case geq => exact ⟨.bool _, by simp [binOp, Op.intCmp], .bool _⟩
  case add => exact ⟨.int k _, by simp [binOp, Op.intArith], .int _ _⟩
  case sub => exact ⟨.int k _, by simp [binOp, Op.intArith], .int _ _⟩
  case mul => exact ⟨.int k _, by simp [binOp, Op.intArith], .int _ _⟩
  case and => exact ⟨.int k _, by simp [binOp, Op.intBits], .int _ _⟩
  case or => exact ⟨.int k _, by simp [binOp, Op.intBits], .int _ _⟩
  case xor => exact ⟨.int k _, by simp [binOp, Op.intBits], .int _ _⟩
  case andNot => exact ⟨.int k _, by simp [binOp, Op.intBits], .int _ _⟩

theorem abin_str {x y : ByteArray} {t : TypeId} {op : BinOp} (h : abinStr op x.data.toList y.data.toList = some v) :
    ∃ cv, (binOp op t (.string x) (.string y)).run P w = .ok cv w ∧ VR G μ v cv := by
  have e1 : ∀ z : ByteArray, z.toList = z.data.toList := Lib.toList_data
  cases op <;> simp only [abinStr] at h
  case add =>
    split at h
    · rename_i hle
      cases h
      refine ⟨.string (x ++ y), ?_, .str _ _ (by simp)⟩
      have hx : x.size = x.data.toList.length := Array.length_toList.symm
      have hy : y.size = y.data.toList.length := Array.length_toList.symm
      have : ¬ (((x.size + y.size : Nat) : Int) > IntKind.i64.max) := by
        have : IntKind.i64.max = 9223372036854775807 := rfl
        rw [this, hx, hy]; omega
      simp only [binOp, Op.stringOp, if_neg this, Sem.run_pure]
    · cases h
  all_goals first
    | (cases h; done)
    | (cases h; exact ⟨.bool _, by simp [binOp, Op.stringOp, e1], .bool _⟩)
end Go.Sx
/- 'aev' is sound: comparisons, conversions, parts of values, lengths. -/
namespace Go.Sx
open Go

variable {P : Program} {G : Ctx} {μ : Mu} {H : Heap} {n : Nat} {w : World} {ρ : List AVal} {a : Act} {v : AVal} {Δ : List (Nat × Row)}

theorem run_binOp (op : BinOp) (t : TypeId) (x y : Operand) (c d r : Value) (h1 : ∀ vs, c ≠ .agg vs) (h2 : c ≠ .nilIface) (h : (binOp op t c d).run P w = .ok r w) :
    (do eqGuard op t x y c d; binOp op t c d : Sem Value).run P w = .ok r w := by
  simp [run_eqGuard op t x y c d h1 h2, h]

theorem abin_sound (hH : HR P G μ H w) {tk : TK} {op : BinOp} {t : TypeId} {x y : AVal} {c d : Value} (ht : tkOk P tk t) (hx : VR G μ x c) (hy : VR G μ y d) (h : abin H tk op x y = some v) (p q : Operand) :
    ∃ cv, (do eqGuard op t p q c d; binOp op t c d : Sem Value).run P w = .ok cv w ∧ VR G μ v cv := by
  have nilcase : ∀ (b : Bool) , (tk = .slice ∧ y = .nilsl ∨ tk = .ptr ∧ y = .nilptr ∨ tk = .func ∧ y = .nilfn ∨ tk = .map ∧ y = .nilmap) → isNilK H tk x = some b →
      (op = .eql ∧ v = .bool b ∨ op = .neq ∧ v = .bool (!b)) → ∃ cv, (do eqGuard op t p q c d; binOp op t c d : Sem Value).run P w = .ok cv w ∧ VR G μ v cv := by
    intro b hyt hb hv
    obtain ⟨h1, h2, h3, h4⟩ := equal_nil hH hy hyt ht hb hx
    rcases hv with ⟨rfl, rfl⟩ | ⟨rfl, rfl⟩
    · exact ⟨_, run_binOp _ _ _ _ _ _ _ h1 h2 h3, .bool _⟩
    · exact ⟨_, run_binOp _ _ _ _ _ _ _ h1 h2 h4, .bool _⟩
  unfold abin at h
  split at h
  · cases hx; cases hy
    obtain ⟨cv, h1, h2⟩ := abin_int (w := w) (P := P) (G := G) (μ := μ) (t := t) h
    exact ⟨cv, run_binOp _ _ _ _ _ _ _ (by simp) (by simp) h1, h2⟩
  · cases hx; rename_i hs; subst hs
    cases hy; rename_i hs; subst hs
    obtain ⟨cv, h1, h2⟩ := abin_str (w := w) (P := P) (G := G) (μ := μ) (t := t) h
    exact ⟨cv, run_binOp _ _ _ _ _ _ _ (by simp) (by simp) h1, h2⟩
  · cases hx; cases hy
    split at h
    · cases h
      have he := fun a b => eqIn_bool (w := w) ht 9999 a b
      exact ⟨.bool _, run_binOp _ _ _ _ _ _ _ (by simp) (by simp) (by simp [binOp, Op.equal, Op.maxDepth, he]), .bool _⟩
    · cases h
      have he := fun a b => eqIn_bool (w := w) ht 9999 a b
      exact ⟨.bool _, run_binOp _ _ _ _ _ _ _ (by simp) (by simp) (by simp [binOp, Op.equal, Op.maxDepth, he]), .bool _⟩
    · cases h
  · have hq : ∀ {r i off L r' i' off' L' : Nat} {b : Bool}, VR G μ (.ptr r i off L) c → VR G μ (.ptr r' i' off' L') d → ptrEq H r i off L r' i' off' L' = some b → ∃ a a', c = .pointer (some a) ∧ d = .pointer (some a') ∧ a.block = a'.block ∧ (a == a') = b := by
      intro r i off L r' i' off' L' b hx hy hb
      obtain ⟨p, hp, hL, hc⟩ := hx.inv_ptr
      obtain ⟨p', hp', hL', hc'⟩ := hy.inv_ptr
      unfold ptrEq at hb
      split at hb
      · rename_i hr
        subst hr
        rw [hp] at hp'; cases hp'
        split at hb
        · rename_i g sz es hca
          split at hb
          · rename_i hg
            cases hb
            obtain ⟨q, C, ty, h1, h2, h3, h4, h5, h6, h7, h8, h9⟩ := hH.own hca
            rw [hp] at h1; cases h1
            refine ⟨_, _, hc (live_of h6 h5 (hg.imp id (·.1))), hc' (live_of h6 h5 (hg.imp id (·.2))), rfl, ?_⟩
            rw [Bool.eq_iff_iff]
            simp only [beq_iff_eq, Addr.mk.injEq, decide_eq_true_eq, true_and, and_true]
            rw [h4]
            omega
          · cases hb
        · cases hb
      · cases hb
    have he0 : ∀ (dd : Nat) (a a' : Addr), a.block = a'.block → tk = .ptr → (Op.equalIn (dd + 1) t (.pointer (some a)) (.pointer (some a'))).run P w = .ok (a == a') w := fun dd a a' hab htk => by
      subst htk
      obtain ⟨e, hu, j, hj, hs⟩ := ht
      simp [Op.equalIn, run_underlying hu, sizeOf, typeInfo, hj, hs, sameAddr, hab]
    have he := he0 9999
    split at h
    · simp only [Option.map_eq_some_iff] at h
      obtain ⟨b, hb, rfl⟩ := h
      obtain ⟨a, a', rfl, rfl, h1, h2⟩ := hq hx hy hb
      exact ⟨.bool b, run_binOp _ _ _ _ _ _ _ (by simp) (by simp) (by simp [binOp, Op.equal, Op.maxDepth, he a a' h1 rfl, h2]), .bool _⟩
    · simp only [Option.map_eq_some_iff] at h
      obtain ⟨b, hb, rfl⟩ := h
      obtain ⟨a, a', rfl, rfl, h1, h2⟩ := hq hx hy hb
      exact ⟨.bool (!b), run_binOp _ _ _ _ _ _ _ (by simp) (by simp) (by simp [binOp, Op.equal, Op.maxDepth, he a a' h1 rfl, h2]), .bool _⟩
    · cases h
  · split at h
    · rename_i t' ht'
      split at h
      · rename_i htk
        subst htk
        have hyt : tk = .slice ∧ y = .nilsl ∨ tk = .ptr ∧ y = .nilptr ∨ tk = .func ∧ y = .nilfn ∨ tk = .map ∧ y = .nilmap := by
          unfold nilTk at ht'
          split at ht' <;> cases ht' <;> simp
        split at h
        · simp only [Option.map_eq_some_iff] at h
          obtain ⟨b, hb, rfl⟩ := h
          exact nilcase b hyt hb (.inl ⟨rfl, rfl⟩)
        · simp only [Option.map_eq_some_iff] at h
          obtain ⟨b, hb, rfl⟩ := h
          exact nilcase b hyt hb (.inr ⟨rfl, rfl⟩)
        · cases h
      · cases h
    · cases h

theorem aev_bin (hT : TR G μ ρ a.tmps) (hH : HR P G μ H w) (op : BinOp) (t yt : TypeId) (x y : Operand) (o : Oper) (ho : o.op = .binOp op t x y yt) (tk : TK) (ht : tkOk P tk t)
    (h : aev (.bin tk op ((copd P) x) ((copd P) y)) ρ H n = some (v, Δ)) : Step P G μ H n (execOp a.eval o) w v Δ := by
  have hex : execOp a.eval o = (do let r ← (do eqGuard op t x y (a.eval x) (a.eval y); binOp op t (a.eval x) (a.eval y)); pure (.value r)) := by simp only [execOp, ho]
  rw [hex]
  simp only [aev] at h
  obtain ⟨hb, rfl⟩ := map_nil h
  obtain ⟨cv, h1, h2⟩ := abin_sound hH ht (opd_sound hH.glob hT x) (opd_sound hH.glob hT y) hb x y
  exact Step.pure (cv := cv) hH (by rw [Sem.run_bind, h1]; simp) h2

theorem part_sound {t : TypeId} {k : Option Nat} (hk : lkind P t = some k) {cs : List AVal} {vs : Array Value} {off : Nat} (hl : cs.length = vs.size)
    (hv : ∀ j, j < cs.length → VR G μ (cs.getD j .any) (vs.getD j undef)) (h : partOf cs off k = some v) : ∃ cv, (part t vs off).run P w = .ok cv w ∧ VR G μ v cv := by
  have hr := lkind_run (w := w) hk
  cases k with
  | none =>
    simp only [partOf] at h
    obtain ⟨hi, he⟩ := List.getElem?_eq_some_iff.1 h
    have hi' : off < vs.size := by omega
    have := hv off hi
    rw [Array.getD_eq_getD_getElem?, List.getD_eq_getElem?_getD, h] at this
    exact ⟨vs[off], by simp [part, hr, hi'], by simpa [hi'] using this⟩
  | some m =>
    simp only [partOf] at h
    split at h
    · rename_i hm
      cases h
      refine ⟨.agg (vs.extract off (off + m)), by simp [part, hr.1, hr.2], .agg _ _ (by simp; omega) fun i hi => ?_⟩
      have hi' : i < m := by simp at hi; omega
      have := hv (off + i) (by omega)
      rw [Array.getD_eq_getD_getElem?, List.getD_eq_getElem?_getD] at this ⊢
      rw [List.getElem?_take_of_lt hi', List.getElem?_drop]
      have e : (vs.extract off (off + m))[i]? = vs[off + i]? := by
        rw [Array.getElem?_extract, if_pos (by omega)]
      rw [e]; exact this
    · cases h

theorem eqCell_run {k : ECell} {x y : AVal} {c d : Value} {b : Bool} (h : eqCell k x y = some b) (hx : VR G μ x c) (hy : VR G μ y d) :
    (∃ q m m', k = .int ∧ c = .int q m ∧ d = .int q m' ∧ b = (m == m')) ∨ (∃ p q, k = .bool ∧ c = .bool p ∧ d = .bool q ∧ b = (p == q)) ∨ (∃ p q : ByteArray, k = .str ∧ c = .string p ∧ d = .string q ∧ b = (p.data.toList == q.data.toList)) := by
  unfold eqCell at h
  split at h
  · cases hx; cases hy
    split at h
    · rename_i hk; subst hk; cases h; exact .inl ⟨_, _, _, rfl, rfl, rfl, rfl⟩
    · cases h
  · cases hx; cases hy; cases h; exact .inr (.inl ⟨_, _, rfl, rfl, rfl, rfl⟩)
  · cases hx; rename_i h1; subst h1; cases hy; rename_i h1; subst h1; cases h; exact .inr (.inr ⟨_, _, rfl, rfl, rfl, rfl⟩)
  · cases h

theorem eqCell_plain {k : ECell} {x y : AVal} {b : Bool} (h : eqCell k x y = some b) : acells x = [x] ∧ acells y = [y] := by
  unfold eqCell at h
  split at h <;> first | exact ⟨rfl, rfl⟩ | cases h

theorem eqCells_len {ks : List ECell} {X Y : List AVal} {b : Bool} (h : eqCells ks X Y = some b) : ks.length = X.length ∧ ks.length = Y.length := by
  induction ks generalizing X Y b with
  | nil => cases X <;> cases Y <;> simp [eqCells] at h ⊢
  | cons k ks ih =>
    cases X with
    | nil => simp [eqCells] at h
    | cons x X =>
      cases Y with
      | nil => simp [eqCells] at h
      | cons y Y =>
        simp only [eqCells] at h
        split at h
        · rename_i p q hp hq
          obtain ⟨h1, h2⟩ := ih hq
          simp [h1, h2]
          omega
        · cases h

theorem eqCells_append {ks ks' : List ECell} {A A' B B' : List AVal} {b : Bool} (h1 : ks.length = A.length) (h2 : ks.length = A'.length) (h : eqCells (ks ++ ks') (A ++ B) (A' ++ B') = some b) :
    ∃ p q, eqCells ks A A' = some p ∧ eqCells ks' B B' = some q ∧ b = (p && q) := by
  induction ks generalizing A A' b with
  | nil =>
    obtain rfl : A = [] := by cases A <;> simp at h1 ⊢
    obtain rfl : A' = [] := by cases A' <;> simp at h2 ⊢
    exact ⟨true, b, rfl, by simpa using h, by simp⟩
  | cons k ks ih =>
    cases A with
    | nil => simp at h1
    | cons x A =>
      cases A' with
      | nil => simp at h2
      | cons y A' =>
        simp only [List.cons_append, eqCells] at h
        split at h
        · rename_i p q hp hq
          obtain ⟨p', q', k1, k2, k3⟩ := ih (by simpa using h1) (by simpa using h2) hq
          cases h
          exact ⟨p && p', q', by simp [eqCells, hp, k1], k2, by rw [k3, Bool.and_assoc]⟩
        · cases h

def EqOK (P : Program) (G : Ctx) (μ : Mu) (d : Nat) (t : TypeId) (ks : List ECell) : Prop :=
  ∀ (D : Nat), d ≤ D → ∀ (x y : AVal) (c e : Value) (b : Bool) (w : World), VR G μ x c → VR G μ y e → (isAggT P t = some true → x.isAgg = true ∧ y.isAgg = true) → (isAggT P t = some false → acells x = [x] ∧ acells y = [y]) →
    eqCells ks (acells x) (acells y) = some b → (Op.equalIn D t c e).run P w = .ok b w

theorem eqCellsT_kind {d : Nat} {t : TypeId} {ks : List ECell} (h : eqCellsT P d t = some ks) (hs : sizeT P t = some ks.length) :
    ∃ kk, lkind P t = some kk ∧ ((kk = some ks.length ∧ isAggT P t = some true) ∨ (kk = none ∧ ks.length = 1 ∧ isAggT P t = some false)) := by
  cases d with
  | zero => simp [eqCellsT] at h
  | succ d =>
    simp only [eqCellsT] at h
    unfold lkind isAggT
    split at h
    · rename_i hu; cases h; exact ⟨none, by simp [hu], .inr ⟨rfl, rfl, by simp [hu]⟩⟩
    · rename_i hu; cases h; exact ⟨none, by simp [hu], .inr ⟨rfl, rfl, by simp [hu]⟩⟩
    · rename_i hu; cases h; exact ⟨none, by simp [hu], .inr ⟨rfl, rfl, by simp [hu]⟩⟩
    · rename_i hu; exact ⟨some ks.length, by simp [hu, hs], .inl ⟨rfl, by simp [hu]⟩⟩
    · cases h

theorem eqFields_run (d : Nat) (ih : ∀ t m, eqCellsT P d t = some m → EqOK P G μ d t m) (D : Nat) (hD : d ≤ D) (X Y : List AVal) (xs ys : Array Value)
    (hx : X.length = xs.size) (hy : Y.length = ys.size) (vx : ∀ i, i < X.length → VR G μ (X.getD i .any) (xs.getD i undef)) (vy : ∀ i, i < Y.length → VR G μ (Y.getD i .any) (ys.getD i undef)) :
    ∀ (fs : List Field) (off : Nat) (ks : List ECell) (b : Bool), off ≤ X.length → off ≤ Y.length → fieldsT P (eqCellsT P d) off fs = some ks → eqCells ks (X.drop off) (Y.drop off) = some b →
      (Op.eqFields D xs ys fs).run P w = .ok b w := by
  intro fs
  induction fs with
  | nil =>
    intro off ks b ho1 ho2 hm h
    simp only [fieldsT, Option.some.injEq] at hm
    subst hm
    have hl := eqCells_len h
    have e1 : X.drop off = [] := List.eq_nil_of_length_eq_zero (by rw [← hl.1]; rfl)
    have e2 : Y.drop off = [] := List.eq_nil_of_length_eq_zero (by rw [← hl.2]; rfl)
    rw [e1, e2] at h
    simp only [eqCells, Option.some.injEq] at h
    subst h
    simp [Op.eqFields]
  | cons f fs ihf =>
    intro off ks b ho1 ho2 hm h
    simp only [fieldsT] at hm
    split at hm
    · rename_i hf
      obtain ⟨hoff, hname⟩ := hf
      split at hm
      · rename_i k hk
        split at hm
        · rename_i hsz
          simp only [Option.map_eq_some_iff] at hm
          obtain ⟨m', hm', rfl⟩ := hm
          have hl := eqCells_len h
          simp only [List.length_append, List.length_drop] at hl
          have e1 : X.drop off = (X.drop off).take k.length ++ X.drop (off + k.length) := by rw [← List.drop_drop, List.take_append_drop]
          have e2 : Y.drop off = (Y.drop off).take k.length ++ Y.drop (off + k.length) := by rw [← List.drop_drop, List.take_append_drop]
          rw [e1, e2] at h
          obtain ⟨p, q, h1, h2, rfl⟩ := eqCells_append (by simp; omega) (by simp; omega) h
          have hrest := ihf (off + k.length) m' q (by omega) (by omega) hm' h2
          have hok := ih f.type k hk
          obtain ⟨kk, hlk, hcase⟩ := eqCellsT_kind hk hsz
          have hgo : ∀ vx' vy', partOf X off kk = some vx' → partOf Y off kk = some vy' → (isAggT P f.type = some true → vx'.isAgg = true ∧ vy'.isAgg = true) → (isAggT P f.type = some false → acells vx' = [vx'] ∧ acells vy' = [vy']) →
              eqCells k (acells vx') (acells vy') = some p → (Op.eqFields D xs ys (f :: fs)).run P w = .ok (p && q) w := by
            intro vx' vy' hpx hpy ha1 ha2 he
            obtain ⟨c1, hr1, hv1⟩ := part_sound (w := w) hlk hx vx hpx
            obtain ⟨c2, hr2, hv2⟩ := part_sound (w := w) hlk hy vy hpy
            have hq := hok D hD vx' vy' c1 c2 p w hv1 hv2 ha1 ha2 he
            subst hoff
            cases p
            · simp [Op.eqFields, hname, hr1, hr2, hq]
            · simp [Op.eqFields, hname, hr1, hr2, hq, hrest]
          rcases hcase with ⟨rfl, hagg⟩ | ⟨rfl, hk1, hagg⟩
          · refine hgo (.agg ((X.drop off).take k.length)) (.agg ((Y.drop off).take k.length)) ?_ ?_ (fun _ => ⟨rfl, rfl⟩) (fun h' => by rw [hagg] at h'; cases h') h1
            · simp only [partOf]; rw [if_pos (by omega)]
            · simp only [partOf]; rw [if_pos (by omega)]
          · have hxo : off < X.length := by omega
            have hyo : off < Y.length := by omega
            rw [hk1] at h1
            have e3 : (X.drop off).take 1 = [X[off]] := by rw [List.take_one]; simp [hxo]
            have e4 : (Y.drop off).take 1 = [Y[off]] := by rw [List.take_one]; simp [hyo]
            rw [e3, e4] at h1
            obtain ⟨kc, rfl⟩ : ∃ kc, k = [kc] := by
              match k, hk1 with
              | [kc], _ => exact ⟨kc, rfl⟩
            have h1' := h1
            simp only [eqCells] at h1'
            split at h1'
            · rename_i r s hr hs
              obtain ⟨ax, ay⟩ := eqCell_plain hr
              exact hgo X[off] Y[off] (by simp [partOf, hxo]) (by simp [partOf, hyo]) (fun h' => by rw [hagg] at h'; cases h') (fun _ => ⟨ax, ay⟩) (by rw [ax, ay]; exact h1)
            · cases h1'
        · cases hm
      · cases hm
    · cases hm

theorem eqOK : ∀ (d : Nat) (t : TypeId) (m : List ECell), eqCellsT P d t = some m → EqOK P G μ d t m := by
  intro d
  induction d with
  | zero => intro t m h; simp [eqCellsT] at h
  | succ d ih =>
    intro t m h D hD x y c e b w hx hy ha1 ha2 he
    obtain ⟨D, rfl⟩ : ∃ D', D = D' + 1 := ⟨D - 1, by omega⟩
    simp only [eqCellsT] at h
    have scalar : ∀ k, m = [k] → isAggT P t = some false → eqCell k x y = some b := by
      rintro k rfl hag
      obtain ⟨h1, h2⟩ := ha2 hag
      rw [h1, h2] at he
      simp only [eqCells] at he
      split at he
      · rename_i p q hp hq
        cases hq
        simp only [Bool.and_true] at he
        rw [hp]; exact he
      · cases he
    split at h
    · rename_i hu
      cases h
      rcases eqCell_run (scalar _ rfl (by simp [isAggT, hu])) hx hy with ⟨k, i, j, h0, rfl, rfl, rfl⟩ | ⟨p, q, h0, rfl, rfl, rfl⟩ | ⟨p, q, h0, rfl, rfl, rfl⟩ <;> cases h0
      simp [Op.equalIn, run_underlying hu]
    · rename_i hu
      cases h
      rcases eqCell_run (scalar _ rfl (by simp [isAggT, hu])) hx hy with ⟨k, i, j, h0, rfl, rfl, rfl⟩ | ⟨p, q, h0, rfl, rfl, rfl⟩ | ⟨p, q, h0, rfl, rfl, rfl⟩ <;> cases h0
      simp [Op.equalIn, run_underlying hu]
    · rename_i hu
      cases h
      rcases eqCell_run (scalar _ rfl (by simp [isAggT, hu])) hx hy with ⟨k, i, j, h0, rfl, rfl, rfl⟩ | ⟨p, q, h0, rfl, rfl, rfl⟩ | ⟨p, q, h0, rfl, rfl, rfl⟩ <;> cases h0
      simp only [Op.equalIn, Sem.run_bind, run_underlying hu, Result.andThen_ok, Sem.run_pure]
      rw [beq_toListBytes, Lib.toList_data, Lib.toList_data]
    · rename_i fs hu
      split at h
      · cases h
      · rename_i hst
        obtain ⟨h1, h2⟩ := ha1 (by simp [isAggT, hu])
        cases x <;> simp [AVal.isAgg] at h1
        cases y <;> simp [AVal.isAgg] at h2
        obtain ⟨xs, rfl, hxl, hxv⟩ := hx.inv_agg
        obtain ⟨ys, rfl, hyl, hyv⟩ := hy.inv_agg
        have hf : P.fieldsOf t = fs := by simp [Program.fieldsOf, hu]
        rw [run_equalIn_struct w D t xs ys (by rw [hf]; exact hu) (by simpa using hst), hf]
        exact eqFields_run d ih D (by omega) _ _ xs ys hxl hyl hxv hyv _ 0 m b (Nat.zero_le _) (Nat.zero_le _) h he
    · cases h

theorem aev_eqAgg (hT : TR G μ ρ a.tmps) (hH : HR P G μ H w) (op : BinOp) (neg : Bool) (hop : op = .eql ∧ neg = false ∨ op = .neq ∧ neg = true) (t yt : TypeId) (x y : Operand) (o : Oper) (ho : o.op = .binOp op t x y yt)
    (ks : List ECell) (hk : eqCellsT P 4 t = some ks) (hg : P.eqGuardType P.depth t = false) (hag : isAggT P t = some true)
    (h : aev (.eqAgg neg ks ((copd P) x) ((copd P) y)) ρ H n = some (v, Δ)) : Step P G μ H n (execOp a.eval o) w v Δ := by
  have hex : execOp a.eval o = (do let r ← (do eqGuard op t x y (a.eval x) (a.eval y); binOp op t (a.eval x) (a.eval y)); pure (.value r)) := by simp only [execOp, ho]
  rw [hex]
  simp only [aev] at h
  split at h
  · rename_i A B hA hB
    obtain ⟨hb, rfl⟩ := map_nil h
    simp only [Option.map_eq_some_iff] at hb
    obtain ⟨b, hb, rfl⟩ := hb
    have hx := hA ▸ opd_sound hH.glob hT x
    have hy := hB ▸ opd_sound hH.glob hT y
    have he := eqOK 4 t ks hk (9999 + 1) (by omega) (.agg A) (.agg B) _ _ b w hx hy (fun _ => ⟨rfl, rfl⟩) (fun h' => by rw [hag] at h'; cases h') hb
    obtain ⟨xs, hxe, hxl, hxv⟩ := hx.inv_agg
    obtain ⟨ys, hye, hyl, hyv⟩ := hy.inv_agg
    rw [hxe, hye] at he ⊢
    have hgr := run_eqGuard_agg (w := w) op t x y xs ys hg
    have he' : (Op.equal t (.agg xs) (.agg ys)).run P w = .ok b w := he
    rcases hop with ⟨rfl, rfl⟩ | ⟨rfl, rfl⟩
    · exact Step.pure (cv := .bool b) hH (by simp [hgr, binOp, he']) (.bool _)
    · exact Step.pure (cv := .bool (!b)) hH (by simp [hgr, binOp, he']) (.bool _)
  · cases h

theorem aev_field (hT : TR G μ ρ a.tmps) (hH : HR P G μ H w) (t : TypeId) (x : Operand) (i : Nat) (o : Oper) (ho : o.op = .field t x i)
    (h : aev (cop P o) ρ H n = some (v, Δ)) : Step P G μ H n (execOp a.eval o) w v Δ := by
  have hex : execOp a.eval o = (do pure (.value (← Instr.field t (a.eval x) i))) := by simp only [execOp, ho]
  rw [hex]
  simp only [cop, ho] at h
  split at h
  · rename_i fs hu
    split at h
    · rename_i f hf
      split at h
      · rename_i k hk
        simp only [aev] at h
        split at h
        · rename_i cs hcs
          obtain ⟨hp, rfl⟩ := map_nil h
          obtain ⟨vs, hvs, hl, hv⟩ := (hcs ▸ opd_sound hH.glob hT x).inv_agg
          obtain ⟨cv, hr, hvr⟩ := part_sound (w := w) hk hl hv hp
          exact Step.pure (cv := cv) hH (by simp [Instr.field, run_underlying hu, hf, hvs, asAgg, hr]) hvr
        · cases h
      · simp [aev] at h
    · simp [aev] at h
  · simp [aev] at h

theorem aev_extract (hT : TR G μ ρ a.tmps) (hH : HR P G μ H w) (x : Operand) (i : Nat) (o : Oper) (ho : o.op = .extract x i)
    (h : aev (cop P o) ρ H n = some (v, Δ)) : Step P G μ H n (execOp a.eval o) w v Δ := by
  have hex : execOp a.eval o = (do pure (.value (← Instr.extract (a.eval x) i))) := by simp only [execOp, ho]
  rw [hex]
  simp only [cop, ho, aev] at h
  split at h
  · rename_i vs hvs
    obtain ⟨hp, rfl⟩ := map_nil h
    obtain ⟨us, hus, hl, hv⟩ := (hvs ▸ opd_sound hH.glob hT x).inv_tup
    obtain ⟨hi, he⟩ := List.getElem?_eq_some_iff.1 hp
    have hv := hv i hi
    have hi' : i < us.size := by omega
    refine Step.pure (cv := us[i]) hH (by simp [Instr.extract, hus, hi']) ?_
    rw [Array.getD_eq_getD_getElem?, List.getD_eq_getElem?_getD, hp] at hv
    simpa [hi'] using hv
  · cases h

theorem aev_not (hT : TR G μ ρ a.tmps) (hH : HR P G μ H w) (t : TypeId) (x : Operand) (o : Oper) (ho : o.op = .unOp .not t x)
    (h : aev (cop P o) ρ H n = some (v, Δ)) : Step P G μ H n (execOp a.eval o) w v Δ := by
  have hex : execOp a.eval o = (do pure (.value (← Op.unary .not (a.eval x)))) := by simp only [execOp, ho]
  rw [hex]
  simp only [cop, ho, aev] at h
  split at h
  · rename_i b hb
    obtain ⟨rfl, rfl⟩ := some_nil h
    have := (hb ▸ opd_sound hH.glob hT x).inv_bool
    exact Step.pure (cv := .bool (!b)) hH (by simp [this, Op.unary]) (.bool _)
  · cases h

theorem aev_neg (hT : TR G μ ρ a.tmps) (hH : HR P G μ H w) (t : TypeId) (x : Operand) (o : Oper) (ho : o.op = .unOp .neg t x)
    (h : aev (cop P o) ρ H n = some (v, Δ)) : Step P G μ H n (execOp a.eval o) w v Δ := by
  have hex : execOp a.eval o = (do pure (.value (← Op.unary .neg (a.eval x)))) := by simp only [execOp, ho]
  rw [hex]
  simp only [cop, ho, aev] at h
  split at h
  · rename_i k b hb
    obtain ⟨rfl, rfl⟩ := some_nil h
    have := (hb ▸ opd_sound hH.glob hT x).inv_int
    exact Step.pure (cv := .int k (k.wrap (0 - b))) hH (by simp [this, Op.unary, Op.intArith]) (.int _ _)
  · cases h

theorem aev_makeFunc (hT : TR G μ ρ a.tmps) (hH : HR P G μ H w) (f : Fn) (x y : Array Operand) (o : Oper) (ho : o.op = .makeFunc f x y)
    (h : aev (cop P o) ρ H n = some (v, Δ)) : Step P G μ H n (execOp a.eval o) w v Δ := by
  have hex : execOp a.eval o = (do pure (.value (← Instr.makeFunc f (x.map a.eval) (y.map a.eval)))) := by simp only [execOp, ho]
  rw [hex]
  simp only [cop, ho, aev] at h
  obtain ⟨rfl, rfl⟩ := some_nil h
  have key : ∀ (z : Array Operand) (i : Nat), i < ((z.toList.map (copd P)).map (opd ρ)).length → VR G μ (((z.toList.map (copd P)).map (opd ρ)).getD i .any) ((z.map a.eval).getD i undef) := by
    intro z i hi
    have hi' : i < z.size := by simpa using hi
    rw [Array.getD_eq_getD_getElem?, List.getD_eq_getElem?_getD]
    simpa [hi'] using opd_sound hH.glob hT z[i]
  exact Step.pure (cv := .func f (x.map a.eval) (y.map a.eval)) hH (by simp [Instr.makeFunc]) (.fn _ _ _ _ _ (by simp) (by simp) (key x) (key y))
end Go.Sx
/- 'aev' is sound: addresses, slices, lengths, conversions. -/
namespace Go.Sx
open Go

variable {P : Program} {G : Ctx} {μ : Mu} {H : Heap} {n : Nat} {w : World} {ρ : List AVal} {a : Act} {v : AVal} {Δ : List (Nat × Row)}

theorem aev_toInt (hT : TR G μ ρ a.tmps) (hH : HR P G μ H w) (src dst : TypeId) (x : Operand) (o : Oper) (ho : o.op = .convert src dst x) (j k : IntKind) (hs : P.underlying src = some (.int j)) (hd : P.underlying dst = some (.int k))
    (h : aev (.toInt k ((copd P) x)) ρ H n = some (v, Δ)) : Step P G μ H n (execOp a.eval o) w v Δ := by
  have hex : execOp a.eval o = (do pure (.value (← convert src dst (a.eval x)))) := by simp only [execOp, ho]
  rw [hex]
  simp only [aev] at h
  split at h
  · rename_i q m hq
    obtain ⟨rfl, rfl⟩ := some_nil h
    have := (hq ▸ opd_sound hH.glob hT x).inv_int
    exact Step.pure (cv := .int k (k.wrap m)) hH (by simp [this, convert, run_underlying hs, run_underlying hd, Conv.intToInt]) (.int _ _)
  · cases h

theorem aev_makeIface (hT : TR G μ ρ a.tmps) (hH : HR P G μ H w) (t : TypeId) (x : Operand) (o : Oper) (ho : o.op = .makeInterface t x) (d : TypeDesc) (hu : P.underlying t = some d) (hd : ∀ ms, d ≠ .interface ms)
    (h : aev (.makeIface t ((copd P) x)) ρ H n = some (v, Δ)) : Step P G μ H n (execOp a.eval o) w v Δ := by
  have hex : execOp a.eval o = (do pure (.value (← Instr.makeInterface t (a.eval x)))) := by simp only [execOp, ho]
  rw [hex]
  simp only [aev] at h
  obtain ⟨rfl, rfl⟩ := some_nil h
  refine Step.pure (cv := .iface t (a.eval x)) hH ?_ (.iface _ _ _ (opd_sound hH.glob hT x))
  cases d <;> first | exact absurd rfl (hd _) | simp [Instr.makeInterface, run_underlying hu]

theorem aev_lenArr (hH : HR P G μ H w) (m : Nat) (s : Sem Next) (hs : s.run P w = .ok (.value (.int .i64 m)) w) (h : aev (.lenArr m) ρ H n = some (v, Δ)) : Step P G μ H n s w v Δ := by
  simp only [aev] at h
  obtain ⟨rfl, rfl⟩ := some_nil h
  exact Step.pure (cv := .int .i64 m) hH hs (.int _ _)

theorem lenOf_run {x : AVal} {c : Value} {m : Nat} (hH : HR P G μ H w) (h : lenOfIn H x = some m) (hx : VR G μ x c) :
    (isStr x = false ∧ ∃ a k, c = .slice a m k) ∨ (isStr x = true ∧ ∃ s : ByteArray, c = .string s ∧ s.size = m) := by
  cases hx <;> simp only [lenOfIn] at h <;> first
    | (cases h; done)
    | skip
  · rename_i l s hs
    cases h
    refine .inr ⟨rfl, s, rfl, ?_⟩
    rw [← hs]; exact Array.length_toList.symm
  · rename_i r off len p hp hvec hL ho hc
    split at h
    · rename_i g sz es hca
      split at h
      · rename_i hg
        cases h
        obtain ⟨p', C, ty, h1, h2, h3, h4, h5, h6, h7, h8, h9⟩ := hH.own hca
        rw [hp] at h1; cases h1
        obtain ⟨cap, hcs, _⟩ := hc (live_of h6 h5 hg)
        exact .inl ⟨rfl, _, _, hcs⟩
      · cases h
    · cases h
  · cases h; exact .inl ⟨rfl, _, _, rfl⟩
  · cases h; exact .inl ⟨rfl, _, _, rfl⟩
  · cases h; exact .inl ⟨rfl, _, _, rfl⟩

theorem aev_len (hT : TR G μ ρ a.tmps) (hH : HR P G μ H w) (c : Call) (x : Operand) (t : TypeId) (o : Oper) (ho : o.op = .call c) (hb : c.callee = .builtin .len) (hc : c.args.toList = [x]) (ht : c.argTypes[0]? = some t)
    (str : Bool) (hu : if str then P.underlying t = some .string else ∃ e, P.underlying t = some (.slice e))
    (h : aev (.len str ((copd P) x)) ρ H n = some (v, Δ)) : Step P G μ H n (execOp a.eval o) w v Δ := by
  have hargs : c.args = #[x] := by
    have := congrArg List.toArray hc
    simpa using this
  have hex : execOp a.eval o = (do let r ← Builtin.len_ c.argTypes o.type #[a.eval x]; pure (.value r)) := by
    simp [execOp, ho, resolve, hb, hargs, invoke, builtin]
  rw [hex]
  simp only [aev] at h
  split at h
  · rename_i m hm
    split at h
    · rename_i hstr
      obtain ⟨rfl, rfl⟩ := some_nil h
      refine Step.pure (cv := .int .i64 m) hH ?_ (.int _ _)
      rcases lenOf_run hH hm (opd_sound hH.glob hT x) with ⟨hi, ad, k, hv⟩ | ⟨hi, s, hv, hsz⟩
      · rw [hi] at hstr
        subst hstr
        obtain ⟨e, hu⟩ := hu
        simp [Builtin.len_, ht, hv, run_underlying hu, goInt]
      · rw [hi] at hstr
        subst hstr
        simp only [if_true] at hu
        simp [Builtin.len_, ht, hv, run_underlying hu, goInt, hsz]
    · cases h
  · cases h

theorem aev_nilCheck (hT : TR G μ ρ a.tmps) (hH : HR P G μ H w) (x : Operand) (o : Oper) (ho : o.op = .nilCheck x)
    (h : aev (.nilCheck ((copd P) x)) ρ H n = some (v, Δ)) : Step P G μ H n (execOp a.eval o) w v Δ := by
  have hx := opd_sound hH.glob hT x
  simp only [aev] at h
  split at h
  · rename_i hn
    have hval : (execOp a.eval o).run P w = .ok (.value (a.eval x)) w ∧ v = opd ρ ((copd P) x) ∧ Δ = [] := by
      have hr := isNil_run hH hn hx
      split at h
      · rename_i f p q hq
        cases h
        obtain ⟨c, hc⟩ : ∃ c, a.eval x = c := ⟨_, rfl⟩
        rw [hq, hc] at hx
        cases hx
        refine ⟨by simp [execOp, ho, hc], hq.symm, rfl⟩
      · cases h
      · rename_i h1 h2
        cases h
        refine ⟨?_, rfl, rfl⟩
        rcases hr with (⟨h3, h4⟩ | ⟨⟨a1, h3⟩, h4⟩) | (⟨h3, h4⟩ | ⟨⟨a1, a2, a3, h3⟩, h4⟩) | (⟨h3, h4⟩ | ⟨⟨a1, a2, a3, h3⟩, h4⟩) | (⟨h3, h4⟩ | ⟨⟨a1, h3⟩, h4⟩) | (⟨h3, h4⟩ | ⟨⟨a1, a2, h3⟩, h4⟩) <;> first
          | (cases h4; done)
          | (simp [execOp, ho, h3]; done)
          | skip
        rw [h3] at hx
        generalize hq : opd ρ ((copd P) x) = q at *
        cases hx with
        | any => simp [isNilIn, isNil] at hn
        | ptr r i off L p _ hp hL hone hc =>
          obtain ⟨⟨b, hb⟩, _⟩ := isNil_ptr hH hn (.ptr r i off L p _ hp hL hone hc)
          cases hb
        | sl r off len p _ hp hvec hL hone hc =>
          obtain ⟨⟨b, _, _, hb⟩, _⟩ := isNil_sl hH hn (.sl r off len p _ hp hvec hL hone hc)
          cases hb
        | fn => exact absurd rfl (h2 _ _ _)
        | yfn r p hp hv => simp [execOp, ho, h3]
    obtain ⟨h1, rfl, rfl⟩ := hval
    exact Step.pure hH h1 hx
  · cases h

theorem live_addr (hH : HR P G μ H w) {r i off L : Nat} {g : Bool} {sz : Nat} {es : List AVal} {c : Value} (hc : H.cellsAt r = some (g, sz, es)) (hg : g = false ∨ L = es.length) (hx : VR G μ (.ptr r i off L) c) :
    ∃ p, μ r = some p ∧ p.sz = sz ∧ p.len = es.length ∧ L ≤ p.len ∧ c = .pointer (some ⟨p.blk, p.off + i * p.sz + off, none⟩) := by
  obtain ⟨p, C, ty, h1, h2, h3, h4, h5, h6, h7, h8, h9⟩ := hH.own hc
  obtain ⟨p', h1', hL, hcv⟩ := hx.inv_ptr
  rw [h1] at h1'; cases h1'
  exact ⟨p, h1, h4, h5, hL, hcv (live_of h6 h5 hg)⟩

theorem ptr_on {r i off L m : Nat} {p : Place} (hp : μ r = some p) (hL : L ≤ p.len) : VR G μ (.ptr r i (off + m) L) (.pointer (some ⟨p.blk, p.off + i * p.sz + off + m, none⟩)) :=
  .ptr r i (off + m) L p _ hp hL rfl fun _ => by rw [Nat.add_assoc]

theorem rptr_on {e : AVal} {off b o m : Nat} (hx : VR G μ (.rptr e off) (.pointer (some ⟨b, o, none⟩))) : VR G μ (.rptr e (off + m)) (.pointer (some ⟨b, o + m, none⟩)) := by
  cases hx with
  | rptr _ _ _ o' f hb hf hv => rw [Nat.add_assoc]; exact .rptr e (off + m) b o' f hb hf hv

theorem aev_fieldAddr (hT : TR G μ ρ a.tmps) (hH : HR P G μ H w) (t : TypeId) (x : Operand) (i : Nat) (o : Oper) (ho : o.op = .fieldAddr t x i)
    (h : aev (cop P o) ρ H n = some (v, Δ)) : Step P G μ H n (execOp a.eval o) w v Δ := by
  have hex : execOp a.eval o = (do pure (.value (← Instr.fieldAt t (a.eval x) i))) := by simp only [execOp, ho]
  rw [hex]
  simp only [cop, ho] at h
  split at h
  · rename_i fs hu
    split at h
    · rename_i f hf
      split at h
      · rename_i m hm
        split at h
        · simp [aev] at h
        · rename_i hm0
          have hplace : ∀ ad : Addr, (fieldPlace ad f).run P w = .ok (ad.add f.offset) w := fun ad => by
            simp [fieldPlace, run_sizeT hm, hm0]
          have hx := opd_sound hH.glob hT x
          simp only [aev] at h
          split at h
          · rename_i r k off L hr
            rw [hr] at hx
            split at h
            · rename_i g sz es hc
              split at h
              · rename_i hg
                obtain ⟨rfl, rfl⟩ := some_nil h
                obtain ⟨p, h1, h2, h3, h4, h5⟩ := live_addr hH hc hg hx
                exact Step.pure (cv := .pointer (some ⟨p.blk, p.off + k * p.sz + off + f.offset, none⟩)) hH (by simp [Instr.fieldAt, run_underlying hu, hf, h5, Instr.sureAddr, hplace, add_at]) (ptr_on h1 h4)
              · cases h
            · cases h
          · rename_i e off hr
            rw [hr] at hx
            obtain ⟨rfl, rfl⟩ := some_nil h
            obtain ⟨c, hc⟩ : ∃ c, a.eval x = c := ⟨_, rfl⟩
            rw [hc] at hx
            obtain ⟨b, oo, rfl⟩ : ∃ b oo, c = .pointer (some ⟨b, oo, none⟩) := by cases hx; exact ⟨_, _, rfl⟩
            exact Step.pure (cv := .pointer (some ⟨b, oo + f.offset, none⟩)) hH (by simp [Instr.fieldAt, run_underlying hu, hf, hc, Instr.sureAddr, hplace, add_at]) (rptr_on hx)
          · cases h
      · simp [aev] at h
    · simp [aev] at h
  · simp [aev] at h
end Go.Sx
/- 'aev' is sound: indexes, slice expressions, min and max. -/
namespace Go.Sx
open Go

variable {P : Program} {G : Ctx} {μ : Mu} {H : Heap} {n : Nat} {w : World} {ρ : List AVal} {a : Act} {v : AVal} {Δ : List (Nat × Row)}

theorem view_elem {es : List AVal} {i sz : Nat} {e : AVal} {b o cap : Nat} (hx : VR G μ (.view es) (.slice (some ⟨b, o, none⟩) es.length cap)) (he : es[i]? = some e) (hsz : (acells e).length = sz) :
    VR G μ (.rptr e 0) (.pointer (some ⟨b, o + i * sz, none⟩)) := by
  obtain ⟨hi, hd⟩ := getD_of_get he
  generalize hl : es.length = len at hx
  generalize hc : Value.slice (some (⟨b, o, none⟩ : Addr)) len cap = c at hx
  cases hx with
  | view _ b' o' sz' cap' f hb hcap hs hf hv =>
    cases hc
    have h1 := hs i (by omega)
    rw [hd, hsz] at h1
    subst h1
    have h2 : VR G μ (.rptr e 0) (.pointer (some ⟨b, o + i * sz + 0, none⟩)) :=
      .rptr e 0 b (o + i * sz) (f i) hb (fun j hj => hf i j (by omega) (by omega)) (fun j hj => by have := hv i j (by omega) (by omega); rw [hd] at this; exact this)
    simpa using h2
  | viewnil => simp at he

theorem aev_indexAddr (hT : TR G μ ρ a.tmps) (hH : HR P G μ H w) (t e : TypeId) (sz : Nat) (x y : Operand) (o : Oper) (ho : o.op = .indexAddr t x y) (hu : P.underlying t = some (.slice e)) (hsz : sizeT P e = some sz)
    (h : aev (.indexAddr sz ((copd P) x) ((copd P) y)) ρ H n = some (v, Δ)) : Step P G μ H n (execOp a.eval o) w v Δ := by
  have hex : execOp a.eval o = (do pure (.value (← Instr.indexAt t (a.eval x) (a.eval y)))) := by simp only [execOp, ho]
  rw [hex]
  simp only [aev] at h
  split at h
  · rename_i k i hi
    have hyv := (hi ▸ opd_sound hH.glob hT y).inv_int
    split at h
    · cases h
    · rename_i hneg
      have hx := opd_sound hH.glob hT x
      split at h
      · rename_i r off len hr
        rw [hr] at hx
        split at h
        · rename_i g sz' es hc
          split at h
          · rename_i hg
            obtain ⟨rfl, hg, hlt⟩ := hg
            obtain ⟨rfl, rfl⟩ := some_nil h
            obtain ⟨p, C, ty, h1, h2, h3, h4, h5, h6, h7, h8, h9⟩ := hH.own hc
            obtain ⟨p', h1', hvec, hL, hcv⟩ := hx.inv_sl
            rw [h1] at h1'; cases h1'
            obtain ⟨cap, hcs, hcap, _⟩ := hcv (live_of h6 h5 hg)
            have hadd : (⟨p.blk, p.off + off * p.sz, none⟩ : Addr).add (i.toNat * sz) = ⟨p.blk, p.off + (off + i.toNat) * p.sz + 0, none⟩ := by
              rw [add_at, h4, Nat.add_mul]; simp [Nat.add_assoc]
            refine Step.pure (cv := .pointer (some ⟨p.blk, p.off + (off + i.toNat) * p.sz + 0, none⟩)) hH ?_ (.ptr _ _ _ _ p _ h1 (by omega) rfl fun _ => rfl)
            have h0 : 0 ≤ i ∧ i < (len : Int) := by omega
            simp [Instr.indexAt, hyv, asIntOf, run_underlying hu, hcs, h0, run_sizeT hsz, hadd]
          · cases h
        · cases h
      · rename_i es hes
        rw [hes] at hx
        split at h
        · rename_i el hel
          split at h
          · rename_i hl
            obtain ⟨rfl, rfl⟩ := some_nil h
            obtain ⟨hi', _⟩ := getD_of_get hel
            obtain ⟨c, hc⟩ : ∃ c, a.eval x = c := ⟨_, rfl⟩
            rw [hc] at hx
            obtain ⟨b, oo, cap, rfl⟩ : ∃ b oo cap, c = .slice (some ⟨b, oo, none⟩) es.length cap := by
              cases hx with
              | view => exact ⟨_, _, _, rfl⟩
              | viewnil => simp at hi'
            have hve := view_elem hx hel hl
            have h0 : 0 ≤ i ∧ i < (es.length : Int) := by omega
            exact Step.pure (cv := .pointer (some ⟨b, oo + i.toNat * sz, none⟩)) hH (by simp [Instr.indexAt, hyv, asIntOf, run_underlying hu, hc, h0, run_sizeT hsz, add_at]) hve
          · cases h
        · cases h
      · cases h
  · cases h

theorem aev_indexArr (hT : TR G μ ρ a.tmps) (hH : HR P G μ H w) (t e : TypeId) (m sz : Nat) (x y : Operand) (o : Oper) (ho : o.op = .indexAddr t x y) (hu : P.underlying t = some (.array m e)) (hsz : sizeT P e = some sz)
    (h : aev (.indexArr m sz ((copd P) x) ((copd P) y)) ρ H n = some (v, Δ)) : Step P G μ H n (execOp a.eval o) w v Δ := by
  have hex : execOp a.eval o = (do pure (.value (← Instr.indexAt t (a.eval x) (a.eval y)))) := by simp only [execOp, ho]
  rw [hex]
  simp only [aev] at h
  split at h
  · rename_i k i hi
    have hyv := (hi ▸ opd_sound hH.glob hT y).inv_int
    split at h
    · rename_i h0
      have hx := opd_sound hH.glob hT x
      split at h
      · rename_i r q off L hr
        rw [hr] at hx
        split at h
        · rename_i g sz' es hc
          split at h
          · rename_i hg
            obtain ⟨rfl, rfl⟩ := some_nil h
            obtain ⟨p, h1, h2, h3, h4, h5⟩ := live_addr hH hc hg hx
            exact Step.pure (cv := .pointer (some ⟨p.blk, p.off + q * p.sz + off + i.toNat * sz, none⟩)) hH (by simp [Instr.indexAt, hyv, asIntOf, run_underlying hu, h5, Instr.sureAddr, h0, run_sizeT hsz, add_at]) (ptr_on h1 h4)
          · cases h
        · cases h
      · rename_i el off hr
        rw [hr] at hx
        obtain ⟨rfl, rfl⟩ := some_nil h
        obtain ⟨c, hc⟩ : ∃ c, a.eval x = c := ⟨_, rfl⟩
        rw [hc] at hx
        obtain ⟨b, oo, rfl⟩ : ∃ b oo, c = .pointer (some ⟨b, oo, none⟩) := by cases hx; exact ⟨_, _, rfl⟩
        exact Step.pure (cv := .pointer (some ⟨b, oo + i.toNat * sz, none⟩)) hH (by simp [Instr.indexAt, hyv, asIntOf, run_underlying hu, hc, Instr.sureAddr, h0, run_sizeT hsz, add_at]) (rptr_on hx)
      · cases h
    · cases h
  · cases h

theorem aev_indexAgg (hT : TR G μ ρ a.tmps) (hH : HR P G μ H w) (t e : TypeId) (m sz : Nat) (ag : Bool) (x y : Operand) (o : Oper) (ho : o.op = .index t x y) (hu : P.underlying t = some (.array m e)) (hsz : sizeT P e = some sz) (hag : isAggT P e = some ag)
    (h : aev (.indexAgg m sz ag ((copd P) x) ((copd P) y)) ρ H n = some (v, Δ)) : Step P G μ H n (execOp a.eval o) w v Δ := by
  have hex : execOp a.eval o = (do pure (.value (← Instr.index t (a.eval x) (a.eval y)))) := by simp only [execOp, ho]
  rw [hex]
  simp only [aev] at h
  split at h
  · rename_i k i cs hi hcs
    have hyv := (hi ▸ opd_sound hH.glob hT y).inv_int
    obtain ⟨vs, hvs, hl, hv⟩ := (hcs ▸ opd_sound hH.glob hT x).inv_agg
    split at h
    · rename_i h0
      obtain ⟨hp, rfl⟩ := map_nil h
      have hk : lkind P e = some (if ag then some sz else none) := by unfold lkind; rw [hag]; cases ag <;> simp [hsz]
      obtain ⟨cv, hr, hvr⟩ := part_sound (w := w) hk hl hv hp
      exact Step.pure (cv := cv) hH (by simp [Instr.index, hyv, asIntOf, run_underlying hu, hvs, h0, run_sizeT hsz, hr]) hvr
    · cases h
  · cases h

theorem aev_indexStr (hT : TR G μ ρ a.tmps) (hH : HR P G μ H w) (t : TypeId) (x y : Operand) (o : Oper) (ho : o.op = .index t x y) (hu : P.underlying t = some .string)
    (h : aev (.indexStr ((copd P) x) ((copd P) y)) ρ H n = some (v, Δ)) : Step P G μ H n (execOp a.eval o) w v Δ := by
  have hex : execOp a.eval o = (do pure (.value (← Instr.index t (a.eval x) (a.eval y)))) := by simp only [execOp, ho]
  rw [hex]
  simp only [aev] at h
  split at h
  · rename_i l k i hl hi
    have hyv := (hi ▸ opd_sound hH.glob hT y).inv_int
    obtain ⟨s, hs, hsl⟩ := (hl ▸ opd_sound hH.glob hT x).inv_str
    split at h
    · cases h
    · rename_i hneg
      split at h
      · rename_i b hb
        obtain ⟨rfl, rfl⟩ := some_nil h
        subst hsl
        have h0 : 0 ≤ i := by omega
        have hget : s[i.toNat]? = some b := by
          obtain ⟨h1, h2⟩ := List.getElem?_eq_some_iff.1 hb
          have h3 : i.toNat < s.size := by rw [Array.length_toList] at h1; exact h1
          rw [getElem?_pos s i.toNat h3]
          have : s[i.toNat] = s.data[i.toNat] := rfl
          rw [this]
          simpa using h2
        exact Step.pure (cv := .int .u8 b.toNat) hH (by simp [Instr.index, hyv, asIntOf, run_underlying hu, hs, h0, hget]) (.int _ _)
      · cases h
  · cases h

theorem minmaxs_sound (mx : Bool) : ∀ (xs : List AVal) (cs : List Value) (m r : Int), xs.length = cs.length → (∀ i, i < xs.length → VR G μ (xs.getD i .any) (cs.getD i undef)) → minmaxs mx m xs = some r →
    ((cs.foldlM (if mx then Builtin.max2 else Builtin.min2) (.int .i64 m)).run P w = .ok (.int .i64 r) w) := by
  intro xs
  induction xs with
  | nil =>
    intro cs m r hl hv h
    obtain rfl : cs = [] := by cases cs <;> simp at hl ⊢
    simp only [minmaxs, Option.some.injEq] at h
    subst h
    simp
  | cons x xs ih =>
    intro cs m r hl hv h
    cases cs with
    | nil => simp at hl
    | cons c cs =>
      have h0 := hv 0 (by simp)
      simp only [List.getD_cons_zero] at h0
      unfold minmaxs at h
      split at h
      · rename_i heq; cases heq
      · rename_i b rest heq
        cases heq
        have hc := h0.inv_int
        subst hc
        have := ih cs _ r (by simpa using hl) (fun i hi => by have := hv (i + 1) (by simpa using hi); simpa using this) h
        cases mx
        · simp only [List.foldlM_cons, Bool.false_eq_true, if_false, Sem.run_bind, Builtin.min2, Sem.run_pure, Result.andThen_ok] at this ⊢
          exact this
        · simp only [List.foldlM_cons, if_true, Sem.run_bind, Builtin.max2, Sem.run_pure, Result.andThen_ok] at this ⊢
          exact this
      · cases h

theorem aev_minmax (hT : TR G μ ρ a.tmps) (hH : HR P G μ H w) (mx : Bool) (c : Call) (o : Oper) (ho : o.op = .call c) (hb : c.callee = .builtin (if mx then .max else .min))
    (h : aev (.minmax mx (c.args.toList.map (copd P))) ρ H n = some (v, Δ)) : Step P G μ H n (execOp a.eval o) w v Δ := by
  have hex : execOp a.eval o = (do let r ← (if mx then Builtin.max_ c.argTypes o.type (c.args.map a.eval) else Builtin.min_ c.argTypes o.type (c.args.map a.eval)); pure (.value r)) := by
    cases mx <;> simp [execOp, ho, resolve, hb, invoke, builtin]
  rw [hex]
  simp only [aev, List.map_map] at h
  split at h
  · rename_i m rest hxs
    simp only [Option.map_eq_some_iff, Prod.mk.injEq] at h
    obtain ⟨r, hr, rfl, rfl⟩ := h
    have hall : ∀ i, i < c.args.toList.length → VR G μ ((c.args.toList.map (opd ρ ∘ (copd P))).getD i .any) ((c.args.toList.map a.eval).getD i undef) := by
      intro i hi
      rw [List.getD_eq_getElem?_getD, List.getD_eq_getElem?_getD]
      simp only [List.getElem?_map, List.getElem?_eq_getElem hi, Option.map_some, Option.getD_some]
      exact opd_sound hH.glob hT _
    cases hargs : c.args.toList with
    | nil => rw [hargs] at hxs; simp at hxs
    | cons x0 xs0 =>
      rw [hargs] at hxs hall
      simp only [List.map_cons, List.cons.injEq] at hxs
      have h0 := hall 0 (by simp)
      simp only [List.map_cons, List.getD_cons_zero, hxs.1] at h0
      have hc0 := h0.inv_int
      have := minmaxs_sound (P := P) (w := w) (G := G) (μ := μ) mx rest (xs0.map a.eval) m r (by rw [← hxs.2]; simp) (fun i hi => by
        have := hall (i + 1) (by simp; rw [← hxs.2] at hi; simpa using hi)
        simp only [List.map_cons, List.getD_cons_succ, hxs.2] at this
        exact this) hr
      refine Step.pure (cv := .int .i64 r) hH ?_ (.int _ _)
      cases mx
      · simp only [Bool.false_eq_true, if_false] at this
        simp [Builtin.min_, hargs, hc0, this]
      · simp only [if_true] at this
        simp [Builtin.max_, hargs, hc0, this]
  · cases h
end Go.Sx
/- 'aev' is sound: slice expressions, slice literals, make. -/
namespace Go.Sx
open Go

variable {P : Program} {G : Ctx} {μ : Mu} {H : Heap} {n : Nat} {w : World} {ρ : List AVal} {a : Act} {v : AVal} {Δ : List (Nat × Row)}

theorem wrap_id {m : Int} (h1 : -9223372036854775808 ≤ m) (h2 : m ≤ 9223372036854775807) : IntKind.i64.wrap m = m := by
  unfold IntKind.wrap
  have e1 : (2 ^ IntKind.i64.bits : Int) = 18446744073709551616 := rfl
  have e2 : (2 ^ (IntKind.i64.bits - 1) : Int) = 9223372036854775808 := rfl
  have e3 : IntKind.i64.signed = true := rfl
  simp only [e1, e2, e3, Bool.true_and]
  by_cases h : 0 ≤ m
  · rw [Int.emod_eq_of_lt h (by omega), if_neg (by simp; omega)]
  · have : m % 18446744073709551616 = m + 18446744073709551616 := by omega
    rw [this, if_pos (by simp; omega)]; omega

def BoundIs (P : Program) (ρ : List AVal) (x : Option Operand) (d m : Int) : Prop :=
  match x with
  | none => m = d
  | some y => intOf (opd ρ ((copd P) y)) = some m

theorem run_bound (hg : GlobOK P G) (hT : TR G μ ρ a.tmps) {y : Operand} {m : Int} (h : intOf (opd ρ ((copd P) y)) = some m) (top : Nat) (code : BoundsCode) (h0 : 0 ≤ m) (h1 : m ≤ top) :
    (Instr.sliceBound (a.eval y) top code).run P w = .ok m.toNat w := by
  cases hv : opd ρ ((copd P) y) <;> rw [hv] at h <;> simp [intOf] at h
  subst h
  have := (hv ▸ opd_sound hg hT y).inv_int
  simp [Instr.sliceBound, this, asIntOf, h0, h1]

theorem run_bounds (hg : GlobOK P G) (hT : TR G μ ρ a.tmps) {lo hi : Option Operand} {l h : Int} (isS : Bool) (len cap : Nat) (hlo : BoundIs P ρ lo 0 l) (hhi : BoundIs P ρ hi len h) (h0 : 0 ≤ l) (h1 : l ≤ h) (h2 : h ≤ len) (h3 : len ≤ cap) :
    (Instr.sliceBounds isS len cap (lo.map a.eval) (hi.map a.eval) none).run P w = .ok (l.toNat, h.toNat, cap) w := by
  have hh : ∀ code, ((match hi.map a.eval, (none : Option Value) with
      | some v, some _ => Instr.sliceBound v cap .slice3B
      | some v, none => Instr.sliceBound v cap code
      | none, none => pure len
      | none, some _ => stuck "Slice: max without high") : Sem Nat).run P w = .ok h.toNat w := by
    intro code
    cases hi with
    | none => simp only [BoundIs] at hhi; subst hhi; simp
    | some y => simp only [Option.map_some]; exact run_bound hg hT hhi cap _ (by omega) (by omega)
  have hl : ∀ code, ((match lo.map a.eval with
      | some v => Instr.sliceBound v h.toNat code
      | none => pure 0) : Sem Nat).run P w = .ok l.toNat w := by
    intro code
    cases lo with
    | none => simp only [BoundIs] at hlo; subst hlo; simp
    | some y => simp only [Option.map_some]; exact run_bound hg hT hlo _ _ h0 (by omega)
  unfold Instr.sliceBounds
  cases hi with
  | none =>
    simp only [BoundIs] at hhi
    subst hhi
    cases lo with
    | none => simp only [BoundIs] at hlo; subst hlo; simp
    | some y =>
      have := fun code => run_bound (P := P) (w := w) hg hT hlo len code h0 (by omega)
      simp [this]
  | some z =>
    have hz := fun code => run_bound (P := P) (w := w) hg hT hhi cap code (by omega) (by omega)
    cases lo with
    | none => simp only [BoundIs] at hlo; subst hlo; simp [hz]
    | some y =>
      have := fun code => run_bound (P := P) (w := w) hg hT hlo h.toNat code h0 (by omega)
      simp [hz, this]

theorem aev_slice (hT : TR G μ ρ a.tmps) (hH : HR P G μ H w) (t : TypeId) (sz : Nat) (str : Bool) (x : Operand) (lo hi : Option Operand) (o : Oper) (ho : o.op = .slice t x lo hi none)
    (hu : if str then P.underlying t = some .string else ∃ e, P.underlying t = some (.slice e) ∧ sizeT P e = some sz)
    (h : aev (.slice str sz ((copd P) x) (lo.map (copd P)) (hi.map (copd P))) ρ H n = some (v, Δ)) : Step P G μ H n (execOp a.eval o) w v Δ := by
  have hex : execOp a.eval o = (do pure (.value (← Instr.sliceAt t (a.eval x) (lo.map a.eval) (hi.map a.eval) none))) := by simp only [execOp, ho, Option.map_none]
  rw [hex]
  simp only [aev] at h
  have hx := opd_sound hH.glob hT x
  split at h
  · cases h
  · rename_i len hlen
    split at h
    · rename_i l hh hl hhi
      have hlo' : BoundIs P ρ lo 0 l := by
        cases lo <;> simp [BoundIs] at hl ⊢
        · omega
        · exact hl
      have hhi' : BoundIs P ρ hi len hh := by
        cases hi <;> simp [BoundIs] at hhi ⊢
        · omega
        · exact hhi
      split at h
      · rename_i hb
        obtain ⟨h0, h1, h2⟩ := hb
        have hrun := lenOf_run hH hlen hx
        split at h
        · rename_i s hs
          split at h
          · rename_i hst
            subst hst
            simp only [if_true] at hu
            obtain ⟨rfl, rfl⟩ := some_nil h
            rw [hs] at hx
            obtain ⟨b, hb, hbl⟩ := hx.inv_str
            have hsz : b.size = len := by
              rw [hs] at hlen
              simp only [lenOfIn, Option.some.injEq] at hlen
              rw [← hlen, ← hbl]; exact Array.length_toList.symm
            have hbd := run_bounds (P := P) (w := w) hH.glob hT false len len hlo' hhi' h0 h1 h2 (Nat.le_refl _)
            subst hsz
            refine Step.pure (cv := .string (b.extract l.toNat hh.toNat)) hH (by simp [Instr.sliceAt, Instr.slice, run_underlying hu, hb, hbd]) (.str _ _ ?_)
            subst hbl
            simp
          · cases h
        · rename_i r off len' hr
          split at h
          · rename_i g sz' es hc
            split at h
            · rename_i hg
              obtain ⟨hst, rfl, hpos, hg⟩ := hg
              subst hst
              simp only [Bool.false_eq_true, if_false] at hu
              obtain ⟨e, hu, hsz⟩ := hu
              obtain ⟨rfl, rfl⟩ := some_nil h
              rw [hr] at hx
              obtain ⟨p, C, ty, h3, h4, h5, h6, h7, h8, h9, h10, h11⟩ := hH.own hc
              obtain ⟨p', h3', hvec, hL, hcv⟩ := hx.inv_sl
              rw [h3] at h3'; cases h3'
              obtain ⟨cap, hcs, hcap, hroom⟩ := hcv (live_of h8 h7 hg)
              have hle : len' = len := by
                rw [hr] at hlen
                simp only [lenOfIn, hc, if_pos hg, Option.some.injEq] at hlen
                exact hlen
              subst hle
              have hbd := run_bounds (P := P) (w := w) hH.glob hT true len' cap hlo' hhi' h0 h1 h2 hcap
              by_cases hlh : l = hh
              · rw [if_pos hlh]
                refine Step.pure (cv := .slice (if cap = l.toNat then some ⟨p.blk, p.off + off * p.sz, none⟩ else (some (⟨p.blk, p.off + off * p.sz, none⟩ : Addr)).map (·.add (l.toNat * sz))) 0 (cap - l.toNat)) hH ?_ (.viewnil _ _)
                have : hh.toNat - l.toNat = 0 := by omega
                simp [Instr.sliceAt, Instr.slice, run_underlying hu, hcs, hbd, run_sizeT hsz, this]
              · rw [if_neg hlh]
                have hne : cap ≠ l.toNat := by omega
                refine Step.pure (cv := .slice (some ⟨p.blk, p.off + (off + l.toNat) * p.sz, none⟩) (hh.toNat - l.toNat) (cap - l.toNat)) hH ?_ (.sl _ _ _ p _ h3 hvec (by omega) rfl fun _ => ⟨_, rfl, by omega, ?_⟩)
                · simp [Instr.sliceAt, Instr.slice, run_underlying hu, hcs, hbd, run_sizeT hsz, hne, add_at, h6, Nat.add_mul, Nat.add_assoc]
                · have : off + l.toNat + (cap - l.toNat) = off + cap := by omega
                  rw [this]; exact hroom
            · cases h
          · cases h
        · rename_i es hes
          split at h
          · rename_i hst
            obtain ⟨hst, hall⟩ := hst
            subst hst
            simp only [Bool.false_eq_true, if_false] at hu
            obtain ⟨e, hu, hsz⟩ := hu
            obtain ⟨rfl, rfl⟩ := some_nil h
            rw [hes] at hx hlen
            simp only [lenOfIn, Option.some.injEq] at hlen
            obtain ⟨c, hc⟩ : ∃ c, a.eval x = c := ⟨_, rfl⟩
            rw [hc] at hx
            obtain ⟨ad, cap, rfl, hcap⟩ : ∃ ad cap, c = .slice ad len cap ∧ len ≤ cap := by
              cases hx with
              | view _ b o' sz' cap f hb hcap => exact ⟨_, cap, by rw [hlen], by omega⟩
              | viewnil ad cap => simp only [List.length_nil] at hlen; subst hlen; exact ⟨ad, cap, rfl, Nat.zero_le _⟩
            have hbd := run_bounds (P := P) (w := w) hH.glob hT true len cap hlo' hhi' h0 h1 h2 hcap
            by_cases hlh : l = hh
            · have e1 : (es.drop l.toNat).take (hh.toNat - l.toNat) = [] := by rw [hlh]; simp
              rw [e1]
              refine Step.pure (cv := .slice (if cap = l.toNat then ad else ad.map (·.add (l.toNat * sz))) 0 (cap - l.toNat)) hH ?_ (.viewnil _ _)
              have : hh.toNat - l.toNat = 0 := by omega
              simp [Instr.sliceAt, Instr.slice, run_underlying hu, hc, hbd, run_sizeT hsz, this]
            · have hne : cap ≠ l.toNat := by omega
              subst hlen
              generalize hcv : Value.slice ad es.length cap = cv at hx
              cases hx with
              | view _ b o' sz' cap' f hb hcap' hs hf hv =>
                cases hcv
                have hes0 : 0 < es.length := by omega
                have hsz0 : sz' = sz := by
                  have k1 := hs 0 hes0
                  have k2 := List.all_eq_true.1 hall (es.getD 0 .any) (by rw [List.getD_eq_getElem?_getD, List.getElem?_eq_getElem hes0]; exact List.getElem_mem hes0)
                  rw [beq_iff_eq] at k2
                  omega
                subst hsz0
                have hlen' : ((es.drop l.toNat).take (hh.toNat - l.toNat)).length = hh.toNat - l.toNat := by simp; omega
                have hgd : ∀ i, i < hh.toNat - l.toNat → ((es.drop l.toNat).take (hh.toNat - l.toNat)).getD i .any = es.getD (l.toNat + i) .any := fun i hi => by
                  rw [List.getD_eq_getElem?_getD, List.getElem?_take_of_lt hi, List.getElem?_drop, List.getD_eq_getElem?_getD]
                have hvw : VR G μ (.view ((es.drop l.toNat).take (hh.toNat - l.toNat))) (.slice (some ⟨b, o' + l.toNat * sz', none⟩) ((es.drop l.toNat).take (hh.toNat - l.toNat)).length (cap - l.toNat)) := by
                  refine .view _ b (o' + l.toNat * sz') sz' _ (fun i j => f (l.toNat + i) j) hb (by omega) (fun i hi => ?_) (fun i j hi hj => ?_) (fun i j hi hj => ?_)
                  · rw [hgd i (by omega)]; exact hs _ (by omega)
                  · have := hf (l.toNat + i) j (by omega) hj
                    rw [Nat.add_mul, ← Nat.add_assoc] at this
                    exact this
                  · rw [hgd i (by omega)]; exact hv _ j (by omega) hj
                rw [hlen'] at hvw
                exact Step.pure (cv := .slice (some ⟨b, o' + l.toNat * sz', none⟩) (hh.toNat - l.toNat) (cap - l.toNat)) hH (by simp [Instr.sliceAt, Instr.slice, run_underlying hu, hc, hbd, run_sizeT hsz, hne, add_at]) hvw
              | viewnil => simp at h2; omega
          · cases h
        · rename_i hn
          split at h
          · rename_i hst
            subst hst
            simp only [Bool.false_eq_true, if_false] at hu
            obtain ⟨e, hu, hsz⟩ := hu
            obtain ⟨rfl, rfl⟩ := some_nil h
            rw [hn] at hx hlen
            simp only [lenOfIn, Option.some.injEq] at hlen
            subst hlen
            obtain ⟨c, hc⟩ : ∃ c, a.eval x = c := ⟨_, rfl⟩
            rw [hc] at hx
            cases hx
            have hbd := run_bounds (P := P) (w := w) hH.glob hT true 0 0 hlo' hhi' h0 h1 h2 (Nat.le_refl _)
            have e1 : l.toNat = 0 := by omega
            have e2 : hh.toNat = 0 := by omega
            exact Step.pure (cv := .slice none 0 0) hH (by simp [Instr.sliceAt, Instr.slice, run_underlying hu, hc, hbd, run_sizeT hsz, e1, e2]) .nilsl
          · cases h
        · cases h
      · cases h
    · cases h
end Go.Sx
/- 'aev' is sound: slice literals and make. -/
namespace Go.Sx
open Go

variable {P : Program} {G : Ctx} {μ : Mu} {H : Heap} {n : Nat} {w : World} {ρ : List AVal} {a : Act} {v : AVal} {Δ : List (Nat × Row)}

theorem flat_len (sz : Nat) : ∀ (vs : List AVal), (∀ x ∈ vs, (acells x).length = sz) → (vs.flatMap acells).length = vs.length * sz
  | [], _ => by simp
  | x :: vs, h => by
    simp only [List.flatMap_cons, List.length_append, List.length_cons, flat_len sz vs fun y hy => h y (by simp [hy]), h x (by simp)]
    rw [Nat.add_mul]; omega

theorem flat_get (sz : Nat) : ∀ (vs : List AVal) (i j : Nat), (∀ x ∈ vs, (acells x).length = sz) → i < vs.length → j < sz →
    (vs.flatMap acells).getD (i * sz + j) .any = (acells (vs.getD i .any)).getD j .any
  | [], _, _, _, h, _ => by simp at h
  | x :: vs, 0, j, h, _, hj => by
    have hx := h x (by simp)
    simp only [List.flatMap_cons, Nat.zero_mul, Nat.zero_add, List.getD_cons_zero, List.getD_eq_getElem?_getD]
    rw [List.getElem?_append_left (by omega)]
    simp
  | x :: vs, i + 1, j, h, hi, hj => by
    have hx := h x (by simp)
    have ih := flat_get sz vs i j (fun y hy => h y (by simp [hy])) (by simpa using hi) hj
    simp only [List.flatMap_cons, List.getD_cons_succ, List.getD_eq_getElem?_getD] at ih ⊢
    rw [List.getElem?_append_right (by rw [hx, Nat.add_mul]; omega)]
    have e : (i + 1) * sz + j - (acells x).length = i * sz + j := by rw [hx, Nat.add_mul]; omega
    rw [e, ih]
    simp

theorem sized_mem {sz : Nat} {vs : List AVal} (h : sizedAll sz vs = true) : ∀ x ∈ vs, (acells x).length = sz ∧ (acells x).all AVal.one = true := by
  intro x hx
  have := List.all_eq_true.1 h x hx
  simp only [Bool.and_eq_true, beq_iff_eq] at this
  exact this

theorem one_notAny {x : AVal} (h : (acells x).all AVal.one = true) : x.isAny = false := by
  cases x <;> first | rfl | simp [acells, AVal.one] at h

theorem setParts_seq (sz : Nat) : ∀ (vs : List AVal) (k : Nat) (pre rest : List AVal), pre.length = k * sz → rest.length = vs.length * sz → (∀ x ∈ vs, (acells x).length = sz ∧ (acells x).all AVal.one = true) →
    setParts (pre ++ rest) ((vs.zipIdx k).map fun p => (p.2 * sz, sz, p.1)) = some (pre ++ vs.flatMap acells)
  | [], k, pre, rest, _, h2, _ => by
    have : rest = [] := List.eq_nil_of_length_eq_zero (by simpa using h2)
    subst this
    rfl
  | x :: vs, k, pre, rest, h1, h2, h3 => by
    obtain ⟨hx1, hx2⟩ := h3 x (by simp)
    simp only [List.length_cons, Nat.add_mul, Nat.one_mul] at h2
    simp only [List.zipIdx_cons, List.map_cons, setParts]
    rw [if_pos ⟨hx1, one_notAny hx2, by simp; omega⟩]
    have e1 : (pre ++ rest).take (k * sz) = pre := by rw [← h1]; simp
    have e2 : (pre ++ rest).drop (k * sz + sz) = rest.drop sz := by rw [← h1, ← List.drop_drop]; simp
    rw [e1, e2]
    have ih := setParts_seq sz vs (k + 1) (pre ++ acells x) (rest.drop sz) (by simp [h1, hx1, Nat.add_mul]) (by simp; omega) (fun y hy => h3 y (by simp [hy]))
    rw [ih]
    simp

theorem CR.any (m : Nat) (vs : Array Value) (h : m = vs.size) : CR G μ (List.replicate m .any) vs := by
  refine ⟨by simpa using h, fun i hi => ?_⟩
  have hi' : i < m := by simpa using hi
  rw [List.getD_eq_getElem?_getD, List.getElem?_replicate]
  simp [hi']
  exact .any _

theorem parts_seq {α : Type} (m : Nat) : ∀ (parts : List (Nat × α)) (k : Nat), parts.map (·.1) = List.range' k m → parts = ((parts.map (·.2)).zipIdx k).map fun p => (p.2, p.1) := by
  induction m with
  | zero => intro parts k h; have : parts = [] := by simpa using h
            subst this; rfl
  | succ m ih =>
    intro parts k h
    cases parts with
    | nil => simp at h
    | cons p parts =>
      rw [List.range'_succ] at h
      simp only [List.map_cons, List.cons.injEq] at h
      have := ih parts (k + 1) h.2
      simp only [List.map_cons, List.zipIdx_cons, List.cons.injEq]
      refine ⟨?_, this⟩
      rw [← h.1]

theorem aev_buildSlice (hT : TR G μ ρ a.tmps) (hH : HR P G μ H w) (hn : μ n = none) (t : TypeId) (len : Nat) (parts : Array (Nat × Operand)) (o : Oper) (ho : o.op = .buildSlice t len parts)
    (h : aev (cop P o) ρ H n = some (v, Δ)) : Step P G μ H n (execOp a.eval o) w v Δ := by
  have hex : execOp a.eval o = (do pure (.value (← Instr.buildSlice t len (parts.map fun (i, x) => (i, a.eval x))))) := by simp only [execOp, ho]
  rw [hex]
  generalize hpv : (parts.map fun (i, x) => (i, a.eval x)) = pv
  simp only [cop, ho] at h
  split at h
  · rename_i e hu
    split at h
    · rename_i sz z hsz hz
      split at h
      · rename_i hc
        simp only [Bool.and_eq_true, decide_eq_true_eq, beq_iff_eq] at hc
        obtain ⟨⟨⟨hpos, hlim⟩, hseq⟩, hzl⟩ := hc
        simp only [aev] at h
        split at h
        · rename_i hs
          obtain ⟨hs, _⟩ := hs
          simp only [Option.some.injEq, Prod.mk.injEq] at h
          obtain ⟨rfl, rfl⟩ := h
          generalize hvs : (parts.toList.map fun p => (copd P) p.2).map (opd ρ) = vs at *
          have hvl : vs.length = len := by
            rw [← hvs]
            have := congrArg List.length hseq
            simpa using this
          obtain ⟨c, hzc, rfl⟩ := run_zeroT (w := w) hz
          have hmem := sized_mem hs
          have hps := parts_seq len parts.toList 0 (by rw [hseq, List.range_eq_range'])
          -- the parts, with their values
          have hlist : (parts.toList.map fun p => (p.1, opd ρ ((copd P) p.2), a.eval p.2)).map (fun p => (p.1 * sz, sz, p.2.1)) = (vs.zipIdx 0).map fun p => (p.2 * sz, sz, p.1) := by
            rw [← hvs]
            conv => lhs; rw [hps]
            simp only [List.map_map, List.zipIdx_map, Function.comp_def]
            rfl
          have hparts : pv.toList = (parts.toList.map fun p => (p.1, opd ρ ((copd P) p.2), a.eval p.2)).map fun p => (p.1, p.2.2) := by subst hpv; simp
          have hvr : ∀ p ∈ (parts.toList.map fun p => (p.1, opd ρ ((copd P) p.2), a.eval p.2)), VR G μ p.2.1 p.2.2 := by
            intro p hp
            obtain ⟨q, _, rfl⟩ := List.mem_map.1 hp
            exact opd_sound hH.glob hT q.2
          generalize hzs : ((Array.range (len * sz)).map (fun i => (if len * sz = 0 then #[] else c.cells)[i % (if len * sz = 0 then #[] else c.cells).size]!)) = zs
          have hzsl : zs.size = len * sz := by rw [← hzs]; simp
          have hseq2 := setParts_seq sz vs 0 [] (List.replicate (len * sz) .any) (by simp) (by simp [hvl]) hmem
          simp only [List.nil_append] at hseq2
          rw [← hlist] at hseq2
          obtain ⟨ws, hw, hcw⟩ := fill_sound (fun i => some (i * sz, sz)) _ (vs.flatMap acells) _ zs (CR.any (len * sz) zs hzsl.symm) hvr (fun p hp => rfl) (by
            simp only [List.map_map, Function.comp_def, Option.getD_some] at hseq2 ⊢; exact hseq2)
          rw [← hparts] at hw
          have hwsz : ws.size = len * sz := by rw [← hcw.1, flat_len sz vs (fun x hx => (hmem x hx).1), hvl]
          have hrun : (do pure (.value (← Instr.buildSlice t len pv)) : Sem Next).run P w = .ok (.value (.slice (some ⟨w.heap.size, 0, none⟩) len len)) { w with heap := w.heap.push (.cells ws e (0, 0)) } := by
            have hlim' : ¬ (len * sz > 2 ^ 24) := by omega
            by_cases h0 : len * sz = 0
            · simp only [h0, if_true] at hzs
              simp [Instr.buildSlice, run_underlying hu, run_sizeT hsz, h0]
              simp [h0] at hzs
              subst hzs
              simp [hw, newRow, newObj, Sem.run]
            · simp only [h0, if_false] at hzs
              simp [Instr.buildSlice, run_underlying hu, run_sizeT hsz, h0, hlim', hzc]
              rw [hzs, hw]
              simp [newRow]
          refine Step.fresh (gr := false) (ty := e) (C := ws) hH hn hrun rfl ⟨rfl, rfl, rfl⟩ (fun _ => rfl) (fun i hi => ⟨(hmem _ (by rw [List.getD_eq_getElem?_getD, List.getElem?_eq_getElem hi]; exact List.getElem_mem hi)).1, fun j hj => ?_⟩) fun μ' hμ' => ?_
          · have hlt : i * sz + j < len * sz := by
              have : (i + 1) * sz ≤ len * sz := Nat.mul_le_mul_right _ (by omega)
              rw [Nat.add_mul] at this; omega
            have hlt' : i * sz + j < ws.size := by omega
            have hcv := hcw.2 (i * sz + j) (by rw [hcw.1]; omega)
            rw [flat_get sz vs i j (fun x hx => (hmem x hx).1) hi hj, Array.getD_eq_getD_getElem?] at hcv
            exact ⟨ws[i * sz + j], by simp [hlt'], by simpa [hlt'] using hcv⟩
          · exact .sl _ _ _ _ _ hμ' rfl (by simp) rfl fun _ => ⟨len, by simp [hvl], by omega, by simp [hwsz]⟩
        · cases h
      · simp [aev] at h
    · simp [aev] at h
  · simp [aev] at h

theorem aev_makeSlice (hT : TR G μ ρ a.tmps) (hH : HR P G μ H w) (hn : μ n = none) (t e : TypeId) (x y : Operand) (z : AVal) (b sz : Nat) (o : Oper) (ho : o.op = .makeSlice t x y)
    (hu : P.underlying t = some (.slice e)) (hz : zeroT P e = some z) (hb : bytesT P e = some b) (hsz : sizeT P e = some sz) (hzl : sz = (acells z).length) (hpos : 0 < sz)
    (h : aev (.makeSlice z b ((copd P) x) ((copd P) y)) ρ H n = some (v, Δ)) : Step P G μ H n (execOp a.eval o) w v Δ := by
  have hex : execOp a.eval o = (do pure (.value (← Instr.makeSlice t (a.eval x) (a.eval y)))) := by simp only [execOp, ho]
  rw [hex]
  simp only [aev] at h
  split at h
  · rename_i l c hl hc
    split at h
    · rename_i hcond
      obtain ⟨h0, h1, h2, h3, hany⟩ := hcond
      simp only [Option.some.injEq, Prod.mk.injEq] at h
      obtain ⟨rfl, rfl⟩ := h
      have hlv := (hl ▸ opd_sound hH.glob hT x).inv_int
      have hcv := (hc ▸ opd_sound hH.glob hT y).inv_int
      obtain ⟨zc, hzc, rfl⟩ := run_zeroT (w := w) hz
      have hCR := CR.of_VR (cval_sound G μ 3 zc) hany
      have hzs : zc.cells.size = sz := by rw [← hCR.1, hzl]
      obtain ⟨i, hi, hbi⟩ := Option.map_eq_some_iff.1 hb
      have hii : i.size = sz := by
        simp only [sizeT, hi, Option.map_some, Option.some.injEq] at hsz; exact hsz
      have hiz : i.zero = some zc := by
        simp only [zeroValue, typeInfo] at hzc
        cases hz0 : i.zero with
        | none => simp [hi, hz0, unsupported, Sem.run] at hzc
        | some q => simp [hi, hz0] at hzc; rw [hzc]
      have hbytes : (i.bytes : Int) * c ≤ 281474976710656 := by rw [hbi, Int.mul_comm]; omega
      have hrun := run_make (P := P) w t e i zc hu hi hiz .i64 .i64 l c h0 h1 hbytes (by omega)
      have hrun' : (do pure (.value (← Instr.makeSlice t (a.eval x) (a.eval y))) : Sem Next).run P w = .ok (.value (.slice (some ⟨w.heap.size, 0, none⟩) l.toNat c.toNat)) (w.alloc (.cells (madeCells zc.cells (c.toNat * i.size)) e)) := by
        rw [hlv, hcv]; simp [hrun]
      rw [hii] at hrun'
      have hsize := size_madeCells zc.cells (c.toNat * sz)
      refine Step.fresh (gr := false) (ty := e) (C := madeCells zc.cells (c.toNat * sz)) hH hn hrun' rfl ⟨rfl, rfl, rfl⟩ (fun _ => rfl) (fun k hk => ?_) fun μ' hμ' => ?_
      · have hk' : k < l.toNat := by simpa using hk
        have hg : (List.replicate l.toNat (cval 3 zc)).getD k .any = cval 3 zc := by simp [List.getD_eq_getElem?_getD, List.getElem?_replicate, hk']
        rw [hg]
        refine ⟨rfl, fun j hj => ?_⟩
        rw [← hzl] at hj
        rw [← hzl]
        have hlt : k * sz + j < c.toNat * sz := by
          have : (k + 1) * sz ≤ c.toNat * sz := Nat.mul_le_mul_right _ (by omega)
          rw [Nat.add_mul] at this; omega
        have hmod : (k * sz + j) % zc.cells.size = j := by rw [hzs, Nat.add_comm, Nat.add_mul_mod_self_right, Nat.mod_eq_of_lt hj]
        have hj' : j < zc.cells.size := by omega
        refine ⟨zc.cells[j], ?_, ?_⟩
        · unfold madeCells
          simp only [Array.getElem?_map, Array.getElem?_range, hlt, if_true, Option.map_some, hmod]
          simp [hj']
        · have := hCR.2 j (by omega)
          rw [Array.getD_eq_getD_getElem?] at this
          simpa [hj'] using this
      · rw [← hzl] at hμ'
        refine .sl _ _ _ _ _ hμ' rfl (by simp) rfl fun _ => ⟨c.toNat, by simp, by omega, ?_⟩
        rw [hsize]; simp
    · cases h
  · cases h
end Go.Sx
/- 'aev' is sound: append. -/
namespace Go.Sx
open Go

variable {P : Program} {G : Ctx} {μ : Mu} {H : Heap} {n : Nat} {w : World} {ρ : List AVal} {a : Act} {v : AVal} {Δ : List (Nat × Row)}

theorem run_firstCells_f (w : World) (size m : Nat) (ad : Addr) (l c : Nat) (f : Nat → Value) (h : ∀ k, k < m * size → w.cell? (ad.add k) = some (f k)) :
    (Builtin.firstCells size m (.slice (some ad) l c)).run P w = .ok ((List.range (m * size)).map f).toArray w := by
  simp only [Builtin.firstCells]
  exact run_loadCells w ad (m * size) f h

theorem CR.of_fun {cs : List AVal} {m : Nat} {f : Nat → Value} (h : cs.length = m) (hv : ∀ k, k < m → VR G μ (cs.getD k .any) (f k)) : CR G μ cs ((List.range m).map f).toArray := by
  refine ⟨by simp [h], fun i hi => ?_⟩
  have hi' : i < m := by omega
  rw [Array.getD_eq_getD_getElem?]
  simpa [hi'] using hv i hi'

theorem flat_get' (sz : Nat) (vs : List AVal) (k : Nat) (h : ∀ x ∈ vs, (acells x).length = sz) (hk : k < vs.length * sz) :
    (vs.flatMap acells).getD k .any = (acells (vs.getD (k / sz) .any)).getD (k % sz) .any ∧ k / sz < vs.length ∧ k % sz < sz ∧ k / sz * sz + k % sz = k := by
  have hs : 0 < sz := by
    rcases Nat.eq_zero_or_pos sz with h0 | h0
    · rw [h0] at hk; omega
    · exact h0
  have h1 : k / sz < vs.length := Nat.div_lt_of_lt_mul (by rw [Nat.mul_comm]; exact hk)
  have h2 := Nat.mod_lt k hs
  have h3 : k / sz * sz + k % sz = k := by rw [Nat.mul_comm]; exact Nat.div_add_mod k sz
  refine ⟨?_, h1, h2, h3⟩
  have := flat_get sz vs (k / sz) (k % sz) h h1 h2
  rw [h3] at this
  exact this

theorem elems_run (hH : HR P G μ H w) {x : AVal} {c : Value} {ys : List AVal} {sz : Nat} (h : elemsOf H x = some ys) (hs : ∀ y ∈ ys, (acells y).length = sz) (hx : VR G μ x c) :
    (∃ ad k, c = .slice ad ys.length k) ∧ ∃ ws, CR G μ (ys.flatMap acells) ws ∧ ∀ w' : World, w'.heap = w.heap → (Builtin.firstCells sz ys.length c).run P w' = .ok ws w' := by
  have hcw : ∀ (w' : World) (ad : Addr), w'.heap = w.heap → w'.cell? ad = w.cell? ad := fun w' ad hw => by simp only [World.cell?, hw]
  have hlen := flat_len sz ys hs
  unfold elemsOf at h
  split at h
  · rename_i r off len
    split at h
    · rename_i g sz' es hc
      split at h
      · rename_i hg
        obtain ⟨hg, hle⟩ := hg
        obtain ⟨p, C, ty, h1, h2, h3, h4, h5, h6, h7, h8, h9⟩ := hH.own hc
        obtain ⟨p', h1', hvec, hL, hcv⟩ := hx.inv_sl
        rw [h1] at h1'; cases h1'
        obtain ⟨cap, hcs, hcap, hroom⟩ := hcv (live_of h6 h5 hg)
        cases h
        have hyl : ((es.drop off).take len).length = len := by simp; omega
        have hgd : ∀ i, i < len → ((es.drop off).take len).getD i .any = es.getD (off + i) .any := fun i hi => by
          rw [List.getD_eq_getElem?_getD, List.getElem?_take_of_lt hi, List.getElem?_drop, List.getD_eq_getElem?_getD]
        refine ⟨⟨_, cap, by rw [hcs, hyl]⟩, ?_⟩
        by_cases h0 : len = 0
        · subst h0
          refine ⟨#[], ?_, fun w' hw => ?_⟩
          · simp; exact ⟨rfl, fun i hi => by simp at hi⟩
          · rw [hcs]; simp [Builtin.firstCells, loadCells, loadCellsFrom]
        · have hsz : sz' = sz := by
            have k1 := (h9 off (by omega)).1
            have k2 := hs (es.getD off .any) (by
              have := hgd 0 (by omega)
              simp only [Nat.add_zero] at this
              rw [← this, List.getD_eq_getElem?_getD, List.getElem?_eq_getElem (by omega)]
              exact List.getElem_mem _)
            omega
          subst hsz
          have hcell : ∀ k, k < len * sz' → ∃ cc, w.cell? ((⟨p.blk, p.off + off * p.sz, none⟩ : Addr).add k) = some cc ∧ VR G μ ((((es.drop off).take len).flatMap acells).getD k .any) cc := by
            intro k hk
            obtain ⟨e1, e2, e3, e4⟩ := flat_get' sz' ((es.drop off).take len) k hs (by rw [hyl]; exact hk)
            rw [hyl] at e2
            obtain ⟨cc, hc1, hc2⟩ := (h9 (off + k / sz') (by omega)).2 (k % sz') e3
            refine ⟨cc, ?_, ?_⟩
            · rw [add_at, cell_at h7, ← hc1]
              congr 1
              rw [h4, Nat.add_mul]; omega
            · rw [e1, hgd _ e2]; exact hc2
          refine ⟨((List.range (len * sz')).map fun k => (w.cell? ((⟨p.blk, p.off + off * p.sz, none⟩ : Addr).add k)).getD undef).toArray, CR.of_fun (by rw [hlen, hyl]) (fun k hk => ?_), fun w' hw => ?_⟩
          · obtain ⟨cc, k1, k2⟩ := hcell k hk
            rw [k1]; exact k2
          · rw [hcs, hyl]
            refine run_firstCells_f w' _ _ _ _ _ _ fun k hk => ?_
            obtain ⟨cc, k1, _⟩ := hcell k hk
            rw [hcw _ _ hw, k1]; rfl
      · cases h
    · cases h
  · cases h
    generalize hes : AVal.view ys = xv at hx
    cases hx <;> cases hes
    · rename_i b o sz' cap f hb hcap hs' hf hv
      refine ⟨⟨_, cap, rfl⟩, ?_⟩
      by_cases h0 : ys.length = 0
      · have : ys = [] := List.eq_nil_of_length_eq_zero h0
        subst this
        refine ⟨#[], ⟨rfl, fun i hi => by simp at hi⟩, fun w' hw => ?_⟩
        simp [Builtin.firstCells, loadCells, loadCellsFrom]
      · have hsz : sz' = sz := by
          have k1 := hs' 0 (by omega)
          have k2 := hs (ys.getD 0 .any) (by rw [List.getD_eq_getElem?_getD, List.getElem?_eq_getElem (by omega)]; exact List.getElem_mem _)
          omega
        subst hsz
        have hcell : ∀ k, k < ys.length * sz' → w.cell? ((⟨b, o, none⟩ : Addr).add k) = some (f (k / sz') (k % sz')) := by
          intro k hk
          obtain ⟨e1, e2, e3, e4⟩ := flat_get' sz' ys k hs hk
          have := hf (k / sz') (k % sz') e2 e3
          rw [add_at, hH.ro_cell hb, ← this]
          congr 2; omega
        refine ⟨_, CR.of_fun (f := fun k => f (k / sz') (k % sz')) hlen (fun k hk => ?_), fun w' hw => run_firstCells_f w' _ _ _ _ _ _ fun k hk => by rw [hcw _ _ hw]; exact hcell k hk⟩
        obtain ⟨e1, e2, e3, e4⟩ := flat_get' sz' ys k hs hk
        rw [e1]; exact hv _ _ e2 e3
    · rename_i ad cap
      refine ⟨⟨_, _, rfl⟩, #[], ⟨rfl, fun i hi => by simp at hi⟩, fun w' hw => ?_⟩
      cases ad <;> simp [Builtin.firstCells, loadCells, loadCellsFrom]
  · cases h
    cases hx
    refine ⟨⟨_, _, rfl⟩, #[], ⟨rfl, fun i hi => by simp at hi⟩, fun w' hw => ?_⟩
    simp [Builtin.firstCells]
  · cases h
end Go.Sx
