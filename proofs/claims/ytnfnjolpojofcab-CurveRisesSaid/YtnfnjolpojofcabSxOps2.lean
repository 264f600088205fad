/- 'aev' is sound: operations on memory. -/
import Derived.Test.YtnfnjolpojofcabSxOps1
namespace Go.Sx
open Go

variable {P : Program} {G : Ctx} {μ : Mu} {H : Heap} {n : Nat} {w : World} {ρ : List AVal} {a : Act} {v : AVal} {Δ : List (Nat × Row)}

theorem cellsAt_row {r : Nat} {g : Bool} {sz : Nat} {es : List AVal} (h : H.cellsAt r = some (g, sz, es)) : H[r]? = some (some (.cells g sz es)) := by
  unfold Heap.cellsAt at h
  split at h
  · cases h; assumption
  · cases h

theorem add_at (b o j : Nat) : (⟨b, o, none⟩ : Addr).add j = ⟨b, o + j, none⟩ := by
  unfold Addr.add
  split <;> simp_all

theorem cell_at {w : World} {b : Nat} {C : Array Value} {ty : TypeId} {fr : Nat × Nat} (h : w.heap[b]? = some (.cells C ty fr)) (o : Nat) : w.cell? ⟨b, o, none⟩ = C[o]? := by
  simp [World.cell?, h]

/-- What a row of one's own holds. -/
theorem HR.own (hH : HR P G μ H w) {r : Nat} {g : Bool} {sz : Nat} {es : List AVal} (h : H.cellsAt r = some (g, sz, es)) :
    ∃ p C ty, μ r = some p ∧ ¬ G.keep p.blk ∧ p.blk < w.heap.size ∧ p.sz = sz ∧ p.len = es.length ∧ (g = false → p.grown = false) ∧ w.heap[p.blk]? = some (.cells C ty (0, 0)) ∧ C.size = p.size ∧
      ∀ i, i < es.length → (acells (es.getD i .any)).length = sz ∧ ∀ j, j < sz → ∃ c, C[p.off + i * sz + j]? = some c ∧ VR G μ ((acells (es.getD i .any)).getD j .any) c := by
  obtain ⟨p, h1, h2, h3, h4, h5, h6, C, ty, h7, h8, h9⟩ := hH.row r _ (cellsAt_row h)
  exact ⟨p, C, ty, h1, h2, h3, h4, h5, h6, h7, h8, h9⟩

theorem live_of {g : Bool} {p : Place} {L m : Nat} (hg : g = false → p.grown = false) (hl : p.len = m) (h : g = false ∨ L = m) : p.live L := by
  rcases h with h | h
  · exact .inl (hg h)
  · exact .inr (by omega)

theorem getD_of_get {es : List AVal} {i : Nat} {e : AVal} (h : es[i]? = some e) : i < es.length ∧ es.getD i .any = e := by
  obtain ⟨hi, he⟩ := List.getElem?_eq_some_iff.1 h
  exact ⟨hi, by simp [List.getD_eq_getElem?_getD, h]⟩

theorem lkind_run {t : TypeId} {k : Option Nat} (h : lkind P t = some k) :
    (match k with | some m => (isAgg t).run P w = .ok true w ∧ (sizeOf t).run P w = .ok m w | none => (isAgg t).run P w = .ok false w) := by
  unfold lkind isAggT at h
  cases hu : P.underlying t with
  | none => simp [hu] at h
  | some d =>
    cases d <;> simp [hu] at h <;> first
      | (subst h; simp [isAgg, run_underlying hu]; done)
      | (obtain ⟨m, hm, rfl⟩ := h; exact ⟨by simp [isAgg, run_underlying hu], run_sizeT hm⟩)

theorem loadVar_sound {t : TypeId} {k : Option Nat} (hk : lkind P t = some k) (b o off : Nat) (cs : List AVal) (f : Nat → Value)
    (hf : ∀ j, j < cs.length → w.cell? ⟨b, o + j, none⟩ = some (f j)) (hv : ∀ j, j < cs.length → VR G μ (cs.getD j .any) (f j)) (h : partOf cs off k = some v) :
    ∃ cv, (loadVar t ⟨b, o + off, none⟩).run P w = .ok cv w ∧ VR G μ v cv := by
  have hr := lkind_run (w := w) hk
  cases k with
  | none =>
    simp only [partOf] at h
    obtain ⟨hi, he⟩ := List.getElem?_eq_some_iff.1 h
    refine ⟨f off, ?_, ?_⟩
    · simp [loadVar, hr, load, Sem.run, hf off hi]
    · have := hv off hi
      simpa [List.getD_eq_getElem?_getD, h] using this
  | some m =>
    simp only [partOf] at h
    split at h
    · rename_i hm
      cases h
      have hl := run_loadCells (P := P) w ⟨b, o + off, none⟩ m (fun j => f (off + j)) (fun j hj => by rw [add_at, Nat.add_assoc]; exact hf _ (by omega))
      refine ⟨_, by simp [loadVar, hr.1, hr.2, hl]; rfl, .agg _ _ (by simp; omega) fun i hi => ?_⟩
      have hi' : i < m := by simp at hi; omega
      have := hv (off + i) (by omega)
      simp only [List.getD_eq_getElem?_getD, List.getElem?_take_of_lt hi', List.getElem?_drop, Array.getD_eq_getD_getElem?]
      simp [hi']
      simpa [List.getD_eq_getElem?_getD] using this
    · cases h

theorem HR.ro_cell (hH : HR P G μ H w) {b o : Nat} (hb : G.ro b) : w.cell? ⟨b, o, none⟩ = G.w0.cell? ⟨b, o, none⟩ := by
  simp only [World.cell?, (hH.kept b (hH.ro b hb)).2]

theorem ldv_run (hH : HR P G μ H w) {t : TypeId} {k : Option Nat} (hk : lkind P t = some k) {x : AVal} {c : Value} (hx : VR G μ x c) (h : ldv H k x = some v) :
    ∃ ad cv, c = .pointer (some ad) ∧ (loadVar t ad).run P w = .ok cv w ∧ VR G μ v cv := by
  unfold ldv at h
  split at h
  · rename_i r i off L
    split at h
    · rename_i g sz es hc
      split at h
      · rename_i hg
        split at h
        · rename_i e he
          obtain ⟨p, C, ty, h1, h2, h3, h4, h5, h6, h7, h8, h9⟩ := hH.own hc
          obtain ⟨p', h1', hL, hcv⟩ := hx.inv_ptr
          rw [h1] at h1'; cases h1'
          have hcv := hcv (live_of h6 h5 hg)
          obtain ⟨hi, hd⟩ := getD_of_get he
          obtain ⟨h10, h11⟩ := h9 i hi
          rw [hd] at h10 h11
          have hcell : ∀ j, j < (acells e).length → w.cell? ⟨p.blk, p.off + i * p.sz + j, none⟩ = some (C.getD (p.off + i * p.sz + j) undef) := fun j hj => by
            obtain ⟨c, hc1, _⟩ := h11 j (by omega)
            rw [h4, cell_at h7, Array.getD_eq_getD_getElem?, hc1]; rfl
          obtain ⟨cv, hrun, hvr⟩ := loadVar_sound (w := w) hk p.blk (p.off + i * p.sz) off (acells e) _ hcell (fun j hj => by
            obtain ⟨c, hc1, hc2⟩ := h11 j (by omega)
            rw [h4, Array.getD_eq_getD_getElem?, hc1]; exact hc2) h
          exact ⟨_, cv, hcv, hrun, hvr⟩
        · cases h
      · cases h
    · cases h
  · rename_i e off
    generalize hq : AVal.rptr e off = q at hx
    cases hx <;> cases hq
    rename_i b o f hb hf hv
    obtain ⟨cv, hrun, hvr⟩ := loadVar_sound (w := w) hk b o off (acells e) f (fun j hj => by rw [hH.ro_cell hb]; exact hf j hj) hv h
    exact ⟨_, cv, rfl, hrun, hvr⟩
  · cases h

theorem aev_load (hT : TR G μ ρ a.tmps) (hH : HR P G μ H w) (t : TypeId) (x : Operand) (o : Oper) (ho : o.op = .load t x)
    (h : aev (cop P o) ρ H n = some (v, Δ)) : Step P G μ H n (execOp a.eval o) w v Δ := by
  have hex : execOp a.eval o = (do pure (.value (← Instr.loadAt t (a.eval x)))) := by simp only [execOp, ho]
  rw [hex]
  simp only [cop, ho] at h
  split at h
  · rename_i k hk
    simp only [aev] at h
    obtain ⟨hb, rfl⟩ := map_nil h
    obtain ⟨ad, cv, h1, h2, h3⟩ := ldv_run hH hk (opd_sound hT x) hb
    exact Step.pure (cv := cv) hH (by simp [Instr.loadAt, h1, Instr.sureAddr, h2]) h3
  · simp [aev] at h

theorem aev_move (hT : TR G μ ρ a.tmps) (hH : HR P G μ H w) (x : Operand) (h : aev (.move (copd x)) ρ H n = some (v, Δ)) (s : Sem Next) (hs : s = pure (.value (a.eval x))) : Step P G μ H n s w v Δ := by
  simp only [aev] at h
  obtain ⟨rfl, rfl⟩ := some_nil h
  subst hs
  exact Step.pure hH (by simp) (opd_sound hT x)

theorem all_one {vs : List AVal} {c : Value} (hc : CR G μ vs c.cells) (h : vs.all AVal.one = true) : ∀ u ∈ c.cells.toList, u.oneCell' = true := by
  intro u hu
  obtain ⟨i, hi, rfl⟩ := List.mem_iff_getElem.1 hu
  have hi' : i < vs.length := by rw [hc.1]; simpa using hi
  have h1 := hc.2 i hi'
  have h2 : (vs.getD i .any).one = true := by
    have := List.all_eq_true.1 h vs[i] (List.getElem_mem hi')
    simpa [List.getD_eq_getElem?_getD, hi'] using this
  have := h1.one h2
  have hi'' : i < c.cells.size := by simpa using hi
  rw [Array.getD_eq_getD_getElem?] at this
  simpa [hi''] using this

theorem setPart_cells {e e' : AVal} {off : Nat} {vs : List AVal} (h : setPart e off vs = some e') (hone : vs.all AVal.one = true) :
    off + vs.length ≤ (acells e).length ∧ acells e' = (acells e).take off ++ vs ++ (acells e).drop (off + vs.length) := by
  unfold setPart at h
  split at h
  · split at h
    · cases h; exact ⟨by assumption, rfl⟩
    · cases h
  · rename_i hne
    split at h
    · rename_i v'
      obtain rfl : v' = e' := by cases h; rfl
      have h1 : acells e = [e] := by cases e <;> first | rfl | exact absurd rfl (hne _)
      have h2 : acells v' = [v'] := by cases v' <;> first | rfl | simp [AVal.one] at hone
      rw [h1, h2]
      exact ⟨by simp, by simp⟩
    · cases h

theorem splice_get {α : Type} (C : List α) (Y : List α) (k q : Nat) (h : k + Y.length ≤ C.length) :
    (C.take k ++ Y ++ C.drop (k + Y.length))[q]? = if k ≤ q ∧ q < k + Y.length then Y[q - k]? else C[q]? := by
  by_cases h1 : q < k
  · rw [if_neg (by omega), List.append_assoc, List.getElem?_append_left (by simp; omega), List.getElem?_take_of_lt h1]
  · by_cases h2 : q < k + Y.length
    · rw [if_pos (by omega), List.append_assoc, List.getElem?_append_right (by simp; omega), List.getElem?_append_left (by simp; omega)]
      congr 1
      simp; omega
    · rw [if_neg (by omega), List.getElem?_append_right (by simp; omega), List.getElem?_drop]
      congr 1
      simp; omega

theorem aev_store (hT : TR G μ ρ a.tmps) (hH : HR P G μ H w) (t : TypeId) (x y : Operand) (o : Oper) (ho : o.op = .store t x y)
    (h : aev (cop P o) ρ H n = some (v, Δ)) : Step P G μ H n (execOp a.eval o) w v Δ := by
  have hex : execOp a.eval o = (do Instr.storeAt t (a.eval x) (a.eval y); pure .skip) := by simp only [execOp, ho]
  rw [hex]
  simp only [cop, ho] at h
  split at h
  · rename_i m hm
    have hx := opd_sound hT x
    have hy := opd_sound hT y
    simp only [aev] at h
    split at h
    · rename_i r i off L hr
      rw [hr] at hx
      split at h
      · rename_i g sz es hc
        split at h
        · rename_i hg
          obtain ⟨hg, hpos, hlen, hone⟩ := hg
          split at h
          · rename_i e he
            split at h
            · rename_i e' he'
              cases h
              obtain ⟨p, C, ty, h1, h2, h3, h4, h5, h6, h7, h8, h9⟩ := hH.own hc
              obtain ⟨p', h1', hL, hcv⟩ := hx.inv_ptr
              rw [h1] at h1'; cases h1'
              have hcv := hcv (live_of h6 h5 hg)
              obtain ⟨hi, hd⟩ := getD_of_get he
              obtain ⟨h10, h11⟩ := h9 i hi
              rw [hd] at h10 h11
              obtain ⟨hle, hac⟩ := setPart_cells he' hone
              generalize hY : acells (opd ρ (copd y)) = ys at *
              have hcy : CR G μ ys (a.eval y).cells := by
                rw [← hY]
                refine CR.of_VR hy ?_
                cases hopd : opd ρ (copd y) <;> simp_all [AVal.isAny, acells, AVal.one] <;> (subst hY; simp [AVal.one] at hone)
              have hall := all_one hcy hone
              have hysz : ys.length = (a.eval y).cells.size := hcy.1
              have hC : p.off + i * p.sz + off + ys.length ≤ C.size := by
                obtain ⟨c, hc1, _⟩ := h11 (off + ys.length - 1) (by omega)
                obtain ⟨hlt, _⟩ := Array.getElem?_eq_some_iff.1 hc1
                rw [h4]; omega
              have hst := run_storeCells_at (P := P) p.blk (p.off + i * p.sz + off) ty (a.eval y).cells.toList 0 C w h7 (by simp; omega) hall
              generalize hC' : (List.take (p.off + i * p.sz + off + 0) C.toList ++ (a.eval y).cells.toList ++ List.drop (p.off + i * p.sz + off + 0 + (a.eval y).cells.toList.length) C.toList).toArray = C' at hst
              have hget : ∀ q, C'[q]? = if p.off + i * p.sz + off ≤ q ∧ q < p.off + i * p.sz + off + ys.length then (a.eval y).cells[q - (p.off + i * p.sz + off)]? else C[q]? := by
                intro q
                rw [← hC', hysz]
                simp only [Nat.add_zero, List.getElem?_toArray, Array.length_toList]
                have hsp := splice_get C.toList (a.eval y).cells.toList (p.off + i * p.sz + off) q (by simp; omega)
                simpa using hsp
              have hsz' : C'.size = C.size := by rw [← hC']; simp; omega
              have hrun : (do Instr.storeAt t (a.eval x) (a.eval y); pure Next.skip : Sem Next).run P w = .ok .skip (w.setRow p.blk C') := by
                simp [Instr.storeAt, hcv, Instr.sureAddr, storeVar, run_sizeT hm, ← hysz, hlen, hst]
              refine ⟨.skip, undef, w.setRow p.blk C', μ, hrun, .inr ⟨rfl, rfl⟩, .any _, Mu.le_refl _, ?_, fun _ h => .inl h⟩
              refine hH.put (p := p) ⟨rfl, rfl, rfl⟩ (Mu.le_refl _) (fun _ _ => rfl) h1 (by simp) (by simpa using h3) h2 (fun b _ hb => ?_) (fun s y q hs hy hq => ?_) ?_
              · simp [World.setRow, Array.getElem?_modify, Ne.symm hb]
              · exact hH.apart s r y _ q p hy (cellsAt_row hc) hq h1 hs
              · refine ⟨h4, by simpa using h5, h6, C', ty, setRow_heap w _ _ _ _ _ h7, by rw [hsz', h8], fun k hk => ?_⟩
                have hk' : k < es.length := by simpa using hk
                by_cases hki : k = i
                · subst hki
                  have hgd : (es.set k e').getD k .any = e' := by simp [List.getD_eq_getElem?_getD, hk']
                  rw [hgd, hac]
                  refine ⟨by simp; omega, fun j hj => ?_⟩
                  rw [hget]
                  by_cases hjr : off ≤ j ∧ j < off + ys.length
                  · rw [if_pos (by rw [h4]; omega)]
                    have hq : p.off + k * sz + j - (p.off + k * p.sz + off) = j - off := by rw [h4]; omega
                    rw [hq]
                    have hc2 := hcy.2 (j - off) (by omega)
                    have hlt : j - off < (a.eval y).cells.size := by omega
                    refine ⟨(a.eval y).cells[j - off], by simp [hlt], ?_⟩
                    rw [Array.getD_eq_getD_getElem?] at hc2
                    rw [List.getD_eq_getElem?_getD, List.append_assoc, List.getElem?_append_right (by simp; omega), List.getElem?_append_left (by simp; omega)]
                    have e1 : j - (List.take off (acells e)).length = j - off := by simp; omega
                    rw [e1, ← List.getD_eq_getElem?_getD]
                    simpa [hlt] using hc2
                  · rw [if_neg (by rw [h4]; omega)]
                    obtain ⟨c, hc1, hc2⟩ := h11 j hj
                    refine ⟨c, hc1, ?_⟩
                    rw [List.getD_eq_getElem?_getD] at hc2 ⊢
                    by_cases hlt : j < off
                    · rw [List.append_assoc, List.getElem?_append_left (by simp; omega), List.getElem?_take_of_lt hlt]; exact hc2
                    · rw [List.getElem?_append_right (by simp; omega), List.getElem?_drop]
                      have e1 : off + ys.length + (j - (List.take off (acells e) ++ ys).length) = j := by simp; omega
                      rw [e1]; exact hc2
                · have hgd : (es.set i e').getD k .any = es.getD k .any := by simp [List.getD_eq_getElem?_getD, List.getElem?_set_ne (Ne.symm hki)]
                  rw [hgd]
                  refine ⟨(h9 k hk').1, fun j hj => ?_⟩
                  obtain ⟨c, hc1, hc2⟩ := (h9 k hk').2 j hj
                  refine ⟨c, ?_, hc2⟩
                  rw [hget, if_neg ?_, hc1]
                  rw [h4]
                  rintro ⟨q1, q2⟩
                  rcases Nat.lt_or_gt_of_ne hki with hlt | hlt
                  · have : (k + 1) * sz ≤ i * sz := Nat.mul_le_mul_right _ hlt
                    rw [Nat.add_mul, Nat.one_mul] at this
                    omega
                  · have : (i + 1) * sz ≤ k * sz := Nat.mul_le_mul_right _ hlt
                    rw [Nat.add_mul, Nat.one_mul] at this
                    omega
            · cases h
          · cases h
        · cases h
      · cases h
    · cases h
  · simp [aev] at h
end Go.Sx
