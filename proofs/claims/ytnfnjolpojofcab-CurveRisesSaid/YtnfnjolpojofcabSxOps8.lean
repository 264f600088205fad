/- 'aev' is sound: slice literals and make. -/
import Derived.Test.YtnfnjolpojofcabSxOps7
import Derived.Laws.MakeOwn
namespace Go.Sx
open Go

variable {P : Program} {G : Ctx} {μ : Mu} {H : Heap} {n : Nat} {w : World} {ρ : List AVal} {a : Act} {v : AVal} {Δ : List (Nat × Row)}

theorem flat_len (sz : Nat) : ∀ (vs : List AVal), (∀ x ∈ vs, (acells x).length = sz) → (vs.flatMap acells).length = vs.length * sz
  | [], _ => by simp
  | x :: vs, h => by
    simp only [List.flatMap_cons, List.length_append, List.length_cons, flat_len sz vs fun y hy => h y (by simp [hy]), h x (by simp)]
    rw [Nat.add_mul]; omega

theorem flat_get (sz : Nat) : ∀ (vs : List AVal) (i j : Nat), (∀ x ∈ vs, (acells x).length = sz) → i < vs.length → j < sz →
    (vs.flatMap acells).getD (i * sz + j) .any = (acells (vs.getD i .any)).getD j .any
  | [], _, _, _, h, _ => by simp at h
  | x :: vs, 0, j, h, _, hj => by
    have hx := h x (by simp)
    simp only [List.flatMap_cons, Nat.zero_mul, Nat.zero_add, List.getD_cons_zero, List.getD_eq_getElem?_getD]
    rw [List.getElem?_append_left (by omega)]
    simp
  | x :: vs, i + 1, j, h, hi, hj => by
    have hx := h x (by simp)
    have ih := flat_get sz vs i j (fun y hy => h y (by simp [hy])) (by simpa using hi) hj
    simp only [List.flatMap_cons, List.getD_cons_succ, List.getD_eq_getElem?_getD] at ih ⊢
    rw [List.getElem?_append_right (by rw [hx, Nat.add_mul]; omega)]
    have e : (i + 1) * sz + j - (acells x).length = i * sz + j := by rw [hx, Nat.add_mul]; omega
    rw [e, ih]
    simp

theorem sized_mem {sz : Nat} {vs : List AVal} (h : sizedAll sz vs = true) : ∀ x ∈ vs, (acells x).length = sz ∧ (acells x).all AVal.one = true := by
  intro x hx
  have := List.all_eq_true.1 h x hx
  simp only [Bool.and_eq_true, beq_iff_eq] at this
  exact this

theorem one_notAny {x : AVal} (h : (acells x).all AVal.one = true) : x.isAny = false := by
  cases x <;> first | rfl | simp [acells, AVal.one] at h

/-- Parts that are laid one behind the other. -/
theorem setParts_seq (sz : Nat) : ∀ (vs : List AVal) (k : Nat) (pre rest : List AVal), pre.length = k * sz → rest.length = vs.length * sz → (∀ x ∈ vs, (acells x).length = sz ∧ (acells x).all AVal.one = true) →
    setParts (pre ++ rest) ((vs.zipIdx k).map fun p => (p.2 * sz, sz, p.1)) = some (pre ++ vs.flatMap acells)
  | [], k, pre, rest, _, h2, _ => by
    have : rest = [] := List.eq_nil_of_length_eq_zero (by simpa using h2)
    subst this
    rfl
  | x :: vs, k, pre, rest, h1, h2, h3 => by
    obtain ⟨hx1, hx2⟩ := h3 x (by simp)
    simp only [List.length_cons, Nat.add_mul, Nat.one_mul] at h2
    simp only [List.zipIdx_cons, List.map_cons, setParts]
    rw [if_pos ⟨hx1, one_notAny hx2, by simp; omega⟩]
    have e1 : (pre ++ rest).take (k * sz) = pre := by rw [← h1]; simp
    have e2 : (pre ++ rest).drop (k * sz + sz) = rest.drop sz := by rw [← h1, ← List.drop_drop]; simp
    rw [e1, e2]
    have ih := setParts_seq sz vs (k + 1) (pre ++ acells x) (rest.drop sz) (by simp [h1, hx1, Nat.add_mul]) (by simp; omega) (fun y hy => h3 y (by simp [hy]))
    rw [ih]
    simp

theorem CR.any (m : Nat) (vs : Array Value) (h : m = vs.size) : CR G μ (List.replicate m .any) vs := by
  refine ⟨by simpa using h, fun i hi => ?_⟩
  have hi' : i < m := by simpa using hi
  rw [List.getD_eq_getElem?_getD, List.getElem?_replicate]
  simp [hi']
  exact .any _

theorem parts_seq {α : Type} (m : Nat) : ∀ (parts : List (Nat × α)) (k : Nat), parts.map (·.1) = List.range' k m → parts = ((parts.map (·.2)).zipIdx k).map fun p => (p.2, p.1) := by
  induction m with
  | zero => intro parts k h; have : parts = [] := by simpa using h
            subst this; rfl
  | succ m ih =>
    intro parts k h
    cases parts with
    | nil => simp at h
    | cons p parts =>
      rw [List.range'_succ] at h
      simp only [List.map_cons, List.cons.injEq] at h
      have := ih parts (k + 1) h.2
      simp only [List.map_cons, List.zipIdx_cons, List.cons.injEq]
      refine ⟨?_, this⟩
      rw [← h.1]

theorem aev_buildSlice (hT : TR G μ ρ a.tmps) (hH : HR P G μ H w) (hn : μ n = none) (t : TypeId) (len : Nat) (parts : Array (Nat × Operand)) (o : Oper) (ho : o.op = .buildSlice t len parts)
    (h : aev (cop P o) ρ H n = some (v, Δ)) : Step P G μ H n (execOp a.eval o) w v Δ := by
  have hex : execOp a.eval o = (do pure (.value (← Instr.buildSlice t len (parts.map fun (i, x) => (i, a.eval x))))) := by simp only [execOp, ho]
  rw [hex]
  generalize hpv : (parts.map fun (i, x) => (i, a.eval x)) = pv
  simp only [cop, ho] at h
  split at h
  · rename_i e hu
    split at h
    · rename_i sz z hsz hz
      split at h
      · rename_i hc
        simp only [Bool.and_eq_true, decide_eq_true_eq, beq_iff_eq] at hc
        obtain ⟨⟨⟨hpos, hlim⟩, hseq⟩, hzl⟩ := hc
        simp only [aev] at h
        split at h
        · rename_i hs
          obtain ⟨hs, _⟩ := hs
          simp only [Option.some.injEq, Prod.mk.injEq] at h
          obtain ⟨rfl, rfl⟩ := h
          generalize hvs : (parts.toList.map fun p => copd p.2).map (opd ρ) = vs at *
          have hvl : vs.length = len := by
            rw [← hvs]
            have := congrArg List.length hseq
            simpa using this
          obtain ⟨c, hzc, rfl⟩ := run_zeroT (w := w) hz
          have hmem := sized_mem hs
          have hps := parts_seq len parts.toList 0 (by rw [hseq, List.range_eq_range'])
          -- the parts, with their values
          have hlist : (parts.toList.map fun p => (p.1, opd ρ (copd p.2), a.eval p.2)).map (fun p => (p.1 * sz, sz, p.2.1)) = (vs.zipIdx 0).map fun p => (p.2 * sz, sz, p.1) := by
            rw [← hvs]
            conv => lhs; rw [hps]
            simp only [List.map_map, List.zipIdx_map, Function.comp_def]
            rfl
          have hparts : pv.toList = (parts.toList.map fun p => (p.1, opd ρ (copd p.2), a.eval p.2)).map fun p => (p.1, p.2.2) := by subst hpv; simp
          have hvr : ∀ p ∈ (parts.toList.map fun p => (p.1, opd ρ (copd p.2), a.eval p.2)), VR G μ p.2.1 p.2.2 := by
            intro p hp
            obtain ⟨q, _, rfl⟩ := List.mem_map.1 hp
            exact opd_sound hT q.2
          generalize hzs : ((Array.range (len * sz)).map (fun i => (if len * sz = 0 then #[] else c.cells)[i % (if len * sz = 0 then #[] else c.cells).size]!)) = zs
          have hzsl : zs.size = len * sz := by rw [← hzs]; simp
          have hseq2 := setParts_seq sz vs 0 [] (List.replicate (len * sz) .any) (by simp) (by simp [hvl]) hmem
          simp only [List.nil_append] at hseq2
          rw [← hlist] at hseq2
          obtain ⟨ws, hw, hcw⟩ := fill_sound (fun i => some (i * sz, sz)) _ (vs.flatMap acells) _ zs (CR.any (len * sz) zs hzsl.symm) hvr (fun p hp => rfl) (by
            simp only [List.map_map, Function.comp_def, Option.getD_some] at hseq2 ⊢; exact hseq2)
          rw [← hparts] at hw
          have hwsz : ws.size = len * sz := by rw [← hcw.1, flat_len sz vs (fun x hx => (hmem x hx).1), hvl]
          have hrun : (do pure (.value (← Instr.buildSlice t len pv)) : Sem Next).run P w = .ok (.value (.slice (some ⟨w.heap.size, 0, none⟩) len len)) { w with heap := w.heap.push (.cells ws e (0, 0)) } := by
            have hlim' : ¬ (len * sz > 2 ^ 24) := by omega
            by_cases h0 : len * sz = 0
            · simp only [h0, if_true] at hzs
              simp [Instr.buildSlice, run_underlying hu, run_sizeT hsz, h0]
              simp [h0] at hzs
              subst hzs
              simp [hw, newRow, newObj, Sem.run]
            · simp only [h0, if_false] at hzs
              simp [Instr.buildSlice, run_underlying hu, run_sizeT hsz, h0, hlim', hzc]
              rw [hzs, hw]
              simp [newRow]
          refine Step.fresh (vec := true) (gr := false) (ty := e) (C := ws) hH hn hrun rfl ⟨rfl, rfl, rfl⟩ (fun _ => rfl) (fun i hi => ⟨(hmem _ (by rw [List.getD_eq_getElem?_getD, List.getElem?_eq_getElem hi]; exact List.getElem_mem hi)).1, fun j hj => ?_⟩) fun μ' hμ' => ?_
          · have hlt : i * sz + j < len * sz := by
              have : (i + 1) * sz ≤ len * sz := Nat.mul_le_mul_right _ (by omega)
              rw [Nat.add_mul] at this; omega
            have hlt' : i * sz + j < ws.size := by omega
            have hcv := hcw.2 (i * sz + j) (by rw [hcw.1]; omega)
            rw [flat_get sz vs i j (fun x hx => (hmem x hx).1) hi hj, Array.getD_eq_getD_getElem?] at hcv
            exact ⟨ws[i * sz + j], by simp [hlt'], by simpa [hlt'] using hcv⟩
          · exact .sl _ _ _ _ _ hμ' rfl (by simp) rfl fun _ => ⟨len, by simp [hvl], by omega, by simp [hwsz]⟩
        · cases h
      · simp [aev] at h
    · simp [aev] at h
  · simp [aev] at h

theorem aev_makeSlice (hT : TR G μ ρ a.tmps) (hH : HR P G μ H w) (hn : μ n = none) (t e : TypeId) (x y : Operand) (z : AVal) (b sz : Nat) (o : Oper) (ho : o.op = .makeSlice t x y)
    (hu : P.underlying t = some (.slice e)) (hz : zeroT P e = some z) (hb : bytesT P e = some b) (hsz : sizeT P e = some sz) (hzl : sz = (acells z).length) (hpos : 0 < sz)
    (h : aev (.makeSlice z b (copd x) (copd y)) ρ H n = some (v, Δ)) : Step P G μ H n (execOp a.eval o) w v Δ := by
  have hex : execOp a.eval o = (do pure (.value (← Instr.makeSlice t (a.eval x) (a.eval y)))) := by simp only [execOp, ho]
  rw [hex]
  simp only [aev] at h
  split at h
  · rename_i l c hl hc
    split at h
    · rename_i hcond
      obtain ⟨h0, h1, h2, h3, hany⟩ := hcond
      simp only [Option.some.injEq, Prod.mk.injEq] at h
      obtain ⟨rfl, rfl⟩ := h
      have hlv := (hl ▸ opd_sound hT x).inv_int
      have hcv := (hc ▸ opd_sound hT y).inv_int
      obtain ⟨zc, hzc, rfl⟩ := run_zeroT (w := w) hz
      have hCR := CR.of_VR (cval_sound G μ 3 zc) hany
      have hzs : zc.cells.size = sz := by rw [← hCR.1, hzl]
      obtain ⟨i, hi, hbi⟩ := Option.map_eq_some_iff.1 hb
      have hii : i.size = sz := by
        simp only [sizeT, hi, Option.map_some, Option.some.injEq] at hsz; exact hsz
      have hiz : i.zero = some zc := by
        simp only [zeroValue, typeInfo] at hzc
        cases hz0 : i.zero with
        | none => simp [hi, hz0, unsupported, Sem.run] at hzc
        | some q => simp [hi, hz0] at hzc; rw [hzc]
      have hbytes : (i.bytes : Int) * c ≤ 281474976710656 := by rw [hbi, Int.mul_comm]; omega
      have hrun := run_make (P := P) w t e i zc hu hi hiz .i64 .i64 l c h0 h1 hbytes (by omega)
      have hrun' : (do pure (.value (← Instr.makeSlice t (a.eval x) (a.eval y))) : Sem Next).run P w = .ok (.value (.slice (some ⟨w.heap.size, 0, none⟩) l.toNat c.toNat)) (w.alloc (.cells (madeCells zc.cells (c.toNat * i.size)) e)) := by
        rw [hlv, hcv]; simp [hrun]
      rw [hii] at hrun'
      have hsize := size_madeCells zc.cells (c.toNat * sz)
      refine Step.fresh (vec := true) (gr := false) (ty := e) (C := madeCells zc.cells (c.toNat * sz)) hH hn hrun' rfl ⟨rfl, rfl, rfl⟩ (fun _ => rfl) (fun k hk => ?_) fun μ' hμ' => ?_
      · have hk' : k < l.toNat := by simpa using hk
        have hg : (List.replicate l.toNat (cval 3 zc)).getD k .any = cval 3 zc := by simp [List.getD_eq_getElem?_getD, List.getElem?_replicate, hk']
        rw [hg]
        refine ⟨rfl, fun j hj => ?_⟩
        rw [← hzl] at hj
        rw [← hzl]
        have hlt : k * sz + j < c.toNat * sz := by
          have : (k + 1) * sz ≤ c.toNat * sz := Nat.mul_le_mul_right _ (by omega)
          rw [Nat.add_mul] at this; omega
        have hmod : (k * sz + j) % zc.cells.size = j := by rw [hzs, Nat.add_comm, Nat.add_mul_mod_self_right, Nat.mod_eq_of_lt hj]
        have hj' : j < zc.cells.size := by omega
        refine ⟨zc.cells[j], ?_, ?_⟩
        · unfold madeCells
          simp only [Array.getElem?_map, Array.getElem?_range, hlt, if_true, Option.map_some, hmod]
          simp [hj']
        · have := hCR.2 j (by omega)
          rw [Array.getD_eq_getD_getElem?] at this
          simpa [hj'] using this
      · rw [← hzl] at hμ'
        refine .sl _ _ _ _ _ hμ' rfl (by simp) rfl fun _ => ⟨c.toNat, by simp, by omega, ?_⟩
        rw [hsize]; simp
    · cases h
  · cases h
end Go.Sx
