/- 'aev' is sound: append, whole. -/
import Derived.Test.YtnfnjolpojofcabSxOps9
import Derived.Laws.AppendOwn
namespace Go.Sx
open Go

variable {P : Program} {G : Ctx} {μ : Mu} {H : Heap} {n : Nat} {w : World} {ρ : List AVal} {a : Act} {v : AVal} {Δ : List (Nat × Row)}

section
variable {T : Array TypeId} {t u e e' : TypeId} {i : TypeInfo} {z : Value} {ty : TypeId}

theorem run_app_fits (h0 : T[0]? = some t) (h1 : T[1]? = some u) (ht : P.underlying t = some (.slice e)) (hu : P.underlying u = some (.slice e')) (hi : P.info? e = some i)
    (ad : Option Addr) (sLen sCap m : Nat) (x : Value) (hx : ∃ ad' k, x = .slice ad' m k) (ws : Array Value) (hf : (Builtin.firstCells i.size m x).run P w = .ok ws w) (hfit : sLen + m ≤ sCap) (w' : World)
    (hst : match ad with | some b => (storeCells (b.add (sLen * i.size)) ws.toList).run P w = .ok () w' | none => w' = w) :
    (Builtin.append_ T ty #[.slice ad sLen sCap, x]).run P w = .ok (.slice ad (sLen + m) sCap) w' := by
  obtain ⟨ad', k, rfl⟩ := hx
  cases ad with
  | none =>
    subst hst
    simp [Builtin.append_, h0, h1, run_underlying ht, run_underlying hu, sizeOf, typeInfo, hi, Builtin.lenOf, hfit, hf]
  | some b =>
    simp only at hst
    simp [Builtin.append_, h0, h1, run_underlying ht, run_underlying hu, sizeOf, typeInfo, hi, Builtin.lenOf, hfit, hf, hst]

theorem run_app_grow (h0 : T[0]? = some t) (h1 : T[1]? = some u) (ht : P.underlying t = some (.slice e)) (hu : P.underlying u = some (.slice e')) (hi : P.info? e = some i) (hz : i.zero = some z)
    (ad : Option Addr) (sLen sCap m : Nat) (x : Value) (hx : ∃ ad' k, x = .slice ad' m k) (ws os : Array Value) (hf : ∀ w', w'.heap = w.heap → (Builtin.firstCells i.size m x).run P w' = .ok ws w')
    (ho : ∀ w', w'.heap = w.heap → (Builtin.firstCells i.size sLen (.slice ad sLen sCap)).run P w' = .ok os w') (hg : sCap < sLen + m) (hb : 0 < i.bytes) (hfit : (sLen + m) * i.bytes ≤ 17592186044416) :
    (Builtin.append_ T ty #[.slice ad sLen sCap, x]).run P w = .ok (.slice (some ⟨w.heap.size, 0, none⟩) (sLen + m) (grownCap w (sLen + m) sCap e))
      (w.drew.alloc (.cells (os ++ ws ++ Builtin.zeroCells z.cells (grownCap w (sLen + m) sCap e - (sLen + m))) e)) := by
  obtain ⟨ad', k, rfl⟩ := hx
  have hn : ¬ (sLen + m ≤ sCap) := by omega
  have hbig : (sLen + m) * 1 ≤ (sLen + m) * i.bytes := Nat.mul_le_mul_left _ hb
  have h63' : ¬ (9223372036854775807 < ((sLen : Int) + (m : Int))) := by omega
  have h48 := growslice_fits (old := sCap) (bytes := i.bytes) hg (by omega)
  have h48' : ¬ (281474976710656 < Builtin.nextslicecap (sLen + m) sCap * i.bytes) := by omega
  have hf' := hf w.drew rfl
  have ho' := ho w.drew rfl
  simp [Builtin.append_, h0, h1, run_underlying ht, run_underlying hu, sizeOf, typeInfo, zeroValue, hi, hz, Builtin.lenOf, hn, h48', Question.forced, hf', ho', newRow, grownCap]
  exact fun hh => absurd hh h63'
end

theorem aev_append (hT : TR G μ ρ a.tmps) (hH : HR P G μ H w) (hn : μ n = none) (c : Call) (s x : Operand) (t u e e' : TypeId) (sz b : Nat) (ag : Bool) (o : Oper) (ho : o.op = .call c) (hb : c.callee = .builtin .append)
    (hc : c.args.toList = [s, x]) (h0 : c.argTypes[0]? = some t) (h1 : c.argTypes[1]? = some u) (ht : P.underlying t = some (.slice e)) (hu : P.underlying u = some (.slice e')) (hsz : sizeT P e = some sz) (hby : bytesT P e = some b)
    (z : AVal) (hz : zeroT P e = some z) (hzl : (acells z).length = sz) (hza : z.isAny = false) (hpos : 0 < sz) (hbpos : 0 < b)
    (h : aev (.append sz b ag (copd s) (copd x)) ρ H n = some (v, Δ)) : Step P G μ H n (execOp a.eval o) w v Δ := by
  have hargs : c.args = #[s, x] := by
    have := congrArg List.toArray hc
    simpa using this
  have hex : execOp a.eval o = (do let r ← Builtin.append_ c.argTypes o.type #[a.eval s, a.eval x]; pure (.value r)) := by
    simp [execOp, ho, resolve, hb, hargs, invoke, builtin]
  rw [hex]
  obtain ⟨i, hi, hisz⟩ := Option.map_eq_some_iff.1 hsz
  have hib : i.bytes = b := by simpa [bytesT, hi] using hby
  obtain ⟨zv, hiz, hzsz⟩ : ∃ zv, i.zero = some zv ∧ zv.cells.size = sz := by
    simp only [zeroT, hi, Option.bind_some, Option.map_eq_some_iff] at hz
    obtain ⟨zv, h2, rfl⟩ := hz
    exact ⟨zv, h2, by rw [← (CR.of_VR (cval_sound G μ 3 zv) hza).1, hzl]⟩
  simp only [aev] at h
  split at h
  · cases h
  · rename_i ys hys
    split at h
    · cases h
    · rename_i hsized
      have hsized : sizedAll sz ys = true := by simpa using hsized
      have hmem := sized_mem hsized
      obtain ⟨hxs, ws, hws, hwrun⟩ := elems_run hH hys (fun y hy => (hmem y hy).1) (opd_sound hT x)
      have hwl : ws.size = ys.length * sz := by rw [← hws.1, flat_len sz ys fun y hy => (hmem y hy).1]
      have hrun : ∀ r w', (Builtin.append_ c.argTypes o.type #[a.eval s, a.eval x]).run P w = .ok r w' → (do let r ← Builtin.append_ c.argTypes o.type #[a.eval s, a.eval x]; pure (.value r) : Sem Next).run P w = .ok (.value r) w' := fun r w' hr => by simp [hr]
      have hs := opd_sound hT s
      split at h
      · rename_i hsn
        rw [hsn] at hs
        obtain ⟨cs, hcs⟩ : ∃ cs, a.eval s = cs := ⟨_, rfl⟩
        rw [hcs] at hs hrun ⊢
        cases hs
        split at h
        · rename_i hy0
          obtain ⟨rfl, rfl⟩ := some_nil h
          subst hy0
          have := run_app_fits (w := w) (ty := o.type) h0 h1 ht hu hi none 0 0 0 (a.eval x) hxs ws (by rw [hisz]; exact hwrun w rfl) (by omega) w rfl
          exact Step.pure hH (hrun _ _ this) .nilsl
        · rename_i hy0
          split at h
          · rename_i hbd
            simp only [Option.some.injEq, Prod.mk.injEq] at h
            obtain ⟨rfl, rfl⟩ := h
            have hyp : 0 < ys.length := by
              rcases ys with _ | ⟨_, _⟩
              · exact absurd rfl hy0
              · simp
            have := run_app_grow (w := w) (ty := o.type) h0 h1 ht hu hi hiz none 0 0 ys.length (a.eval x) hxs ws #[] (fun w' hw => by rw [hisz]; exact hwrun w' hw) (fun w' hw => by simp [Builtin.firstCells]) (by omega) (by omega) (by rw [hib, Nat.zero_add]; omega)
            simp only [Nat.zero_add] at this
            have hcap := grownCap_ge w ys.length 0 e
            generalize hC : (#[] ++ ws ++ Builtin.zeroCells zv.cells (grownCap w ys.length 0 e - ys.length)) = C' at this
            have hC'sz : C'.size = grownCap w ys.length 0 e * sz := by
              rw [← hC]
              simp only [Array.size_append, Array.size_empty, size_zeroCells, hwl, hzsz, Nat.zero_add]
              rw [← Nat.add_mul]; congr 1; omega
            refine Step.fresh (vec := true) (gr := false) (ty := e) (C := C') hH hn (hrun _ _ this) rfl ⟨rfl, rfl, rfl⟩ (fun _ => rfl) (fun k hk => ⟨(hmem _ (by rw [List.getD_eq_getElem?_getD, List.getElem?_eq_getElem hk]; exact List.getElem_mem hk)).1, fun j hj => ?_⟩) fun μ' hμ' => ?_
            · have hlt : k * sz + j < ys.length * sz := by
                have : (k + 1) * sz ≤ ys.length * sz := Nat.mul_le_mul_right _ (by omega)
                rw [Nat.add_mul] at this; omega
              have hlt' : k * sz + j < ws.size := by omega
              have hcv := hws.2 (k * sz + j) (by rw [hws.1]; omega)
              rw [flat_get sz ys k j (fun x hx => (hmem x hx).1) hk hj, Array.getD_eq_getD_getElem?] at hcv
              refine ⟨ws[k * sz + j], ?_, by simpa [hlt'] using hcv⟩
              rw [← hC]
              simp only [Array.empty_append]
              rw [Array.getElem?_append_left hlt']
              simp [hlt']
            · exact .sl _ _ _ _ _ hμ' rfl (by simp) rfl fun _ => ⟨_, by simp, hcap, by simp [hC'sz]⟩
          · cases h
      · rename_i r len hsn
        rw [hsn] at hs
        split at h
        · rename_i g sz' es hc'
          split at h
          · rename_i hcond
            obtain ⟨rfl, rfl, hbd⟩ := hcond
            simp only [Option.some.injEq, Prod.mk.injEq] at h
            obtain ⟨rfl, rfl⟩ := h
            obtain ⟨p, C, tyc, k1, k2, k3, k4, k5, k6, k7, k8, k9⟩ := hH.own hc'
            obtain ⟨p', k1', hvec, hL, hcv⟩ := hs.inv_sl
            rw [k1] at k1'; cases k1'
            obtain ⟨cap, hcs, hcap, hroom⟩ := hcv (.inr (by omega))
            simp only [Nat.zero_mul, Nat.add_zero, Nat.zero_add] at hcs hroom
            have hszE : ∀ y ∈ es, (acells y).length = sz := fun y hy => by
              obtain ⟨q, hq, rfl⟩ := List.mem_iff_getElem.1 hy
              have := (k9 q hq).1
              simpa [List.getD_eq_getElem?_getD, hq] using this
            have hleL : es.length ≤ p.len := by omega
            by_cases hfit : es.length + ys.length ≤ cap
            · -- it fits
              have hmul : (es.length + ys.length) * sz ≤ cap * sz := Nat.mul_le_mul_right _ hfit
              rw [Nat.add_mul] at hmul
              have hones : ∀ q ∈ ws.toList, q.oneCell' = true := by
                intro q hq
                obtain ⟨kk, hk, rfl⟩ := List.mem_iff_getElem.1 hq
                have hk' : kk < ws.size := by simpa using hk
                have hfl := flat_len sz ys fun y hy => (hmem y hy).1
                obtain ⟨e1, e2, e3, e4⟩ := flat_get' sz ys kk (fun y hy => (hmem y hy).1) (by omega)
                have hv1 := hws.2 kk (by omega)
                rw [e1, Array.getD_eq_getD_getElem?] at hv1
                have hy := (hmem (ys.getD (kk / sz) .any) (by rw [List.getD_eq_getElem?_getD, List.getElem?_eq_getElem e2]; exact List.getElem_mem e2))
                have hone : ((acells (ys.getD (kk / sz) .any)).getD (kk % sz) .any).one = true := by
                  have h5 : kk % sz < (acells (ys.getD (kk / sz) .any)).length := by omega
                  have := List.all_eq_true.1 hy.2 _ (List.getElem_mem h5)
                  rw [List.getD_eq_getElem?_getD, List.getElem?_eq_getElem h5]; exact this
                have := hv1.one hone
                simpa [hk'] using this
              rw [k4] at hroom
              have hst := run_storeCells_at (P := P) p.blk (p.off + es.length * sz) tyc ws.toList 0 C w k7 (by simp; omega) hones
              generalize hC' : (List.take (p.off + es.length * sz + 0) C.toList ++ ws.toList ++ List.drop (p.off + es.length * sz + 0 + ws.toList.length) C.toList).toArray = C' at hst
              have hget : ∀ q, C'[q]? = if p.off + es.length * sz ≤ q ∧ q < p.off + es.length * sz + ws.size then ws[q - (p.off + es.length * sz)]? else C[q]? := by
                intro q
                rw [← hC']
                simp only [Nat.add_zero, List.getElem?_toArray, Array.length_toList]
                have hsp := splice_get C.toList ws.toList (p.off + es.length * sz) q (by simp; omega)
                simpa using hsp
              have hC'sz : C'.size = C.size := by rw [← hC']; simp; omega
              have hrun2 := run_app_fits (w := w) (ty := o.type) h0 h1 ht hu hi (some ⟨p.blk, p.off, none⟩) es.length cap ys.length (a.eval x) hxs ws (by rw [hisz]; exact hwrun w rfl) hfit (w.setRow p.blk C') (by show (storeCells ((⟨p.blk, p.off, none⟩ : Addr).add (es.length * i.size)) ws.toList).run P w = _; rw [hisz, add_at]; exact hst)
              rw [← hcs] at hrun2
              let p' : Place := if ys.length = 0 then p else { p with len := es.length + ys.length, grown := true }
              have hp'1 : p'.blk = p.blk ∧ p'.off = p.off ∧ p'.sz = p.sz ∧ p'.size = p.size ∧ p'.vec = true ∧ p'.len = es.length + ys.length := by
                simp only [p']; split <;> simp [hvec]; omega
              obtain ⟨q1, q2, q3, q4, q5, q6⟩ := hp'1
              let μ' : Mu := fun s => if s = r then some p' else μ s
              have hle : μ.le μ' := fun s q hq => by
                by_cases hsr : s = r
                · subst hsr
                  rw [k1] at hq; cases hq
                  refine ⟨p', by simp [μ'], ?_⟩
                  simp only [p']
                  split
                  · exact .inl rfl
                  · exact .inr ⟨hvec, hvec, rfl, by simp; omega⟩
                · exact ⟨q, by simp [μ', hsr, hq], .inl rfl⟩
              refine ⟨_, _, w.setRow p.blk C', μ', hrun _ _ hrun2, .inl rfl, ?_, hle, ?_, ?_⟩
              · refine .sl _ _ _ p' _ (by simp [μ']) q5 (by omega) rfl fun _ => ⟨cap, by simp [q1, q2], hfit, ?_⟩
                rw [q2, q3, q4, k4]; simpa using hroom
              · refine hH.put (p := p') ⟨rfl, rfl, rfl⟩ hle (fun s hs => by simp [μ', hs]) (by simp [μ']) (by simp) (by rw [q1]; simpa using k3) (by rw [q1]; exact k2) (fun bb _ hb => ?_) (fun s y q hs hy hq => ?_) ?_
                · rw [q1] at hb; simp [World.setRow, Array.getElem?_modify, Ne.symm hb]
                · rw [q1]; exact hH.apart s r y _ q p hy (cellsAt_row hc') hq k1 hs
                · refine ⟨by rw [q3, k4], by rw [q6]; simp, by simp, C', tyc, by rw [q1]; exact setRow_heap w _ _ _ _ _ k7, by rw [hC'sz, q4, k8], fun k hk => ?_⟩
                  rw [q2]
                  by_cases hkl : k < es.length
                  · have hgd : (es ++ ys).getD k .any = es.getD k .any := by
                      rw [List.getD_eq_getElem?_getD, List.getElem?_append_left hkl, List.getD_eq_getElem?_getD]
                    rw [hgd]
                    refine ⟨(k9 k hkl).1, fun j hj => ?_⟩
                    obtain ⟨cc, hc1, hc2⟩ := (k9 k hkl).2 j hj
                    refine ⟨cc, ?_, hc2.mono hle⟩
                    have : (k + 1) * sz ≤ es.length * sz := Nat.mul_le_mul_right _ hkl
                    rw [Nat.add_mul] at this
                    rw [hget, if_neg (by omega), hc1]
                  · have hk' : k - es.length < ys.length := by simp at hk; omega
                    have hgd : (es ++ ys).getD k .any = ys.getD (k - es.length) .any := by
                      rw [List.getD_eq_getElem?_getD, List.getElem?_append_right (by omega), List.getD_eq_getElem?_getD]
                    rw [hgd]
                    refine ⟨(hmem _ (by rw [List.getD_eq_getElem?_getD, List.getElem?_eq_getElem hk']; exact List.getElem_mem hk')).1, fun j hj => ?_⟩
                    have hlt : (k - es.length) * sz + j < ys.length * sz := by
                      have : (k - es.length + 1) * sz ≤ ys.length * sz := Nat.mul_le_mul_right _ (by omega)
                      rw [Nat.add_mul] at this; omega
                    have hlt' : (k - es.length) * sz + j < ws.size := by omega
                    have hcv := hws.2 ((k - es.length) * sz + j) (by rw [hws.1]; omega)
                    rw [flat_get sz ys _ j (fun x hx => (hmem x hx).1) hk' hj, Array.getD_eq_getD_getElem?] at hcv
                    refine ⟨ws[(k - es.length) * sz + j], ?_, VR.mono hle (by simpa [hlt'] using hcv)⟩
                    have e5 : k * sz = es.length * sz + (k - es.length) * sz := by rw [← Nat.add_mul]; congr 1; omega
                    rw [hget, if_pos (by omega)]
                    have e6 : p.off + k * sz + j - (p.off + es.length * sz) = (k - es.length) * sz + j := by omega
                    rw [e6]; simp [hlt']
              · intro s hs
                by_cases hsr : s = r
                · subst hsr; left; simp [k1]
                · left; simpa [μ', hsr] using hs
            · -- a new array
              have hel : elemsOf H (.sl r 0 es.length) = some es := by
                simp [elemsOf, hc']
              obtain ⟨_, os, hos, horun⟩ := elems_run (c := a.eval s) hH hel hszE hs
              have hol : os.size = es.length * sz := by rw [← hos.1, flat_len sz es hszE]
              have hrun2 := run_app_grow (w := w) (ty := o.type) h0 h1 ht hu hi hiz (some ⟨p.blk, p.off, none⟩) es.length cap ys.length (a.eval x) hxs ws os (fun w' hw => by rw [hisz]; exact hwrun w' hw)
                (fun w' hw => by rw [hisz, ← hcs]; exact horun w' hw) (by omega) (by omega) (by rw [hib]; omega)
              rw [← hcs] at hrun2
              have hcapg := grownCap_ge w (es.length + ys.length) cap e
              generalize hC : os ++ ws ++ Builtin.zeroCells zv.cells (grownCap w (es.length + ys.length) cap e - (es.length + ys.length)) = C' at hrun2
              have hC'sz : C'.size = grownCap w (es.length + ys.length) cap e * sz := by
                rw [← hC]
                simp only [Array.size_append, size_zeroCells, hwl, hol, hzsz]
                rw [← Nat.add_mul, ← Nat.add_mul]; congr 1; omega
              let p' : Place := ⟨w.heap.size, 0, sz, es.length + ys.length, C'.size, true, true⟩
              let μ' : Mu := fun s => if s = r then some p' else μ s
              have hle : μ.le μ' := fun s q hq => by
                by_cases hsr : s = r
                · subst hsr
                  rw [k1] at hq; cases hq
                  exact ⟨p', by simp [μ'], .inr ⟨hvec, rfl, rfl, by simp [p']; omega⟩⟩
                · exact ⟨q, by simp [μ', hsr, hq], .inl rfl⟩
              refine ⟨_, _, _, μ', hrun _ _ hrun2, .inl rfl, ?_, hle, ?_, ?_⟩
              · exact .sl _ _ _ p' _ (by simp [μ']) rfl (by simp [p']) rfl fun _ => ⟨_, by simp [p'], hcapg, by simp [p', hC'sz]⟩
              · refine hH.put (p := p') ⟨rfl, rfl, rfl⟩ hle (fun s hs => by simp [μ', hs]) (by simp [μ']) (by simp) (by simp [p']) (fun hk => ?_) (fun bb hb _ => ?_) (fun s y q hs hy hq => ?_) ?_
                · have := (hH.kept _ hk).1; simp [p'] at this
                · show (w.heap.push (.cells C' e (0, 0)))[bb]? = w.heap[bb]?
                  rw [Array.getElem?_push_lt hb, Array.getElem?_eq_getElem hb]
                · obtain ⟨q', m1, _, m3, _⟩ := hH.row s y hy
                  rw [hq] at m1; cases m1
                  show q.blk ≠ w.heap.size
                  omega
                · refine ⟨rfl, by simp [p'], by simp, C', e, by show (w.heap.push (.cells C' e (0, 0)))[w.heap.size]? = _; simp, rfl, fun k hk => ?_⟩
                  by_cases hkl : k < es.length
                  · have hgd : (es ++ ys).getD k .any = es.getD k .any := by
                      rw [List.getD_eq_getElem?_getD, List.getElem?_append_left hkl, List.getD_eq_getElem?_getD]
                    rw [hgd]
                    refine ⟨(k9 k hkl).1, fun j hj => ?_⟩
                    have hlt : k * sz + j < es.length * sz := by
                      have : (k + 1) * sz ≤ es.length * sz := Nat.mul_le_mul_right _ hkl
                      rw [Nat.add_mul] at this; omega
                    have hlt' : k * sz + j < os.size := by omega
                    have hcv := hos.2 (k * sz + j) (by rw [hos.1]; omega)
                    rw [flat_get sz es k j hszE hkl hj, Array.getD_eq_getD_getElem?] at hcv
                    refine ⟨os[k * sz + j], ?_, VR.mono hle (by simpa [hlt'] using hcv)⟩
                    rw [← hC]
                    simp only [p', Nat.zero_add]
                    rw [Array.getElem?_append_left (by simp; omega), Array.getElem?_append_left hlt']
                    simp [hlt']
                  · have hk' : k - es.length < ys.length := by simp at hk; omega
                    have hgd : (es ++ ys).getD k .any = ys.getD (k - es.length) .any := by
                      rw [List.getD_eq_getElem?_getD, List.getElem?_append_right (by omega), List.getD_eq_getElem?_getD]
                    rw [hgd]
                    refine ⟨(hmem _ (by rw [List.getD_eq_getElem?_getD, List.getElem?_eq_getElem hk']; exact List.getElem_mem hk')).1, fun j hj => ?_⟩
                    have hlt : (k - es.length) * sz + j < ys.length * sz := by
                      have : (k - es.length + 1) * sz ≤ ys.length * sz := Nat.mul_le_mul_right _ (by omega)
                      rw [Nat.add_mul] at this; omega
                    have hlt' : (k - es.length) * sz + j < ws.size := by omega
                    have hcv := hws.2 ((k - es.length) * sz + j) (by rw [hws.1]; omega)
                    rw [flat_get sz ys _ j (fun x hx => (hmem x hx).1) hk' hj, Array.getD_eq_getD_getElem?] at hcv
                    refine ⟨ws[(k - es.length) * sz + j], ?_, VR.mono hle (by simpa [hlt'] using hcv)⟩
                    have e5 : k * sz = es.length * sz + (k - es.length) * sz := by rw [← Nat.add_mul]; congr 1; omega
                    rw [← hC]
                    simp only [p', Nat.zero_add]
                    rw [Array.getElem?_append_left (by simp; omega), Array.getElem?_append_right (by omega)]
                    have e6 : k * sz + j - os.size = (k - es.length) * sz + j := by omega
                    rw [e6]; simp [hlt']
              · intro s hs
                by_cases hsr : s = r
                · subst hsr; left; simp [k1]
                · left; simpa [μ', hsr] using hs
          · cases h
        · cases h
      · cases h
end Go.Sx
