/- A part of the proof: the abstract semantics. -/
import Derived.Test.YtmpocglkfgfpbaaSxB
import Derived.Laws.AppendOwn
import Derived.Laws.MakeOwn
import Derived.Laws.IdiomStrings
import Derived.Laws.BytesArg
import Derived.Lib.Bytealg
set_option linter.unusedSimpArgs false
set_option linter.unusedVariables false
/- 'aev' is sound: append, whole. -/
namespace Go.Sx
open Go

variable {P : Program} {G : Ctx} {μ : Mu} {H : Heap} {n : Nat} {w : World} {ρ : List AVal} {a : Act} {v : AVal} {Δ : List (Nat × Row)}

section
variable {T : Array TypeId} {t u e e' : TypeId} {i : TypeInfo} {z : Value} {ty : TypeId}

def Srcs (P : Program) (u : TypeId) (x : Value) (m : Nat) : Prop :=
  (∃ e ad k, P.underlying u = some (.slice e) ∧ x = .slice ad m k) ∨ ∃ s : ByteArray, P.underlying u = some .string ∧ x = .string s ∧ s.size = m

theorem run_app_fits (h0 : T[0]? = some t) (h1 : T[1]? = some u) (ht : P.underlying t = some (.slice e)) (hi : P.info? e = some i)
    (ad : Option Addr) (sLen sCap m : Nat) (x : Value) (hx : Srcs P u x m) (ws : Array Value) (hf : (Builtin.firstCells i.size m x).run P w = .ok ws w) (hfit : sLen + m ≤ sCap) (w' : World)
    (hst : match ad with | some b => (storeCells (b.add (sLen * i.size)) ws.toList).run P w = .ok () w' | none => w' = w) :
    (Builtin.append_ T ty #[.slice ad sLen sCap, x]).run P w = .ok (.slice ad (sLen + m) sCap) w' := by
  rcases hx with ⟨e', ad', k, hu, rfl⟩ | ⟨s, hu, rfl, rfl⟩ <;> cases ad with
  | none =>
    subst hst
    simp [Builtin.append_, h0, h1, run_underlying ht, run_underlying hu, sizeOf, typeInfo, hi, Builtin.lenOf, hfit, hf]
  | some b =>
    simp only at hst
    simp [Builtin.append_, h0, h1, run_underlying ht, run_underlying hu, sizeOf, typeInfo, hi, Builtin.lenOf, hfit, hf, hst]

theorem run_app_grow (h0 : T[0]? = some t) (h1 : T[1]? = some u) (ht : P.underlying t = some (.slice e)) (hi : P.info? e = some i) (hz : i.zero = some z)
    (ad : Option Addr) (sLen sCap m : Nat) (x : Value) (hx : Srcs P u x m) (ws os : Array Value) (hf : ∀ w', w'.heap = w.heap → (Builtin.firstCells i.size m x).run P w' = .ok ws w')
    (ho : ∀ w', w'.heap = w.heap → (Builtin.firstCells i.size sLen (.slice ad sLen sCap)).run P w' = .ok os w') (hg : sCap < sLen + m) (hb : 0 < i.bytes) (hfit : (sLen + m) * i.bytes ≤ 17592186044416) :
    (Builtin.append_ T ty #[.slice ad sLen sCap, x]).run P w = .ok (.slice (some ⟨w.heap.size, 0, none⟩) (sLen + m) (grownCap w (sLen + m) sCap e))
      (w.drew.alloc (.cells (os ++ ws ++ Builtin.zeroCells z.cells (grownCap w (sLen + m) sCap e - (sLen + m))) e)) := by
  have hn : ¬ (sLen + m ≤ sCap) := by omega
  have hbig : (sLen + m) * 1 ≤ (sLen + m) * i.bytes := Nat.mul_le_mul_left _ hb
  have h63' : ¬ (9223372036854775807 < ((sLen : Int) + (m : Int))) := by omega
  have h48 := growslice_fits (old := sCap) (bytes := i.bytes) hg (by omega)
  have h48' : ¬ (281474976710656 < Builtin.nextslicecap (sLen + m) sCap * i.bytes) := by omega
  have hf' := hf w.drew rfl
  have ho' := ho w.drew rfl
  rcases hx with ⟨e', ad', k, hu, rfl⟩ | ⟨s, hu, rfl, rfl⟩
  · simp [Builtin.append_, h0, h1, run_underlying ht, run_underlying hu, sizeOf, typeInfo, zeroValue, hi, hz, Builtin.lenOf, hn, h48', Question.forced, hf', ho', newRow, grownCap]
    exact fun hh => absurd hh h63'
  · simp [Builtin.append_, h0, h1, run_underlying ht, run_underlying hu, sizeOf, typeInfo, zeroValue, hi, hz, Builtin.lenOf, hn, h48', Question.forced, hf', ho', newRow, grownCap]
    exact fun hh => absurd hh h63'
end

theorem append_core (hT : TR G μ ρ a.tmps) (hH : HR P G μ H w) (hn : μ n = none) (c : Call) (s x : Operand) (t u e : TypeId) (sz b : Nat) (o : Oper) (ho : o.op = .call c) (hb : c.callee = .builtin .append)
    (hc : c.args.toList = [s, x]) (h0 : c.argTypes[0]? = some t) (h1 : c.argTypes[1]? = some u) (ht : P.underlying t = some (.slice e)) (hsz : sizeT P e = some sz) (hby : bytesT P e = some b)
    (z : AVal) (hz : zeroT P e = some z) (hzl : (acells z).length = sz) (hza : z.isAny = false) (hpos : 0 < sz) (hbpos : 0 < b)
    (ys : List AVal) (hmem : ∀ y ∈ ys, (acells y).length = sz ∧ (acells y).all AVal.one = true) (hxs : Srcs P u (a.eval x) ys.length) (ws : Array Value) (hws : CR G μ (ys.flatMap acells) ws)
    (hwrun : ∀ w' : World, w'.heap = w.heap → (Builtin.firstCells sz ys.length (a.eval x)).run P w' = .ok ws w')
    (h : (match opd ρ ((copd P) s) with
       | .nilsl => if ys = [] then some (.nilsl, []) else if ys.length * b ≤ 2 ^ 44 then some (.sl n 0 ys.length, [(n, .cells true sz ys)]) else none
       | .sl r 0 len => match H.cellsAt r with
         | some (_, sz', es) => if sz = sz' ∧ len = es.length ∧ (len + ys.length) * b ≤ 2 ^ 44 then
             some (.sl r 0 (len + ys.length), [(r, .cells true sz (es ++ ys))]) else none
         | none => none
       | _ => none) = some (v, Δ)) : Step P G μ H n (execOp a.eval o) w v Δ := by
  have hargs : c.args = #[s, x] := by
    have := congrArg List.toArray hc
    simpa using this
  have hex : execOp a.eval o = (do let r ← Builtin.append_ c.argTypes o.type #[a.eval s, a.eval x]; pure (.value r)) := by
    simp [execOp, ho, resolve, hb, hargs, invoke, builtin]
  rw [hex]
  obtain ⟨i, hi, hisz⟩ := Option.map_eq_some_iff.1 hsz
  have hib : i.bytes = b := by simpa [bytesT, hi] using hby
  obtain ⟨zv, hiz, hzsz⟩ : ∃ zv, i.zero = some zv ∧ zv.cells.size = sz := by
    simp only [zeroT, hi, Option.bind_some, Option.map_eq_some_iff] at hz
    obtain ⟨zv, h2, rfl⟩ := hz
    exact ⟨zv, h2, by rw [← (CR.of_VR (cval_sound G μ 3 zv) hza).1, hzl]⟩
  have hwl : ws.size = ys.length * sz := by rw [← hws.1, flat_len sz ys fun y hy => (hmem y hy).1]
  have hrun : ∀ r w', (Builtin.append_ c.argTypes o.type #[a.eval s, a.eval x]).run P w = .ok r w' → (do let r ← Builtin.append_ c.argTypes o.type #[a.eval s, a.eval x]; pure (.value r) : Sem Next).run P w = .ok (.value r) w' := fun r w' hr => by simp [hr]
  have hs := opd_sound hH.glob hT s
  split at h
  · rename_i hsn
    rw [hsn] at hs
    obtain ⟨cs, hcs⟩ : ∃ cs, a.eval s = cs := ⟨_, rfl⟩
    rw [hcs] at hs hrun ⊢
    cases hs
    split at h
    · rename_i hy0
      obtain ⟨rfl, rfl⟩ := some_nil h
      subst hy0
      have := run_app_fits (w := w) (ty := o.type) h0 h1 ht hi none 0 0 0 (a.eval x) hxs ws (by rw [hisz]; exact hwrun w rfl) (by omega) w rfl
      exact Step.pure hH (hrun _ _ this) .nilsl
    · rename_i hy0
      split at h
      · rename_i hbd
        simp only [Option.some.injEq, Prod.mk.injEq] at h
        obtain ⟨rfl, rfl⟩ := h
        have hyp : 0 < ys.length := by
          rcases ys with _ | ⟨_, _⟩
          · exact absurd rfl hy0
          · simp
        have := run_app_grow (w := w) (ty := o.type) h0 h1 ht hi hiz none 0 0 ys.length (a.eval x) hxs ws #[] (fun w' hw => by rw [hisz]; exact hwrun w' hw) (fun w' hw => by simp [Builtin.firstCells]) (by omega) (by omega) (by rw [hib, Nat.zero_add]; omega)
        simp only [Nat.zero_add] at this
        have hcap := grownCap_ge w ys.length 0 e
        generalize hC : (#[] ++ ws ++ Builtin.zeroCells zv.cells (grownCap w ys.length 0 e - ys.length)) = C' at this
        have hC'sz : C'.size = grownCap w ys.length 0 e * sz := by
          rw [← hC]
          simp only [Array.size_append, Array.size_empty, size_zeroCells, hwl, hzsz, Nat.zero_add]
          rw [← Nat.add_mul]; congr 1; omega
        refine Step.fresh (gr := false) (ty := e) (C := C') hH hn (hrun _ _ this) rfl ⟨rfl, rfl, rfl⟩ (fun _ => rfl) (fun k hk => ⟨(hmem _ (by rw [List.getD_eq_getElem?_getD, List.getElem?_eq_getElem hk]; exact List.getElem_mem hk)).1, fun j hj => ?_⟩) fun μ' hμ' => ?_
        · have hlt : k * sz + j < ys.length * sz := by
            have : (k + 1) * sz ≤ ys.length * sz := Nat.mul_le_mul_right _ (by omega)
            rw [Nat.add_mul] at this; omega
          have hlt' : k * sz + j < ws.size := by omega
          have hcv := hws.2 (k * sz + j) (by rw [hws.1]; omega)
          rw [flat_get sz ys k j (fun x hx => (hmem x hx).1) hk hj, Array.getD_eq_getD_getElem?] at hcv
          refine ⟨ws[k * sz + j], ?_, by simpa [hlt'] using hcv⟩
          rw [← hC]
          simp only [Array.empty_append]
          rw [Array.getElem?_append_left hlt']
          simp [hlt']
        · exact .sl _ _ _ _ _ hμ' rfl (by simp) rfl fun _ => ⟨_, by simp, hcap, by simp [hC'sz]⟩
      · cases h
  · rename_i r len hsn
    rw [hsn] at hs
    split at h
    · rename_i g sz' es hc'
      split at h
      · rename_i hcond
        obtain ⟨rfl, rfl, hbd⟩ := hcond
        simp only [Option.some.injEq, Prod.mk.injEq] at h
        obtain ⟨rfl, rfl⟩ := h
        obtain ⟨p, C, tyc, k1, k2, k3, k4, k5, k6, k7, k8, k9⟩ := hH.own hc'
        obtain ⟨p', k1', hvec, hL, hcv⟩ := hs.inv_sl
        rw [k1] at k1'; cases k1'
        obtain ⟨cap, hcs, hcap, hroom⟩ := hcv (.inr (by omega))
        simp only [Nat.zero_mul, Nat.add_zero, Nat.zero_add] at hcs hroom
        have hszE : ∀ y ∈ es, (acells y).length = sz := fun y hy => by
          obtain ⟨q, hq, rfl⟩ := List.mem_iff_getElem.1 hy
          have := (k9 q hq).1
          simpa [List.getD_eq_getElem?_getD, hq] using this
        have hleL : es.length ≤ p.len := by omega
        by_cases hfit : es.length + ys.length ≤ cap
        · -- it fits
          have hmul : (es.length + ys.length) * sz ≤ cap * sz := Nat.mul_le_mul_right _ hfit
          rw [Nat.add_mul] at hmul
          have hones : ∀ q ∈ ws.toList, q.oneCell' = true := by
            intro q hq
            obtain ⟨kk, hk, rfl⟩ := List.mem_iff_getElem.1 hq
            have hk' : kk < ws.size := by simpa using hk
            have hfl := flat_len sz ys fun y hy => (hmem y hy).1
            obtain ⟨e1, e2, e3, e4⟩ := flat_get' sz ys kk (fun y hy => (hmem y hy).1) (by omega)
            have hv1 := hws.2 kk (by omega)
            rw [e1, Array.getD_eq_getD_getElem?] at hv1
            have hy := (hmem (ys.getD (kk / sz) .any) (by rw [List.getD_eq_getElem?_getD, List.getElem?_eq_getElem e2]; exact List.getElem_mem e2))
            have hone : ((acells (ys.getD (kk / sz) .any)).getD (kk % sz) .any).one = true := by
              have h5 : kk % sz < (acells (ys.getD (kk / sz) .any)).length := by omega
              have := List.all_eq_true.1 hy.2 _ (List.getElem_mem h5)
              rw [List.getD_eq_getElem?_getD, List.getElem?_eq_getElem h5]; exact this
            have := hv1.one hone
            simpa [hk'] using this
          rw [k4] at hroom
          have hst := run_storeCells_mk (P := P) p.blk (p.off + es.length * sz) tyc.1 tyc.2.1 ws.toList 0 C w k7 (fun j hj => tyc.2.out (by omega)) (by simp; omega) hones
          generalize hC' : (List.take (p.off + es.length * sz + 0) C.toList ++ ws.toList ++ List.drop (p.off + es.length * sz + 0 + ws.toList.length) C.toList).toArray = C' at hst
          have hget : ∀ q, C'[q]? = if p.off + es.length * sz ≤ q ∧ q < p.off + es.length * sz + ws.size then ws[q - (p.off + es.length * sz)]? else C[q]? := by
            intro q
            rw [← hC']
            simp only [Nat.add_zero, List.getElem?_toArray, Array.length_toList]
            have hsp := splice_get C.toList ws.toList (p.off + es.length * sz) q (by simp; omega)
            simpa using hsp
          have hC'sz : C'.size = C.size := by rw [← hC']; simp; omega
          have hrun2 := run_app_fits (w := w) (ty := o.type) h0 h1 ht hi (some ⟨p.blk, p.off, none⟩) es.length cap ys.length (a.eval x) hxs ws (by rw [hisz]; exact hwrun w rfl) hfit (w.setRow p.blk C') (by show (storeCells ((⟨p.blk, p.off, none⟩ : Addr).add (es.length * i.size)) ws.toList).run P w = _; rw [hisz, add_at]; exact hst)
          rw [← hcs] at hrun2
          let p' : Place := if ys.length = 0 then p else { p with len := es.length + ys.length, grown := true }
          have hp'1 : p'.blk = p.blk ∧ p'.off = p.off ∧ p'.sz = p.sz ∧ p'.size = p.size ∧ p'.vec = true ∧ p'.len = es.length + ys.length := by
            simp only [p']; split <;> simp [hvec]; omega
          obtain ⟨q1, q2, q3, q4, q5, q6⟩ := hp'1
          let μ' : Mu := fun s => if s = r then some p' else μ s
          have hle : μ.le μ' := fun s q hq => by
            by_cases hsr : s = r
            · subst hsr
              rw [k1] at hq; cases hq
              refine ⟨p', by simp [μ'], ?_⟩
              simp only [p']
              split
              · exact .inl rfl
              · exact .inr ⟨hvec, hvec, rfl, by simp; omega⟩
            · exact ⟨q, by simp [μ', hsr, hq], .inl rfl⟩
          refine ⟨_, _, w.setRow p.blk C', μ', hrun _ _ hrun2, .inl rfl, ?_, hle, ?_, ?_⟩
          · refine .sl _ _ _ p' _ (by simp [μ']) q5 (by omega) rfl fun _ => ⟨cap, by simp [q1, q2], hfit, ?_⟩
            rw [q2, q3, q4, k4]; simpa using hroom
          · refine hH.put (p := p') ⟨rfl, rfl, rfl⟩ hle (fun s hs => by simp [μ', hs]) (by simp [μ']) (by simp) (by rw [q1]; simpa using k3) (by rw [q1]; exact k2) (fun bb _ hb => ?_) (fun s y q hs hy hq hnd => ?_) ?_
            · rw [q1] at hb; simp [World.setRow, Array.getElem?_modify, Ne.symm hb]
            · rw [q1]; exact hH.apart s r y _ q p hy (cellsAt_row hc') hq k1 hs hnd nofun
            · refine ⟨by rw [q3, k4], by rw [q6]; simp, by simp, C', (tyc.1, ⟨tyc.2.1, tyc.2.2.1.imp id fun h => by omega, q5⟩), by rw [q1]; exact setRow_heap w _ _ _ _ _ k7, by rw [hC'sz, q4, k8], fun k hk => ?_⟩
              rw [q2]
              by_cases hkl : k < es.length
              · have hgd : (es ++ ys).getD k .any = es.getD k .any := by
                  rw [List.getD_eq_getElem?_getD, List.getElem?_append_left hkl, List.getD_eq_getElem?_getD]
                rw [hgd]
                refine ⟨(k9 k hkl).1, fun j hj => ?_⟩
                obtain ⟨cc, hc1, hc2⟩ := (k9 k hkl).2 j hj
                refine ⟨cc, ?_, hc2.mono hle⟩
                have : (k + 1) * sz ≤ es.length * sz := Nat.mul_le_mul_right _ hkl
                rw [Nat.add_mul] at this
                rw [hget, if_neg (by omega), hc1]
              · have hk' : k - es.length < ys.length := by simp at hk; omega
                have hgd : (es ++ ys).getD k .any = ys.getD (k - es.length) .any := by
                  rw [List.getD_eq_getElem?_getD, List.getElem?_append_right (by omega), List.getD_eq_getElem?_getD]
                rw [hgd]
                refine ⟨(hmem _ (by rw [List.getD_eq_getElem?_getD, List.getElem?_eq_getElem hk']; exact List.getElem_mem hk')).1, fun j hj => ?_⟩
                have hlt : (k - es.length) * sz + j < ys.length * sz := by
                  have : (k - es.length + 1) * sz ≤ ys.length * sz := Nat.mul_le_mul_right _ (by omega)
                  rw [Nat.add_mul] at this; omega
                have hlt' : (k - es.length) * sz + j < ws.size := by omega
                have hcv := hws.2 ((k - es.length) * sz + j) (by rw [hws.1]; omega)
                rw [flat_get sz ys _ j (fun x hx => (hmem x hx).1) hk' hj, Array.getD_eq_getD_getElem?] at hcv
                refine ⟨ws[(k - es.length) * sz + j], ?_, VR.mono hle (by simpa [hlt'] using hcv)⟩
                have e5 : k * sz = es.length * sz + (k - es.length) * sz := by rw [← Nat.add_mul]; congr 1; omega
                rw [hget, if_pos (by omega)]
                have e6 : p.off + k * sz + j - (p.off + es.length * sz) = (k - es.length) * sz + j := by omega
                rw [e6]; simp [hlt']
          · intro s hs
            by_cases hsr : s = r
            · subst hsr; left; simp [k1]
            · left; simpa [μ', hsr] using hs
        · -- a new array
          have hel : elemsOf H (.sl r 0 es.length) = some es := by
            simp [elemsOf, hc']
          obtain ⟨_, os, hos, horun⟩ := elems_run (c := a.eval s) hH hel hszE hs
          have hol : os.size = es.length * sz := by rw [← hos.1, flat_len sz es hszE]
          have hrun2 := run_app_grow (w := w) (ty := o.type) h0 h1 ht hi hiz (some ⟨p.blk, p.off, none⟩) es.length cap ys.length (a.eval x) hxs ws os (fun w' hw => by rw [hisz]; exact hwrun w' hw)
            (fun w' hw => by rw [hisz, ← hcs]; exact horun w' hw) (by omega) (by omega) (by rw [hib]; omega)
          rw [← hcs] at hrun2
          have hcapg := grownCap_ge w (es.length + ys.length) cap e
          generalize hC : os ++ ws ++ Builtin.zeroCells zv.cells (grownCap w (es.length + ys.length) cap e - (es.length + ys.length)) = C' at hrun2
          have hC'sz : C'.size = grownCap w (es.length + ys.length) cap e * sz := by
            rw [← hC]
            simp only [Array.size_append, size_zeroCells, hwl, hol, hzsz]
            rw [← Nat.add_mul, ← Nat.add_mul]; congr 1; omega
          let p' : Place := ⟨w.heap.size, 0, sz, es.length + ys.length, C'.size, true, true⟩
          let μ' : Mu := fun s => if s = r then some p' else μ s
          have hle : μ.le μ' := fun s q hq => by
            by_cases hsr : s = r
            · subst hsr
              rw [k1] at hq; cases hq
              exact ⟨p', by simp [μ'], .inr ⟨hvec, rfl, rfl, by simp [p']; omega⟩⟩
            · exact ⟨q, by simp [μ', hsr, hq], .inl rfl⟩
          refine ⟨_, _, _, μ', hrun _ _ hrun2, .inl rfl, ?_, hle, ?_, ?_⟩
          · exact .sl _ _ _ p' _ (by simp [μ']) rfl (by simp [p']) rfl fun _ => ⟨_, by simp [p'], hcapg, by simp [p', hC'sz]⟩
          · refine hH.put (p := p') ⟨rfl, rfl, rfl⟩ hle (fun s hs => by simp [μ', hs]) (by simp [μ']) (by simp) (by simp [p']) (fun hk => ?_) (fun bb hb _ => ?_) (fun s y q hs hy hq hnd => ?_) ?_
            · have := (hH.kept _ hk).1; simp [p'] at this
            · show (w.heap.push (.cells C' e (0, 0)))[bb]? = w.heap[bb]?
              rw [Array.getElem?_push_lt hb, Array.getElem?_eq_getElem hb]
            · obtain ⟨q', m1, _, m3, _⟩ := hH.row s y hy hnd
              rw [hq] at m1; cases m1
              show q.blk ≠ w.heap.size
              omega
            · refine ⟨rfl, by simp [p'], by simp, C', (e, Mark.no _), by show (w.heap.push (.cells C' e (0, 0)))[w.heap.size]? = _; simp; rfl, rfl, fun k hk => ?_⟩
              by_cases hkl : k < es.length
              · have hgd : (es ++ ys).getD k .any = es.getD k .any := by
                  rw [List.getD_eq_getElem?_getD, List.getElem?_append_left hkl, List.getD_eq_getElem?_getD]
                rw [hgd]
                refine ⟨(k9 k hkl).1, fun j hj => ?_⟩
                have hlt : k * sz + j < es.length * sz := by
                  have : (k + 1) * sz ≤ es.length * sz := Nat.mul_le_mul_right _ hkl
                  rw [Nat.add_mul] at this; omega
                have hlt' : k * sz + j < os.size := by omega
                have hcv := hos.2 (k * sz + j) (by rw [hos.1]; omega)
                rw [flat_get sz es k j hszE hkl hj, Array.getD_eq_getD_getElem?] at hcv
                refine ⟨os[k * sz + j], ?_, VR.mono hle (by simpa [hlt'] using hcv)⟩
                rw [← hC]
                simp only [p', Nat.zero_add]
                rw [Array.getElem?_append_left (by simp; omega), Array.getElem?_append_left hlt']
                simp [hlt']
              · have hk' : k - es.length < ys.length := by simp at hk; omega
                have hgd : (es ++ ys).getD k .any = ys.getD (k - es.length) .any := by
                  rw [List.getD_eq_getElem?_getD, List.getElem?_append_right (by omega), List.getD_eq_getElem?_getD]
                rw [hgd]
                refine ⟨(hmem _ (by rw [List.getD_eq_getElem?_getD, List.getElem?_eq_getElem hk']; exact List.getElem_mem hk')).1, fun j hj => ?_⟩
                have hlt : (k - es.length) * sz + j < ys.length * sz := by
                  have : (k - es.length + 1) * sz ≤ ys.length * sz := Nat.mul_le_mul_right _ (by omega)
                  rw [Nat.add_mul] at this; omega
                have hlt' : (k - es.length) * sz + j < ws.size := by omega
                have hcv := hws.2 ((k - es.length) * sz + j) (by rw [hws.1]; omega)
                rw [flat_get sz ys _ j (fun x hx => (hmem x hx).1) hk' hj, Array.getD_eq_getD_getElem?] at hcv
                refine ⟨ws[(k - es.length) * sz + j], ?_, VR.mono hle (by simpa [hlt'] using hcv)⟩
                have e5 : k * sz = es.length * sz + (k - es.length) * sz := by rw [← Nat.add_mul]; congr 1; omega
                rw [← hC]
                simp only [p', Nat.zero_add]
                rw [Array.getElem?_append_left (by simp; omega), Array.getElem?_append_right (by omega)]
                have e6 : k * sz + j - os.size = (k - es.length) * sz + j := by omega
                rw [e6]; simp [hlt']
          · intro s hs
            by_cases hsr : s = r
            · subst hsr; left; simp [k1]
            · left; simpa [μ', hsr] using hs
      · cases h
    · cases h
  · cases h

theorem aev_append (hT : TR G μ ρ a.tmps) (hH : HR P G μ H w) (hn : μ n = none) (c : Call) (s x : Operand) (t u e e' : TypeId) (sz b : Nat) (ag : Bool) (o : Oper) (ho : o.op = .call c) (hb : c.callee = .builtin .append)
    (hc : c.args.toList = [s, x]) (h0 : c.argTypes[0]? = some t) (h1 : c.argTypes[1]? = some u) (ht : P.underlying t = some (.slice e)) (hu : P.underlying u = some (.slice e')) (hsz : sizeT P e = some sz) (hby : bytesT P e = some b)
    (z : AVal) (hz : zeroT P e = some z) (hzl : (acells z).length = sz) (hza : z.isAny = false) (hpos : 0 < sz) (hbpos : 0 < b)
    (h : aev (.append sz b ag ((copd P) s) ((copd P) x)) ρ H n = some (v, Δ)) : Step P G μ H n (execOp a.eval o) w v Δ := by
  simp only [aev] at h
  split at h
  · cases h
  · rename_i ys hys
    split at h
    · cases h
    · rename_i hsized
      have hsized : sizedAll sz ys = true := by simpa using hsized
      have hmem := sized_mem hsized
      obtain ⟨⟨ad, k, hxs⟩, ws, hws, hwrun⟩ := elems_run hH hys (fun y hy => (hmem y hy).1) (opd_sound hH.glob hT x)
      exact append_core hT hH hn c s x t u e sz b o ho hb hc h0 h1 ht hsz hby z hz hzl hza hpos hbpos ys hmem (.inl ⟨e', ad, k, hu, hxs⟩) ws hws hwrun h

theorem byte_size (s : ByteArray) : s.size = s.data.toList.length := by rw [Array.length_toList]; rfl

theorem aev_appendStr (hT : TR G μ ρ a.tmps) (hH : HR P G μ H w) (hn : μ n = none) (c : Call) (s x : Operand) (t u e : TypeId) (o : Oper) (ho : o.op = .call c) (hb : c.callee = .builtin .append)
    (hc : c.args.toList = [s, x]) (h0 : c.argTypes[0]? = some t) (h1 : c.argTypes[1]? = some u) (ht : P.underlying t = some (.slice e)) (hu : P.underlying u = some .string) (hsz : sizeT P e = some 1) (hby : bytesT P e = some 1)
    (z : AVal) (hz : zeroT P e = some z) (hzl : (acells z).length = 1) (hza : z.isAny = false)
    (h : aev (.appendStr ((copd P) s) ((copd P) x)) ρ H n = some (v, Δ)) : Step P G μ H n (execOp a.eval o) w v Δ := by
  simp only [aev] at h
  split at h
  · rename_i l hx
    have hv := opd_sound hH.glob hT x
    rw [hx] at hv
    obtain ⟨b, hb1, hb2⟩ := hv.inv_str
    have hl : (l.map byteV).length = b.size := by rw [List.length_map, byte_size, hb2]
    refine append_core hT hH hn c s x t u e 1 1 o ho hb hc h0 h1 ht hsz hby z hz hzl hza (by omega) (by omega) (l.map byteV) (fun y hy => ?_) (.inr ⟨b, hu, hb1, hl.symm⟩) (b.data.map fun b => .int .u8 b.toNat) ?_ (fun w' _ => ?_) h
    · obtain ⟨q, _, rfl⟩ := List.mem_map.1 hy
      exact ⟨rfl, rfl⟩
    · have hf : ∀ l : List UInt8, (l.map byteV).flatMap acells = l.map byteV := by
        intro l
        induction l with
        | nil => rfl
        | cons x l ih => simp only [List.map_cons, List.flatMap_cons, ih]; rfl
      rw [hf]
      refine ⟨by rw [hl, Array.size_map]; rfl, fun i hi => ?_⟩
      have hi2 : i < l.length := by simpa using hi
      have hi3 : i < b.data.size := by rw [← Array.length_toList, hb2]; exact hi2
      have e1 : (l.map byteV).getD i .any = byteV l[i] := by simp [List.getD_eq_getElem?_getD, hi2]
      have e2 : (b.data.map fun b => Value.int .u8 (b.toNat : Int)).getD i undef = .int .u8 (b.data[i].toNat : Int) := by
        rw [Array.getD_eq_getD_getElem?, Array.getElem?_map, Array.getElem?_eq_getElem hi3]; rfl
      have e3 : b.data[i] = l[i] := by simp [← hb2]
      rw [e1, e2, e3]
      exact .int _ _
    · rw [hb1, hl]
      have : b.extract 0 b.size = b := by
        apply ByteArray.ext
        simp [ByteArray.data_extract]
      simp only [Builtin.firstCells, this]
      rfl
  · cases h
end Go.Sx
/- 'aev' is sound: cap of a nil slice, and append of a new slice of zeros to one. -/
namespace Go.Sx
open Go

variable {P : Program} {G : Ctx} {μ : Mu} {H : Heap} {n : Nat} {w : World} {ρ : List AVal} {a : Act} {v : AVal} {Δ : List (Nat × Row)}

theorem aev_cap (hT : TR G μ ρ a.tmps) (hH : HR P G μ H w) (c : Call) (x : Operand) (t : TypeId) (e : TypeId) (o : Oper) (ho : o.op = .call c) (hb : c.callee = .builtin .cap) (hc : c.args.toList = [x]) (ht : c.argTypes[0]? = some t)
    (hu : P.underlying t = some (.slice e)) (h : aev (.cap ((copd P) x)) ρ H n = some (v, Δ)) : Step P G μ H n (execOp a.eval o) w v Δ := by
  have hargs : c.args = #[x] := by
    have := congrArg List.toArray hc
    simpa using this
  have hex : execOp a.eval o = (do let r ← Builtin.cap_ c.argTypes o.type #[a.eval x]; pure (.value r)) := by
    simp [execOp, ho, resolve, hb, hargs, invoke, builtin]
  rw [hex]
  simp only [aev] at h
  split at h
  · rename_i hn
    obtain ⟨rfl, rfl⟩ := some_nil h
    have hx := opd_sound hH.glob hT x
    rw [hn] at hx
    obtain ⟨cx, hcx⟩ : ∃ cx, a.eval x = cx := ⟨_, rfl⟩
    rw [hcx] at hx ⊢
    cases hx
    refine Step.pure (cv := .int .i64 0) hH ?_ (.int _ _)
    simp [Builtin.cap_, ht, run_underlying hu, goInt]
  · cases h

section
variable {T : Array TypeId} {t u e : TypeId} {i : TypeInfo} {z : Value} {ty : TypeId} {kk : IntKind}
theorem run_app_zero (h0 : T[0]? = some t) (h1 : T[1]? = some u) (ht : P.underlying t = some (.slice e)) (hu : P.underlying u = some (.int kk)) (hi : P.info? e = some i) (hz : i.zero = some z)
    (m : Int) (hm : 0 < m) (hs : 0 < i.size) (hb : 0 < i.bytes) (hfit : m.toNat * i.bytes ≤ 17592186044416) :
    (Builtin.append_ T ty #[.slice none 0 0, .int .i64 m]).run P w = .ok (.slice (some ⟨w.heap.size, 0, none⟩) m.toNat (grownCap w m.toNat 0 e))
      (w.drew.alloc (.cells (Builtin.zeroCells z.cells m.toNat ++ Builtin.zeroCells z.cells (grownCap w m.toNat 0 e - m.toNat)) e)) := by
  obtain ⟨k, rfl⟩ : ∃ k : Nat, m = k := ⟨m.toNat, by omega⟩
  simp only [Int.toNat_natCast] at *
  have hk : 0 < k := by omega
  have hbig : k * 1 ≤ k * i.bytes := Nat.mul_le_mul_left _ hb
  have wl : IntKind.i64.wrap (k : Int) = k := by rw [IntKind.wrap_i64]; omega
  have hn : ¬ (k ≤ 0) := by omega
  have hneg : ¬ ((k : Int) < 0) := by omega
  have h63' : ¬ (9223372036854775807 < (k : Int)) := by omega
  have hb48 : ¬ (281474976710656 < (k : Int) * (i.bytes : Int)) := by
    have : (k : Int) * (i.bytes : Int) = ((k * i.bytes : Nat) : Int) := by push_cast; rfl
    omega
  have h48 := growslice_fits (old := 0) (bytes := i.bytes) hk (by omega)
  have h48' : ¬ (281474976710656 < Builtin.nextslicecap k 0 * i.bytes) := by omega
  have hks : ¬ (k * i.size = 0) := by
    have := Nat.mul_pos hk hs; omega
  simp [Builtin.append_, h0, h1, run_underlying ht, run_underlying hu, sizeOf, typeInfo, zeroValue, hi, hz, asInt, asIntOf, wl, hn, hneg, hb48, h48', hks, Question.forced, newRow, grownCap, Builtin.firstCells]
  rw [if_neg (by omega), if_neg h63']
end

theorem aev_appendN (hT : TR G μ ρ a.tmps) (hH : HR P G μ H w) (hn : μ n = none) (c : Call) (s x : Operand) (t u e : TypeId) (kk : IntKind) (sz b : Nat) (o : Oper) (ho : o.op = .call c) (hb : c.callee = .builtin .append)
    (hc : c.args.toList = [s, x]) (h0 : c.argTypes[0]? = some t) (h1 : c.argTypes[1]? = some u) (ht : P.underlying t = some (.slice e)) (hu : P.underlying u = some (.int kk)) (hsz : sizeT P e = some sz) (hby : bytesT P e = some b)
    (z : AVal) (hz : zeroT P e = some z) (hzl : (acells z).length = sz) (hza : z.isAny = false) (hpos : 0 < sz) (hbpos : 0 < b)
    (h : aev (.appendN sz b z ((copd P) s) ((copd P) x)) ρ H n = some (v, Δ)) : Step P G μ H n (execOp a.eval o) w v Δ := by
  have hargs : c.args = #[s, x] := by
    have := congrArg List.toArray hc
    simpa using this
  have hex : execOp a.eval o = (do let r ← Builtin.append_ c.argTypes o.type #[a.eval s, a.eval x]; pure (.value r)) := by
    simp [execOp, ho, resolve, hb, hargs, invoke, builtin]
  rw [hex]
  obtain ⟨i, hi, hisz⟩ := Option.map_eq_some_iff.1 hsz
  have hib : i.bytes = b := by simpa [bytesT, hi] using hby
  obtain ⟨zc, hiz, rfl⟩ : ∃ zv, i.zero = some zv ∧ cval 3 zv = z := by
    simp only [zeroT, hi, Option.bind_some, Option.map_eq_some_iff] at hz
    exact hz
  have hCR := CR.of_VR (cval_sound G μ 3 zc) hza
  have hzs : zc.cells.size = sz := by rw [← hCR.1, hzl]
  simp only [aev] at h
  split at h
  · rename_i m hsn hxm
    split at h
    · rename_i hcond
      obtain ⟨hm, hfit⟩ := hcond
      simp only [Option.some.injEq, Prod.mk.injEq] at h
      obtain ⟨rfl, rfl⟩ := h
      have hs := opd_sound hH.glob hT s
      have hx := opd_sound hH.glob hT x
      rw [hsn] at hs
      rw [hxm] at hx
      have hxv := hx.inv_int
      obtain ⟨cs, hcs⟩ : ∃ cs, a.eval s = cs := ⟨_, rfl⟩
      rw [hcs] at hs ⊢
      cases hs
      rw [hxv]
      have hrun := run_app_zero (w := w) (ty := o.type) h0 h1 ht hu hi hiz m hm (by omega) (by omega) (by rw [hib]; exact hfit)
      have hcap := grownCap_ge w m.toNat 0 e
      have hrun' : (do let r ← Builtin.append_ c.argTypes o.type #[.slice none 0 0, .int .i64 m]; pure (.value r) : Sem Next).run P w = .ok (.value (.slice (some ⟨w.heap.size, 0, none⟩) m.toNat (grownCap w m.toNat 0 e)))
          (w.drew.alloc (.cells (Builtin.zeroCells zc.cells m.toNat ++ Builtin.zeroCells zc.cells (grownCap w m.toNat 0 e - m.toNat)) e)) := by simp [hrun]
      refine Step.fresh (gr := false) (ty := e) (C := Builtin.zeroCells zc.cells m.toNat ++ Builtin.zeroCells zc.cells (grownCap w m.toNat 0 e - m.toNat)) hH hn hrun' rfl ⟨rfl, rfl, rfl⟩ (fun _ => rfl) (fun k hk => ?_) fun μ' hμ' => ?_
      · have hk' : k < m.toNat := by simpa using hk
        have hg : (List.replicate m.toNat (cval 3 zc)).getD k .any = cval 3 zc := by simp [List.getD_eq_getElem?_getD, List.getElem?_replicate, hk']
        rw [hg]
        refine ⟨hzl, fun j hj => ?_⟩
        have hlt : k * sz + j < m.toNat * sz := by
          have : (k + 1) * sz ≤ m.toNat * sz := Nat.mul_le_mul_right _ (by omega)
          rw [Nat.add_mul] at this; omega
        have hmod : (k * sz + j) % zc.cells.size = j := by rw [hzs, Nat.add_comm, Nat.add_mul_mod_self_right, Nat.mod_eq_of_lt hj]
        have hj' : j < zc.cells.size := by omega
        refine ⟨zc.cells[j], ?_, ?_⟩
        · rw [Array.getElem?_append_left (by rw [size_zeroCells, hzs]; exact hlt)]
          unfold Builtin.zeroCells
          have hlt2 : k * sz + j < m.toNat * zc.cells.size := by rw [hzs]; exact hlt
          simp only [Array.getElem?_map, Array.getElem?_range, hlt2, if_true, Option.map_some]
          rw [hmod]
          simp [hj']
        · have := hCR.2 j (by omega)
          rw [Array.getD_eq_getD_getElem?] at this
          simpa [hj'] using this
      · refine .sl _ _ _ _ _ hμ' rfl (by simp) rfl fun _ => ⟨grownCap w m.toNat 0 e, by simp, by omega, ?_⟩
        simp only [Array.size_append, size_zeroCells, hzs, Nat.zero_add]
        rw [← Nat.add_mul]
        refine Nat.le_of_eq ?_
        congr 1; omega
    · cases h
  · cases h
end Go.Sx
/- Maps whose keys are ints: what the model does with them. -/
namespace Go.Sx
open Go
variable {P : Program} {G : Ctx} {μ : Mu} {H : Heap} {n : Nat} {w : World}

theorem mfind_lt {m : Int} : ∀ {ks : List Int} {i j : Nat}, mfind m ks i = some j → i ≤ j ∧ j < i + ks.length
  | [], _, _, h => by simp [mfind] at h
  | k :: ks, i, j, h => by
    simp only [mfind] at h
    split at h
    · cases h; simp
    · have := mfind_lt h
      simp only [List.length_cons]; omega

theorem mfind_key {m : Int} : ∀ {ks : List Int} {i j : Nat}, mfind m ks i = some j → ks[j - i]? = some m
  | [], _, _, h => by simp [mfind] at h
  | k :: ks, i, j, h => by
    simp only [mfind] at h
    split at h
    · rename_i e; cases h; simp [e]
    · have h1 := mfind_key h
      have := (mfind_lt h).1
      rw [show j - i = (j - (i + 1)) + 1 by omega, List.getElem?_cons_succ]
      exact h1

theorem findNow_ints {d : IntKind} {kk : IntKind} {m : Int} : ∀ (es : List MapEntry) (ks : List Int) (i : Nat), es.length = ks.length → (∀ j, j < ks.length → ∃ e, es[j]? = some e ∧ e.key = .int kk (ks.getD j 0)) →
    (mfind m ks i = none → Instr.findNow (.int d) (.int kk m) es i = some none) ∧ (∀ j, mfind m ks i = some j → ∃ e, es[j - i]? = some e ∧ Instr.findNow (.int d) (.int kk m) es i = some (some (j, e.val)))
  | [], [], i, _, _ => ⟨fun _ => rfl, fun j h => by simp [mfind] at h⟩
  | [], _ :: _, _, h, _ => by simp at h
  | _ :: _, [], _, h, _ => by simp at h
  | e :: es, k :: ks, i, hl, hk => by
    obtain ⟨e', he, hke⟩ := hk 0 (by simp)
    simp only [List.getElem?_cons_zero, Option.some.injEq] at he
    subst he
    simp only [List.getD_cons_zero] at hke
    obtain ⟨h1, h2⟩ := findNow_ints (d := d) (kk := kk) (m := m) es ks (i + 1) (by simpa using hl) fun j hj => by
      obtain ⟨e', a, b⟩ := hk (j + 1) (by simpa using hj)
      exact ⟨e', by simpa using a, by simpa using b⟩
    simp only [mfind, Instr.findNow, Instr.sameNow, hke, if_true]
    by_cases c : m = k
    · subst c
      simp
    · have c' : (m == k) = false := by simpa using c
      simp only [c, if_false, c']
      refine ⟨h1, fun j hj => ?_⟩
      obtain ⟨e', a, b⟩ := h2 j hj
      have := (mfind_lt hj).1
      refine ⟨e', ?_, b⟩
      rw [← a, show j - i = (j - (i + 1)) + 1 by omega, List.getElem?_cons_succ]

theorem run_keyN {k : TypeId} {d kk : IntKind} {m : Int} (b : Bool) (N : Nat) (hk : P.underlying k = some (.int d)) : (Instr.checkKey b (N + 1) k (.int kk m)).run P w = .ok () w := by
  simp [Instr.checkKey, run_underlying hk]
theorem run_key {k : TypeId} {d kk : IntKind} {m : Int} (b : Bool) (hk : P.underlying k = some (.int d)) : (Instr.checkKey b 10000 k (.int kk m)).run P w = .ok () w := run_keyN b 9999 hk
theorem run_find {k : TypeId} {d kk : IntKind} {m : Int} (hk : P.underlying k = some (.int d)) (es : List MapEntry) (ks : List Int) (hl : es.length = ks.length) (h : ∀ j, j < ks.length → ∃ e, es[j]? = some e ∧ e.key = .int kk (ks.getD j 0)) :
    (mfind m ks 0 = none → (Instr.findKey k (.int kk m) es).run P w = .ok none w) ∧ (∀ j, mfind m ks 0 = some j → ∃ e, es[j]? = some e ∧ (Instr.findKey k (.int kk m) es).run P w = .ok (some (j, e.val)) w) := by
  obtain ⟨h1, h2⟩ := findNow_ints (d := d) (kk := kk) (m := m) es ks 0 hl h
  refine ⟨fun hn => by simp [Instr.findKey, run_underlying hk, h1 hn], fun j hj => ?_⟩
  obtain ⟨e, a, b⟩ := h2 j hj
  exact ⟨e, by simpa using a, by simp [Instr.findKey, run_underlying hk, b]⟩

theorem run_makeMap (t : TypeId) : (Instr.makeMap t none).run P w = .ok (.map (some w.heap.size)) (w.alloc (.map #[] 0)) := by
  simp [Instr.makeMap]

theorem HR.mapRow {r : Nat} {kk : IntKind} {ks : List Int} {vs : List AVal} (hH : HR P G μ H w) (h : H[r]? = some (some (.mapr kk ks vs))) : ∃ p es ck, μ r = some p ∧ ¬ G.keep p.blk ∧ p.blk < w.heap.size ∧ p.vec = false ∧ vs.length = ks.length ∧ w.heap[p.blk]? = some (.map es ck) ∧ es.toList.length = ks.length ∧
    (∀ i, i < ks.length → ∃ e, es.toList[i]? = some e ∧ e.key = .int kk (ks.getD i 0)) ∧ ∀ i e, i < ks.length → es.toList[i]? = some e → VR G μ (vs.getD i .any) e.val := by
  obtain ⟨p, h1, h2, h3, h4, h5, es, ck, h6, h7, h8⟩ := hH.row r _ h nofun
  refine ⟨p, es, ck, h1, h2, h3, h4, h5, h6, by simpa using h7, fun i hi => ?_, fun i e hi he => ?_⟩
  · obtain ⟨e, k1, k2, _⟩ := h8 i hi
    exact ⟨e, by simpa using k1, k2⟩
  · obtain ⟨e', k1, _, k3⟩ := h8 i hi
    have : e' = e := by
      rw [← Array.getElem?_toList, he] at k1
      exact (Option.some.inj k1).symm
    rw [← this]; exact k3
theorem run_getMap {b : Nat} {es : Array MapEntry} {ck : Nat} (h : w.heap[b]? = some (.map es ck)) : (getObj b).run P w = .ok (.map es ck) w := by
  simp [getObj, Sem.run, h]
theorem run_lookup {t k e : TypeId} {d kk : IntKind} {m : Int} {b : Nat} {es : Array MapEntry} {ck : Nat} {ks : List Int} (ok : Bool) (ht : P.underlying t = some (.map k e)) (hk : P.underlying k = some (.int d)) (hb : w.heap[b]? = some (.map es ck))
    (hl : es.toList.length = ks.length) (h : ∀ i, i < ks.length → ∃ e, es.toList[i]? = some e ∧ e.key = .int kk (ks.getD i 0)) :
    (∀ zc, (zeroValue e).run P w = .ok zc w → mfind m ks 0 = none → (Instr.lookup t (.map (some b)) (.int kk m) ok).run P w = .ok (if ok then .tuple #[zc, .bool false] else zc) w) ∧
    (∀ j, mfind m ks 0 = some j → ∃ en, es.toList[j]? = some en ∧ (Instr.lookup t (.map (some b)) (.int kk m) ok).run P w = .ok (if ok then .tuple #[en.val, .bool true] else en.val) w) := by
  obtain ⟨h1, h2⟩ := run_find (P := P) (w := w) (kk := kk) (m := m) hk es.toList ks hl h
  refine ⟨fun zc hz hn => ?_, fun j hj => ?_⟩
  · simp [Instr.lookup, run_underlying ht, run_getMap hb, run_key _ hk, h1 hn, hz]
  · obtain ⟨en, a, b'⟩ := h2 j hj
    exact ⟨en, a, by simp [Instr.lookup, run_underlying ht, run_getMap hb, run_key _ hk, b']⟩

theorem sameBits_int (N : Nat) (kk : IntKind) (a : Int) : Instr.sameBits N (.int kk a) (.int kk a) = true := by
  cases N <;> simp [Instr.sameBits]
theorem run_stays (kk : IntKind) (a : Int) : (Instr.keyThatStays (.int kk a) (.int kk a)).run P w = .ok (.int kk a) w := by
  unfold Instr.keyThatStays
  rw [sameBits_int]; rfl
theorem run_update {t k e : TypeId} {d kk : IntKind} {m : Int} {b : Nat} {es : Array MapEntry} {ck : Nat} {ks : List Int} {y : Value} (ht : P.underlying t = some (.map k e)) (hk : P.underlying k = some (.int d)) (hb : w.heap[b]? = some (.map es ck))
    (hl : es.toList.length = ks.length) (h : ∀ i, i < ks.length → ∃ e, es.toList[i]? = some e ∧ e.key = .int kk (ks.getD i 0)) :
    (mfind m ks 0 = none → (Instr.mapUpdate t (.map (some b)) (.int kk m) y).run P w = (setObj b (.map (es.push { key := .int kk m, val := y, born := ck }) (ck + 1))).run P w) ∧
    (∀ j, mfind m ks 0 = some j → (Instr.mapUpdate t (.map (some b)) (.int kk m) y).run P w = (setObj b (.map (es.modify j fun e => { e with key := .int kk m, val := y }) ck)).run P w) := by
  obtain ⟨h1, h2⟩ := run_find (P := P) (w := w) (kk := kk) (m := m) hk es.toList ks hl h
  refine ⟨fun hn => ?_, fun j hj => ?_⟩
  · simp [Instr.mapUpdate, run_underlying ht, run_getMap hb, run_key _ hk, h1 hn]
  · obtain ⟨en, a, b'⟩ := h2 j hj
    have hlt := (mfind_lt hj).2
    obtain ⟨en', a', hke⟩ := h j (by omega)
    rw [a] at a'; cases a'
    have hm : ks[j]?.getD 0 = m := by have := mfind_key hj; simp only [Nat.sub_zero] at this; rw [this]; rfl
    rw [List.getD_eq_getElem?_getD, hm] at hke
    have a2 : es[j]? = some en := by simpa using a
    simp [Instr.mapUpdate, run_underlying ht, run_getMap hb, run_key _ hk, b', a2, hke, run_stays]
def setMap (w : World) (b : Nat) (o : Obj) : World := { w with heap := w.heap.setIfInBounds b o }
theorem run_setObj {b : Nat} {es : Array MapEntry} {ck : Nat} (o : Obj) (h : w.heap[b]? = some (.map es ck)) : (setObj b o).run P w = .ok () (setMap w b o) := by
  simp [setObj, Sem.run, h, setMap]
theorem HR.putMap {r : Nat} {kk : IntKind} {ks ks' : List Int} {vs vs' : List AVal} {p : Place} {es' : Array MapEntry} {ck' : Nat} (hH : HR P G μ H w) (h : H[r]? = some (some (.mapr kk ks vs))) (hp : μ r = some p) (hs : es'.size = ks'.length) (hl : vs'.length = ks'.length)
    (hx : ∀ i, i < ks'.length → ∃ e, es'[i]? = some e ∧ e.key = .int kk (ks'.getD i 0) ∧ VR G μ (vs'.getD i .any) e.val) : HR P G μ (H.put r (.mapr kk ks' vs')) (setMap w p.blk (.map es' ck')) := by
  obtain ⟨q, es, ck, h1, h2, h3, h4, -, h6, -⟩ := hH.mapRow h
  rw [hp] at h1; cases h1
  refine hH.put (p := p) ⟨rfl, rfl, rfl⟩ (Mu.le_refl _) (fun _ _ => rfl) hp (by simp [setMap]) (by simpa [setMap] using h3) h2 (fun b _ hb => ?_) (fun s y q hs hy hq hnd => ?_) ?_
  · simp [setMap, Array.getElem?_setIfInBounds, Ne.symm hb]
  · exact hH.apart s r y _ q p hy h hq hp hs hnd nofun
  · exact ⟨h4, hl, es', ck', by simp [setMap, Array.getElem?_setIfInBounds, h3], hs, hx⟩
theorem HR.newMap (hH : HR P G μ H w) (hn : μ n = none) (kk : IntKind) : Step P G μ H n (do let r ← newObj (.map #[] 0); pure (Next.value (.map (some r)))) w (.mp n) [(n, .mapr kk [] [])] := by
  let p : Place := ⟨w.heap.size, 0, 0, 0, 0, false, false⟩
  let μ' : Mu := fun r => if r = n then some p else μ r
  have hle : μ.le μ' := fun r q hq => ⟨q, by
    have : r ≠ n := fun e => by rw [e, hn] at hq; cases hq
    simp [μ', this, hq], .inl rfl⟩
  have hp : μ' n = some p := by simp [μ']
  have eh : (w.alloc (.map #[] 0)).heap = w.heap.push (.map #[] 0) := rfl
  refine ⟨.value (.map (some w.heap.size)), _, w.alloc (.map #[] 0), μ', by simp, .inl rfl, .mp _ p hp rfl, hle, ?_, fun r hr => ?_⟩
  · refine hH.put (p := p) ⟨rfl, rfl, rfl⟩ hle (fun s hs => by simp [μ', hs]) hp (by rw [eh]; simp) (by rw [eh]; simp [p]) (fun hk => ?_) (fun b hb _ => ?_) (fun s y q hs hy hq hnd => ?_) ?_
    · have := (hH.kept _ hk).1
      simp [p] at this
    · rw [eh, Array.getElem?_push_lt hb]
      simp [hb]
    · obtain ⟨q', h1, _, h3, _⟩ := hH.row s y hy hnd
      rw [hq] at h1; cases h1
      simp only [p]
      omega
    · exact ⟨rfl, rfl, #[], 0, by rw [eh]; simp [p], rfl, fun i hi => by simp at hi⟩
  · by_cases h : r = n
    · exact .inr ⟨h, by simp only [Heap.puts, Heap.len_put]; omega⟩
    · left; simpa [μ', h] using hr
end Go.Sx
/- 'aev' is sound: maps whose keys are ints. -/
namespace Go.Sx
open Go
variable {P : Program} {G : Ctx} {μ : Mu} {H : Heap} {n : Nat} {w : World} {ρ : List AVal} {a : Act} {v : AVal} {Δ : List (Nat × Row)}

theorem mapT_spec {t k e : TypeId} {kk : IntKind} (h : mapT P t = some (k, e, kk)) : P.underlying t = some (.map k e) ∧ P.underlying k = some (.int kk) := by
  unfold mapT at h
  split at h
  · rename_i k' e' ht
    split at h
    · rename_i kk' hk
      simp only [Option.some.injEq, Prod.mk.injEq] at h
      obtain ⟨rfl, rfl, rfl⟩ := h
      exact ⟨ht, hk⟩
    · cases h
  · cases h
theorem mapAt_row {r : Nat} {x : IntKind × List Int × List AVal} (h : H.mapAt r = some x) : H[r]? = some (some (.mapr x.1 x.2.1 x.2.2)) := by
  unfold Heap.mapAt at h
  split at h
  · rename_i he; cases h; exact he
  · cases h
theorem aev_makeMap (hH : HR P G μ H w) (hn : μ n = none) (t : TypeId) (kk : IntKind) (o : Oper) (ho : o.op = .makeMap t none) (h : aev (.makeMap kk) ρ H n = some (v, Δ)) : Step P G μ H n (execOp a.eval o) w v Δ := by
  have hex : execOp a.eval o = (do let r ← newObj (.map #[] 0); pure (Next.value (.map (some r)))) := by
    simp [execOp, ho, Instr.makeMap]
  rw [hex]
  simp only [aev, Option.some.injEq, Prod.mk.injEq] at h
  obtain ⟨rfl, rfl⟩ := h
  exact hH.newMap hn kk
theorem lkV_vr {ok : Bool} {u : AVal} {c : Value} {b : Bool} (h : VR G μ u c) : VR G μ (lkV ok u b) (if ok then .tuple #[c, .bool b] else c) := by
  unfold lkV
  cases ok
  · exact h
  · refine .tup _ _ rfl fun i hi => ?_
    match i, hi with
    | 0, _ => exact h
    | 1, _ => exact .bool b
theorem aev_lookup (hT : TR G μ ρ a.tmps) (hH : HR P G μ H w) (t k e : TypeId) (kk : IntKind) (z : AVal) (ok : Bool) (x i : Operand) (o : Oper) (ho : o.op = .lookup t x i ok) (ht : mapT P t = some (k, e, kk)) (hz : zeroT P e = some z)
    (h : aev (.lookup kk z ok ((copd P) x) ((copd P) i)) ρ H n = some (v, Δ)) : Step P G μ H n (execOp a.eval o) w v Δ := by
  obtain ⟨ht1, hk⟩ := mapT_spec ht
  obtain ⟨zc, hzr, rfl⟩ := run_zeroT (w := w) hz
  have hex : execOp a.eval o = (do let r ← Instr.lookup t (a.eval x) (a.eval i) ok; pure (.value r)) := by simp only [execOp, ho]
  rw [hex]
  have hx := opd_sound hH.glob hT x
  have hi := opd_sound hH.glob hT i
  simp only [aev] at h
  split at h
  · rename_i kk' m him
    rw [him] at hi
    have hiv := hi.inv_int
    split at h
    · rename_i hkk
      subst hkk
      split at h
      · rename_i hxm
        rw [hxm] at hx
        obtain ⟨cx, hcx⟩ : ∃ c, a.eval x = c := ⟨_, rfl⟩
        rw [hcx] at hx ⊢
        cases hx
        obtain ⟨rfl, rfl⟩ := some_nil h
        refine Step.pure (cv := if ok then .tuple #[zc, .bool false] else zc) hH ?_ (lkV_vr (cval_sound G μ 3 zc))
        rw [hiv]
        have := (run_find (P := P) (w := w) (kk := kk') (m := m) hk [] [] rfl fun j hj => by simp at hj).1 rfl
        simp [Instr.lookup, run_underlying ht1, run_key _ hk, this, hzr]
      · rename_i r hxm
        rw [hxm] at hx
        obtain ⟨cx, hcx⟩ : ∃ c, a.eval x = c := ⟨_, rfl⟩
        rw [hcx] at hx ⊢
        cases hx with
        | mp _ p hp hpv =>
        split at h
        · rename_i kq ks vs hm
          split at h
          · rename_i hq
            subst hq
            have hrow : H[r]? = some (some (.mapr _ ks vs)) := mapAt_row hm
            obtain ⟨p', es, ck, h1, h2, h3, h4, h5, h6, h7, h8, h9⟩ := hH.mapRow hrow
            rw [hp] at h1; cases h1
            obtain ⟨r1, r2⟩ := run_lookup (P := P) (w := w) (m := m) ok ht1 hk h6 h7 h8
            rw [hiv]
            cases hf : mfind m ks 0 with
            | none =>
              rw [hf] at h
              obtain ⟨rfl, rfl⟩ := some_nil h
              exact Step.pure (cv := if ok then .tuple #[zc, .bool false] else zc) hH (by simp [r1 zc hzr hf]) (lkV_vr (cval_sound G μ 3 zc))
            | some j =>
              rw [hf] at h
              obtain ⟨rfl, rfl⟩ := some_nil h
              obtain ⟨en, e1, e2⟩ := r2 j hf
              have hlt := (mfind_lt hf).2
              exact Step.pure (cv := if ok then .tuple #[en.val, .bool true] else en.val) hH (by simp [e2]) (lkV_vr (h9 j en (by omega) e1))
          · cases h
        · cases h
      · cases h
    · cases h
  · cases h
theorem aev_mapUpdate (hT : TR G μ ρ a.tmps) (hH : HR P G μ H w) (t k e : TypeId) (kk : IntKind) (x i y : Operand) (o : Oper) (ho : o.op = .mapUpdate t x i y ∨ o.op = .insert t x i y) (ht : mapT P t = some (k, e, kk))
    (h : aev (.mapUpdate kk ((copd P) x) ((copd P) i) ((copd P) y)) ρ H n = some (v, Δ)) : Step P G μ H n (execOp a.eval o) w v Δ := by
  obtain ⟨ht1, hk⟩ := mapT_spec ht
  have hex : execOp a.eval o = (do Instr.mapUpdate t (a.eval x) (a.eval i) (a.eval y); pure .skip) := by rcases ho with ho | ho <;> simp only [execOp, ho]
  rw [hex]
  have hx := opd_sound hH.glob hT x
  have hi := opd_sound hH.glob hT i
  have hy := opd_sound hH.glob hT y
  simp only [aev] at h
  split at h
  · rename_i kk' m him
    rw [him] at hi
    have hiv := hi.inv_int
    split at h
    · rename_i hkk
      subst hkk
      split at h
      · rename_i r hxm
        rw [hxm] at hx
        obtain ⟨cx, hcx⟩ : ∃ c, a.eval x = c := ⟨_, rfl⟩
        rw [hcx] at hx ⊢
        cases hx with
        | mp _ p hp hpv =>
        split at h
        · rename_i kq ks vs hm
          split at h
          · rename_i hq
            subst hq
            have hrow : H[r]? = some (some (.mapr _ ks vs)) := mapAt_row hm
            obtain ⟨p', es, ck, h1, h2, h3, h4, h5, h6, h7, h8, h9⟩ := hH.mapRow hrow
            rw [hp] at h1; cases h1
            have hes : es.size = ks.length := by simpa using h7
            obtain ⟨r1, r2⟩ := run_update (P := P) (w := w) (m := m) (y := a.eval y) ht1 hk h6 h7 h8
            rw [hiv]
            cases hf : mfind m ks 0 with
            | none =>
              rw [hf] at h
              simp only [Option.some.injEq, Prod.mk.injEq] at h
              obtain ⟨rfl, rfl⟩ := h
              refine ⟨.skip, undef, _, μ, ?_, .inr ⟨rfl, rfl⟩, .any _, Mu.le_refl _, hH.putMap hrow hp (es' := es.push { key := .int kq m, val := a.eval y, born := ck }) (ck' := ck + 1) (by simp [hes]) (by simp [h5]) fun q hq => ?_, fun _ h => .inl h⟩
              · simp [r1 hf, run_setObj _ h6]
              · simp only [List.length_append, List.length_cons, List.length_nil, Nat.zero_add] at hq
                by_cases c : q < ks.length
                · obtain ⟨en, e1, e2⟩ := h8 q c
                  refine ⟨en, ?_, ?_, ?_⟩
                  · rw [Array.getElem?_push_lt (by omega)]
                    have := e1
                    rw [Array.getElem?_toList, Array.getElem?_eq_getElem (by omega)] at this
                    exact this
                  · rw [e2, List.getD_eq_getElem?_getD, List.getD_eq_getElem?_getD, List.getElem?_append_left c]
                  · rw [List.getD_eq_getElem?_getD, List.getElem?_append_left (by omega), ← List.getD_eq_getElem?_getD]
                    exact h9 q en c e1
                · obtain rfl : q = ks.length := by omega
                  refine ⟨_, by rw [← hes]; exact Array.getElem?_push_size, ?_, ?_⟩
                  · simp
                  · rw [List.getD_eq_getElem?_getD, List.getElem?_append_right (by omega), h5, Nat.sub_self]
                    exact hy
            | some j =>
              rw [hf] at h
              simp only [Option.some.injEq, Prod.mk.injEq] at h
              obtain ⟨rfl, rfl⟩ := h
              have hlt := (mfind_lt hf).2
              refine ⟨.skip, undef, _, μ, ?_, .inr ⟨rfl, rfl⟩, .any _, Mu.le_refl _, hH.putMap hrow hp (es' := es.modify j fun e => { e with key := .int kq m, val := a.eval y }) (ck' := ck) (by simp [hes]) (by simp [h5]) fun q hq => ?_, fun _ h => .inl h⟩
              · simp [r2 j hf, run_setObj _ h6]
              · obtain ⟨en, e1, e2⟩ := h8 q hq
                have e1' : es[q]? = some en := by simpa using e1
                by_cases c : j = q
                · subst c
                  refine ⟨_, by rw [Array.getElem?_modify, if_pos rfl, e1']; rfl, ?_, ?_⟩
                  · have := mfind_key hf
                    simp only [Nat.sub_zero] at this
                    rw [List.getD_eq_getElem?_getD, this]; rfl
                  · rw [List.getD_eq_getElem?_getD, List.getElem?_set_self (by omega)]
                    exact hy
                · refine ⟨en, by rw [Array.getElem?_modify, if_neg c]; exact e1', e2, ?_⟩
                  rw [List.getD_eq_getElem?_getD, List.getElem?_set_ne c, ← List.getD_eq_getElem?_getD]
                  exact h9 q en hq e1
          · cases h
        · cases h
      · cases h
    · cases h
  · cases h
end Go.Sx
/- 'aev' is sound: a string as bytes, bytes as a string. -/
namespace Go.Sx
open Go

variable {P : Program} {G : Ctx} {μ : Mu} {H : Heap} {n : Nat} {w : World} {ρ : List AVal} {a : Act} {v : AVal} {Δ : List (Nat × Row)}

theorem Step.freshM {C : Array Value} {ty : TypeId} {g : Bool} {sz : Nat} {es : List AVal} {vec gr : Bool} {s : Sem Next} {w' : World} {cv : Value} (hH : HR P G μ H w) (hn : μ n = none) (mk : Mark C.size vec)
    (hs : s.run P w = .ok (.value cv) w') (hw : w'.heap = w.heap.push (.cells C ty mk.1)) (hcm : Calm w w') (hg : g = false → gr = false)
    (hC : ∀ i, i < es.length → (acells (es.getD i .any)).length = sz ∧ ∀ j, j < sz → ∃ c, C[i * sz + j]? = some c ∧ VR G μ ((acells (es.getD i .any)).getD j .any) c)
    (hv : ∀ μ' : Mu, μ' n = some ⟨w.heap.size, 0, sz, es.length, C.size, gr, vec⟩ → VR G μ' v cv) :
    Step P G μ H n s w v [(n, .cells g sz es)] := by
  obtain ⟨h1, h2, h3, h4⟩ := HR.freshM (w := w) (w' := w') (off := 0) (vec := vec) hH hn mk hw hcm hg (by simpa using hC)
  exact ⟨_, cv, w', _, hs, .inl rfl, hv _ h2, h1, h3, fun r hr => (h4 r hr).imp id fun h => ⟨h, by simp only [Heap.puts, Heap.len_put]; omega⟩⟩

theorem bytesOf_ints : ∀ {es : List AVal} {l : List UInt8}, bytesOf es = some l → ∃ xs : List Int, es = xs.map (AVal.int .u8) ∧ l = xs.map fun n => UInt8.ofNat n.toNat
  | [], l, h => by cases h; exact ⟨[], rfl, rfl⟩
  | x :: r, l, h => by
    unfold bytesOf at h
    split at h
    · rename_i heq; cases heq
    · rename_i b r' heq
      cases heq
      obtain ⟨l', h', rfl⟩ := Option.map_eq_some_iff.1 h
      obtain ⟨xs, rfl, rfl⟩ := bytesOf_ints h'
      exact ⟨b :: xs, rfl, rfl⟩
    · cases h

theorem flat_ints : ∀ xs : List Int, (xs.map (AVal.int .u8)).flatMap acells = xs.map (AVal.int .u8)
  | [] => rfl
  | x :: xs => by simp only [List.map_cons, List.flatMap_cons, flat_ints xs]; rfl

theorem aev_bytesToStr (hT : TR G μ ρ a.tmps) (hH : HR P G μ H w) (src dst e : TypeId) (x : Operand) (o : Oper) (ho : o.op = .convert src dst x)
    (hs : P.underlying src = some (.slice e)) (hd : P.underlying dst = some .string) (he : P.underlying e = some (.int .u8))
    (h : aev (.bytesToStr ((copd P) x)) ρ H n = some (v, Δ)) : Step P G μ H n (execOp a.eval o) w v Δ := by
  have hex : execOp a.eval o = (do pure (.value (← convert src dst (a.eval x)))) := by simp only [execOp, ho]
  rw [hex]
  simp only [aev] at h
  split at h
  · rename_i es hes
    obtain ⟨l, hl, hvd⟩ := Option.map_eq_some_iff.1 h
    obtain ⟨xs, rfl, rfl⟩ := bytesOf_ints hl
    cases hvd
    obtain ⟨⟨ad, cap, hc⟩, ws, hws, hrun⟩ := elems_run hH hes (sz := 1) (fun y hy => by obtain ⟨z, _, rfl⟩ := List.mem_map.1 hy; rfl) (opd_sound hH.glob hT x)
    rw [flat_ints] at hws
    have hw : ws = (xs.map (Value.int .u8)).toArray := by
      apply Array.ext
      · rw [← hws.1]; simp
      · intro i h1 h2
        have h3 : i < xs.length := by simpa using h2
        have := hws.2 i (by simpa using h3)
        rw [List.getD_eq_getElem?_getD, Array.getD_eq_getD_getElem?] at this
        simp [h3, h1] at this
        simpa using this.inv_int
    have hr := hrun w rfl
    rw [hc] at hr ⊢
    cases ad with
    | none =>
      have hx0 : xs = [] := by
        simp [Builtin.firstCells] at hr
        have : ws.size = 0 := by simp [hr]
        rw [hw] at this
        simpa using this
      subst hx0
      refine Step.pure (cv := .string ByteArray.empty) hH ?_ (.str _ _ rfl)
      simp [run_convert_bytes_nil w src e hs he _ _ dst hd]
    | some ad =>
      simp only [Builtin.firstCells, List.length_map, Nat.mul_one] at hr
      rw [hw] at hr
      have := run_bytesToString (P := P) w ad xs.length cap xs hr
      refine Step.pure (cv := .string (xs.foldl (fun r n => r.push (UInt8.ofNat n.toNat)) ByteArray.empty)) hH ?_ (.str _ _ ?_)
      · have h2 := run_convert_bytes_string (P := P) w src dst e (some ad) xs.length cap hs he hd
        rw [this] at h2
        simp [h2]
      · have : ∀ (xs : List Int) (r : ByteArray), (xs.foldl (fun r n => r.push (UInt8.ofNat n.toNat)) r).data.toList = r.data.toList ++ xs.map fun n => UInt8.ofNat n.toNat := by
          intro xs
          induction xs with
          | nil => intro r; simp
          | cons x xs ih => intro r; rw [List.foldl_cons, ih]; simp [ByteArray.push]
        rw [this]; rfl
  · cases h

theorem aev_strToBytes (hT : TR G μ ρ a.tmps) (hH : HR P G μ H w) (hn : μ n = none) (src dst e : TypeId) (x : Operand) (o : Oper) (ho : o.op = .convert src dst x)
    (hs : P.underlying src = some .string) (hd : P.underlying dst = some (.slice e)) (he : P.underlying e = some (.int .u8))
    (h : aev (.strToBytes ((copd P) x)) ρ H n = some (v, Δ)) : Step P G μ H n (execOp a.eval o) w v Δ := by
  have hex : execOp a.eval o = (do pure (.value (← convert src dst (a.eval x)))) := by simp only [execOp, ho]
  rw [hex]
  simp only [aev] at h
  split at h
  · rename_i l hx
    simp only [Option.some.injEq, Prod.mk.injEq] at h
    obtain ⟨rfl, rfl⟩ := h
    have hv := opd_sound hH.glob hT x
    rw [hx] at hv
    obtain ⟨s, hs1, hs2⟩ := hv.inv_str
    rw [hs1]
    have hrun := run_bytes_of_string (P := P) w src dst e s hs hd he
    have hl : l.length = s.size := by rw [← hs2, Array.length_toList]; rfl
    have hcap := grownCap_ge w s.size 0 e
    generalize hC : bytesRow s (grownCap w s.size 0 e) = C at hrun
    have hCs : C.size = grownCap w s.size 0 e := by
      have : s.data.size = s.size := rfl
      rw [← hC]; simp [bytesRow, this]; omega
    refine Step.freshM (vec := true) (gr := false) (ty := e) (C := C) hH hn ⟨(C.size, C.size + 1), .inr (Nat.le_refl _), rfl⟩ (cv := .slice (some ⟨w.heap.size, 0, none⟩) s.size (grownCap w s.size 0 e)) (w' := w.drew.alloc (.cells C e (C.size, C.size + 1))) (by simp [hrun]) rfl ⟨rfl, rfl, rfl⟩ (fun _ => rfl) (fun k hk => ?_) fun μ' hμ' => ?_
    · have hk' : k < l.length := by simpa using hk
      have hg : (l.map byteV).getD k .any = byteV l[k] := by simp [List.getD_eq_getElem?_getD, hk']
      rw [hg]
      refine ⟨rfl, fun j hj => ?_⟩
      obtain rfl : j = 0 := by omega
      refine ⟨.int .u8 (l[k].toNat : Int), ?_, .int _ _⟩
      have hk2 : k < s.data.size := by rw [show s.data.size = s.size from rfl]; omega
      rw [← hC]
      simp only [bytesRow, Nat.mul_one, Nat.add_zero]
      rw [Array.getElem?_append_left (by simpa using hk2)]
      simp only [Array.getElem?_map, Array.getElem?_eq_getElem hk2, Option.map_some, ← hs2, Array.getElem_toList]
    · rw [← hl]
      exact .sl _ _ _ _ _ hμ' rfl (by simp) rfl fun _ => ⟨grownCap w s.size 0 e, by simp [hl], by omega, by simp [hCs]⟩
  · cases h

theorem eqIn_iface0 {t : TypeId} {ms : Array (String × TypeId)} (hu : P.underlying t = some (.interface ms)) (d : Nat) : (Op.equalIn (d + 1) t .nilIface .nilIface).run P w = .ok true w := by
  simp [Op.equalIn, run_underlying hu]
theorem eqIn_iface {t : TypeId} {ms : Array (String × TypeId)} (hu : P.underlying t = some (.interface ms)) (d : Nat) (q : TypeId) (c : Value) : (Op.equalIn (d + 1) t (.iface q c) .nilIface).run P w = .ok false w := by
  simp [Op.equalIn, run_underlying hu]

theorem aev_isNilI (hT : TR G μ ρ a.tmps) (hH : HR P G μ H w) (op : BinOp) (neg : Bool) (hop : op = .eql ∧ neg = false ∨ op = .neq ∧ neg = true) (t yt : TypeId) (x : Operand) (o : Oper) (ho : o.op = .binOp op t x (.const .nilIface) yt)
    {ms : Array (String × TypeId)} (hu : P.underlying t = some (.interface ms)) (h : aev (.isNilI neg ((copd P) x)) ρ H n = some (v, Δ)) : Step P G μ H n (execOp a.eval o) w v Δ := by
  have hex : execOp a.eval o = (do let r ← (do eqGuard op t x (.const .nilIface) (a.eval x) .nilIface; binOp op t (a.eval x) .nilIface); pure (.value r)) := by simp only [execOp, ho]; rfl
  rw [hex]
  have hx := opd_sound hH.glob hT x
  simp only [aev] at h
  split at h
  · rename_i hv
    obtain ⟨rfl, rfl⟩ := some_nil h
    rw [hv] at hx
    obtain ⟨c, hc⟩ : ∃ c, a.eval x = c := ⟨_, rfl⟩
    rw [hc] at hx ⊢
    cases hx
    refine Step.pure (cv := .bool (!neg)) hH ?_ (.bool _)
    have he := eqIn_iface0 (w := w) hu 9999
    rcases hop with ⟨rfl, rfl⟩ | ⟨rfl, rfl⟩ <;> simp [eqGuard, binOp, Op.equal, Op.maxDepth, he]
  · rename_i t' v' hv
    obtain ⟨rfl, rfl⟩ := some_nil h
    rw [hv] at hx
    obtain ⟨c, hc⟩ : ∃ c, a.eval x = c := ⟨_, rfl⟩
    rw [hc] at hx ⊢
    cases hx
    refine Step.pure (cv := .bool neg) hH ?_ (.bool _)
    rename_i c' _
    have he := fun c => eqIn_iface (w := w) hu 9999 t' c
    rcases hop with ⟨rfl, rfl⟩ | ⟨rfl, rfl⟩ <;> simp [eqGuard, binOp, Op.equal, Op.maxDepth, he]
  · cases h

theorem run_bounds3 (hg : GlobOK P G) (hT : TR G μ ρ a.tmps) {lo : Option Operand} {hi mx : Operand} {l h m : Int} (len cap : Nat) (hlo : BoundIs P ρ lo 0 l) (hhi : intOf (opd ρ ((copd P) hi)) = some h) (hmx : intOf (opd ρ ((copd P) mx)) = some m)
    (h0 : 0 ≤ l) (h1 : l ≤ h) (h2 : h ≤ m) (h3 : m ≤ cap) :
    (Instr.sliceBounds true len cap (lo.map a.eval) (some (a.eval hi)) (some (a.eval mx))).run P w = .ok (l.toNat, h.toNat, m.toNat) w := by
  have hm := fun code => run_bound (P := P) (w := w) hg hT hmx cap code (by omega) h3
  have hh := fun code => run_bound (P := P) (w := w) hg hT hhi m.toNat code (by omega) (by omega)
  unfold Instr.sliceBounds
  cases lo with
  | none => simp only [BoundIs] at hlo; subst hlo; simp [hm, hh]
  | some y =>
    have := fun code => run_bound (P := P) (w := w) hg hT hlo h.toNat code h0 (by omega)
    simp [hm, hh, this]

theorem aev_slice3 (hT : TR G μ ρ a.tmps) (hH : HR P G μ H w) (t e : TypeId) (sz : Nat) (x : Operand) (lo : Option Operand) (hi mx : Operand) (o : Oper) (ho : o.op = .slice t x lo (some hi) (some mx))
    (hu : P.underlying t = some (.slice e)) (hsz : sizeT P e = some sz)
    (h : aev (.slice3 sz ((copd P) x) (lo.map (copd P)) ((copd P) hi) ((copd P) mx)) ρ H n = some (v, Δ)) : Step P G μ H n (execOp a.eval o) w v Δ := by
  have hex : execOp a.eval o = (do pure (.value (← Instr.sliceAt t (a.eval x) (lo.map a.eval) (some (a.eval hi)) (some (a.eval mx))))) := by simp only [execOp, ho, Option.map_some]
  rw [hex]
  simp only [aev] at h
  have hx := opd_sound hH.glob hT x
  split at h
  · rename_i l hh m hl hhi hm
    have hlo' : BoundIs P ρ lo 0 l := by
      cases lo <;> simp [BoundIs] at hl ⊢
      · omega
      · exact hl
    split at h
    · rename_i r off len hr
      split at h
      · rename_i g sz' es hc
        split at h
        · rename_i hcond
          obtain ⟨h0, h1, h2, h3, rfl, hpos, hg⟩ := hcond
          obtain ⟨rfl, rfl⟩ := some_nil h
          rw [hr] at hx
          obtain ⟨p, C, ty, k3, k4, k5, k6, k7, k8, k9, k10, k11⟩ := hH.own hc
          obtain ⟨p', k3', hvec, hL, hcv⟩ := hx.inv_sl
          rw [k3] at k3'; cases k3'
          obtain ⟨cap, hcs, hcap, hroom⟩ := hcv (live_of k8 k7 hg)
          have hbd := run_bounds3 (P := P) (w := w) hH.glob hT len cap hlo' hhi hm h0 (by omega) h2 (by omega)
          have hne : m.toNat ≠ l.toNat := by omega
          refine Step.pure (cv := .slice (some ⟨p.blk, p.off + (off + l.toNat) * p.sz, none⟩) (hh.toNat - l.toNat) (m.toNat - l.toNat)) hH ?_ (.sl _ _ _ p _ k3 hvec (by omega) rfl fun _ => ⟨_, rfl, by omega, ?_⟩)
          · simp [Instr.sliceAt, Instr.slice, run_underlying hu, hcs, hbd, run_sizeT hsz, hne, add_at, k6, Nat.add_mul, Nat.add_assoc]
          · have e1 : off + l.toNat + (m.toNat - l.toNat) = off + m.toNat := by omega
            rw [e1]
            have : (off + m.toNat) * p.sz ≤ (off + cap) * p.sz := Nat.mul_le_mul_right _ (by omega)
            omega
        · cases h
      · cases h
    · rename_i es hes
      split at h
      · rename_i hcond
        obtain ⟨h0, h1, h2, h3, hall⟩ := hcond
        obtain ⟨rfl, rfl⟩ := some_nil h
        rw [hes] at hx
        obtain ⟨cv, hcv⟩ : ∃ c, a.eval x = c := ⟨_, rfl⟩
        rw [hcv] at hx
        generalize hev : AVal.view es = ev at hx
        cases hx with
        | view _ b o' sz' cap f hb hcap hs hf hv =>
          cases hev
          have hes0 : 0 < es.length := by omega
          have hsz0 : sz' = sz := by
            have k1 := hs 0 hes0
            have k2 := List.all_eq_true.1 hall (es.getD 0 .any) (by rw [List.getD_eq_getElem?_getD, List.getElem?_eq_getElem hes0]; exact List.getElem_mem hes0)
            rw [beq_iff_eq] at k2
            omega
          subst hsz0
          have hbd := run_bounds3 (P := P) (w := w) hH.glob hT es.length cap hlo' hhi hm h0 (by omega) h2 (by omega)
          have hne : m.toNat ≠ l.toNat := by omega
          have hlen' : ((es.drop l.toNat).take (hh.toNat - l.toNat)).length = hh.toNat - l.toNat := by simp; omega
          have hgd : ∀ i, i < hh.toNat - l.toNat → ((es.drop l.toNat).take (hh.toNat - l.toNat)).getD i .any = es.getD (l.toNat + i) .any := fun i hi => by
            rw [List.getD_eq_getElem?_getD, List.getElem?_take_of_lt hi, List.getElem?_drop, List.getD_eq_getElem?_getD]
          have hvw : VR G μ (.view ((es.drop l.toNat).take (hh.toNat - l.toNat))) (.slice (some ⟨b, o' + l.toNat * sz', none⟩) ((es.drop l.toNat).take (hh.toNat - l.toNat)).length (m.toNat - l.toNat)) := by
            refine .view _ b (o' + l.toNat * sz') sz' _ (fun i j => f (l.toNat + i) j) hb (by omega) (fun i hi => ?_) (fun i j hi hj => ?_) (fun i j hi hj => ?_)
            · rw [hlen'] at hi; rw [hgd i hi]; exact hs _ (by omega)
            · rw [hlen'] at hi
              rw [← hf (l.toNat + i) j (by omega) hj]
              congr 2
              rw [Nat.add_mul]; omega
            · rw [hlen'] at hi; rw [hgd i hi]; exact hv _ _ (by omega) hj
          refine Step.pure hH ?_ hvw
          simp [Instr.sliceAt, Instr.slice, run_underlying hu, hcv, hbd, run_sizeT hsz, hne, add_at]
          omega
        | viewnil ad cap => cases hev; simp at h3; omega
        | _ => cases hev
      · cases h
    · cases h
  · cases h

theorem freeze_at (w : World) (b m : Nat) (v : Bool) (C : Array Value) (t : TypeId) (mk : Mark m v) (hm : C.size = m) (h : w.heap[b]? = some (.cells C t mk.1)) :
    ∃ mk' : Mark m v, (w.freeze ⟨b, C.size, none⟩ 1).heap[b]? = some (.cells C t mk'.1) := by
  subst hm
  refine ⟨⟨if mk.1.1 == mk.1.2 then (C.size, C.size + 1) else (min mk.1.1 C.size, max mk.1.2 (C.size + 1)), ?_, mk.2.2⟩, ?_⟩
  · right
    split
    · exact Nat.le_refl _
    · rename_i hne
      have hne' : mk.1.1 ≠ mk.1.2 := by simpa using hne
      have := mk.2.1
      simp only
      omega
  · simp [World.freeze, Array.getElem?_modify, h]

theorem aev_markStr (hT : TR G μ ρ a.tmps) (hH : HR P G μ H w) (src dst e0 e : TypeId) (x : Operand) (o : Oper) (ho : o.op = .convert src dst x)
    (hs : P.underlying src = some (.slice e0)) (hd : P.underlying dst = some (.slice e)) (he : P.underlying e = some (.int .u8)) (hsd : (src == dst) = true)
    (h : aev (.markStr ((copd P) x)) ρ H n = some (v, Δ)) : Step P G μ H n (execOp a.eval o) w v Δ := by
  have hex : execOp a.eval o = (do pure (.value (← convert src dst (a.eval x)))) := by simp only [execOp, ho]
  rw [hex]
  have hx := opd_sound hH.glob hT x
  simp only [aev] at h
  split at h
  · rename_i r off len hr
    split at h
    · rename_i g sz es hc
      split at h
      · rename_i hg
        simp only [Option.some.injEq, Prod.mk.injEq] at h
        obtain ⟨rfl, rfl⟩ := h
        rw [hr] at hx
        obtain ⟨p, C, ty, k3, k4, k5, k6, k7, k8, k9, k10, k11⟩ := hH.own hc
        have hx0 := hx
        obtain ⟨p', k3', hvec, hL, hcv⟩ := hx.inv_sl
        rw [k3] at k3'; cases k3'
        obtain ⟨cap, hcs, hcap, hroom⟩ := hcv (live_of k8 k7 hg)
        rw [hcs] at hx0 ⊢
        obtain ⟨mk', hmk⟩ := freeze_at w p.blk p.size p.vec C ty.1 ty.2 k10 k9
        refine ⟨_, _, w.freeze ⟨p.blk, C.size, none⟩ 1, μ, ?_, .inl rfl, hx0, Mu.le_refl _, ?_, fun _ h => .inl h⟩
        · simp [convert, run_underlying hs, run_underlying hd, run_underlying he, hsd, markStringish, World.shape?, k9]
        · refine hH.put (p := p) ⟨rfl, rfl, rfl⟩ (Mu.le_refl _) (fun _ _ => rfl) k3 (by simp [World.freeze]) (by simpa [World.freeze] using k5) k4 (fun b _ hb => ?_) (fun s y q hs hy hq hnd => ?_) ?_
          · simp [World.freeze, Array.getElem?_modify, Ne.symm hb]
          · exact hH.apart s r y _ q p hy (cellsAt_row hc) hq k3 hs hnd nofun
          · exact ⟨k6, k7, k8, C, (ty.1, mk'), hmk, k10, k11⟩
      · cases h
    · cases h
  · cases h

theorem cntB_eq (c : UInt8) : ∀ (l : List UInt8) (n : Int), cntB c l n = n + (Lib.countByte l c : Nat)
  | [], n => by simp [cntB, Lib.countByte]
  | b :: l, n => by
    rw [cntB, cntB_eq c l]
    unfold Lib.countByte
    rw [List.count_cons]
    split <;> simp_all <;> omega
theorem indexByte_cons (b c : UInt8) (l : List UInt8) : Lib.indexByte (b :: l) c = if (b == c) = true then 0 else if (Lib.indexByte l c == -1) = true then -1 else Lib.indexByte l c + 1 := by
  rw [Lib.indexByte]
theorem idxB_eq (c : UInt8) : ∀ (l : List UInt8) (i : Int), idxB c l i = if Lib.indexByte l c = -1 then -1 else Lib.indexByte l c + i
  | [], i => by simp [idxB, Lib.indexByte]
  | b :: l, i => by
    rw [idxB, idxB_eq c l, indexByte_cons]
    have := Lib.indexByte_ge l c
    generalize Lib.indexByte l c = m at *
    by_cases hb : (b == c) = true
    · simp [hb]
    · rw [if_neg hb, if_neg hb]
      by_cases h1 : m = -1
      · subst h1; rfl
      · have h2 : ¬ (m == -1) = true := by simpa using h1
        rw [if_neg h1, if_neg h2, if_neg (by omega)]; omega

def extN (q : XK) (s : List UInt8) (c : Int) : Int := match q with | .count => cntB c.toNat.toUInt8 s 0 | .index => idxB c.toNat.toUInt8 s 0
theorem extV_inv {q : XK} {x y v : AVal} (h : extV q x y = some v) : ∃ s c, x = .str s ∧ y = .int .u8 c ∧ v = .int .i64 (extN q s c) := by
  unfold extV at h
  split at h
  · cases h; exact ⟨_, _, rfl, rfl, rfl⟩
  · cases h; exact ⟨_, _, rfl, rfl, rfl⟩
  · cases h

theorem look_count : Extern.allNextRows.lookup "internal/bytealg.CountString" = none ∧ Extern.allGenericRows.lookup "internal/bytealg.CountString" = none ∧ Extern.allTypedRows.lookup "internal/bytealg.CountString" = none ∧
    Extern.allRows.lookup "internal/bytealg.CountString" = some Extern.BytealgCount.count := ⟨rfl, rfl, rfl, rfl⟩
theorem look_index : Extern.allNextRows.lookup "internal/bytealg.IndexByteString" = none ∧ Extern.allGenericRows.lookup "internal/bytealg.IndexByteString" = none ∧ Extern.allTypedRows.lookup "internal/bytealg.IndexByteString" = none ∧
    Extern.allRows.lookup "internal/bytealg.IndexByteString" = some Extern.BytealgIndexByte.indexByte := ⟨rfl, rfl, rfl, rfl⟩
theorem look_empty : Extern.allNextRows.lookup "" = none := rfl

theorem find_of {fn : Func} {nm : String} {e : Array Value → Sem Value} (hn : fn.name = nm) (ho : fn.origin = "")
    (h : Extern.allNextRows.lookup nm = none ∧ Extern.allGenericRows.lookup nm = none ∧ Extern.allTypedRows.lookup nm = none ∧ Extern.allRows.lookup nm = some e) : Extern.findNext fn = none ∧ Extern.find fn = some e := by
  obtain ⟨h1, h2, h3, h4⟩ := h
  constructor
  · simp only [Extern.findNext, hn, ho, h1, look_empty]; rfl
  · simp only [Extern.find, hn, h2, h3, h4]; rfl

theorem aev_ext (hT : TR G μ ρ a.tmps) (hH : HR P G μ H w) (c : Call) (f x y : Operand) (q : XK) (o : Oper) (ho : o.op = .call c) (hb : c.callee = .value f) (hc : c.args.toList = [x, y]) (hq : extK P f = some q)
    (h : aev (.ext q ((copd P) x) ((copd P) y)) ρ H n = some (v, Δ)) : Step P G μ H n (execOp a.eval o) w v Δ := by
  have hargs : c.args = #[x, y] := by
    have := congrArg List.toArray hc
    simpa using this
  unfold extK at hq
  split at hq
  · rename_i g
    split at hq
    · rename_i fn hf
      split at hq
      · rename_i hbo
        obtain ⟨hbody, horig⟩ := hbo
        have hex : execOp a.eval o = callFunc g #[a.eval x, a.eval y] := by
          simp [execOp, ho, resolve, hb, hargs, Act.eval, Deferred.ofValue, invoke]
        rw [hex]
        simp only [aev] at h
        obtain ⟨hv, rfl⟩ := map_nil h
        have hx := opd_sound hH.glob hT x
        have hy := opd_sound hH.glob hT y
        obtain ⟨s, c', hxs, hys, rfl⟩ := extV_inv hv
        rw [hxs] at hx
        rw [hys] at hy
        obtain ⟨b, hb1, hb2⟩ := hx.inv_str
        have hy1 := hy.inv_int
        rw [hb1, hy1]
        split at hq
        · rename_i hnm
          cases hq
          obtain ⟨k1, k2⟩ := find_of hnm horig look_count
          have hr := run_callFunc_extern (P := P) hf (by rw [hnm]; rfl) hbody k1 k2 #[.string b, .int .u8 c'] w
          rw [Lib.run_countString] at hr
          refine Step.pure hH hr ?_
          rw [hb2]
          simp only [extN, cntB_eq, Int.zero_add]
          exact .int _ _
        · split at hq
          · rename_i hnm
            cases hq
            obtain ⟨k1, k2⟩ := find_of hnm horig look_index
            have hr := run_callFunc_extern (P := P) hf (by rw [hnm]; rfl) hbody k1 k2 #[.string b, .int .u8 c'] w
            rw [Lib.run_indexByteString] at hr
            refine Step.pure hH hr ?_
            rw [hb2]
            have : idxB c'.toNat.toUInt8 s 0 = Lib.indexByte s c'.toNat.toUInt8 := by rw [idxB_eq]; split <;> omega
            simp only [extN, this]
            exact .int _ _
          · cases hq
      · cases hq
    · cases hq
  · cases hq


theorem isU8_size {e : TypeId} (h : isU8 P e = true) : sizeT P e = some 1 := by
  unfold isU8 at h
  split at h
  · simpa using h
  · cases h

theorem aev_allocArr (hH : HR P G μ H w) (hn : μ n = none) (ty : TypeId) (cv : Value) (cs : List AVal) (hx : VR G μ (.agg cs) cv) (hb : cs.all isByte = true) (s : Sem Next)
    (hs : s.run P w = .ok (.value (.pointer (some ⟨w.heap.size, 0, none⟩))) { w with heap := w.heap.push (.cells cv.cells ty (0, 0)) })
    (h : aev (.allocArr cs) ρ H n = some (v, Δ)) : Step P G μ H n s w v Δ := by
  simp only [aev, Option.some.injEq, Prod.mk.injEq] at h
  obtain ⟨rfl, rfl⟩ := h
  obtain ⟨vs, rfl, hl, hv⟩ := hx.inv_agg
  refine Step.fresh (gr := false) (ty := ty) (C := (Value.agg vs).cells) hH hn hs rfl ⟨rfl, rfl, rfl⟩ (fun _ => rfl) (fun i hi => ?_) fun μ' hμ' => .ptr n 0 0 cs.length _ _ hμ' (Nat.le_refl _) rfl fun _ => by simp
  have h1 : acells (cs.getD i .any) = [cs.getD i .any] := by
    have hm : cs.getD i .any ∈ cs := by rw [List.getD_eq_getElem?_getD, List.getElem?_eq_getElem hi]; exact List.getElem_mem hi
    have := List.all_eq_true.1 hb _ hm
    cases hc : cs.getD i .any <;> rw [hc] at this <;> first | rfl | cases this
  rw [h1]
  refine ⟨rfl, fun j hj => ?_⟩
  obtain rfl : j = 0 := by omega
  have hi' : i < vs.size := by omega
  refine ⟨vs[i], by simp [Value.cells, hi'], ?_⟩
  have := hv i hi
  rw [Array.getD_eq_getD_getElem?] at this
  simpa [hi'] using this

theorem aev_indexArrB (hT : TR G μ ρ a.tmps) (hH : HR P G μ H w) (t e : TypeId) (m : Nat) (x y : Operand) (o : Oper) (ho : o.op = .indexAddr t x y) (hu : P.underlying t = some (.array m e)) (hb : isU8 P e = true)
    (h : aev (.indexArrB m ((copd P) x) ((copd P) y)) ρ H n = some (v, Δ)) : Step P G μ H n (execOp a.eval o) w v Δ := by
  have hsz := isU8_size hb
  have hex : execOp a.eval o = (do pure (.value (← Instr.indexAt t (a.eval x) (a.eval y)))) := by simp only [execOp, ho]
  rw [hex]
  simp only [aev] at h
  split at h
  · rename_i k i hi
    have hyv := (hi ▸ opd_sound hH.glob hT y).inv_int
    split at h
    · rename_i h0
      have hx := opd_sound hH.glob hT x
      split at h
      · rename_i r q off L hr
        rw [hr] at hx
        split at h
        · rename_i g sz' es hc
          split at h
          · rename_i hg
            obtain ⟨rfl, rfl⟩ := some_nil h
            obtain ⟨p, h1, h2, h3, h4, h5⟩ := live_addr hH hc hg hx
            refine Step.pure (cv := .pointer (some ⟨p.blk, p.off + q * p.sz + off + i.toNat, none⟩)) hH (by simp [Instr.indexAt, hyv, asIntOf, run_underlying hu, h5, Instr.sureAddr, h0, run_sizeT hsz, add_at]) ?_
            split
            · rename_i hs
              obtain ⟨rfl, rfl⟩ := hs
              refine .ptr r (q + i.toNat) 0 L p _ h1 h4 rfl fun _ => ?_
              rw [h2]
              simp [Nat.add_assoc]
            · exact ptr_on h1 h4
          · cases h
        · cases h
      · rename_i el off hr
        rw [hr] at hx
        obtain ⟨rfl, rfl⟩ := some_nil h
        obtain ⟨c, hc⟩ : ∃ c, a.eval x = c := ⟨_, rfl⟩
        rw [hc] at hx
        obtain ⟨b, oo, rfl⟩ : ∃ b oo, c = .pointer (some ⟨b, oo, none⟩) := by cases hx; exact ⟨_, _, rfl⟩
        exact Step.pure (cv := .pointer (some ⟨b, oo + i.toNat, none⟩)) hH (by simp [Instr.indexAt, hyv, asIntOf, run_underlying hu, hc, Instr.sureAddr, h0, run_sizeT hsz, add_at]) (rptr_on hx)
      · cases h
    · cases h
  · cases h

theorem aev_sliceArrB (hT : TR G μ ρ a.tmps) (hH : HR P G μ H w) (t e : TypeId) (m : Nat) (x : Operand) (lo hi : Option Operand) (o : Oper) (ho : o.op = .slice t x lo hi none)
    (hu : P.underlying t = some (.array m e)) (hb : isU8 P e = true)
    (h : aev (.sliceArrB m ((copd P) x) (lo.map (copd P)) (hi.map (copd P))) ρ H n = some (v, Δ)) : Step P G μ H n (execOp a.eval o) w v Δ := by
  have hsz := isU8_size hb
  have hex : execOp a.eval o = (do pure (.value (← Instr.sliceAt t (a.eval x) (lo.map a.eval) (hi.map a.eval) none))) := by simp only [execOp, ho, Option.map_none]
  rw [hex]
  simp only [aev] at h
  have hx := opd_sound hH.glob hT x
  split at h
  · rename_i l hh hl hhi
    have hlo' : BoundIs P ρ lo 0 l := by
      cases lo <;> simp [BoundIs] at hl ⊢
      · omega
      · exact hl
    have hhi' : BoundIs P ρ hi m hh := by
      cases hi <;> simp [BoundIs] at hhi ⊢
      · omega
      · exact hhi
    split at h
    · rename_i r k off L hr
      split at h
      · rename_i g sz es hc
        split at h
        · rename_i hcond
          obtain ⟨rfl, rfl, rfl, h0, h1, h2, h3⟩ := hcond
          obtain ⟨rfl, rfl⟩ := some_nil h
          rw [hr] at hx
          obtain ⟨p, C, ty, k3, k4, k5, k6, k7, k8, k9, k10, k11⟩ := hH.own hc
          obtain ⟨p', q1, q2, q3, q4, q5⟩ := live_addr hH hc (.inr rfl) hx
          rw [k3] at q1; cases q1
          have hbd := run_bounds (P := P) (w := w) hH.glob hT false m m hlo' hhi' h0 (by omega) h2 (Nat.le_refl _)
          have hne : m ≠ l.toNat := by omega
          have hroom : p.off + es.length ≤ p.size := by
            obtain ⟨c, hc1, _⟩ := (k11 (es.length - 1) (by omega)).2 0 (by omega)
            obtain ⟨hlt, _⟩ := Array.getElem?_eq_some_iff.1 hc1
            omega
          refine Step.pure (cv := .slice (some ⟨p.blk, p.off + (k + l.toNat) * p.sz, none⟩) (hh.toNat - l.toNat) (m - l.toNat)) hH ?_ (.sl _ _ _ p _ k3 ty.2.2.2 (by omega) rfl fun _ => ⟨_, rfl, by omega, ?_⟩)
          · simp [Instr.sliceAt, run_underlying hu, q5, hbd, run_sizeT hsz, hne, add_at, k6, Instr.sureAddr, Nat.add_assoc]
          · rw [k6]; omega
        · cases h
      · cases h
    · cases h
  · cases h
end Go.Sx
/- 'aev' is sound, operation by operation. -/
namespace Go.Sx
open Go

variable {P : Program} {G : Ctx} {μ : Mu} {H : Heap} {n : Nat} {w : World} {ρ : List AVal} {a : Act} {v : AVal} {Δ : List (Nat × Row)}

theorem aev_bad {ρ : List AVal} {H : Heap} {n : Nat} : aev .bad ρ H n = none := rfl

theorem cbin_sound (hT : TR G μ ρ a.tmps) (hH : HR P G μ H w) (op : BinOp) (t yt : TypeId) (x y : Operand) (o : Oper) (ho : o.op = .binOp op t x y yt)
    (h : aev (cbin P op t x y) ρ H n = some (v, Δ)) : Step P G μ H n (execOp a.eval o) w v Δ := by
  unfold cbin at h
  split at h
  · rename_i fs hu
    split at h
    · rename_i ks hk
      split at h
      · simp [aev] at h
      · rename_i hg
        exact aev_eqAgg hT hH .eql false (.inl ⟨rfl, rfl⟩) t yt x y o ho ks hk (by simpa using hg) (by simp [isAggT, hu]) h
    · simp [aev] at h
  · rename_i fs hu
    split at h
    · rename_i ks hk
      split at h
      · simp [aev] at h
      · rename_i hg
        exact aev_eqAgg hT hH .neq true (.inr ⟨rfl, rfl⟩) t yt x y o ho ks hk (by simpa using hg) (by simp [isAggT, hu]) h
    · simp [aev] at h
  · rename_i hu; exact aev_bin hT hH _ t yt x y o ho .bool hu h
  · exact aev_bin hT hH _ t yt x y o ho .plain trivial h
  · exact aev_bin hT hH _ t yt x y o ho .plain trivial h
  · rename_i hu; exact aev_bin hT hH _ t yt x y o ho .slice ⟨_, hu⟩ h
  · rename_i e hu
    cases hi : P.info? e with
    | none => simp [hi, aev] at h
    | some i =>
      simp only [hi] at h
      by_cases hs : i.size = 0
      · rw [if_pos (by simpa using hs)] at h
        simp [aev] at h
      · rw [if_neg (by simpa using hs)] at h
        exact aev_bin hT hH _ t yt x y o ho .ptr ⟨_, hu, i, hi, hs⟩ h
  · rename_i hu; exact aev_bin hT hH _ t yt x y o ho .map ⟨_, _, hu⟩ h
  · rename_i hu; exact aev_bin hT hH _ t yt x y o ho .func ⟨_, _, _, hu⟩ h
  · rename_i hu
    split at h
    · exact aev_isNilI hT hH .eql false (.inl ⟨rfl, rfl⟩) t yt x o ho hu h
    · simp [aev] at h
  · rename_i hu
    split at h
    · exact aev_isNilI hT hH .neq true (.inr ⟨rfl, rfl⟩) t yt x o ho hu h
    · simp [aev] at h
  · simp [aev] at h

theorem aev_sound (hT : TR G μ ρ a.tmps) (hH : HR P G μ H w) (hn : μ n = none) (o : Oper) (h : aev (cop P o) ρ H n = some (v, Δ)) : Step P G μ H n (execOp a.eval o) w v Δ := by
  cases ho : o.op with
  | move x => simp only [cop, ho] at h; exact aev_move hT hH x h _ (by simp only [execOp, ho])
  | assign x => simp only [cop, ho] at h; exact aev_move hT hH x h _ (by simp only [execOp, ho])
  | pick c x y =>
    simp only [cop, ho] at h
    have hex : execOp a.eval o = (do pure (.value (if ← asBool (a.eval c) then a.eval x else a.eval y))) := by simp only [execOp, ho]
    rw [hex]; exact aev_pick hT hH c x y h
  | alloc t =>
    simp only [cop, ho] at h
    split at h
    · rename_i z hz
      obtain ⟨c, hc, rfl⟩ := run_zeroT (w := w) hz
      have hs : (execOp a.eval o).run P w = .ok (.value (.pointer (some ⟨w.heap.size, 0, none⟩))) { w with heap := w.heap.push (.cells c.cells t (0, 0)) } := by
        simp [execOp, ho, Instr.alloc, hc, newVar, newRow]
      unfold allocA at h
      split at h
      · rename_i cs hu hcs
        split at h
        · rename_i hb
          simp only [Bool.and_eq_true] at hb
          exact aev_allocArr hH hn t c cs (hcs ▸ cval_sound G μ 3 c) hb.2.1 _ hs h
        · exact aev_box (ρ := ρ) hH hn t (.const _) c (cval_sound G μ 3 c) _ hs h
      · exact aev_box (ρ := ρ) hH hn t (.const _) c (cval_sound G μ 3 c) _ hs h
    · simp [aev] at h
  | box t x =>
    simp only [cop, ho] at h
    refine aev_box hH hn t ((copd P) x) (a.eval x) (opd_sound hH.glob hT x) _ ?_ h
    simp [execOp, ho, Instr.box, newVar, newRow]
  | build t parts => exact aev_build hT hH t parts o ho h
  | buildSlice t len parts => exact aev_buildSlice hT hH hn t len parts o ho h
  | load t x => exact aev_load hT hH t x o ho h
  | store t x y => exact aev_store hT hH t x y o ho h
  | nilCheck x => simp only [cop, ho] at h; exact aev_nilCheck hT hH x o ho h
  | binOp op t x y yt => simp only [cop, ho] at h; exact cbin_sound hT hH op t yt x y o ho h
  | unOp op t x =>
    cases op with
    | neg => exact aev_neg hT hH t x o ho h
    | not => exact aev_not hT hH t x o ho h
    | xor => simp [cop, ho, aev] at h
    | plus => simp [cop, ho, aev] at h
  | convert src dst x =>
    simp only [cop, ho] at h
    split at h
    · rename_i hs hd; exact aev_toInt hT hH src dst x o ho _ _ hs hd h
    · rename_i hs hd
      simp only [aev] at h
      split at h
      · rename_i hstr
        obtain ⟨rfl, rfl⟩ := some_nil h
        cases hv : opd ρ ((copd P) x) <;> rw [hv] at hstr <;> simp [isStr] at hstr
        have hx := opd_sound hH.glob hT x
        obtain ⟨s, hs1, hs2⟩ := (hv ▸ hx).inv_str
        rw [hv] at hx
        exact Step.pure (cv := a.eval x) hH (by simp [execOp, ho, hs1, convert, run_underlying hs, run_underlying hd]) hx
      · cases h
    · rename_i e hs hd
      split at h
      · rename_i hsd he
        exact aev_markStr hT hH src dst _ e x o ho hs hd he hsd h
      · simp [aev] at h
    · rename_i e hs hd
      split at h
      · rename_i he; exact aev_strToBytes hT hH hn src dst e x o ho hs hd he h
      · simp [aev] at h
    · rename_i e hs hd
      split at h
      · rename_i he; exact aev_bytesToStr hT hH src dst e x o ho hs hd he h
      · simp [aev] at h
    · simp [aev] at h
  | makeFunc f x y => exact aev_makeFunc hT hH f x y o ho h
  | makeInterface t x =>
    simp only [cop, ho] at h
    split at h
    · simp [aev] at h
    · simp [aev] at h
    · rename_i d hd hu; exact aev_makeIface hT hH t x o ho d hu (fun ms hm => hd ms (by rw [hm])) h
  | makeSlice t x y =>
    simp only [cop, ho] at h
    split at h
    · rename_i e hu
      split at h
      · rename_i z b sz hz hb hsz
        split at h
        · rename_i hc
          simp only [Bool.and_eq_true, decide_eq_true_eq] at hc
          exact aev_makeSlice hT hH hn t e x y z b sz o ho hu hz hb hsz hc.1 hc.2 h
        · simp [aev] at h
      · simp [aev] at h
    · simp [aev] at h
  | slice t x lo hi mx =>
    simp only [cop, ho] at h
    split at h
    · rename_i hu; exact aev_slice hT hH t 1 true x lo hi o ho (by simpa using hu) h
    · rename_i e hu
      split at h
      · rename_i sz hsz; exact aev_slice hT hH t sz false x lo hi o ho (by simpa using ⟨e, hu, hsz⟩) h
      · simp [aev] at h
    · rename_i m e hu
      split at h
      · rename_i hb; exact aev_sliceArrB hT hH t e m x lo hi o ho hu hb h
      · simp [aev] at h
    · rename_i e hu
      split at h
      · rename_i hh sz hsz; exact aev_slice3 hT hH t e sz x lo _ _ o ho hu hsz h
      · simp [aev] at h
    · simp [aev] at h
  | fieldAddr t x i => exact aev_fieldAddr hT hH t x i o ho h
  | field t x i => exact aev_field hT hH t x i o ho h
  | indexAddr t x y =>
    simp only [cop, ho] at h
    split at h
    · rename_i e hu
      split at h
      · rename_i sz hsz; exact aev_indexAddr hT hH t e sz x y o ho hu hsz h
      · simp [aev] at h
    · rename_i m e hu
      split at h
      · rename_i sz hsz
        split at h
        · rename_i hb; exact aev_indexArrB hT hH t e m x y o ho hu hb h
        · exact aev_indexArr hT hH t e m sz x y o ho hu hsz h
      · simp [aev] at h
    · simp [aev] at h
  | index t x y =>
    simp only [cop, ho] at h
    split at h
    · rename_i hu; exact aev_indexStr hT hH t x y o ho hu h
    · rename_i m e hu
      split at h
      · rename_i sz ag hsz hag; exact aev_indexAgg hT hH t e m sz ag x y o ho hu hsz hag h
      · simp [aev] at h
    · simp [aev] at h
  | extract x i => exact aev_extract hT hH x i o ho h
  | call c =>
    simp only [cop, ho] at h
    split at h
    · simp [aev] at h
    split at h
    · rename_i f hb
      split at h
      · rename_i q x y hq hargs
        exact aev_ext hT hH c f x y q o ho hb hargs hq h
      · simp [aev] at h
    · rename_i hb
      split at h
      · rename_i x hu hargs
        obtain ⟨t, ht, hu⟩ := Option.bind_eq_some_iff.1 hu
        exact aev_len hT hH c x t o ho hb hargs ht true (by simpa using hu) h
      · rename_i e x hu hargs
        obtain ⟨t, ht, hu⟩ := Option.bind_eq_some_iff.1 hu
        exact aev_len hT hH c x t o ho hb hargs ht false (by simpa using ⟨e, hu⟩) h
      · rename_i m e x hu hargs
        obtain ⟨t, ht, hu⟩ := Option.bind_eq_some_iff.1 hu
        have ha : c.args = #[x] := by have := congrArg List.toArray hargs; simpa using this
        exact aev_lenArr hH m _ (by simp [execOp, ho, resolve, hb, ha, invoke, builtin, Builtin.len_, ht, run_underlying hu, goInt]) h
      · rename_i t' x hu hargs
        obtain ⟨t, ht, hu⟩ := Option.bind_eq_some_iff.1 hu
        split at h
        · rename_i m e hu'
          have ha : c.args = #[x] := by have := congrArg List.toArray hargs; simpa using this
          exact aev_lenArr hH m _ (by simp [execOp, ho, resolve, hb, ha, invoke, builtin, Builtin.len_, ht, run_underlying hu, run_underlying hu', goInt]) h
        · simp [aev] at h
      · simp [aev] at h
    · rename_i hb; exact aev_minmax hT hH false c o ho (by simpa using hb) h
    · rename_i hb; exact aev_minmax hT hH true c o ho (by simpa using hb) h
    · rename_i hb
      split at h
      · rename_i e e' s x h0 h1 hargs
        obtain ⟨t, ht, hu⟩ := Option.bind_eq_some_iff.1 h0
        obtain ⟨u, ht', hu'⟩ := Option.bind_eq_some_iff.1 h1
        split at h
        · rename_i sz b ag hsz hby hag
          cases hz' : zeroT P e with
          | none => simp [hz', aev] at h
          | some z =>
            simp only [hz'] at h
            split at h
            · rename_i hc
              simp only [Bool.and_eq_true, decide_eq_true_eq, beq_iff_eq, Bool.not_eq_true'] at hc
              obtain ⟨⟨hp, hbp⟩, hz1, hz2⟩ := hc
              exact aev_append hT hH hn c s x t u e e' sz b ag o ho hb hargs ht ht' hu hu' hsz hby z hz' hz1 hz2 hp hbp h
            · simp [aev] at h
        · simp [aev] at h
      · rename_i e s x h0 h1 hargs
        obtain ⟨t, ht, hu⟩ := Option.bind_eq_some_iff.1 h0
        obtain ⟨u, ht', hu'⟩ := Option.bind_eq_some_iff.1 h1
        split at h
        · rename_i he hby hsz
          cases hz' : zeroT P e with
          | none => simp [hz', aev] at h
          | some z =>
            simp only [hz'] at h
            split at h
            · rename_i hc
              simp only [Bool.and_eq_true, beq_iff_eq, Bool.not_eq_true'] at hc
              exact aev_appendStr hT hH hn c s x t u e o ho hb hargs ht ht' hu hu' hsz hby z hz' hc.1 hc.2 h
            · simp [aev] at h
        · simp [aev] at h
      · rename_i e kk s x h0 h1 hargs
        obtain ⟨t, ht, hu⟩ := Option.bind_eq_some_iff.1 h0
        obtain ⟨u, ht', hu'⟩ := Option.bind_eq_some_iff.1 h1
        split at h
        · rename_i sz b z hsz hby hz
          split at h
          · rename_i hc
            simp only [Bool.and_eq_true, decide_eq_true_eq, beq_iff_eq, Bool.not_eq_true'] at hc
            obtain ⟨⟨⟨hp, hbp⟩, hz1⟩, hz2⟩ := hc
            exact aev_appendN hT hH hn c s x t u e kk sz b o ho hb hargs ht ht' hu hu' hsz hby z hz hz1 hz2 hp hbp h
          · simp [aev] at h
        · simp [aev] at h
      · simp [aev] at h
    · rename_i hb
      split at h
      · rename_i e x hu hargs
        obtain ⟨t, ht, hu⟩ := Option.bind_eq_some_iff.1 hu
        exact aev_cap hT hH c x t e o ho hb hargs ht hu h
      · simp [aev] at h
    · split at h
      · split at h <;> simp [aev] at h
      · simp [aev] at h
    · simp [aev] at h
  | makeMap t r =>
    simp only [cop, ho] at h
    split at h
    · rename_i k e kk hm
      cases r with
      | some r => simp [aev] at h
      | none => exact aev_makeMap hH hn t kk o ho h
    · simp [aev] at h
  | lookup t x i ok =>
    simp only [cop, ho] at h
    split at h
    · rename_i k e kk hm
      split at h
      · rename_i z hz
        exact aev_lookup hT hH t k e kk z ok x i o ho hm hz h
      · simp [aev] at h
    · simp [aev] at h
  | mapUpdate t m k x =>
    simp only [cop, ho] at h
    split at h
    · rename_i kt e kk hm
      exact aev_mapUpdate hT hH t kt e kk m k x o (.inl ho) hm h
    · simp [aev] at h
  | insert t m k x =>
    simp only [cop, ho] at h
    split at h
    · rename_i kt e kk hm
      exact aev_mapUpdate hT hH t kt e kk m k x o (.inr ho) hm h
    · simp [aev] at h
  | range t x =>
    simp only [cop, ho] at h
    split at h <;> simp [aev] at h
  | next x b => cases b <;> simp [cop, ho, aev] at h
  | _ => simp [cop, ho, aev] at h
end Go.Sx
/- The logic: states, what holds behind a piece of code, the rules of control. -/
namespace Go.Sx
open Go

structure St where
  ρ : List AVal
  H : Heap
  ms : List Nat := []

def Fw (ro : Option Nat) : Fence := { Fence.wide with round := ro }

def blkOf (μ : Mu) (r : Nat) : Nat := ((μ r).map (·.blk)).getD 0

def Dom (μ : Mu) (H : Heap) : Prop := ∀ r, (μ r).isSome = true → r < H.length

structure Rel (P : Program) (G : Ctx) (μ : Mu) (s : St) (a : Act) (w : World) : Prop where
  tr : TR G μ s.ρ a.tmps
  hr : HR P G μ s.H w
  dom : Dom μ s.H
  mk' : a.defers = s.ms.map fun r => { target := .collected (blkOf μ r), args := #[] }
  mkr : ∀ r ∈ s.ms, s.H[r]? = some (some .dfr)

def Mu.leB (k : Nat) (μ μ' : Mu) : Prop := ∀ r p, r < k → μ r = some p → ∃ p', μ' r = some p' ∧ p.le p'

theorem Mu.leB_of {k : Nat} {μ μ' : Mu} (h : μ.le μ') : Mu.leB k μ μ' := fun r p _ hp => h r p hp
theorem Mu.leB_refl (k : Nat) (μ : Mu) : Mu.leB k μ μ := fun _ p _ hp => ⟨p, hp, .inl rfl⟩
theorem Mu.leB_trans {k : Nat} {a b c : Mu} (h : Mu.leB k a b) (h' : Mu.leB k b c) : Mu.leB k a c := fun r p hr hp => by
  obtain ⟨q, hq, hpq⟩ := h r p hr hp
  obtain ⟨s, hs, hqs⟩ := h' r q hr hq
  refine ⟨s, hs, ?_⟩
  rcases hpq with rfl | ⟨h1, h0, h2, h3⟩
  · exact hqs
  · rcases hqs with rfl | ⟨h4, h7, h5, h6⟩
    · exact .inr ⟨h1, h0, h2, h3⟩
    · exact .inr ⟨h1, h7, h5, by omega⟩
theorem Mu.leB_less {k k' : Nat} {μ μ' : Mu} (h : Mu.leB k μ μ') (hk : k' ≤ k) : Mu.leB k' μ μ' := fun r p hr hp => h r p (by omega) hp

def RdOK (k : Nat) (μ : Mu) : Option Nat → Option Nat → Prop
  | none, ro => ro = none
  | some r, ro => r < k ∧ ∃ p, μ r = some p ∧ p.vec = false ∧ ro = some p.blk

theorem RdOK.mono {k : Nat} {μ μ' : Mu} {rd ro : Option Nat} (h : RdOK k μ rd ro) (hμ : Mu.leB k μ μ') : RdOK k μ' rd ro := by
  cases rd with
  | none => exact h
  | some r =>
    obtain ⟨h0, p, h1, h2, h3⟩ := h
    obtain ⟨p', h4, rfl | ⟨h5, _⟩⟩ := hμ r p h0 h1
    · exact ⟨h0, _, h4, h2, h3⟩
    · simp [h2] at h5

def Post (P : Program) (G : Ctx) (k : Nat) (μ : Mu) (Q : Exit → St → Prop) (e : Exit) (a : Act) (w : World) : Prop :=
  ∃ μ' s, Q e s ∧ Mu.leB k μ μ' ∧ Rel P G μ' s a w

theorem Post.from {P : Program} {G : Ctx} {k : Nat} {μ μ' : Mu} {Q Q' : Exit → St → Prop} {e : Exit} {a : Act} {w : World} (h : Post P G k μ' Q e a w) (hμ : Mu.leB k μ μ') (hq : ∀ s, Q e s → Q' e s) : Post P G k μ Q' e a w :=
  let ⟨μ₂, s, h1, h2, h3⟩ := h; ⟨μ₂, s, hq s h1, Mu.leB_trans hμ h2, h3⟩

def Awp (P : Program) (G : Ctx) (k : Nat) (rd : Option Nat) (c : Code) (Q : Exit → St → Prop) (s : St) : Prop :=
  ∀ μ ro a w, RdOK k μ rd ro → Rel P G μ s a w → c.wpIn (Fw ro) 0 P (Post P G k μ Q) a w

section rules
variable {P : Program} {G : Ctx} {k : Nat} {rd : Option Nat} {Q : Exit → St → Prop} {s : St}

theorem Awp.mono {c : Code} {Q' : Exit → St → Prop} (h : Awp P G k rd c Q s) (hq : ∀ e s, Q e s → Q' e s) : Awp P G k rd c Q' s :=
  fun μ ro a w h1 h2 => wpIn_mono (h μ ro a w h1 h2) fun _ _ _ hp => hp.from (Mu.leB_refl _ _) (hq _)

theorem awp_skip (h : Q .normal s) : Awp P G k rd .skip Q s := fun μ _ _ _ _ h2 => wpIn_skip ⟨μ, s, h, Mu.leB_refl _ _, h2⟩
theorem awp_exit {id : Nat} (h : Q (.exit id) s) : Awp P G k rd (.exit id) Q s := fun μ _ _ _ _ h2 => wpIn_exit ⟨μ, s, h, Mu.leB_refl _ _, h2⟩
theorem awp_goto {l : Nat} (h : Q (.goto l) s) : Awp P G k rd (.goto l) Q s := fun μ _ _ _ _ h2 => wpIn_goto ⟨μ, s, h, Mu.leB_refl _ _, h2⟩
theorem awp_label {l : Nat} (h : Q .normal s) : Awp P G k rd (.label l) Q s := fun μ _ _ _ _ h2 => wpIn_label ⟨μ, s, h, Mu.leB_refl _ _, h2⟩
theorem awp_ret (h : Q .ret s) : Awp P G k rd .ret Q s := fun μ _ _ _ _ h2 => wpIn_ret ⟨μ, s, h, Mu.leB_refl _ _, h2⟩

def andThen (K : St → Prop) (Q : Exit → St → Prop) : Exit → St → Prop
  | .normal, s => K s
  | e, s => Q e s

theorem post_then {F : Fence} {μ : Mu} {ro : Option Nat} {y : Code} (hF : F = Fw ro) (hr : RdOK k μ rd ro) (e : Exit) (a : Act) (w : World) (h : Post P G k μ (andThen (Awp P G k rd y Q) Q) e a w) :
    Exit.then (y.wpIn F 0 P (Post P G k μ Q)) (Post P G k μ Q) e a w := by
  subst hF
  obtain ⟨μ', s', h1, h2, h3⟩ := h
  cases e with
  | normal => exact wpIn_mono (h1 μ' ro a w (hr.mono h2) h3) fun _ _ _ hp => hp.from h2 fun _ h => h
  | _ => exact ⟨μ', s', h1, h2, h3⟩

theorem awp_seq {x y : Code} (h : Awp P G k rd x (andThen (Awp P G k rd y Q) Q) s) : Awp P G k rd (.seq x y) Q s :=
  fun μ ro a w h1 h2 => wpIn_seq (wpIn_mono (h μ ro a w h1 h2) fun e a w hp => post_then rfl h1 e a w hp)

theorem awp_cond {c : Operand} {x y : Code} {t : Bool} (hc : opd s.ρ ((copd P) c) = .bool t) (h1 : t = true → Awp P G k rd x Q s) (h2 : t = false → Awp P G k rd y Q s) : Awp P G k rd (.cond c x y) Q s :=
  fun μ ro a w hr h => wpIn_cond_split ((hc ▸ opd_sound h.hr.glob h.tr c).inv_bool) (fun ht => h1 ht μ ro a w hr h) (fun ht => h2 ht μ ro a w hr h)

def inBlock (id : Nat) (Q : Exit → St → Prop) : Exit → St → Prop
  | .exit id', s => if id' = id then Q .normal s else Q (.exit id') s
  | e, s => Q e s

theorem awp_block {id : Nat} {c : Code} (h : Awp P G k rd c (inBlock id Q) s) : Awp P G k rd (.block id c) Q s :=
  fun μ ro a w h1 h2 => wpIn_block (wpIn_mono (h μ ro a w h1 h2) fun e a w hp => by
    obtain ⟨μ', s', h3, h4, h5⟩ := hp
    cases e with
    | exit id' =>
      simp only [inBlock] at h3
      simp only [Exit.inBlock]
      split
      · rename_i hid; rw [if_pos hid] at h3; exact ⟨μ', s', h3, h4, h5⟩
      · rename_i hid; rw [if_neg hid] at h3; exact ⟨μ', s', h3, h4, h5⟩
    | _ => exact ⟨μ', s', h3, h4, h5⟩)


def LoopW (F : Fence) (P : Program) (c : Code) (Q : Exit → Act → World → Prop) (a : Act) (w : World) : Prop :=
  ∀ (b : Frame) (k : List Item) (cs : List Frame), b.roundOf = F.round → F.fn b.fn → F.room (cs.length + 1 + 0) →
    ∃ e a' w', Q e a' w' ∧ ArrivesIn (Machine.fenced P F) P (lone (b.atR a (.code c :: .inLoop c :: k)) cs w) b k cs e a' w'

theorem wpIn_loopW {F : Fence} {c : Code} {Q : Exit → Act → World → Prop} {a : Act} {w : World} (h : LoopW F P c Q a w) : (Code.loop c).wpIn F 0 P Q a w := by
  intro b k cs hro hb hr
  obtain ⟨e, a', w', hq, harr⟩ := h b k cs hro hb hr
  exact ⟨e, a', w', hq, .of_steps (.one (fenced_calm hb hr rfl) stepR_loop) harr⟩

theorem loopW_round {F : Fence} {c : Code} {Q : Exit → Act → World → Prop} {a : Act} {w : World} (h : c.wpIn F 0 P (Exit.then (LoopW F P c Q) Q) a w) : LoopW F P c Q a w := by
  intro b k cs hro hb hr
  obtain ⟨e, a₁, w₁, hq, harr⟩ := h b (.inLoop c :: k) cs hro hb hr
  cases e with
  | normal =>
    obtain ⟨e₂, a₂, w₂, hq₂, harr₂⟩ := hq b k cs hro hb hr
    exact ⟨e₂, a₂, w₂, hq₂, .of_steps (StepsIn.trans harr (.one (fenced_calm hb hr rfl) stepR_inLoop)) harr₂⟩
  | exit id => exact ⟨_, a₁, w₁, hq, .pass (x := .inLoop c) rfl (fun _ _ => .inl (by simp)) harr⟩
  | goto l => exact ⟨_, a₁, w₁, hq, .pass (x := .inLoop c) rfl (fun _ _ => .inl (by simp)) harr⟩
  | ret => exact ⟨_, a₁, w₁, hq, .pass (x := .inLoop c) rfl (fun _ _ => .inl (by simp)) harr⟩
  | panic ch => exact ⟨_, a₁, w₁, hq, .pass (x := .inLoop c) rfl (fun _ _ => .inl (by simp)) harr⟩
  | outgrown => exact ⟨_, a₁, w₁, hq, .pass (x := .inLoop c) rfl (fun _ _ => .inl (by simp)) harr⟩

theorem LoopW.mono {F : Fence} {c : Code} {Q Q' : Exit → Act → World → Prop} {a : Act} {w : World} (h : LoopW F P c Q a w) (hq : ∀ e a w, Q e a w → Q' e a w) : LoopW F P c Q' a w :=
  fun b k cs h1 h2 h3 => let ⟨e, a', w', h4, h5⟩ := h b k cs h1 h2 h3; ⟨e, a', w', hq _ _ _ h4, h5⟩

def ALoop (P : Program) (G : Ctx) (k : Nat) (rd : Option Nat) (c : Code) (Q : Exit → St → Prop) (s : St) : Prop :=
  ∀ μ ro a w, RdOK k μ rd ro → Rel P G μ s a w → LoopW (Fw ro) P c (Post P G k μ Q) a w

theorem awp_loop {c : Code} (h : ALoop P G k rd c Q s) : Awp P G k rd (.loop c) Q s := fun μ ro a w h1 h2 => wpIn_loopW (h μ ro a w h1 h2)

theorem aloop_round {c : Code} (h : Awp P G k rd c (andThen (ALoop P G k rd c Q) Q) s) : ALoop P G k rd c Q s :=
  fun μ ro a w h1 h2 => loopW_round (wpIn_mono (h μ ro a w h1 h2) fun e a w hp => by
    obtain ⟨μ', s', h3, h4, h5⟩ := hp
    cases e with
    | normal => exact (h3 μ' ro a w (h1.mono h4) h5).mono fun _ _ _ hp => hp.from h4 fun _ h => h
    | _ => exact ⟨μ', s', h3, h4, h5⟩)


def Less (P : Program) (G : Ctx) (k : Nat) (s s' : St) : Prop := ∀ μ a w, Rel P G μ s a w → ∃ μ', Rel P G μ' s' a w ∧ Mu.leB k μ μ'

theorem Less.refl : Less P G k s s := fun μ _ _ h => ⟨μ, h, Mu.leB_refl _ _⟩
theorem Less.trans {s' s'' : St} (h : Less P G k s s') (h' : Less P G k s' s'') : Less P G k s s'' := fun μ a w hr => by
  obtain ⟨μ', h1, h2⟩ := h μ a w hr
  obtain ⟨μ'', h3, h4⟩ := h' μ' a w h1
  exact ⟨μ'', h3, Mu.leB_trans h2 h4⟩

theorem awp_less {c : Code} {s' : St} (hl : Less P G k s s') (h : Awp P G k rd c Q s') : Awp P G k rd c Q s := fun μ ro a w h1 h2 => by
  obtain ⟨μ', h3, h4⟩ := hl μ a w h2
  exact wpIn_mono (h μ' ro a w (h1.mono h4) h3) fun _ _ _ hp => hp.from h4 fun _ h => h

theorem aloop_less {c : Code} {s' : St} (hl : Less P G k s s') (h : ALoop P G k rd c Q s') : ALoop P G k rd c Q s := fun μ ro a w h1 h2 => by
  obtain ⟨μ', h3, h4⟩ := hl μ a w h2
  exact (h μ' ro a w (h1.mono h4) h3).mono fun _ _ _ hp => hp.from h4 fun _ h => h
end rules
end Go.Sx
