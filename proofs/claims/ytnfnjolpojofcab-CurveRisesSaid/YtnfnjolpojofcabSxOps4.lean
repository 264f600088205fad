/- 'aev' is sound: comparisons, conversions, parts of values, lengths. -/
import Derived.Test.YtnfnjolpojofcabSxOps3
import Derived.Laws.StructEq
namespace Go.Sx
open Go

variable {P : Program} {G : Ctx} {μ : Mu} {H : Heap} {n : Nat} {w : World} {ρ : List AVal} {a : Act} {v : AVal} {Δ : List (Nat × Row)}

theorem run_binOp (op : BinOp) (t : TypeId) (x y : Operand) (c d r : Value) (h1 : ∀ vs, c ≠ .agg vs) (h2 : c ≠ .nilIface) (h : (binOp op t c d).run P w = .ok r w) :
    (do eqGuard op t x y c d; binOp op t c d : Sem Value).run P w = .ok r w := by
  simp [run_eqGuard op t x y c d h1 h2, h]

theorem abin_sound (hH : HR P G μ H w) {tk : TK} {op : BinOp} {t : TypeId} {x y : AVal} {c d : Value} (ht : tkOk P tk t) (hx : VR G μ x c) (hy : VR G μ y d) (h : abin H tk op x y = some v) (p q : Operand) :
    ∃ cv, (do eqGuard op t p q c d; binOp op t c d : Sem Value).run P w = .ok cv w ∧ VR G μ v cv := by
  have nilcase : ∀ (b : Bool) , (tk = .slice ∧ y = .nilsl ∨ tk = .ptr ∧ y = .nilptr ∨ tk = .func ∧ y = .nilfn ∨ tk = .map ∧ y = .nilmap) → isNilK H tk x = some b →
      (op = .eql ∧ v = .bool b ∨ op = .neq ∧ v = .bool (!b)) → ∃ cv, (do eqGuard op t p q c d; binOp op t c d : Sem Value).run P w = .ok cv w ∧ VR G μ v cv := by
    intro b hyt hb hv
    obtain ⟨h1, h2, h3, h4⟩ := equal_nil hH hy hyt ht hb hx
    rcases hv with ⟨rfl, rfl⟩ | ⟨rfl, rfl⟩
    · exact ⟨_, run_binOp _ _ _ _ _ _ _ h1 h2 h3, .bool _⟩
    · exact ⟨_, run_binOp _ _ _ _ _ _ _ h1 h2 h4, .bool _⟩
  unfold abin at h
  split at h
  · cases hx; cases hy
    obtain ⟨cv, h1, h2⟩ := abin_int (w := w) (P := P) (G := G) (μ := μ) (t := t) h
    exact ⟨cv, run_binOp _ _ _ _ _ _ _ (by simp) (by simp) h1, h2⟩
  · cases hx; rename_i hs; subst hs
    cases hy; rename_i hs; subst hs
    obtain ⟨cv, h1, h2⟩ := abin_str (w := w) (P := P) (G := G) (μ := μ) (t := t) h
    exact ⟨cv, run_binOp _ _ _ _ _ _ _ (by simp) (by simp) h1, h2⟩
  · cases hx; cases hy
    split at h
    · cases h
      have he := fun a b => eqIn_bool (w := w) ht 9999 a b
      exact ⟨.bool _, run_binOp _ _ _ _ _ _ _ (by simp) (by simp) (by simp [binOp, Op.equal, Op.maxDepth, he]), .bool _⟩
    · cases h
      have he := fun a b => eqIn_bool (w := w) ht 9999 a b
      exact ⟨.bool _, run_binOp _ _ _ _ _ _ _ (by simp) (by simp) (by simp [binOp, Op.equal, Op.maxDepth, he]), .bool _⟩
    · cases h
  · split at h
    · rename_i t' ht'
      split at h
      · rename_i htk
        subst htk
        have hyt : tk = .slice ∧ y = .nilsl ∨ tk = .ptr ∧ y = .nilptr ∨ tk = .func ∧ y = .nilfn ∨ tk = .map ∧ y = .nilmap := by
          unfold nilTk at ht'
          split at ht' <;> cases ht' <;> simp
        split at h
        · simp only [Option.map_eq_some_iff] at h
          obtain ⟨b, hb, rfl⟩ := h
          exact nilcase b hyt hb (.inl ⟨rfl, rfl⟩)
        · simp only [Option.map_eq_some_iff] at h
          obtain ⟨b, hb, rfl⟩ := h
          exact nilcase b hyt hb (.inr ⟨rfl, rfl⟩)
        · cases h
      · cases h
    · cases h

theorem aev_bin (hT : TR G μ ρ a.tmps) (hH : HR P G μ H w) (op : BinOp) (t yt : TypeId) (x y : Operand) (o : Oper) (ho : o.op = .binOp op t x y yt) (tk : TK) (ht : tkOk P tk t)
    (h : aev (.bin tk op (copd x) (copd y)) ρ H n = some (v, Δ)) : Step P G μ H n (execOp a.eval o) w v Δ := by
  have hex : execOp a.eval o = (do let r ← (do eqGuard op t x y (a.eval x) (a.eval y); binOp op t (a.eval x) (a.eval y)); pure (.value r)) := by simp only [execOp, ho]
  rw [hex]
  simp only [aev] at h
  obtain ⟨hb, rfl⟩ := map_nil h
  obtain ⟨cv, h1, h2⟩ := abin_sound hH ht (opd_sound hT x) (opd_sound hT y) hb x y
  exact Step.pure (cv := cv) hH (by rw [Sem.run_bind, h1]; simp) h2

theorem part_sound {t : TypeId} {k : Option Nat} (hk : lkind P t = some k) {cs : List AVal} {vs : Array Value} {off : Nat} (hl : cs.length = vs.size)
    (hv : ∀ j, j < cs.length → VR G μ (cs.getD j .any) (vs.getD j undef)) (h : partOf cs off k = some v) : ∃ cv, (part t vs off).run P w = .ok cv w ∧ VR G μ v cv := by
  have hr := lkind_run (w := w) hk
  cases k with
  | none =>
    simp only [partOf] at h
    obtain ⟨hi, he⟩ := List.getElem?_eq_some_iff.1 h
    have hi' : off < vs.size := by omega
    have := hv off hi
    rw [Array.getD_eq_getD_getElem?, List.getD_eq_getElem?_getD, h] at this
    exact ⟨vs[off], by simp [part, hr, hi'], by simpa [hi'] using this⟩
  | some m =>
    simp only [partOf] at h
    split at h
    · rename_i hm
      cases h
      refine ⟨.agg (vs.extract off (off + m)), by simp [part, hr.1, hr.2], .agg _ _ (by simp; omega) fun i hi => ?_⟩
      have hi' : i < m := by simp at hi; omega
      have := hv (off + i) (by omega)
      rw [Array.getD_eq_getD_getElem?, List.getD_eq_getElem?_getD] at this ⊢
      rw [List.getElem?_take_of_lt hi', List.getElem?_drop]
      have e : (vs.extract off (off + m))[i]? = vs[off + i]? := by
        rw [Array.getElem?_extract, if_pos (by omega)]
      rw [e]; exact this
    · cases h

theorem eqCell_run {k : ECell} {x y : AVal} {c d : Value} {b : Bool} (h : eqCell k x y = some b) (hx : VR G μ x c) (hy : VR G μ y d) :
    (∃ q m m', k = .int ∧ c = .int q m ∧ d = .int q m' ∧ b = (m == m')) ∨ (∃ p q, k = .bool ∧ c = .bool p ∧ d = .bool q ∧ b = (p == q)) ∨ (∃ p q : ByteArray, k = .str ∧ c = .string p ∧ d = .string q ∧ b = (p.data.toList == q.data.toList)) := by
  unfold eqCell at h
  split at h
  · cases hx; cases hy
    split at h
    · rename_i hk; subst hk; cases h; exact .inl ⟨_, _, _, rfl, rfl, rfl, rfl⟩
    · cases h
  · cases hx; cases hy; cases h; exact .inr (.inl ⟨_, _, rfl, rfl, rfl, rfl⟩)
  · cases hx; rename_i h1; subst h1; cases hy; rename_i h1; subst h1; cases h; exact .inr (.inr ⟨_, _, rfl, rfl, rfl, rfl⟩)
  · cases h

theorem eqCell_plain {k : ECell} {x y : AVal} {b : Bool} (h : eqCell k x y = some b) : acells x = [x] ∧ acells y = [y] := by
  unfold eqCell at h
  split at h <;> first | exact ⟨rfl, rfl⟩ | cases h

theorem eqCells_len {ks : List ECell} {X Y : List AVal} {b : Bool} (h : eqCells ks X Y = some b) : ks.length = X.length ∧ ks.length = Y.length := by
  induction ks generalizing X Y b with
  | nil => cases X <;> cases Y <;> simp [eqCells] at h ⊢
  | cons k ks ih =>
    cases X with
    | nil => simp [eqCells] at h
    | cons x X =>
      cases Y with
      | nil => simp [eqCells] at h
      | cons y Y =>
        simp only [eqCells] at h
        split at h
        · rename_i p q hp hq
          obtain ⟨h1, h2⟩ := ih hq
          simp [h1, h2]
          omega
        · cases h

theorem eqCells_append {ks ks' : List ECell} {A A' B B' : List AVal} {b : Bool} (h1 : ks.length = A.length) (h2 : ks.length = A'.length) (h : eqCells (ks ++ ks') (A ++ B) (A' ++ B') = some b) :
    ∃ p q, eqCells ks A A' = some p ∧ eqCells ks' B B' = some q ∧ b = (p && q) := by
  induction ks generalizing A A' b with
  | nil =>
    obtain rfl : A = [] := by cases A <;> simp at h1 ⊢
    obtain rfl : A' = [] := by cases A' <;> simp at h2 ⊢
    exact ⟨true, b, rfl, by simpa using h, by simp⟩
  | cons k ks ih =>
    cases A with
    | nil => simp at h1
    | cons x A =>
      cases A' with
      | nil => simp at h2
      | cons y A' =>
        simp only [List.cons_append, eqCells] at h
        split at h
        · rename_i p q hp hq
          obtain ⟨p', q', k1, k2, k3⟩ := ih (by simpa using h1) (by simpa using h2) hq
          cases h
          exact ⟨p && p', q', by simp [eqCells, hp, k1], k2, by rw [k3, Bool.and_assoc]⟩
        · cases h

/-- Equality at a type of plain cells. -/
def EqOK (P : Program) (G : Ctx) (μ : Mu) (d : Nat) (t : TypeId) (ks : List ECell) : Prop :=
  ∀ (D : Nat), d ≤ D → ∀ (x y : AVal) (c e : Value) (b : Bool) (w : World), VR G μ x c → VR G μ y e → (isAggT P t = some true → x.isAgg = true ∧ y.isAgg = true) → (isAggT P t = some false → acells x = [x] ∧ acells y = [y]) →
    eqCells ks (acells x) (acells y) = some b → (Op.equalIn D t c e).run P w = .ok b w

theorem eqCellsT_kind {d : Nat} {t : TypeId} {ks : List ECell} (h : eqCellsT P d t = some ks) (hs : sizeT P t = some ks.length) :
    ∃ kk, lkind P t = some kk ∧ ((kk = some ks.length ∧ isAggT P t = some true) ∨ (kk = none ∧ ks.length = 1 ∧ isAggT P t = some false)) := by
  cases d with
  | zero => simp [eqCellsT] at h
  | succ d =>
    simp only [eqCellsT] at h
    unfold lkind isAggT
    split at h
    · rename_i hu; cases h; exact ⟨none, by simp [hu], .inr ⟨rfl, rfl, by simp [hu]⟩⟩
    · rename_i hu; cases h; exact ⟨none, by simp [hu], .inr ⟨rfl, rfl, by simp [hu]⟩⟩
    · rename_i hu; cases h; exact ⟨none, by simp [hu], .inr ⟨rfl, rfl, by simp [hu]⟩⟩
    · rename_i hu; exact ⟨some ks.length, by simp [hu, hs], .inl ⟨rfl, by simp [hu]⟩⟩
    · cases h

theorem eqFields_run (d : Nat) (ih : ∀ t m, eqCellsT P d t = some m → EqOK P G μ d t m) (D : Nat) (hD : d ≤ D) (X Y : List AVal) (xs ys : Array Value)
    (hx : X.length = xs.size) (hy : Y.length = ys.size) (vx : ∀ i, i < X.length → VR G μ (X.getD i .any) (xs.getD i undef)) (vy : ∀ i, i < Y.length → VR G μ (Y.getD i .any) (ys.getD i undef)) :
    ∀ (fs : List Field) (off : Nat) (ks : List ECell) (b : Bool), off ≤ X.length → off ≤ Y.length → fieldsT P (eqCellsT P d) off fs = some ks → eqCells ks (X.drop off) (Y.drop off) = some b →
      (Op.eqFields D xs ys fs).run P w = .ok b w := by
  intro fs
  induction fs with
  | nil =>
    intro off ks b ho1 ho2 hm h
    simp only [fieldsT, Option.some.injEq] at hm
    subst hm
    have hl := eqCells_len h
    have e1 : X.drop off = [] := List.eq_nil_of_length_eq_zero (by rw [← hl.1]; rfl)
    have e2 : Y.drop off = [] := List.eq_nil_of_length_eq_zero (by rw [← hl.2]; rfl)
    rw [e1, e2] at h
    simp only [eqCells, Option.some.injEq] at h
    subst h
    simp [Op.eqFields]
  | cons f fs ihf =>
    intro off ks b ho1 ho2 hm h
    simp only [fieldsT] at hm
    split at hm
    · rename_i hf
      obtain ⟨hoff, hname⟩ := hf
      split at hm
      · rename_i k hk
        split at hm
        · rename_i hsz
          simp only [Option.map_eq_some_iff] at hm
          obtain ⟨m', hm', rfl⟩ := hm
          have hl := eqCells_len h
          simp only [List.length_append, List.length_drop] at hl
          have e1 : X.drop off = (X.drop off).take k.length ++ X.drop (off + k.length) := by rw [← List.drop_drop, List.take_append_drop]
          have e2 : Y.drop off = (Y.drop off).take k.length ++ Y.drop (off + k.length) := by rw [← List.drop_drop, List.take_append_drop]
          rw [e1, e2] at h
          obtain ⟨p, q, h1, h2, rfl⟩ := eqCells_append (by simp; omega) (by simp; omega) h
          have hrest := ihf (off + k.length) m' q (by omega) (by omega) hm' h2
          have hok := ih f.type k hk
          obtain ⟨kk, hlk, hcase⟩ := eqCellsT_kind hk hsz
          have hgo : ∀ vx' vy', partOf X off kk = some vx' → partOf Y off kk = some vy' → (isAggT P f.type = some true → vx'.isAgg = true ∧ vy'.isAgg = true) → (isAggT P f.type = some false → acells vx' = [vx'] ∧ acells vy' = [vy']) →
              eqCells k (acells vx') (acells vy') = some p → (Op.eqFields D xs ys (f :: fs)).run P w = .ok (p && q) w := by
            intro vx' vy' hpx hpy ha1 ha2 he
            obtain ⟨c1, hr1, hv1⟩ := part_sound (w := w) hlk hx vx hpx
            obtain ⟨c2, hr2, hv2⟩ := part_sound (w := w) hlk hy vy hpy
            have hq := hok D hD vx' vy' c1 c2 p w hv1 hv2 ha1 ha2 he
            subst hoff
            cases p
            · simp [Op.eqFields, hname, hr1, hr2, hq]
            · simp [Op.eqFields, hname, hr1, hr2, hq, hrest]
          rcases hcase with ⟨rfl, hagg⟩ | ⟨rfl, hk1, hagg⟩
          · refine hgo (.agg ((X.drop off).take k.length)) (.agg ((Y.drop off).take k.length)) ?_ ?_ (fun _ => ⟨rfl, rfl⟩) (fun h' => by rw [hagg] at h'; cases h') h1
            · simp only [partOf]; rw [if_pos (by omega)]
            · simp only [partOf]; rw [if_pos (by omega)]
          · have hxo : off < X.length := by omega
            have hyo : off < Y.length := by omega
            rw [hk1] at h1
            have e3 : (X.drop off).take 1 = [X[off]] := by rw [List.take_one]; simp [hxo]
            have e4 : (Y.drop off).take 1 = [Y[off]] := by rw [List.take_one]; simp [hyo]
            rw [e3, e4] at h1
            obtain ⟨kc, rfl⟩ : ∃ kc, k = [kc] := by
              match k, hk1 with
              | [kc], _ => exact ⟨kc, rfl⟩
            have h1' := h1
            simp only [eqCells] at h1'
            split at h1'
            · rename_i r s hr hs
              obtain ⟨ax, ay⟩ := eqCell_plain hr
              exact hgo X[off] Y[off] (by simp [partOf, hxo]) (by simp [partOf, hyo]) (fun h' => by rw [hagg] at h'; cases h') (fun _ => ⟨ax, ay⟩) (by rw [ax, ay]; exact h1)
            · cases h1'
        · cases hm
      · cases hm
    · cases hm

theorem eqOK : ∀ (d : Nat) (t : TypeId) (m : List ECell), eqCellsT P d t = some m → EqOK P G μ d t m := by
  intro d
  induction d with
  | zero => intro t m h; simp [eqCellsT] at h
  | succ d ih =>
    intro t m h D hD x y c e b w hx hy ha1 ha2 he
    obtain ⟨D, rfl⟩ : ∃ D', D = D' + 1 := ⟨D - 1, by omega⟩
    simp only [eqCellsT] at h
    have scalar : ∀ k, m = [k] → isAggT P t = some false → eqCell k x y = some b := by
      rintro k rfl hag
      obtain ⟨h1, h2⟩ := ha2 hag
      rw [h1, h2] at he
      simp only [eqCells] at he
      split at he
      · rename_i p q hp hq
        cases hq
        simp only [Bool.and_true] at he
        rw [hp]; exact he
      · cases he
    split at h
    · rename_i hu
      cases h
      rcases eqCell_run (scalar _ rfl (by simp [isAggT, hu])) hx hy with ⟨k, i, j, h0, rfl, rfl, rfl⟩ | ⟨p, q, h0, rfl, rfl, rfl⟩ | ⟨p, q, h0, rfl, rfl, rfl⟩ <;> cases h0
      simp [Op.equalIn, run_underlying hu]
    · rename_i hu
      cases h
      rcases eqCell_run (scalar _ rfl (by simp [isAggT, hu])) hx hy with ⟨k, i, j, h0, rfl, rfl, rfl⟩ | ⟨p, q, h0, rfl, rfl, rfl⟩ | ⟨p, q, h0, rfl, rfl, rfl⟩ <;> cases h0
      simp [Op.equalIn, run_underlying hu]
    · rename_i hu
      cases h
      rcases eqCell_run (scalar _ rfl (by simp [isAggT, hu])) hx hy with ⟨k, i, j, h0, rfl, rfl, rfl⟩ | ⟨p, q, h0, rfl, rfl, rfl⟩ | ⟨p, q, h0, rfl, rfl, rfl⟩ <;> cases h0
      simp only [Op.equalIn, Sem.run_bind, run_underlying hu, Result.andThen_ok, Sem.run_pure]
      rw [beq_toListBytes, Lib.toList_data, Lib.toList_data]
    · rename_i fs hu
      split at h
      · cases h
      · rename_i hst
        obtain ⟨h1, h2⟩ := ha1 (by simp [isAggT, hu])
        cases x <;> simp [AVal.isAgg] at h1
        cases y <;> simp [AVal.isAgg] at h2
        obtain ⟨xs, rfl, hxl, hxv⟩ := hx.inv_agg
        obtain ⟨ys, rfl, hyl, hyv⟩ := hy.inv_agg
        have hf : P.fieldsOf t = fs := by simp [Program.fieldsOf, hu]
        rw [run_equalIn_struct w D t xs ys (by rw [hf]; exact hu) (by simpa using hst), hf]
        exact eqFields_run d ih D (by omega) _ _ xs ys hxl hyl hxv hyv _ 0 m b (Nat.zero_le _) (Nat.zero_le _) h he
    · cases h

theorem aev_eqAgg (hT : TR G μ ρ a.tmps) (hH : HR P G μ H w) (op : BinOp) (neg : Bool) (hop : op = .eql ∧ neg = false ∨ op = .neq ∧ neg = true) (t yt : TypeId) (x y : Operand) (o : Oper) (ho : o.op = .binOp op t x y yt)
    (ks : List ECell) (hk : eqCellsT P 4 t = some ks) (hg : P.eqGuardType P.depth t = false) (hag : isAggT P t = some true)
    (h : aev (.eqAgg neg ks (copd x) (copd y)) ρ H n = some (v, Δ)) : Step P G μ H n (execOp a.eval o) w v Δ := by
  have hex : execOp a.eval o = (do let r ← (do eqGuard op t x y (a.eval x) (a.eval y); binOp op t (a.eval x) (a.eval y)); pure (.value r)) := by simp only [execOp, ho]
  rw [hex]
  simp only [aev] at h
  split at h
  · rename_i A B hA hB
    obtain ⟨hb, rfl⟩ := map_nil h
    simp only [Option.map_eq_some_iff] at hb
    obtain ⟨b, hb, rfl⟩ := hb
    have hx := hA ▸ opd_sound hT x
    have hy := hB ▸ opd_sound hT y
    have he := eqOK 4 t ks hk (9999 + 1) (by omega) (.agg A) (.agg B) _ _ b w hx hy (fun _ => ⟨rfl, rfl⟩) (fun h' => by rw [hag] at h'; cases h') hb
    obtain ⟨xs, hxe, hxl, hxv⟩ := hx.inv_agg
    obtain ⟨ys, hye, hyl, hyv⟩ := hy.inv_agg
    rw [hxe, hye] at he ⊢
    have hgr := run_eqGuard_agg (w := w) op t x y xs ys hg
    have he' : (Op.equal t (.agg xs) (.agg ys)).run P w = .ok b w := he
    rcases hop with ⟨rfl, rfl⟩ | ⟨rfl, rfl⟩
    · exact Step.pure (cv := .bool b) hH (by simp [hgr, binOp, he']) (.bool _)
    · exact Step.pure (cv := .bool (!b)) hH (by simp [hgr, binOp, he']) (.bool _)
  · cases h

theorem aev_field (hT : TR G μ ρ a.tmps) (hH : HR P G μ H w) (t : TypeId) (x : Operand) (i : Nat) (o : Oper) (ho : o.op = .field t x i)
    (h : aev (cop P o) ρ H n = some (v, Δ)) : Step P G μ H n (execOp a.eval o) w v Δ := by
  have hex : execOp a.eval o = (do pure (.value (← Instr.field t (a.eval x) i))) := by simp only [execOp, ho]
  rw [hex]
  simp only [cop, ho] at h
  split at h
  · rename_i fs hu
    split at h
    · rename_i f hf
      split at h
      · rename_i k hk
        simp only [aev] at h
        split at h
        · rename_i cs hcs
          obtain ⟨hp, rfl⟩ := map_nil h
          obtain ⟨vs, hvs, hl, hv⟩ := (hcs ▸ opd_sound hT x).inv_agg
          obtain ⟨cv, hr, hvr⟩ := part_sound (w := w) hk hl hv hp
          exact Step.pure (cv := cv) hH (by simp [Instr.field, run_underlying hu, hf, hvs, asAgg, hr]) hvr
        · cases h
      · simp [aev] at h
    · simp [aev] at h
  · simp [aev] at h

theorem aev_extract (hT : TR G μ ρ a.tmps) (hH : HR P G μ H w) (x : Operand) (i : Nat) (o : Oper) (ho : o.op = .extract x i)
    (h : aev (cop P o) ρ H n = some (v, Δ)) : Step P G μ H n (execOp a.eval o) w v Δ := by
  have hex : execOp a.eval o = (do pure (.value (← Instr.extract (a.eval x) i))) := by simp only [execOp, ho]
  rw [hex]
  simp only [cop, ho, aev] at h
  split at h
  · rename_i vs hvs
    obtain ⟨hp, rfl⟩ := map_nil h
    obtain ⟨us, hus, hl, hv⟩ := (hvs ▸ opd_sound hT x).inv_tup
    obtain ⟨hi, he⟩ := List.getElem?_eq_some_iff.1 hp
    have hv := hv i hi
    have hi' : i < us.size := by omega
    refine Step.pure (cv := us[i]) hH (by simp [Instr.extract, hus, hi']) ?_
    rw [Array.getD_eq_getD_getElem?, List.getD_eq_getElem?_getD, hp] at hv
    simpa [hi'] using hv
  · cases h

theorem aev_not (hT : TR G μ ρ a.tmps) (hH : HR P G μ H w) (t : TypeId) (x : Operand) (o : Oper) (ho : o.op = .unOp .not t x)
    (h : aev (cop P o) ρ H n = some (v, Δ)) : Step P G μ H n (execOp a.eval o) w v Δ := by
  have hex : execOp a.eval o = (do pure (.value (← Op.unary .not (a.eval x)))) := by simp only [execOp, ho]
  rw [hex]
  simp only [cop, ho, aev] at h
  split at h
  · rename_i b hb
    obtain ⟨rfl, rfl⟩ := some_nil h
    have := (hb ▸ opd_sound hT x).inv_bool
    exact Step.pure (cv := .bool (!b)) hH (by simp [this, Op.unary]) (.bool _)
  · cases h

theorem aev_neg (hT : TR G μ ρ a.tmps) (hH : HR P G μ H w) (t : TypeId) (x : Operand) (o : Oper) (ho : o.op = .unOp .neg t x)
    (h : aev (cop P o) ρ H n = some (v, Δ)) : Step P G μ H n (execOp a.eval o) w v Δ := by
  have hex : execOp a.eval o = (do pure (.value (← Op.unary .neg (a.eval x)))) := by simp only [execOp, ho]
  rw [hex]
  simp only [cop, ho, aev] at h
  split at h
  · rename_i k b hb
    obtain ⟨rfl, rfl⟩ := some_nil h
    have := (hb ▸ opd_sound hT x).inv_int
    exact Step.pure (cv := .int k (k.wrap (0 - b))) hH (by simp [this, Op.unary, Op.intArith]) (.int _ _)
  · cases h

theorem aev_makeFunc (hT : TR G μ ρ a.tmps) (hH : HR P G μ H w) (f : Fn) (x y : Array Operand) (o : Oper) (ho : o.op = .makeFunc f x y)
    (h : aev (cop P o) ρ H n = some (v, Δ)) : Step P G μ H n (execOp a.eval o) w v Δ := by
  have hex : execOp a.eval o = (do pure (.value (← Instr.makeFunc f (x.map a.eval) (y.map a.eval)))) := by simp only [execOp, ho]
  rw [hex]
  simp only [cop, ho, aev] at h
  obtain ⟨rfl, rfl⟩ := some_nil h
  have key : ∀ (z : Array Operand) (i : Nat), i < ((z.toList.map copd).map (opd ρ)).length → VR G μ (((z.toList.map copd).map (opd ρ)).getD i .any) ((z.map a.eval).getD i undef) := by
    intro z i hi
    have hi' : i < z.size := by simpa using hi
    rw [Array.getD_eq_getD_getElem?, List.getD_eq_getElem?_getD]
    simpa [hi'] using opd_sound hT z[i]
  exact Step.pure (cv := .func f (x.map a.eval) (y.map a.eval)) hH (by simp [Instr.makeFunc]) (.fn _ _ _ _ _ (by simp) (by simp) (key x) (key y))
end Go.Sx
