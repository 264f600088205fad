/- A call that sees the caller's rows as memory that is only read. -/
import Derived.Test.YtnfnjolpojofcabSxLocal
namespace Go.Sx
open Go

/-- A value whose rows are read off a heap. -/
def frz : Nat → Heap → AVal → AVal
  | 0, _, .agg cs => .agg (cs.map fun _ => .any)
  | 0, _, _ => .any
  | d + 1, H, .sl r off len => match H.cellsAt r with
    | some (g, _, es) => if (g = false ∨ off + len = es.length) ∧ off + len ≤ es.length then .view (((es.drop off).take len).map (frz d H)) else .any
    | none => .any
  | d + 1, H, .ptr r i off L => match H.cellsAt r with
    | some (g, _, es) => if g = false ∨ L = es.length then (match es[i]? with | some e => .rptr (frz d H e) off | none => .any) else .any
    | none => .any
  | d + 1, H, .rptr e off => .rptr (frz d H e) off
  | d + 1, H, .view es => .view (es.map (frz d H))
  | d + 1, H, .fn f a b => .fn f (a.map (frz d H)) (b.map (frz d H))
  | d + 1, H, .iface t v => .iface t (frz d H v)
  | d + 1, H, .agg cs => .agg (cs.map (frz d H))
  | d + 1, H, .tup cs => .tup (cs.map (frz d H))
  | _ + 1, _, .yfn _ => .any
  | _ + 1, _, .mp _ => .any
  | _ + 1, _, v => v

/-- A value that looks into no memory that is only read. -/
inductive NV : AVal → Prop where
  | any : NV .any
  | bool (b : Bool) : NV (.bool b)
  | int (q : IntKind) (n : Int) : NV (.int q n)
  | str (l : List UInt8) : NV (.str l)
  | ptr (r i off L : Nat) : NV (.ptr r i off L)
  | nilptr : NV .nilptr
  | sl (r off len : Nat) : NV (.sl r off len)
  | nilsl : NV .nilsl
  | viewnil : NV (.view [])
  | fn (f : Go.Fn) (a b : List AVal) (va : ∀ i, i < a.length → NV (a.getD i .any)) (vb : ∀ i, i < b.length → NV (b.getD i .any)) : NV (.fn f a b)
  | yfn (r : Nat) : NV (.yfn r)
  | nilfn : NV .nilfn
  | iface (t : TypeId) (v : AVal) (h : NV v) : NV (.iface t v)
  | niliface : NV .niliface
  | agg (cs : List AVal) (hv : ∀ i, i < cs.length → NV (cs.getD i .any)) : NV (.agg cs)
  | tup (cs : List AVal) (hv : ∀ i, i < cs.length → NV (cs.getD i .any)) : NV (.tup cs)
  | mp (r : Nat) : NV (.mp r)
  | nilmap : NV .nilmap

def Row.nv : Row → Prop
  | .cells _ _ es => ∀ i j, i < es.length → j < (acells (es.getD i .any)).length → NV ((acells (es.getD i .any)).getD j .any)
  | .loop ρ _ _ _ _ _ _ => ∀ t, t < ρ.length → NV (ρ.getD t .any)
  | .dfr => True
  | .siter _ _ => True

section
variable {P : Program} {G G' : Ctx} {μ : Mu}

theorem VR.nv {v : AVal} {c : Value} (h : VR G μ v c) (hn : NV v) : VR G' μ v c := by
  induction h with
  | any c => exact .any c
  | bool b => exact .bool b
  | int k n => exact .int k n
  | str l s h => exact .str l s h
  | ptr r i off L p c hp hL ho hc => exact .ptr r i off L p c hp hL ho hc
  | rptr e off b o f hb hf _ ih => cases hn
  | nilptr => exact .nilptr
  | sl r off len p c hp hvec hL ho hc => exact .sl r off len p c hp hvec hL ho hc
  | view es b o sz cap f hb hcap hs hf _ ih => cases hn; exact .viewnil _ _
  | viewnil a cap => exact .viewnil a cap
  | nilsl => exact .nilsl
  | fn f a b a' b' ha hb _ _ iha ihb => cases hn with | fn _ _ _ va vb => exact .fn f a b a' b' ha hb (fun i hi => iha i hi (va i hi)) fun i hi => ihb i hi (vb i hi)
  | yfn r p hp hv => exact .yfn r p hp hv
  | nilfn => exact .nilfn
  | iface t v c _ ih => cases hn with | iface _ _ h => exact .iface t v c (ih h)
  | niliface => exact .niliface
  | agg cs vs hl _ ih => cases hn with | agg _ hv => exact .agg cs vs hl fun i hi => ih i hi (hv i hi)
  | tup cs vs hl _ ih => cases hn with | tup _ hv => exact .tup cs vs hl fun i hi => ih i hi (hv i hi)
  | mp r p hp hv => exact .mp r p hp hv
  | nilmap => exact .nilmap

theorem RowIs.nv {p : Place} {hp : Array Obj} {x : Row} (h : RowIs P G μ p hp x) (hn : x.nv) : RowIs P G' μ p hp x := by
  cases x with
  | cells g sz es =>
    obtain ⟨h1, h2, hg, C, ty, h3, h4, h5⟩ := h
    refine ⟨h1, h2, hg, C, ty, h3, h4, fun i hi => ⟨(h5 i hi).1, fun j hj => ?_⟩⟩
    obtain ⟨c, k1, k2⟩ := (h5 i hi).2 j hj
    exact ⟨c, k1, k2.nv (hn i j hi (by rw [(h5 i hi).1]; exact hj))⟩
  | loop ρ ps asg body d st pend =>
    obtain ⟨h0, r, h1, h2, h3, h4, h5, h6, h7, h8, h9⟩ := h
    exact ⟨h0, r, h1, h2, h3, h4, h5, h6, h7, fun t ht => (h8 t ht).nv (hn t ht), h9⟩
  | dfr => exact h
  | siter s pos => exact h

theorem map_getD (f : AVal → AVal) (l : List AVal) (i : Nat) (h : i < l.length) : (l.map f).getD i .any = f (l.getD i .any) := by
  rw [List.getD_eq_getElem?_getD, List.getD_eq_getElem?_getD, List.getElem?_map, List.getElem?_eq_getElem h]; rfl

theorem frz_agg {d : Nat} {H : Heap} {v : AVal} {cs : List AVal} (h : frz d H v = .agg cs) : ∃ cs', v = .agg cs' := by
  cases d <;> cases v <;> simp only [frz] at h <;> first
    | exact ⟨_, rfl⟩
    | (cases h; done)
    | (exfalso; repeat' split at h
       all_goals cases h)

theorem acells_one {v : AVal} (h : ¬ ∃ cs, v = .agg cs) : acells v = [v] := by
  cases v <;> first | rfl | exact absurd ⟨_, rfl⟩ h

theorem acells_frz (d : Nat) (H : Heap) (v : AVal) : (acells (frz d H v)).length = (acells v).length := by
  by_cases hv : ∃ cs, v = .agg cs
  · obtain ⟨cs, rfl⟩ := hv
    cases d <;> simp only [frz, acells, List.length_map]
  · rw [acells_one hv, acells_one fun ⟨cs, h⟩ => hv (frz_agg h)]; rfl

/-- The cells of a value that is read are those of the value. -/
theorem frz_cells {d : Nat} {H : Heap} {v : AVal} {j : Nat} {c : Value} (ih : ∀ d' v c, d' ≤ d → VR G μ v c → VR G' (fun _ => none) (frz d' H v) c) (hj : j < (acells v).length) (h : VR G μ ((acells v).getD j .any) c) :
    VR G' (fun _ => none) ((acells (frz d H v)).getD j .any) c := by
  by_cases hv : ∃ cs, v = .agg cs
  · obtain ⟨cs, rfl⟩ := hv
    simp only [acells] at hj h
    cases d with
    | zero =>
      simp only [frz, acells]
      rw [List.getD_eq_getElem?_getD, List.getElem?_map, List.getElem?_eq_getElem hj]
      exact .any _
    | succ d =>
      simp only [frz, acells]
      rw [map_getD _ _ _ hj]
      exact ih d _ _ (by omega) h
  · have e1 : acells v = [v] := acells_one hv
    have e2 : acells (frz d H v) = [frz d H v] := acells_one fun ⟨cs, h⟩ => hv (frz_agg h)
    rw [e1] at hj h
    simp only [List.length_singleton] at hj
    obtain rfl : j = 0 := by omega
    rw [e2]
    exact ih d v c (Nat.le_refl _) (by simpa using h)

theorem frz_vr {H : Heap} {w : World} (hH : HR P G μ H w) (hw : G'.w0 = w) (hro : ∀ b, G.ro b → G'.ro b) (hrow : ∀ (r : Nat) (x : Row) (p : Place), H[r]? = some (some x) → μ r = some p → G'.ro p.blk) :
    ∀ (d : Nat) (v : AVal) (c : Value), VR G μ v c → VR G' (fun _ => none) (frz d H v) c := by
  have hcell : ∀ b o, G.ro b → G'.w0.cell? ⟨b, o, none⟩ = G.w0.cell? ⟨b, o, none⟩ := fun b o hb => by
    rw [hw]
    simp only [World.cell?, (hH.kept b (hH.ro b hb)).2]
  intro d
  induction d using Nat.strongRecOn with
  | ind d ih =>
    intro v c h
    cases d with
    | zero =>
      by_cases hv : ∃ cs, v = .agg cs
      · obtain ⟨cs, rfl⟩ := hv
        cases h with | agg _ vs hl hv =>
        simp only [frz]
        refine .agg _ _ (by simpa using hl) fun i hi => ?_
        rw [List.getD_eq_getElem?_getD, List.getElem?_map, List.getElem?_eq_getElem (by simpa using hi)]
        exact .any _
      · have : frz 0 H v = .any := by cases v <;> simp only [frz] at hv ⊢ <;> exact absurd ⟨_, rfl⟩ hv
        rw [this]; exact .any _
    | succ d =>
      have ih' : ∀ d' v c, d' ≤ d → VR G μ v c → VR G' (fun _ => none) (frz d' H v) c := fun d' v c hd h => ih d' (by omega) v c h
      cases h with
      | any c => exact .any c
      | bool b => exact .bool b
      | int k n => exact .int k n
      | str l s h => exact .str l s h
      | nilptr => exact .nilptr
      | nilsl => exact .nilsl
      | nilfn => exact .nilfn
      | niliface => exact .niliface
      | nilmap => exact .nilmap
      | yfn r p hp hv => exact .any _
      | mp r p hp hv => exact .any _
      | iface t v c h => simp only [frz]; exact .iface t _ c (ih' d _ _ (Nat.le_refl _) h)
      | agg cs vs hl hv =>
        simp only [frz]
        refine .agg _ _ (by simpa using hl) fun i hi => ?_
        rw [map_getD _ _ _ (by simpa using hi)]
        exact ih' d _ _ (Nat.le_refl _) (hv i (by simpa using hi))
      | tup cs vs hl hv =>
        simp only [frz]
        refine .tup _ _ (by simpa using hl) fun i hi => ?_
        rw [map_getD _ _ _ (by simpa using hi)]
        exact ih' d _ _ (Nat.le_refl _) (hv i (by simpa using hi))
      | fn f a b a' b' ha hb va vb =>
        simp only [frz]
        refine .fn f _ _ _ _ (by simpa using ha) (by simpa using hb) (fun i hi => ?_) fun i hi => ?_
        · rw [map_getD _ _ _ (by simpa using hi)]; exact ih' d _ _ (Nat.le_refl _) (va i (by simpa using hi))
        · rw [map_getD _ _ _ (by simpa using hi)]; exact ih' d _ _ (Nat.le_refl _) (vb i (by simpa using hi))
      | viewnil a cap => simp only [frz, List.map_nil]; exact .viewnil a cap
      | view es b o sz cap f hb hcap hs hf hv =>
        simp only [frz]
        have := VR.view (G := G') (μ := fun _ => none) (es.map (frz d H)) b o sz cap f (hro b hb) (by simpa using hcap) (fun i hi => by
          rw [map_getD _ _ _ (by simpa using hi), acells_frz]; exact hs i (by simpa using hi)) (fun i j hi hj => by rw [hcell _ _ hb]; exact hf i j (by simpa using hi) hj) (fun i j hi hj => by
          have hi' : i < es.length := by simpa using hi
          rw [map_getD _ _ _ hi']
          exact frz_cells ih' (by rw [hs i hi']; exact hj) (hv i j hi' hj))
        simpa using this
      | rptr e off b o f hb hf hv =>
        simp only [frz]
        exact .rptr _ off b o f (hro b hb) (fun j hj => by rw [acells_frz] at hj; rw [hcell _ _ hb]; exact hf j hj) fun j hj => by
          rw [acells_frz] at hj
          exact frz_cells ih' hj (hv j hj)
      | sl r off len p c hp hvec hL ho hc =>
        simp only [frz]
        split
        · rename_i g sz es hcs
          split
          · rename_i hlive
            have hget := cellsAt_get.1 hcs
            obtain ⟨p', k1, k2, k3, k4⟩ := hH.row r _ hget
            rw [hp] at k1; cases k1
            obtain ⟨h1, h2, hg, C, ty, h3, h4, h5⟩ := k4
            dsimp only at h1 h2 hg h5
            have hlv : p.live (off + len) := by
              rcases hlive.1 with h | h
              · exact .inl (hg h)
              · exact .inr (by omega)
            obtain ⟨cap, rfl, hcap, hroom⟩ := hc hlv
            have hlen : (((es.drop off).take len).map (frz d H)).length = len := by simp; omega
            have helt : ∀ i, i < len → (((es.drop off).take len).map (frz d H)).getD i .any = frz d H (es.getD (off + i) .any) := fun i hi => by
              rw [map_getD _ _ _ (by simp; omega)]
              congr 1
              rw [List.getD_eq_getElem?_getD, List.getD_eq_getElem?_getD, List.getElem?_take, if_pos hi, List.getElem?_drop]
            have := VR.view (G := G') (μ := fun _ => none) (((es.drop off).take len).map (frz d H)) p.blk (p.off + off * p.sz) sz cap (fun i j => (C[p.off + (off + i) * sz + j]?).getD undef) (hrow r _ p hget hp) (by rw [hlen]; exact hcap)
              (fun i hi => by rw [hlen] at hi; rw [helt i hi, acells_frz]; exact (h5 (off + i) (by omega)).1)
              (fun i j hi hj => by
                rw [hlen] at hi
                obtain ⟨c, q1, q2⟩ := (h5 (off + i) (by omega)).2 j hj
                rw [hw]
                simp only [World.cell?, h3, h1]
                rw [show p.off + off * sz + i * sz + j = p.off + (off + i) * sz + j by rw [Nat.add_mul]; omega, q1]; rfl)
              (fun i j hi hj => by
                rw [hlen] at hi
                obtain ⟨c, q1, q2⟩ := (h5 (off + i) (by omega)).2 j hj
                rw [helt i hi, q1]
                exact frz_cells ih' (by rw [(h5 (off + i) (by omega)).1]; exact hj) q2)
            rwa [hlen] at this
          · exact .any _
        · exact .any _
      | ptr r i off L p c hp hL ho hc =>
        simp only [frz]
        split
        · rename_i g sz es hcs
          split
          · rename_i hlive
            split
            · rename_i e he
              have hget := cellsAt_get.1 hcs
              obtain ⟨p', k1, k2, k3, k4⟩ := hH.row r _ hget
              rw [hp] at k1; cases k1
              obtain ⟨h1, h2, hg, C, ty, h3, h4, h5⟩ := k4
              dsimp only at h1 h2 hg h5
              have hlv : p.live L := by
                rcases hlive with h | h
                · exact .inl (hg h)
                · exact .inr (by omega)
              rw [hc hlv]
              have hi : i < es.length := (List.getElem?_eq_some_iff.1 he).1
              have hee : es.getD i .any = e := by rw [List.getD_eq_getElem?_getD, he]; rfl
              refine .rptr _ off p.blk (p.off + i * p.sz) (fun j => (C[p.off + i * sz + j]?).getD undef) (hrow r _ p hget hp) (fun j hj => ?_) fun j hj => ?_
              · rw [acells_frz] at hj
                obtain ⟨c, q1, q2⟩ := (h5 i hi).2 j (by rw [← (h5 i hi).1, hee]; exact hj)
                rw [hw]
                simp [World.cell?, h3, h1, q1]
              · rw [acells_frz] at hj
                obtain ⟨c, q1, q2⟩ := (h5 i hi).2 j (by rw [← (h5 i hi).1, hee]; exact hj)
                rw [hee] at q2
                simp only [q1, Option.getD_some]
                exact frz_cells ih' hj q2
            · exact .any _
          · exact .any _
        · exact .any _

/-- How the rows of a call that looked into memory alone stand among the caller's. -/
structure FrzOK (Fr : Heap → Nat → Prop) (H LH' H'' : Heap) (v : AVal) (σ : Nat → Nat) (S : Nat → Prop) : Prop where
  new : ∀ i, S i → Fr H'' (σ i)
  inj : ∀ i j, S i → S j → σ i = σ j → i = j
  val : Bel S v
  nv : NV v
  rows : ∀ r x, H''[r]? = some (some x) → (∃ i y, S i ∧ σ i = r ∧ LH'[i]? = some (some y) ∧ x = y.ren σ ∧ y.bel S ∧ y.nv) ∨ ((∀ i, S i → σ i ≠ r) ∧ H[r]? = some (some x))

theorem HR.sub {μ : Mu} {H H' : Heap} {hp : World} (h : HR P G μ H hp) (hs : H'.sub H) : HR P G μ H' hp :=
  ⟨fun r x hx => h.row r x (hs r x hx), fun r r' x x' p p' h1 h2 => h.apart r r' x x' p p' (hs r x h1) (hs r' x' h2), h.kept, h.ro, h.calm⟩

theorem call_frz {f : FuncId} {args : List AVal} {H Hf : Heap} {R R' : AVal → Heap → Prop} {d : Nat} (hsub : Hf.sub H) (hf : Fn P f (args.map (frz d Hf)) [] R) {Fr : Heap → Nat → Prop}
    (hout : ∀ v LH', R v LH' → ∃ σ S H'', FrzOK Fr H LH' H'' v σ S ∧ R' (ren σ v) H'')
    {cargs : Array Value} {w : World} (hl : args.length = cargs.size) (hv : ∀ i, i < args.length → VR G μ (args.getD i .any) (cargs.getD i undef)) (hH : HR P G μ H w) (hfree : ∀ H'' r, Fr H'' r → μ r = none) :
    CallsIn (Fw none) 0 P f cargs w fun e w' => ∃ v' cv μ'' H'', e = .returned cv ∧ R' v' H'' ∧ VR G μ'' v' cv ∧ HR P G μ'' H'' w' ∧ μ.le μ'' ∧ ∀ r, (μ'' r).isSome = true → (μ r).isSome = true ∨ Fr H'' r := by
  classical
  let G' : Ctx := { keep := fun b => G.keep b ∨ ∃ r x p, H[r]? = some (some x) ∧ μ r = some p ∧ p.blk = b, ro := fun b => G.ro b ∨ ∃ r x p, H[r]? = some (some x) ∧ μ r = some p ∧ p.blk = b, w0 := w }
  have hlH : HR P G' (fun _ => none) [] w := by
    constructor
    · intro i x hx; simp at hx
    · intro i j x y p q hx; simp at hx
    · rintro b (hk | ⟨r, y, q, q2, q3, rfl⟩)
      · exact ⟨(hH.kept b hk).1, rfl⟩
      · obtain ⟨p, k1, k2, k3, k4⟩ := hH.row _ _ q2
        rw [k1] at q3; cases q3
        exact ⟨k3, rfl⟩
    · rintro b (hb | hb)
      · exact .inl (hH.ro b hb)
      · exact .inr hb
    · exact Calm.refl w
  refine ((hf G').2 (fun _ => none) cargs w (by simpa using hl) (fun i hi => ?_) hlH (fun r hr => by cases hr)).mono ?_
  · have hi' : i < args.length := by simpa using hi
    rw [map_getD _ _ _ hi']
    exact frz_vr (G' := G') (hH.sub hsub) rfl (fun b hb => Or.inl hb) (fun r x p h1 h2 => Or.inr ⟨r, x, p, hsub r x h1, h2, rfl⟩) d _ _ (hv i hi')
  · rintro e w' ⟨v, cv, μ', LH', rfl, hR, hvv, hH', hdom, _⟩
    obtain ⟨σ, S, H'', ho, hR'⟩ := hout v LH' hR
    let μ'' : Mu := fun r => if h : ∃ i, S i ∧ σ i = r then μ' h.choose else μ r
    have hσ : ∀ i, S i → μ'' (σ i) = μ' i := by
      intro i hi
      have h : ∃ j, S j ∧ σ j = σ i := ⟨i, hi, rfl⟩
      have hc := h.choose_spec
      have : h.choose = i := ho.inj _ _ hc.1 hi hc.2
      simp only [μ'', dif_pos h, this]
    have hoff : ∀ r, (∀ i, S i → σ i ≠ r) → μ'' r = μ r := by
      intro r h
      have : ¬ ∃ i, S i ∧ σ i = r := fun ⟨i, h1, h2⟩ => h i h1 h2
      simp only [μ'', dif_neg this]
    have hμle : μ.le μ'' := by
      intro r p hp
      by_cases h : ∃ i, S i ∧ σ i = r
      · obtain ⟨i, hi, rfl⟩ := h
        rw [hfree _ _ (ho.new i hi)] at hp; cases hp
      · rw [hoff r fun i h1 h2 => h ⟨i, h1, h2⟩]; exact ⟨p, hp, .inl rfl⟩
    refine ⟨ren σ v, cv, μ'', H'', rfl, hR', ?_, ?_, hμle, ?_⟩
    · exact (hvv.nv (G' := G) ho.nv).push ho.val fun r p hr hp => by rw [hσ r hr]; exact hp
    · have src : ∀ r x, H''[r]? = some (some x) → ∃ p, μ'' r = some p ∧ ¬ G.keep p.blk ∧ p.blk < w'.heap.size ∧ RowIs P G μ'' p w'.heap x ∧
          ((∃ i y, S i ∧ σ i = r ∧ LH'[i]? = some (some y) ∧ μ' i = some p ∧ ¬ G'.keep p.blk) ∨ ((∀ i, S i → σ i ≠ r) ∧ H[r]? = some (some x) ∧ μ r = some p ∧ G'.keep p.blk)) := by
        intro r x hx
        rcases ho.rows r x hx with ⟨i, y, h1, rfl, h3, rfl, h5, h6⟩ | ⟨h1, h2⟩
        · obtain ⟨p, k1, k2, k3, k4⟩ := hH'.row i y h3
          refine ⟨p, by rw [hσ i h1]; exact k1, fun h => k2 (.inl h), k3, (k4.nv (G' := G) h6).push h5 fun r p hr hp => by rw [hσ r hr]; exact hp, .inl ⟨i, y, h1, rfl, h3, k1, k2⟩⟩
        · obtain ⟨p, k1, k2, k3, k4⟩ := hH.row r x h2
          have hkeep : G'.keep p.blk := .inr ⟨r, x, p, h2, k1, rfl⟩
          obtain ⟨m1, m2⟩ := hH'.kept p.blk hkeep
          exact ⟨p, by rw [hoff r h1]; exact k1, k2, m1, k4.mono hμle m2, .inr ⟨h1, h2, k1, hkeep⟩⟩
      constructor
      · intro r x hx
        obtain ⟨p, k1, k2, k3, k4, _⟩ := src r x hx
        exact ⟨p, k1, k2, k3, k4⟩
      · intro r r' x x' p p' hx hx' hp hp' hne
        obtain ⟨q, k1, _, _, _, k5⟩ := src r x hx
        obtain ⟨q', k1', _, _, _, k5'⟩ := src r' x' hx'
        rw [k1] at hp; cases hp
        rw [k1'] at hp'; cases hp'
        rcases k5 with ⟨i, y, a1, a2, a3, a4, a5⟩ | ⟨a1, a2, a3, a4⟩ <;> rcases k5' with ⟨j, z, b1, b2, b3, b4, b5⟩ | ⟨b1, b2, b3, b4⟩
        · exact hH'.apart i j y z _ _ a3 b3 a4 b4 fun e => hne (by rw [← a2, ← b2, e])
        · exact fun e => a5 (by rw [e]; exact b4)
        · exact fun e => b5 (by rw [← e]; exact a4)
        · exact hH.apart r r' x x' _ _ a2 b2 a3 b3 hne
      · intro b hb
        have : G'.keep b := .inl hb
        obtain ⟨m1, m2⟩ := hH'.kept b this
        exact ⟨m1, m2.trans (hH.kept b hb).2⟩
      · exact hH.ro
      · exact hH.calm.trans hH'.calm
    · intro r hr
      by_cases h : ∃ i, S i ∧ σ i = r
      · obtain ⟨i, hi, rfl⟩ := h
        exact .inr (ho.new i hi)
      · rw [hoff r fun i h1 h2 => h ⟨i, h1, h2⟩] at hr; exact .inl hr

theorem callOK_frz {f : FuncId} {args : List AVal} {H : Heap} {R R' : AVal → Heap → Prop} (d : Nat) (hf : Fn P f (args.map (frz d H)) [] R)
    (hout : ∀ v LH', R v LH' → ∃ σ S H'', FrzOK (fun H'' r => H.length ≤ r ∧ r < H''.length) H LH' H'' v σ S ∧ H.length ≤ H''.length ∧ R' (ren σ v) H'') : CallOK P G f args H R' := by
  refine ⟨(hf G).1, fun μ cargs w hl hv hH hd => ?_⟩
  have hno : ∀ r, H.length ≤ r → μ r = none := fun r hr => by
    cases h : μ r with
    | none => rfl
    | some p => have := hd r (by rw [h]; rfl); omega
  refine (call_frz (R' := fun v H'' => H.length ≤ H''.length ∧ R' v H'') (fun _ _ h => h) hf hout hl hv hH (fun _ r hr => hno r hr.1)).mono ?_
  rintro e w' ⟨v', cv, μ'', H'', rfl, ⟨hlen', hR⟩, h1, h2, h3, h4⟩
  refine ⟨v', cv, μ'', H'', rfl, hR, h1, h2, fun r hr => ?_, Mu.leB_of h3, fun r hr hn => ?_⟩
  · rcases h4 r hr with h | h
    · have := hd r h; omega
    · exact h.2
  · cases h : μ'' r with
    | none => rfl
    | some p =>
      rcases h4 r (by rw [h]; rfl) with k | k
      · rw [hn] at k; cases k
      · omega
end
end Go.Sx
