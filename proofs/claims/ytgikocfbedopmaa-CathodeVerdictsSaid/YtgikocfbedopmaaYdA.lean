/- Courses made of numbers. -/
import Derived.Test.YtgikocfbedopmaaYcW
namespace Go.Proofs
open Go Go.Sx
attribute [local irreducible] Run

theorem mx_snoc (xs : List Mx) (y : Mx) : List.map Mx.v xs ++ [.agg [.int .i64 y.carb, .int .i64 y.ox, .int .i64 y.ba, .int .i64 y.lost]] = List.map Mx.v (xs ++ [y]) := by
  rw [List.map_append]; rfl


/-- What a mix becomes. -/
def stepM (w style : Int) (m : Mx) (b : Bd) : Mx :=
  let x := someV w style m.carb b.conv
  let y := someV (someW w style) style m.ox b.red
  let z := someV (someW (someW w style) style) style m.ba b.evap
  ⟨m.carb - x, m.ox + x - y, m.ba + y - z, m.lost + z⟩
theorem stepM_fol {c : Ct} {m : Mx} {b : Bd} (w style : Int) (hb : BdOK b) (hm : MxOK c m) : Fol m (stepM w style m b) b := by
  obtain ⟨a1, a2, a3, a4, a5⟩ := hm
  have x := someV_in (w := w) (style := style) a1 hb.conv
  have y := someV_in (w := someW w style) (style := style) a2 hb.red
  have z := someV_in (w := someW (someW w style) style) (style := style) a3 hb.evap
  unfold stepM
  generalize someV w style m.carb b.conv = x at *
  generalize someV (someW w style) style m.ox b.red = y at *
  generalize someV (someW (someW w style) style) style m.ba b.evap = z at *
  exact ⟨by dsimp only; omega, by dsimp only; omega, by dsimp only; omega, by dsimp only; omega⟩

def crsH (w : Int) (c : Ct) (l : List Ht) (g : Bool) (m : Mx) (b : Bool) (ms : List Mx) (X : Heap) : Heap :=
  some (Dr w) :: some (BdR c.bands) :: some (.cells g 3 (l.map Ht.v)) :: some (.cells false 7 [c.v (.sl 1 0 c.bands.length)]) :: some (.cells false 4 [m.v]) :: some (.cells b 4 (ms.map Mx.v)) :: X
def crsT (style : Int) (n : Nat) (heat i : Int) (k : Nat) : List (Nat × AVal) := [(0, .ptr 0 0 0 1), (2, .sl 2 0 n), (4, .ptr 3 0 0 1), (6, .nilsl), (7, .ptr 4 0 0 1), (8, .sl 5 0 k), (9, .int .i64 heat), (10, .int .i64 style), (11, .int .i64 i)]

set_option maxHeartbeats 4000000 in
theorem course_inner {G : Ctx} {fs : List Sx.Frame} {Q : Goal} (c : Ct) (hc : CtOK c) (l : List Ht) (hl : LsOK l) (g : Bool) (style : Int) (i : Nat) (z : Ht) (hx : l[i]? = some z)
    (hK : ∀ w m b ms X ρ', Crs c (flat (l.take (i + 1))) ms m → Wk ρ' (tsets 102 (crsT style l.length (heatOf c (flat (l.take (i + 1)))) ((i + 1 : Nat) : Int) ms.length)) → Sx.Loop Try.prog G 3 none k_kit_CourseOf_r18 fs ⟨ρ', crsH w c l g m b ms X, []⟩ Q)
    (t : Nat) (ht : t ≤ z.ticks.toNat) (w : Int) (m : Mx) (b : Bool) (ms : List Mx) (X : Heap) (hcr : Crs c (flat (l.take i) ++ List.replicate t z) ms m) (ρ : List AVal)
    (hw : Wk ρ (tsets 102 (crsT style l.length (heatOf c (flat (l.take i) ++ List.replicate t z)) i ms.length ++ [(12, .int .i64 t)]))) :
    Sx.Loop Try.prog G 3 none k_kit_CourseOf_r16 ([.blk 2, .blk 1, .seq (.reg k_kit_CourseOf_r17 false), .rnd k_kit_CourseOf_r18] ++ fs) ⟨ρ, crsH w c l g m b ms X, []⟩ Q := by
  have hlen := hl.len
  have hsum := hl.sum
  have h1 : i < l.length := (List.getElem?_eq_some_iff.1 hx).1
  have h2 : (i : Int) < l.length := by omega
  have hz := hl.all z (List.mem_of_getElem? hx)
  have hzt := hz.ticks
  have h3 := idx_next h1 (by omega)
  have n0 : ¬ (i : Int) < 0 := by omega
  have hs := flat_succ hx
  have hfl := flat_len (l := l.take i) fun x hx => hl.all x (List.mem_of_mem_take hx)
  have hr0 := lenOfL_take hl.all i
  have hallt : ∀ t : Nat, ∀ y ∈ flat (l.take i) ++ List.replicate t z, HtOK y := fun t y hy => by
    rcases List.mem_append.1 hy with hy | hy
    · exact hl.all _ (List.mem_of_mem_take (flat_mem hy))
    · rw [List.mem_replicate] at hy; rw [hy.2]; exact hz
  refine loop_ind k_kit_CourseOf_r16.eq_1 (fun a : Nat × Int × Mx × Bool × List Mx × Heap => a.1 ≤ z.ticks.toNat ∧ Crs c (flat (l.take i) ++ List.replicate a.1 z) a.2.2.2.2.1 a.2.2.1) (fun a => z.ticks.toNat - a.1)
    (fun a => (tsets 102 (crsT style l.length (heatOf c (flat (l.take i) ++ List.replicate a.1 z)) i a.2.2.2.2.1.length ++ [(12, .int .i64 a.1)]), crsH a.2.1 c l g a.2.2.1 a.2.2.2.1 a.2.2.2.2.1 a.2.2.2.2.2)) (t, w, m, b, ms, X) ⟨ht, hcr⟩ hw rfl ?_
  clear hcr hw ht
  rintro ⟨t, w, m, b, ms, X⟩ ⟨ht, hcr⟩ ih
  dsimp only at ht hcr ih ⊢
  by_cases h4 : t < z.ticks.toNat
  · have h5 : (t : Int) < z.ticks := by omega
    have h6 := idx_next h4 (by omega)
    have hla : ∀ t : Nat, flat (l.take i) ++ List.replicate (t + 1) z = flat (l.take i) ++ List.replicate t z ++ [z] := fun t => by rw [List.replicate_succ', List.append_assoc]
    have hll := hcr.len
    have hmsl : (ms.length + 1) * 32 ≤ 2 ^ 44 := by
      simp only [List.length_append, List.length_replicate] at hll
      have : ms.length ≤ 100000 := by omega
      omega
    have hall1 := hallt (t + 1)
    have hh0 := heatOf_in hc (hallt t)
    have hok := hcr.ok hc (hallt t)
    rw [hla] at hall1
    have hh1 := heatOf_in hc hall1
    have hH := rHeat_run c hc (heatOf c (flat (l.take i) ++ List.replicate t z)) z.heat hh0 hz.heat
    rw [← heatOf_snoc] at hH
    have hB := rBand_run c hc (heatOf c (flat (l.take i) ++ List.replicate t z ++ [z])) z.cur hh1.1 hz.cur
    have hbd := ratesAt_ok hc hh1.1 hz.cur
    have hih := fun b hb hib ρ' => ih (t + 1, b) hb hib ρ'
    simp only [hla] at hih
    clear ih
    have hsn : ∀ m', Fol m m' (ratesAt c (heatOf c (flat (l.take i) ++ List.replicate t z ++ [z])) z.cur) → Crs c (flat (l.take i) ++ List.replicate t z ++ [z]) (ms ++ [m']) m' := fun m' hf => hcr.snoc hf
    generalize heatOf c (flat (l.take i) ++ List.replicate t z ++ [z]) = he' at *
    generalize heatOf c (flat (l.take i) ++ List.replicate t z) = he at *
    generalize ratesAt c he' z.cur = bd at *
    have hst := stepM_fol w style hbd hok
    have hcn := hsn _ hst
    have hmo := hst.ok hbd hok
    have a5 := hok.sum
    have hm := hc.amount
    have o1 := hok.carb; have o2 := hok.ox; have o3 := hok.ba; have o4 := hok.lost
    have p1 := hmo.carb; have p2 := hmo.ox; have p3 := hmo.ba; have p4 := hmo.lost; have p5 := hmo.sum
    have s1 := some_run w style m.carb bd.conv (by omega) hbd.conv
    have s2 := some_run (someW w style) style m.ox bd.red (by omega) hbd.red
    have s3 := some_run (someW (someW w style) style) style m.ba bd.evap (by omega) hbd.evap
    have i1 := someV_in (w := w) (style := style) o1 hbd.conv
    have i2 := someV_in (w := someW w style) (style := style) o2 hbd.red
    have i3 := someV_in (w := someW (someW w style) style) (style := style) o3 hbd.evap
    have b1 := hbd.conv.all; have b2 := hbd.red.all; have b3 := hbd.evap.all
    have c1 := dn_in o1 b1.1 (by omega); have c2 := up_in (r := bd.conv.hi) o1 (by omega) (by omega)
    have d1 := dn_in o2 b2.1 (by omega); have d2 := up_in (r := bd.red.hi) o2 (by omega) (by omega)
    have e1 := dn_in o3 b3.1 (by omega); have e2 := up_in (r := bd.evap.hi) o3 (by omega) (by omega)
    unfold stepM at hcn hst hmo p1 p2 p3 p4 p5
    generalize someV w style m.carb bd.conv = x at *
    generalize someV (someW w style) style m.ox bd.red = y at *
    generalize someV (someW (someW w style) style) style m.ba bd.evap = u at *
    dsimp only at hcn p1 p2 p3 p4 p5
    have f1 : IntKind.i64.wrap (m.carb - x) = m.carb - x := w64 (by omega)
    have f2 : IntKind.i64.wrap (m.ox + x) = m.ox + x := w64 (by omega)
    have f3 : IntKind.i64.wrap (m.ox + x - y) = m.ox + x - y := w64 (by omega)
    have f4 : IntKind.i64.wrap (m.ba + y) = m.ba + y := w64 (by omega)
    have f5 : IntKind.i64.wrap (m.ba + y - u) = m.ba + y - u := w64 (by omega)
    have f6 : IntKind.i64.wrap (m.lost + u) = m.lost + u := w64 (by omega)
    have esn := mx_snoc ms ⟨m.carb - x, m.ox + x - y, m.ba + y - u, m.lost + u⟩
    dsimp only at esn
    simp only [go_sem, crsT, crsH, hx, h2, n0, h5, Ht.v, Ht.cs, Ct.v, Ct.cs, List.length_map]
    refine cF hH 6 ⟨.inl (ct_frz (H := _) rfl), .inl rfl, .inl rfl, trivial⟩ ?_
    simp only [go_sem, hx, h2, n0, Ht.v, Ht.cs, Ct.v, Ct.cs, List.length_map]
    refine dF hB 6 [1] ⟨.inl (ct_frz (H := _) (onlyR_row rfl (by simp))), .inl rfl, .inl rfl, trivial⟩ ?_ (by simp only [go_sem, Bd.v, Bd.cs]) (by simp only [go_sem, Bd.v, Bd.cs])
    simp only [go_sem, Bd.v, Bd.cs, Mx.v, Mx.cs]
    refine cD s1 ?_
    simp only [go_sem, Mx.v, Mx.cs]
    refine cD s2 ?_
    simp only [go_sem, Mx.v, Mx.cs]
    refine cD s3 ?_
    simp only [go_sem, Mx.v, Mx.cs, f1, f2, f3, f4, f5, f6, hmsl, List.length_map]
    simp only [h6, esn]
    refine hih (someW (someW (someW w style) style) style, ⟨m.carb - x, m.ox + x - y, m.ba + y - u, m.lost + u⟩, true, ms ++ [⟨m.carb - x, m.ox + x - y, m.ba + y - u, m.lost + u⟩], _) (by omega) ⟨h4, hcn⟩ _ ?_
    simp [go_sem, crsT]
  · have h5 : ¬ (t : Int) < z.ticks := by omega
    have hte : t = z.ticks.toNat := by omega
    simp only [go_sem, crsT, crsH, hx, h2, n0, h5, Ht.v, Ht.cs, h3, List.length_map]
    rw [hte, ← hs] at hcr
    rw [hte, ← hs]
    exact hK w m b ms X _ hcr (by simp [go_sem, crsT])

set_option maxHeartbeats 4000000 in
theorem course_outer {G : Ctx} {R : AVal → Heap → Prop} (c : Ct) (hc : CtOK c) (l : List Ht) (hl : LsOK l) (g : Bool) (style : Int)
    (hR : ∀ w m b ms X, Crs c (flat l) ms m → R (.sl 5 0 ms.length) (crsH w c l g m b ms X))
    (i : Nat) (hi : i ≤ l.length) (w : Int) (m : Mx) (b : Bool) (ms : List Mx) (X : Heap) (hcr : Crs c (flat (l.take i)) ms m) (ρ : List AVal)
    (hw : Wk ρ (tsets 102 (crsT style l.length (heatOf c (flat (l.take i))) i ms.length))) :
    Sx.Loop Try.prog G 3 none k_kit_CourseOf_r18 [.blk 0, .seq (.seq (.reg k_kit_CourseOf_r19 false) .ret)] ⟨ρ, crsH w c l g m b ms X, []⟩ (RetPost [.tmp 6] R) := by
  refine loop_ind k_kit_CourseOf_r18.eq_1 (fun a : Nat × Int × Mx × Bool × List Mx × Heap => a.1 ≤ l.length ∧ Crs c (flat (l.take a.1)) a.2.2.2.2.1 a.2.2.1) (fun a => l.length - a.1)
    (fun a => (tsets 102 (crsT style l.length (heatOf c (flat (l.take a.1))) a.1 a.2.2.2.2.1.length), crsH a.2.1 c l g a.2.2.1 a.2.2.2.1 a.2.2.2.2.1 a.2.2.2.2.2)) (i, w, m, b, ms, X) ⟨hi, hcr⟩ hw rfl ?_
  clear hcr hw hi
  rintro ⟨i, w, m, b, ms, X⟩ ⟨hi, hcr⟩ ih
  dsimp only at hi hcr ih ⊢
  by_cases h1 : i < l.length
  · have h2 : (i : Int) < l.length := by omega
    simp only [go_sem, crsT, crsH, h2, List.length_map]
    refine course_inner c hc l hl g style i l[i] (List.getElem?_eq_getElem h1) ?_ 0 (Nat.zero_le _) w m b ms X (by simpa using hcr) _ (by simp [go_sem, crsT])
    intro w' m' b' ms' X' ρ' hcr' hw'
    exact ih (i + 1, w', m', b', ms', X') (by dsimp only; omega) ⟨h1, hcr'⟩ ρ' hw'
  · have h2 : ¬ (i : Int) < l.length := by omega
    rw [List.take_of_length_le (by omega)] at hcr
    simp only [go_sem, crsT, crsH, h2, List.length_map]
    exact hR w m b ms X hcr

set_option maxHeartbeats 4000000 in
theorem courseOf_run (w0 : Int) (c : Ct) (hc : CtOK c) (l : List Ht) (hl : LsOK l) (g : Bool) (h0 : l ≠ []) :
    AnsE Try.prog n_kit_CourseOf [.ptr 0 0 0 1, c.v (.sl 1 0 c.bands.length), .sl 2 0 l.length] [some (Dr w0), some (BdR c.bands), some (.cells g 3 (l.map Ht.v))] (fun a : List Mx × Int × Bool => ∃ m, Crs c (flat l) a.1 m) (fun a => .sl 3 0 a.1.length) (fun a => [some (Dr a.2.1), some (BdR c.bands), some (.cells g 3 (l.map Ht.v)), some (.cells a.2.2 4 (a.1.map Mx.v))]) := by
  have hu := upto_ok w0 4 (by decide)
  generalize upto w0 4 = style at *
  refine AnsE.keep (run_fn e_kit_CourseOf fun G => ?_) (fun a ha => ⟨by simp, by simp [go_sem], by simp only [go_sem], by simp only [go_sem], by rw [row_bel_cells]; simp only [go_sem], by rw [row_bel_cells]; simp only [go_sem], trivial⟩)
  simp only [go_sem, Ct.v, Ct.cs]
  refine cD hu ?_
  simp only [go_sem]
  refine course_outer c hc l hl g style ?_ 0 (Nat.zero_le _) (dstep w0) (start c) false [start c] [] Crs.nil _ (by simp [go_sem, crsT, heatOf, flat])
  intro w m b ms X hcr
  refine ⟨(ms, w, b), ⟨m, hcr⟩, kept_new (A := [some (Dr w), some (BdR c.bands), some (.cells g 3 (l.map Ht.v))]) 3 5 rfl rfl (by decide) (by simp [ren]) ?_ (by rw [row_bel_cells]; simp only [go_sem]) rfl⟩
  intro i x hi
  have h3 := (List.getElem?_eq_some_iff.1 hi).1
  simp only [List.length_cons, List.length_nil] at h3
  obtain rfl | rfl | rfl : i = 0 ∨ i = 1 ∨ i = 2 := by omega
  · simp at hi; subst hi; exact ⟨by simp only [go_sem], rfl⟩
  · simp at hi; subst hi; exact ⟨by simp only [go_sem], rfl⟩
  · simp at hi; subst hi; exact ⟨by rw [row_bel_cells]; simp only [go_sem], rfl⟩

/-- For no heating. -/
theorem courseOf_nil (w0 : Int) (c : Ct) :
    Ans Try.prog n_kit_CourseOf [.ptr 0 0 0 1, c.v (.sl 1 0 c.bands.length), .nilsl] [some (Dr w0), some (BdR c.bands)] (.sl 2 0 1) [some (Dr (dstep w0)), some (BdR c.bands), some (.cells false 4 ([start c].map Mx.v))] := by
  have hu := upto_ok w0 4 (by decide)
  generalize upto w0 4 = style at *
  refine Ans.keep (run_fn e_kit_CourseOf fun G => ?_) (by simp) (by simp [go_sem]) ⟨by simp only [go_sem], by simp only [go_sem], by rw [row_bel_cells]; simp only [go_sem], trivial⟩
  simp only [go_sem, Ct.v, Ct.cs]
  refine cD hu ?_
  simp only [go_sem]
  refine loop_body 200 k_kit_CourseOf_r18.eq_1 ?_
  simp only [go_sem]
  refine kept_new (A := [some (Dr (dstep w0)), some (BdR c.bands)]) 2 4 rfl rfl (by decide) (by simp [ren]) ?_ (by rw [row_bel_cells]; simp only [go_sem]) rfl
  intro i x hi
  have h3 := (List.getElem?_eq_some_iff.1 hi).1
  simp only [List.length_cons, List.length_nil] at h3
  obtain rfl | rfl : i = 0 ∨ i = 1 := by omega
  · simp at hi; subst hi; exact ⟨by simp only [go_sem], rfl⟩
  · simp at hi; subst hi; exact ⟨by simp only [go_sem], rfl⟩
end Go.Proofs
