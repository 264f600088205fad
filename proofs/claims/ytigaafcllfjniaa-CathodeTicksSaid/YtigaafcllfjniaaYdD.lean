/- The reference: coatings after heatings. -/
import Derived.Test.YtigaafcllfjniaaYdC
import Derived.Test.YtigaafcllfjniaaSxG
namespace Go.Proofs
open Go Go.Sx
attribute [local irreducible] Run

/-- The coatings after each tick, the fresh one first. -/
def coatsX (c : Ct) : Cg → List Ht → List Cg
  | x, [] => [x]
  | x, z :: a => x :: coatsX c (after c x z.heat z.cur) a
def coats (c : Ct) (a : List Ht) : List Cg := coatsX c (fresh c) a
theorem coatsX_len (c : Ct) : ∀ (a : List Ht) (x : Cg), (coatsX c x a).length = a.length + 1
  | [], _ => rfl
  | z :: a, x => by simp [coatsX, coatsX_len c a]
theorem coatsX_get (c : Ct) : ∀ (a : List Ht) (x : Cg) (p : Nat), p ≤ a.length → (coatsX c x a)[p]? = some ((a.take p).foldl (fun x z => after c x z.heat z.cur) x)
  | [], x, p, hp => by obtain rfl : p = 0 := by simpa using hp
                       rfl
  | z :: a, x, 0, _ => rfl
  | z :: a, x, p + 1, hp => by
    simp only [coatsX, List.getElem?_cons_succ, List.take_succ_cons, List.foldl_cons]
    exact coatsX_get c a _ p (by simpa using hp)
theorem coats_len (c : Ct) (a : List Ht) : (coats c a).length = a.length + 1 := coatsX_len c a _
theorem coats_get {c : Ct} {a : List Ht} {p : Nat} (hp : p ≤ a.length) : (coats c a)[p]? = some (coatOf c (a.take p)) := coatsX_get c a _ p hp
theorem coatsX_snoc (c : Ct) : ∀ (a : List Ht) (x : Cg) (z : Ht), coatsX c x (a ++ [z]) = coatsX c x a ++ [after c (a.foldl (fun x z => after c x z.heat z.cur) x) z.heat z.cur]
  | [], _, _ => rfl
  | y :: a, x, z => by simp [coatsX, coatsX_snoc c a]
theorem coats_snoc (c : Ct) (a : List Ht) (z : Ht) : coats c (a ++ [z]) = coats c a ++ [coatOf c (a ++ [z])] := by
  rw [coatOf_snoc]; exact coatsX_snoc c a _ z
theorem follow_get {c : Ct} : ∀ {l : List Ht} {i : Nat}, i < l.length → (follow c l)[i]? = some (coatOf c (flat (l.take (i + 1)))) := by
  intro l i hi
  have hx : l[i]? = some l[i] := List.getElem?_eq_getElem hi
  have e : l = l.take (i + 1) ++ l.drop (i + 1) := (List.take_append_drop _ _).symm
  unfold follow
  rw [e, followX_app, followX_succ hx]
  rw [List.getElem?_append_left (by simp [followX_len]; omega), List.getElem?_append_right (by rw [followX_len, List.length_take]; omega)]
  rw [followX_len, List.length_take, Nat.min_eq_left (by omega), Nat.sub_self]
  have he := endX_succ (c := c) hx (fresh c)
  rw [← he, endX_flat, ← e]; rfl

theorem cgs_len (l : List Cg) : (l.map Cg.v).length = l.length := List.length_map _
def tksT (i : Int) (k : Nat) (l : List Ht) : List (Nat × AVal) := [(1, .view (l.map Ht.v)), (2, .ptr 0 0 0 1), (4, .nilsl), (5, .sl 1 0 k), (6, .int .i64 i)]
def tksH (c : Ct) (b : Bool) (xs : List Cg) (X : Heap) : Heap := some (.cells false 7 [c.v (.view (c.bands.map Bd.v))]) :: some (.cells b 13 (xs.map Cg.v)) :: X

set_option maxHeartbeats 4000000 in
theorem rticks_run (c : Ct) (hc : CtOK c) (l : List Ht) (hl : LsOK l) : AnsE Try.prog n_ref03_ticks [c.v (.view (c.bands.map Bd.v)), .view (l.map Ht.v)] [] (fun _ : Bool => True) (fun _ => .sl 0 0 (coats c (flat l)).length) (fun b => [some (.cells b 13 ((coats c (flat l)).map Cg.v))]) := by
  have hlen := hl.len
  have hsum := hl.sum
  have hfl := flat_len hl.all
  refine AnsE.keep (run_fn e_ref03_ticks fun G => ?_) (fun a ha => ⟨by simp, by simp [go_sem], by rw [row_bel_cells]; simp only [go_sem], trivial⟩)
  simp only [go_sem, Ct.v, Ct.cs]
  refine cP (rfresh_run c) ?_ (hr := by simp only [go_sem, Cg.v, Cg.cs])
  simp only [go_sem, Cg.v, Cg.cs]
  refine loop_ind k_ref03_ticks_r10.eq_1 (fun a : Nat × Bool × Heap => a.1 ≤ l.length) (fun a => l.length - a.1)
    (fun a => (tsets 48 (tksT a.1 (coats c (flat (l.take a.1))).length l), tksH c a.2.1 (coats c (flat (l.take a.1))) a.2.2)) (0, false, []) (Nat.zero_le _) (by simp [go_sem, tksT, flat, coats, coatsX]) rfl ?_
  rintro ⟨i, b, X⟩ hi ih
  dsimp only at hi ih ⊢
  by_cases h1 : i < l.length
  · have h2 : (i : Int) < l.length := by omega
    have n0 : ¬ (i : Int) < 0 := by omega
    have hx : l[i]? = some l[i] := List.getElem?_eq_getElem h1
    have hz := hl.all _ (List.getElem_mem h1)
    have hs := flat_succ hx
    have h3 := idx_next h1 (by omega)
    have hfi := flat_len (l := l.take i) fun x hx => hl.all x (List.mem_of_mem_take hx)
    have hr0 := lenOfL_take hl.all i
    generalize l[i] = z at *
    have hzt := hz.ticks
    simp only [go_sem, tksT, tksH, h2, List.length_map]
    refine loop_ind k_ref03_ticks_r8.eq_1 (fun a : Nat × Bool × Heap => a.1 ≤ z.ticks.toNat) (fun a => z.ticks.toNat - a.1)
      (fun a => (tsets 48 (tksT i (coats c (flat (l.take i) ++ List.replicate a.1 z)).length l ++ [(7, .int .i64 a.1)]), tksH c a.2.1 (coats c (flat (l.take i) ++ List.replicate a.1 z)) a.2.2)) (0, b, X) (Nat.zero_le _) (by simp [go_sem, tksT]) (by simp [tksH]) ?_
    rintro ⟨t, b', Y⟩ ht ih2
    dsimp only at ht ih2 ⊢
    by_cases h4 : t < z.ticks.toNat
    · have h5 : (t : Int) < z.ticks := by omega
      have h6 := idx_next h4 (by omega)
      have hall0 : ∀ y ∈ flat (l.take i) ++ List.replicate t z, HtOK y := fun y hy => by
        rcases List.mem_append.1 hy with hy | hy
        · exact hl.all _ (List.mem_of_mem_take (flat_mem hy))
        · rw [List.mem_replicate] at hy; rw [hy.2]; exact hz
      have hal : (flat (l.take i) ++ List.replicate t z).length = (flat (l.take i)).length + t := by simp
      have hg := coatOf_good hc hall0 (by omega)
      have htk := rtick_run c hc _ (hg.ok.b hc.amount.2) z.heat z.cur hz.heat hz.cur
      have hsn : coats c (flat (l.take i) ++ List.replicate (t + 1) z) = coats c (flat (l.take i) ++ List.replicate t z) ++ [after c (coatOf c (flat (l.take i) ++ List.replicate t z)) z.heat z.cur] := by
        rw [List.replicate_succ', ← List.append_assoc, coats_snoc, coatOf_snoc]
      have hget := coats_get (c := c) (Nat.le_refl (flat (l.take i) ++ List.replicate t z).length)
      have hcl := coats_len c (flat (l.take i) ++ List.replicate t z)
      rw [List.take_length] at hget
      have hih := fun b hb hib ρ' => ih2 (t + 1, b) hb hib ρ'
      simp only [hsn] at hih
      clear ih2
      generalize after c (coatOf c (flat (l.take i) ++ List.replicate t z)) z.heat z.cur = n at *
      generalize coatOf c (flat (l.take i) ++ List.replicate t z) = y at *
      generalize (flat (l.take i) ++ List.replicate t z).length = p at *
      generalize coats c (flat (l.take i) ++ List.replicate t z) = xs at *
      have g1 : IntKind.i64.wrap ((xs.length : Int) - 1) = (p : Int) := by rw [w64 (by omega)]; omega
      have g2 : ¬ (p : Int) < 0 := by omega
      have g3 : (p : Int) < xs.length := by omega
      have g4 : (xs.length + 1) * 104 ≤ 2 ^ 44 := by omega
      have esn := cg_snoc xs n
      simp only [go_sem, tksT, tksH, hx, h2, n0, h5, Ht.v, Ht.cs, Ct.v, Ct.cs, List.length_map, g1, g2, g3, hget, Cg.v, Cg.cs]
      refine dP htk ?_ (hr := by simp only [go_sem, Cg.v, Cg.cs])
      simp only [go_sem, Cg.v, Cg.cs, g4, List.length_map]
      simp only [h6, esn]
      refine hih (true, _) (by omega) h4 _ ?_
      simp [go_sem, tksT]
    · have h5 : ¬ (t : Int) < z.ticks := by omega
      have hte : t = z.ticks.toNat := by omega
      simp only [go_sem, tksT, tksH, hx, h2, n0, h5, Ht.v, Ht.cs, h3, List.length_map]
      rw [hte, ← hs]
      exact ih (i + 1, b', Y) (by dsimp only; omega) h1 _ (by simp [go_sem, tksT])
  · have h2 : ¬ (i : Int) < l.length := by omega
    rw [List.take_of_length_le (by omega)]
    simp only [go_sem, tksT, tksH, h2, List.length_map]
    exact ⟨b, kept_one 1 rfl (by rw [row_bel_cells]; simp only [go_sem]) rfl⟩

theorem flat_take (l : List Ht) (i : Nat) : (flat l).take (flat (l.take i)).length = flat (l.take i) := by
  conv => lhs; rw [← List.take_append_drop i l]
  rw [flat_app]
  have e : (List.take i l ++ List.drop i l).take i = l.take i := by rw [List.take_append_drop]
  rw [e, List.take_left]
theorem flat_len_le (l : List Ht) (i : Nat) : (flat (l.take i)).length ≤ (flat l).length := by
  conv => rhs; rw [← List.take_append_drop i l, flat_app, List.length_append]
  exact Nat.le_add_right _ _
theorem follow_snoc {c : Ct} {l : List Ht} {i : Nat} (hi : i < l.length) : follow c (l.take (i + 1)) = follow c (l.take i) ++ [coatOf c (flat (l.take (i + 1)))] := by
  have hx : l[i]? = some l[i] := List.getElem?_eq_getElem hi
  unfold follow
  rw [followX_succ hx, ← endX_succ hx, endX_flat]

set_option maxHeartbeats 4000000 in
theorem rFollow_run (c : Ct) (hc : CtOK c) (l : List Ht) (hl : LsOK l) (h0 : l ≠ []) : Ans Try.prog n_ref03_Follow [c.v (.view (c.bands.map Bd.v)), .view (l.map Ht.v)] [] (.tup [.sl 0 0 l.length, .int .i64 0]) [some (CgR (follow c l))] := by
  have hlen := hl.len
  have hsum := hl.sum
  have hlp : 0 < l.length := List.length_pos_iff.2 h0
  have hfl := flat_len hl.all
  have hcl := coats_len c (flat l)
  have hgo : ∀ i, i < l.length → (coats c (flat l))[(flat (l.take (i + 1))).length]? = some (coatOf c (flat (l.take (i + 1)))) := fun i hi => by
    have := coats_get (c := c) (a := flat l) (flat_len_le l (i + 1))
    rwa [flat_take] at this
  have hat : ∀ i, i ≤ l.length → ((flat (l.take i)).length : Int) = lenOfL (l.take i) := fun i hi => flat_len fun x hx => hl.all x (List.mem_of_mem_take hx)
  refine Ans.keep (run_fn e_ref03_Follow fun G => ?_) (Nat.zero_le _) (by simp [go_sem]) ⟨by simp only [go_sem], trivial⟩
  simp only [go_sem, Ct.v, Ct.cs]
  refine cP (rCheck_run c hc) ?_
  simp only [go_sem]
  refine cP (rCheckSchedule_run l hl) ?_
  simp only [go_sem, Ct.v, Ct.cs]
  refine cN1E (rticks_run c hc l hl) (fun a ha => ⟨by rw [bel_sl], by rw [row_bel_cells]; simp only [go_sem]⟩) ?_
  rintro b -
  simp only [go_sem, ren, rens]
  -- the first heating
  have hx : l[0]? = some l[0] := List.getElem?_eq_getElem hlp
  have hz := hl.all _ (List.getElem_mem hlp)
  have hs := lenOfL_succ hx
  have hr := lenOfL_take hl.all 1
  have hg := hgo 0 hlp
  have ha := hat 1 hlp
  have hfs := follow_snoc (c := c) hlp
  generalize l[0] = z at *
  have h2 : (0 : Int) < l.length := by omega
  have hzt := hz.ticks
  have p44 : 104 ≤ 2 ^ 44 := by decide
  have w1 : IntKind.i64.wrap 1 = 1 := rfl
  simp only [Nat.zero_add] at hg ha hfs hs
  rw [show lenOfL (l.take 0) = 0 from rfl] at hs
  have e1 : IntKind.i64.wrap (0 + z.ticks) = ((flat (l.take 1)).length : Int) := by rw [w64 (by omega)]; omega
  have l1 := flat_len_le l 1
  have n1 : ¬ ((flat (l.take 1)).length : Int) < 0 := by omega
  have n2 : ((flat (l.take 1)).length : Int) < (coats c (flat l)).length := by omega
  have q44 : ∀ n : Nat, n ≤ 40 → (n + 1) * 104 ≤ 2 ^ 44 := fun n hn => by omega
  generalize hy : coatOf c (flat (l.take 1)) = y at *
  generalize coats c (flat l) = xs at *
  refine loop_body 200 k_ref03_Follow_r15.eq_1 ?_
  simp only [go_sem, hx, h2, Ht.v, Ht.cs, List.length_map, e1, n1, n2, hg, Int.toNat_natCast, Cg.v, Cg.cs, p44, w1]
  simp only [cg_single]
  refine loop_ind k_ref03_Follow_r15.eq_1 (fun a : Nat × Heap => 1 ≤ a.1 ∧ a.1 ≤ l.length) (fun a => l.length - a.1)
    (fun a => (tsets 46 [(1, .view (l.map Ht.v)), (2, .ptr 0 0 0 1), (4, .nilsl), (5, .int .i64 0), (8, .sl 1 0 xs.length), (9, .sl 3 0 a.1), (10, .int .i64 (flat (l.take a.1)).length), (11, .int .i64 a.1)],
      some (.cells false 7 [c.v (.view (c.bands.map Bd.v))]) :: some (.cells b 13 (xs.map Cg.v)) :: some (.cells false 13 ([y].map Cg.v)) :: some (.cells true 13 ((follow c (l.take a.1)).map Cg.v)) :: a.2))
    (1, []) ⟨Nat.le_refl 1, hlp⟩ (by simp [go_sem]) (by simp [hfs, Ct.v, Ct.cs, show follow c ([] : List Ht) = [] from rfl]) ?_
  rintro ⟨i, X⟩ ⟨hi1, hi⟩ ih
  dsimp only at hi1 hi ih ⊢
  have hfx : (follow c (l.take i)).length = i := by unfold follow; rw [followX_len, List.length_take]; omega
  by_cases h1 : i < l.length
  · have h2' : (i : Int) < l.length := by omega
    have n0 : ¬ (i : Int) < 0 := by omega
    have hx' : l[i]? = some l[i] := List.getElem?_eq_getElem h1
    have hz' := hl.all _ (List.getElem_mem h1)
    have hs' := lenOfL_succ hx'
    have hr' := lenOfL_take hl.all (i + 1)
    have hg' := hgo i h1
    have ha' := hat (i + 1) h1
    have ha0 := hat i (by omega)
    have hfs' := follow_snoc (c := c) h1
    have l1' := flat_len_le l (i + 1)
    generalize l[i] = z' at *
    have hzt' := hz'.ticks
    have h3 := idx_next h1 (by omega)
    have e1' : IntKind.i64.wrap ((flat (l.take i)).length + z'.ticks) = ((flat (l.take (i + 1))).length : Int) := by rw [w64 (by omega)]; omega
    have n1' : ¬ ((flat (l.take (i + 1))).length : Int) < 0 := by omega
    have n2' : ((flat (l.take (i + 1))).length : Int) < xs.length := by omega
    have q := q44 i (by omega)
    generalize coatOf c (flat (l.take (i + 1))) = y' at *
    have esn := cg_snoc (follow c (l.take i)) y'
    simp only [go_sem, hx', h2', n0, Ht.v, Ht.cs, List.length_map, e1', n1', n2', hg', hfx, Int.toNat_natCast, Cg.v, Cg.cs, q]
    simp only [h3, esn, ← hfs']
    exact ih (i + 1, _) (by dsimp only; omega) ⟨by dsimp only; omega, h1⟩ _ (by simp [go_sem])
  · have h2' : ¬ (i : Int) < l.length := by omega
    have hil : i = l.length := by omega
    simp only [go_sem, h2', List.length_map]
    rw [hil, List.take_length]
    exact kept_one 3 rfl (by simp only [go_sem]) rfl
end Go.Proofs
