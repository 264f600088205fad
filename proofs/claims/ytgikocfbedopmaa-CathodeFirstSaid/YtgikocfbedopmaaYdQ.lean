/- Shortest schedules. -/
import Derived.Test.YtgikocfbedopmaaYdP
namespace Go.Proofs
open Go Go.Sx
attribute [local irreducible] Run

/-- The better one of what was found and a list. -/
def better (c : Ct) (d : Dm) (menu : List Ht) (b : Option (List Int × Int)) (l : List Int) : Option (List Int × Int) :=
  match b with
  | none => if (judgeV c d (pick menu l)).1 = 1 then some (l, lenOfL (pick menu l)) else none
  | some (k, t) => if t ≤ lenOfL (pick menu l) then some (k, t) else if (judgeV c d (pick menu l)).1 = 1 then some (l, lenOfL (pick menu l)) else some (k, t)
/-- The best one of all lists of up to k numbers. -/
def prevB (c : Ct) (d : Dm) (menu : List Ht) : Nat → Option (List Int × Int)
  | 0 => none
  | k + 1 => (List.range (menu.length ^ (k + 1))).foldl (fun b w => better c d menu b (digL menu.length (k + 1) w)) (prevB c d menu k)
/-- After w lists of s numbers. -/
def bst (c : Ct) (d : Dm) (menu : List Ht) (s w : Nat) : Option (List Int × Int) := (List.range w).foldl (fun b w => better c d menu b (digL menu.length s w)) (prevB c d menu (s - 1))
theorem bst_succ (c : Ct) (d : Dm) (menu : List Ht) (s w : Nat) : bst c d menu s (w + 1) = better c d menu (bst c d menu s w) (digL menu.length s w) := by
  unfold bst
  rw [List.range_succ, List.foldl_append]; rfl
theorem bst_next (c : Ct) (d : Dm) (menu : List Ht) {s : Nat} (hs : 1 ≤ s) : bst c d menu (s + 1) 0 = bst c d menu s (menu.length ^ s) := by
  obtain ⟨k, rfl⟩ : ∃ k, s = k + 1 := ⟨s - 1, by omega⟩
  rfl

/-- What was found lies so in the rows X, beside row p. -/
def BR (b : Option (List Int × Int)) (v : AVal) (t : Int) (X : Heap) (p : Nat) : Prop :=
  match b with
  | none => v = .nilsl ∧ t = 0
  | some (l, n) => 0 < l.length ∧ t = n ∧ ∃ Q, v = .sl (Q + 9) 0 l.length ∧ X[Q]? = some (some (.cells true 1 (ivs l))) ∧ Q ≠ p
theorem BR.app {b : Option (List Int × Int)} {v : AVal} {t : Int} {X : Heap} {p : Nat} (h : BR b v t X p) (Y : Heap) : BR b v t (X ++ Y) p := by
  cases b with
  | none => exact h
  | some l =>
    obtain ⟨h0, h1, Q, h2, h3, h4⟩ := h
    refine ⟨h0, h1, Q, h2, ?_, h4⟩
    rw [List.getElem?_append_left (List.getElem?_eq_some_iff.1 h3).1]; exact h3
theorem BR.out {b : Option (List Int × Int)} {v : AVal} {t : Int} {X : Heap} {p : Nat} (h : BR b v t X p) : BR b v t X X.length := by
  cases b with
  | none => exact h
  | some l =>
    obtain ⟨h0, h1, Q, h2, h3, -⟩ := h
    exact ⟨h0, h1, Q, h2, h3, Nat.ne_of_lt (List.getElem?_eq_some_iff.1 h3).1⟩
theorem BR.put {b : Option (List Int × Int)} {v : AVal} {t : Int} {X : Heap} {p : Nat} (h : BR b v t X p) (x : Option Row) : BR b v t (X.set p x) p := by
  cases b with
  | none => exact h
  | some l =>
    obtain ⟨h0, h1, Q, h2, h3, h4⟩ := h
    exact ⟨h0, h1, Q, h2, by rw [List.getElem?_set_ne (Ne.symm h4)]; exact h3, h4⟩

def shT : List (Nat × AVal) := [(4, .ptr 0 0 0 1), (5, .ptr 1 0 0 1), (6, .ptr 2 0 0 1), (8, .ptr 3 0 0 1), (9, .ptr 4 0 0 1), (33, .fn (.func n_cathode_lists_1) [] [.ptr 6 0 0 1, .ptr 5 0 0 1])]
def shL (st : LoopState) (pe : Option ACode) : Row := .loop (tsets 63 shT) [34] k_cathode_Shortest_r15 k_cathode_Shortest_r16 7 st pe
def shH (c : Ct) (d : Dm) (menu : List Ht) (m : Nat) (v : AVal) (t : Int) (lr : Row) (X : Heap) : Heap :=
  [some (.cells false 7 [c.v (.view (c.bands.map Bd.v))]), some (.cells false 5 [d.v]), some (.cells false 1 [.view (menu.map Ht.v)]), some (.cells false 1 [v]), some (.cells false 1 [.int .i64 t]), some (.cells false 1 [.int .i64 menu.length]), some (.cells false 1 [.int .i64 m]), some .dfr, some lr] ++ X

theorem ivs_frz {l : List Int} {H : Heap} {j n : Nat} {gr : Bool} (h : H[j]? = some (some (.cells gr 1 (ivs l)))) (hn : n = l.length) : frz 6 H (.sl j 0 n) = .view (ivs l) := by
  rw [frz_sl (d := 5) h (by rw [ivs_len]; exact hn)]
  simp only [ivs, List.map_map]
  rfl
theorem lenOf_small : ∀ l : List Ht, (∀ z ∈ l, z.ticks ≤ 100) → lenOfL l ≤ 100 * l.length
  | [], _ => by simp [lenOfL]
  | z :: l, h => by
    have h1 := h z (by simp)
    have h2 := lenOf_small l fun y hy => h y (by simp [hy])
    simp only [lenOfL, List.length_cons]
    omega
theorem pick_ok {menu : List Ht} (hl : LsOK menu) (ht : ∀ z ∈ menu, z.ticks ≤ 100) {L : List Int} (hi : ∀ x ∈ L, 0 ≤ x ∧ x < menu.length) (h5 : L.length ≤ 5) : LsOK (pick menu L) := by
  have hmem : ∀ z ∈ pick menu L, z ∈ menu := fun z hz => by
    obtain ⟨x, hx, rfl⟩ := List.mem_map.1 hz
    have := hi x hx
    have h1 : x.toNat < menu.length := by omega
    rw [List.getD_eq_getElem?_getD, List.getElem?_eq_getElem h1]
    exact List.getElem_mem h1
  have hs := lenOf_small (pick menu L) fun z hz => ht z (hmem z hz)
  rw [pick_len] at hs
  exact ⟨by rw [pick_len]; omega, fun z hz => hl.all z (hmem z hz), by omega⟩

theorem hts_nvr (g : Bool) (l : List Ht) : (Row.cells g 3 (l.map Ht.v)).nv := row_nv_cells _ _ (nvs_map _ _ fun x => by simp only [go_sem, Ht.v, Ht.cs])

section
variable {P : Program} {G : Ctx} {g : FuncId} {args largs : List AVal} {H : Heap} {k : Nat} {rd : Option Nat} {R : Runner} {l : List AOper} {fs : List Sx.Frame} {ρ : List AVal} {ms : List Nat} {Q : Goal} {dst : Option Nat}
/-- A row that is read, and a new one. -/
theorem cRN {x y : Row} {r : AVal} {j : Nat} (h : Ans P g largs [some x] r [some x, some y]) (hargs : args = largs.map (ren (nth [j]))) (hb : Bels (· < 1) largs) (h0 : H[j]? = some (some x)) (hx : x.bel (fun _ => False)) (hy : y.bel (fun _ => False)) (hr : Bel (· = 1) r)
    (hk : k ≤ H.length) (hms : ∀ q ∈ ms, q ≠ j ∧ H[q]? = some (some .dfr)) (hK : R (.ops l) fs ⟨setD ρ dst (ren (fun _ => H.length) r), H ++ [some y], ms⟩ Q) : CallR P G k R g args dst l fs ρ H ms Q := by
  have hlt := (List.getElem?_eq_some_iff.1 h0).1
  have e : outΔ (outσ [j] H.length) 0 [some x, some y] = [(j, x), (H.length, y)] := by
    simp only [outΔ, Row.ren_same hx, Row.ren_same hy]
    rfl
  refine callS h [j] (by simp) ⟨by rw [Row.ren_same hx]; exact h0, trivial⟩ hargs hb ⟨bel_mono_row hx fun _ h => h.elim, trivial⟩ (by simp) (hr.mono fun q hq => by subst hq; simp) ⟨bel_mono_row hx fun _ h => h.elim, bel_mono_row hy fun _ h => h.elim, trivial⟩ (by simpa using hlt) hk (fun q hq => ?_) ?_
  · rw [e]
    have := (List.getElem?_eq_some_iff.1 (hms q hq).2).1
    refine ⟨?_, (hms q hq).2⟩
    simp only [List.map_cons, List.map_nil, List.mem_cons, List.not_mem_nil, or_false, not_or]
    exact ⟨(hms q hq).1, by omega⟩
  · rw [e]
    have e2 : ren (outσ [j] H.length) r = ren (fun _ => H.length) r := ren_agree (fun q hq => by subst hq; simp [outσ]) hr
    rw [e2]
    simp only [Heap.puts]
    rw [put_same h0, Heap.put_end]
    exact hK
end

/-- What 'Shortest' answers. -/
def shR : Option (List Int × Int) → AVal
  | none => .tup [.nilsl, .int .i64 0, .int .i64 7]
  | some (l, n) => .tup [.sl 0 0 l.length, .int .i64 n, .int .i64 0]
def shP : Option (List Int × Int) → Heap
  | none => []
  | some (l, _) => [some (.cells true 1 (ivs l))]

set_option maxHeartbeats 4000000 in
set_option maxRecDepth 4000 in
theorem Shortest_fn (c : Ct) (hc : CtOK c) (d : Dm) (hd : DmOK d) (menu : List Ht) (hl : LsOK menu) (h0 : 1 ≤ menu.length ∧ menu.length ≤ 4) (ht : ∀ z ∈ menu, z.ticks ≤ 100) (m : Nat) (hm : 1 ≤ m ∧ m ≤ 5) :
    Go.Sx.Fn Try.prog n_cathode_Shortest [c.v (.view (c.bands.map Bd.v)), d.v, .view (menu.map Ht.v), .int .i64 m] [] fun v H' => ∃ σ, Kept [] (shP (prevB c d menu m)) (shR (prevB c d menu m)) v H' σ := by
  generalize hRES : prevB c d menu m = RES
  refine run_fn e_cathode_Shortest fun G => ?_
  simp only [go_sem, Ct.v, Ct.cs, Dm.v, Dm.cs]
  refine cP (checkDemand_run c hc d hd) ?_
  simp only [go_sem]
  refine cP (checkMenu_run menu hl h0 ht m (by omega)) ?_
  simp only [go_sem, List.length_map]
  refine callS (lists_run menu.length m) [] (by simp) trivial (by simp [ren]) (by simp only [go_sem]) trivial (by simp) (by simp [go_sem]) ⟨by rw [row_bel_cells]; simp only [go_sem], by rw [row_bel_cells]; simp only [go_sem], trivial⟩ (by simp) (by simp) (by simp) ?_
  simp only [go_sem, outΔ, outσ, ren, rens, Row.ren]
  refine rangeF 2000 (ρ := tsets 63 shT) (by simp [go_sem, shT]) (by simp only [go_sem, shT]; rfl)
    (lists1_iter (c := menu.length) (m := m) (r := 8) (jm := 6) (jc := 5) (N := 9) (by omega) (by omega) (Pre := fun s w H => ∃ v t X, H = shH c d menu m v t (shL .ready none) X ∧ BR (bst c d menu s w) v t X X.length)
      (PreQ := fun s w q H => ∃ v t X p, q = p + 9 ∧ p < X.length ∧ H = shH c d menu m v t (shL .ready none) X ∧ BR (bst c d menu s w) v t X p) ⟨?_, ?_, ?_, ?_, ?_, ?_⟩ ⟨_, _, [], rfl, rfl, rfl⟩) (by simp) ?_
  · rintro s w H ⟨v, t, X, rfl, -⟩
    exact ⟨by simp [shH], rfl, rfl⟩
  · rintro s w H x ⟨v, t, X, rfl, h⟩
    exact ⟨v, t, X ++ [x], X.length, by simp [shH], by simp, by simp [shH], h.app [x]⟩
  · rintro s w q H ⟨v, t, X, p, rfl, hp, rfl, h⟩
    exact ⟨v, t, X, rfl, h.out⟩
  · rintro s w q H x ⟨v, t, X, p, rfl, hp, rfl, h⟩
    exact ⟨v, t, X.set p x, p, rfl, by simpa using hp, rfl, h.put x⟩
  · rintro s H hs - ⟨v, t, X, rfl, h⟩
    exact ⟨v, t, X, rfl, by rw [bst_next c d menu hs]; exact h⟩
  · rintro s w H q hs1 hs2 hw ⟨v, t, X, p, rfl, hp, rfl, h⟩ hq
    rw [bst_succ]
    have hXp : X[p]? = some (some (.cells false 1 (ivs (digL menu.length s w)))) := hq
    have hLl := digL_len menu.length s w
    have hLi := digL_in (c := menu.length) (by omega) s w
    generalize digL menu.length s w = L at *
    generalize bst c d menu s w = B at *
    subst hLl
    have hCh := chosen_run menu L (by omega) (by omega) hLi
    have hpl := pick_len menu L
    have hpo := pick_ok hl ht (fun x hx => hLi x hx) (by omega : L.length ≤ 5)
    have hlg := length_run (pick menu L) hpo
    have hJ := judge_run c hc d (pick menu L) hpo
    have hCl := Clone_run L (by omega) (by omega)
    generalize hR : (fun (v : AVal) (H' : Heap) => _) = R
    have hfin : ∀ v' t' Y, BR (better c d menu B L) v' t' (X ++ Y) p → R (.bool true) (shH c d menu m v' t' (shL .ready none) (X ++ Y)) := fun v' t' Y hb => by
      rw [← hR]
      refine ⟨⟨by simp [shH], ?_⟩, rfl, v', t', X ++ Y, p, rfl, by simp; omega, rfl, hb⟩
      show (X ++ Y)[p]? = X[p]?
      rw [List.getElem?_append_left hp]
    clear hR
    have hget : ∀ x, (X ++ [x])[p]? = some (some (.cells false 1 (ivs L))) := fun x => by rw [List.getElem?_append_left hp]; exact hXp
    have hmf : ∀ (H : Heap), frz 6 H (.view (menu.map Ht.v)) = .view (menu.map Ht.v) := fun H => by
      show AVal.view ((menu.map Ht.v).map (frz 5 H)) = _
      rw [hts_frz]
    have hcf : ∀ (H : Heap), frz 6 H (c.v (.view (c.bands.map Bd.v))) = c.v (.view (c.bands.map Bd.v)) := fun H => by simp only [go_sem, frz, bds_frz, Ct.v, Ct.cs]
    refine roundW_run 500 k_cathode_Shortest_r15.eq_1 rfl rfl (ρ' := tsets 63 (shT ++ [(34, .sl (p + 9) 0 L.length)])) rfl ?_
    simp only [go_sem, shT, shH]
    refine roundMid_run 500 k_cathode_Shortest_r16.eq_1 rfl rfl ?_
    simp only [go_sem]
    refine cFN hCh 6 ⟨.inl (hmf _), .inl (ivs_frz (H := _) hXp rfl), trivial⟩ ?_ (hx := by rw [row_bel_cells]; exact hts_belS _) (hxn := hts_nvr _ _)
    simp only [go_sem, ren]
    refine cF hlg 6 ⟨.inl (sch_frz (H := _) (get_end X _) hpl.symm), trivial⟩ ?_
    simp only [go_sem]
    rcases B with _ | ⟨bl, bn⟩
    · obtain ⟨rfl, rfl⟩ := h
      simp only [go_sem, Ct.v, Ct.cs, Dm.v, Dm.cs]
      refine cF hJ 6 ⟨.inl (hcf _), .inl rfl, .inl (sch_frz (H := _) (get_end X _) hpl.symm), trivial⟩ ?_
      simp only [go_sem]
      refine ⟨fun hs => ?_, fun hs => ?_⟩
      · refine cRN hCl (j := p + 9) rfl ⟨by simp [go_sem], trivial⟩ (hget _) (ivs_row _ _ _) (ivs_row _ _ _) (by simp [go_sem]) (by simp) (by simp) ?_
        simp only [go_sem, ren]
        refine roundEnd_on rfl ?_
        simp only [go_sem]
        have hf := fun r => hfin (.sl (X.length + 1 + 9) 0 L.length) (lenOfL (pick menu L)) [some r, some (.cells true 1 (ivs L))] (by
          unfold better
          rw [if_pos hs]
          exact ⟨by omega, rfl, X.length + 1, rfl, by simp, by omega⟩)
        exact hf _
      · refine roundEnd_on rfl ?_
        simp only [go_sem]
        have hf := fun r => hfin .nilsl 0 [some r] (by
          unfold better
          rw [if_neg hs]
          exact ⟨rfl, rfl⟩)
        exact hf _
    · have hbr : ∀ Y, BR (some (bl, bn)) v t (X ++ Y) p := fun Y => BR.app (b := some (bl, bn)) h Y
      obtain ⟨hb0, rfl, Q, rfl, hQ, hQp⟩ := h
      have hQ' := fun x => by
        have h := List.getElem?_append_left (l₂ := [x]) (List.getElem?_eq_some_iff.1 hQ).1
        rw [hQ] at h
        exact cells_at h
      simp only [go_sem, hQ', ivs_len, Ct.v, Ct.cs, Dm.v, Dm.cs]
      refine ⟨fun hn => ?_, fun hn => ?_⟩
      · refine roundEnd_on rfl ?_
        simp only [go_sem]
        have hf := fun r => hfin (.sl (Q + 9) 0 bl.length) t [some r] (by
          unfold better
          simp only [if_pos hn]
          exact hbr _)
        exact hf _
      · refine cF hJ 6 ⟨.inl (hcf _), .inl rfl, .inl (sch_frz (H := _) (get_end X _) hpl.symm), trivial⟩ ?_
        simp only [go_sem]
        refine ⟨fun hs => ?_, fun hs => ?_⟩
        · refine cRN hCl (j := p + 9) rfl ⟨by simp [go_sem], trivial⟩ (hget _) (ivs_row _ _ _) (ivs_row _ _ _) (by simp [go_sem]) (by simp) (by simp) ?_
          simp only [go_sem, ren]
          refine roundEnd_on rfl ?_
          simp only [go_sem]
          have hf := fun r => hfin (.sl (X.length + 1 + 9) 0 L.length) (lenOfL (pick menu L)) [some r, some (.cells true 1 (ivs L))] (by
            unfold better
            simp only [if_neg hn, if_pos hs]
            exact ⟨by omega, rfl, X.length + 1, rfl, by simp, by omega⟩)
          exact hf _
        · refine roundEnd_on rfl ?_
          simp only [go_sem]
          have hf := fun r => hfin (.sl (Q + 9) 0 bl.length) t [some r] (by
            unfold better
            simp only [if_neg hn, if_neg hs]
            exact hbr _)
          exact hf _
  · rintro v H' ⟨rfl, v, t, X, rfl, h⟩
    refine ⟨fun q hq => by simp at hq; subst hq; rfl, _, _, _, _, _, _, _, rfl, by decide, ?_⟩
    rw [show bst c d menu (m + 1) 0 = RES from hRES] at h
    rcases RES with _ | ⟨l, n⟩
    · obtain ⟨rfl, rfl⟩ := h
      simp only [go_sem, shH, shT, tsets]
      exact ⟨by simp, kept_id rfl (by simp only [go_sem, shR]) (by simp [shP])⟩
    · obtain ⟨h0, rfl, Q, rfl, hQ, -⟩ := h
      simp only [go_sem, shH, shT, tsets, cells_at hQ, ivs_len]
      exact ⟨by simp, kept_one (Q + 9) (by simp [shR, ren, rens]) (ivs_row _ _ _) hQ⟩

theorem Shortest_run (c : Ct) (hc : CtOK c) (d : Dm) (hd : DmOK d) (menu : List Ht) (hl : LsOK menu) (h0 : 1 ≤ menu.length ∧ menu.length ≤ 4) (ht : ∀ z ∈ menu, z.ticks ≤ 100) (m : Nat) (hm : 1 ≤ m ∧ m ≤ 5) :
    Ans Try.prog n_cathode_Shortest [c.v (.view (c.bands.map Bd.v)), d.v, .view (menu.map Ht.v), .int .i64 m] [] (shR (prevB c d menu m)) (shP (prevB c d menu m)) := by
  have h := Shortest_fn c hc d hd menu hl h0 ht m hm
  generalize prevB c d menu m = RES at *
  refine Ans.keep h (Nat.zero_le _) ?_ ?_
  · rcases RES with _ | ⟨l, n⟩
    · simp only [shR, go_sem]
    · simp [shR, shP, go_sem]
  · rcases RES with _ | ⟨l, n⟩
    · trivial
    · exact ⟨ivs_row _ _ _, trivial⟩
end Go.Proofs
