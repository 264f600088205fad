/- CathodeFirst: the law. -/
import Derived.Test.YtgikocfbedopmaaYdT
namespace Go.Proofs
open Go Go.Sx
attribute [local irreducible] Run

section
variable {P : Program} {g : FuncId} {args largs : List AVal} {H : Heap} {r : AVal} {R : Runner} {ao : AOper} {lo hi : Nat} {l : List AOper} {tr : List (List Nat × List Nat)} {ss : List (List AOper)} {fs : List Sx.Frame} {ρ : List AVal} {ms : List Nat} {Q : Goal}
/-- In a drawn region: a row that is changed, two that are read. -/
theorem dS3 {x0 x1 x2 y0 : Row} {j0 j1 j2 : Nat} (h : Ans P g largs [some x0, some x1, some x2] r [some y0, some x1, some x2]) (hargs : args = largs.map (ren (nth [j0, j1, j2]))) (hb : Bels (· < 3) largs)
    (h0 : H[j0]? = some (some x0)) (h1 : H[j1]? = some (some x1)) (h2 : H[j2]? = some (some x2)) (hx0 : x0.bel (fun _ => False)) (hx1 : x1.bel (fun _ => False)) (hx2 : x2.bel (fun _ => False)) (hy0 : y0.bel (fun _ => False)) (hn : [j0, j1, j2].Nodup) (hr : Bel (fun _ => False) r)
    (hms : ∀ q ∈ ms, q ∉ [j0, j1, j2]) (hd : dynOK ao.free [j0, j1, j2] [j0, j1, j2] tr lo = true)
    (hK : R (.grp lo l (tr ++ [([j0, j1, j2], [j0, j1, j2])]) hi ss) fs ⟨setD ρ ao.dst r, H.set j0 (some y0), ms⟩ Q) : DCallR P R g args ao lo l tr hi ss fs ρ H ms Q := by
  have hlt0 := (List.getElem?_eq_some_iff.1 h0).1
  have hlt1 := (List.getElem?_eq_some_iff.1 h1).1
  have hlt2 := (List.getElem?_eq_some_iff.1 h2).1
  have n1 : j0 ≠ j1 ∧ j0 ≠ j2 ∧ j1 ≠ j2 := by simp at hn; omega
  have e : outΔ (outσ [j0, j1, j2] H.length) 0 [some y0, some x1, some x2] = [(j0, y0), (j1, x1), (j2, x2)] := by
    simp only [outΔ, Row.ren_same hy0, Row.ren_same hx1, Row.ren_same hx2]
    rfl
  refine dS h [j0, j1, j2] hn ⟨by rw [Row.ren_same hx0]; exact h0, by rw [Row.ren_same hx1]; exact h1, by rw [Row.ren_same hx2]; exact h2, trivial⟩ hargs hb ⟨bel_mono_row hx0 fun _ h => h.elim, bel_mono_row hx1 fun _ h => h.elim, bel_mono_row hx2 fun _ h => h.elim, trivial⟩
    rfl hr ⟨bel_mono_row hy0 fun _ h => h.elim, bel_mono_row hx1 fun _ h => h.elim, bel_mono_row hx2 fun _ h => h.elim, trivial⟩ (by simp; omega) (fun q hq => by rw [e]; exact hms q hq) (by rw [e]; exact hd) ?_
  rw [e]
  simp only [Heap.puts, put_lt hlt0]
  have q1 : (H.set j0 (some y0))[j1]? = some (some x1) := by rw [List.getElem?_set_ne n1.1]; exact h1
  have q2 : (H.set j0 (some y0))[j2]? = some (some x2) := by rw [List.getElem?_set_ne n1.2.1]; exact h2
  rw [put_same q1, put_same q2]
  exact hK
end

def PL (b : Option (List Int × Int)) : Prop := ∀ l t, b = some (l, t) → l.length ≤ 5
theorem better_len {c : Ct} {d : Dm} {M : List Ht} {b : Option (List Int × Int)} {l : List Int} (hb : PL b) (hl : l.length ≤ 5) : PL (better c d M b l) := by
  intro k t h
  unfold better at h
  rcases b with _ | ⟨k', t'⟩
  · dsimp only at h
    split at h
    · cases h; exact hl
    · cases h
  · dsimp only at h
    split at h
    · cases h; exact hb _ _ rfl
    · split at h
      · cases h; exact hl
      · cases h; exact hb _ _ rfl
theorem fold_len {c : Ct} {d : Dm} {M : List Ht} {s : Nat} (hs : s ≤ 5) : ∀ (W : List Nat) (b : Option (List Int × Int)), PL b → PL (W.foldl (fun b w => better c d M b (digL M.length s w)) b)
  | [], _, h => h
  | w :: W, b, h => fold_len hs W _ (better_len h (by rw [digL_len]; exact hs))
theorem prevB_len {c : Ct} {d : Dm} {M : List Ht} : ∀ k, k ≤ 5 → PL (prevB c d M k)
  | 0, _ => fun l t h => by cases h
  | k + 1, hk => fold_len hk _ _ (prevB_len k (by omega))
theorem ivs_nv (g : Bool) (l : List Int) : (Row.cells g 1 (ivs l)).nv := row_nv_cells _ _ (nvs_map _ _ fun _ => .int _ _)

set_option maxRecDepth 20000 in
set_option maxHeartbeats 8000000 in
theorem first_ok (xs : List Int) (hl : xs.length ≤ 9223372036854775807) (most : Int) : Ans Try.prog n_law03_CathodeFirst [.view (xs.map (.int .i64)), .int .i64 most] [] (.bool true) [] := by
  have hd := newdice_ok xs hl
  generalize seedW xs = w at *
  have hmod := mod_pos most 3 (by decide)
  have hm0 : 0 ≤ most % 3 ∧ most % 3 < 3 := by omega
  obtain ⟨kk, hkk⟩ : ∃ kk : Nat, most % 3 = kk := ⟨(most % 3).toNat, by omega⟩
  rw [hkk] at hmod hm0
  have wm : IntKind.i64.wrap (1 + (kk : Int)) = ((1 + kk : Nat) : Int) := by rw [w64 (by omega)]; omega
  refine spec_run e_law03_CathodeFirst fun G => ?_
  simp only [go_sem]
  refine callN1 hd ⟨by rw [bel_view]; exact bels_map _ _ fun _ => .int _ _, trivial⟩ (dr_bel _ _) (by simp) (by simp) ?_
  simp only [go_sem]
  refine callDN (coatOf_run w) rfl trivial (dr_bel _ _) (fun a ha => ⟨by simp only [go_sem], by simp only [go_sem], by simp only [go_sem]⟩) (by simp) (by simp) ?_
  rintro ⟨c, w1⟩ hc
  dsimp only at hc
  simp only [go_sem, Ct.v, Ct.cs, ren, rens]
  refine callDS (scheduleOf_run w1 2 9 (by decide) (by decide)) rfl ⟨.int _ _, .int _ _, trivial⟩ (dr_bel _ _) (fun a ha => ⟨by simp only [go_sem], by simp only [go_sem]⟩) (by simp) (by simp) ?_
  rintro ⟨l, w2⟩ hl
  dsimp only at hl
  have hb1 := between_ok w2 1 5 (by decide) (by decide) (by decide)
  have hb2 := between_ok (dstep w2) 500 1500 (by decide) (by decide) (by decide)
  have hi1 := btw_in (w := w2) (lo := 1) (hi := 5) (by decide)
  have hi2 := btw_in (w := dstep w2) (lo := 500) (hi := 1500) (by decide)
  generalize btw w2 1 5 = b1 at *
  generalize btw (dstep w2) 500 1500 = b2 at *
  generalize dstep (dstep w2) = w3 at *
  have hMl : 1 ≤ (l ++ [⟨b1, b2, 0⟩] : List Ht).length ∧ (l ++ [⟨b1, b2, 0⟩] : List Ht).length ≤ 3 := by
    have := hl.len
    simp; omega
  have hMa : ∀ z ∈ (l ++ [⟨b1, b2, 0⟩] : List Ht), HtOK z ∧ z.ticks ≤ 9 := fun z hz => by
    rcases List.mem_append.1 hz with hz | hz
    · exact hl.all z hz
    · simp at hz; subst hz
      exact ⟨⟨by dsimp only; omega, by dsimp only; omega, by dsimp only; omega⟩, by dsimp only; omega⟩
  have hfold : ∀ l : List Ht, l.map Ht.v ++ [.agg [.int .i64 b1, .int .i64 b2, .int .i64 0]] = (l ++ [(⟨b1, b2, 0⟩ : Ht)]).map Ht.v := fun l => by simp [Ht.v, Ht.cs]
  by_cases hnil : l = []
  · have e1 : slv 3 (List.map Ht.v l) = .nilsl := by rw [hnil]; rfl
    have e2 : slrG true 3 (List.map Ht.v l) = [] := by rw [hnil]; rfl
    rw [hnil] at hMl hMa
    simp only [List.nil_append] at hMl hMa
    simp only [go_sem, e1, e2]
    refine cD hb1 ?_
    simp only [go_sem]
    refine cD hb2 ?_
    have hlsM : LsOK ([⟨b1, b2, 0⟩] : List Ht) := ⟨by simp, fun z hz => (hMa z hz).1, by simp only [lenOfL]; omega⟩
    have htM : ∀ z ∈ ([⟨b1, b2, 0⟩] : List Ht), z.ticks ≤ 100 := fun z hz => by have := (hMa z hz).2; omega
    have hls2 : LsOK ([⟨b1, b2, 0⟩, ⟨b1, b2, 0⟩] : List Ht) := ⟨by simp, fun z hz => (hMa z (by simpa using hz)).1, by simp only [lenOfL]; omega⟩
    obtain ⟨D, w4, hD, hDm⟩ := demandOf_det w3 c hc [⟨b1, b2, 0⟩, ⟨b1, b2, 0⟩] hls2 true (by simp)
    simp only [go_sem]
    refine ⟨by decide, by decide, by decide, ?_⟩
    refine dS3 hDm (j0 := 0) (j1 := 1) (j2 := 5) (by simp [ren, rens, nth, Ct.v, Ct.cs]) ⟨by rw [bel_ptr]; decide, by rw [ct_bel, bel_sl]; decide, by rw [bel_sl]; decide, trivial⟩ rfl rfl rfl (by simp only [go_sem]) (by simp only [go_sem]) (by rw [row_bel_cells]; exact hts_belS _) (by simp only [go_sem]) (by decide) (by simp only [go_sem]) (by simp) (by rfl) ?_
    simp only [go_sem, Dm.v, Dm.cs]
    refine cP hmod ?_
    simp only [go_sem, wm]
    have hS := Shortest_run c hc D hD [⟨b1, b2, 0⟩] hlsM (by simp) htM (1 + kk) (by omega)
    rcases hRES : prevB c D [⟨b1, b2, 0⟩] (1 + kk) with _ | ⟨bl, bt⟩
    · rw [hRES] at hS
      simp only [shR, shP] at hS
      refine cF hS 6 ⟨.inl (ct_frz (H := _) rfl), .inl rfl, .inl (sch_frz (l := [⟨b1, b2, 0⟩]) (H := _) rfl rfl), .inl rfl, trivial⟩ ?_
      simp only [go_sem]
      refine m_loop c hc D hD [⟨b1, b2, 0⟩] hlsM (by simp) htM (m := 1 + kk) (jM := 4) (by omega) (a9 := .nilsl) (a10 := .int .i64 0) (a11 := .int .i64 7) (B := _) ?_ ⟨⟨[], (List.append_nil _).symm⟩, rfl, rfl, rfl, rfl⟩ (by simp [go_sem, fD])
      intro H b13 t14 hF hB
      rw [hRES] at hB
      obtain ⟨rfl, rfl⟩ := hB
      simp only [go_sem, fD]
      refine cP awake_ok ?_
      simp only [go_sem]
    · rw [hRES] at hS
      simp only [shR, shP] at hS
      refine cFN hS 6 ⟨.inl (ct_frz (H := _) rfl), .inl rfl, .inl (sch_frz (l := [⟨b1, b2, 0⟩]) (H := _) rfl rfl), .inl rfl, trivial⟩ ?_ (hx := ivs_row _ _ _) (hxn := ivs_nv _ _)
      simp only [go_sem, ren, rens]
      refine m_loop c hc D hD [⟨b1, b2, 0⟩] hlsM (by simp) htM (m := 1 + kk) (jM := 4) (by omega) (a9 := .sl 8 0 bl.length) (a10 := .int .i64 bt) (a11 := .int .i64 0) (B := _) ?_ ⟨⟨[], (List.append_nil _).symm⟩, rfl, rfl, rfl, rfl⟩ (by simp [go_sem, fD])
      intro H b13 t14 hF hB
      rw [hRES] at hB
      obtain ⟨hb0, rfl, q, rfl, hq⟩ := hB
      have hbl := prevB_len (c := c) (d := D) (M := [⟨b1, b2, 0⟩]) (1 + kk) (by omega) _ _ hRES
      have z0 : ((bl.length : Int) == 0) = false := by simp only [beq_eq_false_iff_ne, ne_eq]; omega
      have z1 : (t14 == t14) = true := by simp
      have h8 : H[8]? = some (some (.cells true 1 (ivs bl))) := by
        obtain ⟨Y, rfl⟩ := hF.ext
        rfl
      simp only [go_sem, fD, cells_at hq, ivs_len, z0]
      refine cF (Same_run bl (by omega)) 6 ⟨.inl (ivs_frz (H := _) h8 rfl), .inl (ivs_frz (H := _) hq rfl), trivial⟩ ?_
      simp only [go_sem, z1]
      refine cP awake_ok ?_
      simp only [go_sem]
  have hne : List.map Ht.v l ≠ [] := by simpa using hnil
  have e1 : slv 3 (List.map Ht.v l) = .sl 3 0 l.length := by unfold slv; rw [if_neg hne, List.length_map]
  have e2 : slrG true 3 (List.map Ht.v l) = [some (.cells true 3 (List.map Ht.v l))] := by unfold slrG; rw [if_neg hne]
  simp only [go_sem, e1, e2]
  refine cD hb1 ?_
  simp only [go_sem]
  refine cD hb2 ?_
  obtain ⟨M, hMd⟩ : ∃ M : List Ht, M = l ++ [⟨b1, b2, 0⟩] := ⟨_, rfl⟩
  have hfo := hfold l
  have hln : l.length + 1 = M.length := by rw [hMd]; simp
  rw [← hMd] at hMl hMa hfo
  have hM0 : M[0]? = some M[0] := List.getElem?_eq_getElem (by omega)
  have hz0 := hMa M[0] (List.getElem_mem _)
  generalize M[0] = z at *
  have htk : List.take M.length (M.map Ht.v) = M.map Ht.v := List.take_of_length_le (by simp)
  have hpos : (0 : Int) < M.length := by omega
  have hsz : sizedAll 3 (M.map Ht.v) = true := by
    unfold sizedAll
    rw [List.all_eq_true]
    intro v hv
    obtain ⟨n, _, rfl⟩ := List.mem_map.1 hv
    rfl
  have hlo2 := Sch.sum (most := 3) hMa
  have hlo3 := lenOf_nonneg M fun z hz => (hMa z hz).1
  have hlsM : LsOK M := ⟨by omega, fun z hz => (hMa z hz).1, by omega⟩
  have htM : ∀ z ∈ M, z.ticks ≤ 100 := fun z hz => by have := (hMa z hz).2; omega
  have hls2 : LsOK (M ++ [z]) := ⟨by simp; omega, fun y hy => by
    rcases List.mem_append.1 hy with hy | hy
    · exact (hMa y hy).1
    · simp at hy; subst hy; exact hz0.1, by rw [lenOf_snoc]; have := hz0.2; omega⟩
  obtain ⟨D, w4, hD, hDm⟩ := demandOf_det w3 c hc (M ++ [z]) hls2 true (by simp)
  simp only [go_sem, List.length_map, hfo, hln, htk, hM0, hpos, hsz, Ht.v, Ht.cs, hts_snoc]
  refine ⟨by omega, by omega, by omega, ?_⟩
  refine dS3 hDm (j0 := 0) (j1 := 1) (j2 := 5) (by simp [ren, rens, nth, Ct.v, Ct.cs]) ⟨by rw [bel_ptr]; decide, by rw [ct_bel, bel_sl]; decide, by rw [bel_sl]; decide, trivial⟩ rfl rfl rfl (by simp only [go_sem]) (by simp only [go_sem]) (by rw [row_bel_cells]; exact hts_belS _) (by simp only [go_sem]) (by decide) (by simp only [go_sem]) (by simp) (by rfl) ?_
  simp only [go_sem, Dm.v, Dm.cs]
  refine cP hmod ?_
  simp only [go_sem, wm]
  have hS := Shortest_run c hc D hD M hlsM ⟨by omega, by omega⟩ htM (1 + kk) (by omega)
  rcases hRES : prevB c D M (1 + kk) with _ | ⟨bl, bt⟩
  · rw [hRES] at hS
    simp only [shR, shP] at hS
    refine cF hS 6 ⟨.inl (ct_frz (H := _) rfl), .inl rfl, .inl (sch_frz (l := M) (H := _) rfl rfl), .inl rfl, trivial⟩ ?_
    simp only [go_sem, List.length_map]
    refine m_loop c hc D hD M hlsM ⟨by omega, by omega⟩ htM (m := 1 + kk) (jM := 3) (by omega) (a9 := .nilsl) (a10 := .int .i64 0) (a11 := .int .i64 7) (B := _) ?_ ⟨⟨[], (List.append_nil _).symm⟩, rfl, rfl, rfl, rfl⟩ (by simp [go_sem, fD])
    intro H b13 t14 hF hB
    rw [hRES] at hB
    obtain ⟨rfl, rfl⟩ := hB
    simp only [go_sem, fD]
    refine cP awake_ok ?_
    simp only [go_sem]
  · rw [hRES] at hS
    simp only [shR, shP] at hS
    refine cFN hS 6 ⟨.inl (ct_frz (H := _) rfl), .inl rfl, .inl (sch_frz (l := M) (H := _) rfl rfl), .inl rfl, trivial⟩ ?_ (hx := ivs_row _ _ _) (hxn := ivs_nv _ _)
    simp only [go_sem, ren, rens, List.length_map]
    refine m_loop c hc D hD M hlsM ⟨by omega, by omega⟩ htM (m := 1 + kk) (jM := 3) (by omega) (a9 := .sl 8 0 bl.length) (a10 := .int .i64 bt) (a11 := .int .i64 0) (B := _) ?_ ⟨⟨[], (List.append_nil _).symm⟩, rfl, rfl, rfl, rfl⟩ (by simp [go_sem, fD])
    intro H b13 t14 hF hB
    rw [hRES] at hB
    obtain ⟨hb0, rfl, q, rfl, hq⟩ := hB
    have hbl := prevB_len (c := c) (d := D) (M := M) (1 + kk) (by omega) _ _ hRES
    have z0 : ((bl.length : Int) == 0) = false := by simp only [beq_eq_false_iff_ne, ne_eq]; omega
    have z1 : (t14 == t14) = true := by simp
    have h8 : H[8]? = some (some (.cells true 1 (ivs bl))) := by
      obtain ⟨Y, rfl⟩ := hF.ext
      rfl
    simp only [go_sem, fD, cells_at hq, ivs_len, z0]
    refine cF (Same_run bl (by omega)) 6 ⟨.inl (ivs_frz (H := _) h8 rfl), .inl (ivs_frz (H := _) hq rfl), trivial⟩ ?_
    simp only [go_sem, z1]
    refine cP awake_ok ?_
    simp only [go_sem]
end Go.Proofs
