/- A part of the proof. -/
import Derived.Test.YtgjcjehpfjeomaaDoorPG
set_option linter.unusedSimpArgs false
set_option linter.unusedVariables false
namespace Go.Proofs
open Go Go.Sx
open Go.Txt (okB celB chB spl spl_row spl_len rowB rr)
attribute [local irreducible] Run

def rpH (w : Nat) (h : Int) (rd : Bool) (cs : List Int) (L : List (List UInt8)) (g : Row) (X : Heap) : Heap :=
  if cs = [] then [some (.cells false 4 [.agg [.int .i64 0, .int .i64 0, .bool false, .nilsl]]), some (.cells true 1 (strs L)), some (plR w h rd .nilsl)]
  else [some (.cells false 4 [.agg [.int .i64 0, .int .i64 0, .bool false, .nilsl]]), some (.cells true 1 (strs L)), some (plR w h rd (.sl 4 0 cs.length)), some g, some (.cells true 1 (ivl cs))] ++ X
theorem rpH_nil (w : Nat) (h : Int) (rd : Bool) (L : List (List UInt8)) (g : Row) (X : Heap) : rpH w h rd [] L g X = [some (.cells false 4 [.agg [.int .i64 0, .int .i64 0, .bool false, .nilsl]]), some (.cells true 1 (strs L)), some (plR w h rd .nilsl)] := rfl
theorem rpH_ne {w : Nat} {h : Int} {rd : Bool} {cs : List Int} {L : List (List UInt8)} {g : Row} {X : Heap} (hc : cs ≠ []) : rpH w h rd cs L g X = [some (.cells false 4 [.agg [.int .i64 0, .int .i64 0, .bool false, .nilsl]]), some (.cells true 1 (strs L)), some (plR w h rd (.sl 4 0 cs.length)), some g, some (.cells true 1 (ivl cs))] ++ X := if_neg hc

set_option maxHeartbeats 4000000 in
set_option maxRecDepth 10000 in
theorem rParse_ok (s : List UInt8) (hl : s.length ≤ 1000000) : Ans Tryd.prog n_ref01_Parse [.str s] [] (psV (parseP s)) (psH (parseP s)) := by
  obtain ⟨L, rest, hs, kr⟩ := rows_ok s hl
  have hN : Go.Txt.cnt 10 s = L.length := by
    have := spl_len 10 s
    rw [hs, List.length_append, List.length_singleton] at this; omega
  obtain ⟨x, hx⟩ : ∃ x, parseP s = x := ⟨_, rfl⟩
  rw [hx]
  unfold parseP at hx
  rw [hs, hN] at hx
  refine Ans.keep (run_fn e_ref01_Parse fun G => ?_) (by simp) (by unfold psV csV psH; split <;> simp [go_sem]) (by unfold psH; split <;> simp [go_sem, Full])
  have hz : ∀ (line e : Int), x = (zp, line, e) → ∀ X : Heap, ∃ σ, Kept [] (psH x) (psV x) (.tup [.agg [.int .i64 0, .int .i64 0, .bool false, .nilsl], .int .i64 line, .int .i64 e]) X σ := fun line e he X => by
    subst he
    exact ⟨fun i => i, fun i hi => rfl, fun i j hi => by simp [psH, zp] at hi, rfl, fun i y hy => by simp [psH, zp] at hy⟩
  by_cases h4 : 400 < s.length
  · rw [if_pos h4] at hx
    have g4 : (s.length : Int) > 400 := by omega
    simp only [go_sem, g4]
    exact hz 0 5 hx.symm _
  rw [if_neg h4] at hx
  have g4 : ¬ (s.length : Int) > 400 := by omega
  simp only [go_sem, g4]
  cases L with
  | nil =>
    rw [lsV_nil] at kr
    refine cP kr ?_
    simp only [go_sem]
    exact hz 1 3 hx.symm _
  | cons r0 R =>
    rw [lsV_ne (by simp)] at kr
    refine cN1 kr ?_
    obtain ⟨N, hNR⟩ : ∃ N, R.length = N := ⟨_, rfl⟩
    have hcl := cntT_le 10 s
    rw [hN, List.length_cons, hNR] at hcl
    have hg0 : (strs (r0 :: R))[0]? = some (.str r0) := rfl
    have hlen : (strs (r0 :: R)).length = N + 1 := by simp [strs, hNR]
    have gN : (0 : Int) < ((N + 1 : Nat) : Int) := by omega
    have gN' : (((N + 1 : Nat) : Int) == 0) = false := by rw [beq_eq_false_iff_ne]; omega
    have u1 : IntKind.i64.wrap (((N + 1 : Nat) : Int) - 1) = N := by rw [w64 (by omega)]; omega
    rw [List.length_cons, hNR] at hx
    by_cases hh : r0 ≠ roundB ∧ r0 ≠ flatB
    · have hb : (r0 != [114, 111, 117, 110, 100]) = true := by rw [bne_iff_ne]; exact hh.1
      have hf : (r0 != [102, 108, 97, 116]) = true := by rw [bne_iff_ne]; exact hh.2
      have hr : readR ((r0 :: R) ++ [rest]) (N + 1) = ⟨0, 0, false, [], 1⟩ := by unfold readR; rw [if_pos (.inr hh)]
      rw [hr] at hx
      have p1 : (r0 = [114, 111, 117, 110, 100]) = False := eq_false hh.1
      have p2 : (r0 = [102, 108, 97, 116]) = False := eq_false hh.2
      simp only [go_sem, ren, rens, gN', gN, hlen, List.length_cons, hNR, hg0, hb, hf, p1, p2]
      exact hz 1 3 hx.symm _
    have hhead : ∃ b : Bool, (r0 == [114, 111, 117, 110, 100]) = b ∧ (r0 != [114, 111, 117, 110, 100]) = !b ∧ (b = false → (r0 != [102, 108, 97, 116]) = false) := by
      refine ⟨_, rfl, rfl, fun hb => ?_⟩
      rw [beq_eq_false_iff_ne] at hb
      rw [bne_eq_false_iff_eq]
      rcases Classical.em (r0 = flatB) with h | h
      · exact h
      · exact absurd ⟨hb, h⟩ hh
    obtain ⟨b, hb, hbn, hf⟩ := hhead
    have hq : readR ((r0 :: R) ++ [rest]) (N + 1) = (if (rr R 2 0 []).2.2 ≠ 0 then ⟨(rr R 2 0 []).1, N, b, (rr R 2 0 []).2.1, (rr R 2 0 []).2.2⟩
        else if N = 0 ∨ rest ≠ [] then ⟨(rr R 2 0 []).1, N, b, (rr R 2 0 []).2.1, N + 1 + 1⟩
        else ⟨(rr R 2 0 []).1, N, b, (rr R 2 0 []).2.1, 0⟩) := by
      have e1 : (((r0 :: R) ++ [rest]).drop 1).take (N + 1 - 1) = R := by
        rw [List.cons_append, List.drop_succ_cons, List.drop_zero, Nat.add_sub_cancel, ← hNR, List.take_left]
      have e2 : ((r0 :: R) ++ [rest]).getD (N + 1) [] = rest := by
        rw [← hNR]; simp
      have e3 : (((r0 :: R) ++ [rest]).headD [] == roundB) = b := hb
      unfold readR
      rw [if_neg (by rintro (h | h); exact absurd h (by omega); exact hh h), e1, e2, e3]
      have e4 : ((N + 1 : Nat) : Int) - 1 = N := by omega
      simp only [e4, Nat.add_sub_cancel]
      rfl
    obtain ⟨Q, hQ⟩ : ∃ Q, rr R 2 0 [] = Q := ⟨_, rfl⟩
    rw [hQ] at hq
    rw [hq] at hx
    have hflen : (R.map List.length).sum ≤ s.length := by
      have h1 := spl_sum 10 s
      rw [hs, List.map_append, List.sum_append, List.map_cons, List.sum_cons] at h1
      omega
    have hloop : ∀ ρ', Wk ρ' (tsets 102 [(2, .ptr 0 0 0 1), (5, .sl 1 0 (N + 1)), (6, .str rest), (7, .ptr 2 0 0 1), (8, .int .i64 1)]) → Sx.Loop Tryd.prog G 0 none k_ref01_Parse_r15 [.blk 0, .seq (.seq (.seq (.reg k_ref01_Parse_r16 false) (.cond (.tmp 90) (.seq (.reg k_ref01_Parse_r17 false) .ret) .skip)) (.seq (.seq (.reg k_ref01_Parse_r18 false) (.seq (.reg k_ref01_Parse_r19 false) (.cond (.tmp 98) (.seq (.reg k_ref01_Parse_r20 false) .ret) .skip))) (.seq (.reg k_ref01_Parse_r21 false) .ret)))]
        ⟨ρ', rpH 0 N b [] (r0 :: R) .dfr [], []⟩ (RetPost [.cell 2 (some (some 4)), .tmp 3, .tmp 4] fun v H' => ∃ σ, Kept [] (psH x) (psV x) v H' σ) := by
      intro ρ' hρ
      refine loop_ind k_ref01_Parse_r15.eq_1 (fun a : Nat × Nat × List Int × Row × Heap => a.1 ≤ N ∧ rr (R.drop a.1) (a.1 + 2) a.2.1 a.2.2.1 = Q ∧ (a.1 = 0 → a.2.1 = 0 ∧ a.2.2.1 = []) ∧ (0 < a.1 → a.2.1 ≠ 0 ∧ a.2.2.1 ≠ []) ∧ a.2.2.1.length + ((R.drop a.1).map List.length).sum ≤ 1000000 ∧ a.2.1 ≤ 1000000) (fun a => N - a.1)
        (fun a => (tsets 102 [(2, .ptr 0 0 0 1), (5, .sl 1 0 (N + 1)), (6, .str rest), (7, .ptr 2 0 0 1), (8, .int .i64 ((a.1 + 1 : Nat) : Int))], rpH a.2.1 N b a.2.2.1 (r0 :: R) a.2.2.2.1 a.2.2.2.2)) (0, 0, [], .dfr, []) ⟨Nat.zero_le _, by simpa using hQ, fun _ => ⟨rfl, rfl⟩, fun h => absurd h (by decide), by simp; omega, by decide⟩ hρ rfl ?_
      rintro ⟨i, w, cs, g, X⟩ ⟨hi, hrr, hz0, hnz, hsum, hw⟩ ih
      dsimp only at hi hrr hz0 hnz hsum hw ih ⊢
      by_cases h1 : i < N
      · have hlt : i < R.length := by omega
        obtain ⟨r, hr⟩ : ∃ r, R[i] = r := ⟨_, rfl⟩
        have hdrop : R.drop i = r :: R.drop (i + 1) := by rw [← hr]; exact List.drop_eq_getElem_cons hlt
        have hget : (strs (r0 :: R))[i + 1]? = some (.str r) := by
          rw [strs_get (by simp; omega)]
          simp [hr]
        rw [hdrop] at hrr hsum
        rw [List.map_cons, List.sum_cons] at hsum
        rw [rr] at hrr
        have h2 : ((i + 1 : Nat) : Int) < ((N + 1 : Nat) : Int) := by omega
        have n0 : ¬ ((i + 1 : Nat) : Int) < 0 := by omega
        have u3 : IntKind.i64.wrap (((i + 1 : Nat) : Int) + 1) = ((i + 1 + 1 : Nat) : Int) := by rw [w64 (by omega)]; rfl
        have kc := cells_ok r (by omega)
        have hbad : rowB r w = false → x = (zp, ((i + 1 + 1 : Nat) : Int), 3) := fun h => by
          rw [if_neg (by rw [h]; decide)] at hrr
          rw [← hrr] at hx
          rw [← hx]
          rfl
        have hrow : rowB r w = (rowB r 0 && (decide (w = 0) || decide (r.length = w))) := by
          unfold rowB
          cases r.all okB <;> simp
        by_cases hb0 : rowB r 0 = true
        · have hr1 : 0 < r.length := by
            unfold rowB at hb0; simp at hb0; omega
          have hm : r.map celB ≠ [] := by intro h; rw [List.map_eq_nil_iff] at h; rw [h] at hr1; exact absurd hr1 (by decide)
          rw [hb0] at kc
          simp only [↓reduceIte] at kc
          have hsz : sizedAll 1 (ivl (r.map celB)) = true := by simp [sizedAll, ivl, acells, AVal.one]
          have hill : (ivl (r.map celB)).length = r.length := by simp [ivl]
          have htake : List.take r.length (ivl (r.map celB)) = ivl (r.map celB) := List.take_of_length_le (by omega)
          have hiln : ¬ ivl (r.map celB) = [] := by intro h; rw [h] at hill; simp at hill; omega
          rw [hb0, Bool.true_and] at hrow
          by_cases hi0 : i = 0
          · obtain ⟨hw0, hcs0⟩ := hz0 hi0
            subst hw0 hcs0
            rw [hrow, decide_eq_true rfl, Bool.true_or, if_pos rfl] at hrr
            have ihn := ih (i + 1, r.length, [] ++ r.map celB, .cells true 1 (ivl (r.map celB)), []) (by dsimp only; omega) ⟨h1, hrr, fun h => absurd h (by dsimp only; omega), fun _ => ⟨by dsimp only; omega, by simpa using hm⟩, by dsimp only; simp; simp at hsum; omega, by dsimp only; omega⟩
            clear ih
            rw [List.nil_append, rpH_ne hm] at ihn
            have n1 : ¬ (1 : Int) < ((i + 1 : Nat) : Int) := by omega
            have n2 : ¬ ((i + 1 : Nat) : Int) > 1 := by omega
            rw [rpH_nil]
            simp only [go_sem, hlen, List.length_cons, hNR, h2, n0, hget, u3, plR]
            refine cN1 kc ?_
            simp only [go_sem, ren, rens, u3, n1, n2, htake, hsz, hill, hiln, plR]
            simp only [go_sem, plR, List.length_map, List.nil_append] at ihn
            exact ⟨by omega, ihn _ (by simp [go_sem])⟩
          · obtain ⟨hw0, hcs0⟩ := hnz (by omega)
            have n1 : (1 : Int) < ((i + 1 : Nat) : Int) := by omega
            have n2 : ((i + 1 : Nat) : Int) > 1 := by omega
            rw [rpH_ne hcs0]
            simp only [go_sem, hlen, List.length_cons, hNR, h2, n0, hget, u3, plR]
            refine cN1 kc ?_
            by_cases hw' : r.length = w
            · have hnb : ((r.length : Int) != (w : Int)) = false := by simp [hw']
              have hne1 : cs ++ r.map celB ≠ [] := by simp [hcs0]
              rw [hrow, decide_eq_true hw', Bool.or_true, if_pos rfl] at hrr
              have ihn := ih (i + 1, r.length, cs ++ r.map celB, g, X ++ [some (.cells true 1 (ivl (r.map celB)))]) (by dsimp only; omega) ⟨h1, hrr, fun h => absurd h (by dsimp only; omega), fun _ => ⟨by dsimp only; omega, hne1⟩, by dsimp only; rw [List.length_append, List.length_map]; omega, by dsimp only; omega⟩
              clear ih
              rw [rpH_ne hne1] at ihn
              have hia : ivl cs ++ ivl (r.map celB) = ivl (cs ++ r.map celB) := by simp [ivl]
              simp only [go_sem, ren, rens, u3, n1, n2, hnb, htake, hsz, hill, hiln, ivl_len, hia, plR]
              simp only [go_sem, plR, List.length_append, List.length_map] at ihn
              exact ⟨by omega, ihn _ (by simp [go_sem])⟩
            · have hnb : ((r.length : Int) != (w : Int)) = true := by rw [bne_iff_ne]; omega
              simp only [go_sem, ren, rens, u3, n1, n2, hnb, hill, plR]
              exact hz _ 3 (hbad (by rw [hrow]; simp [hw0, hw'])) _
        · have hb0' : rowB r 0 = false := by simpa using hb0
          rw [hb0'] at kc hrow
          simp only [Bool.false_eq_true, ↓reduceIte] at kc
          by_cases hc0 : cs = []
          · subst hc0
            rw [rpH_nil]
            simp only [go_sem, hlen, List.length_cons, hNR, h2, n0, hget, u3, plR]
            refine cP kc ?_
            simp only [go_sem, u3]
            exact hz _ 3 (hbad hrow) _
          · rw [rpH_ne hc0]
            simp only [go_sem, hlen, List.length_cons, hNR, h2, n0, hget, u3, plR]
            refine cP kc ?_
            simp only [go_sem, u3]
            exact hz _ 3 (hbad hrow) _
      · obtain rfl : i = N := by omega
        have hdr : R.drop i = [] := List.drop_of_length_le (by omega)
        rw [hdr] at hrr
        have hQ0 : Q = (w, cs, 0) := hrr.symm
        subst hQ0
        rw [if_neg (show ¬ ((w, cs, (0 : Nat)).2.2 ≠ 0) from fun h => h rfl)] at hx
        have h2 : ¬ ((i + 1 : Nat) : Int) < ((i + 1 : Nat) : Int) := by omega
        have u3 : IntKind.i64.wrap (((i + 1 : Nat) : Int) + 1) = ((i + 1 + 1 : Nat) : Int) := by rw [w64 (by omega)]; rfl
        by_cases he : i = 0 ∨ rest ≠ []
        · rw [if_pos he, if_pos (by dsimp only; omega)] at hx
          have hx' : x = (zp, ((i + 1 + 1 : Nat) : Int), 3) := by rw [← hx]; rfl
          have hgo : ∀ A : Heap, ∃ σ, Kept [] (psH x) (psV x) (.tup [.agg [.int .i64 0, .int .i64 0, .bool false, .nilsl], .int .i64 ((i + 1 + 1 : Nat) : Int), .int .i64 3]) A σ := hz _ 3 hx'
          by_cases hr0 : rest = []
          · have hi0 : i = 0 := by
              rcases he with h | h
              · exact h
              · exact absurd hr0 h
            subst hi0
            obtain ⟨hw0, hcs0⟩ := hz0 rfl
            subst hw0 hcs0 hr0
            rw [rpH_nil]
            simp only [go_sem, hlen, List.length_cons, hNR, h2, u3, plR]
            exact hgo _
          · have hpos : (0 : Int) < rest.length := by have := List.length_pos_iff.2 hr0; omega
            by_cases hc0 : cs = []
            · subst hc0
              rw [rpH_nil]
              simp only [go_sem, hlen, List.length_cons, hNR, h2, u3, plR, hpos]
              exact hgo _
            · rw [rpH_ne hc0]
              simp only [go_sem, hlen, List.length_cons, hNR, h2, u3, plR, hpos]
              exact hgo _
        · rw [if_neg he] at hx
          have hi0 : 0 < i := by omega
          have hr0 : rest = [] := Classical.byContradiction fun h => he (.inr h)
          subst hr0
          obtain ⟨hw0, hcs0⟩ := hnz hi0
          have hlt2 : ¬ ((i + 1 : Nat) : Int) < 2 := by omega
          have hK := rCheck_raw (⟨w, i, b, cs⟩ : Rp) (by show cs.length ≤ 1000000; omega)
          rw [if_neg (by intro h; exact h rfl)] at hx
          have hx2 : (if (⟨w, i, b, cs⟩ : Rp).err ≠ 0 then (zp, 0, (⟨w, i, b, cs⟩ : Rp).err) else ((⟨w, i, b, cs⟩ : Rp), 0, 0)) = x := hx
          clear hx
          rw [rpH_ne hcs0]
          simp only [go_sem, hlen, List.length_cons, hNR, h2, hlt2, u3, plR]
          refine cF hK 6 ⟨.inl (rpa_frz 3 (q := ⟨w, i, b, cs⟩) (j := 4) (g := true) rfl), trivial⟩ ?_
          obtain ⟨e, hE⟩ : ∃ e, (⟨w, i, b, cs⟩ : Rp).err = e := ⟨_, rfl⟩
          rw [hE] at hx2 ⊢
          by_cases he0 : e = 0
          · subst he0
            rw [if_neg (fun h => h rfl)] at hx2
            subst hx2
            simp only [go_sem, bne_self_eq_false]
            unfold psH psV csV
            dsimp only
            rw [if_neg hcs0, if_neg hcs0]
            exact kept_one (x := .cells true 1 (ivl cs)) 4 rfl (by simp only [go_sem]) rfl
          · have hne' : (e != 0) = true := by simp [he0]
            rw [if_pos he0] at hx2
            simp only [go_sem, hne']
            exact hz 0 e hx2.symm _
    cases b
    · have p1 : (r0 = [114, 111, 117, 110, 100]) = False := eq_false (by simpa using hb)
      have p2 : (r0 = [102, 108, 97, 116]) = True := eq_true (by simpa using hf rfl)
      simp only [go_sem, ren, rens, gN', gN, hlen, List.length_cons, hNR, hg0, hb, hbn, hf rfl, u1, p1, p2, Bool.not_false, Bool.not_true]
      exact hloop _ (by simp [go_sem])
    · have p1 : (r0 = [114, 111, 117, 110, 100]) = True := eq_true (by simpa using hb)
      simp only [go_sem, ren, rens, gN', gN, hlen, List.length_cons, hNR, hg0, hb, hbn, u1, p1, Bool.not_false, Bool.not_true]
      exact hloop _ (by simp [go_sem])
end Go.Proofs

namespace Go.Proofs
open Go Go.Sx
attribute [local irreducible] Run

def textR (p : Rp) : AVal := .tup [.str (if p.err = 0 then textP p else []), .int .i64 p.err]
set_option maxHeartbeats 2000000 in
theorem Text_raw (p : Rp) (hl : p.cs.length ≤ 1000000) : Ans Tryd.prog n_field_Text [p.v] [] (textR p) [] := by
  by_cases h : p.err = 0
  · have := Text_ok h
    unfold textR
    rw [if_pos h, h]; exact this
  · have hc := Check_raw p hl
    have hne : (p.err != 0) = true := by simp [h]
    unfold textR
    rw [if_neg h]
    refine Ans.keep (run_fn e_field_Text fun G => ?_) (by simp) (by simp [go_sem]) (by simp [go_sem, Full])
    simp only [go_sem, Rp.v]
    refine cP hc ?_
    simp only [go_sem, hne]
    exact ⟨fun i => i, fun i hi => rfl, fun i j hi => by simp at hi, rfl, fun i y hy => by simp at hy⟩
set_option maxHeartbeats 2000000 in
theorem rText_raw (p : Rp) (hl : p.cs.length ≤ 1000000) : Ans Tryd.prog n_ref01_Text [p.v] [] (textR p) [] := by
  by_cases h : p.err = 0
  · have := rText_ok h
    unfold textR
    rw [if_pos h, h]; exact this
  · have hc := rCheck_raw p hl
    have hne : (p.err != 0) = true := by simp [h]
    unfold textR
    rw [if_neg h]
    refine spec_run e_ref01_Text fun G => ?_
    simp only [go_sem, Rp.v]
    refine cP hc ?_
    simp only [go_sem, hne]
theorem textP_pos (p : Rp) : 0 < (textP p).length := by
  unfold textP Go.Txt.joinR
  simp
  omega
theorem big0_no (p : Rp) (hp : p.cs.length ≤ 300) : Ans Tryd.prog n_law01_big [p.v, .view []] [] (.bool false) [] := by
  refine spec_run e_law01_big fun G => ?_
  have h1 : ¬ (300 : Int) < p.cs.length := by omega
  simp only [go_sem, Rp.v, vw]
  refine loop_body 3000 k_law01_big_r6.eq_1 ?_
  simp only [go_sem, List.length_map, h1]
theorem big0_yes (p : Rp) (hp : ¬ p.cs.length ≤ 300) : Ans Tryd.prog n_law01_big [p.v, .view []] [] (.bool true) [] := by
  refine spec_run e_law01_big fun G => ?_
  have h1 : (300 : Int) < p.cs.length := by omega
  simp only [go_sem, Rp.v, vw]
  refine loop_body 3000 k_law01_big_r6.eq_1 ?_
  simp only [go_sem, List.length_map, h1]
end Go.Proofs

namespace Go.Proofs
open Go Go.Sx
attribute [local irreducible] Run

theorem rparse_yes {s : List UInt8} {q : Rp} (h : parseP s = (q, 0, 0)) (hc : q.cs ≠ []) (hl : s.length ≤ 1000000) :
    Ans Tryd.prog n_ref01_Parse [.str s] [] (.tup [.agg [.int .i64 q.w, .int .i64 q.h, .bool q.rd, .sl 0 0 q.cs.length], .int .i64 0, .int .i64 0]) [some (.cells true 1 (ivl q.cs))] := by
  have := rParse_ok s hl
  rw [h] at this
  unfold psV psH csV at this
  simp only [if_neg hc] at this
  exact this
theorem rparse_no {s : List UInt8} {n e : Int} (h : parseP s = (zp, n, e)) (hl : s.length ≤ 1000000) :
    Ans Tryd.prog n_ref01_Parse [.str s] [] (.tup [.agg [.int .i64 0, .int .i64 0, .bool false, .nilsl], .int .i64 n, .int .i64 e]) [] := by
  have := rParse_ok s hl
  rw [h] at this
  exact this

set_option maxHeartbeats 4000000 in
set_option maxRecDepth 10000 in
theorem texts_tail {G : Ctx} (text T : List UInt8) (ht : text.length ≤ 1000000) (hT : T.length ≤ 1000000) {H : Heap} {j : Nat} {g : Bool} (hj : H[j]? = some (some (.cells g 1 [.str text, .str T]))) (ρ' : List AVal) (hρ : Wk ρ' (tsets 166 [(21, .sl j 0 2), (22, .int .i64 0)])) :
    Sx.Loop Tryd.prog G 0 none k_law01_FieldTexts_r26 [.blk 1, .seq (.seq (.reg k_law01_FieldTexts_r27 false) .ret)] ⟨ρ', H, []⟩ (RetPost [.tmp 10] fun v H'' => v = .bool true) := by
  refine loop_ind k_law01_FieldTexts_r26.eq_1 (fun a : Nat × Heap => a.1 ≤ 2) (fun a => 2 - a.1) (fun a => (tsets 166 [(21, .sl j 0 2), (22, .int .i64 a.1)], H ++ a.2)) (0, []) (Nat.zero_le _) hρ (by simp) ?_
  rintro ⟨i, X⟩ hi ih
  dsimp only at hi ih ⊢
  have hjl : j < H.length := (List.getElem?_eq_some_iff.1 hj).1
  have hjj : ∀ Y : Heap, (H ++ Y)[j]? = some (some (.cells g 1 [.str text, .str T])) := fun Y => by rw [List.getElem?_append_left hjl]; exact hj
  have cj := fun Y => cells_at (hjj Y)
  by_cases h1 : i < 2
  · have h2 : (i : Int) < 2 := by omega
    have n0 : ¬ (i : Int) < 0 := by omega
    have h3 : IntKind.i64.wrap ((i : Int) + 1) = ((i + 1 : Nat) : Int) := by rw [w64 (by omega)]; rfl
    obtain ⟨U, hU, hUl⟩ : ∃ U : List UInt8, ([.str text, .str T] : List AVal)[i]? = some (.str U) ∧ U.length ≤ 1000000 := by
      match i, h1 with
      | 0, _ => exact ⟨text, rfl, ht⟩
      | 1, _ => exact ⟨T, rfl, hT⟩
    simp only [go_sem, List.append_assoc, cj, h2, n0, hU]
    rcases parse_cases U with ⟨q, hq⟩ | ⟨n, e, hne, hq⟩
    · obtain ⟨htq, herr⟩ := text_parse hq
      have hok := (Rp.ok herr).1
      have hql : q.cs.length ≤ 1000000 := by
        have h1 := hok.len
        have h2 := Nat.mul_le_mul hok.w.2 hok.h.2
        have h3 : q.pl.cs = q.cs := rfl
        rw [h3] at h1; omega
      have hpq := parse_yes hq (err_ne herr) hUl
      have hrq := rparse_yes hq (err_ne herr) hUl
      have hsame := rSame_raw q q hql true (by simp)
      refine cN1 hpq ?_
      simp only [go_sem, List.append_assoc, cj, ren, rens, h2, n0, hU]
      refine cN1 hrq ?_
      simp only [go_sem, List.append_assoc, cj, ren, rens, bne_self_eq_false]
      refine cF hsame 6 ⟨.inl (rpa_frz 3 (q := q) (g := true) (by simp)), .inl (rpa_frz 3 (q := q) (g := true) (by simp)), trivial⟩ ?_
      simp only [go_sem, h3]
      exact ih (i + 1, _) (by dsimp only; omega) (by dsimp only; omega) _ (by simp [go_sem])
    · have hpn := parse_no hq hUl
      have hrn := rparse_no hq hUl
      have hz := Go.Proofs.Ans.lss2 (rSame_raw zp zp (by decide) true (by simp)) (args' := [.agg [.int .i64 0, .int .i64 0, .bool false, .nilsl], .agg [.int .i64 0, .int .i64 0, .bool false, .nilsl]])
        ⟨.inr (.inr ⟨_, _, _, rfl, rfl⟩), .inr (.inr ⟨_, _, _, rfl, rfl⟩), trivial⟩
      refine cP hpn ?_
      simp only [go_sem, List.append_assoc, cj, ren, rens, h2, n0, hU]
      refine cP hrn ?_
      simp only [go_sem, List.append_assoc, cj, ren, rens, bne_self_eq_false]
      refine cP hz ?_
      simp only [go_sem, h3]
      exact ih (i + 1, _) (by dsimp only; omega) (by dsimp only; omega) _ (by simp [go_sem])
  · obtain rfl : i = 2 := by omega
    simp only [go_sem, cj]
    refine cP awake_ok ?_
    simp only [go_sem]

set_option maxHeartbeats 4000000 in
set_option maxRecDepth 10000 in
theorem texts_law (p : Rp) (text : List UInt8) (zs : List Int) (a : Int) (by8 : UInt8) (hl : zs.length ≤ 9223372036854775807) : Ans Tryd.prog n_law01_FieldTexts [p.v, .str text, .view (zs.map (.int .i64)), .int .i64 a, .int .u8 (by8.toNat : Nat)] [] (.bool true) [] := by
  refine spec_run e_law01_FieldTexts fun G => ?_
  by_cases hb : p.cs.length ≤ 300
  rotate_left
  · have hB := (big0_yes p hb).lss (show Sx.lss [p.v, .nilsl] [p.v, .view []] from ⟨.inl rfl, .inr ⟨rfl, rfl⟩, trivial⟩)
    simp only [go_sem, Rp.v, vw]
    refine cP hB ?_
    simp only [go_sem]
    refine cP awake_ok ?_
    simp only [go_sem]
  have hB := (big0_no p hb).lss (show Sx.lss [p.v, .nilsl] [p.v, .view []] from ⟨.inl rfl, .inr ⟨rfl, rfl⟩, trivial⟩)
  simp only [go_sem, Rp.v, vw]
  refine cP hB ?_
  by_cases h1 : (600 : Int) < text.length
  · simp only [go_sem, h1]
    refine cP awake_ok ?_
    simp only [go_sem]
  simp only [go_sem, h1]
  refine callN1 (newdice_ok zs hl) (by simp only [go_sem]) (dr_bel _ _) (by simp) (by simp) ?_
  generalize seedW zs = w
  simp only [go_sem]
  refine callDN (PlanOf_ok w 8 6 (by omega) (by omega)) rfl (by simp only [go_sem]) (dr_bel _ _) (fun q hq => ⟨pla_bel _ _ _ _ rfl, dr_bel _ _, iv_row _ _ _⟩) (by simp) (by simp) ?_
  rintro ⟨w1, m⟩ hm
  dsimp only at hm ⊢
  have hmo := hm.ok
  have he := hmo.err
  have ht := Text_ok he
  have ht2 := rText_ok he
  have htl := textP_len he
  have htp := textP_pos m.rp
  have k1 := Text_raw p (by omega)
  have k2 := rText_raw p (by omega)
  unfold textR at k1 k2
  generalize (if p.err = 0 then textP p else []) = tp at k1 k2
  generalize p.err = ep at k1 k2
  generalize textP m.rp = S at ht ht2 htl htp
  simp only [go_sem, Pl.a, Pl.c4, ren, rens]
  refine cP k1 ?_
  simp only [go_sem]
  refine cP k2 ?_
  simp only [go_sem, ren, rens]
  refine cF ht 6 ⟨.inl (pla_frz 3 (j := 2) (g := true) rfl rfl), trivial⟩ ?_
  simp only [go_sem, ren, rens]
  refine cF ht2 6 ⟨.inl (pla_frz 3 (j := 2) (g := true) rfl rfl), trivial⟩ ?_
  have q0 := fun z : Int => mod_pos z (S.length : Int) (by omega)
  have q4 := mod_pos a 4 (by omega)
  have r4 : a % 4 = 0 ∨ a % 4 = 1 ∨ a % 4 = 2 ∨ a % 4 = 3 := by omega
  have hS := fun z : Int => (⟨Int.emod_nonneg z (by omega), Int.emod_lt_of_pos z (by omega)⟩ : 0 ≤ z % (S.length : Int) ∧ z % (S.length : Int) < S.length)
  simp only [go_sem, ren, rens, bne_self_eq_false]
  refine cP (q0 _) ?_
  have hk := hS (IntKind.i64.wrap (a.tdiv 4))
  generalize IntKind.i64.wrap (a.tdiv 4) % (S.length : Int) = k0 at hk ⊢
  obtain ⟨k, rfl⟩ : ∃ k : Nat, k0 = k := ⟨k0.toNat, by omega⟩
  have u1 : IntKind.i64.wrap ((k : Int) + 1) = ((k + 1 : Nat) : Int) := by rw [w64 (by omega)]; rfl
  have g0 : (0 : Int) ≤ k := by omega
  have g1 : (k : Int) ≤ S.length := by omega
  have g2 : ((k + 1 : Nat) : Int) ≤ S.length := by omega
  have g3 : (0 : Int) ≤ ((k + 1 : Nat) : Int) := by omega
  have g4 : (k : Int) ≤ ((k + 1 : Nat) : Int) := by omega
  simp only [go_sem]
  refine cP q4 ?_
  have hby : bytesOf [.int .u8 (by8.toNat : Nat)] = some [by8] := bytesOf_map [by8]
  have lt : ∀ a b c : Nat, (List.take a (List.drop b S)).length ≤ S.length := fun a b c => by rw [List.length_take, List.length_drop]; omega
  rcases r4 with h4 | h4 | h4 | h4
  · simp only [go_sem, h4, u1, g0, g1, g2, g3, g4, hby]
    refine ⟨?_, Int.le_refl _, ?_, texts_tail text _ (by omega) ?_ (j := 5) (g := false) rfl _ (by simp [go_sem])⟩ <;> simp <;> omega
  · simp only [go_sem, h4, u1, g0, g1, g2, g3, g4]
    refine ⟨Int.le_refl _, ?_, texts_tail text _ (by omega) ?_ (j := 4) (g := false) rfl _ (by simp [go_sem])⟩ <;> simp <;> omega
  · simp only [go_sem, h4, u1, g0, g1, g2, g3, g4]
    refine ⟨?_, Int.le_refl _, ?_, texts_tail text _ (by omega) ?_ (j := 4) (g := false) rfl _ (by simp [go_sem])⟩ <;> simp <;> omega
  · simp only [go_sem, h4, u1, g0, g1, g2, g3, g4]
    exact texts_tail text _ (by omega) (by omega) (j := 4) (g := false) rfl _ (by simp [go_sem])
end Go.Proofs

namespace Go.Proofs
open Go Go.Sx

theorem at_struct {P : Program} {n : Nat} {t : TypeId} {fs : Array Field} (hu : P.underlying t = some (.struct fs)) {vs : List AVal} (h : AT P (n + 1) t vs) : ATs (AT P n) fs.toList vs := by
  unfold AT at h; rw [hu] at h; exact h
theorem at_int {P : Program} {n : Nat} {t : TypeId} {k : IntKind} (hu : P.underlying t = some (.int k)) {vs : List AVal} (h : AT P (n + 1) t vs) : ∃ m, vs = [.int k m] ∧ (Lit.int k m).wf = true := by
  unfold AT at h; rw [hu] at h; exact h
theorem at_bool {P : Program} {n : Nat} {t : TypeId} (hu : P.underlying t = some .bool) {vs : List AVal} (h : AT P (n + 1) t vs) : ∃ b, vs = [.bool b] := by
  unfold AT at h; rw [hu] at h; exact h
theorem at_slice {P : Program} {n : Nat} {t e : TypeId} (hu : P.underlying t = some (.slice e)) {vs : List AVal} (h : AT P (n + 1) t vs) : ∃ es, vs = [.view es] ∧ es.length ≤ maxLen ∧ ∀ x ∈ es, if aggT P e = true then ∃ ws, x = .agg ws ∧ AT P n e ws else AT P n e [x] := by
  unfold AT at h; rw [hu] at h; exact h
theorem list_map {α β : Type} {f : α → β} {Q : α → Prop} : ∀ l : List β, (∀ x ∈ l, ∃ a, x = f a ∧ Q a) → ∃ l' : List α, l = l'.map f ∧ ∀ a ∈ l', Q a
  | [], _ => ⟨[], rfl, fun a ha => by simp at ha⟩
  | x :: l, h => by
    obtain ⟨a, rfl, ha⟩ := h x (by simp)
    obtain ⟨l', rfl, h'⟩ := list_map l fun y hy => h y (by simp [hy])
    exact ⟨a :: l', rfl, fun b hb => by
      rcases List.mem_cons.1 hb with rfl | hb
      · exact ha
      · exact h' b hb⟩

attribute [local irreducible] AT
set_option maxRecDepth 100000
theorem atn_int {n : Nat} {vs : List AVal} (h : AT Tryd.prog (n + 1) 3 vs) : ∃ m, vs = [.int .i64 m] ∧ (Lit.int .i64 m).wf = true := at_int Tryd.underlying3 h
theorem atn_bool {n : Nat} {vs : List AVal} (h : AT Tryd.prog (n + 1) 4 vs) : ∃ b, vs = [.bool b] := at_bool Tryd.underlying4 h
theorem at_ints {n : Nat} {x : AVal} (h : AT Tryd.prog (n + 2) 22 [x]) : ∃ l : List Int, x = vw l ∧ l.length ≤ 9223372036854775807 := by
  obtain ⟨es, h1, hl, he⟩ := at_slice Tryd.underlying22 h
  obtain rfl : x = .view es := by simpa using h1
  have hg : ¬ aggT Tryd.prog 3 = true := by unfold aggT; rw [Tryd.underlying3]; decide
  obtain ⟨l, rfl, -⟩ := list_map (f := AVal.int .i64) (Q := fun _ => True) es fun x hx => by
    have := he x hx
    rw [if_neg hg] at this
    obtain ⟨m, hm, -⟩ := atn_int this
    exact ⟨m, by simpa using hm, trivial⟩
  have hm : maxLen = 9223372036854775807 := rfl
  rw [hm] at hl
  exact ⟨l, rfl, by simpa using hl⟩
theorem at_plan {n : Nat} {ws : List AVal} (h : AT Tryd.prog (n + 3) 24 ws) : ∃ p : Rp, .agg ws = p.v ∧ p.cs.length ≤ 9223372036854775807 := by
  obtain ⟨a, _, rfl, ha, b, _, rfl, hb, c, _, rfl, hc, d, _, rfl, hd, rfl⟩ := at_struct Tryd.underlying24 h
  obtain ⟨x, rfl, -⟩ := atn_int ha
  obtain ⟨y, rfl, -⟩ := atn_int hb
  obtain ⟨r, rfl⟩ := atn_bool hc
  obtain ⟨es, rfl, -⟩ := at_slice Tryd.underlying22 hd
  obtain ⟨l, h1, h2⟩ := at_ints hd
  exact ⟨⟨x, y, r, l⟩, by show AVal.agg [_, _, _, AVal.view es] = _; rw [h1]; rfl, h2⟩
end Go.Proofs

