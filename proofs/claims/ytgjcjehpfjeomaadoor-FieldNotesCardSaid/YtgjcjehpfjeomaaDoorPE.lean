/- A part of the proof. -/
import Derived.Test.YtgjcjehpfjeomaaDoorPD
set_option linter.unusedSimpArgs false
set_option linter.unusedVariables false
namespace Go.Proofs
open Go Go.Sx
attribute [local irreducible] Run

theorem mem_gt {l : List Int} {x : Int} (h : x ∈ l) : ∃ i, i < l.length ∧ gt l i = x := by
  obtain ⟨i, hi, e⟩ := List.mem_iff_getElem.1 h
  exact ⟨i, hi, by unfold gt; rw [List.getD_eq_getElem?_getD, List.getElem?_eq_getElem hi, ← e]; rfl⟩
theorem mxL_or : ∀ (l : List Int) (a : Int), mxL a l = a ∨ mxL a l ∈ l
  | [], _ => .inl rfl
  | c :: l, a => by
    rw [mxL]
    rcases mxL_or l (if a < c then c else a) with h | h
    · rw [h]; split
      · exact .inr (by simp)
      · exact .inl rfl
    · exact .inr (by simp [h])
structure Rp where
  w : Int
  h : Int
  rd : Bool
  cs : List Int
def Rp.v (p : Rp) : AVal := .agg [.int .i64 p.w, .int .i64 p.h, .bool p.rd, vw p.cs]
def Rp.pl (p : Rp) : Pl := ⟨p.w.toNat, p.h.toNat, p.rd, p.cs⟩
def Rp.err (p : Rp) : Int :=
  if ¬ ((1 ≤ p.w ∧ p.w ≤ 16) ∧ (1 ≤ p.h ∧ p.h ≤ 16)) then 2 else if (p.cs.length : Int) ≠ p.w * p.h then 3 else if ¬ ∀ c ∈ p.cs, 0 ≤ c ∧ c ≤ 6 then 2 else if gmax p.cs = 0 then 7 else 0
theorem Rp.ok {p : Rp} (h : p.err = 0) : PlOK p.pl ∧ p.v = p.pl.v := by
  unfold Rp.err at h
  by_cases h1 : (1 ≤ p.w ∧ p.w ≤ 16) ∧ (1 ≤ p.h ∧ p.h ≤ 16)
  · rw [if_neg (fun h => h h1)] at h
    by_cases h2 : (p.cs.length : Int) = p.w * p.h
    · rw [if_neg (fun h => h h2)] at h
      by_cases h3 : ∀ c ∈ p.cs, 0 ≤ c ∧ c ≤ 6
      · rw [if_neg (fun h => h h3)] at h
        by_cases h4 : gmax p.cs = 0
        · rw [if_pos h4] at h; omega
        · have ew : ((p.w.toNat : Nat) : Int) = p.w := by omega
          have eh : ((p.h.toNat : Nat) : Int) = p.h := by omega
          have hl : p.cs.length = p.w.toNat * p.h.toNat := by
            have : (p.cs.length : Int) = ((p.w.toNat * p.h.toNat : Nat) : Int) := by push_cast; rw [ew, eh, h2]
            omega
          refine ⟨⟨by show 1 ≤ p.w.toNat ∧ p.w.toNat ≤ 16; omega, by show 1 ≤ p.h.toNat ∧ p.h.toNat ≤ 16; omega, hl, h3, ?_⟩, ?_⟩
          · have hm : gmax p.cs ∈ p.cs := by
              rcases mxL_or p.cs 0 with h | h
              · exact absurd h h4
              · exact h
            obtain ⟨i, hi, hie⟩ := mem_gt hm
            exact ⟨i, by show i < p.w.toNat * p.h.toNat; omega, by show gt p.cs i ≠ 0; rw [hie]; exact h4⟩
          · unfold Rp.v Pl.v Pl.a Pl.c4 Rp.pl
            simp only [ew, eh]
      · rw [if_pos h3] at h; omega
    · rw [if_pos h2] at h; omega
  · rw [if_pos h1] at h; omega

set_option maxHeartbeats 2000000 in
theorem Check_raw (p : Rp) (hlen : p.cs.length ≤ 1000000) : Ans Tryd.prog n_field_Check [p.v] [] (.int .i64 p.err) [] := by
  by_cases hok : p.err = 0
  · obtain ⟨h1, h2⟩ := Rp.ok hok
    rw [hok, h2]
    exact Check_ok h1
  · unfold Rp.err at hok ⊢
    refine spec_run e_field_Check fun G => ?_
    simp only [go_sem, Rp.v, vw]
    by_cases hw : 1 ≤ p.w ∧ p.w ≤ 16
    · refine cP (within_yes hw) ?_
      simp only [go_sem]
      by_cases hh : 1 ≤ p.h ∧ p.h ≤ 16
      · rw [if_neg (fun h => h ⟨hw, hh⟩)] at hok ⊢
        refine cP (within_yes hh) ?_
        obtain ⟨w, hw'⟩ : ∃ w : Nat, (w : Int) = p.w := ⟨p.w.toNat, by omega⟩
        obtain ⟨h, hh'⟩ : ∃ h : Nat, (h : Int) = p.h := ⟨p.h.toNat, by omega⟩
        have hN : w * h ≤ 256 := Nat.mul_le_mul (show w ≤ 16 by omega) (show h ≤ 16 by omega)
        have em : IntKind.i64.wrap (p.w * p.h) = p.w * p.h := by rw [← hw', ← hh', w64 (by push_cast at *; omega)]
        by_cases hl : (p.cs.length : Int) = p.w * p.h
        · rw [if_neg (fun h => h hl)] at hok ⊢
          have hl' : ((p.cs.length : Int) != p.w * p.h) = false := by simp [hl]
          simp only [go_sem, List.length_map, em, hl']
          refine loop_ind k_field_Check_r11.eq_1 (fun a : Nat × Heap => a.1 ≤ p.cs.length ∧ ∀ c ∈ p.cs.take a.1, 0 ≤ c ∧ c ≤ 6) (fun a => p.cs.length - a.1)
            (fun a => (tsets 41 [(1, .ptr 0 0 0 1), (2, .int .i64 0), (25, vw p.cs), (26, .int .i64 p.cs.length), (27, .int .i64 a.1)], some (.cells false 4 [p.v]) :: a.2)) (0, []) ⟨Nat.zero_le _, by simp⟩ (by simp [go_sem, vw]) rfl ?_
          rintro ⟨i, X⟩ ⟨hi, hm⟩ ih
          dsimp only at hi hm ih ⊢
          by_cases h1 : i < p.cs.length
          · have h2 : (i : Int) < p.cs.length := by omega
            have h3 := idx_next h1 (by omega)
            have n0 : ¬ (i : Int) < 0 := by omega
            have hx := gt_get h1
            have hT : p.cs.take (i + 1) = p.cs.take i ++ [gt p.cs i] := by rw [List.take_add_one, gt_get h1]; rfl
            have hmem := gt_mem h1
            have ihn := fun X => ih (i + 1, X) (by dsimp only; omega)
            clear ih
            simp only [hT] at ihn
            generalize gt p.cs i = z at *
            simp only [go_sem, vw, List.length_map, h2, n0, hx]
            by_cases hz : 0 ≤ z ∧ z ≤ 6
            · refine cP (within_yes hz) ?_
              simp only [go_sem, h3]
              exact ihn _ ⟨h1, fun x hx' => by
                rcases List.mem_append.1 hx' with h | h
                · exact hm x h
                · simp only [List.mem_singleton] at h
                  rw [h]; exact hz⟩ _ (by simp [go_sem, vw])
            · rw [if_pos fun h => hz (h z hmem)]
              refine cP (within_no hz) ?_
              simp only [go_sem]
          · have h2 : ¬ (i : Int) < p.cs.length := by omega
            rw [List.take_of_length_le (by omega)] at hm
            rw [if_neg (fun h => h hm)] at hok ⊢
            have h4 : gmax p.cs = 0 := by
              by_cases h : gmax p.cs = 0
              · exact h
              · rw [if_neg h] at hok; omega
            rw [if_pos h4]
            have hne : p.cs ≠ [] := fun hn => by
              rw [hn] at hl
              simp only [List.length_nil] at hl
              have := Int.mul_pos (show (0 : Int) < p.w by omega) (show (0 : Int) < p.h by omega)
              omega
            have hmx := max_ok hne (fun c hc => (hm c hc).1) hlen
            rw [h4] at hmx
            simp only [go_sem, Rp.v, vw, List.length_map, h2]
            refine cP hmx ?_
            simp only [go_sem]
        · rw [if_pos hl]
          have hl' : ((p.cs.length : Int) != p.w * p.h) = true := by simp [hl]
          simp only [go_sem, List.length_map, em, hl']
      · rw [if_pos (fun h => hh h.2)]
        refine cP (within_no hh) ?_
        simp only [go_sem]
    · rw [if_pos (fun h => hw h.1)]
      refine cP (within_no hw) ?_
      simp only [go_sem]

end Go.Proofs

namespace Go.Proofs
open Go Go.Sx
open Go.Txt (spl spl_len spl_none spl_step okB celB chB rowB rr rr_ok)
attribute [local irreducible] Run

def Rq.rp (q : Rq) : Rp := ⟨q.w, q.h, q.rd, q.cs⟩
def zp : Rp := ⟨0, 0, false, []⟩
def parseP (s : List UInt8) : Rp × Int × Int :=
  if 400 < s.length then (zp, 0, 5)
  else if (readR (spl 10 s) (Go.Txt.cnt 10 s)).bad ≠ 0 then (zp, (readR (spl 10 s) (Go.Txt.cnt 10 s)).bad, 3)
  else if (readR (spl 10 s) (Go.Txt.cnt 10 s)).rp.err ≠ 0 then (zp, 0, (readR (spl 10 s) (Go.Txt.cnt 10 s)).rp.err)
  else ((readR (spl 10 s) (Go.Txt.cnt 10 s)).rp, 0, 0)
def psV (x : Rp × Int × Int) : AVal := .tup [.agg [.int .i64 x.1.w, .int .i64 x.1.h, .bool x.1.rd, csV 0 x.1.cs], .int .i64 x.2.1, .int .i64 x.2.2]
def psH (x : Rp × Int × Int) : Heap := if x.1.cs = [] then [] else [some (.cells true 1 (ivl x.1.cs))]

theorem readR_zero {R : List (List UInt8)} {N : Nat} (hR : R.length = N + 1) (h : (readR R N).bad = 0) : 2 ≤ N ∧ (R.headD [] = roundB ∨ R.headD [] = flatB) ∧ R.getD N [] = [] ∧
    (readR R N).rd = (R.headD [] == roundB) ∧ (readR R N).h = N - 1 ∧ (∀ r ∈ (R.drop 1).take (N - 1), r.all okB = true ∧ r.length = (readR R N).w ∧ 0 < r.length) ∧
    (readR R N).cs = (((R.drop 1).take (N - 1)).map fun r => r.map celB).flatten ∧ (readR R N).cs ≠ [] := by
  unfold readR at h ⊢
  by_cases h1 : N = 0 ∨ (R.headD [] ≠ roundB ∧ R.headD [] ≠ flatB)
  · rw [if_pos h1] at h; cases h
  rw [if_neg h1] at h ⊢
  by_cases h2 : (rr ((R.drop 1).take (N - 1)) 2 0 []).2.2 ≠ 0
  · rw [if_pos h2] at h; exact absurd h (by simpa using h2)
  rw [if_neg h2] at h ⊢
  by_cases h3 : N - 1 = 0 ∨ R.getD N [] ≠ []
  · rw [if_pos h3] at h; dsimp only at h; omega
  rw [if_neg h3] at h ⊢
  obtain ⟨k1, k2, _⟩ := rr_ok ((R.drop 1).take (N - 1)) 1 0 [] (by simpa using h2)
  have hl : ((R.drop 1).take (N - 1)).length = N - 1 := by rw [List.length_take, List.length_drop]; omega
  have hN : 2 ≤ N := by omega
  refine ⟨hN, ?_, ?_, rfl, rfl, k1, by simpa using k2, ?_⟩
  · by_cases e : R.headD [] = roundB
    · exact .inl e
    · right
      by_cases e2 : R.headD [] = flatB
      · exact e2
      · exact absurd (.inr ⟨e, e2⟩) h1
  · by_cases e : R.getD N [] = []
    · exact e
    · exact absurd (.inr e) h3
  · have k3 : (rr ((R.drop 1).take (N - 1)) 2 0 []).2.1 = (((R.drop 1).take (N - 1)).map fun r => r.map celB).flatten := by simpa using k2
    dsimp only
    rw [k3]
    intro e
    match hm : (R.drop 1).take (N - 1) with
    | [] => rw [hm] at hl; simp at hl; omega
    | r :: t =>
      have := (k1 r (by rw [hm]; simp)).2.2
      rw [hm] at e
      simp only [List.map_cons, List.flatten_cons, List.append_eq_nil_iff, List.map_eq_nil_iff] at e
      rw [e.1] at this
      exact Nat.lt_irrefl 0 this

@[go_sem] theorem ivl_nv (g : Bool) (l : List Int) : (Row.cells g 1 (ivl l)).nv = True := eq_true (row_nv_cells _ _ (by
  unfold ivl
  induction l with
  | nil => trivial
  | cons p l ih => exact ⟨by simp only [go_sem], ih⟩))
theorem ivl_frz (d : Nat) (H : Heap) {j : Nat} {g : Bool} {cs : List Int} (h : H[j]? = some (some (.cells g 1 (ivl cs)))) : frz (d + 2) H (.sl j 0 cs.length) = vw cs := by
  rw [frz_sl h (by simp [ivl])]
  simp [frz, vw, ivl, Function.comp_def]

set_option maxHeartbeats 2000000 in
theorem Parse_ok (s : List UInt8) (hl : s.length ≤ 1000000) : Ans Tryd.prog n_field_Parse [.str s] [] (psV (parseP s)) (psH (parseP s)) := by
  have kr := read_ok s hl
  have hzero := readR_zero (R := spl 10 s) (N := Go.Txt.cnt 10 s) (spl_len 10 s)
  obtain ⟨x, hx⟩ : ∃ x, parseP s = x := ⟨_, rfl⟩
  rw [hx]
  unfold parseP at hx
  refine Ans.keep (run_fn e_field_Parse fun G => ?_) (by simp) (by unfold psV csV psH; split <;> simp [go_sem]) (by unfold psH; split <;> simp [go_sem, Full])
  have hz : ∀ (line e : Int), x = (zp, line, e) → ∀ X : Heap, ∃ σ, Kept [] (psH x) (psV x) (.tup [.agg [.int .i64 0, .int .i64 0, .bool false, .nilsl], .int .i64 line, .int .i64 e]) X σ := fun line e he X => by
    subst he
    exact ⟨fun i => i, fun i hi => rfl, fun i j hi => by simp [psH, zp] at hi, rfl, fun i y hy => by simp [psH, zp] at hy⟩
  by_cases h4 : 400 < s.length
  · rw [if_pos h4] at hx
    have g4 : (s.length : Int) > 400 := by omega
    simp only [go_sem, g4]
    exact hz 0 5 hx.symm _
  rw [if_neg h4] at hx
  have g4 : ¬ (s.length : Int) > 400 := by omega
  obtain ⟨q, hq⟩ : ∃ q, readR (spl 10 s) (Go.Txt.cnt 10 s) = q := ⟨_, rfl⟩
  rw [hq] at kr hx hzero
  simp only [go_sem, g4]
  by_cases hb : q.bad = 0
  · have hne := (hzero hb).2.2.2.2.2.2.2
    rw [if_neg (fun h => h hb)] at hx
    have hcl : q.cs.length ≤ 1000000 := by
      rw [(hzero hb).2.2.2.2.2.2.1, List.length_flatten, List.map_map]
      have h1 := spl_sum 10 s
      have h2 := sum_take ((spl 10 s).drop 1 |>.map List.length) (Go.Txt.cnt 10 s - 1)
      have h3 : (((spl 10 s).drop 1).map List.length).sum ≤ ((spl 10 s).map List.length).sum := by
        cases spl 10 s with
        | nil => simp
        | cons a l => simp
      have h4 : ((((spl 10 s).drop 1).take (Go.Txt.cnt 10 s - 1)).map (List.length ∘ fun r => r.map celB)) = ((((spl 10 s).drop 1).map List.length).take (Go.Txt.cnt 10 s - 1)) := by
        rw [← List.map_take]
        exact List.map_congr_left fun r _ => by simp
      rw [h4]
      omega
    have kc := Check_raw q.rp hcl
    unfold Rq.v Rq.H csV at kr
    rw [if_neg hne, if_neg hne] at kr
    refine cFN kr 6 ⟨.inl rfl, trivial⟩ ?_
    simp only [go_sem, ren, rens_eq, hb]
    have hfr : ∀ H : Heap, H[1]? = some (some (.cells true 1 (ivl q.cs))) → frz 6 H (.agg [.int .i64 q.w, .int .i64 q.h, .bool q.rd, .sl 1 0 q.cs.length]) = q.rp.v := fun H hH => by
      have := ivl_frz 3 H hH
      show AVal.agg [_, _, _, frz 5 H _] = _
      rw [this]; rfl
    refine cF kc 6 ⟨.inl (hfr _ rfl), trivial⟩ ?_
    by_cases he : q.rp.err = 0
    · rw [if_neg (fun h => h he)] at hx
      subst hx
      simp only [go_sem, he]
      unfold psH psV csV
      have hne' : q.rp.cs ≠ [] := hne
      simp only [hne', if_false]
      exact kept_one 1 rfl (by simp only [go_sem]) rfl
    · rw [if_pos he] at hx
      generalize q.rp.err = e at *
      simp only [go_sem, he]
      exact hz 0 e hx.symm _
  · rw [if_pos hb] at hx
    by_cases hne : q.cs = []
    · unfold Rq.v Rq.H csV at kr
      rw [if_pos hne, if_pos hne] at kr
      refine cP kr ?_
      simp only [go_sem, hb]
      exact hz _ 3 hx.symm _
    · unfold Rq.v Rq.H csV at kr
      rw [if_neg hne, if_neg hne] at kr
      refine cFN kr 6 ⟨.inl rfl, trivial⟩ ?_
      simp only [go_sem, ren, rens_eq, hb]
      exact hz _ 3 hx.symm _
end Go.Proofs

namespace Go.Proofs
open Go Go.Sx
open Go.Txt (spl spl_len spl_none spl_step okB celB chB rowB rr rr_ok rr_rows joinR spl_join join_spl chk chk_flat chk_len chk_rows cel_ch ch_cel ok_ne)

def headB (rd : Bool) : List UInt8 := if rd = true then roundB else flatB
def textP (p : Rp) : List UInt8 := joinR (headB p.rd :: (chk p.w.toNat p.h.toNat p.cs).map (List.map chB))

theorem head_ne (rd : Bool) : ∀ b ∈ headB rd, b ≠ 10 := by cases rd <;> decide
theorem err_zero {p : Rp} (h : p.err = 0) : (1 ≤ p.w ∧ p.w ≤ 16) ∧ (1 ≤ p.h ∧ p.h ≤ 16) ∧ p.cs.length = p.h.toNat * p.w.toNat ∧ ∀ c ∈ p.cs, 0 ≤ c ∧ c ≤ 6 := by
  obtain ⟨h1, _⟩ := Rp.ok h
  unfold Rp.err at h
  by_cases a : (1 ≤ p.w ∧ p.w ≤ 16) ∧ (1 ≤ p.h ∧ p.h ≤ 16)
  · refine ⟨a.1, a.2, ?_, h1.cell⟩
    have := h1.len
    show p.cs.length = _
    rw [Nat.mul_comm]; exact this
  · rw [if_pos a] at h; omega

theorem readR_text {p : Rp} (h : p.err = 0) (hl : (textP p).length ≤ 400) : parseP (textP p) = (p, 0, 0) := by
  obtain ⟨hw, hh, hlen, hc⟩ := err_zero h
  obtain ⟨c1, c2⟩ := chk_rows p.h.toNat p.cs hlen
  have clen := chk_len (w := p.w.toNat) p.h.toNat p.cs
  obtain ⟨L, hL⟩ : ∃ L, chk p.w.toNat p.h.toNat p.cs = L := ⟨_, rfl⟩
  have hno : ∀ r ∈ (headB p.rd :: L.map (List.map chB)), ∀ b ∈ r, b ≠ 10 := by
    intro r hr b hb
    rcases List.mem_cons.1 hr with rfl | hr
    · exact head_ne _ b hb
    · obtain ⟨x, hx, rfl⟩ := List.mem_map.1 hr
      obtain ⟨c, hcx, rfl⟩ := List.mem_map.1 hb
      rw [← hL] at hx
      exact (cel_ch (hc c ((c1 x hx).2 c hcx))).2.2
  have hs : spl 10 (textP p) = (headB p.rd :: L.map (List.map chB)) ++ [[]] := by
    unfold textP; rw [hL]; exact spl_join hno
  have hN : Go.Txt.cnt 10 (textP p) = p.h.toNat + 1 := by
    have := spl_len 10 (textP p)
    rw [hs] at this
    simp only [List.length_append, List.length_cons, List.length_map, List.length_nil] at this
    rw [← hL] at this
    rw [clen] at this
    omega
  have hLl : L.length = p.h.toNat := by rw [← hL]; exact clen
  have hrows : (((headB p.rd :: L.map (List.map chB)) ++ [[]]).drop 1).take (p.h.toNat + 1 - 1) = L.map (List.map chB) := by
    simp only [List.cons_append, List.drop_succ_cons, List.drop_zero, Nat.add_sub_cancel]
    rw [List.take_append_of_le_length (by simp [hLl])]
    exact List.take_of_length_le (by simp [hLl])
  have hback : ((L.map (List.map chB)).map (List.map celB)).flatten = p.cs := by
    rw [← c2, hL]
    congr 1
    rw [List.map_map]
    conv => rhs; rw [← List.map_id L]
    refine List.map_congr_left fun x hx => ?_
    simp only [Function.comp, List.map_map, id]
    conv => rhs; rw [← List.map_id x]
    refine List.map_congr_left fun c hcx => ?_
    rw [← hL] at hx
    exact (cel_ch (hc c ((c1 x hx).2 c hcx))).1
  have hrr : rr (L.map (List.map chB)) 2 0 [] = (p.w.toNat, p.cs, 0) := by
    rw [rr_rows (w := p.w.toNat) (by omega) _ 2 0 [] (.inl rfl) (by
      intro e
      have := congrArg List.length e
      simp only [List.length_map, List.length_nil] at this
      omega) (fun r hr => by
      obtain ⟨x, hx, rfl⟩ := List.mem_map.1 hr
      rw [← hL] at hx
      refine ⟨List.all_eq_true.2 fun b hb => ?_, by rw [List.length_map]; exact (c1 x hx).1⟩
      obtain ⟨c, hcx, rfl⟩ := List.mem_map.1 hb
      exact (cel_ch (hc c ((c1 x hx).2 c hcx))).2.1)]
    rw [hback]; rfl
  have hq : readR (spl 10 (textP p)) (Go.Txt.cnt 10 (textP p)) = ⟨p.w.toNat, p.h, p.rd, p.cs, 0⟩ := by
    rw [hs, hN]
    unfold readR
    have hd : ((headB p.rd :: L.map (List.map chB)) ++ [[]]).headD [] = headB p.rd := rfl
    have hg : ((headB p.rd :: L.map (List.map chB)) ++ [[]]).getD (p.h.toNat + 1) [] = [] := by
      rw [List.getD_eq_getElem?_getD, List.getElem?_append_right (by simp [hLl])]
      simp [hLl]
    rw [hd, hrows, hrr, hg]
    rw [if_neg (by
      rintro (e | ⟨e1, e2⟩)
      · omega
      · cases hrd : p.rd <;> rw [hrd] at e1 e2
        · exact e2 rfl
        · exact e1 rfl), if_neg (fun h => h rfl), if_neg (by
      rintro (e | e)
      · omega
      · exact e rfl)]
    have e1 : ((p.h.toNat + 1 : Nat) : Int) - 1 = p.h := by omega
    have e2 : (headB p.rd == roundB) = p.rd := by cases p.rd <;> rfl
    simp only [e2]
    congr 1
  unfold parseP
  rw [if_neg (by omega), hq]
  have hrp : (Rq.rp ⟨p.w.toNat, p.h, p.rd, p.cs, 0⟩) = p := by
    unfold Rq.rp
    have : ((p.w.toNat : Nat) : Int) = p.w := by omega
    simp only [this]
  rw [if_neg (fun h => h rfl), hrp, if_neg (fun h' => h' h)]

theorem split_ends {α : Type} (R : List α) (d : α) (N : Nat) (h : R.length = N + 1) (hN : 1 ≤ N) : R = (R.headD d :: (R.drop 1).take (N - 1)) ++ [R.getD N d] := by
  cases R with
  | nil => simp at h
  | cons a R =>
    have hR : R.length = N := by simpa using h
    simp only [List.headD_cons, List.drop_succ_cons, List.drop_zero, List.cons_append]
    congr 1
    obtain ⟨n, rfl⟩ : ∃ n, N = n + 1 := ⟨N - 1, by omega⟩
    rw [Nat.add_sub_cancel]
    have h1 : R = R.take n ++ R.drop n := (List.take_append_drop n R).symm
    have h2 : R.drop n = [(a :: R).getD (n + 1) d] := by
      rw [List.drop_eq_getElem_cons (by omega), List.drop_eq_nil_of_le (by omega)]
      simp [List.getD_eq_getElem?_getD, List.getElem?_eq_getElem (show n < R.length by omega)]
    rw [← h2]
    exact h1

theorem text_parse {s : List UInt8} {p : Rp} (h : parseP s = (p, 0, 0)) : textP p = s ∧ p.err = 0 := by
  unfold parseP at h
  by_cases h4 : 400 < s.length
  · rw [if_pos h4] at h; cases h
  rw [if_neg h4] at h
  have hz := readR_zero (R := spl 10 s) (N := Go.Txt.cnt 10 s) (spl_len 10 s)
  have hRl := spl_len 10 s
  have hj := join_spl s
  generalize spl 10 s = R at *
  generalize Go.Txt.cnt 10 s = N at *
  generalize readR R N = q at *
  by_cases hb : q.bad = 0
  · rw [if_neg (fun h => h hb)] at h
    obtain ⟨n2, k1, k2, k3, k4, k5, k6, _⟩ := hz hb
    by_cases he : q.rp.err = 0
    · rw [if_neg (fun h => h he)] at h
      have hp : q.rp = p := (Prod.mk.inj h).1
      subst hp
      refine ⟨?_, he⟩
      have hR := split_ends R [] N hRl (by omega)
      rw [k2] at hR
      have hs := hj (R.headD [] :: (R.drop 1).take (N - 1)) [] hR
      rw [List.append_nil] at hs
      rw [hs]
      unfold textP
      congr 1
      have hhead : headB q.rp.rd = R.headD [] := by
        show headB q.rd = _
        rw [k3]
        unfold headB
        rcases k1 with e | e
        · rw [e]; rfl
        · rw [e]; rfl
      have hlen : ((R.drop 1).take (N - 1)).length = N - 1 := by rw [List.length_take, List.length_drop]; omega
      generalize (R.drop 1).take (N - 1) = rows at *
      rw [hhead]
      congr 1
      have hw : q.rp.w.toNat = q.w := by show ((q.w : Nat) : Int).toNat = _; omega
      have hh : q.rp.h.toNat = (rows.map fun r => r.map celB).length := by
        show q.h.toNat = _
        rw [k4, List.length_map, hlen]; omega
      rw [hw, hh]
      show (chk q.w _ q.cs).map _ = _
      rw [k6, chk_flat _ (fun r hr => by
        obtain ⟨x, hx, rfl⟩ := List.mem_map.1 hr
        rw [List.length_map]; exact (k5 x hx).2.1)]
      rw [List.map_map]
      conv => rhs; rw [← List.map_id rows]
      refine List.map_congr_left fun x hx => ?_
      simp only [Function.comp, List.map_map, id]
      conv => rhs; rw [← List.map_id x]
      refine List.map_congr_left fun b hbx => ?_
      exact ch_cel (List.all_eq_true.1 (k5 x hx).1 b hbx)
    · rw [if_pos he] at h
      have := (Prod.mk.inj (Prod.mk.inj h).2).2
      exact absurd this he
  · rw [if_pos hb] at h
    have := (Prod.mk.inj (Prod.mk.inj h).2).2
    exact absurd this (by decide)
end Go.Proofs

namespace Go.Proofs
open Go Go.Sx
open Go.Txt (okB celB chB joinR chk chk_len chk_rows cel_ch)
attribute [local irreducible] Run

theorem Chunk_ok (cs : List Int) (w : Nat) (hw : 1 ≤ w) (hw2 : w ≤ 1000000) : Ans Tryd.prog n_slices_Chunk_int_int [vw cs, .int .i64 w] [] (.fn (.func n_slices_Chunk_int_int_1) [] [.ptr 0 0 0 1, .ptr 1 0 0 1])
    [some (.cells false 1 [vw cs]), some (.cells false 1 [.int .i64 w])] := by
  refine spec_run e_slices_Chunk_int_int fun G => ?_
  have h1 : ¬ (w : Int) < 1 := by omega
  simp only [go_sem, vw, h1]
  exact ⟨_, rfl⟩

def rowI (cs : List Int) (w i : Nat) : List Int := (cs.drop (i * w)).take w
structure CBody (G : Ctx) (cs : List Int) (w h r ja jb : Nat) (Pre : Nat → Heap → Prop) : Prop where
  row : ∀ i H, Pre i H → H[ja]? = some (some (.cells false 1 [vw cs])) ∧ H[jb]? = some (some (.cells false 1 [.int .i64 w]))
  round : ∀ (i : Nat) H, i < h → Pre i H → RoundW Tryd.prog G r [vw (rowI cs w i)] H fun v H' => v = .bool true ∧ Pre (i + 1) H' ∧ H.length ≤ H'.length

set_option maxHeartbeats 1000000 in
theorem chunk_iter {G : Ctx} {cs : List Int} {w h r ja jb : Nat} {Pre : Nat → Heap → Prop} (hw : 1 ≤ w ∧ w ≤ 1000) (hh : h ≤ 1000) (hl : cs.length = h * w) (hB : CBody G cs w h r ja jb Pre) {H0 : Heap} (h0 : Pre 0 H0) :
    CallW Tryd.prog G n_slices_Chunk_int_int_1 [.yfn r, .ptr ja 0 0 1, .ptr jb 0 0 1] H0 fun v H' => v = .tup [] ∧ Pre h H' := by
  refine callW_run 3000 e_slices_Chunk_int_int_1 ?_
  simp only [go_sem]
  have hall : ((cs.map (AVal.int .i64)).all fun e => (acells e).length == 1) = true := by
    rw [List.all_eq_true]; intro v hv
    obtain ⟨z, _, rfl⟩ := List.mem_map.1 hv
    rfl
  have hn : cs.length ≤ 1000000 := by rw [hl]; exact Nat.mul_le_mul hh hw.2
  refine loop_ind k_slices_Chunk_int_int_1_r5.eq_1 (fun a : Nat × Heap => a.1 ≤ h ∧ Pre a.1 a.2 ∧ H0.length ≤ a.2.length) (fun a => h - a.1)
    (fun a => (tsets 31 [(0, .yfn r), (1, .ptr ja 0 0 1), (2, .ptr jb 0 0 1), (4, .int .i64 ((a.1 * w : Nat) : Int))], a.2)) (0, H0) ⟨Nat.zero_le _, h0, Nat.le_refl _⟩ (by simp [go_sem]) rfl ?_
  rintro ⟨i, H⟩ ⟨hi, hP, hL⟩ ih
  dsimp only at hi hP hL ih ⊢
  obtain ⟨ra, rb⟩ := hB.row i H hP
  have ca := cells_at ra
  have cb := cells_at rb
  obtain ⟨a, ha⟩ : ∃ a, i * w = a := ⟨_, rfl⟩
  rw [ha]
  by_cases h1 : i < h
  · have hle : a + w ≤ cs.length := by
      rw [hl, ← ha]
      have := Nat.mul_le_mul_right w (show i + 1 ≤ h from h1)
      rw [Nat.add_mul, Nat.one_mul] at this; exact this
    have g1 : (a : Int) < (cs.length : Int) := by omega
    have q1 : (0 : Int) ≤ (a : Int) := by omega
    have q2 : (a : Int) ≤ (cs.length : Int) := by omega
    have q3 : ¬ ((cs.length - a : Nat) : Int) < (w : Int) := by omega
    have u1 : IntKind.i64.wrap ((a : Int) + w) = ((a + w : Nat) : Int) := by rw [w64 (by omega)]; rfl
    have q4 : (a : Int) < ((a + w : Nat) : Int) := by omega
    have q5 : ((a + w : Nat) : Int) ≤ (cs.length : Int) := by omega
    have hr := hB.round i H h1 hP
    have hrow : rowI cs w i = (cs.drop a).take w := by unfold rowI; rw [ha]
    simp only [vw] at ca
    have hl1 : (List.take (cs.length - a) (List.drop a (List.map (AVal.int IntKind.i64) cs))).length = cs.length - a := by simp
    have q6 : (a + w) - a = w := by omega
    simp only [go_sem, ca, cb, g1, q1, q2, q3, u1, q4, q5, hl1, List.length_map, Int.toNat_natCast, q6]
    refine ⟨Int.le_refl _, hall, ⟨Int.le_refl _, hall⟩, ?_⟩
    have e28 : AVal.view (List.take w (List.drop a (List.map (AVal.int IntKind.i64) cs))) = vw (rowI cs w i) := by
      rw [hrow, vw, List.map_take, List.map_drop]
    rw [e28]
    refine yieldR 2954 rfl rfl rfl rfl hL (RoundW.mono hr ?_)
    rintro v H' ⟨rfl, hP', hL'⟩
    obtain ⟨ra', rb'⟩ := hB.row (i + 1) H' hP'
    have ca' := cells_at ra'
    have cb' := cells_at rb'
    have h2 : ((i + 1) * w : Nat) = a + w := by rw [Nat.add_mul, Nat.one_mul, ha]
    refine ⟨by simp, ?_⟩
    simp only [go_sem, ca', cb', u1]
    have := ih (i + 1, H') (by show h - (i + 1) < h - i; omega) ⟨h1, hP', Nat.le_trans hL hL'⟩
    simp only [go_sem, h2] at this ⊢
    exact this _ (by simp [go_sem])
  · obtain rfl : i = h := by omega
    have g1 : ¬ (a : Int) < (cs.length : Int) := by omega
    simp only [vw] at ca
    simp only [go_sem, ca, cb, g1, List.length_map]
    exact hP
end Go.Proofs

namespace Go.Proofs
open Go Go.Sx
open Go.Txt (okB celB chB joinR chk chk_len chk_rows cel_ch)
attribute [local irreducible] Run

theorem character_ok {c : Int} (h : 0 ≤ c ∧ c ≤ 6) : Ans Tryd.prog n_field_character [.int .i64 c] [] (.int .u8 ((chB c).toNat : Nat)) [] := by
  refine spec_run e_field_character fun G => ?_
  obtain ⟨n, rfl⟩ : ∃ n : Nat, c = n := ⟨c.toNat, by omega⟩
  have hn : n ≤ 6 := by omega
  match n, hn with
  | 0, _ => simp only [go_sem]; rfl
  | 1, _ => simp only [go_sem]; rfl
  | 2, _ => simp only [go_sem]; rfl
  | 3, _ => simp only [go_sem]; rfl
  | 4, _ => simp only [go_sem]; rfl
  | 5, _ => simp only [go_sem]; rfl
  | 6, _ => simp only [go_sem]; rfl

def tK (cs : List Int) (w : Nat) (rd : Bool) : Nat → List UInt8
  | 0 => headB rd
  | k + 1 => tK cs w rd k ++ 10 :: (rowI cs w k).map chB
theorem rowI_len (cs : List Int) (w i : Nat) : (rowI cs w i).length ≤ w := by unfold rowI; rw [List.length_take]; omega
theorem tK_len (cs : List Int) {w : Nat} (hw : w ≤ 16) (rd : Bool) : ∀ k, (tK cs w rd k).length ≤ 5 + k * 17
  | 0 => by rw [tK]; cases rd <;> decide
  | k + 1 => by
    have := tK_len cs hw rd k
    have h2 := rowI_len cs w k
    rw [tK, List.length_append, List.length_cons, List.length_map]; omega
theorem rowI_mem {cs : List Int} {w i : Nat} {c : Int} (h : c ∈ rowI cs w i) : c ∈ cs := List.mem_of_mem_drop (List.mem_of_mem_take h)
theorem rowI_step (cs : List Int) (w i : Nat) : rowI cs w (i + 1) = rowI (cs.drop w) w i := by
  unfold rowI; rw [List.drop_drop, Nat.add_mul, Nat.one_mul, Nat.add_comm w]
theorem chk_rowI {w : Nat} : ∀ (h : Nat) (cs : List Int), chk w h cs = (List.range h).map (rowI cs w)
  | 0, _ => rfl
  | h + 1, cs => by
    rw [chk, chk_rowI h, List.range_succ_eq_map, List.map_cons, List.map_map]
    congr 1
    · unfold rowI; simp
    · exact List.map_congr_left fun i _ => (rowI_step cs w i).symm
theorem joinR_snoc (r : List UInt8) : ∀ (L : List (List UInt8)) (a : List UInt8), joinR (a :: (L ++ [r])) = joinR (a :: L) ++ (r ++ [10])
  | [], a => by simp [joinR]
  | b :: L, a => by
    rw [List.cons_append, joinR, joinR_snoc r L b]
    simp [joinR]
theorem tK_join (cs : List Int) (w : Nat) (rd : Bool) : ∀ k, tK cs w rd k ++ [10] = joinR (headB rd :: ((List.range k).map (rowI cs w)).map (List.map chB))
  | 0 => by simp [tK, joinR]
  | k + 1 => by
    rw [List.range_succ, List.map_append, List.map_append, List.map_singleton, List.map_singleton, joinR_snoc, ← tK_join cs w rd k, tK]
    simp
theorem textP_tK {p : Rp} (h : p.err = 0) : textP p = tK p.cs p.w.toNat p.rd p.h.toNat ++ [10] := by
  unfold textP; rw [chk_rowI, tK_join]

@[go_sem] theorem bytesOf_map : ∀ l : List UInt8, bytesOf (l.map byteV) = some l
  | [] => rfl
  | b :: l => by
    show (bytesOf (l.map byteV)).map (UInt8.ofNat (((b.toNat : Nat) : Int).toNat) :: ·) = _
    rw [bytesOf_map l]; simp

theorem mb1 (T : List UInt8) (b : UInt8) : T.map byteV ++ [.int .u8 (b.toNat : Nat)] = (T ++ [b]).map byteV := by rw [List.map_append]; rfl
theorem mb10 (T : List UInt8) : T.map byteV ++ [.int .u8 10] = (T ++ [10]).map byteV := by rw [List.map_append]; rfl
def plV (p : Rp) (b : Bool) : AVal := .agg [.int .i64 p.w.toNat, .int .i64 p.h, .bool b, vw p.cs]

def txH1 (p : Rp) (g : Bool) (T : List UInt8) (x : Row) (X : Heap) : Heap :=
  [some (.cells false 4 [plV p false]), some (.cells g 1 (T.map byteV)), some (.cells false 1 [.sl 1 0 T.length]), some (.cells false 1 [vw p.cs]), some (.cells false 1 [.int .i64 p.w.toNat]), some .dfr, some x] ++ X
def txT1 : List (Nat × AVal) := [(1, .ptr 0 0 0 1), (5, .ptr 2 0 0 1), (24, .fn (.func n_slices_Chunk_int_int_1) [] [.ptr 3 0 0 1, .ptr 4 0 0 1])]
def txL1 (st : LoopState) (pe : Option ACode) : Row := .loop (tsets 45 txT1) [25] k_field_Text_r16 k_field_Text_r17 5 st pe

set_option maxHeartbeats 4000000 in
set_option maxRecDepth 4000 in
theorem Text_flat {p : Rp} (h : p.err = 0) (hrd : p.rd = false) : Ans Tryd.prog n_field_Text [p.v] [] (.tup [.str (textP p), .int .i64 0]) [] := by
  obtain ⟨hw, hh, hlen, hc⟩ := err_zero h
  have hch := Check_raw p (by have := Nat.mul_le_mul (show p.h.toNat ≤ 16 by omega) (show p.w.toNat ≤ 16 by omega); omega)
  rw [h] at hch
  obtain ⟨w, hW⟩ : ∃ w : Nat, p.w.toNat = w := ⟨_, rfl⟩
  obtain ⟨H, hH⟩ : ∃ H : Nat, p.h.toNat = H := ⟨_, rfl⟩
  have ew : p.w = (w : Int) := by omega
  rw [textP_tK h, hW, hH]
  rw [hW, hH] at hlen
  have tl := tK_len p.cs (w := w) (by omega) p.rd
  have e0 : tK p.cs w p.rd 0 = flatB := by rw [tK, hrd]; rfl
  refine Ans.keep (run_fn e_field_Text fun G => ?_) (by simp) (by simp [go_sem]) (by simp [go_sem, Full])
  simp only [go_sem, Rp.v]
  refine cP hch ?_
  simp only [go_sem, hrd, ew]
  refine cN2 (Chunk_ok p.cs w (by omega) (by omega)) ?_
  simp only [go_sem, ren, rens]
  refine rangeF 2000 (ρ := tsets 45 txT1) (by simp [go_sem, txT1]) (by simp only [go_sem, txT1]; rfl)
    (chunk_iter (cs := p.cs) (w := w) (h := H) (r := 6) (ja := 3) (jb := 4) (Pre := fun k H => ∃ g X, H = txH1 p g (tK p.cs w p.rd k) (txL1 .ready none) X) (by omega) (by omega) hlen ⟨?_, ?_⟩ ⟨false, [], ?_⟩) (by simp) ?_
  · rintro k Z ⟨g, X, rfl⟩
    refine ⟨rfl, ?_⟩
    rw [← hW]; rfl
  · rintro k Z hk ⟨g, X, rfl⟩
    have tk := tl k
    have tk1 := tl (k + 1)
    have rl := rowI_len p.cs w k
    have rm : ∀ c ∈ rowI p.cs w k, 0 ≤ c ∧ c ≤ 6 := fun c hx => hc c (rowI_mem hx)
    rw [tK] at tk1
    have et : tK p.cs w p.rd (k + 1) = tK p.cs w p.rd k ++ 10 :: (rowI p.cs w k).map chB := rfl
    rw [et]
    generalize rowI p.cs w k = row at *
    generalize tK p.cs w p.rd k = T at *
    refine RoundW.mono (R := fun v H' => v = .bool true ∧ ∃ Y, H' = txH1 p true (T ++ 10 :: row.map chB) (txL1 .ready none) (X ++ Y)) ?_ ?_
    rotate_left
    · rintro v H' ⟨rfl, Y, rfl⟩
      exact ⟨rfl, ⟨_, _, rfl⟩, by simp [txH1]⟩
    generalize hR : (fun (v : AVal) (H' : Heap) => v = .bool true ∧ ∃ Y, H' = txH1 p true (T ++ 10 :: row.map chB) (txL1 .ready none) (X ++ Y)) = R
    have hfin : ∀ Y, R (.bool true) (txH1 p true (T ++ 10 :: row.map chB) (txL1 .ready none) (X ++ Y)) := fun Y => by rw [← hR]; exact ⟨rfl, Y, rfl⟩
    clear hR
    refine roundW_run 500 k_field_Text_r16.eq_1 rfl rfl (ρ' := tsets 45 (txT1 ++ [(25, vw row)])) rfl ?_
    simp only [go_sem, txT1, txH1, vw]
    refine roundMid_run 500 k_field_Text_r17.eq_1 rfl rfl ?_
    simp only [go_sem, vw, List.length_map, mb10]
    refine ⟨by omega, ?_⟩
    refine loop_ind k_field_Text_r15.eq_1 (fun a : Nat × List UInt8 × Heap => a.1 ≤ row.length ∧ a.2.1 ++ (row.drop a.1).map chB = T ++ 10 :: row.map chB ∧ a.2.1.length ≤ 400) (fun a => row.length - a.1)
      (fun a => (tsets 45 [(1, .ptr 0 0 0 1), (5, .ptr 2 0 0 1), (29, vw row), (30, .int .i64 row.length), (31, .int .i64 a.1)], txH1 p true a.2.1 (txL1 .busy none) (X ++ a.2.2))) (0, T ++ [10], [some (.cells false 1 [.int .u8 10])])
      ⟨Nat.zero_le _, by simp, by simp; omega⟩ (by simp [go_sem, vw]) (by simp [txH1, txL1, txT1, vw]) ?_
    rintro ⟨i, S, Y⟩ ⟨hi, hS, hSl⟩ ih
    dsimp only at hi hS hSl ih ⊢
    by_cases h1 : i < row.length
    · have h2 : (i : Int) < (row.length : Int) := by omega
      have h3 := idx_next h1 (by omega)
      have n0 : ¬ (i : Int) < 0 := by omega
      have hx := gt_get h1
      have hb := rm _ (gt_mem h1)
      rw [drop_step h1, List.map_cons] at hS
      generalize gt row i = z at *
      have hx2 : (List.map (AVal.int IntKind.i64) row)[i]? = some (.int .i64 z) := by rw [List.getElem?_map, hx]; rfl
      simp only [go_sem, txH1, vw, List.length_map, h2, n0, hx2, h3]
      refine dP (character_ok hb) ?_
      simp only [go_sem, txH1, vw, List.length_map, h2, n0, hx2, h3, mb1]
      refine ⟨by omega, ?_⟩
      have := ih (i + 1, S ++ [chB z], Y ++ [some (.cells false 1 [.int .u8 ((chB z).toNat : Nat)])]) (by dsimp only; omega) ⟨h1, by rw [List.append_assoc]; exact hS, by dsimp only; rw [List.length_append, List.length_singleton]; have := congrArg List.length hS; simp at this; simp at tk1; omega⟩
      simp only [go_sem, txH1, vw, List.length_append, List.length_singleton, List.append_assoc] at this ⊢
      exact this _ (by simp [go_sem])
    · obtain rfl : i = row.length := by omega
      have h2 : ¬ (row.length : Int) < (row.length : Int) := by omega
      rw [List.drop_length, List.map_nil, List.append_nil] at hS
      subst hS
      simp only [go_sem, txH1, vw, h2]
      refine roundEnd_on rfl ?_
      simp only [go_sem]
      have := hfin Y
      simp only [go_sem, txH1, txL1, txT1, vw, List.length_append, List.length_cons, List.length_map] at this ⊢
      exact this
  · simp only [e0, txH1, hW, plV, txL1]; rfl
  · rintro v H' ⟨rfl, g, X, rfl⟩
    refine ⟨fun q hq => by simp at hq; subst hq; rfl, _, _, _, _, _, _, _, rfl, by decide, ?_⟩
    have tk := tl H
    simp only [hrd] at tk ⊢
    generalize tK p.cs w false H = T at *
    have hl1 : (T ++ [10]).length = T.length + 1 := by simp
    have hl2 : List.take (T.length + 1) ((T ++ [10]).map byteV) = (T ++ [10]).map byteV := List.take_of_length_le (by simp)
    simp only [go_sem, txH1, txT1, tsets, mb10, hl2]
    exact ⟨by omega, by decide, fun i => i, fun i hi => rfl, fun i j hi => by simp at hi, rfl, fun i y hy => by simp at hy⟩

def txH3 (p : Rp) (g : Bool) (T : List UInt8) (x : Row) (X : Heap) : Heap :=
  [some (.cells false 4 [plV p true]), some (.cells false 1 (flatB.map byteV)), some (.cells false 1 [.sl 3 0 T.length]), some (.cells g 1 (T.map byteV)), some (.cells false 1 [vw p.cs]), some (.cells false 1 [.int .i64 p.w.toNat]), some .dfr, some x] ++ X
def txT3 : List (Nat × AVal) := [(1, .ptr 0 0 0 1), (5, .ptr 2 0 0 1), (24, .fn (.func n_slices_Chunk_int_int_1) [] [.ptr 4 0 0 1, .ptr 5 0 0 1])]
def txL3 (st : LoopState) (pe : Option ACode) : Row := .loop (tsets 45 txT3) [25] k_field_Text_r16 k_field_Text_r17 6 st pe

set_option maxHeartbeats 4000000 in
set_option maxRecDepth 4000 in
theorem Text_round {p : Rp} (h : p.err = 0) (hrd : p.rd = true) : Ans Tryd.prog n_field_Text [p.v] [] (.tup [.str (textP p), .int .i64 0]) [] := by
  obtain ⟨hw, hh, hlen, hc⟩ := err_zero h
  have hch := Check_raw p (by have := Nat.mul_le_mul (show p.h.toNat ≤ 16 by omega) (show p.w.toNat ≤ 16 by omega); omega)
  rw [h] at hch
  obtain ⟨w, hW⟩ : ∃ w : Nat, p.w.toNat = w := ⟨_, rfl⟩
  obtain ⟨H, hH⟩ : ∃ H : Nat, p.h.toNat = H := ⟨_, rfl⟩
  have ew : p.w = (w : Int) := by omega
  rw [textP_tK h, hW, hH]
  rw [hW, hH] at hlen
  have tl := tK_len p.cs (w := w) (by omega) p.rd
  have e0 : tK p.cs w p.rd 0 = roundB := by rw [tK, hrd]; rfl
  refine Ans.keep (run_fn e_field_Text fun G => ?_) (by simp) (by simp [go_sem]) (by simp [go_sem, Full])
  simp only [go_sem, Rp.v]
  refine cP hch ?_
  simp only [go_sem, hrd, ew]
  refine cN2 (Chunk_ok p.cs w (by omega) (by omega)) ?_
  simp only [go_sem, ren, rens]
  refine rangeF 2000 (ρ := tsets 45 txT3) (by simp [go_sem, txT3]) (by simp only [go_sem, txT3]; rfl)
    (chunk_iter (cs := p.cs) (w := w) (h := H) (r := 7) (ja := 4) (jb := 5) (Pre := fun k H => ∃ g X, H = txH3 p g (tK p.cs w p.rd k) (txL3 .ready none) X) (by omega) (by omega) hlen ⟨?_, ?_⟩ ⟨false, [], ?_⟩) (by simp) ?_
  · rintro k Z ⟨g, X, rfl⟩
    refine ⟨rfl, ?_⟩
    rw [← hW]; rfl
  · rintro k Z hk ⟨g, X, rfl⟩
    have tk := tl k
    have tk1 := tl (k + 1)
    have rl := rowI_len p.cs w k
    have rm : ∀ c ∈ rowI p.cs w k, 0 ≤ c ∧ c ≤ 6 := fun c hx => hc c (rowI_mem hx)
    rw [tK] at tk1
    have et : tK p.cs w p.rd (k + 1) = tK p.cs w p.rd k ++ 10 :: (rowI p.cs w k).map chB := rfl
    rw [et]
    generalize rowI p.cs w k = row at *
    generalize tK p.cs w p.rd k = T at *
    refine RoundW.mono (R := fun v H' => v = .bool true ∧ ∃ Y, H' = txH3 p true (T ++ 10 :: row.map chB) (txL3 .ready none) (X ++ Y)) ?_ ?_
    rotate_left
    · rintro v H' ⟨rfl, Y, rfl⟩
      exact ⟨rfl, ⟨_, _, rfl⟩, by simp [txH3]⟩
    generalize hR : (fun (v : AVal) (H' : Heap) => v = .bool true ∧ ∃ Y, H' = txH3 p true (T ++ 10 :: row.map chB) (txL3 .ready none) (X ++ Y)) = R
    have hfin : ∀ Y, R (.bool true) (txH3 p true (T ++ 10 :: row.map chB) (txL3 .ready none) (X ++ Y)) := fun Y => by rw [← hR]; exact ⟨rfl, Y, rfl⟩
    clear hR
    refine roundW_run 500 k_field_Text_r16.eq_1 rfl rfl (ρ' := tsets 45 (txT3 ++ [(25, vw row)])) rfl ?_
    simp only [go_sem, txT3, txH3, vw]
    refine roundMid_run 500 k_field_Text_r17.eq_1 rfl rfl ?_
    simp only [go_sem, vw, List.length_map, mb10]
    refine ⟨by omega, ?_⟩
    refine loop_ind k_field_Text_r15.eq_1 (fun a : Nat × List UInt8 × Heap => a.1 ≤ row.length ∧ a.2.1 ++ (row.drop a.1).map chB = T ++ 10 :: row.map chB ∧ a.2.1.length ≤ 400) (fun a => row.length - a.1)
      (fun a => (tsets 45 [(1, .ptr 0 0 0 1), (5, .ptr 2 0 0 1), (29, vw row), (30, .int .i64 row.length), (31, .int .i64 a.1)], txH3 p true a.2.1 (txL3 .busy none) (X ++ a.2.2))) (0, T ++ [10], [some (.cells false 1 [.int .u8 10])])
      ⟨Nat.zero_le _, by simp, by simp; omega⟩ (by simp [go_sem, vw]) (by simp [txH3, txL3, txT3, vw]) ?_
    rintro ⟨i, S, Y⟩ ⟨hi, hS, hSl⟩ ih
    dsimp only at hi hS hSl ih ⊢
    by_cases h1 : i < row.length
    · have h2 : (i : Int) < (row.length : Int) := by omega
      have h3 := idx_next h1 (by omega)
      have n0 : ¬ (i : Int) < 0 := by omega
      have hx := gt_get h1
      have hb := rm _ (gt_mem h1)
      rw [drop_step h1, List.map_cons] at hS
      generalize gt row i = z at *
      have hx2 : (List.map (AVal.int IntKind.i64) row)[i]? = some (.int .i64 z) := by rw [List.getElem?_map, hx]; rfl
      simp only [go_sem, txH3, vw, List.length_map, h2, n0, hx2, h3]
      refine dP (character_ok hb) ?_
      simp only [go_sem, txH3, vw, List.length_map, h2, n0, hx2, h3, mb1]
      refine ⟨by omega, ?_⟩
      have := ih (i + 1, S ++ [chB z], Y ++ [some (.cells false 1 [.int .u8 ((chB z).toNat : Nat)])]) (by dsimp only; omega) ⟨h1, by rw [List.append_assoc]; exact hS, by dsimp only; rw [List.length_append, List.length_singleton]; have := congrArg List.length hS; simp at this; simp at tk1; omega⟩
      simp only [go_sem, txH3, vw, List.length_append, List.length_singleton, List.append_assoc] at this ⊢
      exact this _ (by simp [go_sem])
    · obtain rfl : i = row.length := by omega
      have h2 : ¬ (row.length : Int) < (row.length : Int) := by omega
      rw [List.drop_length, List.map_nil, List.append_nil] at hS
      subst hS
      simp only [go_sem, txH3, vw, h2]
      refine roundEnd_on rfl ?_
      simp only [go_sem]
      have := hfin Y
      simp only [go_sem, txH3, txL3, txT3, vw, List.length_append, List.length_cons, List.length_map] at this ⊢
      exact this
  · simp only [e0, txH3, hW, plV, txL3]; rfl
  · rintro v H' ⟨rfl, g, X, rfl⟩
    refine ⟨fun q hq => by simp at hq; subst hq; rfl, _, _, _, _, _, _, _, rfl, by decide, ?_⟩
    have tk := tl H
    simp only [hrd] at tk ⊢
    generalize tK p.cs w true H = T at *
    have hl1 : (T ++ [10]).length = T.length + 1 := by simp
    have hl2 : List.take (T.length + 1) ((T ++ [10]).map byteV) = (T ++ [10]).map byteV := List.take_of_length_le (by simp)
    simp only [go_sem, txH3, txT3, tsets, mb10, hl2]
    exact ⟨by omega, by decide, fun i => i, fun i hi => rfl, fun i j hi => by simp at hi, rfl, fun i y hy => by simp at hy⟩
end Go.Proofs

namespace Go.Proofs
open Go Go.Sx
attribute [local irreducible] Run

theorem no_of {b : Bool} {P : Prop} (hb : b = true ↔ P) (h : ¬ P) : b = false := by
  cases b with
  | false => rfl
  | true => exact absurd (hb.1 rfl) h
theorem SameInts_ok {a b : List Int} (hlen : a.length ≤ 1000000) : Ans Tryd.prog n_ref01_SameInts [vw a, vw b] [] (.bool (decide (a = b))) [] := by
  refine spec_run e_ref01_SameInts fun G => ?_
  by_cases hl : a.length = b.length
  rotate_left
  · have hl' : ((a.length : Int) != b.length) = true := by simp; omega
    have hne : decide (a = b) = false := decide_eq_false fun h => hl (by rw [h])
    simp only [go_sem, vw, List.length_map, hl', hne]
  have hl' : ((a.length : Int) != b.length) = false := by simp; omega
  simp only [go_sem, vw, List.length_map, hl']
  refine loop_ind k_ref01_SameInts_r8.eq_1 (fun q : Nat × Heap => q.1 ≤ a.length ∧ ∀ j, j < q.1 → gt a j = gt b j) (fun q => a.length - q.1)
    (fun q => (tsets 26 [(0, vw a), (1, vw b), (5, .int .i64 q.1)], q.2)) (0, []) ⟨Nat.zero_le _, fun j hj => absurd hj (Nat.not_lt_zero _)⟩ (by simp [go_sem, vw]) rfl ?_
  rintro ⟨i, X⟩ ⟨hi, he⟩ ih
  dsimp only at hi he ih ⊢
  by_cases h1 : i < a.length
  · have h2 : (i : Int) < a.length := by omega
    have h2b : (i : Int) < b.length := by omega
    have h3 := idx_next h1 (by omega)
    have n0 : ¬ (i : Int) < 0 := by omega
    have hx := gt_get h1
    have hy := gt_get (l := b) (i := i) (by omega)
    by_cases hq : gt a i = gt b i
    · have hq' : (gt a i != gt b i) = false := by simp [hq]
      have ihn := fun X => ih (i + 1, X) (by dsimp only; omega) ⟨h1, fun j hj => by
        by_cases e : j = i
        · subst e; exact hq
        · exact he j (by dsimp only at hj; omega)⟩
      generalize gt a i = x at *
      generalize gt b i = y at *
      simp only [go_sem, vw, List.length_map, h2, h2b, n0, hx, hy, hq', h3]
      exact ihn _ _ (by simp [go_sem, vw])
    · have hq' : (gt a i != gt b i) = true := by simp [hq]
      have hne : decide (a = b) = false := decide_eq_false fun h => hq (by rw [h])
      rw [hne]
      generalize gt a i = x at *
      generalize gt b i = y at *
      simp only [go_sem, vw, List.length_map, h2, h2b, n0, hx, hy, hq']
  · have h2 : ¬ (i : Int) < a.length := by omega
    have hab : a = b := gt_ext hl fun j hj => he j (by omega)
    rw [decide_eq_true hab]
    simp only [go_sem, vw, List.length_map, h2]

theorem rSame_raw (p q : Rp) (hlen : p.cs.length ≤ 1000000) (b : Bool) (hb : b = true ↔ p = q) : Ans Tryd.prog n_ref01_Same [p.v, q.v] [] (.bool b) [] := by
  have h := SameInts_ok (a := p.cs) (b := q.cs) hlen
  obtain ⟨w, h1, rd, cs⟩ := p
  obtain ⟨w', h1', rd', cs'⟩ := q
  dsimp only at h hlen
  rw [Rp.mk.injEq] at hb
  refine spec_run e_ref01_Same fun G => ?_
  by_cases q1 : w = w'
  rotate_left
  · have e1 : (w == w') = false := by simp [q1]
    rw [no_of hb fun h => q1 h.1]
    simp only [go_sem, Rp.v, vw, e1]
  have e1 : (w == w') = true := by simp [q1]
  by_cases q2 : h1 = h1'
  rotate_left
  · have e2 : (h1 == h1') = false := by simp [q2]
    rw [no_of hb fun h => q2 h.2.1]
    simp only [go_sem, Rp.v, vw, e1, e2]
  have e2 : (h1 == h1') = true := by simp [q2]
  by_cases q3 : rd = rd'
  rotate_left
  · have e3 : (rd == rd') = false := by simp [q3]
    rw [no_of hb fun h => q3 h.2.2.1]
    simp only [go_sem, Rp.v, vw, e1, e2, e3]
  have e3 : (rd == rd') = true := by simp [q3]
  simp only [go_sem, Rp.v, vw, e1, e2, e3]
  refine cP h ?_
  by_cases q4 : cs = cs'
  · rw [decide_eq_true q4, hb.2 ⟨q1, q2, q3, q4⟩]
    simp only [go_sem]
  · rw [decide_eq_false q4, no_of hb fun h => q4 h.2.2.2]
    simp only [go_sem]

end Go.Proofs

namespace Go.Proofs
open Go Go.Sx
def yes : Option (AVal × Heap) → Bool
  | some (.bool b, _) => b
  | _ => false
theorem yes_ans {P : Program} (hm : P.follows .mixedOrders = true) {tab : Nat → Option AFun} (hT : ∀ g af, tab g = some af → EntryOK P g af) {m n g : Nat} (h : yes (exFn tab m n g [] []) = true) : Ans P g [] [] (.bool true) [] := by
  match hx : exFn tab m n g [] [] with
  | none => rw [hx] at h; cases h
  | some (v, H') =>
    rw [hx] at h
    cases v <;> try (cases h; done)
    rename_i b
    have hb : b = true := h
    subst hb
    exact (spec_ex hm hT hx).mono fun v H'' hv => ⟨hv.1, H'', rfl⟩
theorem awake_yes : yes (exFn tab 3000 40 n_law01_awake [] []) = true := by kernel_rfl
theorem awake_ok : Ans Tryd.prog n_law01_awake [] [] (.bool true) [] := yes_ans mixed tab_ok awake_yes
end Go.Proofs

namespace Go.Proofs
open Go Go.Sx
open Go.Txt (spl okB celB chB joinR)
attribute [local irreducible] Run

theorem Text_ok {p : Rp} (h : p.err = 0) : Ans Tryd.prog n_field_Text [p.v] [] (.tup [.str (textP p), .int .i64 0]) [] := by
  cases hrd : p.rd
  · exact Text_flat h hrd
  · exact Text_round h hrd
theorem textP_len {p : Rp} (h : p.err = 0) : (textP p).length ≤ 278 := by
  obtain ⟨hw, hh, _, _⟩ := err_zero h
  rw [textP_tK h, List.length_append]
  have := tK_len p.cs (w := p.w.toNat) (by omega) p.rd p.h.toNat
  simp only [List.length_singleton]; omega

def Pl.rp (p : Pl) : Rp := ⟨p.w, p.h, p.rd, p.cs⟩
theorem PlOK.err {p : Pl} (hp : PlOK p) : p.rp.err = 0 := by
  have hw := hp.w; have hh := hp.h
  have hm := hp.max
  unfold Rp.err Pl.rp
  dsimp only
  rw [if_neg (by omega), if_neg (by rw [hp.len]; push_cast; omega), if_neg (by intro h; exact h hp.cell), if_neg (by omega)]
theorem PlOK.cne {p : Pl} (hp : PlOK p) : p.cs ≠ [] := by
  intro h
  have hl := hp.len
  rw [h] at hl
  have := Nat.mul_le_mul hp.w.1 hp.h.1
  simp at hl; omega
theorem pla_bel (p : Pl) (j n : Nat) (S : Nat → Prop) (h : S j) : Bel S (p.a (.sl j 0 n)) := by unfold Pl.a Pl.c4; simp only [go_sem, h]

theorem vr_nilp {G : Ctx} {μ : Mu} {a b c : AVal} {x : Value} (h : VR G μ (.agg [a, b, c, .nilsl]) x) : VR G μ (.agg [a, b, c, .view []]) x := by
  cases h with
  | agg _ vs hl hv =>
    refine .agg _ vs (by simpa using hl) fun i hi => ?_
    match i, hi with
    | 0, _ => exact hv 0 (by simp)
    | 1, _ => exact hv 1 (by simp)
    | 2, _ => exact hv 2 (by simp)
    | 3, _ =>
      have h3 := hv 3 (by simp)
      simp only [List.getD_cons_zero, List.getD_cons_succ] at h3 ⊢
      generalize vs.getD 3 undef = y at *
      cases h3
      exact .viewnil none 0
def lss2 : List AVal → List AVal → Prop
  | [], [] => True
  | v :: vs, u :: us => (v = u ∨ (v = .nilsl ∧ u = .view []) ∨ (∃ a b c, v = .agg [a, b, c, .nilsl] ∧ u = .agg [a, b, c, .view []])) ∧ lss2 vs us
  | _, _ => False
theorem lss2_len : ∀ {l l' : List AVal}, lss2 l l' → l.length = l'.length
  | [], [], _ => rfl
  | v :: l, u :: l', h => by simp [lss2_len h.2]
  | [], _ :: _, h => h.elim
  | _ :: _, [], h => h.elim
theorem lss2_vr {G : Ctx} {μ : Mu} : ∀ {l l' : List AVal}, lss2 l l' → ∀ i c, i < l.length → VR G μ (l.getD i .any) c → VR G μ (l'.getD i .any) c
  | [], [], _, i, c, hi, _ => by simp at hi
  | v :: l, u :: l', h, i, c, hi, hv => by
    cases i with
    | zero =>
      simp only [List.getD_cons_zero] at hv ⊢
      rcases h.1 with rfl | ⟨rfl, rfl⟩ | ⟨a, b, d, rfl, rfl⟩
      · exact hv
      · cases hv; exact .viewnil none 0
      · exact vr_nilp hv
    | succ i =>
      simp only [List.getD_cons_succ] at hv ⊢
      exact lss2_vr h.2 i c (by simpa using hi) hv
  | [], _ :: _, h, _, _, _, _ => h.elim
  | _ :: _, [], h, _, _, _, _ => h.elim
theorem Ans.lss2 {P : Program} {g : FuncId} {args args' : List AVal} {LH LH' : Heap} {r : AVal} (h : Ans P g args LH r LH') (hw : Go.Proofs.lss2 args' args) : Ans P g args' LH r LH' := h.weak (lss2_len hw) fun _ _ i c hi hv => lss2_vr hw i c hi hv

def Rp.at (q : Rp) (v : AVal) : AVal := .agg [.int .i64 q.w, .int .i64 q.h, .bool q.rd, v]
theorem rpa_frz (d : Nat) {H : Heap} {q : Rp} {j : Nat} {g : Bool} (h : H[j]? = some (some (.cells g 1 (ivl q.cs)))) : frz (d + 3) H (.agg [.int .i64 q.w, .int .i64 q.h, .bool q.rd, .sl j 0 q.cs.length]) = q.v := by
  show AVal.agg [_, _, _, frz (d + 2) H (.sl j 0 q.cs.length)] = _
  rw [ivl_frz d H h]; rfl
theorem parse_yes {s : List UInt8} {q : Rp} (h : parseP s = (q, 0, 0)) (hc : q.cs ≠ []) (hl : s.length ≤ 1000000) :
    Ans Tryd.prog n_field_Parse [.str s] [] (.tup [.agg [.int .i64 q.w, .int .i64 q.h, .bool q.rd, .sl 0 0 q.cs.length], .int .i64 0, .int .i64 0]) [some (.cells true 1 (ivl q.cs))] := by
  have := Parse_ok s hl
  rw [h] at this
  unfold psV psH csV at this
  simp only [if_neg hc] at this
  exact this
theorem parse_no {s : List UInt8} {n e : Int} (h : parseP s = (zp, n, e)) (hl : s.length ≤ 1000000) :
    Ans Tryd.prog n_field_Parse [.str s] [] (.tup [.agg [.int .i64 0, .int .i64 0, .bool false, .nilsl], .int .i64 n, .int .i64 e]) [] := by
  have := Parse_ok s hl
  rw [h] at this
  exact this
theorem parse_cases (s : List UInt8) : (∃ q, parseP s = (q, 0, 0)) ∨ ∃ n e : Int, e ≠ 0 ∧ parseP s = (zp, n, e) := by
  unfold parseP
  by_cases h4 : 400 < s.length
  · rw [if_pos h4]; exact .inr ⟨_, _, by decide, rfl⟩
  rw [if_neg h4]
  split
  · exact .inr ⟨_, _, by decide, rfl⟩
  · split
    · rename_i h; exact .inr ⟨_, _, h, rfl⟩
    · exact .inl ⟨_, rfl⟩
theorem err_ne {q : Rp} (h : q.err = 0) : q.cs ≠ [] := (Rp.ok h).1.cne

set_option maxHeartbeats 4000000 in
set_option maxRecDepth 10000 in
theorem notes_law (zs : List Int) (hl : zs.length ≤ 9223372036854775807) (s : List UInt8) : Ans Tryd.prog n_law01_FieldNotes [.view (zs.map (.int .i64)), .str s] [] (.bool true) [] := by
  refine spec_run e_law01_FieldNotes fun G => ?_
  by_cases h1 : (600 : Int) < s.length
  · simp only [go_sem, h1]
    refine cP awake_ok ?_
    simp only [go_sem]
  simp only [go_sem, h1]
  refine callN1 (newdice_ok zs hl) (by simp only [go_sem]) (dr_bel _ _) (by simp) (by simp) ?_
  generalize seedW zs = w
  simp only [go_sem]
  refine callDN (PlanOf_ok w 16 16 (by omega) (by omega)) rfl (by simp only [go_sem]) (dr_bel _ _) (fun q hq => ⟨pla_bel _ _ _ _ rfl, dr_bel _ _, iv_row _ _ _⟩) (by simp) (by simp) ?_
  rintro ⟨w1, p⟩ hp
  dsimp only at hp ⊢
  have hpo := hp.ok
  have he := hpo.err
  have ht := Text_ok he
  have htl := textP_len he
  have hpp := parse_yes (readR_text he (by omega)) hpo.cne (by omega)
  have hsame := rSame_raw p.rp p.rp (by show p.cs.length ≤ 1000000; rw [hpo.len]; have := Nat.mul_le_mul hpo.w.2 hpo.h.2; omega) true (by simp)
  simp only [go_sem, Pl.a, Pl.c4, ren, rens]
  refine cF ht 6 ⟨.inl (pla_frz 3 (j := 1) (g := true) rfl rfl), trivial⟩ ?_
  simp only [go_sem, ren, rens]
  refine cN1 hpp ?_
  simp only [go_sem, ren, rens, bne_self_eq_false]
  refine cF hsame 6 ⟨.inl (pla_frz 3 (j := 1) (g := true) rfl rfl), .inl (rpa_frz 3 (q := p.rp) (j := 3) (g := true) rfl), trivial⟩ ?_
  simp only [go_sem, ren, rens]
  rcases parse_cases s with ⟨q, hq⟩ | ⟨n, e, hne, hq⟩
  · obtain ⟨htq, herr⟩ := text_parse hq
    have hpq := parse_yes hq (err_ne herr) (by omega)
    have htext := Text_ok herr
    rw [htq] at htext
    refine cN1 hpq ?_
    simp only [go_sem, ren, rens, bne_self_eq_false]
    refine cF htext 6 ⟨.inl (rpa_frz 3 (q := q) (j := 5) (g := true) rfl), trivial⟩ ?_
    simp only [go_sem, beq_self_eq_true]
    refine cP awake_ok ?_
    simp only [go_sem]
  · have hpn := parse_no hq (by omega)
    have hz := Go.Proofs.Ans.lss2 (rSame_raw zp zp (by decide) true (by simp)) (args' := [.agg [.int .i64 0, .int .i64 0, .bool false, .nilsl], .agg [.int .i64 0, .int .i64 0, .bool false, .nilsl]])
      ⟨.inr (.inr ⟨_, _, _, rfl, rfl⟩), .inr (.inr ⟨_, _, _, rfl, rfl⟩), trivial⟩
    have hne' : (e != 0) = true := by simp [hne]
    refine cP hpn ?_
    simp only [go_sem, hne']
    refine cP hz ?_
    simp only [go_sem]
    refine cP awake_ok ?_
    simp only [go_sem]
end Go.Proofs

