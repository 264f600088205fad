/- A part of the proof. -/
import Derived.Test.YtgjcjehpfjeomaaDoorPD
set_option linter.unusedSimpArgs false
set_option linter.unusedVariables false
namespace Go.Proofs
open Go Go.Sx
open Go.Txt (spl spl_len spl_none spl_step okB celB chB rowB rr rr_ok)
attribute [local irreducible] Run

def Rq.rp (q : Rq) : Rp := ⟨q.w, q.h, q.rd, q.cs⟩
def zp : Rp := ⟨0, 0, false, []⟩
def parseP (s : List UInt8) : Rp × Int × Int :=
  if 400 < s.length then (zp, 0, 5)
  else if (readR (spl 10 s) (Go.Txt.cnt 10 s)).bad ≠ 0 then (zp, (readR (spl 10 s) (Go.Txt.cnt 10 s)).bad, 3)
  else if (readR (spl 10 s) (Go.Txt.cnt 10 s)).rp.err ≠ 0 then (zp, 0, (readR (spl 10 s) (Go.Txt.cnt 10 s)).rp.err)
  else ((readR (spl 10 s) (Go.Txt.cnt 10 s)).rp, 0, 0)
def psV (x : Rp × Int × Int) : AVal := .tup [.agg [.int .i64 x.1.w, .int .i64 x.1.h, .bool x.1.rd, csV 0 x.1.cs], .int .i64 x.2.1, .int .i64 x.2.2]
def psH (x : Rp × Int × Int) : Heap := if x.1.cs = [] then [] else [some (.cells true 1 (ivl x.1.cs))]

theorem readR_zero {R : List (List UInt8)} {N : Nat} (hR : R.length = N + 1) (h : (readR R N).bad = 0) : 2 ≤ N ∧ (R.headD [] = roundB ∨ R.headD [] = flatB) ∧ R.getD N [] = [] ∧
    (readR R N).rd = (R.headD [] == roundB) ∧ (readR R N).h = N - 1 ∧ (∀ r ∈ (R.drop 1).take (N - 1), r.all okB = true ∧ r.length = (readR R N).w ∧ 0 < r.length) ∧
    (readR R N).cs = (((R.drop 1).take (N - 1)).map fun r => r.map celB).flatten ∧ (readR R N).cs ≠ [] := by
  unfold readR at h ⊢
  by_cases h1 : N = 0 ∨ (R.headD [] ≠ roundB ∧ R.headD [] ≠ flatB)
  · rw [if_pos h1] at h; cases h
  rw [if_neg h1] at h ⊢
  by_cases h2 : (rr ((R.drop 1).take (N - 1)) 2 0 []).2.2 ≠ 0
  · rw [if_pos h2] at h; exact absurd h (by simpa using h2)
  rw [if_neg h2] at h ⊢
  by_cases h3 : N - 1 = 0 ∨ R.getD N [] ≠ []
  · rw [if_pos h3] at h; dsimp only at h; omega
  rw [if_neg h3] at h ⊢
  obtain ⟨k1, k2, _⟩ := rr_ok ((R.drop 1).take (N - 1)) 1 0 [] (by simpa using h2)
  have hl : ((R.drop 1).take (N - 1)).length = N - 1 := by rw [List.length_take, List.length_drop]; omega
  have hN : 2 ≤ N := by omega
  refine ⟨hN, ?_, ?_, rfl, rfl, k1, by simpa using k2, ?_⟩
  · by_cases e : R.headD [] = roundB
    · exact .inl e
    · right
      by_cases e2 : R.headD [] = flatB
      · exact e2
      · exact absurd (.inr ⟨e, e2⟩) h1
  · by_cases e : R.getD N [] = []
    · exact e
    · exact absurd (.inr e) h3
  · have k3 : (rr ((R.drop 1).take (N - 1)) 2 0 []).2.1 = (((R.drop 1).take (N - 1)).map fun r => r.map celB).flatten := by simpa using k2
    dsimp only
    rw [k3]
    intro e
    match hm : (R.drop 1).take (N - 1) with
    | [] => rw [hm] at hl; simp at hl; omega
    | r :: t =>
      have := (k1 r (by rw [hm]; simp)).2.2
      rw [hm] at e
      simp only [List.map_cons, List.flatten_cons, List.append_eq_nil_iff, List.map_eq_nil_iff] at e
      rw [e.1] at this
      exact Nat.lt_irrefl 0 this

@[go_sem] theorem ivl_nv (g : Bool) (l : List Int) : (Row.cells g 1 (ivl l)).nv = True := eq_true (row_nv_cells _ _ (by
  unfold ivl
  induction l with
  | nil => trivial
  | cons p l ih => exact ⟨by simp only [go_sem], ih⟩))
theorem ivl_frz (d : Nat) (H : Heap) {j : Nat} {g : Bool} {cs : List Int} (h : H[j]? = some (some (.cells g 1 (ivl cs)))) : frz (d + 2) H (.sl j 0 cs.length) = vw cs := by
  rw [frz_sl h (by simp [ivl])]
  simp [frz, vw, ivl, Function.comp_def]

set_option maxHeartbeats 2000000 in
theorem Parse_ok (s : List UInt8) (hl : s.length ≤ 1000000) : Ans Tryd.prog n_field_Parse [.str s] [] (psV (parseP s)) (psH (parseP s)) := by
  have kr := read_ok s hl
  have hzero := readR_zero (R := spl 10 s) (N := Go.Txt.cnt 10 s) (spl_len 10 s)
  obtain ⟨x, hx⟩ : ∃ x, parseP s = x := ⟨_, rfl⟩
  rw [hx]
  unfold parseP at hx
  refine Ans.keep (run_fn e_field_Parse fun G => ?_) (by simp) (by unfold psV csV psH; split <;> simp [go_sem]) (by unfold psH; split <;> simp [go_sem, Full])
  have hz : ∀ (line e : Int), x = (zp, line, e) → ∀ X : Heap, ∃ σ, Kept [] (psH x) (psV x) (.tup [.agg [.int .i64 0, .int .i64 0, .bool false, .nilsl], .int .i64 line, .int .i64 e]) X σ := fun line e he X => by
    subst he
    exact ⟨fun i => i, fun i hi => rfl, fun i j hi => by simp [psH, zp] at hi, rfl, fun i y hy => by simp [psH, zp] at hy⟩
  by_cases h4 : 400 < s.length
  · rw [if_pos h4] at hx
    have g4 : (s.length : Int) > 400 := by omega
    simp only [go_sem, g4]
    exact hz 0 5 hx.symm _
  rw [if_neg h4] at hx
  have g4 : ¬ (s.length : Int) > 400 := by omega
  obtain ⟨q, hq⟩ : ∃ q, readR (spl 10 s) (Go.Txt.cnt 10 s) = q := ⟨_, rfl⟩
  rw [hq] at kr hx hzero
  simp only [go_sem, g4]
  by_cases hb : q.bad = 0
  · have hne := (hzero hb).2.2.2.2.2.2.2
    rw [if_neg (fun h => h hb)] at hx
    have hcl : q.cs.length ≤ 1000000 := by
      rw [(hzero hb).2.2.2.2.2.2.1, List.length_flatten, List.map_map]
      have h1 := spl_sum 10 s
      have h2 := sum_take ((spl 10 s).drop 1 |>.map List.length) (Go.Txt.cnt 10 s - 1)
      have h3 : (((spl 10 s).drop 1).map List.length).sum ≤ ((spl 10 s).map List.length).sum := by
        cases spl 10 s with
        | nil => simp
        | cons a l => simp
      have h4 : ((((spl 10 s).drop 1).take (Go.Txt.cnt 10 s - 1)).map (List.length ∘ fun r => r.map celB)) = ((((spl 10 s).drop 1).map List.length).take (Go.Txt.cnt 10 s - 1)) := by
        rw [← List.map_take]
        exact List.map_congr_left fun r _ => by simp
      rw [h4]
      omega
    have kc := Check_raw q.rp hcl
    unfold Rq.v Rq.H csV at kr
    rw [if_neg hne, if_neg hne] at kr
    refine cFN kr 6 ⟨.inl rfl, trivial⟩ ?_
    simp only [go_sem, ren, rens_eq, hb]
    have hfr : ∀ H : Heap, H[1]? = some (some (.cells true 1 (ivl q.cs))) → frz 6 H (.agg [.int .i64 q.w, .int .i64 q.h, .bool q.rd, .sl 1 0 q.cs.length]) = q.rp.v := fun H hH => by
      have := ivl_frz 3 H hH
      show AVal.agg [_, _, _, frz 5 H _] = _
      rw [this]; rfl
    refine cF kc 6 ⟨.inl (hfr _ rfl), trivial⟩ ?_
    by_cases he : q.rp.err = 0
    · rw [if_neg (fun h => h he)] at hx
      subst hx
      simp only [go_sem, he]
      unfold psH psV csV
      have hne' : q.rp.cs ≠ [] := hne
      simp only [hne', if_false]
      exact kept_one 1 rfl (by simp only [go_sem]) rfl
    · rw [if_pos he] at hx
      generalize q.rp.err = e at *
      simp only [go_sem, he]
      exact hz 0 e hx.symm _
  · rw [if_pos hb] at hx
    by_cases hne : q.cs = []
    · unfold Rq.v Rq.H csV at kr
      rw [if_pos hne, if_pos hne] at kr
      refine cP kr ?_
      simp only [go_sem, hb]
      exact hz _ 3 hx.symm _
    · unfold Rq.v Rq.H csV at kr
      rw [if_neg hne, if_neg hne] at kr
      refine cFN kr 6 ⟨.inl rfl, trivial⟩ ?_
      simp only [go_sem, ren, rens_eq, hb]
      exact hz _ 3 hx.symm _
end Go.Proofs

namespace Go.Proofs
open Go Go.Sx
open Go.Txt (spl spl_len spl_none spl_step okB celB chB rowB rr rr_ok rr_rows joinR spl_join join_spl chk chk_flat chk_len chk_rows cel_ch ch_cel ok_ne)

def headB (rd : Bool) : List UInt8 := if rd = true then roundB else flatB
def textP (p : Rp) : List UInt8 := joinR (headB p.rd :: (chk p.w.toNat p.h.toNat p.cs).map (List.map chB))

theorem err_zero {p : Rp} (h : p.err = 0) : (1 ≤ p.w ∧ p.w ≤ 16) ∧ (1 ≤ p.h ∧ p.h ≤ 16) ∧ p.cs.length = p.h.toNat * p.w.toNat ∧ ∀ c ∈ p.cs, 0 ≤ c ∧ c ≤ 6 := by
  obtain ⟨h1, _⟩ := Rp.ok h
  unfold Rp.err at h
  by_cases a : (1 ≤ p.w ∧ p.w ≤ 16) ∧ (1 ≤ p.h ∧ p.h ≤ 16)
  · refine ⟨a.1, a.2, ?_, h1.cell⟩
    have := h1.len
    show p.cs.length = _
    rw [Nat.mul_comm]; exact this
  · rw [if_pos a] at h; omega

theorem split_ends {α : Type} (R : List α) (d : α) (N : Nat) (h : R.length = N + 1) (hN : 1 ≤ N) : R = (R.headD d :: (R.drop 1).take (N - 1)) ++ [R.getD N d] := by
  cases R with
  | nil => simp at h
  | cons a R =>
    have hR : R.length = N := by simpa using h
    simp only [List.headD_cons, List.drop_succ_cons, List.drop_zero, List.cons_append]
    congr 1
    obtain ⟨n, rfl⟩ : ∃ n, N = n + 1 := ⟨N - 1, by omega⟩
    rw [Nat.add_sub_cancel]
    have h1 : R = R.take n ++ R.drop n := (List.take_append_drop n R).symm
    have h2 : R.drop n = [(a :: R).getD (n + 1) d] := by
      rw [List.drop_eq_getElem_cons (by omega), List.drop_eq_nil_of_le (by omega)]
      simp [List.getD_eq_getElem?_getD, List.getElem?_eq_getElem (show n < R.length by omega)]
    rw [← h2]
    exact h1

theorem text_parse {s : List UInt8} {p : Rp} (h : parseP s = (p, 0, 0)) : textP p = s ∧ p.err = 0 := by
  unfold parseP at h
  by_cases h4 : 400 < s.length
  · rw [if_pos h4] at h; cases h
  rw [if_neg h4] at h
  have hz := readR_zero (R := spl 10 s) (N := Go.Txt.cnt 10 s) (spl_len 10 s)
  have hRl := spl_len 10 s
  have hj := join_spl s
  generalize spl 10 s = R at *
  generalize Go.Txt.cnt 10 s = N at *
  generalize readR R N = q at *
  by_cases hb : q.bad = 0
  · rw [if_neg (fun h => h hb)] at h
    obtain ⟨n2, k1, k2, k3, k4, k5, k6, _⟩ := hz hb
    by_cases he : q.rp.err = 0
    · rw [if_neg (fun h => h he)] at h
      have hp : q.rp = p := (Prod.mk.inj h).1
      subst hp
      refine ⟨?_, he⟩
      have hR := split_ends R [] N hRl (by omega)
      rw [k2] at hR
      have hs := hj (R.headD [] :: (R.drop 1).take (N - 1)) [] hR
      rw [List.append_nil] at hs
      rw [hs]
      unfold textP
      congr 1
      have hhead : headB q.rp.rd = R.headD [] := by
        show headB q.rd = _
        rw [k3]
        unfold headB
        rcases k1 with e | e
        · rw [e]; rfl
        · rw [e]; rfl
      have hlen : ((R.drop 1).take (N - 1)).length = N - 1 := by rw [List.length_take, List.length_drop]; omega
      generalize (R.drop 1).take (N - 1) = rows at *
      rw [hhead]
      congr 1
      have hw : q.rp.w.toNat = q.w := by show ((q.w : Nat) : Int).toNat = _; omega
      have hh : q.rp.h.toNat = (rows.map fun r => r.map celB).length := by
        show q.h.toNat = _
        rw [k4, List.length_map, hlen]; omega
      rw [hw, hh]
      show (chk q.w _ q.cs).map _ = _
      rw [k6, chk_flat _ (fun r hr => by
        obtain ⟨x, hx, rfl⟩ := List.mem_map.1 hr
        rw [List.length_map]; exact (k5 x hx).2.1)]
      rw [List.map_map]
      conv => rhs; rw [← List.map_id rows]
      refine List.map_congr_left fun x hx => ?_
      simp only [Function.comp, List.map_map, id]
      conv => rhs; rw [← List.map_id x]
      refine List.map_congr_left fun b hbx => ?_
      exact ch_cel (List.all_eq_true.1 (k5 x hx).1 b hbx)
    · rw [if_pos he] at h
      have := (Prod.mk.inj (Prod.mk.inj h).2).2
      exact absurd this he
  · rw [if_pos hb] at h
    have := (Prod.mk.inj (Prod.mk.inj h).2).2
    exact absurd this (by decide)
end Go.Proofs

namespace Go.Proofs
open Go Go.Sx
open Go.Txt (okB celB chB joinR chk chk_len chk_rows cel_ch)
attribute [local irreducible] Run

theorem Chunk_ok (cs : List Int) (w : Nat) (hw : 1 ≤ w) (hw2 : w ≤ 1000000) : Ans Tryd.prog n_slices_Chunk_int_int [vw cs, .int .i64 w] [] (.fn (.func n_slices_Chunk_int_int_1) [] [.ptr 0 0 0 1, .ptr 1 0 0 1])
    [some (.cells false 1 [vw cs]), some (.cells false 1 [.int .i64 w])] := by
  refine spec_run e_slices_Chunk_int_int fun G => ?_
  have h1 : ¬ (w : Int) < 1 := by omega
  simp only [go_sem, vw, h1]
  exact ⟨_, rfl⟩

def rowI (cs : List Int) (w i : Nat) : List Int := (cs.drop (i * w)).take w
structure CBody (G : Ctx) (cs : List Int) (w h r ja jb : Nat) (Pre : Nat → Heap → Prop) : Prop where
  row : ∀ i H, Pre i H → H[ja]? = some (some (.cells false 1 [vw cs])) ∧ H[jb]? = some (some (.cells false 1 [.int .i64 w]))
  round : ∀ (i : Nat) H, i < h → Pre i H → RoundW Tryd.prog G r [vw (rowI cs w i)] H fun v H' => v = .bool true ∧ Pre (i + 1) H' ∧ H.length ≤ H'.length

set_option maxHeartbeats 1000000 in
theorem chunk_iter {G : Ctx} {cs : List Int} {w h r ja jb : Nat} {Pre : Nat → Heap → Prop} (hw : 1 ≤ w ∧ w ≤ 1000) (hh : h ≤ 1000) (hl : cs.length = h * w) (hB : CBody G cs w h r ja jb Pre) {H0 : Heap} (h0 : Pre 0 H0) :
    CallW Tryd.prog G n_slices_Chunk_int_int_1 [.yfn r, .ptr ja 0 0 1, .ptr jb 0 0 1] H0 fun v H' => v = .tup [] ∧ Pre h H' := by
  refine callW_run 3000 e_slices_Chunk_int_int_1 ?_
  simp only [go_sem]
  have hall : ((cs.map (AVal.int .i64)).all fun e => (acells e).length == 1) = true := by
    rw [List.all_eq_true]; intro v hv
    obtain ⟨z, _, rfl⟩ := List.mem_map.1 hv
    rfl
  have hn : cs.length ≤ 1000000 := by rw [hl]; exact Nat.mul_le_mul hh hw.2
  refine loop_ind k_slices_Chunk_int_int_1_r5.eq_1 (fun a : Nat × Heap => a.1 ≤ h ∧ Pre a.1 a.2 ∧ H0.length ≤ a.2.length) (fun a => h - a.1)
    (fun a => (tsets 31 [(0, .yfn r), (1, .ptr ja 0 0 1), (2, .ptr jb 0 0 1), (4, .int .i64 ((a.1 * w : Nat) : Int))], a.2)) (0, H0) ⟨Nat.zero_le _, h0, Nat.le_refl _⟩ (by simp [go_sem]) rfl ?_
  rintro ⟨i, H⟩ ⟨hi, hP, hL⟩ ih
  dsimp only at hi hP hL ih ⊢
  obtain ⟨ra, rb⟩ := hB.row i H hP
  have ca := cells_at ra
  have cb := cells_at rb
  obtain ⟨a, ha⟩ : ∃ a, i * w = a := ⟨_, rfl⟩
  rw [ha]
  by_cases h1 : i < h
  · have hle : a + w ≤ cs.length := by
      rw [hl, ← ha]
      have := Nat.mul_le_mul_right w (show i + 1 ≤ h from h1)
      rw [Nat.add_mul, Nat.one_mul] at this; exact this
    have g1 : (a : Int) < (cs.length : Int) := by omega
    have q1 : (0 : Int) ≤ (a : Int) := by omega
    have q2 : (a : Int) ≤ (cs.length : Int) := by omega
    have q3 : ¬ ((cs.length - a : Nat) : Int) < (w : Int) := by omega
    have u1 : IntKind.i64.wrap ((a : Int) + w) = ((a + w : Nat) : Int) := by rw [w64 (by omega)]; rfl
    have q4 : (a : Int) < ((a + w : Nat) : Int) := by omega
    have q5 : ((a + w : Nat) : Int) ≤ (cs.length : Int) := by omega
    have hr := hB.round i H h1 hP
    have hrow : rowI cs w i = (cs.drop a).take w := by unfold rowI; rw [ha]
    simp only [vw] at ca
    have hl1 : (List.take (cs.length - a) (List.drop a (List.map (AVal.int IntKind.i64) cs))).length = cs.length - a := by simp
    have q6 : (a + w) - a = w := by omega
    simp only [go_sem, ca, cb, g1, q1, q2, q3, u1, q4, q5, hl1, List.length_map, Int.toNat_natCast, q6]
    refine ⟨Int.le_refl _, hall, ⟨Int.le_refl _, hall⟩, ?_⟩
    have e28 : AVal.view (List.take w (List.drop a (List.map (AVal.int IntKind.i64) cs))) = vw (rowI cs w i) := by
      rw [hrow, vw, List.map_take, List.map_drop]
    rw [e28]
    refine yieldR 2954 rfl rfl rfl rfl hL (RoundW.mono hr ?_)
    rintro v H' ⟨rfl, hP', hL'⟩
    obtain ⟨ra', rb'⟩ := hB.row (i + 1) H' hP'
    have ca' := cells_at ra'
    have cb' := cells_at rb'
    have h2 : ((i + 1) * w : Nat) = a + w := by rw [Nat.add_mul, Nat.one_mul, ha]
    refine ⟨by simp, ?_⟩
    simp only [go_sem, ca', cb', u1]
    have := ih (i + 1, H') (by show h - (i + 1) < h - i; omega) ⟨h1, hP', Nat.le_trans hL hL'⟩
    simp only [go_sem, h2] at this ⊢
    exact this _ (by simp [go_sem])
  · obtain rfl : i = h := by omega
    have g1 : ¬ (a : Int) < (cs.length : Int) := by omega
    simp only [vw] at ca
    simp only [go_sem, ca, cb, g1, List.length_map]
    exact hP
end Go.Proofs

namespace Go.Proofs
open Go Go.Sx
open Go.Txt (okB celB chB joinR chk chk_len chk_rows cel_ch)
attribute [local irreducible] Run

theorem character_ok {c : Int} (h : 0 ≤ c ∧ c ≤ 6) : Ans Tryd.prog n_field_character [.int .i64 c] [] (.int .u8 ((chB c).toNat : Nat)) [] := by
  refine spec_run e_field_character fun G => ?_
  obtain ⟨n, rfl⟩ : ∃ n : Nat, c = n := ⟨c.toNat, by omega⟩
  have hn : n ≤ 6 := by omega
  match n, hn with
  | 0, _ => simp only [go_sem]; rfl
  | 1, _ => simp only [go_sem]; rfl
  | 2, _ => simp only [go_sem]; rfl
  | 3, _ => simp only [go_sem]; rfl
  | 4, _ => simp only [go_sem]; rfl
  | 5, _ => simp only [go_sem]; rfl
  | 6, _ => simp only [go_sem]; rfl

def tK (cs : List Int) (w : Nat) (rd : Bool) : Nat → List UInt8
  | 0 => headB rd
  | k + 1 => tK cs w rd k ++ 10 :: (rowI cs w k).map chB
theorem rowI_len (cs : List Int) (w i : Nat) : (rowI cs w i).length ≤ w := by unfold rowI; rw [List.length_take]; omega
theorem tK_len (cs : List Int) {w : Nat} (hw : w ≤ 16) (rd : Bool) : ∀ k, (tK cs w rd k).length ≤ 5 + k * 17
  | 0 => by rw [tK]; cases rd <;> decide
  | k + 1 => by
    have := tK_len cs hw rd k
    have h2 := rowI_len cs w k
    rw [tK, List.length_append, List.length_cons, List.length_map]; omega
theorem rowI_mem {cs : List Int} {w i : Nat} {c : Int} (h : c ∈ rowI cs w i) : c ∈ cs := List.mem_of_mem_drop (List.mem_of_mem_take h)
theorem rowI_step (cs : List Int) (w i : Nat) : rowI cs w (i + 1) = rowI (cs.drop w) w i := by
  unfold rowI; rw [List.drop_drop, Nat.add_mul, Nat.one_mul, Nat.add_comm w]
theorem chk_rowI {w : Nat} : ∀ (h : Nat) (cs : List Int), chk w h cs = (List.range h).map (rowI cs w)
  | 0, _ => rfl
  | h + 1, cs => by
    rw [chk, chk_rowI h, List.range_succ_eq_map, List.map_cons, List.map_map]
    congr 1
    · unfold rowI; simp
    · exact List.map_congr_left fun i _ => (rowI_step cs w i).symm
theorem joinR_snoc (r : List UInt8) : ∀ (L : List (List UInt8)) (a : List UInt8), joinR (a :: (L ++ [r])) = joinR (a :: L) ++ (r ++ [10])
  | [], a => by simp [joinR]
  | b :: L, a => by
    rw [List.cons_append, joinR, joinR_snoc r L b]
    simp [joinR]
theorem tK_join (cs : List Int) (w : Nat) (rd : Bool) : ∀ k, tK cs w rd k ++ [10] = joinR (headB rd :: ((List.range k).map (rowI cs w)).map (List.map chB))
  | 0 => by simp [tK, joinR]
  | k + 1 => by
    rw [List.range_succ, List.map_append, List.map_append, List.map_singleton, List.map_singleton, joinR_snoc, ← tK_join cs w rd k, tK]
    simp
theorem textP_tK {p : Rp} (h : p.err = 0) : textP p = tK p.cs p.w.toNat p.rd p.h.toNat ++ [10] := by
  unfold textP; rw [chk_rowI, tK_join]

@[go_sem] theorem bytesOf_map : ∀ l : List UInt8, bytesOf (l.map byteV) = some l
  | [] => rfl
  | b :: l => by
    show (bytesOf (l.map byteV)).map (UInt8.ofNat (((b.toNat : Nat) : Int).toNat) :: ·) = _
    rw [bytesOf_map l]; simp

theorem mb1 (T : List UInt8) (b : UInt8) : T.map byteV ++ [.int .u8 (b.toNat : Nat)] = (T ++ [b]).map byteV := by rw [List.map_append]; rfl
theorem mb10 (T : List UInt8) : T.map byteV ++ [.int .u8 10] = (T ++ [10]).map byteV := by rw [List.map_append]; rfl
def plV (p : Rp) (b : Bool) : AVal := .agg [.int .i64 p.w.toNat, .int .i64 p.h, .bool b, vw p.cs]

def txH1 (p : Rp) (g : Bool) (T : List UInt8) (x : Row) (X : Heap) : Heap :=
  [some (.cells false 4 [plV p false]), some (.cells g 1 (T.map byteV)), some (.cells false 1 [.sl 1 0 T.length]), some (.cells false 1 [vw p.cs]), some (.cells false 1 [.int .i64 p.w.toNat]), some .dfr, some x] ++ X
def txT1 : List (Nat × AVal) := [(1, .ptr 0 0 0 1), (5, .ptr 2 0 0 1), (24, .fn (.func n_slices_Chunk_int_int_1) [] [.ptr 3 0 0 1, .ptr 4 0 0 1])]
def txL1 (st : LoopState) (pe : Option ACode) : Row := .loop (tsets 45 txT1) [25] k_field_Text_r16 k_field_Text_r17 5 st pe

set_option maxHeartbeats 4000000 in
set_option maxRecDepth 4000 in
theorem Text_flat {p : Rp} (h : p.err = 0) (hrd : p.rd = false) : Ans Tryd.prog n_field_Text [p.v] [] (.tup [.str (textP p), .int .i64 0]) [] := by
  obtain ⟨hw, hh, hlen, hc⟩ := err_zero h
  have hch := Check_raw p (by have := Nat.mul_le_mul (show p.h.toNat ≤ 16 by omega) (show p.w.toNat ≤ 16 by omega); omega)
  rw [h] at hch
  obtain ⟨w, hW⟩ : ∃ w : Nat, p.w.toNat = w := ⟨_, rfl⟩
  obtain ⟨H, hH⟩ : ∃ H : Nat, p.h.toNat = H := ⟨_, rfl⟩
  have ew : p.w = (w : Int) := by omega
  rw [textP_tK h, hW, hH]
  rw [hW, hH] at hlen
  have tl := tK_len p.cs (w := w) (by omega) p.rd
  have e0 : tK p.cs w p.rd 0 = flatB := by rw [tK, hrd]; rfl
  refine Ans.keep (run_fn e_field_Text fun G => ?_) (by simp) (by simp [go_sem]) (by simp [go_sem, Full])
  simp only [go_sem, Rp.v]
  refine cP hch ?_
  simp only [go_sem, hrd, ew]
  refine cN2 (Chunk_ok p.cs w (by omega) (by omega)) ?_
  simp only [go_sem, ren, rens]
  refine rangeF 2000 (ρ := tsets 45 txT1) (by simp [go_sem, txT1]) (by simp only [go_sem, txT1]; rfl)
    (chunk_iter (cs := p.cs) (w := w) (h := H) (r := 6) (ja := 3) (jb := 4) (Pre := fun k H => ∃ g X, H = txH1 p g (tK p.cs w p.rd k) (txL1 .ready none) X) (by omega) (by omega) hlen ⟨?_, ?_⟩ ⟨false, [], ?_⟩) (by simp) ?_
  · rintro k Z ⟨g, X, rfl⟩
    refine ⟨rfl, ?_⟩
    rw [← hW]; rfl
  · rintro k Z hk ⟨g, X, rfl⟩
    have tk := tl k
    have tk1 := tl (k + 1)
    have rl := rowI_len p.cs w k
    have rm : ∀ c ∈ rowI p.cs w k, 0 ≤ c ∧ c ≤ 6 := fun c hx => hc c (rowI_mem hx)
    rw [tK] at tk1
    have et : tK p.cs w p.rd (k + 1) = tK p.cs w p.rd k ++ 10 :: (rowI p.cs w k).map chB := rfl
    rw [et]
    generalize rowI p.cs w k = row at *
    generalize tK p.cs w p.rd k = T at *
    refine RoundW.mono (R := fun v H' => v = .bool true ∧ ∃ Y, H' = txH1 p true (T ++ 10 :: row.map chB) (txL1 .ready none) (X ++ Y)) ?_ ?_
    rotate_left
    · rintro v H' ⟨rfl, Y, rfl⟩
      exact ⟨rfl, ⟨_, _, rfl⟩, by simp [txH1]⟩
    generalize hR : (fun (v : AVal) (H' : Heap) => v = .bool true ∧ ∃ Y, H' = txH1 p true (T ++ 10 :: row.map chB) (txL1 .ready none) (X ++ Y)) = R
    have hfin : ∀ Y, R (.bool true) (txH1 p true (T ++ 10 :: row.map chB) (txL1 .ready none) (X ++ Y)) := fun Y => by rw [← hR]; exact ⟨rfl, Y, rfl⟩
    clear hR
    refine roundW_run 500 k_field_Text_r16.eq_1 rfl rfl (ρ' := tsets 45 (txT1 ++ [(25, vw row)])) rfl ?_
    simp only [go_sem, txT1, txH1, vw]
    refine roundMid_run 500 k_field_Text_r17.eq_1 rfl rfl ?_
    simp only [go_sem, vw, List.length_map, mb10]
    refine ⟨by omega, ?_⟩
    refine loop_ind k_field_Text_r15.eq_1 (fun a : Nat × List UInt8 × Heap => a.1 ≤ row.length ∧ a.2.1 ++ (row.drop a.1).map chB = T ++ 10 :: row.map chB ∧ a.2.1.length ≤ 400) (fun a => row.length - a.1)
      (fun a => (tsets 45 [(1, .ptr 0 0 0 1), (5, .ptr 2 0 0 1), (29, vw row), (30, .int .i64 row.length), (31, .int .i64 a.1)], txH1 p true a.2.1 (txL1 .busy none) (X ++ a.2.2))) (0, T ++ [10], [some (.cells false 1 [.int .u8 10])])
      ⟨Nat.zero_le _, by simp, by simp; omega⟩ (by simp [go_sem, vw]) (by simp [txH1, txL1, txT1, vw]) ?_
    rintro ⟨i, S, Y⟩ ⟨hi, hS, hSl⟩ ih
    dsimp only at hi hS hSl ih ⊢
    by_cases h1 : i < row.length
    · have h2 : (i : Int) < (row.length : Int) := by omega
      have h3 := idx_next h1 (by omega)
      have n0 : ¬ (i : Int) < 0 := by omega
      have hx := gt_get h1
      have hb := rm _ (gt_mem h1)
      rw [drop_step h1, List.map_cons] at hS
      generalize gt row i = z at *
      have hx2 : (List.map (AVal.int IntKind.i64) row)[i]? = some (.int .i64 z) := by rw [List.getElem?_map, hx]; rfl
      simp only [go_sem, txH1, vw, List.length_map, h2, n0, hx2, h3]
      refine dP (character_ok hb) ?_
      simp only [go_sem, txH1, vw, List.length_map, h2, n0, hx2, h3, mb1]
      refine ⟨by omega, ?_⟩
      have := ih (i + 1, S ++ [chB z], Y ++ [some (.cells false 1 [.int .u8 ((chB z).toNat : Nat)])]) (by dsimp only; omega) ⟨h1, by rw [List.append_assoc]; exact hS, by dsimp only; rw [List.length_append, List.length_singleton]; have := congrArg List.length hS; simp at this; simp at tk1; omega⟩
      simp only [go_sem, txH1, vw, List.length_append, List.length_singleton, List.append_assoc] at this ⊢
      exact this _ (by simp [go_sem])
    · obtain rfl : i = row.length := by omega
      have h2 : ¬ (row.length : Int) < (row.length : Int) := by omega
      rw [List.drop_length, List.map_nil, List.append_nil] at hS
      subst hS
      simp only [go_sem, txH1, vw, h2]
      refine roundEnd_on rfl ?_
      simp only [go_sem]
      have := hfin Y
      simp only [go_sem, txH1, txL1, txT1, vw, List.length_append, List.length_cons, List.length_map] at this ⊢
      exact this
  · simp only [e0, txH1, hW, plV, txL1]; rfl
  · rintro v H' ⟨rfl, g, X, rfl⟩
    refine ⟨fun q hq => by simp at hq; subst hq; rfl, _, _, _, _, _, _, _, rfl, by decide, ?_⟩
    have tk := tl H
    simp only [hrd] at tk ⊢
    generalize tK p.cs w false H = T at *
    have hl1 : (T ++ [10]).length = T.length + 1 := by simp
    have hl2 : List.take (T.length + 1) ((T ++ [10]).map byteV) = (T ++ [10]).map byteV := List.take_of_length_le (by simp)
    simp only [go_sem, txH1, txT1, tsets, mb10, hl2]
    exact ⟨by omega, by decide, fun i => i, fun i hi => rfl, fun i j hi => by simp at hi, rfl, fun i y hy => by simp at hy⟩

def txH3 (p : Rp) (g : Bool) (T : List UInt8) (x : Row) (X : Heap) : Heap :=
  [some (.cells false 4 [plV p true]), some (.cells false 1 (flatB.map byteV)), some (.cells false 1 [.sl 3 0 T.length]), some (.cells g 1 (T.map byteV)), some (.cells false 1 [vw p.cs]), some (.cells false 1 [.int .i64 p.w.toNat]), some .dfr, some x] ++ X
def txT3 : List (Nat × AVal) := [(1, .ptr 0 0 0 1), (5, .ptr 2 0 0 1), (24, .fn (.func n_slices_Chunk_int_int_1) [] [.ptr 4 0 0 1, .ptr 5 0 0 1])]
def txL3 (st : LoopState) (pe : Option ACode) : Row := .loop (tsets 45 txT3) [25] k_field_Text_r16 k_field_Text_r17 6 st pe

set_option maxHeartbeats 4000000 in
set_option maxRecDepth 4000 in
theorem Text_round {p : Rp} (h : p.err = 0) (hrd : p.rd = true) : Ans Tryd.prog n_field_Text [p.v] [] (.tup [.str (textP p), .int .i64 0]) [] := by
  obtain ⟨hw, hh, hlen, hc⟩ := err_zero h
  have hch := Check_raw p (by have := Nat.mul_le_mul (show p.h.toNat ≤ 16 by omega) (show p.w.toNat ≤ 16 by omega); omega)
  rw [h] at hch
  obtain ⟨w, hW⟩ : ∃ w : Nat, p.w.toNat = w := ⟨_, rfl⟩
  obtain ⟨H, hH⟩ : ∃ H : Nat, p.h.toNat = H := ⟨_, rfl⟩
  have ew : p.w = (w : Int) := by omega
  rw [textP_tK h, hW, hH]
  rw [hW, hH] at hlen
  have tl := tK_len p.cs (w := w) (by omega) p.rd
  have e0 : tK p.cs w p.rd 0 = roundB := by rw [tK, hrd]; rfl
  refine Ans.keep (run_fn e_field_Text fun G => ?_) (by simp) (by simp [go_sem]) (by simp [go_sem, Full])
  simp only [go_sem, Rp.v]
  refine cP hch ?_
  simp only [go_sem, hrd, ew]
  refine cN2 (Chunk_ok p.cs w (by omega) (by omega)) ?_
  simp only [go_sem, ren, rens]
  refine rangeF 2000 (ρ := tsets 45 txT3) (by simp [go_sem, txT3]) (by simp only [go_sem, txT3]; rfl)
    (chunk_iter (cs := p.cs) (w := w) (h := H) (r := 7) (ja := 4) (jb := 5) (Pre := fun k H => ∃ g X, H = txH3 p g (tK p.cs w p.rd k) (txL3 .ready none) X) (by omega) (by omega) hlen ⟨?_, ?_⟩ ⟨false, [], ?_⟩) (by simp) ?_
  · rintro k Z ⟨g, X, rfl⟩
    refine ⟨rfl, ?_⟩
    rw [← hW]; rfl
  · rintro k Z hk ⟨g, X, rfl⟩
    have tk := tl k
    have tk1 := tl (k + 1)
    have rl := rowI_len p.cs w k
    have rm : ∀ c ∈ rowI p.cs w k, 0 ≤ c ∧ c ≤ 6 := fun c hx => hc c (rowI_mem hx)
    rw [tK] at tk1
    have et : tK p.cs w p.rd (k + 1) = tK p.cs w p.rd k ++ 10 :: (rowI p.cs w k).map chB := rfl
    rw [et]
    generalize rowI p.cs w k = row at *
    generalize tK p.cs w p.rd k = T at *
    refine RoundW.mono (R := fun v H' => v = .bool true ∧ ∃ Y, H' = txH3 p true (T ++ 10 :: row.map chB) (txL3 .ready none) (X ++ Y)) ?_ ?_
    rotate_left
    · rintro v H' ⟨rfl, Y, rfl⟩
      exact ⟨rfl, ⟨_, _, rfl⟩, by simp [txH3]⟩
    generalize hR : (fun (v : AVal) (H' : Heap) => v = .bool true ∧ ∃ Y, H' = txH3 p true (T ++ 10 :: row.map chB) (txL3 .ready none) (X ++ Y)) = R
    have hfin : ∀ Y, R (.bool true) (txH3 p true (T ++ 10 :: row.map chB) (txL3 .ready none) (X ++ Y)) := fun Y => by rw [← hR]; exact ⟨rfl, Y, rfl⟩
    clear hR
    refine roundW_run 500 k_field_Text_r16.eq_1 rfl rfl (ρ' := tsets 45 (txT3 ++ [(25, vw row)])) rfl ?_
    simp only [go_sem, txT3, txH3, vw]
    refine roundMid_run 500 k_field_Text_r17.eq_1 rfl rfl ?_
    simp only [go_sem, vw, List.length_map, mb10]
    refine ⟨by omega, ?_⟩
    refine loop_ind k_field_Text_r15.eq_1 (fun a : Nat × List UInt8 × Heap => a.1 ≤ row.length ∧ a.2.1 ++ (row.drop a.1).map chB = T ++ 10 :: row.map chB ∧ a.2.1.length ≤ 400) (fun a => row.length - a.1)
      (fun a => (tsets 45 [(1, .ptr 0 0 0 1), (5, .ptr 2 0 0 1), (29, vw row), (30, .int .i64 row.length), (31, .int .i64 a.1)], txH3 p true a.2.1 (txL3 .busy none) (X ++ a.2.2))) (0, T ++ [10], [some (.cells false 1 [.int .u8 10])])
      ⟨Nat.zero_le _, by simp, by simp; omega⟩ (by simp [go_sem, vw]) (by simp [txH3, txL3, txT3, vw]) ?_
    rintro ⟨i, S, Y⟩ ⟨hi, hS, hSl⟩ ih
    dsimp only at hi hS hSl ih ⊢
    by_cases h1 : i < row.length
    · have h2 : (i : Int) < (row.length : Int) := by omega
      have h3 := idx_next h1 (by omega)
      have n0 : ¬ (i : Int) < 0 := by omega
      have hx := gt_get h1
      have hb := rm _ (gt_mem h1)
      rw [drop_step h1, List.map_cons] at hS
      generalize gt row i = z at *
      have hx2 : (List.map (AVal.int IntKind.i64) row)[i]? = some (.int .i64 z) := by rw [List.getElem?_map, hx]; rfl
      simp only [go_sem, txH3, vw, List.length_map, h2, n0, hx2, h3]
      refine dP (character_ok hb) ?_
      simp only [go_sem, txH3, vw, List.length_map, h2, n0, hx2, h3, mb1]
      refine ⟨by omega, ?_⟩
      have := ih (i + 1, S ++ [chB z], Y ++ [some (.cells false 1 [.int .u8 ((chB z).toNat : Nat)])]) (by dsimp only; omega) ⟨h1, by rw [List.append_assoc]; exact hS, by dsimp only; rw [List.length_append, List.length_singleton]; have := congrArg List.length hS; simp at this; simp at tk1; omega⟩
      simp only [go_sem, txH3, vw, List.length_append, List.length_singleton, List.append_assoc] at this ⊢
      exact this _ (by simp [go_sem])
    · obtain rfl : i = row.length := by omega
      have h2 : ¬ (row.length : Int) < (row.length : Int) := by omega
      rw [List.drop_length, List.map_nil, List.append_nil] at hS
      subst hS
      simp only [go_sem, txH3, vw, h2]
      refine roundEnd_on rfl ?_
      simp only [go_sem]
      have := hfin Y
      simp only [go_sem, txH3, txL3, txT3, vw, List.length_append, List.length_cons, List.length_map] at this ⊢
      exact this
  · simp only [e0, txH3, hW, plV, txL3]; rfl
  · rintro v H' ⟨rfl, g, X, rfl⟩
    refine ⟨fun q hq => by simp at hq; subst hq; rfl, _, _, _, _, _, _, _, rfl, by decide, ?_⟩
    have tk := tl H
    simp only [hrd] at tk ⊢
    generalize tK p.cs w true H = T at *
    have hl1 : (T ++ [10]).length = T.length + 1 := by simp
    have hl2 : List.take (T.length + 1) ((T ++ [10]).map byteV) = (T ++ [10]).map byteV := List.take_of_length_le (by simp)
    simp only [go_sem, txH3, txT3, tsets, mb10, hl2]
    exact ⟨by omega, by decide, fun i => i, fun i hi => rfl, fun i j hi => by simp at hi, rfl, fun i y hy => by simp at hy⟩
end Go.Proofs

namespace Go.Proofs
open Go Go.Sx
attribute [local irreducible] Run

theorem no_of {b : Bool} {P : Prop} (hb : b = true ↔ P) (h : ¬ P) : b = false := by
  cases b with
  | false => rfl
  | true => exact absurd (hb.1 rfl) h
theorem SameInts_ok {a b : List Int} (hlen : a.length ≤ 1000000) : Ans Tryd.prog n_ref01_SameInts [vw a, vw b] [] (.bool (decide (a = b))) [] := by
  refine spec_run e_ref01_SameInts fun G => ?_
  by_cases hl : a.length = b.length
  rotate_left
  · have hl' : ((a.length : Int) != b.length) = true := by simp; omega
    have hne : decide (a = b) = false := decide_eq_false fun h => hl (by rw [h])
    simp only [go_sem, vw, List.length_map, hl', hne]
  have hl' : ((a.length : Int) != b.length) = false := by simp; omega
  simp only [go_sem, vw, List.length_map, hl']
  refine loop_ind k_ref01_SameInts_r8.eq_1 (fun q : Nat × Heap => q.1 ≤ a.length ∧ ∀ j, j < q.1 → gt a j = gt b j) (fun q => a.length - q.1)
    (fun q => (tsets 26 [(0, vw a), (1, vw b), (5, .int .i64 q.1)], q.2)) (0, []) ⟨Nat.zero_le _, fun j hj => absurd hj (Nat.not_lt_zero _)⟩ (by simp [go_sem, vw]) rfl ?_
  rintro ⟨i, X⟩ ⟨hi, he⟩ ih
  dsimp only at hi he ih ⊢
  by_cases h1 : i < a.length
  · have h2 : (i : Int) < a.length := by omega
    have h2b : (i : Int) < b.length := by omega
    have h3 := idx_next h1 (by omega)
    have n0 : ¬ (i : Int) < 0 := by omega
    have hx := gt_get h1
    have hy := gt_get (l := b) (i := i) (by omega)
    by_cases hq : gt a i = gt b i
    · have hq' : (gt a i != gt b i) = false := by simp [hq]
      have ihn := fun X => ih (i + 1, X) (by dsimp only; omega) ⟨h1, fun j hj => by
        by_cases e : j = i
        · subst e; exact hq
        · exact he j (by dsimp only at hj; omega)⟩
      generalize gt a i = x at *
      generalize gt b i = y at *
      simp only [go_sem, vw, List.length_map, h2, h2b, n0, hx, hy, hq', h3]
      exact ihn _ _ (by simp [go_sem, vw])
    · have hq' : (gt a i != gt b i) = true := by simp [hq]
      have hne : decide (a = b) = false := decide_eq_false fun h => hq (by rw [h])
      rw [hne]
      generalize gt a i = x at *
      generalize gt b i = y at *
      simp only [go_sem, vw, List.length_map, h2, h2b, n0, hx, hy, hq']
  · have h2 : ¬ (i : Int) < a.length := by omega
    have hab : a = b := gt_ext hl fun j hj => he j (by omega)
    rw [decide_eq_true hab]
    simp only [go_sem, vw, List.length_map, h2]

theorem rSame_raw (p q : Rp) (hlen : p.cs.length ≤ 1000000) (b : Bool) (hb : b = true ↔ p = q) : Ans Tryd.prog n_ref01_Same [p.v, q.v] [] (.bool b) [] := by
  have h := SameInts_ok (a := p.cs) (b := q.cs) hlen
  obtain ⟨w, h1, rd, cs⟩ := p
  obtain ⟨w', h1', rd', cs'⟩ := q
  dsimp only at h hlen
  rw [Rp.mk.injEq] at hb
  refine spec_run e_ref01_Same fun G => ?_
  by_cases q1 : w = w'
  rotate_left
  · have e1 : (w == w') = false := by simp [q1]
    rw [no_of hb fun h => q1 h.1]
    simp only [go_sem, Rp.v, vw, e1]
  have e1 : (w == w') = true := by simp [q1]
  by_cases q2 : h1 = h1'
  rotate_left
  · have e2 : (h1 == h1') = false := by simp [q2]
    rw [no_of hb fun h => q2 h.2.1]
    simp only [go_sem, Rp.v, vw, e1, e2]
  have e2 : (h1 == h1') = true := by simp [q2]
  by_cases q3 : rd = rd'
  rotate_left
  · have e3 : (rd == rd') = false := by simp [q3]
    rw [no_of hb fun h => q3 h.2.2.1]
    simp only [go_sem, Rp.v, vw, e1, e2, e3]
  have e3 : (rd == rd') = true := by simp [q3]
  simp only [go_sem, Rp.v, vw, e1, e2, e3]
  refine cP h ?_
  by_cases q4 : cs = cs'
  · rw [decide_eq_true q4, hb.2 ⟨q1, q2, q3, q4⟩]
    simp only [go_sem]
  · rw [decide_eq_false q4, no_of hb fun h => q4 h.2.2.2]
    simp only [go_sem]

end Go.Proofs

