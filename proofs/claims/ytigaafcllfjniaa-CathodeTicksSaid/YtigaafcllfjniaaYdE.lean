/- Demands made of numbers. -/
import Derived.Test.YtigaafcllfjniaaYdD
namespace Go.Proofs
open Go Go.Sx
attribute [local irreducible] Run

structure Dm where
  gas : Int
  wear : Int
  lost : Int
  rest : Int
  ba : Int
  deriving Inhabited, DecidableEq
def Dm.cs (d : Dm) : List AVal := [.int .i64 d.gas, .int .i64 d.wear, .int .i64 d.lost, .int .i64 d.rest, .int .i64 d.ba]
def Dm.v (d : Dm) : AVal := .agg d.cs
@[go_sem] theorem dm_bel (x : Dm) (S : Nat → Prop) : Bel S x.v = True := by unfold Dm.v Dm.cs; simp only [go_sem]
@[go_sem] theorem dm_nv (x : Dm) : NV x.v = True := by unfold Dm.v Dm.cs; simp only [go_sem]
abbrev MW : Int := 1099511627776
structure DmOK (d : Dm) : Prop where
  gas : 0 ≤ d.gas ∧ d.gas ≤ 1099511627776
  wear : 0 ≤ d.wear ∧ d.wear ≤ 1099511627776
  lost : 0 ≤ d.lost ∧ d.lost ≤ 1099511627776
  rest : 0 ≤ d.rest ∧ d.rest ≤ 1099511627776
  ba : 0 ≤ d.ba ∧ d.ba ≤ 1000000000

theorem in_run (w : Int) (r : Rg) {m : Int} (h : RgIn r m) (hm : m ≤ 1099511627776) : Ans Try.prog n_kit_Dice_In [.ptr 0 0 0 1, r.v] [some (Dr w)] (.int .i64 (btw w r.lo r.hi)) [some (Dr (dstep w))] := by
  obtain ⟨a, b, c⟩ := h
  have hb := between_ok w r.lo r.hi (by omega) b (by omega)
  refine spec_run e_kit_Dice_In fun G => ?_
  simp only [go_sem, Rg.v]
  by_cases h1 : r.lo < r.hi
  · simp only [h1, if_true]
    refine cD hb ?_
    simp only [go_sem]
    exact ⟨_, rfl⟩
  · have e : r.hi = r.lo := by omega
    rw [e] at hb ⊢
    simp only [h1, if_false, Int.lt_irrefl]
    refine cD hb ?_
    simp only [go_sem]
    exact ⟨_, rfl⟩

def sel5v (q a b c d e : Int) : Int := if q = 0 then a else if q = 1 then b else if q = 2 then c else if q = 3 then d else e
theorem sel5v_ok (q a b c d e : Int) (h : 0 ≤ q ∧ q < 5) : [AVal.int .i64 a, .int .i64 b, .int .i64 c, .int .i64 d, .int .i64 e][q.toNat]? = some (.int .i64 (sel5v q a b c d e)) := by
  obtain rfl | rfl | rfl | rfl | rfl : q = 0 ∨ q = 1 ∨ q = 2 ∨ q = 3 ∨ q = 4 := by omega
  all_goals rfl
def sel4v (q a b c d : Int) : Int := if q = 0 then a else if q = 1 then b else if q = 2 then c else d
theorem sel4v_ok (q a b c d : Int) (h : 0 ≤ q ∧ q < 4) : [AVal.int .i64 a, .int .i64 b, .int .i64 c, .int .i64 d][q.toNat]? = some (.int .i64 (sel4v q a b c d)) := by
  obtain rfl | rfl | rfl | rfl : q = 0 ∨ q = 1 ∨ q = 2 ∨ q = 3 := by omega
  all_goals rfl

/-- The greater of two. -/
def mxv (a b : Int) : Int := if b > a then b else a
def nearV (w : Int) (r : Rg) : Int := sel5v (upto (dstep w) 5) r.lo r.hi (btw w r.lo r.hi) (mxv 0 (r.lo - 1)) 1099511627776
theorem nearV_in {w : Int} {r : Rg} {m : Int} (h : RgIn r m) (hm : m ≤ 1099511627776) : 0 ≤ nearV w r ∧ nearV w r ≤ 1099511627776 := by
  obtain ⟨a, b, c⟩ := h
  have hb := btw_in (w := w) b
  unfold nearV sel5v mxv
  generalize btw w r.lo r.hi = q at *
  constructor <;> (repeat' split) <;> omega
theorem near_run (w : Int) (r : Rg) {m : Int} (h : RgIn r m) (hm : m ≤ 1099511627776) : Ans Try.prog n_kit_near [.ptr 0 0 0 1, r.v] [some (Dr w)] (.int .i64 (nearV w r)) [some (Dr (dstep (dstep w)))] := by
  have hi := in_run w r h hm
  obtain ⟨a, b, c⟩ := h
  have hq := upto_in (w := dstep w) (n := 5) (by decide)
  have e1 : IntKind.i64.wrap (r.lo - 1) = r.lo - 1 := w64 (by omega)
  have hs := sel5v_ok (upto (dstep w) 5) r.lo r.hi (btw w r.lo r.hi) (mxv 0 (r.lo - 1)) 1099511627776 hq
  have n1 : ¬ upto (dstep w) 5 < 0 := by omega
  have n2 : upto (dstep w) 5 < 5 := hq.2
  have hu := upto_ok (dstep w) 5 (by decide)
  unfold nearV
  have hmx : (if r.lo - 1 > 0 then r.lo - 1 else 0) = mxv 0 (r.lo - 1) := rfl
  generalize mxv 0 (r.lo - 1) = y at *
  generalize upto (dstep w) 5 = q at *
  refine spec_run e_kit_near fun G => ?_
  simp only [go_sem, Rg.v]
  refine dD hi ?_
  simp only [go_sem, e1, hmx]
  refine dD hu ?_
  simp only [go_sem, n1, n2, hs]
  exact ⟨_, rfl⟩

theorem rFollow_nil (c : Ct) (hc : CtOK c) : Ans Try.prog n_ref03_Follow [c.v (.view (c.bands.map Bd.v)), .view []] [] (.tup [.nilsl, .int .i64 0]) [] := by
  have hl : LsOK [] := ⟨by simp, fun h hh => by simp at hh, by simp [lenOfL]⟩
  have hcs : Ans Try.prog n_ref03_CheckSchedule [.view []] [] (.int .i64 0) [] := rCheckSchedule_run [] hl
  have ht := rticks_run c hc [] hl
  refine spec_run e_ref03_Follow fun G => ?_
  simp only [go_sem, Ct.v, Ct.cs]
  refine cP (rCheck_run c hc) ?_
  simp only [go_sem]
  refine cP hcs ?_
  simp only [go_sem, Ct.v, Ct.cs]
  refine cN1E ht (fun a ha => ⟨by rw [bel_sl], by rw [row_bel_cells]; simp only [go_sem]⟩) ?_
  rintro b -
  simp only [go_sem, ren, rens]
  refine loop_body 200 k_ref03_Follow_r15.eq_1 ?_
  simp only [go_sem]
end Go.Proofs
