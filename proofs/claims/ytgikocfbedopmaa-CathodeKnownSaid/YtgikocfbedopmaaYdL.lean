/- CathodeKnown: the coat of the examples. -/
import Derived.Test.YtgikocfbedopmaaYdKnown
import Derived.Test.YtgikocfbedopmaaYcQ
import Derived.Test.YtgikocfbedopmaaYcN
import Derived.Test.YtgikocfbedopmaaYkMix
import Derived.Test.YtgikocfbedopmaaSxF
namespace Go.Proofs
open Go Go.Sx
attribute [local irreducible] Run

def kB0 : Bd := ⟨0, ⟨0, 0⟩, ⟨0, 0⟩, ⟨0, 0⟩, ⟨0, 0⟩⟩
def kB1 : Bd := ⟨1000, ⟨100000, 200000⟩, ⟨100000, 100000⟩, ⟨0, 10000⟩, ⟨1, 2⟩⟩
def kC : Ct := ⟨1000, 400, ⟨0, 0⟩, ⟨500000, 500000⟩, [kB0, kB1]⟩
theorem rgin {lo hi m : Int} (h : 0 ≤ lo ∧ lo ≤ hi ∧ hi ≤ m) : RgIn ⟨lo, hi⟩ m := ⟨h.1, h.2.1, h.2.2⟩
theorem kC_ok : CtOK kC := by
  refine ⟨by decide, by decide, rgin (by decide), rgin (by decide), by decide, rfl, fun i hi => ?_, fun b hb => ?_⟩
  · have : i = 0 := by simp [kC] at hi; omega
    subst this; decide
  · simp only [kC, List.mem_cons, List.not_mem_nil, or_false] at hb
    rcases hb with rfl | rfl
    · exact ⟨by decide, rgin (by decide), rgin (by decide), rgin (by decide), rgin (by decide)⟩
    · exact ⟨by decide, rgin (by decide), rgin (by decide), rgin (by decide), rgin (by decide)⟩
theorem sample_run : Ans Try.prog n_law03_sample [] [] (kC.v (.sl 0 0 2)) [some (.cells false 9 (kC.bands.map Bd.v))] := by
  refine Ans.keep (run_fn e_law03_sample fun G => ?_) (Nat.zero_le _) (by simp [go_sem, Ct.v, Ct.cs]) ⟨by rw [row_bel_cells]; simp only [go_sem], trivial⟩
  simp only [go_sem, Ct.v, Ct.cs, kC, kB0, kB1, Bd.v, Bd.cs]
  exact kept_one 1 rfl (by rw [row_bel_cells]; simp only [go_sem]) rfl
theorem span_run (a b : Int) : Ans Try.prog n_law03_span [.int .i64 a, .int .i64 b] [] (Rg.v ⟨a, b⟩) [] := by
  refine spec_run e_law03_span fun G => ?_
  simp only [go_sem, Rg.v]
theorem hot_run : Ans Try.prog n_law03_hot [] [] (Ht.v ⟨2, 1100, 0⟩) [] := by
  refine spec_run e_law03_hot fun G => ?_
  simp only [go_sem, Ht.v, Ht.cs]

theorem chk0 : Ans Try.prog n_cathode_Check [({ kC with amount := 0 } : Ct).v (.view (kC.bands.map Bd.v))] [] (.int .i64 2) [] := by
  refine spec_run e_cathode_Check fun G => ?_
  simp only [go_sem, Ct.v, Ct.cs, kC]
  refine cP (within_ok 0 1 1000000) ?_
  simp only [go_sem]
theorem chk1 : Ans Try.prog n_cathode_Check [kC.v .nilsl] [] (.int .i64 6) [] := by
  have g1 := checkRanges_ok 1000000 [⟨0, 0⟩, ⟨500000, 500000⟩] (by simp only [List.mem_cons, List.not_mem_nil, or_false]; rintro r (rfl | rfl) <;> exact rgin (by decide)) (by simp)
  refine spec_run e_cathode_Check fun G => ?_
  simp only [go_sem, Ct.v, Ct.cs, kC]
  refine cP (within_yes (by decide)) ?_
  simp only [go_sem]
  refine cP (within_yes (by decide)) ?_
  simp only [go_sem]
  refine callF0 g1 6 (by simp only [go_sem, frz, Rg.v]) ?_
  simp only [go_sem]
theorem chk2 : Ans Try.prog n_cathode_Check [kC.v (.view ([{ kB0 with frm := 5 }, kB1].map Bd.v))] [] (.int .i64 11) [] := by
  have g1 := checkRanges_ok 1000000 [⟨0, 0⟩, ⟨500000, 500000⟩] (by simp only [List.mem_cons, List.not_mem_nil, or_false]; rintro r (rfl | rfl) <;> exact rgin (by decide)) (by simp)
  refine spec_run e_cathode_Check fun G => ?_
  simp only [go_sem, Ct.v, Ct.cs, kC]
  refine cP (within_yes (by decide)) ?_
  simp only [go_sem]
  refine cP (within_yes (by decide)) ?_
  simp only [go_sem]
  refine callF0 g1 6 (by simp only [go_sem, frz, Rg.v]) ?_
  simp only [go_sem, kB0, kB1, Bd.v, Bd.cs]
  refine loop_body 200 k_cathode_Check_r21.eq_1 ?_
  simp only [go_sem]
  refine cP (within_yes (by decide)) ?_
  simp only [go_sem, Int.reduceBNe, Int.reduceBEq]
theorem chkR : Ans Try.prog n_cathode_checkRanges [.int .i64 1000000, .view ([⟨2, 1⟩, ⟨500000, 500000⟩].map Rg.v)] [] (.int .i64 11) [] := by
  refine spec_run e_cathode_checkRanges fun G => ?_
  simp only [go_sem, Rg.v]
  refine loop_body 200 k_cathode_checkRanges_r9.eq_1 ?_
  simp only [go_sem]
  refine cP (within_yes (by decide)) ?_
  simp only [go_sem]
  refine cP (within_yes (by decide)) ?_
  simp only [go_sem]
theorem chk3 : Ans Try.prog n_cathode_Check [({ kC with aid := ⟨2, 1⟩ } : Ct).v (.view (kC.bands.map Bd.v))] [] (.int .i64 11) [] := by
  refine spec_run e_cathode_Check fun G => ?_
  simp only [go_sem, Ct.v, Ct.cs, kC]
  refine cP (within_yes (by decide)) ?_
  simp only [go_sem]
  refine cP (within_yes (by decide)) ?_
  simp only [go_sem]
  refine callF0 chkR 6 (by simp only [go_sem, frz, Rg.v]) ?_
  simp only [go_sem, Int.reduceBNe, Int.reduceBEq]

def kF : Cg := fresh kC
theorem k_after : after kC kF 300 0 = kF := by decide
theorem k_tickN : ∀ n : Nat, tickN kC 300 0 n kF = kF
  | 0 => rfl
  | n + 1 => by rw [tickN, k_tickN n]; exact k_after
theorem lifeN_all {f : Nat → Int} {least : Int} (h : ∀ j, least ≤ f j) : ∀ N k : Nat, lifeN f least N k = N + k
  | 0, k => by simp [lifeN]
  | N + 1, k => by
    rw [lifeN, if_pos (h _), lifeN_all h N (k + 1)]; omega
theorem k_warm : after kC kF 1100 0 = { kF with heat := 700 } := by decide
def kX1 : Cg := ⟨⟨512, 729⟩, ⟨217, 486⟩, ⟨26, 56⟩, ⟨0, 1⟩, ⟨64, 162⟩, ⟨3, 6⟩, 1100⟩
theorem k_follow : (follow kC [⟨2, 1100, 0⟩, ⟨2, 1100, 0⟩])[1]? = some kX1 := by decide
theorem k_emit : parts kX1.ba kC.yld = ⟨13, 28⟩ := by decide
end Go.Proofs
