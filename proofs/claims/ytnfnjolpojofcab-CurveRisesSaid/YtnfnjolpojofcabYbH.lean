/- CurveRises. -/
import Derived.Test.YtnfnjolpojofcabYbG
import Derived.Test.YtnfnjolpojofcabYbXk
namespace Go.Proofs
open Go Go.Sx

section
variable {P : Program} {G : Ctx} {g : FuncId} {args : List AVal} {H : Heap} {r : AVal} {k : Nat} {rd : Option Nat} {R : Runner} {l : List AOper} {fs : List Sx.Frame} {ρ : List AVal} {ms : List Nat} {Q : Goal} {dst : Option Nat} {x x' : Row} {j : Nat}
/-- A call that hands back a pointer to a new row. -/
theorem callN1 (h : Ans P g args [] (.ptr 0 0 0 1) [some x]) (hb : Bels (fun _ => False) args) (hx : x.bel (fun _ => False)) (hk : k ≤ H.length) (hms : ∀ q ∈ ms, H[q]? = some (some .dfr))
    (hK : R (.ops l) fs ⟨setD ρ dst (.ptr H.length 0 0 1), H ++ [some x], ms⟩ Q) : CallR P G k R g args dst l fs ρ H ms Q := by
  have e : outΔ (outσ [] H.length) 0 [some x] = [(H.length, x)] := by
    simp only [outΔ, Row.ren_same hx]
    rfl
  refine callS h [] (by simp) trivial (by
    conv => lhs; rw [← List.map_id args]
    exact List.map_congr_left fun v hv => (ren_same (bels_mem hb v hv)).symm) (bels_of fun v hv => (bels_mem hb v hv).mono fun _ h => h.elim) trivial (by simp) (by rw [bel_ptr]; simp)
    ⟨bel_mono_row hx fun _ h => h.elim, trivial⟩ (fun q hq => by simp at hq) hk (fun q hq => ?_) ?_
  · refine ⟨?_, hms q hq⟩
    rw [e]
    have := (List.getElem?_eq_some_iff.1 (hms q hq)).1
    simp; omega
  · rw [e]
    simp only [Heap.puts, Heap.put_end]
    exact hK
end

def lawW (xs : List Int) : Int := feed (IntKind.u64.wrap (IntKind.u64.wrap xs.length + 1374496523)) xs

set_option maxRecDepth 20000 in
theorem rises_ok (xs : List Int) (hl : xs.length ≤ 9223372036854775807) (a b c : Int) : Ans Try.prog n_law02_CurveRises [.view (xs.map (.int .i64)), .int .i64 a, .int .i64 b, .int .i64 c] [] (.bool true) [] := by
  have hd := newdice_ok xs hl
  have hm1 := mod_pos a 20000 (by decide)
  have hm2 := mod_pos b 400000 (by decide)
  have hm3 := mod_pos c 3000 (by decide)
  have hr := roots_ok b a
  have ha : 0 ≤ a % 20000 ∧ a % 20000 < 20000 := by omega
  have hb : 0 ≤ b % 400000 ∧ b % 400000 < 400000 := by omega
  have hc : 0 ≤ c % 3000 ∧ c % 3000 < 3000 := by omega
  generalize a % 20000 = g0 at *
  generalize b % 400000 = p at *
  generalize c % 3000 = y at *
  generalize hw : feed (IntKind.u64.wrap (IntKind.u64.wrap xs.length + 1374496523)) xs = w at *
  have hlaw := lawof_ok w
  have hin := lawOf_in w
  generalize lawOf w = l at *
  generalize hg : g0 - 10000 = g at *
  have v1 : IntKind.i64.wrap g = g := IntWalk.i64_in _ (by omega)
  have v2 : IntKind.i64.wrap (g + y) = g + y := IntWalk.i64_in _ (by omega)
  have v3 : IntKind.i64.wrap (p + y) = p + y := IntWalk.i64_in _ (by omega)
  have c1 := Current_ok l hin g p (by omega) (by omega)
  have c2 := Current_ok l hin (g + y) p (by omega) (by omega)
  have c3 := Current_ok l hin g (p + y) (by omega) (by omega)
  obtain ⟨r1, r2, r3, r4, r5⟩ := rises hin (g := g) (p := p) (b := y) hb.1 hc.1
  generalize curOf l g p = x1 at *
  generalize curOf l (g + y) p = x2 at *
  generalize curOf l g (p + y) = x3 at *
  refine spec_run e_law02_CurveRises fun G => ?_
  simp only [go_sem]
  refine callP hr ⟨.int _ _, .int _ _, trivial⟩ (.bool _) (by simp) (by simp) ?_
  simp only [go_sem]
  refine callN1 hd ⟨by rw [bel_view]; exact bels_map _ _ fun _ => .int _ _, trivial⟩ (dr_bel _ _) (by simp) (by simp) ?_
  simp only [go_sem]
  refine callD hlaw rfl trivial (lw_bel _ _) (dr_bel _ _) (dr_bel _ _) (by simp) (by simp) ?_
  simp only [go_sem, Lw.v, Lw.cs]
  refine callP hm1 ⟨.int _ _, .int _ _, trivial⟩ (.int _ _) (by simp) (by simp) ?_
  simp only [go_sem, hg, v1]
  refine callP hm2 ⟨.int _ _, .int _ _, trivial⟩ (.int _ _) (by simp) (by simp) ?_
  simp only [go_sem]
  refine callP hm3 ⟨.int _ _, .int _ _, trivial⟩ (.int _ _) (by simp) (by simp) ?_
  simp only [go_sem]
  refine callP c1 ⟨lw_bel l _, .int _ _, .int _ _, trivial⟩ ?_ (Nat.zero_le _) (fun q hq => by simp at hq) ?_
  · simp only [go_sem, Rg.v]
  simp only [go_sem, Rg.v, v2]
  refine callP c2 ⟨lw_bel l _, .int _ _, .int _ _, trivial⟩ ?_ (Nat.zero_le _) (fun q hq => by simp at hq) ?_
  · simp only [go_sem, Rg.v]
  simp only [go_sem, Rg.v, v3]
  refine callP c3 ⟨lw_bel l _, .int _ _, .int _ _, trivial⟩ ?_ (Nat.zero_le _) (fun q hq => by simp at hq) ?_
  · simp only [go_sem, Rg.v]
  simp only [go_sem, Rg.v, r1, r2, r3, r4, r5]
  refine callP awake_ok trivial (.bool _) (Nat.zero_le _) (fun q hq => by simp at hq) ?_
  simp only [go_sem]
end Go.Proofs
