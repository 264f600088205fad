/- A part of the proof. -/
import Derived.Test.YtgjcjehpfjeomaaDoorPC
set_option linter.unusedSimpArgs false
set_option linter.unusedVariables false
namespace Go.Proofs
open Go Go.Sx
attribute [local irreducible] Run

theorem idx_next {i n : Nat} (h : i < n) (hn : n ≤ 9223372036854775807) : IntKind.i64.wrap ((i : Int) + 1) = ((i + 1 : Nat) : Int) := by rw [IntWalk.i64_in _ (by omega)]; rfl
theorem nat_rem (a b : Nat) : (a : Int).tmod (b : Int) = ((a % b : Nat) : Int) := by simp [Int.tmod_eq_emod_of_nonneg]
theorem nat_quo (a b : Nat) : (a : Int).tdiv (b : Int) = ((a / b : Nat) : Int) := by simp [Int.tdiv_eq_ediv_of_nonneg]

def vw (l : List Int) : AVal := .view (l.map (.int .i64))
def Pl.c4 (p : Pl) (c : AVal) : List AVal := [.int .i64 p.w, .int .i64 p.h, .bool p.rd, c]
def Pl.a (p : Pl) (c : AVal) : AVal := .agg (p.c4 c)
def Pl.v (p : Pl) : AVal := p.a (vw p.cs)
@[go_sem] theorem vw_bel (l : List Int) (S : Nat → Prop) : Bel S (vw l) = True := by unfold vw; simp only [go_sem]
@[go_sem] theorem plv_bel (p : Pl) (S : Nat → Prop) : Bel S p.v = True := by unfold Pl.v Pl.a Pl.c4; simp only [go_sem]

theorem within_ok (n a b : Int) : Ans Tryd.prog n_field_within [.int .i64 n, .int .i64 a, .int .i64 b] [] (.bool (decide (a ≤ n) && decide (n ≤ b))) [] := by
  refine spec_run e_field_within fun G => ?_
  simp only [go_sem]
  refine ⟨fun h => ?_, fun h => ?_⟩ <;> simp [h]
theorem within_yes {n a b : Int} (h : a ≤ n ∧ n ≤ b) : Ans Tryd.prog n_field_within [.int .i64 n, .int .i64 a, .int .i64 b] [] (.bool true) [] := by
  have := within_ok n a b
  rwa [show (decide (a ≤ n) && decide (n ≤ b)) = true by simp [h]] at this
theorem within_no {n a b : Int} (h : ¬ (a ≤ n ∧ n ≤ b)) : Ans Tryd.prog n_field_within [.int .i64 n, .int .i64 a, .int .i64 b] [] (.bool false) [] := by
  have := within_ok n a b
  rwa [show (decide (a ≤ n) && decide (n ≤ b)) = false by simpa using h] at this

theorem beside_ok (p : Pl) (x : Nat) (hx : x ≤ 15) : Ans Tryd.prog n_field_beside [p.v, .int .i64 x] [] (.int .i64 (besW p.rd x)) [] := by
  have e1 : IntKind.i64.wrap ((x : Int) + 1) = (x : Int) + 1 := w64 (by omega)
  have e2 : IntKind.i64.wrap (2 * ((x : Int) + 1)) = 2 * ((x : Int) + 1) := w64 (by omega)
  refine spec_run e_field_beside fun G => ?_
  unfold besW
  cases h : p.rd <;> simp only [go_sem, Pl.v, Pl.a, Pl.c4, h, e1, e2]
theorem above_ok (p : Pl) (x : Nat) (hx : x ≤ 15) : Ans Tryd.prog n_field_above [p.v, .int .i64 x] [] (.int .i64 (abvW p.rd x)) [] := by
  have e1 : IntKind.i64.wrap (2 * (x : Int)) = 2 * (x : Int) := w64 (by omega)
  have e2 : IntKind.i64.wrap (2 * (x : Int) + 1) = 2 * (x : Int) + 1 := w64 (by omega)
  refine spec_run e_field_above fun G => ?_
  unfold abvW
  cases h : p.rd <;> simp only [go_sem, Pl.v, Pl.a, Pl.c4, h, e1, e2]

theorem neighbours_ok (p : Pl) (i : Int) : Ans Tryd.prog n_field_neighbours [p.v, .int .i64 i] [] (.fn (.func n_field_neighbours_1) [] [.ptr 1 0 0 1, .ptr 0 0 0 1]) [some (.cells false 4 [p.v]), some (.cells false 1 [.int .i64 i])] := by
  refine spec_run e_field_neighbours fun G => ?_
  simp only [go_sem, Pl.v, Pl.a, Pl.c4]
  exact ⟨_, rfl⟩
end Go.Proofs

namespace Go.Proofs
open Go Go.Sx

section
variable {P : Program} {G : Ctx} {k : Nat} {rd : Option Nat} {fs : List Sx.Frame} {Q : Sx.Goal}
theorem run0_code {c : ACode} {ρ ρ' : List AVal} {H : Heap} {ms : List Nat} (hw : Wk ρ ρ') (h : AW P G k rd c (Sx.Fin P G k rd fs Q) ⟨ρ', H, ms⟩) : Sx.Run P G k rd 0 (.code c) fs ⟨ρ, H, ms⟩ Q := aw_less (less_wk hw) h
theorem run0_out {e : Exit} {s : St} (h : Sx.Fin P G k rd fs Q e s) : Sx.Run P G k rd 0 (.out e) fs s Q := h
end
attribute [local irreducible] Run

structure NbBody (G : Ctx) (p : Pl) (i r jc jp N : Nat) (Pre : Nat → Heap → Prop) (Stop : Heap → Prop) : Prop where
  row : ∀ k H, Pre k H → N ≤ H.length ∧ H[jc]? = some (some (.cells false 1 [.int .i64 i])) ∧ H[jp]? = some (some (.cells false 4 [p.v]))
  round : ∀ k q H, (nbs p i)[k]? = some q → Pre k H → RoundW Tryd.prog G r [.int .i64 (q.1 : Int), .int .i64 q.2] H fun v H' => (v = .bool true ∧ Pre (k + 1) H') ∨ (v = .bool false ∧ Stop H')

def nbC4 : ACode := .seq (.reg k_field_neighbours_1_r4 false) (.cond (.tmp 60) (.reg k_field_neighbours_1_r5 true) .skip)
def nbC3 : ACode := .seq (.seq (.reg k_field_neighbours_1_r3 true) (.cond (.tmp 55) .ret .skip)) nbC4
def nbC2 : ACode := .seq (.seq (.reg k_field_neighbours_1_r2 true) (.cond (.tmp 41) .ret .skip)) nbC3
def nbC1 : ACode := .seq (.seq (.reg k_field_neighbours_1_r1 true) (.cond (.tmp 26) .ret .skip)) nbC2
def nbT (r jc jp x y : Nat) : List AVal := tsets 70 [(0, .yfn r), (1, .ptr jc 0 0 1), (2, .ptr jp 0 0 1), (4, .int .i64 x), (5, .int .i64 y)]

section
variable {G : Ctx} {p : Pl} (hp : PlOK p) {i x y : Nat} (hx : x < p.w) (hy : y < p.h) (hi : y * p.w + x = i) {r jc jp N : Nat} {Pre : Nat → Heap → Prop} {Stop : Heap → Prop} (hB : NbBody G p i r jc jp N Pre Stop)
def nbQ (Pre : Nat → Heap → Prop) (Stop : Heap → Prop) (n : Nat) : AVal → Heap → Prop := fun v H' => v = .tup [] ∧ (Pre n H' ∨ Stop H')
include hp hx hy hi hB

set_option maxHeartbeats 4000000 in
set_option maxRecDepth 10000 in
theorem nb_c4 {k : Nat} {H : Heap} (hk : k + (if y + 1 < p.h then 1 else 0) = (nbs p i).length) (hq : y + 1 < p.h → (nbs p i)[k]? = some (i + p.w, abvW p.rd x)) (hP : Pre k H) :
    AW Tryd.prog G N none nbC4 (RetPost [] (nbQ Pre Stop (nbs p i).length)) ⟨nbT r jc jp x y, H, []⟩ := by
  obtain ⟨hN, hc, hpl⟩ := hB.row k H hP
  have hw := hp.w
  have hh := hp.h
  have hil : i < 256 := by have := cell_in hx hy; have := Nat.mul_le_mul hw.2 hh.2; omega
  refine run_aw 3000 ?_
  have w1 : IntKind.i64.wrap ((p.h : Int) - 1) = ((p.h - 1 : Nat) : Int) := by rw [w64 (by omega)]; omega
  have w2 : IntKind.i64.wrap ((i : Int) + p.w) = ((i + p.w : Nat) : Int) := by rw [w64 (by omega)]; omega
  simp only [go_sem, nbC4, nbT, cells_at hc, cells_at hpl, Pl.v, Pl.a, Pl.c4, w1, w2]
  by_cases h1 : y + 1 < p.h
  · have h2 : (y : Int) < ((p.h - 1 : Nat) : Int) := by omega
    rw [if_pos h1] at hk
    have hr := hB.round k _ H (hq h1) hP
    simp only [go_sem, h2, cells_at hc, cells_at hpl, Pl.v, Pl.a, Pl.c4, w2]
    refine dP (above_ok p x (by omega)) ?_
    simp only [go_sem]
    refine yieldR _ rfl rfl (by simp [go_sem]) (by simp [go_sem]) hN ?_
    refine hr.mono ?_
    rintro v H' (⟨rfl, q3⟩ | ⟨rfl, q3⟩)
    · refine ⟨fun q hq => by simp at hq, ?_⟩
      simp only [go_sem]
      exact ⟨rfl, .inl (by rw [← hk]; exact q3)⟩
    · refine ⟨fun q hq => by simp at hq, ?_⟩
      simp only [go_sem]
      exact ⟨rfl, .inr q3⟩
  · have h2 : ¬ (y : Int) < ((p.h - 1 : Nat) : Int) := by omega
    rw [if_neg h1] at hk
    simp only [go_sem, h2]
    exact ⟨rfl, .inl (by rw [← hk]; exact hP)⟩

set_option maxHeartbeats 4000000 in
set_option maxRecDepth 10000 in
theorem nb_c3 {k : Nat} {H : Heap} (hk : k + (if 0 < y then 1 else 0) + (if y + 1 < p.h then 1 else 0) = (nbs p i).length) (hq : 0 < y → (nbs p i)[k]? = some (i - p.w, abvW p.rd x)) (hq4 : y + 1 < p.h → (nbs p i)[k + (if 0 < y then 1 else 0)]? = some (i + p.w, abvW p.rd x)) (hP : Pre k H) :
    AW Tryd.prog G N none nbC3 (RetPost [] (nbQ Pre Stop (nbs p i).length)) ⟨nbT r jc jp x y, H, []⟩ := by
  obtain ⟨hN, hc, hpl⟩ := hB.row k H hP
  have hw := hp.w
  have hh := hp.h
  have hil : i < 256 := by have := cell_in hx hy; have := Nat.mul_le_mul hw.2 hh.2; omega
  refine run_aw 42 ?_
  by_cases h1 : 0 < y
  · have h2 : 0 < (y : Int) := by omega
    have hyw : p.w ≤ y * p.w := Nat.le_mul_of_pos_left _ h1
    have w2 : IntKind.i64.wrap ((i : Int) - p.w) = ((i - p.w : Nat) : Int) := by rw [w64 (by omega)]; omega
    simp only [if_pos h1] at hk hq4
    have hr := hB.round k _ H (hq h1) hP
    simp only [go_sem, nbC3, nbT, h2, cells_at hc, cells_at hpl, Pl.v, Pl.a, Pl.c4, w2]
    refine dP (above_ok p x (by omega)) ?_
    simp only [go_sem]
    refine yieldR _ rfl rfl (by simp [go_sem]) (by simp [go_sem]) hN ?_
    refine hr.mono ?_
    rintro v H' (⟨rfl, q3⟩ | ⟨rfl, q3⟩)
    · refine ⟨fun q hq => by simp at hq, ?_⟩
      simp only [go_sem]
      exact run0_code (ρ' := nbT r jc jp x y) (by simp [go_sem, nbT]) (nb_c4 hp hx hy hi hB hk hq4 q3)
    · refine ⟨fun q hq => by simp at hq, ?_⟩
      simp only [go_sem]
      refine run0_out ?_
      simp only [go_sem, Sx.Fin]
      exact ⟨rfl, .inr q3⟩
  · have h2 : ¬ 0 < (y : Int) := by omega
    simp only [if_neg h1, Nat.add_zero] at hk hq4
    simp only [go_sem, nbC3, nbT, h2, cells_at hc, cells_at hpl, Pl.v, Pl.a, Pl.c4]
    exact run0_code (ρ' := nbT r jc jp x y) (by simp [go_sem, nbT]) (nb_c4 hp hx hy hi hB hk hq4 hP)

set_option maxHeartbeats 4000000 in
set_option maxRecDepth 10000 in
theorem nb_c2 {k : Nat} {H : Heap} (hk : k + (if x + 1 < p.w then 1 else 0) + (if 0 < y then 1 else 0) + (if y + 1 < p.h then 1 else 0) = (nbs p i).length) (hq : x + 1 < p.w → (nbs p i)[k]? = some (i + 1, besW p.rd x)) (hq3 : 0 < y → (nbs p i)[k + (if x + 1 < p.w then 1 else 0)]? = some (i - p.w, abvW p.rd x)) (hq4 : y + 1 < p.h → (nbs p i)[k + (if x + 1 < p.w then 1 else 0) + (if 0 < y then 1 else 0)]? = some (i + p.w, abvW p.rd x)) (hP : Pre k H) :
    AW Tryd.prog G N none nbC2 (RetPost [] (nbQ Pre Stop (nbs p i).length)) ⟨nbT r jc jp x y, H, []⟩ := by
  obtain ⟨hN, hc, hpl⟩ := hB.row k H hP
  have hw := hp.w
  have hh := hp.h
  have hil : i < 256 := by have := cell_in hx hy; have := Nat.mul_le_mul hw.2 hh.2; omega
  have w0 : IntKind.i64.wrap ((p.w : Int) - 1) = ((p.w - 1 : Nat) : Int) := by rw [w64 (by omega)]; omega
  refine run_aw 42 ?_
  by_cases h1 : x + 1 < p.w
  · have h2 : (x : Int) < ((p.w - 1 : Nat) : Int) := by omega
    have w2 : IntKind.i64.wrap ((i : Int) + 1) = ((i + 1 : Nat) : Int) := by rw [w64 (by omega)]; omega
    simp only [if_pos h1] at hk hq3 hq4
    have hr := hB.round k _ H (hq h1) hP
    simp only [go_sem, nbC2, nbT, h2, cells_at hc, cells_at hpl, Pl.v, Pl.a, Pl.c4, w0, w2]
    refine dP (beside_ok p x (by omega)) ?_
    simp only [go_sem]
    refine yieldR _ rfl rfl (by simp [go_sem]) (by simp [go_sem]) hN ?_
    refine hr.mono ?_
    rintro v H' (⟨rfl, q3⟩ | ⟨rfl, q3⟩)
    · refine ⟨fun q hq => by simp at hq, ?_⟩
      simp only [go_sem]
      exact run0_code (ρ' := nbT r jc jp x y) (by simp [go_sem, nbT]) (nb_c3 hp hx hy hi hB hk hq3 hq4 q3)
    · refine ⟨fun q hq => by simp at hq, ?_⟩
      simp only [go_sem]
      refine run0_out ?_
      simp only [go_sem, Sx.Fin]
      exact ⟨rfl, .inr q3⟩
  · have h2 : ¬ (x : Int) < ((p.w - 1 : Nat) : Int) := by omega
    simp only [if_neg h1, Nat.add_zero] at hk hq3 hq4
    simp only [go_sem, nbC2, nbT, h2, cells_at hc, cells_at hpl, Pl.v, Pl.a, Pl.c4, w0]
    exact run0_code (ρ' := nbT r jc jp x y) (by simp [go_sem, nbT]) (nb_c3 hp hx hy hi hB hk hq3 hq4 hP)

set_option maxHeartbeats 4000000 in
set_option maxRecDepth 10000 in
theorem nb_c1 {k : Nat} {H : Heap} (hk : k + (if 0 < x then 1 else 0) + (if x + 1 < p.w then 1 else 0) + (if 0 < y then 1 else 0) + (if y + 1 < p.h then 1 else 0) = (nbs p i).length) (hq : 0 < x → (nbs p i)[k]? = some (i - 1, besW p.rd (x - 1))) (hq2 : x + 1 < p.w → (nbs p i)[k + (if 0 < x then 1 else 0)]? = some (i + 1, besW p.rd x)) (hq3 : 0 < y → (nbs p i)[k + (if 0 < x then 1 else 0) + (if x + 1 < p.w then 1 else 0)]? = some (i - p.w, abvW p.rd x)) (hq4 : y + 1 < p.h → (nbs p i)[k + (if 0 < x then 1 else 0) + (if x + 1 < p.w then 1 else 0) + (if 0 < y then 1 else 0)]? = some (i + p.w, abvW p.rd x)) (hP : Pre k H) :
    AW Tryd.prog G N none nbC1 (RetPost [] (nbQ Pre Stop (nbs p i).length)) ⟨nbT r jc jp x y, H, []⟩ := by
  obtain ⟨hN, hc, hpl⟩ := hB.row k H hP
  have hw := hp.w
  have hh := hp.h
  have hil : i < 256 := by have := cell_in hx hy; have := Nat.mul_le_mul hw.2 hh.2; omega
  refine run_aw 41 ?_
  by_cases h1 : 0 < x
  · have h2 : 0 < (x : Int) := by omega
    have w2 : IntKind.i64.wrap ((i : Int) - 1) = ((i - 1 : Nat) : Int) := by rw [w64 (by omega)]; omega
    have w3 : IntKind.i64.wrap ((x : Int) - 1) = ((x - 1 : Nat) : Int) := by rw [w64 (by omega)]; omega
    simp only [if_pos h1] at hk hq2 hq3 hq4
    have hr := hB.round k _ H (hq h1) hP
    simp only [go_sem, nbC1, nbT, h2, cells_at hc, cells_at hpl, Pl.v, Pl.a, Pl.c4, w2, w3]
    refine dP (beside_ok p (x - 1) (by omega)) ?_
    simp only [go_sem]
    refine yieldR _ rfl rfl (by simp [go_sem]) (by simp [go_sem]) hN ?_
    refine hr.mono ?_
    rintro v H' (⟨rfl, q3⟩ | ⟨rfl, q3⟩)
    · refine ⟨fun q hq => by simp at hq, ?_⟩
      simp only [go_sem]
      exact run0_code (ρ' := nbT r jc jp x y) (by simp [go_sem, nbT]) (nb_c2 hp hx hy hi hB hk hq2 hq3 hq4 q3)
    · refine ⟨fun q hq => by simp at hq, ?_⟩
      simp only [go_sem]
      refine run0_out ?_
      simp only [go_sem, Sx.Fin]
      exact ⟨rfl, .inr q3⟩
  · have h2 : ¬ 0 < (x : Int) := by omega
    simp only [if_neg h1, Nat.add_zero] at hk hq2 hq3 hq4
    simp only [go_sem, nbC1, nbT, h2, cells_at hc, cells_at hpl, Pl.v, Pl.a, Pl.c4]
    exact run0_code (ρ' := nbT r jc jp x y) (by simp [go_sem, nbT]) (nb_c2 hp hx hy hi hB hk hq2 hq3 hq4 hP)

end

theorem nbs_parts (p : Pl) {x y : Nat} (hx : x < p.w) :
    (0 + (if 0 < x then 1 else 0) + (if x + 1 < p.w then 1 else 0) + (if 0 < y then 1 else 0) + (if y + 1 < p.h then 1 else 0) = (nbs p (y * p.w + x)).length) ∧ (0 < x → (nbs p (y * p.w + x))[0]? = some (y * p.w + x - 1, besW p.rd (x - 1))) ∧
    (x + 1 < p.w → (nbs p (y * p.w + x))[0 + (if 0 < x then 1 else 0)]? = some (y * p.w + x + 1, besW p.rd x)) ∧ (0 < y → (nbs p (y * p.w + x))[0 + (if 0 < x then 1 else 0) + (if x + 1 < p.w then 1 else 0)]? = some (y * p.w + x - p.w, abvW p.rd x)) ∧
    (y + 1 < p.h → (nbs p (y * p.w + x))[0 + (if 0 < x then 1 else 0) + (if x + 1 < p.w then 1 else 0) + (if 0 < y then 1 else 0)]? = some (y * p.w + x + p.w, abvW p.rd x)) := by
  obtain ⟨e1, e2⟩ := cell_at (y := y) hx
  unfold nbs
  rw [e1, e2]
  refine ⟨?_, ?_, ?_, ?_, ?_⟩
  · split <;> split <;> split <;> split <;> simp
  · intro h; simp [h]
  · intro h; by_cases h0 : 0 < x <;> simp [h, h0]
  · intro h; by_cases h0 : 0 < x <;> by_cases h1 : x + 1 < p.w <;> simp [h, h0, h1]
  · intro h; by_cases h0 : 0 < x <;> by_cases h1 : x + 1 < p.w <;> by_cases h2 : 0 < y <;> simp [h, h0, h1, h2]

set_option maxHeartbeats 4000000 in
set_option maxRecDepth 10000 in
theorem nbs1_iter {G : Ctx} {p : Pl} (hp : PlOK p) {i : Nat} (hi : i < p.w * p.h) {r jc jp N : Nat} {Pre : Nat → Heap → Prop} {Stop : Heap → Prop} (hB : NbBody G p i r jc jp N Pre Stop) {H0 : Heap} (h0 : Pre 0 H0) (hN : H0.length = N) :
    CallW Tryd.prog G n_field_neighbours_1 [.yfn r, .ptr jc 0 0 1, .ptr jp 0 0 1] H0 fun v H' => v = .tup [] ∧ (Pre (nbs p i).length H' ∨ Stop H') := by
  obtain ⟨hx, hy, hxy⟩ := cell_lt hi
  obtain ⟨hN0, hc0, hp0⟩ := hB.row 0 H0 h0
  have hw := hp.w
  have hh := hp.h
  have hil : i < 256 := by have := Nat.mul_le_mul hw.2 hh.2; omega
  have e1 := nat_rem i p.w
  have e2 := nat_quo i p.w
  have hwz : ((p.w : Int) = 0) = False := eq_false (by omega)
  have hL := nbs_parts p (y := i / p.w) hx
  rw [hxy] at hL
  generalize i % p.w = x at *
  generalize i / p.w = y at *
  have e3 : IntKind.i64.wrap (y : Int) = y := w64 (by omega)
  obtain ⟨l0, l1, l2, l3, l4⟩ := hL
  refine callW_run 19 e_field_neighbours_1 ?_
  rw [show k_field_neighbours_1.body = .seq (.reg k_field_neighbours_1_r0 true) nbC1 from rfl]
  simp only [go_sem, cells_at hc0, cells_at hp0, Pl.v, Pl.a, Pl.c4, e1, e2, e3, hwz, hN]
  exact run0_code (ρ' := nbT r jc jp x y) (by simp [go_sem, nbT]) (nb_c1 hp hx hy hxy hB l0 l1 l2 l3 l4 h0)
end Go.Proofs

namespace Go.Proofs
open Go Go.Sx
attribute [local irreducible] Run

section
variable {P : Program} {G : Ctx} {k : Nat} {rd : Option Nat} {R : Runner} {l : List AOper} {fs : List Sx.Frame} {ρ : List AVal} {H : Heap} {ms : List Nat} {Q : Sx.Goal} {dst : Option Nat} {x y : Row} {g : FuncId} {args : List AVal} {r : AVal}
theorem cN2 (h : Ans P g args [] r [some x, some y]) (hK : R (.ops l) fs ⟨setD ρ dst (ren (fun i => H.length + i) r), H ++ [some x, some y], ms⟩ Q)
    (hb : Bels (fun _ => False) args := by simp only [go_sem]) (hr : Bel (· < 2) r := by simp [go_sem]) (hx : x.bel (fun _ => False) := by first | (simp only [go_sem]; done) | (rw [row_bel_cells]; simp only [go_sem])) (hy : y.bel (fun _ => False) := by first | (simp only [go_sem]; done) | (rw [row_bel_cells]; simp only [go_sem])) (hk : k ≤ H.length := by simp) (hms : ∀ q ∈ ms, H[q]? = some (some .dfr) := by simp) : CallR P G k R g args dst l fs ρ H ms Q := by
  have e : outΔ (outσ [] H.length) 0 [some x, some y] = [(H.length, x), (H.length + 1, y)] := by
    simp only [outΔ, Row.ren_same hx, Row.ren_same hy]
    rfl
  have eσ : outσ [] H.length = fun i => H.length + i := by funext i; simp [outσ]
  refine callS h [] (by simp) trivial (by
    conv => lhs; rw [← List.map_id args]
    exact List.map_congr_left fun v hv => (ren_same (bels_mem hb v hv)).symm) (bels_of fun v hv => (bels_mem hb v hv).mono fun _ h => h.elim) trivial (by simp) (by simpa using hr)
    ⟨bel_mono_row hx fun _ h => h.elim, bel_mono_row hy fun _ h => h.elim, trivial⟩ (fun q hq => by simp at hq) hk (fun q hq => ?_) ?_
  · refine ⟨?_, hms q hq⟩
    rw [e]
    have := (List.getElem?_eq_some_iff.1 (hms q hq)).1
    simp; omega
  · rw [e, eσ]
    have e3 : Heap.put (H ++ [some x]) (H.length + 1) y = H ++ [some x, some y] := by
      have := Heap.put_end (H ++ [some x]) y
      simpa using this
    simp only [Heap.puts, Heap.put_end, e3]
    exact hK
end

structure AtOK (p : Pl) (a : List Int) : Prop where
  len : a.length = p.w * p.h
  bd : ∀ i, i < p.w * p.h → -1000000 ≤ gt a i ∧ gt a i ≤ 1000000

end Go.Proofs

namespace Go.Proofs
open Go Go.Sx
attribute [local irreducible] Run

def mxL (a : Int) : List Int → Int
  | [] => a
  | c :: cs => mxL (if c > a then c else a) cs
theorem mxL_ge : ∀ (l : List Int) (a : Int), a ≤ mxL a l ∧ ∀ c ∈ l, c ≤ mxL a l
  | [], a => ⟨Int.le_refl _, fun c hc => by simp at hc⟩
  | c :: l, a => by
    obtain ⟨h1, h2⟩ := mxL_ge l (if c > a then c else a)
    rw [mxL]
    have h3 : a ≤ (if c > a then c else a) ∧ c ≤ (if c > a then c else a) := by split <;> omega
    refine ⟨by omega, fun d hd => ?_⟩
    rcases List.mem_cons.1 hd with rfl | hd
    · omega
    · exact h2 d hd
theorem mxL_le : ∀ (l : List Int) (a b : Int), a ≤ b → (∀ c ∈ l, c ≤ b) → mxL a l ≤ b
  | [], a, b, h, _ => h
  | c :: l, a, b, h, h' => by
    rw [mxL]
    exact mxL_le l _ b (by have := h' c (by simp); split <;> omega) fun d hd => h' d (by simp [hd])
def gmax (l : List Int) : Int := mxL 0 l
theorem gmax_cons {c : Int} {l : List Int} (h : 0 ≤ c) : gmax (c :: l) = mxL c l := by
  unfold gmax
  rw [mxL]
  congr 1
  split <;> omega

theorem drop_step {l : List Int} {i : Nat} (h : i < l.length) : l.drop i = gt l i :: l.drop (i + 1) := by
  rw [List.drop_eq_getElem_cons h]
  congr 1
  unfold gt
  rw [List.getD_eq_getElem?_getD, List.getElem?_eq_getElem h]; rfl
theorem drop_end {l : List Int} {i : Nat} (h : l.length ≤ i) : l.drop i = [] := List.drop_of_length_le h

theorem max_ok {l : List Int} (hl : l ≠ []) (h0 : ∀ c ∈ l, 0 ≤ c) (hlen : l.length ≤ 1000000) : Ans Tryd.prog n_slices_Max_int_int [vw l] [] (.int .i64 (gmax l)) [] := by
  obtain ⟨c, cs, rfl⟩ := List.exists_cons_of_ne_nil hl
  generalize hRES : gmax (c :: cs) = RES
  rw [gmax_cons (h0 c (by simp))] at hRES
  refine spec_run e_slices_Max_int_int fun G => ?_
  have g1 : ¬ (((cs.length + 1 : Nat) : Int) < 1) := by omega
  have g2 : (0 : Int) < ((cs.length + 1 : Nat) : Int) := by omega
  simp only [go_sem, vw, List.length_map, List.length_cons, List.map_cons, g1, g2]
  refine loop_ind k_slices_Max_int_int_r8.eq_1 (fun a : Nat × Int × Heap => 1 ≤ a.1 ∧ a.1 ≤ cs.length + 1 ∧ mxL a.2.1 ((c :: cs).drop a.1) = RES) (fun a => cs.length + 1 - a.1)
    (fun a => (tsets 25 [(0, vw (c :: cs)), (3, .int .i64 a.2.1), (4, .int .i64 a.1)], a.2.2)) (1, c, []) ⟨Nat.le_refl _, by omega, hRES⟩ (by simp [go_sem, vw]) rfl ?_
  rintro ⟨i, m, X⟩ ⟨hi0, hi, hm⟩ ih
  dsimp only at hi0 hi hm ih ⊢
  by_cases h1 : i < cs.length + 1
  · have h2 : (i : Int) < ((cs.length + 1 : Nat) : Int) := by omega
    have h3 := idx_next h1 (by simp at hlen; omega)
    have n0 : ¬ (i : Int) < 0 := by omega
    have hlt : i < (c :: cs).length := by simpa using h1
    have hx := gt_get hlt
    rw [drop_step hlt, mxL] at hm
    generalize gt (c :: cs) i = z at *
    have hx2 : (List.map (AVal.int IntKind.i64) (c :: cs))[i]? = some (.int .i64 z) := by rw [List.getElem?_map, hx]; rfl
    simp only [List.map_cons] at hx2
    simp only [go_sem, vw, List.length_map, List.length_cons, List.map_cons, h2, n0, hx2, h3]
    exact ih (i + 1, _, _) (by dsimp only; omega) ⟨by omega, h1, hm⟩ _ (by simp [go_sem, vw]; rfl)
  · have h2 : ¬ (i : Int) < ((cs.length + 1 : Nat) : Int) := by omega
    rw [drop_end (by simp; omega)] at hm
    simp only [go_sem, vw, List.length_map, List.length_cons, List.map_cons, h2]
    rw [← hm]; rfl

end Go.Proofs

namespace Go.Proofs
open Go Go.Sx
attribute [local irreducible] Run

def iv (l : List Int) : List AVal := l.map (.int .i64)
theorem iv_len (l : List Int) : (iv l).length = l.length := by simp [iv]
theorem iv_set (l : List Int) (i : Nat) (x : Int) : (iv l).set i (.int .i64 x) = iv (l.set i x) := by simp [iv, List.map_set]
theorem iv_get {l : List Int} {i : Nat} (h : i < l.length) : (iv l)[i]? = some (.int .i64 (gt l i)) := by simp [iv, gt_get h]
theorem iv_bel (l : List Int) (S : Nat → Prop) : Bels S (iv l) := by unfold iv; simp only [go_sem]
theorem iv_row (g : Bool) (l : List Int) (S : Nat → Prop) : (Row.cells g 1 (iv l)).bel S := by rw [row_bel_cells]; exact iv_bel l S
theorem iv_frz (d : Nat) (H : Heap) (l : List Int) : (iv l).map (frz (d + 1) H) = iv l := by
  unfold iv; rw [List.map_map]
  rfl
theorem iv_frz_sl {H : Heap} {j d n : Nat} {g : Bool} {l : List Int} (h : H[j]? = some (some (.cells g 1 (iv l)))) (hn : n = l.length) : frz (d + 2) H (.sl j 0 n) = vw l := by
  rw [frz_sl h (by rw [iv_len]; exact hn), iv_frz]; rfl
theorem pla_frz (d : Nat) {H : Heap} {j n : Nat} {g : Bool} {p : Pl} (h : H[j]? = some (some (.cells g 1 (iv p.cs)))) (hn : n = p.cs.length) : frz (d + 3) H (p.a (.sl j 0 n)) = p.v := by
  show AVal.agg [_, _, _, frz (d + 2) H (.sl j 0 n)] = _
  rw [iv_frz_sl h hn]; rfl

section
variable {P : Program} {G : Ctx} {g : FuncId} {args largs : List AVal} {H : Heap} {k : Nat} {rd : Option Nat} {R : Runner} {l : List AOper} {fs : List Sx.Frame} {ρ : List AVal} {ms : List Nat} {Q : Sx.Goal} {ao : AOper} {lo hi : Nat} {tr : List (List Nat × List Nat)} {ss : List (List AOper)} {dst : Option Nat}
end

end Go.Proofs

namespace Go.Proofs
open Go Go.Sx
attribute [local irreducible] Run

end Go.Proofs

namespace Go.Proofs
open Go Go.Sx
attribute [local irreducible] Run

theorem LowOK.at {p : Pl} {v a : List Int} (hv : VOK v) (h : LowOK p v a) : AtOK p a := ⟨h.len, fun i hi => by
  have := h.bd i hi
  have := endL_in hv p
  have := endM_in hv p
  omega⟩
theorem HighOK.at {p : Pl} {v a : List Int} (hv : VOK v) (h : HighOK p v a) : AtOK p a := ⟨h.len, fun i hi => by
  have := h.bd i hi
  have := endL_in hv p
  have := endM_in hv p
  omega⟩
end Go.Proofs

namespace Go.Proofs
open Go Go.Sx
attribute [local irreducible] Run

section
variable {P : Program} {G : Ctx} {k : Nat} {rd : Option Nat} {fs : List Sx.Frame} {Q : Sx.Goal}
theorem loop_indM {α : Type} {c c' : ACode} (hc : c = c') (Inv : α → Prop) (μ : α → Nat) (st : α → List AVal × Heap × List Nat) {ρ : List AVal} {H : Heap} {ms : List Nat} (a0 : α) (h0 : Inv a0) (hw : Wk ρ (st a0).1) (hH : H = (st a0).2.1) (hm : ms = (st a0).2.2)
    (step : ∀ a, Inv a → (∀ b, μ b < μ a → Inv b → ∀ ρ', Wk ρ' (st b).1 → Sx.Loop P G k rd c fs ⟨ρ', (st b).2.1, (st b).2.2⟩ Q) → Run P G k rd 3000 (.code c') (.rnd c :: fs) ⟨(st a).1, (st a).2.1, (st a).2.2⟩ Q) : Sx.Loop P G k rd c fs ⟨ρ, H, ms⟩ Q := by
  have key : ∀ (n : Nat) (a : α), μ a = n → Inv a → ∀ ρ', Wk ρ' (st a).1 → Sx.Loop P G k rd c fs ⟨ρ', (st a).2.1, (st a).2.2⟩ Q := by
    intro n
    induction n using Nat.strongRecOn with
    | ind n ih =>
      intro a ha hi ρ' hw
      exact loop_wk hw (loop_body 3000 hc (step a hi fun b hb hib ρ'' hw'' => ih (μ b) (by omega) b rfl hib ρ'' hw''))
  subst hH
  subst hm
  exact key _ a0 rfl h0 ρ hw
end

structure LoOK (p : Pl) (bs : List Bool) (es : List Nat) : Prop where
  len : bs.length = 256
  mem : ∀ c ∈ es, c < p.w * p.h
  iff : ∀ c, bs.getD c false = true ↔ c ∈ es
  cnt : es.length = bs.count true

theorem getD_set (bs : List Bool) (c d : Nat) (h : c < bs.length) : (bs.set c true).getD d false = if d = c then true else bs.getD d false := by
  rw [List.getD_eq_getElem?_getD, List.getD_eq_getElem?_getD]
  by_cases e : d = c
  · subst e; rw [List.getElem?_set_self h]; simp
  · rw [List.getElem?_set_ne (by omega)]; simp [e]

theorem LoOK.add {p : Pl} (hp : PlOK p) {bs : List Bool} {es : List Nat} (h : LoOK p bs es) {c : Nat} (hc : c < p.w * p.h) (hb : bs.getD c false = false) : LoOK p (bs.set c true) (es ++ [c]) := by
  have hN : p.w * p.h ≤ 256 := Nat.mul_le_mul hp.w.2 hp.h.2
  have hcl : c < bs.length := by rw [h.len]; omega
  refine ⟨by simp [h.len], fun d hd => ?_, fun d => ?_, ?_⟩
  · rcases List.mem_append.1 hd with hd | hd
    · exact h.mem d hd
    · simp at hd; subst hd; exact hc
  · rw [getD_set _ _ _ hcl, List.mem_append, ← h.iff d]
    by_cases e : d = c <;> simp [e]
  · have hg : bs[c] = false := by
      rw [List.getD_eq_getElem?_getD, List.getElem?_eq_getElem hcl] at hb; exact hb
    rw [List.count_set hcl, hg, List.length_append, h.cnt]
    simp
theorem LoOK.le {p : Pl} {bs : List Bool} {es : List Nat} (h : LoOK p bs es) : es.length ≤ 256 := by
  rw [h.cnt, ← h.len]; exact List.count_le_length
theorem LoOK.full {p : Pl} (hp : PlOK p) {bs : List Bool} {es : List Nat} (h : LoOK p bs es) (hall : ∀ c, c < p.w * p.h → c ∈ es) : p.w * p.h ≤ es.length := by
  have hN : p.w * p.h ≤ 256 := Nat.mul_le_mul hp.w.2 hp.h.2
  rw [h.cnt]
  have e : bs = bs.take (p.w * p.h) ++ bs.drop (p.w * p.h) := (List.take_append_drop _ _).symm
  rw [e, List.count_append]
  have h1 : (bs.take (p.w * p.h)).count true = (bs.take (p.w * p.h)).length := by
    rw [List.count_eq_length]
    intro b hb
    obtain ⟨i, hi, rfl⟩ := List.mem_iff_getElem.1 hb
    rw [List.length_take] at hi
    have := (h.iff i).2 (hall i (by omega))
    rw [List.getD_eq_getElem?_getD, List.getElem?_eq_getElem (by omega)] at this
    rw [List.getElem_take]
    exact this.symm
  rw [h1, List.length_take, h.len]
  omega

def bv (bs : List Bool) : List AVal := bs.map .bool
def nv' (es : List Nat) : List AVal := List.map (fun c : Nat => AVal.int .i64 (c : Int)) es
theorem bv_set {bs : List Bool} {c : Nat} (h : c < bs.length) : (bv bs).take c ++ AVal.bool true :: (bv bs).drop (c + 1) = bv (bs.set c true) := by
  unfold bv
  rw [List.map_set, List.set_eq_take_append_cons_drop, if_pos (by simpa using h)]
theorem bv_get {bs : List Bool} {c : Nat} (h : c < bs.length) : (bv bs)[c]? = some (.bool (bs.getD c false)) := by
  simp [bv, List.getD_eq_getElem?_getD, List.getElem?_eq_getElem h]
theorem bv_len (bs : List Bool) : (bv bs).length = bs.length := by simp [bv]
theorem nv_len (es : List Nat) : (nv' es).length = es.length := by simp [nv']
theorem nv_get {es : List Nat} {i : Nat} (h : i < es.length) : (nv' es)[i]? = some (.int .i64 (es[i] : Int)) := by simp [nv', h]
theorem nv_app (es : List Nat) (c : Nat) : nv' es ++ [.int .i64 (c : Int)] = nv' (es ++ [c]) := by simp [nv']

def loF (p : Pl) (bs : List Bool) (es : List Nat) (g : Option Row) : Heap :=
  [some (.cells false 4 [p.v]), some (.cells false 256 [.agg (bv bs)]), some (.cells false 1 [.sl 4 0 es.length]), g, some (.cells true 1 (nv' es))]
def loI (p : Pl) (bs : List Bool) : Heap :=
  [some (.cells false 4 [p.v]), some (.cells false 256 [.agg (bv bs)]), some (.cells false 1 [.nilsl])]

def LoA (p : Pl) (i : Nat) (bs : List Bool) (es : List Nat) (H : Heap) : Prop :=
  LoOK p bs es ∧ (∀ c, c < i → p.el c → c ∈ es) ∧ (∀ c ∈ es, c < i) ∧ ((es = [] ∧ H = loI p bs) ∨ (es ≠ [] ∧ ∃ g X, H = loF p bs es g ++ X))

def loH (p : Pl) (bs : List Bool) (es : List Nat) (g : Option Row) (X T Y : Heap) : Heap := loF p bs es g ++ (X ++ (T ++ Y))
theorem loH_get (p : Pl) (bs : List Bool) (es : List Nat) (g : Option Row) (X T Y : Heap) {j : Nat} (hj : j < T.length) : (loH p bs es g X T Y)[X.length + 5 + j]? = T[j]? := by
  unfold loH
  rw [List.getElem?_append_right (by simp [loF]; omega), List.getElem?_append_right (by simp [loF]; omega), List.getElem?_append_left (by simp [loF]; omega)]
  congr 1
  simp [loF]; omega
theorem loH_old (p : Pl) (bs : List Bool) (es : List Nat) (g : Option Row) (X T Y : Heap) {k : Nat} (hk : k < X.length) : (loH p bs es g X T Y)[k + 5]? = X[k]? := by
  unfold loH
  rw [List.getElem?_append_right (by simp [loF]), List.getElem?_append_left (by simp [loF]; exact hk)]
  congr 1
theorem loH_put (p : Pl) (bs : List Bool) (es : List Nat) (g a b c d : Option Row) (X Y : Heap) (y : Row) : Heap.put (loH p bs es g X [a, b, c, d] Y) (X.length + 8) y = loH p bs es g X [a, b, c, some y] Y := by
  rw [put_lt (by simp [loH, loF]; omega)]
  unfold loH
  rw [List.set_append_right _ _ (by simp [loF]), List.set_append_right _ _ (by simp [loF]), List.set_append_left _ _ (by simp [loF])]
  have e : X.length + 8 - (loF p bs es g).length - X.length = 3 := by simp only [loF, List.length_cons, List.length_nil]; omega
  rw [e]; rfl
theorem loH_len (p : Pl) (bs : List Bool) (es : List Nat) (g : Option Row) (X T Y : Heap) : (loH p bs es g X T Y).length = X.length + T.length + Y.length + 5 := by
  simp [loH, loF]; omega
theorem loH_set (p : Pl) (bs : List Bool) (es : List Nat) (g a b c d : Option Row) (X Y : Heap) (y : Option Row) : (loH p bs es g X [a, b, c, d] Y).set (X.length + 8) y = loH p bs es g X [a, b, c, y] Y := by
  unfold loH
  rw [List.set_append_right _ _ (by simp [loF]), List.set_append_right _ _ (by simp [loF]), List.set_append_left _ _ (by simp [loF])]
  have e : X.length + 8 - (loF p bs es g).length - X.length = 3 := by simp only [loF, List.length_cons, List.length_nil]; omega
  rw [e]; rfl
def loT (n m : Nat) : List (Nat × AVal) := [(1, .ptr 0 0 0 1), (3, .ptr 1 0 0 1), (4, .ptr 2 0 0 1), (7, .int .i64 n), (37, .fn (.func n_field_neighbours_1) [] [.ptr (m + 6) 0 0 1, .ptr (m + 5) 0 0 1])]
def loL (n m : Nat) (st : LoopState) (pe : Option ACode) : Row := .loop (tsets 56 (loT n m)) [38, 39] k_field_loose_r18 k_field_loose_r19 (m + 7) st pe
def loR (p : Pl) (c n m : Nat) (st : LoopState) : Heap := [some (.cells false 4 [p.v]), some (.cells false 1 [.int .i64 c]), some .dfr, some (loL n m st none)]

def LoI (p : Pl) (n : Nat) (bs : List Bool) (es : List Nat) (X : Heap) (ms : List Nat) : Prop :=
  n ≤ es.length ∧ es ≠ [] ∧ LoOK p bs es ∧ (∀ m, m < n → ∀ q ∈ nbs p (es.getD m 0), q.1 ∈ es) ∧ ms.Nodup ∧ ∀ q ∈ ms, ∃ k, q = k + 5 ∧ X[k]? = some (some .dfr)

set_option maxHeartbeats 4000000 in
set_option maxRecDepth 8000 in
theorem loose_ok {p : Pl} (hp : PlOK p) : Ans Tryd.prog n_field_loose [p.v] [] (.bool false) [] := by
  have hw := hp.w; have hh := hp.h
  have hN : p.w * p.h ≤ 256 := Nat.mul_le_mul hw.2 hh.2
  have hlen := hp.len
  refine spec_run e_field_loose fun G => ?_
  simp only [go_sem, Pl.v, Pl.a, Pl.c4, vw, List.length_map]
  have hbs0 : LoOK p (List.replicate 256 false) [] := ⟨by simp, by simp, fun c => by
    rw [List.getD_eq_getElem?_getD, List.getElem?_replicate]; split <;> simp, by simp [List.count_replicate]⟩
  refine loop_ind k_field_loose_r10.eq_1 (fun a : Nat × List Bool × List Nat × Heap => a.1 ≤ p.cs.length ∧ LoA p a.1 a.2.1 a.2.2.1 a.2.2.2) (fun a => p.cs.length - a.1)
    (fun a => (tsets 56 [(1, .ptr 0 0 0 1), (3, .ptr 1 0 0 1), (4, .ptr 2 0 0 1), (10, vw p.cs), (11, .int .i64 p.cs.length), (12, .int .i64 a.1)], a.2.2.2)) (0, List.replicate 256 false, [], loI p (List.replicate 256 false)) ⟨Nat.zero_le _, hbs0, fun c hc => absurd hc (Nat.not_lt_zero _), fun c hc => by simp at hc, .inl ⟨rfl, rfl⟩⟩ (by simp [go_sem, vw]) rfl ?_
  rintro ⟨i, bs, es, H⟩ ⟨hi, hlo, hel, hlt, hH⟩ ih
  dsimp only at hi hlo hel hlt hH ih ⊢
  by_cases h1 : i < p.cs.length
  · have h2 : (i : Int) < p.cs.length := by omega
    have h3 := idx_next h1 (by omega)
    have n0 : ¬ (i : Int) < 0 := by omega
    have hiN : i < p.w * p.h := by rw [← hlen]; exact h1
    have hx := gt_get h1
    by_cases hz : gt p.cs i = 0
    · have hz' : (gt p.cs i != 0) = false := by simp [hz]
      have ihn := ih (i + 1, bs, es, H) (by dsimp only; omega) ⟨h1, hlo, fun c hc hE => by
        by_cases e : c = i
        · subst e; exact absurd hz hE
        · exact hel c (by dsimp only at hc; omega) hE, fun c hc => by have := hlt c hc; dsimp only; omega, hH⟩
      clear ih
      generalize gt p.cs i = z at *
      simp only [go_sem, vw, List.length_map, h2, n0, hx, hz', h3]
      exact ihn _ (by simp [go_sem, vw])
    · have hz' : (gt p.cs i != 0) = true := by simp [hz]
      have hni : i ∉ es := fun h => by have := hlt i h; omega
      have hbi : bs.getD i false = false := by
        cases hb : bs.getD i false with
        | false => rfl
        | true => exact absurd ((hlo.iff i).1 hb) hni
      have hbl : i < bs.length := by rw [hlo.len]; omega
      have hadd := hlo.add hp hiN hbi
      have hset := bv_set hbl
      have q256 : (i : Int) < 256 := by omega
      have q0 : (0 : Int) ≤ i := by omega
      have hle := hlo.le
      have ihn := fun g X => ih (i + 1, bs.set i true, es ++ [i], loF p (bs.set i true) (es ++ [i]) g ++ X) (by dsimp only; omega) ⟨h1, hadd, fun c hc hE => by
        by_cases e : c = i
        · subst e; simp
        · exact List.mem_append_left _ (hel c (by dsimp only at hc; omega) hE), fun c hc => by
          rcases List.mem_append.1 hc with hc | hc
          · have := hlt c hc; dsimp only; omega
          · simp at hc; subst hc; dsimp only; omega, .inr ⟨by simp, g, X, rfl⟩⟩
      clear ih
      simp only [loF, List.length_append, List.length_cons, List.length_nil, Nat.zero_add, List.cons_append, List.nil_append] at ihn
      generalize gt p.cs i = z at *
      have hbl2 : i + 1 ≤ (bv bs).length := by rw [bv_len]; omega
      rcases hH with ⟨rfl, rfl⟩ | ⟨hne, g, X, rfl⟩
      · simp only [go_sem, vw, List.length_map, h2, n0, hx, hz', h3, loI, q256, q0, hset, Int.toNat_natCast, hbl2, Nat.mul_one]
        simp only [List.nil_append, List.length_nil, Nat.zero_add, nv', List.map_cons, List.map_nil] at ihn
        exact ⟨by decide, ihn _ [] _ (by simp [go_sem, vw])⟩
      · simp only [go_sem, vw, List.length_map, h2, n0, hx, hz', h3, loF, q256, q0, hset, Int.toNat_natCast, hbl2, Nat.mul_one, nv_app, nv_len]
        exact ⟨by omega, ihn _ _ _ (by simp [go_sem, vw])⟩
  · have h2 : ¬ (i : Int) < p.cs.length := by omega
    have hie : i = p.w * p.h := by omega
    subst hie
    obtain ⟨e0, he0, hE0⟩ := hp.some
    have hne : es ≠ [] := fun h => by have := hel e0 he0 hE0; rw [h] at this; simp at this
    obtain ⟨g, X, rfl⟩ : ∃ g X, H = loF p bs es g ++ X := by
      rcases hH with ⟨h, _⟩ | ⟨_, h⟩
      · exact absurd h hne
      · exact h
    simp only [go_sem, vw, List.length_map, h2]
    clear ih hH hel hlt
    refine loop_indM k_field_loose_r21.eq_1 (fun a : Nat × List Bool × List Nat × Heap × List Nat => LoI p a.1 a.2.1 a.2.2.1 a.2.2.2.1 a.2.2.2.2) (fun a => 257 - a.1)
      (fun a => (tsets 56 [(1, .ptr 0 0 0 1), (3, .ptr 1 0 0 1), (4, .ptr 2 0 0 1), (7, .int .i64 a.1)], loF p a.2.1 a.2.2.1 g ++ a.2.2.2.1, a.2.2.2.2)) (0, bs, es, X, []) ⟨Nat.zero_le _, hne, hlo, fun m hm => absurd hm (Nat.not_lt_zero _), List.nodup_nil, fun q hq => by simp at hq⟩ (by simp [go_sem]) rfl rfl ?_
    clear hlo hne
    rintro ⟨n, bs, es, X, ms⟩ ⟨hn, hne, hlo, hcl, hms1, hms2⟩ ih
    dsimp only at hn hne hlo hcl hms1 hms2 ih ⊢
    have hle := hlo.le
    by_cases h1 : n < es.length
    · have h2 : (n : Int) < es.length := by omega
      have n0 : ¬ (n : Int) < 0 := by omega
      have hgn := nv_get h1
      have hcm := hlo.mem _ (List.getElem_mem h1)
      generalize hc : es[n] = c at *
      simp only [go_sem, loF, h2, n0, hgn, nv_len, Pl.v, Pl.a, Pl.c4, vw]
      have hdf : ∀ (L : Heap), ∀ q ∈ ms, (loF p bs es g ++ (X ++ L))[q]? = some (some .dfr) := fun L q hq => by
        obtain ⟨k, rfl, hk⟩ := hms2 q hq
        have hkl := (List.getElem?_eq_some_iff.1 hk).1
        have := loH_old p bs es g X [] L hkl
        unfold loH at this
        rw [List.nil_append] at this
        rw [this]; exact hk
      refine cN2 (neighbours_ok p c) ?_ (hms := by have := hdf []; rw [List.append_nil] at this; exact this)
      simp only [go_sem, ren, rens]
      have hl : (loF p bs es g ++ (X ++ [some (Row.cells false 4 [p.v]), some (Row.cells false 1 [.int .i64 c])])).length = X.length + 7 := by simp [loF]
      show Mean Tryd.prog G 0 none _ _ ⟨_, loF p bs es g ++ (X ++ [some (Row.cells false 4 [p.v]), some (Row.cells false 1 [.int .i64 c])]), ms⟩ _
      refine rangeF 2000 (ρ := tsets 56 (loT n X.length)) (by simp [go_sem, loT]) (by simp only [go_sem, loT]; rfl)
        (R := fun v H' => v = .tup [] ∧ ((∃ bs' es' Y, H' = loH p bs' es' g X (loR p c n X.length .ready) Y ∧ LoOK p bs' es' ∧ (∃ t, es' = es ++ t) ∧ ∀ j, j < (nbs p c).length → ∀ q, (nbs p c)[j]? = some q → q.1 ∈ es') ∨ False)) ?_ (by simp) ?_
      · rw [hl]
        have hheap : loF p bs es g ++ (X ++ [some (.cells false 4 [p.v]), some (.cells false 1 [.int .i64 c])]) ++ [some .dfr] ++ [some (.loop (tsets 56 (loT n X.length)) [38, 39] k_field_loose_r18 k_field_loose_r19 (X.length + 7) .ready none)] = loH p bs es g X (loR p c n X.length .ready) [] := by
          simp [loH, loR, loL]
        rw [hheap]
        refine nbs1_iter hp hcm (r := X.length + 8) (jc := X.length + 6) (jp := X.length + 5) (N := X.length + 9) (Pre := fun k H => ∃ bs' es' Y, H = loH p bs' es' g X (loR p c n X.length .ready) Y ∧ LoOK p bs' es' ∧ (∃ t, es' = es ++ t) ∧ ∀ j, j < k → ∀ q, (nbs p c)[j]? = some q → q.1 ∈ es') (Stop := fun _ => False) ⟨?_, ?_⟩
          ⟨bs, es, [], rfl, hlo, ⟨[], by simp⟩, fun j hj => absurd hj (Nat.not_lt_zero _)⟩ (by rw [loH_len]; simp [loR])
        · rintro k H ⟨bs', es', Y, rfl, -⟩
          exact ⟨by rw [loH_len]; simp [loR], loH_get p bs' es' g X (loR p c n X.length .ready) Y (j := 1) (by simp [loR]), loH_get p bs' es' g X (loR p c n X.length .ready) Y (j := 0) (by simp [loR])⟩
        · rintro k ⟨m, wt⟩ H hq ⟨bs', es', Y, rfl, hlo', ⟨t, ht⟩, hcl'⟩
          obtain ⟨hm, _⟩ := nbs_in p hw.2 hcm _ (List.mem_of_getElem? hq)
          dsimp only at hm ⊢
          have hrow := loH_get p bs' es' g X (loR p c n X.length .ready) Y (j := 3) (by simp [loR])
          have hml : m < bs'.length := by rw [hlo'.len]; omega
          have hgb := bv_get hml
          have q1 : (m : Int) < 256 := by omega
          have q0 : (0 : Int) ≤ m := by omega
          have q2 : m + 1 ≤ (bv bs').length := by rw [bv_len]; omega
          have hset := bv_set hml
          have hle' := hlo'.le
          cases hb : bs'.getD m false with
          | true =>
            refine RoundW.mono (R := fun v H' => v = .bool true ∧ H' = loH p bs' es' g X (loR p c n X.length .ready) Y) ?_ ?_
            rotate_left
            · rintro v H' ⟨rfl, rfl⟩
              refine .inl ⟨rfl, bs', es', Y, rfl, hlo', ⟨t, ht⟩, fun j hj q hjq => ?_⟩
              by_cases e : j = k
              · subst e; rw [hq] at hjq; cases hjq; exact (hlo'.iff m).1 hb
              · exact hcl' j (by omega) q hjq
            generalize hR : (fun (v : AVal) (H' : Heap) => v = .bool true ∧ H' = loH p bs' es' g X (loR p c n X.length .ready) Y) = R
            have hfin : R (.bool true) (loH p bs' es' g X (loR p c n X.length .ready) Y) := by rw [← hR]; exact ⟨rfl, rfl⟩
            clear hR
            rw [hb] at hgb
            refine roundW_run 500 k_field_loose_r18.eq_1 hrow rfl (ρ' := tsets 56 (loT n X.length ++ [(38, .int .i64 (m : Int)), (39, .int .i64 wt)])) rfl ?_
            simp only [go_sem, loT]
            refine roundMid_run 500 k_field_loose_r19.eq_1 hrow (loH_put _ _ _ _ _ _ _ _ _ _ _) ?_
            have hrow2 := fun Z => loH_get p bs' es' g X [some (.cells false 4 [p.v]), some (.cells false 1 [.int .i64 c]), some .dfr, some (loL n X.length .busy none)] Z (j := 3) (by simp)
            simp only [loH, loF] at hrow2 ⊢
            simp only [go_sem, hgb, q0, q1, Nat.mul_one]
            refine roundEnd_on (hrow2 Y) ?_
            show R _ (Heap.put (loH p bs' es' g X [some (.cells false 4 [p.v]), some (.cells false 1 [.int .i64 c]), some .dfr, some (loL n X.length .busy none)] Y) (X.length + 8) (loL n X.length .ready none))
            rw [loH_put]
            exact hfin
          | false =>
            have hadd := hlo'.add hp hm hb
            refine RoundW.mono (R := fun v H' => v = .bool true ∧ ∃ Z, H' = loH p (bs'.set m true) (es' ++ [m]) g X (loR p c n X.length .ready) Z) ?_ ?_
            rotate_left
            · rintro v H' ⟨rfl, Z, rfl⟩
              refine .inl ⟨rfl, _, _, Z, rfl, hadd, ⟨t ++ [m], by rw [ht, List.append_assoc]⟩, fun j hj q hjq => ?_⟩
              by_cases e : j = k
              · subst e; rw [hq] at hjq; cases hjq; simp
              · exact List.mem_append_left _ (hcl' j (by omega) q hjq)
            generalize hR : (fun (v : AVal) (H' : Heap) => v = .bool true ∧ ∃ Z, H' = loH p (bs'.set m true) (es' ++ [m]) g X (loR p c n X.length .ready) Z) = R
            have hfin : ∀ Z, R (.bool true) (loH p (bs'.set m true) (es' ++ [m]) g X (loR p c n X.length .ready) Z) := fun Z => by rw [← hR]; exact ⟨rfl, Z, rfl⟩
            clear hR
            rw [hb] at hgb
            refine roundW_run 500 k_field_loose_r18.eq_1 hrow rfl (ρ' := tsets 56 (loT n X.length ++ [(38, .int .i64 (m : Int)), (39, .int .i64 wt)])) rfl ?_
            simp only [go_sem, loT]
            refine roundMid_run 500 k_field_loose_r19.eq_1 hrow (loH_put _ _ _ _ _ _ _ _ _ _ _) ?_
            have hrow2 := fun Z => loH_get p (bs'.set m true) (es' ++ [m]) g X [some (.cells false 4 [p.v]), some (.cells false 1 [.int .i64 c]), some .dfr, some (loL n X.length .busy none)] Z (j := 3) (by simp)
            have hput := fun Z => loH_put p (bs'.set m true) (es' ++ [m]) g (some (.cells false 4 [p.v])) (some (.cells false 1 [.int .i64 c])) (some .dfr) (some (loL n X.length .busy none)) X Z (loL n X.length .ready none)
            simp only [loH, loF, List.length_append, List.length_cons, List.length_nil, Nat.zero_add] at hrow2 hput hfin ⊢
            simp only [go_sem, hgb, q0, q1, q2, hset, Nat.mul_one, nv_app, nv_len]
            exact ⟨by omega, roundEnd_on (hrow2 _) (Eq.mpr (congrArg (R (.bool true)) (hput (Y ++ [some (.cells false 1 [.int .i64 m])]))) (hfin (Y ++ [some (.cells false 1 [.int .i64 m])])))⟩
      · rintro v H' ⟨rfl, ⟨bs', es', Y, rfl, hlo', ⟨t, ht⟩, hcl'⟩ | h⟩
        · have hle' := hlo'.le
          have hn' : n < es'.length := by rw [ht, List.length_append]; omega
          have h3 := idx_next h1 (by omega)
          rw [hl]
          refine ⟨fun q hq => ?_, _, _, _, _, _, _, _, loH_get p bs' es' g X (loR p c n X.length .ready) Y (j := 3) (by simp [loR]), by decide, ?_⟩
          · rcases List.mem_cons.1 hq with rfl | hq
            · exact loH_get p bs' es' g X (loR p c n X.length .ready) Y (j := 2) (by simp [loR])
            · obtain ⟨k, rfl, hk⟩ := hms2 q hq
              rw [loH_old _ _ _ _ _ _ _ (List.getElem?_eq_some_iff.1 hk).1]; exact hk
          · show Run Tryd.prog G 0 none 2000 (.out .normal) _ ⟨_, (loH p bs' es' g X (loR p c n X.length .ready) Y).set (X.length + 8) none, _⟩ _
            unfold loR
            rw [loH_set]
            simp only [go_sem, loT, tsets, h3]
            have ihn := ih (n + 1, bs', es', (X ++ (([some (.cells false 4 [p.v]), some (.cells false 1 [.int .i64 c]), some .dfr, none] : Heap) ++ Y) : Heap), (X.length + 7) :: ms) (by dsimp only; omega)
            refine ihn ⟨hn', fun h => by
              have h' : es' = [] := h
              rw [h'] at hn'; simp at hn', hlo', fun m hm q hq => ?_, ?_, fun q hq => ?_⟩ _ (by simp [go_sem])
            · dsimp only at hm hq ⊢
              by_cases e : m = n
              · subst e
                have hcc : es'.getD m 0 = c := by
                  rw [ht, List.getD_eq_getElem?_getD, List.getElem?_append_left h1, List.getElem?_eq_getElem h1, ← hc]; rfl
                rw [hcc] at hq
                obtain ⟨j, hj, rfl⟩ := List.mem_iff_getElem.1 hq
                exact hcl' j hj _ (List.getElem?_eq_getElem hj)
              · have hgd : es'.getD m 0 = es.getD m 0 := by
                  rw [ht, List.getD_eq_getElem?_getD, List.getElem?_append_left (by omega), List.getD_eq_getElem?_getD]
                rw [hgd] at hq
                rw [ht]
                exact List.mem_append_left _ (hcl m (by omega) q hq)
            · refine List.nodup_cons.2 ⟨fun h => ?_, hms1⟩
              obtain ⟨k, hk1, hk2⟩ := hms2 _ h
              have := (List.getElem?_eq_some_iff.1 hk2).1
              omega
            · dsimp only at hq ⊢
              rcases List.mem_cons.1 hq with rfl | hq
              · refine ⟨X.length + 2, rfl, ?_⟩
                rw [List.getElem?_append_right (by omega)]
                simp
              · obtain ⟨k, hk1, hk2⟩ := hms2 q hq
                exact ⟨k, hk1, by rw [List.getElem?_append_left (List.getElem?_eq_some_iff.1 hk2).1]; exact hk2⟩
        · exact h.elim
    · have h2 : ¬ (n : Int) < es.length := by omega
      have hall := grid_conn p (fun c => c ∈ es) (by
        obtain ⟨c, cs, rfl⟩ := List.exists_cons_of_ne_nil hne
        exact ⟨c, hlo.mem c (by simp), by simp⟩) (fun i hi hS q hq => by
        obtain ⟨m, hm, rfl⟩ := List.mem_iff_getElem.1 hS
        refine hcl m (by omega) q ?_
        rw [List.getD_eq_getElem?_getD, List.getElem?_eq_getElem hm]; exact hq)
      have hfull := hlo.full hp hall
      have h3 : ¬ (es.length : Int) < p.cs.length := by omega
      simp only [go_sem, loF, h2, Pl.v, Pl.a, Pl.c4, vw, List.length_map, h3, nv_len]
      exact hms1
end Go.Proofs

namespace Go.Proofs
open Go Go.Sx
attribute [local irreducible] Run

theorem PlOK.max {p : Pl} (hp : PlOK p) : 1 ≤ gmax p.cs ∧ gmax p.cs ≤ 6 ∧ ∀ c ∈ p.cs, c ≤ gmax p.cs := by
  have h1 := (mxL_ge p.cs 0).2
  obtain ⟨i, hi, hE⟩ := hp.some
  have h2 := hp.cell _ (hp.mem hi)
  have h3 := h1 _ (hp.mem hi)
  have h4 : gt p.cs i ≠ 0 := hE
  refine ⟨by unfold gmax; omega, mxL_le _ _ _ (by omega) fun c hc => (hp.cell c hc).2, h1⟩

theorem PlOK.ne {p : Pl} (hp : PlOK p) : p.cs ≠ [] := fun h => by
  have h1 := hp.len
  have h2 := Nat.mul_pos hp.w.1 hp.h.1
  rw [h] at h1
  simp only [List.length_nil] at h1
  omega

theorem Check_ok {p : Pl} (hp : PlOK p) : Ans Tryd.prog n_field_Check [p.v] [] (.int .i64 0) [] := by
  have hw := hp.w; have hh := hp.h
  have hN : p.w * p.h ≤ 256 := Nat.mul_le_mul hw.2 hh.2
  have hlen := hp.len
  obtain ⟨m1, m2, m3⟩ := hp.max
  have hmx := max_ok (l := p.cs) hp.ne (fun c hc => (hp.cell c hc).1) (by omega)
  have hlo := loose_ok hp
  refine spec_run e_field_Check fun G => ?_
  have e1 : (p.cs.length : Int) = (p.w : Int) * p.h := by rw [hlen]; push_cast; rfl
  have e2 : IntKind.i64.wrap ((p.w : Int) * p.h) = p.cs.length := by rw [← e1]; exact w64 (by omega)
  have e3 : ((p.cs.length : Int) != p.cs.length) = false := by simp
  have e4 : (gmax p.cs == 0) = false := by simp; omega
  simp only [go_sem, Pl.v, Pl.a, Pl.c4, vw]
  refine cP (within_yes (by omega)) ?_
  simp only [go_sem]
  refine cP (within_yes (by omega)) ?_
  simp only [go_sem, List.length_map, e2, e3]
  refine loop_ind k_field_Check_r11.eq_1 (fun a : Nat × Heap => a.1 ≤ p.cs.length) (fun a => p.cs.length - a.1)
    (fun a => (tsets 41 [(1, .ptr 0 0 0 1), (2, .int .i64 0), (25, vw p.cs), (26, .int .i64 p.cs.length), (27, .int .i64 a.1)], some (.cells false 4 [p.v]) :: a.2)) (0, []) (Nat.zero_le _) (by simp [go_sem, vw]) (by simp [Pl.v, Pl.a, Pl.c4, vw]) ?_
  rintro ⟨i, X⟩ hi ih
  dsimp only at hi ih ⊢
  by_cases h1 : i < p.cs.length
  · have h2 : (i : Int) < p.cs.length := by omega
    have h3 := idx_next h1 (by omega)
    have n0 : ¬ (i : Int) < 0 := by omega
    have hx := gt_get h1
    have hb := hp.cell _ (gt_mem h1)
    generalize gt p.cs i = z at *
    simp only [go_sem, vw, List.length_map, h2, n0, hx]
    refine cP (within_yes hb) ?_
    simp only [go_sem, h3]
    exact ih (i + 1, _) (by dsimp only; omega) h1 _ (by simp [go_sem, vw])
  · have h2 : ¬ (i : Int) < p.cs.length := by omega
    simp only [go_sem, vw, List.length_map, h2, Pl.v, Pl.a, Pl.c4]
    refine cP hmx ?_
    simp only [go_sem, e4, Pl.v, Pl.a, Pl.c4, vw]
    refine cP hlo ?_
    simp only [go_sem]

end Go.Proofs

namespace Go.Proofs
open Go Go.Sx

section
variable {P : Program} {G : Ctx} {k : Nat} {rd : Option Nat} {fs : List Sx.Frame} {Q : Sx.Goal}
theorem opA_less {ao : AOper} {s s' : St} {K : St → Prop} (hl : Less P G k s s') (h : OpA P G k rd ao s' K) : OpA P G k rd ao s K := fun ops draw i o Q hi hc μ ro a w h1 h2 => by
  obtain ⟨μ', h3, h4⟩ := hl μ a w h2
  exact wpOpIn_mono (fun _ _ ⟨μ'', s'', q1, q2, q3⟩ => ⟨μ'', s'', q1, Mu.leB_trans h4 q2, q3⟩) (h ops draw i o Q hi hc μ' ro a w (h1.mono h4) h3)
theorem areg_cut (n : Nat) {l1 l2 : List AOper} {s : St} {K : St → Prop} (h : Sx.Run P G k rd n (.ops l1) [] s (fun _ s' => Areg P G k rd l2 s' K)) : Areg P G k rd (l1 ++ l2) s K := by
  have h1 : Areg P G k rd l1 s (fun s' => Areg P G k rd l2 s' K) := run_mean n _ _ _ _ h
  clear h
  induction l1 generalizing s with
  | nil => exact h1
  | cons a l ih => exact OpA.mono (fun s' hs => ih hs) h1
theorem areg_wk {ao : AOper} {l : List AOper} {ρ ρ' : List AVal} {H : Heap} {ms : List Nat} {K : St → Prop} (hw : Wk ρ ρ') (h : Areg P G k rd (ao :: l) ⟨ρ', H, ms⟩ K) : Areg P G k rd (ao :: l) ⟨ρ, H, ms⟩ K := opA_less (less_wk hw) h
theorem areg_last (n : Nat) {l : List AOper} {s : St} (h : Sx.Run P G k rd n (.ops l) fs s Q) : Areg P G k rd l s (Sx.Fin P G k rd fs Q .normal) := run_mean n _ _ _ _ h
theorem run0_ops {l : List AOper} {s : St} (h : Areg P G k rd l s (Sx.Fin P G k rd fs Q .normal)) : Sx.Run P G k rd 0 (.ops l) fs s Q := h
end
attribute [local irreducible] Run

theorem One_ok (w n : Int) (hn : 1 ≤ n ∧ n ≤ 1000000) : Ans Tryd.prog n_kit_Dice_One [.ptr 0 0 0 1, .int .i64 n] [some (Dr w)] (.bool (upto w n == 0)) [some (Dr (dstep w))] := by
  refine spec_run e_kit_Dice_One fun G => ?_
  simp only [go_sem]
  refine cD (upto_ok w n (by omega)) ?_
  simp only [go_sem]
  exact ⟨_, rfl⟩
end Go.Proofs

namespace Go.Proofs
open Go Go.Sx
attribute [local irreducible] Run

theorem areg_wk' {P : Program} {G : Ctx} {k : Nat} {rd : Option Nat} {l : List AOper} {ρ ρ' : List AVal} {H : Heap} {ms : List Nat} {K : St → Prop} (hl : l ≠ []) (hw : Wk ρ ρ') (h : Areg P G k rd l ⟨ρ', H, ms⟩ K) : Areg P G k rd l ⟨ρ, H, ms⟩ K := by
  cases l with
  | nil => exact absurd rfl hl
  | cons a l => exact areg_wk hw h

def opA0 : List AOper := k_kit_Opened_r7.take 14
def opA1 : List AOper := (k_kit_Opened_r7.drop 14).take 11
def opA2 : List AOper := (k_kit_Opened_r7.drop 25).take 14
def opA3 : List AOper := (k_kit_Opened_r7.drop 39).take 15
def opA4 : List AOper := (k_kit_Opened_r7.drop 54).take 19
def opA5 : List AOper := k_kit_Opened_r7.drop 73
theorem opA_eq : k_kit_Opened_r7 = opA0 ++ (opA1 ++ (opA2 ++ (opA3 ++ (opA4 ++ opA5)))) := rfl

def opB (n i x : Nat) (rd : Int) : List (Nat × AVal) := [(1, .ptr 1 0 0 1), (2, .ptr 2 0 0 1), (3, .sl 3 0 n), (4, .int .i64 rd), (5, .int .i64 i), (6, .int .i64 x)]
def opC (n i x : Nat) (rd : Int) (t : Nat) (b : Bool) : List AVal := tsets 121 (opB n i x rd ++ [(30, .sl 3 0 n), (31, .int .i64 i), (t, .bool b)])
def opH (p : Pl) (g : Bool) (bs : List Bool) : Heap := [some (.cells g 1 (iv p.cs)), some (.cells false 4 [p.a (.sl 0 0 p.cs.length)]), some (.cells false 4 [.agg [.int .i64 0, .int .i64 0, .bool false, .nilsl]]), some (.cells false 1 (bv bs))]

section
variable {G : Ctx} {k : Nat} {p : Pl} (hlen : p.cs.length = p.w * p.h) (hn : p.cs.length ≤ 1000000) {g : Bool} {bs : List Bool} (hb : bs.length = p.cs.length) {i : Nat} (hi : i < p.cs.length) {rd : Int} {K : St → Prop} {R : List AOper}
include hlen hn hb hi

omit hn in
theorem op_0 (h : ∀ b, Areg Tryd.prog G k none (opA1 ++ R) ⟨opC p.cs.length i (i % p.w) rd 43 b, opH p g bs, []⟩ K) :
    Areg Tryd.prog G k none (opA0 ++ (opA1 ++ R)) ⟨tsets 121 (opB p.cs.length i (i % p.w) rd), opH p g bs, []⟩ K := by
  refine areg_cut 200 ?_
  have h2 : (i : Int) < p.cs.length := by omega
  have n0 : ¬ (i : Int) < 0 := by omega
  have hg := bv_get (bs := bs) (c := i) (by omega)
  have hc := iv_get (l := p.cs) hi
  have fin : ∀ b ρ', Wk ρ' (opC p.cs.length i (i % p.w) rd 43 b) → Areg Tryd.prog G k none (opA1 ++ R) ⟨ρ', opH p g bs, []⟩ K := fun b ρ' hw => areg_wk' (List.cons_ne_nil _ _) hw (h b)
  clear h
  generalize bs.getD i false = b0 at *
  generalize gt p.cs i = z at *
  generalize opA1 ++ R = L at *
  cases b0 with
  | true =>
    simp only [opA0, k_kit_Opened_r7, List.take_succ_cons, List.take_zero, opB, opH, go_sem, h2, n0, hg]
    exact fin _ _ (by simp [opC, opB, go_sem] <;> rfl)
  | false =>
    simp only [opA0, k_kit_Opened_r7, List.take_succ_cons, List.take_zero, opB, opH, go_sem, h2, n0, hg, hc, Pl.a, Pl.c4, iv_len]
    exact fin _ _ (by simp [opC, opB, go_sem] <;> rfl)

theorem op_1 {b : Bool} (h : ∀ b', Areg Tryd.prog G k none (opA2 ++ R) ⟨opC p.cs.length i (i % p.w) rd 54 b', opH p g bs, []⟩ K) :
    Areg Tryd.prog G k none (opA1 ++ (opA2 ++ R)) ⟨opC p.cs.length i (i % p.w) rd 43 b, opH p g bs, []⟩ K := by
  refine areg_cut 200 ?_
  have fin : ∀ b' ρ', Wk ρ' (opC p.cs.length i (i % p.w) rd 54 b') → Areg Tryd.prog G k none (opA2 ++ R) ⟨ρ', opH p g bs, []⟩ K := fun b' ρ' hw => areg_wk' (List.cons_ne_nil _ _) hw (h b')
  clear h
  generalize opA2 ++ R = L at *
  cases b with
  | true =>
    simp only [opA1, k_kit_Opened_r7, List.take_succ_cons, List.take_zero, List.drop_succ_cons, List.drop_zero, opC, List.cons_append, List.nil_append, opB, opH, go_sem]
    exact fin _ _ (by simp [opC, opB, go_sem] <;> rfl)
  | false =>
    by_cases hc : 0 < i % p.w
    · have h1 : (0 : Int) < ((i % p.w : Nat) : Int) := by omega
      have hle := Nat.mod_le i p.w
      have e1 : IntKind.i64.wrap ((i : Int) - 1) = ((i - 1 : Nat) : Int) := by rw [w64 (by omega)]; omega
      have n0 : ¬ ((i - 1 : Nat) : Int) < 0 := by omega
      have h2 : ((i - 1 : Nat) : Int) < p.cs.length := by omega
      have hg := bv_get (bs := bs) (c := i - 1) (by omega)
      simp only [opA1, k_kit_Opened_r7, List.take_succ_cons, List.take_zero, List.drop_succ_cons, List.drop_zero, opC, List.cons_append, List.nil_append, opB, opH, go_sem, Pl.a, Pl.c4, iv_len, h1, e1, n0, h2, hg]
      exact fin _ _ (by simp [opC, opB, go_sem] <;> rfl)
    · have h1 : ¬ (0 : Int) < ((i % p.w : Nat) : Int) := by omega
      simp only [opA1, k_kit_Opened_r7, List.take_succ_cons, List.take_zero, List.drop_succ_cons, List.drop_zero, opC, List.cons_append, List.nil_append, opB, opH, go_sem, Pl.a, Pl.c4, iv_len, h1]
      exact fin _ _ (by simp [opC, opB, go_sem] <;> rfl)

theorem op_2 {b : Bool} (h : ∀ b', Areg Tryd.prog G k none (opA3 ++ R) ⟨opC p.cs.length i (i % p.w) rd 68 b', opH p g bs, []⟩ K) :
    Areg Tryd.prog G k none (opA2 ++ (opA3 ++ R)) ⟨opC p.cs.length i (i % p.w) rd 54 b, opH p g bs, []⟩ K := by
  refine areg_cut 200 ?_
  have fin : ∀ b' ρ', Wk ρ' (opC p.cs.length i (i % p.w) rd 68 b') → Areg Tryd.prog G k none (opA3 ++ R) ⟨ρ', opH p g bs, []⟩ K := fun b' ρ' hw => areg_wk' (List.cons_ne_nil _ _) hw (h b')
  clear h
  generalize opA3 ++ R = L at *
  have hw0 : 0 < p.w := by
    rcases Nat.eq_zero_or_pos p.w with h0 | h0
    · rw [h0, Nat.zero_mul] at hlen; omega
    · exact h0
  have hwn : p.w ≤ 1000000 := by
    have h1 : p.w * 1 ≤ p.w * p.h := Nat.mul_le_mul_left _ (by
      rcases Nat.eq_zero_or_pos p.h with h0 | h0
      · rw [h0, Nat.mul_zero] at hlen; omega
      · exact h0)
    omega
  have e0 : IntKind.i64.wrap ((p.w : Int) - 1) = ((p.w - 1 : Nat) : Int) := by rw [w64 (by omega)]; omega
  cases b with
  | true =>
    simp only [opA2, k_kit_Opened_r7, List.take_succ_cons, List.take_zero, List.drop_succ_cons, List.drop_zero, opC, List.cons_append, List.nil_append, opB, opH, go_sem]
    exact fin _ _ (by simp [opC, opB, go_sem] <;> rfl)
  | false =>
    by_cases hc : i % p.w + 1 < p.w
    · have h1 : ((i % p.w : Nat) : Int) < ((p.w - 1 : Nat) : Int) := by omega
      have hi1 : i + 1 < p.cs.length := by
        rw [hlen]
        obtain ⟨k1, k2, k3⟩ := cell_lt (w := p.w) (h := p.h) (i := i) (by omega)
        have := cell_in (w := p.w) (h := p.h) hc k2
        omega
      have e1 : IntKind.i64.wrap ((i : Int) + 1) = ((i + 1 : Nat) : Int) := by rw [w64 (by omega)]; rfl
      have n0 : ¬ ((i + 1 : Nat) : Int) < 0 := by omega
      have h2 : ((i + 1 : Nat) : Int) < p.cs.length := by omega
      have hg := bv_get (bs := bs) (c := i + 1) (by omega)
      simp only [opA2, k_kit_Opened_r7, List.take_succ_cons, List.take_zero, List.drop_succ_cons, List.drop_zero, opC, List.cons_append, List.nil_append, opB, opH, go_sem, Pl.a, Pl.c4, iv_len, h1, e0, e1, n0, h2, hg]
      exact fin _ _ (by simp [opC, opB, go_sem] <;> rfl)
    · have h1 : ¬ ((i % p.w : Nat) : Int) < ((p.w - 1 : Nat) : Int) := by omega
      simp only [opA2, k_kit_Opened_r7, List.take_succ_cons, List.take_zero, List.drop_succ_cons, List.drop_zero, opC, List.cons_append, List.nil_append, opB, opH, go_sem, Pl.a, Pl.c4, iv_len, h1, e0]
      exact fin _ _ (by simp [opC, opB, go_sem] <;> rfl)

theorem op_3 {b : Bool} (h : ∀ b', Areg Tryd.prog G k none (opA4 ++ R) ⟨opC p.cs.length i (i % p.w) rd 83 b', opH p g bs, []⟩ K) :
    Areg Tryd.prog G k none (opA3 ++ (opA4 ++ R)) ⟨opC p.cs.length i (i % p.w) rd 68 b, opH p g bs, []⟩ K := by
  refine areg_cut 200 ?_
  have fin : ∀ b' ρ', Wk ρ' (opC p.cs.length i (i % p.w) rd 83 b') → Areg Tryd.prog G k none (opA4 ++ R) ⟨ρ', opH p g bs, []⟩ K := fun b' ρ' hw => areg_wk' (List.cons_ne_nil _ _) hw (h b')
  clear h
  generalize opA4 ++ R = L at *
  cases b with
  | true =>
    simp only [opA3, k_kit_Opened_r7, List.take_succ_cons, List.take_zero, List.drop_succ_cons, List.drop_zero, opC, List.cons_append, List.nil_append, opB, opH, go_sem]
    exact fin _ _ (by simp [opC, opB, go_sem] <;> rfl)
  | false =>
    by_cases hc : p.w ≤ i
    · have h1 : (p.w : Int) ≤ i := by omega
      have e1 : IntKind.i64.wrap ((i : Int) - p.w) = ((i - p.w : Nat) : Int) := by rw [w64 (by omega)]; omega
      have n0 : ¬ ((i - p.w : Nat) : Int) < 0 := by omega
      have h2 : ((i - p.w : Nat) : Int) < p.cs.length := by omega
      have hg := bv_get (bs := bs) (c := i - p.w) (by omega)
      simp only [opA3, k_kit_Opened_r7, List.take_succ_cons, List.take_zero, List.drop_succ_cons, List.drop_zero, opC, List.cons_append, List.nil_append, opB, opH, go_sem, Pl.a, Pl.c4, iv_len, h1, e1, n0, h2, hg]
      exact fin _ _ (by simp [opC, opB, go_sem] <;> rfl)
    · have h1 : ¬ (p.w : Int) ≤ i := by omega
      simp only [opA3, k_kit_Opened_r7, List.take_succ_cons, List.take_zero, List.drop_succ_cons, List.drop_zero, opC, List.cons_append, List.nil_append, opB, opH, go_sem, Pl.a, Pl.c4, iv_len, h1]
      exact fin _ _ (by simp [opC, opB, go_sem] <;> rfl)

theorem op_4 {b : Bool} (h : ∀ b', Areg Tryd.prog G k none (opA5 ++ R) ⟨opC p.cs.length i (i % p.w) rd 102 b', opH p g bs, []⟩ K) :
    Areg Tryd.prog G k none (opA4 ++ (opA5 ++ R)) ⟨opC p.cs.length i (i % p.w) rd 83 b, opH p g bs, []⟩ K := by
  refine areg_cut 200 ?_
  have fin : ∀ b' ρ', Wk ρ' (opC p.cs.length i (i % p.w) rd 102 b') → Areg Tryd.prog G k none (opA5 ++ R) ⟨ρ', opH p g bs, []⟩ K := fun b' ρ' hw => areg_wk' (List.cons_ne_nil _ _) hw (h b')
  clear h
  generalize opA5 ++ R = L at *
  have hwn : p.w ≤ 1000000 := by
    have h1 : p.w * 1 ≤ p.w * p.h := Nat.mul_le_mul_left _ (by
      rcases Nat.eq_zero_or_pos p.h with h0 | h0
      · rw [h0, Nat.mul_zero] at hlen; omega
      · exact h0)
    omega
  have e1 : IntKind.i64.wrap ((i : Int) + p.w) = ((i + p.w : Nat) : Int) := by rw [w64 (by omega)]; omega
  cases b with
  | true =>
    simp only [opA4, k_kit_Opened_r7, List.take_succ_cons, List.take_zero, List.drop_succ_cons, List.drop_zero, opC, List.cons_append, List.nil_append, opB, opH, go_sem]
    exact fin _ _ (by simp [opC, opB, go_sem] <;> rfl)
  | false =>
    by_cases hc : i + p.w < p.cs.length
    · have h1 : ((i + p.w : Nat) : Int) < p.cs.length := by omega
      have n0 : ¬ ((i + p.w : Nat) : Int) < 0 := by omega
      have hg := bv_get (bs := bs) (c := i + p.w) (by omega)
      simp only [opA4, k_kit_Opened_r7, List.take_succ_cons, List.take_zero, List.drop_succ_cons, List.drop_zero, opC, List.cons_append, List.nil_append, opB, opH, go_sem, Pl.a, Pl.c4, iv_len, h1, e1, n0, hg]
      exact fin _ _ (by simp [opC, opB, go_sem] <;> rfl)
    · have h1 : ¬ ((i + p.w : Nat) : Int) < p.cs.length := by omega
      simp only [opA4, k_kit_Opened_r7, List.take_succ_cons, List.take_zero, List.drop_succ_cons, List.drop_zero, opC, List.cons_append, List.nil_append, opB, opH, go_sem, Pl.a, Pl.c4, iv_len, h1, e1]
      exact fin _ _ (by simp [opC, opB, go_sem] <;> rfl)

theorem op_all (h : ∀ b, Areg Tryd.prog G k none opA5 ⟨opC p.cs.length i (i % p.w) rd 102 b, opH p g bs, []⟩ K) : Areg Tryd.prog G k none k_kit_Opened_r7 ⟨tsets 121 (opB p.cs.length i (i % p.w) rd), opH p g bs, []⟩ K := by
  rw [opA_eq]
  refine op_0 hlen hb hi fun b => ?_
  refine op_1 hlen hn hb hi fun b => ?_
  refine op_2 hlen hn hb hi fun b => ?_
  refine op_3 hlen hn hb hi fun b => ?_
  have := op_4 (R := []) hlen hn hb hi (K := K) (G := G) (k := k) (g := g) (rd := rd) (b := b) fun b => by rw [List.append_nil]; exact h b
  rwa [List.append_nil] at this
end

section
variable {P : Program} {G : Ctx} {k : Nat} {rd : Option Nat} {fs : List Sx.Frame} {ms : List Nat} {Q : Sx.Goal}
theorem loop_indN (n : Nat) {α : Type} {c c' : ACode} (hc : c = c') (Inv : α → Prop) (μ : α → Nat) (st : α → List AVal × Heap) {ρ : List AVal} {H : Heap} (a0 : α) (h0 : Inv a0) (hw : Wk ρ (st a0).1) (hH : H = (st a0).2)
    (step : ∀ a, Inv a → (∀ b, μ b < μ a → Inv b → ∀ ρ', Wk ρ' (st b).1 → Sx.Loop P G k rd c fs ⟨ρ', (st b).2, ms⟩ Q) → Run P G k rd n (.code c') (.rnd c :: fs) ⟨(st a).1, (st a).2, ms⟩ Q) : Sx.Loop P G k rd c fs ⟨ρ, H, ms⟩ Q := by
  have key : ∀ (m : Nat) (a : α), μ a = m → Inv a → ∀ ρ', Wk ρ' (st a).1 → Sx.Loop P G k rd c fs ⟨ρ', (st a).2, ms⟩ Q := by
    intro m
    induction m using Nat.strongRecOn with
    | ind m ih =>
      intro a ha hi ρ' hw
      exact loop_wk hw (loop_body n hc (step a hi fun b hb hib ρ'' hw'' => ih (μ b) (by omega) b rfl hib ρ'' hw''))
  subst hH
  exact key _ a0 rfl h0 ρ hw
end

def Opd (cs l : List Int) : Prop := l.length = cs.length ∧ ∀ i, i < cs.length → gt l i = gt cs i ∨ gt l i = 1

set_option maxHeartbeats 4000000 in
theorem Opened_ok {p : Pl} (hlen : p.cs.length = p.w * p.h) (hn : p.cs.length ≤ 1000000) (hw : 1 ≤ p.w) (g : Bool) : AnsE Tryd.prog n_kit_Opened [p.a (.sl 0 0 p.cs.length)] [some (.cells g 1 (iv p.cs))] (Opd p.cs) (fun _ => p.a (.sl 0 0 p.cs.length)) (fun l => [some (.cells g 1 (iv l))]) := by
  refine AnsE.keep (run_fn e_kit_Opened fun G => ?_) (fun a ha => ⟨by simp, by simp [go_sem, Pl.a, Pl.c4], iv_row _ _ _, trivial⟩)
  have q1 : (0 : Int) ≤ p.cs.length := by omega
  have q2 : (p.cs.length : Int) ≤ 2 ^ 44 := by omega
  have q3 : (p.cs.length : Int) * 1 ≤ 2 ^ 44 := by omega
  simp only [go_sem, Pl.a, Pl.c4, iv_len, q1, q2, q3, Int.toNat_natCast]
  refine ⟨Int.le_refl _, ?_⟩
  have hrep : List.replicate p.cs.length (AVal.bool false) = bv (List.replicate p.cs.length false) := by simp [bv]
  rw [hrep]
  have hOpd0 : Opd p.cs p.cs := ⟨rfl, fun i _ => .inl rfl⟩
  refine loop_ind k_kit_Opened_r11.eq_1 (fun a : Nat × List Bool => a.1 ≤ p.cs.length ∧ a.2.length = p.cs.length) (fun a => p.cs.length - a.1)
    (fun a => (tsets 121 [(1, .ptr 1 0 0 1), (2, .ptr 2 0 0 1), (3, .sl 3 0 p.cs.length), (4, .int .i64 a.1)], opH p g a.2)) (0, List.replicate p.cs.length false) ⟨Nat.zero_le _, by simp⟩ (by simp [go_sem]) rfl ?_
  rintro ⟨r, bs⟩ ⟨hr, hbs⟩ ih
  dsimp only at hr hbs ih ⊢
  by_cases h1 : r < p.cs.length
  · have h2 : (r : Int) < p.cs.length := by omega
    have h3 := idx_next h1 (by omega)
    simp only [opH, go_sem, Pl.a, Pl.c4, iv_len, h2]
    refine loop_indN 25 k_kit_Opened_r9.eq_1 (fun a : Nat × List Bool => a.1 ≤ p.cs.length ∧ a.2.length = p.cs.length) (fun a => p.cs.length - a.1)
      (fun a => (tsets 121 [(1, .ptr 1 0 0 1), (2, .ptr 2 0 0 1), (3, .sl 3 0 p.cs.length), (4, .int .i64 r), (5, .int .i64 a.1)], opH p g a.2)) (0, bs) ⟨Nat.zero_le _, hbs⟩ (by simp [go_sem]) rfl ?_
    rintro ⟨i, bs⟩ ⟨hi, hbs⟩ ih2
    dsimp only at hi hbs ih2 ⊢
    by_cases h4 : i < p.cs.length
    · have h5 : (i : Int) < p.cs.length := by omega
      have h6 := idx_next h4 (by omega)
      have hwz : ((p.w : Int) = 0) = False := eq_false (by omega)
      have e1 := nat_rem i p.w
      have ihn := fun b => ih2 (i + 1, bs.set i b) (by dsimp only; omega) ⟨h4, by simpa using hbs⟩
      clear ih2
      have hgb := bv_get (bs := bs) (c := i) (by omega)
      have hbset : ∀ b, (bv bs).set i (.bool b) = bv (bs.set i b) := fun b => by simp [bv, List.map_set]
      have n0 : ¬ (i : Int) < 0 := by omega
      simp only [opH, go_sem, Pl.a, Pl.c4, iv_len, h5, hwz, e1]
      refine run0_ops ?_
      show Areg Tryd.prog G 1 none k_kit_Opened_r7 ⟨_, opH p g bs, []⟩ _
      refine areg_wk' (List.cons_ne_nil _ _) (ρ' := tsets 121 (opB p.cs.length i (i % p.w) r)) (by simp [go_sem, opB]) ?_
      refine op_all hlen hn hbs h4 fun b => ?_
      refine areg_last 3000 ?_
      simp only [opA5, k_kit_Opened_r7, List.drop_succ_cons, List.drop_zero, opC, opB, opH, List.cons_append, List.nil_append, go_sem, h5, n0, hgb, hbset, bv_len, h6]
      exact ihn b _ (by simp [go_sem])
    · have h5 : ¬ (i : Int) < p.cs.length := by omega
      simp only [opH, go_sem, Pl.a, Pl.c4, iv_len, h5, h3]
      exact ih (r + 1, bs) (by dsimp only; omega) ⟨h1, hbs⟩ _ (by simp [go_sem])
  · have h2 : ¬ (r : Int) < p.cs.length := by omega
    simp only [opH, go_sem, Pl.a, Pl.c4, iv_len, h2]
    clear ih
    refine loop_ind k_kit_Opened_r17.eq_1 (fun a : Nat × List Int => a.1 ≤ p.cs.length ∧ Opd p.cs a.2) (fun a => p.cs.length - a.1)
      (fun a => (tsets 121 [(1, .ptr 1 0 0 1), (2, .ptr 2 0 0 1), (3, .sl 3 0 p.cs.length), (7, .int .i64 a.1)], [some (.cells g 1 (iv a.2)), some (.cells false 4 [p.a (.sl 0 0 p.cs.length)]), some (.cells false 4 [.agg [.int .i64 0, .int .i64 0, .bool false, .nilsl]]), some (.cells false 1 (bv bs))])) (0, p.cs) ⟨Nat.zero_le _, hOpd0⟩ (by simp [go_sem]) rfl ?_
    rintro ⟨i, l⟩ ⟨hi, hl⟩ ih
    dsimp only at hi hl ih ⊢
    by_cases h4 : i < p.cs.length
    · have h5 : (i : Int) < p.cs.length := by omega
      have h6 := idx_next h4 (by omega)
      have n0 : ¬ (i : Int) < 0 := by omega
      have hgb := bv_get (bs := bs) (c := i) (by omega)
      have hgl := iv_get (l := l) (i := i) (by rw [hl.1]; exact h4)
      have hl1 := hl.1
      have ihn := fun l' h => ih (i + 1, l') (by dsimp only; omega) ⟨h4, h⟩
      clear ih
      generalize bs.getD i false = b at *
      cases b with
      | true =>
        simp only [go_sem, Pl.a, Pl.c4, iv_len, hl1, h5, n0, hgb, h6]
        exact ihn l hl _ (by simp [go_sem])
      | false =>
        simp only [go_sem, Pl.a, Pl.c4, iv_len, hl1, h5, n0, hgb, hgl, iv_set, h6]
        refine ihn (l.set i 1) ⟨by rw [List.length_set]; exact hl1, fun j hj => ?_⟩ _ (by simp [go_sem])
        rw [gt_set _ _ _ _ (by rw [hl1]; exact h4)]
        split
        · exact .inr rfl
        · exact hl.2 j hj
    · have h5 : ¬ (i : Int) < p.cs.length := by omega
      have hl1 := hl.1
      simp only [go_sem, Pl.a, Pl.c4, iv_len, hl1, h5]
      refine ⟨l, hl, fun i => i, fun i hi => rfl, fun i k hi hk h => h, by simp [Pl.a, Pl.c4, ren, rens], fun i x hx => ?_⟩
      match i, hx with
      | 0, hx => simp at hx; subst hx; rw [Row.ren_same (iv_row _ _ _)]; rfl
end Go.Proofs

namespace Go.Proofs
open Go Go.Sx
attribute [local irreducible] Run

section
variable {P : Program} {G : Ctx} {g : FuncId} {args largs : List AVal} {H : Heap} {α : Type} {Φ : α → Prop} {r : α → AVal} {k : Nat} {rd : Option Nat} {R : Runner} {l : List AOper} {fs : List Sx.Frame} {ρ : List AVal} {ms : List Nat} {Q : Sx.Goal} {dst : Option Nat}
theorem cE1 {x0 : Row} {x' : α → Row} {j0 : Nat} (h : AnsE P g largs [some x0] Φ r fun a => [some (x' a)]) (hargs : args = largs.map (ren (nth [j0]))) (hb : Bels (· < 1) largs)
    (h0 : H[j0]? = some (some x0)) (hx0 : x0.bel (fun _ => False)) (hwf : ∀ a, Φ a → Bel (· < 1) (r a) ∧ (x' a).bel (fun _ => False)) (hk : k ≤ H.length) (hms : ∀ q ∈ ms, q ≠ j0 ∧ H[q]? = some (some .dfr))
    (hK : ∀ a, Φ a → R (.ops l) fs ⟨setD ρ dst (ren (fun _ => j0) (r a)), H.set j0 (some (x' a)), ms⟩ Q) : CallR P G k R g args dst l fs ρ H ms Q := by
  have hlt0 := (List.getElem?_eq_some_iff.1 h0).1
  have e : ∀ a, Φ a → outΔ (outσ [j0] H.length) 0 [some (x' a)] = [(j0, x' a)] := fun a ha => by
    simp only [outΔ, Row.ren_same (hwf a ha).2]
    rfl
  refine callE h [j0] (by simp) ⟨by rw [Row.ren_same hx0]; exact h0, trivial⟩ hargs hb ⟨bel_mono_row hx0 fun _ h => h.elim, trivial⟩
    (fun a ha => ⟨by simp, (hwf a ha).1.mono fun q hq => by simpa using hq, bel_mono_row (hwf a ha).2 fun _ h => h.elim, trivial⟩) (by simpa using hlt0) hk (fun a ha q hq => ?_) fun a ha => ?_
  · rw [e a ha]
    exact ⟨by simpa using (hms q hq).1, (hms q hq).2⟩
  · rw [e a ha]
    have e2 : ren (outσ [j0] H.length) (r a) = ren (fun _ => j0) (r a) := ren_agree (S := fun q => q < 1) (fun q hq => by
      have hq0 : q = 0 := by omega
      rw [hq0]; simp [outσ, nth]) (hwf a ha).1
    rw [e2]
    simp only [Heap.puts, put_lt hlt0]
    exact hK a ha
end

def plA (w h : Nat) (rd : Bool) (d : Int) : Heap := [some (Dr d), some (.cells false 4 [.agg [.int .i64 0, .int .i64 0, .bool false, .nilsl]]), some (.cells false 4 [.agg [.int .i64 w, .int .i64 h, .bool rd, .nilsl]])]
def plB (w h : Nat) (rd : Bool) (d : Int) (l : List Int) (g : Option Row) : Heap := [some (Dr d), some (.cells false 4 [.agg [.int .i64 0, .int .i64 0, .bool false, .nilsl]]), some (.cells false 4 [.agg [.int .i64 w, .int .i64 h, .bool rd, .sl 4 0 l.length]]), g, some (.cells true 1 (iv l))]
theorem iv_app (l : List Int) (c : Int) : iv l ++ [.int .i64 c] = iv (l ++ [c]) := by simp [iv]

structure PlMade (a b : Int) (p : Pl) : Prop where
  ok : PlOK p
  w : p.w ≤ a
  h : p.h ≤ b
  le : ∀ c ∈ p.cs, 0 ≤ c ∧ c ≤ 3
  first : 1 ≤ gt p.cs 0

def Cel (l : List Int) : Prop := ∀ c ∈ l, 0 ≤ c ∧ c ≤ 3
theorem Cel.snoc {l : List Int} {c : Int} (h : Cel l) (hc : 0 ≤ c ∧ c ≤ 3) : Cel (l ++ [c]) := fun d hd => by
  rcases List.mem_append.1 hd with hd | hd
  · exact h d hd
  · simp at hd; subst hd; exact hc

theorem made_of {w h : Nat} {rd : Bool} {a b : Int} {l l' : List Int} (hw : 1 ≤ w ∧ w ≤ 16 ∧ w ≤ a) (hh : 1 ≤ h ∧ h ≤ 16 ∧ h ≤ b) (hl : l.length = w * h) (hc : Cel l) (hf : 1 ≤ gt l 0) (ho : Opd l l') : PlMade a b ⟨w, h, rd, l'⟩ := by
  have hpos := Nat.mul_pos hw.1 hh.1
  have hce : ∀ c ∈ l', 0 ≤ c ∧ c ≤ 3 := fun c hcm => by
    obtain ⟨i, hi, rfl⟩ := List.mem_iff_getElem.1 hcm
    have hi' : i < l.length := by rw [← ho.1]; exact hi
    have e : gt l' i = l'[i] := by unfold gt; rw [List.getD_eq_getElem?_getD, List.getElem?_eq_getElem hi]; rfl
    rw [← e]
    rcases ho.2 i hi' with h | h
    · rw [h]; exact hc _ (gt_mem hi')
    · rw [h]; omega
  have hf' : 1 ≤ gt l' 0 := by
    rcases ho.2 0 (by omega) with h | h
    · rw [h]; exact hf
    · rw [h]; omega
  refine ⟨⟨⟨hw.1, hw.2.1⟩, ⟨hh.1, hh.2.1⟩, by rw [ho.1]; exact hl, fun c h => by have := hce c h; omega, 0, hpos, ?_⟩, hw.2.2, hh.2.2, hce, hf'⟩
  show gt l' 0 ≠ 0
  omega

set_option maxHeartbeats 4000000 in
theorem PlanOf_ok (w0 : Int) (a b : Int) (ha : 1 ≤ a ∧ a ≤ 16) (hb : 1 ≤ b ∧ b ≤ 16) : AnsE Tryd.prog n_kit_PlanOf [.ptr 0 0 0 1, .int .i64 a, .int .i64 b] [some (Dr w0)] (fun q : Int × Pl => PlMade a b q.2) (fun q => q.2.a (.sl 1 0 q.2.cs.length))
    (fun q => [some (Dr q.1), some (.cells true 1 (iv q.2.cs))]) := by
  refine AnsE.keep (run_fn e_kit_PlanOf fun G => ?_) (fun q hq => ⟨by simp, by simp [go_sem, Pl.a, Pl.c4], by simp only [go_sem], iv_row _ _ _, trivial⟩)
  have b1 := btw_in (w := w0) (show (1 : Int) ≤ a by omega)
  have b2 := btw_in (w := dstep w0) (show (1 : Int) ≤ b by omega)
  have t1 := between_ok w0 1 a (by omega) (by omega) (by omega)
  have t2 := between_ok (dstep w0) 1 b (by omega) (by omega) (by omega)
  have t3 := One_ok (dstep (dstep w0)) 2 (by omega)
  generalize btw w0 1 a = wi at *
  generalize btw (dstep w0) 1 b = hi at *
  generalize (upto (dstep (dstep w0)) 2 == 0) = rd at *
  obtain ⟨w, rfl⟩ : ∃ w : Nat, wi = w := ⟨wi.toNat, by omega⟩
  obtain ⟨h, rfl⟩ : ∃ h : Nat, hi = h := ⟨hi.toNat, by omega⟩
  have hN : w * h ≤ 256 := by have := Nat.mul_le_mul (show w ≤ 16 by omega) (show h ≤ 16 by omega); omega
  have hN1 : 1 ≤ w * h := Nat.mul_pos (by omega) (by omega)
  have em : IntKind.i64.wrap ((w : Int) * h) = ((w * h : Nat) : Int) := by rw [w64 (by push_cast at *; omega)]; push_cast; rfl
  simp only [go_sem]
  refine cD t1 ?_
  simp only [go_sem]
  refine cD t2 ?_
  simp only [go_sem]
  refine cD t3 ?_
  simp only [go_sem]
  generalize dstep (dstep (dstep w0)) = d0
  refine loop_ind k_kit_PlanOf_r9.eq_1 (fun q : Nat × Int × List Int × Heap => q.1 ≤ w * h ∧ q.2.2.1.length = q.1 ∧ Cel q.2.2.1 ∧ ((q.2.2.1 = [] ∧ q.2.2.2 = plA w h rd q.2.1) ∨ (q.2.2.1 ≠ [] ∧ ∃ g X, q.2.2.2 = plB w h rd q.2.1 q.2.2.1 g ++ X))) (fun q => w * h - q.1)
    (fun q => (tsets 48 [(0, .ptr 0 0 0 1), (6, .ptr 1 0 0 1), (7, .ptr 2 0 0 1), (8, .int .i64 q.1)], q.2.2.2)) (0, d0, [], plA w h rd d0) ⟨Nat.zero_le _, rfl, fun c hc => by simp at hc, .inl ⟨rfl, rfl⟩⟩ (by simp [go_sem]) rfl ?_
  rintro ⟨i, d, l, H⟩ ⟨hi, hl, hc, hH⟩ ih
  dsimp only at hi hl hc hH ih ⊢
  by_cases h1 : i < w * h
  · have h2 : (i : Int) < ((w * h : Nat) : Int) := by omega
    have h3 := idx_next h1 (by omega)
    have p1 := One_ok d 3 (by omega)
    have p2 := between_ok (dstep d) 1 3 (by omega) (by omega) (by omega)
    have p3 := btw_in (w := dstep d) (show (1 : Int) ≤ 3 by omega)
    generalize btw (dstep d) 1 3 = c at *
    have ihn := fun d' c' (hc' : 0 ≤ c' ∧ c' ≤ 3) g X => ih (i + 1, d', l ++ [c'], plB w h rd d' (l ++ [c']) g ++ X) (by dsimp only; omega) ⟨h1, by simp [hl], hc.snoc hc', .inr ⟨by simp, g, X, rfl⟩⟩
    clear ih
    simp only [plB, List.length_append, List.length_cons, List.length_nil, Nat.zero_add, List.cons_append, List.nil_append] at ihn
    rcases hH with ⟨rfl, rfl⟩ | ⟨hne, g, X, rfl⟩
    · simp only [List.length_nil, Nat.zero_add, List.nil_append] at ihn
      simp only [plA, go_sem, em, h2]
      refine cD p1 ?_
      cases hcase : (upto d 3 == 0) with
      | true =>
        simp only [go_sem]
        refine cD p2 ?_
        simp only [go_sem, h3]
        exact ⟨by decide, ihn _ c (by omega) _ [] _ (by simp [go_sem])⟩
      | false =>
        simp only [go_sem, h3]
        exact ⟨by decide, ihn _ 0 (by omega) _ [] _ (by simp [go_sem])⟩
    · simp only [plB, List.cons_append, List.nil_append, go_sem, em, h2]
      refine cD p1 ?_
      cases hcase : (upto d 3 == 0) with
      | true =>
        simp only [go_sem]
        refine cD p2 ?_
        simp only [go_sem, h3, iv_len, iv_app]
        exact ⟨by omega, ihn _ c (by omega) _ _ _ (by simp [go_sem])⟩
      | false =>
        simp only [go_sem, h3, iv_len, iv_app]
        exact ⟨by omega, ihn _ 0 (by omega) _ _ _ (by simp [go_sem])⟩
  · have h2 : ¬ (i : Int) < ((w * h : Nat) : Int) := by omega
    have hle : l.length = w * h := by omega
    have hne : l ≠ [] := fun h => by rw [h] at hle; simp at hle; omega
    obtain ⟨g, X, rfl⟩ : ∃ g X, H = plB w h rd d l g ++ X := by
      rcases hH with ⟨h, _⟩ | ⟨_, h⟩
      · exact absurd h hne
      · exact h
    have hg0 := iv_get (l := l) (i := 0) (by omega)
    have hl0 : (0 : Int) < l.length := by omega
    simp only [plB, List.cons_append, List.nil_append, go_sem, em, h2, iv_len, hg0, hl0]
    have hl0' : 0 < l.length := by omega
    have hc0 := hc _ (gt_mem hl0')
    have hmx : (1 : Int) ≤ (if gt l 0 > 1 then gt l 0 else 1) ∧ (if gt l 0 > 1 then gt l 0 else 1) ≤ 3 := by split <;> omega
    rw [iv_set]
    generalize (if gt l 0 > 1 then gt l 0 else 1) = m at *
    have hc1 : Cel (l.set 0 m) := fun c hcm => by
      rcases List.mem_or_eq_of_mem_set hcm with h | h
      · exact hc c h
      · subst h; omega
    have hf1 : 1 ≤ gt (l.set 0 m) 0 := by rw [gt_set _ _ _ _ hl0', if_pos rfl]; exact hmx.1
    have hl1 : (l.set 0 m).length = w * h := by rw [List.length_set]; exact hle
    have hll : l.length = (l.set 0 m).length := by simp
    rw [hll]
    generalize l.set 0 m = l1 at *
    have hO := Opened_ok (p := ⟨w, h, rd, l1⟩) hl1 (by show l1.length ≤ _; omega) (by show 1 ≤ w; omega) true
    refine cE1 hO (j0 := 4) rfl (by simp [go_sem, Pl.a, Pl.c4]) rfl (iv_row _ _ _) (fun a ha => ⟨by simp [go_sem, Pl.a, Pl.c4], iv_row _ _ _⟩) (by simp) (by simp) fun l' hl' => ?_
    simp only [go_sem, Pl.a, Pl.c4, ren, rens]
    refine ⟨(d, ⟨w, h, rd, l'⟩), made_of (by omega) (by omega) hl1 hc1 hf1 hl', ?_⟩
    refine kept_new (A := [some (Dr d)]) 1 4 rfl rfl (by omega) ?_ (fun i x hx => ?_) (iv_row _ _ _) rfl
    · simp only [Pl.a, Pl.c4, ren, rens, hl'.1]; rfl
    · match i, hx with
      | 0, hx => simp at hx; subst hx; exact ⟨dr_bel _ _, rfl⟩
end Go.Proofs

namespace Go.Proofs
open Go Go.Sx
attribute [local irreducible] Run

theorem mem_gt {l : List Int} {x : Int} (h : x ∈ l) : ∃ i, i < l.length ∧ gt l i = x := by
  obtain ⟨i, hi, e⟩ := List.mem_iff_getElem.1 h
  exact ⟨i, hi, by unfold gt; rw [List.getD_eq_getElem?_getD, List.getElem?_eq_getElem hi, ← e]; rfl⟩
theorem mxL_or : ∀ (l : List Int) (a : Int), mxL a l = a ∨ mxL a l ∈ l
  | [], _ => .inl rfl
  | c :: l, a => by
    rw [mxL]
    rcases mxL_or l (if a < c then c else a) with h | h
    · rw [h]; split
      · exact .inr (by simp)
      · exact .inl rfl
    · exact .inr (by simp [h])
structure Rp where
  w : Int
  h : Int
  rd : Bool
  cs : List Int
def Rp.v (p : Rp) : AVal := .agg [.int .i64 p.w, .int .i64 p.h, .bool p.rd, vw p.cs]
def Rp.pl (p : Rp) : Pl := ⟨p.w.toNat, p.h.toNat, p.rd, p.cs⟩
def Rp.err (p : Rp) : Int :=
  if ¬ ((1 ≤ p.w ∧ p.w ≤ 16) ∧ (1 ≤ p.h ∧ p.h ≤ 16)) then 2 else if (p.cs.length : Int) ≠ p.w * p.h then 3 else if ¬ ∀ c ∈ p.cs, 0 ≤ c ∧ c ≤ 6 then 2 else if gmax p.cs = 0 then 7 else 0
theorem Rp.ok {p : Rp} (h : p.err = 0) : PlOK p.pl ∧ p.v = p.pl.v := by
  unfold Rp.err at h
  by_cases h1 : (1 ≤ p.w ∧ p.w ≤ 16) ∧ (1 ≤ p.h ∧ p.h ≤ 16)
  · rw [if_neg (fun h => h h1)] at h
    by_cases h2 : (p.cs.length : Int) = p.w * p.h
    · rw [if_neg (fun h => h h2)] at h
      by_cases h3 : ∀ c ∈ p.cs, 0 ≤ c ∧ c ≤ 6
      · rw [if_neg (fun h => h h3)] at h
        by_cases h4 : gmax p.cs = 0
        · rw [if_pos h4] at h; omega
        · have ew : ((p.w.toNat : Nat) : Int) = p.w := by omega
          have eh : ((p.h.toNat : Nat) : Int) = p.h := by omega
          have hl : p.cs.length = p.w.toNat * p.h.toNat := by
            have : (p.cs.length : Int) = ((p.w.toNat * p.h.toNat : Nat) : Int) := by push_cast; rw [ew, eh, h2]
            omega
          refine ⟨⟨by show 1 ≤ p.w.toNat ∧ p.w.toNat ≤ 16; omega, by show 1 ≤ p.h.toNat ∧ p.h.toNat ≤ 16; omega, hl, h3, ?_⟩, ?_⟩
          · have hm : gmax p.cs ∈ p.cs := by
              rcases mxL_or p.cs 0 with h | h
              · exact absurd h h4
              · exact h
            obtain ⟨i, hi, hie⟩ := mem_gt hm
            exact ⟨i, by show i < p.w.toNat * p.h.toNat; omega, by show gt p.cs i ≠ 0; rw [hie]; exact h4⟩
          · unfold Rp.v Pl.v Pl.a Pl.c4 Rp.pl
            simp only [ew, eh]
      · rw [if_pos h3] at h; omega
    · rw [if_pos h2] at h; omega
  · rw [if_pos h1] at h; omega

set_option maxHeartbeats 2000000 in
theorem Check_raw (p : Rp) (hlen : p.cs.length ≤ 1000000) : Ans Tryd.prog n_field_Check [p.v] [] (.int .i64 p.err) [] := by
  by_cases hok : p.err = 0
  · obtain ⟨h1, h2⟩ := Rp.ok hok
    rw [hok, h2]
    exact Check_ok h1
  · unfold Rp.err at hok ⊢
    refine spec_run e_field_Check fun G => ?_
    simp only [go_sem, Rp.v, vw]
    by_cases hw : 1 ≤ p.w ∧ p.w ≤ 16
    · refine cP (within_yes hw) ?_
      simp only [go_sem]
      by_cases hh : 1 ≤ p.h ∧ p.h ≤ 16
      · rw [if_neg (fun h => h ⟨hw, hh⟩)] at hok ⊢
        refine cP (within_yes hh) ?_
        obtain ⟨w, hw'⟩ : ∃ w : Nat, (w : Int) = p.w := ⟨p.w.toNat, by omega⟩
        obtain ⟨h, hh'⟩ : ∃ h : Nat, (h : Int) = p.h := ⟨p.h.toNat, by omega⟩
        have hN : w * h ≤ 256 := Nat.mul_le_mul (show w ≤ 16 by omega) (show h ≤ 16 by omega)
        have em : IntKind.i64.wrap (p.w * p.h) = p.w * p.h := by rw [← hw', ← hh', w64 (by push_cast at *; omega)]
        by_cases hl : (p.cs.length : Int) = p.w * p.h
        · rw [if_neg (fun h => h hl)] at hok ⊢
          have hl' : ((p.cs.length : Int) != p.w * p.h) = false := by simp [hl]
          simp only [go_sem, List.length_map, em, hl']
          refine loop_ind k_field_Check_r11.eq_1 (fun a : Nat × Heap => a.1 ≤ p.cs.length ∧ ∀ c ∈ p.cs.take a.1, 0 ≤ c ∧ c ≤ 6) (fun a => p.cs.length - a.1)
            (fun a => (tsets 41 [(1, .ptr 0 0 0 1), (2, .int .i64 0), (25, vw p.cs), (26, .int .i64 p.cs.length), (27, .int .i64 a.1)], some (.cells false 4 [p.v]) :: a.2)) (0, []) ⟨Nat.zero_le _, by simp⟩ (by simp [go_sem, vw]) rfl ?_
          rintro ⟨i, X⟩ ⟨hi, hm⟩ ih
          dsimp only at hi hm ih ⊢
          by_cases h1 : i < p.cs.length
          · have h2 : (i : Int) < p.cs.length := by omega
            have h3 := idx_next h1 (by omega)
            have n0 : ¬ (i : Int) < 0 := by omega
            have hx := gt_get h1
            have hT : p.cs.take (i + 1) = p.cs.take i ++ [gt p.cs i] := by rw [List.take_add_one, gt_get h1]; rfl
            have hmem := gt_mem h1
            have ihn := fun X => ih (i + 1, X) (by dsimp only; omega)
            clear ih
            simp only [hT] at ihn
            generalize gt p.cs i = z at *
            simp only [go_sem, vw, List.length_map, h2, n0, hx]
            by_cases hz : 0 ≤ z ∧ z ≤ 6
            · refine cP (within_yes hz) ?_
              simp only [go_sem, h3]
              exact ihn _ ⟨h1, fun x hx' => by
                rcases List.mem_append.1 hx' with h | h
                · exact hm x h
                · simp only [List.mem_singleton] at h
                  rw [h]; exact hz⟩ _ (by simp [go_sem, vw])
            · rw [if_pos fun h => hz (h z hmem)]
              refine cP (within_no hz) ?_
              simp only [go_sem]
          · have h2 : ¬ (i : Int) < p.cs.length := by omega
            rw [List.take_of_length_le (by omega)] at hm
            rw [if_neg (fun h => h hm)] at hok ⊢
            have h4 : gmax p.cs = 0 := by
              by_cases h : gmax p.cs = 0
              · exact h
              · rw [if_neg h] at hok; omega
            rw [if_pos h4]
            have hne : p.cs ≠ [] := fun hn => by
              rw [hn] at hl
              simp only [List.length_nil] at hl
              have := Int.mul_pos (show (0 : Int) < p.w by omega) (show (0 : Int) < p.h by omega)
              omega
            have hmx := max_ok hne (fun c hc => (hm c hc).1) hlen
            rw [h4] at hmx
            simp only [go_sem, Rp.v, vw, List.length_map, h2]
            refine cP hmx ?_
            simp only [go_sem]
        · rw [if_pos hl]
          have hl' : ((p.cs.length : Int) != p.w * p.h) = true := by simp [hl]
          simp only [go_sem, List.length_map, em, hl']
      · rw [if_pos (fun h => hh h.2)]
        refine cP (within_no hh) ?_
        simp only [go_sem]
    · rw [if_pos (fun h => hw h.1)]
      refine cP (within_no hw) ?_
      simp only [go_sem]

end Go.Proofs

