/- Laws within laws. -/
import Derived.Test.YtbjfjgiinjhikabYbG
import Derived.Test.YtbjfjgiinjhikabYbXk
import Derived.Test.YtbjfjgiinjhikabSxF
namespace Go.Proofs
open Go Go.Sx

@[go_sem] theorem dr_bel_eq (w : Int) (S : Nat → Prop) : (Dr w).bel S = True := eq_true (dr_bel w S)
@[go_sem] theorem rg_bel_eq (r : Rg) (S : Nat → Prop) : Bel S r.v = True := eq_true (rg_bel r S)

theorem In_ok (w : Int) (r : Rg) (h1 : -1152921504606846976 ≤ r.lo) (h2 : r.lo ≤ r.hi) (h3 : r.hi ≤ 1152921504606846976) : Ans Try.prog n_kit_Dice_In [.ptr 0 0 0 1, r.v] [some (Dr w)] (.int .i64 (btw w r.lo r.hi)) [some (Dr (dstep w))] := by
  have e : (if r.hi > r.lo then r.hi else r.lo) = r.hi := by split <;> omega
  refine spec_run e_kit_Dice_In fun G => ?_
  simp only [go_sem, Rg.v, e]
  refine callD (between_ok w r.lo r.hi h1 h2 h3) rfl ⟨.int _ _, .int _ _, trivial⟩ (.int _ _) (dr_bel _ _) (dr_bel _ _) (by simp) (by simp) ?_
  simp only [go_sem]
  exact ⟨_, rfl⟩

def inR (w : Int) (r : Rg) (exact : Bool) : Rg := if exact then ⟨btw w r.lo r.hi, btw w r.lo r.hi⟩ else hullR (btw w r.lo r.hi) (btw (dstep w) r.lo r.hi)
theorem inR_in {w : Int} {r : Rg} {b : Bool} (h : r.lo ≤ r.hi) : r.lo ≤ (inR w r b).lo ∧ (inR w r b).lo ≤ (inR w r b).hi ∧ (inR w r b).hi ≤ r.hi := by
  have h1 := btw_in (w := w) h
  have h2 := btw_in (w := dstep w) h
  unfold inR hullR
  split
  · exact ⟨h1.1, Int.le_refl _, h1.2⟩
  · refine ⟨?_, ?_, ?_⟩ <;> dsimp only <;> (repeat' split) <;> omega

def Pr : Row := .cells false 1 [.ptr 0 0 0 1]
def Br (b : Bool) : Row := .cells false 1 [.bool b]

theorem in_ok (w : Int) (r : Rg) (b : Bool) (h1 : -1152921504606846976 ≤ r.lo) (h2 : r.lo ≤ r.hi) (h3 : r.hi ≤ 1152921504606846976) :
    Ans Try.prog n_kit_WithinLaw_1 [r.v, .ptr 1 0 0 1, .ptr 2 0 0 1] [some (Dr w), some Pr, some (Br b)] (inR w r b).v [some (Dr (d2 w)), some Pr, some (Br b)] := by
  have hi := In_ok w r h1 h2 h3
  have hi2 := In_ok (dstep w) r h1 h2 h3
  cases b
  · refine spec_run e_kit_WithinLaw_1 fun G => ?_
    simp only [go_sem, Rg.v, Pr, Br]
    refine dD hi ?_
    simp only [go_sem]
    refine cD hi2 ?_
    simp only [go_sem, inR, hullR, d2]
    exact ⟨_, rfl⟩
  · refine spec_run e_kit_WithinLaw_1 fun G => ?_
    simp only [go_sem, Rg.v, Pr, Br]
    refine dD hi ?_
    simp only [go_sem]
    refine cD hi2 ?_
    simp only [go_sem, inR, d2]
    exact ⟨_, rfl⟩

def inLaw (w : Int) (l : Lw) (b : Bool) : Lw := ⟨inR w l.perv b, inR (d2 w) l.gain b, inR (d2 (d2 w)) l.shift b, inR (d2 (d2 (d2 w))) l.full b, inR (d2 (d2 (d2 (d2 w)))) l.part b⟩

/-- A call of the closure. -/
theorem within_call {P : Program} {R : Runner} {ao : AOper} {lo hi : Nat} {l : List AOper} {fs : List Sx.Frame} {ρ : List AVal} {tr : List (List Nat × List Nat)} {ss : List (List AOper)} {Q : Goal} {g : Nat} {w w' : Int} {r v : AVal} {b : Bool} {X Y : Row}
    (h : Ans P g [r, .ptr 1 0 0 1, .ptr 2 0 0 1] [some (Dr w), some Pr, some (Br b)] v [some (Dr w'), some Pr, some (Br b)]) (hr : Bel (fun _ => False) r) (hv : Bel (fun _ => False) v)
    (hd : dynOK ao.free [0, 1, 3] [0, 1, 3] tr lo = true)
    (hK : R (.grp lo l (tr ++ [([0, 1, 3], [0, 1, 3])]) hi ss) fs ⟨setD ρ ao.dst v, [some (Dr w'), some Pr, some X, some (Br b), some Y], []⟩ Q) :
    DCallR P R g [r, .ptr 1 0 0 1, .ptr 3 0 0 1] ao lo l tr hi ss fs ρ [some (Dr w), some Pr, some X, some (Br b), some Y] [] Q := by
  have e : outΔ (outσ [0, 1, 3] 5) 0 [some (Dr w'), some Pr, some (Br b)] = [(0, Dr w'), (1, Pr), (3, Br b)] := rfl
  refine dS h [0, 1, 3] (by decide) ⟨rfl, rfl, rfl, trivial⟩ ?_ ?_ ⟨dr_bel _ _, ?_, ?_, trivial⟩ rfl hv ⟨dr_bel _ _, ?_, ?_, trivial⟩ (by simp) (by simp) ?_ ?_
  · show _ = [ren _ r, .ptr 1 0 0 1, .ptr 3 0 0 1]
    rw [ren_same hr]
  · exact ⟨hr.mono fun _ h => h.elim, by rw [bel_ptr]; simp, by rw [bel_ptr]; simp, trivial⟩
  · unfold Pr; rw [row_bel_cells]; exact ⟨by rw [bel_ptr]; simp, trivial⟩
  · unfold Br; rw [row_bel_cells]; exact ⟨.bool _, trivial⟩
  · unfold Pr; rw [row_bel_cells]; exact ⟨by rw [bel_ptr]; simp, trivial⟩
  · unfold Br; rw [row_bel_cells]; exact ⟨.bool _, trivial⟩
  · exact hd
  · exact hK

theorem within_callS {P : Program} {G : Ctx} {R : Runner} {k : Nat} {l : List AOper} {fs : List Sx.Frame} {ρ : List AVal} {Q : Goal} {g : Nat} {w w' : Int} {r v : AVal} {b : Bool} {X Y : Row} {dst : Option Nat}
    (h : Ans P g [r, .ptr 1 0 0 1, .ptr 2 0 0 1] [some (Dr w), some Pr, some (Br b)] v [some (Dr w'), some Pr, some (Br b)]) (hr : Bel (fun _ => False) r) (hv : Bel (fun _ => False) v) (hk : k ≤ 5)
    (hK : R (.ops l) fs ⟨setD ρ dst v, [some (Dr w'), some Pr, some X, some (Br b), some Y], []⟩ Q) :
    CallR P G k R g [r, .ptr 1 0 0 1, .ptr 3 0 0 1] dst l fs ρ [some (Dr w), some Pr, some X, some (Br b), some Y] [] Q := by
  refine callS h [0, 1, 3] (by decide) ⟨rfl, rfl, rfl, trivial⟩ ?_ ?_ ⟨dr_bel _ _, ?_, ?_, trivial⟩ (Nat.le_refl _) (hv.mono fun _ h => h.elim) ⟨dr_bel _ _, ?_, ?_, trivial⟩ (by simp) hk (by simp) ?_
  · show _ = [ren _ r, .ptr 1 0 0 1, .ptr 3 0 0 1]
    rw [ren_same hr]
  · exact ⟨hr.mono fun _ h => h.elim, by rw [bel_ptr]; simp, by rw [bel_ptr]; simp, trivial⟩
  · unfold Pr; rw [row_bel_cells]; exact ⟨by rw [bel_ptr]; simp, trivial⟩
  · unfold Br; rw [row_bel_cells]; exact ⟨.bool _, trivial⟩
  · unfold Pr; rw [row_bel_cells]; exact ⟨by rw [bel_ptr]; simp, trivial⟩
  · unfold Br; rw [row_bel_cells]; exact ⟨.bool _, trivial⟩
  · rw [ren_same hv]; exact hK

theorem withinLaw_ok (w : Int) (l : Lw) (hl : LwOK l) (b : Bool) : Ans Try.prog n_kit_WithinLaw [.ptr 0 0 0 1, l.v, .bool b] [some (Dr w)] (inLaw w l b).v [some (Dr (d2 (d2 (d2 (d2 (d2 w))))))] := by
  obtain ⟨p1, p2, p3, p4, p5⟩ := hl
  have c1 := in_ok w l.perv b (by omega) (by omega) (by omega)
  have c2 := in_ok (d2 w) l.gain b (by omega) (by omega) (by omega)
  have c3 := in_ok (d2 (d2 w)) l.shift b (by omega) (by omega) (by omega)
  have c4 := in_ok (d2 (d2 (d2 w))) l.full b (by omega) (by omega) (by omega)
  have c5 := in_ok (d2 (d2 (d2 (d2 w)))) l.part b (by omega) (by omega) (by omega)
  refine spec_run e_kit_WithinLaw fun G => ?_
  simp only [go_sem, Lw.v, Lw.cs]
  refine within_call (X := _) (Y := _) c1 (rg_bel _ _) (rg_bel _ _) ?_ ?_
  · simp only [go_sem]
  simp only [go_sem, Pr, Br, Rg.v]
  refine within_call (X := _) (Y := _) c2 (rg_bel _ _) (rg_bel _ _) ?_ ?_
  · simp only [go_sem]
  simp only [go_sem, Pr, Br, Rg.v]
  refine within_call (X := _) (Y := _) c3 (rg_bel _ _) (rg_bel _ _) ?_ ?_
  · simp only [go_sem]
  simp only [go_sem, Pr, Br, Rg.v]
  refine within_call (X := _) (Y := _) c4 (rg_bel _ _) (rg_bel _ _) ?_ ?_
  · simp only [go_sem]
  simp only [go_sem, Pr, Br, Rg.v]
  refine within_callS (X := _) (Y := _) c5 (rg_bel _ _) (rg_bel _ _) (by decide) ?_
  simp only [go_sem, Pr, Br, Rg.v]
  exact ⟨rfl, _, rfl⟩

theorem within2_ok (a b : Rg) (h : b.lo ≤ a.lo ∧ a.hi ≤ b.hi) : Ans Try.prog n_kit_Within [a.v, b.v] [] (.bool true) [] := by
  refine spec_run e_kit_Within fun G => ?_
  simp only [go_sem, Rg.v, h.1, h.2]

/-! ### Narrower laws -/
structure SubR (a b : Rg) : Prop where
  lo : b.lo ≤ a.lo
  hi : a.hi ≤ b.hi
structure SubL (m l : Lw) : Prop where
  perv : SubR m.perv l.perv
  gain : SubR m.gain l.gain
  shift : SubR m.shift l.shift
  full : SubR m.full l.full
  part : SubR m.part l.part
theorem inLaw_ok {w : Int} {l : Lw} {b : Bool} (hl : LwOK l) : LwOK (inLaw w l b) ∧ SubL (inLaw w l b) l := by
  obtain ⟨p1, p2, p3, p4, p5⟩ := hl
  have c1 := inR_in (w := w) (r := l.perv) (b := b) p1.2.1
  have c2 := inR_in (w := d2 w) (r := l.gain) (b := b) p2.2.1
  have c3 := inR_in (w := d2 (d2 w)) (r := l.shift) (b := b) p3.2.1
  have c4 := inR_in (w := d2 (d2 (d2 w))) (r := l.full) (b := b) p4.2.1
  have c5 := inR_in (w := d2 (d2 (d2 (d2 w)))) (r := l.part) (b := b) p5.2.1
  unfold inLaw
  refine ⟨⟨?_, ?_, ?_, ?_, ?_⟩, ⟨⟨c1.1, c1.2.2⟩, ⟨c2.1, c2.2.2⟩, ⟨c3.1, c3.2.2⟩, ⟨c4.1, c4.2.2⟩, ⟨c5.1, c5.2.2⟩⟩⟩ <;> dsimp only <;> omega

theorem div_anti {n a b : Int} (hn : 0 ≤ n) (ha : 1 ≤ a) (hab : a ≤ b) : n / b ≤ n / a := by
  rw [Int.le_ediv_iff_mul_le (by omega)]
  have h2 : n / b * a ≤ n / b * b := Int.mul_le_mul_of_nonneg_left hab (Int.ediv_nonneg hn (by omega))
  have h3 := Int.ediv_mul_le n (b := b) (by omega)
  omega
theorem rup_anti {n a b : Int} (hn : 0 ≤ n) (ha : 1 ≤ a) (hab : a ≤ b) : rup n b ≤ rup n a := by
  have h1 : n ≤ rup n a * a := by
    have := Int.lt_ediv_add_one_mul_self (n + a - 1) (b := a) (by omega)
    unfold rup
    rw [Int.add_mul] at this
    omega
  have h0 : 0 ≤ rup n a := Int.ediv_nonneg (by omega) (by omega)
  have h2 : rup n a * a ≤ rup n a * b := Int.mul_le_mul_of_nonneg_left hab h0
  have h3 : n + b - 1 < (rup n a + 1) * b := by rw [Int.add_mul]; omega
  have := Int.ediv_lt_of_lt_mul (by omega : 0 < b) h3
  show (n + b - 1) / b ≤ _
  omega

theorem drive_sub {l m : Lw} (hl : LwOK l) (hm : LwOK m) (h : SubL m l) {g p : Int} (hp : 0 ≤ p) : SubR (driveOf m g p) (driveOf l g p) := by
  have k1 := div_anti (n := 1000 * p) (by omega) (show 1 ≤ m.gain.hi by have := hm.gain; omega) h.gain.hi
  have k2 := rup_anti (n := 1000 * p) (by omega) hl.gain.1 h.gain.lo
  have s1 := h.shift.lo; have s2 := h.shift.hi
  exact ⟨bnd_mono (by omega), bnd_mono (by omega)⟩
theorem mn_mono2 {a b c d : Int} (h : a ≤ b) (h2 : c ≤ d) : mn a c ≤ mn b d := by unfold mn; split <;> split <;> omega
theorem cur_sub {l m : Lw} (hl : LwOK l) (hm : LwOK m) (h : SubL m l) {g p : Int} (hp : 0 ≤ p) : SubR (curOf m g p) (curOf l g p) := by
  have hd := drive_sub hl hm h (g := g) hp
  have d0 := (bnd_in (g + l.shift.lo + (1000 * p) / l.gain.hi)).1
  have d1 := (bnd_in (g + m.shift.hi + rup (1000 * p) m.gain.lo)).1
  have d2 := drive_le hl (g := g) (p := p) hp
  have d3 := drive_le hm (g := g) (p := p) hp
  have e0 : 0 ≤ (driveOf l g p).lo := d0
  have e1 : 0 ≤ (driveOf m g p).hi := d1
  have e2 : 0 ≤ (driveOf m g p).lo := Int.le_trans e0 hd.lo
  have lp := hl.perv; have mp := hm.perv; have lq := hl.part; have mq := hm.part; have lf := hl.full; have mf := hm.full
  have hp1 := h.perv.lo; have hp2 := h.perv.hi; have hq1 := h.part.lo; have hq2 := h.part.hi
  unfold curOf
  generalize driveOf l g p = dl at *
  generalize driveOf m g p = dm at *
  obtain ⟨r0, _, _⟩ := root_ok (cube_nonneg e0)
  obtain ⟨r1, _, _⟩ := root_ok (cube_nonneg e1)
  obtain ⟨u0, _, _⟩ := rootU_ok (cube_nonneg e1)
  have a1 := root_mono (cube_nonneg e0) (cube_le e0 hd.lo)
  have a2 := rootU_mono (cube_nonneg e1) (cube_le e1 hd.hi)
  have b1 : l.perv.lo * root (cube dl.lo) ≤ m.perv.lo * root (cube dm.lo) := Int.mul_le_mul hp1 a1 r0 (by omega)
  have b2 : m.perv.hi * rootU (cube dm.hi) ≤ l.perv.hi * rootU (cube dl.hi) := Int.mul_le_mul hp2 a2 (by omega) (by omega)
  have c1 : spaceLo l dl ≤ spaceLo m dm := Int.ediv_le_ediv (by decide) b1
  have c2 : spaceHi m dm ≤ spaceHi l dl := rup_mono b2 (by decide)
  have z1 : 0 ≤ spaceLo l dl := Int.ediv_nonneg (Int.mul_nonneg lp.1 r0) (by decide)
  have z2 : 0 ≤ spaceHi m dm := (rup_in (Int.mul_nonneg (by omega) (by omega)) (by decide)).1
  have f1 := mn_mono2 c1 h.full.lo
  have f2 := mn_mono2 c2 h.full.hi
  have y1 : 0 ≤ mn (spaceLo l dl) l.full.lo := (mn_in z1 lf.1).1
  have y2 : 0 ≤ mn (spaceHi m dm) m.full.hi := (mn_in z2 (by omega)).1
  exact ⟨Int.ediv_le_ediv (by decide) (Int.mul_le_mul hq1 f1 y1 (by omega)), rup_mono (Int.mul_le_mul hq2 f2 y2 (by omega)) (by decide)⟩

set_option maxRecDepth 20000 in
theorem within_law (xs : List Int) (hl : xs.length ≤ 9223372036854775807) (a1 a2 : Int) (b : Bool) : Ans Try.prog n_law02_CurveWithin [.view (xs.map (.int .i64)), .int .i64 a1, .int .i64 a2, .bool b] [] (.bool true) [] := by
  have hd := newdice_ok xs hl
  generalize feed (IntKind.u64.wrap (IntKind.u64.wrap xs.length + 1374496523)) xs = w at *
  have hlaw := lawof_ok w
  have hin := lawOf_in w
  generalize lawOf w = l at *
  generalize lawEnd w = w1 at *
  have hwl := withinLaw_ok w1 l hin b
  obtain ⟨him, hsub⟩ := inLaw_ok (w := w1) (b := b) hin
  generalize inLaw w1 l b = m at *
  have hm1 := mod_pos a1 20000 (by decide)
  have hm2 := mod_pos a2 400000 (by decide)
  have g1 : 0 ≤ a1 % 20000 ∧ a1 % 20000 < 20000 := by omega
  have g2 : 0 ≤ a2 % 400000 ∧ a2 % 400000 < 400000 := by omega
  generalize a1 % 20000 = g0 at *
  generalize a2 % 400000 = p at *
  generalize hg : g0 - 10000 = g at *
  have v1 : IntKind.i64.wrap g = g := IntWalk.i64_in _ (by omega)
  have c1 := Current_ok l hin g p (by omega) (by omega)
  have c2 := Current_ok m him g p (by omega) (by omega)
  have e1 := Drive_ok l hin g p (by omega) (by omega)
  have e2 := Drive_ok m him g p (by omega) (by omega)
  have s1 := cur_sub hin him hsub (g := g) g2.1
  have s2 := drive_sub hin him hsub (g := g) g2.1
  generalize curOf l g p = x1 at *
  generalize curOf m g p = x2 at *
  generalize driveOf l g p = y1 at *
  generalize driveOf m g p = y2 at *
  refine spec_run e_law02_CurveWithin fun G => ?_
  simp only [go_sem]
  refine callN1 hd ⟨by rw [bel_view]; exact bels_map _ _ fun _ => .int _ _, trivial⟩ (dr_bel _ _) (by simp) (by simp) ?_
  simp only [go_sem]
  refine callD hlaw rfl trivial (lw_bel _ _) (dr_bel _ _) (dr_bel _ _) (by simp) (by simp) ?_
  simp only [go_sem, Lw.v, Lw.cs]
  refine callD hwl rfl ⟨lw_bel l _, .bool _, trivial⟩ (lw_bel _ _) (dr_bel _ _) (dr_bel _ _) (by simp) (by simp) ?_
  simp only [go_sem, Lw.v, Lw.cs]
  refine callP hm1 ⟨.int _ _, .int _ _, trivial⟩ (.int _ _) (by simp) (by simp) ?_
  simp only [go_sem, hg, v1]
  refine callP hm2 ⟨.int _ _, .int _ _, trivial⟩ (.int _ _) (by simp) (by simp) ?_
  simp only [go_sem]
  refine callP c1 ⟨lw_bel l _, .int _ _, .int _ _, trivial⟩ ?_ (Nat.zero_le _) (fun q hq => by simp at hq) ?_
  · simp only [go_sem, Rg.v]
  simp only [go_sem, Rg.v]
  refine callP c2 ⟨lw_bel m _, .int _ _, .int _ _, trivial⟩ ?_ (Nat.zero_le _) (fun q hq => by simp at hq) ?_
  · simp only [go_sem, Rg.v]
  simp only [go_sem, Rg.v]
  refine callP e1 ⟨lw_bel l _, .int _ _, .int _ _, trivial⟩ ?_ (Nat.zero_le _) (fun q hq => by simp at hq) ?_
  · simp only [go_sem, Rg.v]
  simp only [go_sem, Rg.v]
  refine callP e2 ⟨lw_bel m _, .int _ _, .int _ _, trivial⟩ ?_ (Nat.zero_le _) (fun q hq => by simp at hq) ?_
  · simp only [go_sem, Rg.v]
  simp only [go_sem, Rg.v]
  refine cP (within2_ok x2 x1 ⟨s1.lo, s1.hi⟩) ?_
  simp only [go_sem]
  refine cP (within2_ok y2 y1 ⟨s2.lo, s2.hi⟩) ?_
  simp only [go_sem]
  refine cP awake_ok ?_
  simp only [go_sem]
end Go.Proofs
