/- CathodeFirst: all lists of one size, and all sizes. -/
import Derived.Test.YtgikocfbedopmaaYdR
import Derived.Test.YtgikocfbedopmaaYdF
namespace Go.Proofs
open Go Go.Sx
attribute [local irreducible] Run

/-- What lies in the rows of the law. -/
structure FB (B : Heap) (c : Ct) (d : Dm) (M : List Ht) (jM : Nat) (H : Heap) : Prop where
  ext : ∃ Y, H = B ++ Y
  bands : H[1]? = some (some (BdR c.bands))
  coat : H.cellsAt 2 = some (false, 7, [c.v (.sl 1 0 c.bands.length)])
  dem : H.cellsAt 7 = some (false, 5, [d.v])
  menu : H.cellsAt jM = some (true, 3, M.map Ht.v)
theorem get_app {H : Heap} {j : Nat} {x : Option Row} (h : H[j]? = some x) (Y : Heap) : (H ++ Y)[j]? = some x := by
  rw [List.getElem?_append_left (List.getElem?_eq_some_iff.1 h).1]; exact h
theorem FB.app {B : Heap} {c : Ct} {d : Dm} {M : List Ht} {jM : Nat} {H : Heap} (h : FB B c d M jM H) (Y : Heap) : FB B c d M jM (H ++ Y) :=
  ⟨by obtain ⟨Z, rfl⟩ := h.ext; exact ⟨Z ++ Y, by simp⟩, get_app h.bands Y, cellsAt_app h.coat Y, cellsAt_app h.dem Y, cellsAt_app h.menu Y⟩
def BL (b : Option (List Int × Int)) (v : AVal) (t : Int) (H : Heap) : Prop :=
  match b with
  | none => v = .nilsl ∧ t = 0
  | some (l, n) => 0 < l.length ∧ t = n ∧ ∃ Q, v = .sl Q 0 l.length ∧ H[Q]? = some (some (.cells true 1 (ivs l)))
theorem BL.app {b : Option (List Int × Int)} {v : AVal} {t : Int} {H : Heap} (h : BL b v t H) (Y : Heap) : BL b v t (H ++ Y) := by
  cases b with
  | none => exact h
  | some l =>
    obtain ⟨h0, h1, Q, h2, h3⟩ := h
    exact ⟨h0, h1, Q, h2, get_app h3 Y⟩

def fD (m jM n : Nat) (a9 a10 a11 b13 : AVal) (t14 : Int) (s : Nat) : List (Nat × AVal) :=
  [(1, .int .i64 m), (6, .ptr 2 0 0 1), (7, .sl jM 0 n), (8, .ptr 7 0 0 1), (9, a9), (10, a10), (11, a11), (12, .int .i64 n), (13, b13), (14, .int .i64 t14), (15, .int .i64 s)]

set_option maxRecDepth 20000 in
set_option maxHeartbeats 8000000 in
theorem w_loop {B : Heap} {G : Ctx} {fs : List Sx.Frame} {Q : Goal} (c : Ct) (hc : CtOK c) (d : Dm) (hd : DmOK d) (M : List Ht) (hl : LsOK M) (hn : 1 ≤ M.length ∧ M.length ≤ 4) (ht : ∀ z ∈ M, z.ticks ≤ 100) {m jM s : Nat} (hs : 1 ≤ s ∧ s ≤ 5) {a9 a10 a11 : AVal}
    (hK : ∀ H b13 t14 ρ', FB B c d M jM H → BL (bst c d M s (M.length ^ s)) b13 t14 H → Wk ρ' (tsets 180 (fD m jM M.length a9 a10 a11 b13 t14 (s + 1))) → Sx.Loop Try.prog G 0 none k_law03_CathodeFirst_r43 fs ⟨ρ', H, []⟩ Q)
    {H0 : Heap} {b0 : AVal} {t0 : Int} (hF0 : FB B c d M jM H0) (hB0 : BL (bst c d M s 0) b0 t0 H0) {ρ : List AVal} (hρ : Wk ρ (tsets 180 (fT m jM M.length a9 a10 a11 b0 t0 s (M.length ^ s) 0))) :
    Sx.Loop Try.prog G 0 none k_law03_CathodeFirst_r41 ([.blk 4, .blk 1, .seq (.reg k_law03_CathodeFirst_r42 false), .rnd k_law03_CathodeFirst_r43] ++ fs) ⟨ρ, H0, []⟩ Q := by
  have hp : M.length ^ s ≤ 4 ^ s := Nat.pow_le_pow_left hn.2 _
  have hp2 : 4 ^ s ≤ 4 ^ 5 := Nat.pow_le_pow_right (by decide) hs.2
  have hfin := @hK
  clear hK
  refine loop_ind k_law03_CathodeFirst_r41.eq_1 (fun a : Nat × Heap × AVal × Int => a.1 ≤ M.length ^ s ∧ FB B c d M jM a.2.1 ∧ BL (bst c d M s a.1) a.2.2.1 a.2.2.2 a.2.1) (fun a => M.length ^ s - a.1)
    (fun a => (tsets 180 (fT m jM M.length a9 a10 a11 a.2.2.1 a.2.2.2 s (M.length ^ s) a.1), a.2.1)) (0, H0, b0, t0) ⟨Nat.zero_le _, hF0, hB0⟩ hρ rfl ?_
  rintro ⟨w, H, b13, t14⟩ ⟨hw, hF, hB⟩ ih
  dsimp only at hw hF hB ih ⊢
  by_cases h1 : w < M.length ^ s
  · have h2 : (w : Int) < (M.length ^ s : Nat) := by omega
    have h3 : IntKind.i64.wrap ((w : Int) + 1) = ((w + 1 : Nat) : Int) := by rw [w64 (by omega)]; omega
    have hsu := bst_succ c d M s w
    have hL := digL_len M.length s w
    have hLi := digL_in (c := M.length) (by omega) s w
    have hpo := pick_ok hl ht hLi (by omega)
    have hJ := Judge_run c hc d hd (pick M (digL M.length s w)) hpo
    have hpl := pick_len M (digL M.length s w)
    rw [hL] at hpl
    simp only [go_sem, fT, h2]
    refine dig_loop (m := m) (jM := jM) (s := s) (al := M.length ^ s) (w := w) (a9 := a9) (a10 := a10) (a11 := a11) (b13 := b13) (t14 := t14) M hn hs h1 hl ht hF.menu ?_ (by simp [go_sem, fT])
    intro g1 g2 Y r
    generalize digL M.length s w = L at *
    have hgl : ∀ X : Heap, (H ++ some g1 :: X)[H.length + 1]? = X[0]? := fun X => by
      rw [List.getElem?_append_right (by omega), show H.length + 1 - H.length = 1 by omega]; rfl
    simp only [go_sem, fT, cellsAt_app hF.coat, cellsAt_app hF.dem, Ct.v, Ct.cs, Dm.v, Dm.cs]
    refine cF hJ 6 ⟨.inl (ct_frz (H := _) (get_app hF.bands _)), .inl rfl, .inl (sch_frz (H := _) (hgl _) hpl.symm), trivial⟩ ?_
    simp only [go_sem, h3]
    have hFn := fun Z => hF.app Z
    have hBn := fun Z => hB.app Z
    refine ⟨fun hs1 => ?_, fun hs1 => ?_⟩
    · have hnew : ∀ b, better c d M b L = some (L, lenOfL (pick M L)) → b = bst c d M s w → BL (bst c d M s (w + 1)) (.sl (H.length + 3) 0 s) (lenOfL (pick M L)) (H ++ ([some g1, some (.cells true 3 ((pick M L).map Ht.v)), some g2, some (.cells true 1 (ivs L))] ++ Y)) := fun b hb hbe => by
        rw [hsu, ← hbe, hb]
        refine ⟨by omega, rfl, H.length + 3, by rw [hL], ?_⟩
        rw [List.getElem?_append_right (by omega), show H.length + 3 - H.length = 3 by omega]; rfl
      rcases hb : bst c d M s w with _ | ⟨bl, bn⟩
      · rw [hb] at hB
        obtain ⟨rfl, rfl⟩ := hB
        simp only [go_sem, h3]
        exact ih (w + 1, _, _, _) (by dsimp only; omega) ⟨h1, hFn _, hnew none (by unfold better; rw [if_pos hs1]) hb.symm⟩ _ (by simp [go_sem, fT])
      · rw [hb] at hB
        obtain ⟨hb0, rfl, q, rfl, hq⟩ := hB
        have hq' := fun Y => cells_at (get_app hq Y)
        have z0 : ((bl.length : Int) == 0) = false := by simp only [beq_eq_false_iff_ne, ne_eq]; omega
        simp only [go_sem, hq', ivs_len, z0, h3]
        refine ⟨fun hlt => ?_, fun hlt => ?_⟩
        · have hle : ¬ t14 ≤ lenOfL (pick M L) := by omega
          exact ih (w + 1, _, _, _) (by dsimp only; omega) ⟨h1, hFn _, hnew (some (bl, t14)) (by unfold better; simp only [if_neg hle, if_pos hs1]) hb.symm⟩ _ (by simp [go_sem, fT])
        · have hle : t14 ≤ lenOfL (pick M L) := by omega
          exact ih (w + 1, _, _, _) (by dsimp only; omega) ⟨h1, hFn _, by
            rw [hsu]
            have h : better c d M (bst c d M s w) L = bst c d M s w := by
              rw [hb]
              unfold better
              simp only [if_pos hle]
            rw [h]
            exact hBn _⟩ _ (by simp [go_sem, fT])
    · exact ih (w + 1, _, _, _) (by dsimp only; omega) ⟨h1, hFn _, by
        rw [hsu]
        have : better c d M (bst c d M s w) L = bst c d M s w := by
          unfold better
          rcases bst c d M s w with _ | ⟨bl, bn⟩
          · simp only [if_neg hs1]
          · simp only [if_neg hs1, ite_self]
        rw [this]
        exact hBn _⟩ _ (by simp [go_sem, fT])
  · have h2 : ¬ (w : Int) < (M.length ^ s : Nat) := by omega
    have h3 : IntKind.i64.wrap ((s : Int) + 1) = ((s + 1 : Nat) : Int) := by rw [w64 (by omega)]; omega
    have h4 : w = M.length ^ s := by omega
    rw [h4] at hB
    simp only [go_sem, fT, h2, h3]
    exact hfin H b13 t14 _ hF hB (by simp [go_sem, fD])

set_option maxRecDepth 20000 in
set_option maxHeartbeats 8000000 in
theorem m_loop {B H0 : Heap} {G : Ctx} {fs : List Sx.Frame} {Q : Goal} (c : Ct) (hc : CtOK c) (d : Dm) (hd : DmOK d) (M : List Ht) (hl : LsOK M) (hn : 1 ≤ M.length ∧ M.length ≤ 4) (ht : ∀ z ∈ M, z.ticks ≤ 100) {m jM : Nat} (hm : m ≤ 5) {a9 a10 a11 : AVal}
    (hK : ∀ H b13 t14, FB B c d M jM H → BL (prevB c d M m) b13 t14 H → Run Try.prog G 0 none 2987 (.out .normal) fs ⟨tsets 180 (fD m jM M.length a9 a10 a11 b13 t14 (m + 1) ++ [(67, .int .i64 ((m + 1 : Nat) : Int)), (68, .int .i64 m), (69, .bool false)]), H, []⟩ Q)
    (hF0 : FB B c d M jM H0) {ρ : List AVal} (hρ : Wk ρ (tsets 180 (fD m jM M.length a9 a10 a11 .nilsl 0 1))) :
    Sx.Loop Try.prog G 0 none k_law03_CathodeFirst_r43 (.blk 0 :: fs) ⟨ρ, H0, []⟩ Q := by
  have hfin := @hK
  clear hK
  refine loop_ind k_law03_CathodeFirst_r43.eq_1 (fun a : Nat × Heap × AVal × Int => 1 ≤ a.1 ∧ a.1 ≤ m + 1 ∧ FB B c d M jM a.2.1 ∧ BL (bst c d M a.1 0) a.2.2.1 a.2.2.2 a.2.1) (fun a => m + 1 - a.1)
    (fun a => (tsets 180 (fD m jM M.length a9 a10 a11 a.2.2.1 a.2.2.2 a.1), a.2.1)) (1, H0, .nilsl, 0) ⟨Nat.le_refl _, by dsimp only; omega, hF0, ⟨rfl, rfl⟩⟩ hρ rfl ?_
  rintro ⟨s, H, b13, t14⟩ ⟨hs1, hs, hF, hB⟩ ih
  dsimp only at hs1 hs hF hB ih ⊢
  by_cases h1 : s ≤ m
  · have h2 : (s : Int) ≤ m := by omega
    simp only [go_sem, fD, h2]
    refine loop_ind k_law03_CathodeFirst_r17.eq_1 (fun a : Nat => a ≤ s) (fun a => s - a)
      (fun a => (tsets 180 (fD m jM M.length a9 a10 a11 b13 t14 s ++ [(16, .int .i64 (M.length ^ a : Nat)), (17, .int .i64 a)]), H)) 0 (Nat.zero_le _) (by simp [go_sem, fD]) rfl ?_
    intro i hi ih2
    dsimp only at ih2 ⊢
    by_cases h3 : i < s
    · have h4 : (i : Int) < s := by omega
      have hp : M.length ^ i ≤ 4 ^ i := Nat.pow_le_pow_left hn.2 _
      have hp2 : 4 ^ i ≤ 4 ^ 5 := Nat.pow_le_pow_right (by decide) (by omega)
      have hmm : M.length ^ i * M.length ≤ 4 ^ 5 * 4 := Nat.mul_le_mul (by omega) hn.2
      have w1 : IntKind.i64.wrap (((M.length ^ i : Nat) : Int) * M.length) = ((M.length ^ (i + 1) : Nat) : Int) := by
        rw [w64 (by rw [← Int.natCast_mul]; omega), ← Int.natCast_mul, ← Nat.pow_succ]
      have w2 : IntKind.i64.wrap ((i : Int) + 1) = ((i + 1 : Nat) : Int) := by rw [w64 (by omega)]; omega
      generalize hpw : M.length ^ i = pw at *
      simp only [go_sem, fD, h4, w1, w2]
      exact ih2 (i + 1) (by omega) h3 _ (by simp [go_sem, fD])
    · have h4 : ¬ (i : Int) < s := by omega
      have h5 : i = s := by omega
      subst h5
      simp only [go_sem, fD, h4]
      exact w_loop c hc d hd M hl hn ht (m := m) (jM := jM) (s := i) (by omega) (a9 := a9) (a10 := a10) (a11 := a11) (fun H' b13' t14' ρ' hF' hB' hw' => ih (i + 1, H', b13', t14') (by dsimp only; omega) ⟨by dsimp only; omega, by dsimp only; omega, hF', by rw [bst_next c d M hs1]; exact hB'⟩ ρ' hw') hF hB (by simp [go_sem, fT])
  · have h2 : ¬ (s : Int) ≤ m := by omega
    have h3 : s = m + 1 := by omega
    subst h3
    simp only [go_sem, fD, h2]
    have h := hfin H b13 t14 hF (by exact hB)
    simp only [go_sem, fD] at h
    exact h
end Go.Proofs
