/- CathodeFirst: lists by their numbers. -/
import Derived.Test.YtgikocfbedopmaaYdQ
namespace Go.Proofs
open Go Go.Sx
attribute [local irreducible] Run

theorem digR_get {c : Nat} (hc : 0 < c) : ∀ (n w j : Nat), j < n → (digR c n w)[j]? = some (((w / c ^ j) % c : Nat) : Int)
  | 0, _, _, h => by omega
  | n + 1, w, 0, _ => by simp [digR]
  | n + 1, w, j + 1, h => by
    have := digR_get hc n (w / c) j (by omega)
    unfold digR
    rw [List.getElem?_cons_succ, this, Nat.div_div_eq_div_mul, Nat.pow_succ, Nat.mul_comm c]
theorem digL_get {c : Nat} (hc : 0 < c) {n w j : Nat} (hj : j < n) : (digL c n w)[j]? = some (((w % c ^ (n - j)) / c ^ (n - j - 1) : Nat) : Int) := by
  unfold digL
  rw [List.getElem?_reverse (by rw [digR_len]; exact hj), digR_len, digR_get hc _ _ _ (by omega)]
  have e : c ^ (n - j) = c ^ (n - j - 1) * c := by rw [← Nat.pow_succ]; congr 1; omega
  rw [e, Nat.mod_mul_right_div_self, show n - 1 - j = n - j - 1 by omega]

def fT (m jM n : Nat) (a9 a10 a11 b13 : AVal) (t14 : Int) (s al w : Nat) : List (Nat × AVal) :=
  [(1, .int .i64 m), (6, .ptr 2 0 0 1), (7, .sl jM 0 n), (8, .ptr 7 0 0 1), (9, a9), (10, a10), (11, a11), (12, .int .i64 n), (13, b13), (14, .int .i64 t14), (15, .int .i64 s), (16, .int .i64 al), (18, .int .i64 w)]

set_option maxRecDepth 20000 in
set_option maxHeartbeats 4000000 in
theorem pow_loop {G : Ctx} {k : Nat} {fs : List Sx.Frame} {Q : Goal} {H : Heap} {m jM n s al w i : Nat} {a9 a10 a11 b13 v19 v20 v21 v22 : AVal} {t14 : Int} (hn : 1 ≤ n ∧ n ≤ 4) (hi : 1 ≤ i ∧ i ≤ 5)
    (hK : Run Try.prog G k none 2987 (.out .normal) fs ⟨tsets 180 (fT m jM n a9 a10 a11 b13 t14 s al w ++ [(19, v19), (20, v20), (21, v21), (22, v22), (23, .int .i64 i), (24, .int .i64 (n ^ (i - 1) : Nat)), (25, .int .i64 i), (91, .int .i64 i), (92, .int .i64 i), (93, .bool false)]), H, []⟩ Q)
    {ρ : List AVal} (hw : Wk ρ (tsets 180 (fT m jM n a9 a10 a11 b13 t14 s al w ++ [(19, v19), (20, v20), (21, v21), (22, v22), (23, .int .i64 i), (24, .int .i64 1), (25, .int .i64 1)]))) :
    Sx.Loop Try.prog G k none k_law03_CathodeFirst_r30 (.blk 8 :: fs) ⟨ρ, H, []⟩ Q := by
  refine loop_ind k_law03_CathodeFirst_r30.eq_1 (fun a : Nat => 1 ≤ a ∧ a ≤ i) (fun a => i - a)
    (fun a => (tsets 180 (fT m jM n a9 a10 a11 b13 t14 s al w ++ [(19, v19), (20, v20), (21, v21), (22, v22), (23, .int .i64 i), (24, .int .i64 (n ^ (a - 1) : Nat)), (25, .int .i64 a)]), H)) 1 ⟨Nat.le_refl _, hi.1⟩ (by simpa using hw) rfl ?_
  rintro a ⟨h0, h1⟩ ih
  dsimp only at ih ⊢
  by_cases h2 : a < i
  · have h3 : (a : Int) < i := by omega
    have hp : n ^ (a - 1) ≤ 4 ^ (a - 1) := Nat.pow_le_pow_left hn.2 _
    have hp2 : 4 ^ (a - 1) ≤ 4 ^ 5 := Nat.pow_le_pow_right (by decide) (by omega)
    have hm : n ^ (a - 1) * n ≤ 4 ^ 5 * 4 := Nat.mul_le_mul (by omega) hn.2
    have w1 : IntKind.i64.wrap (((n ^ (a - 1) : Nat) : Int) * n) = ((n ^ (a + 1 - 1) : Nat) : Int) := by
      rw [w64 (by rw [← Int.natCast_mul]; omega), ← Int.natCast_mul, ← Nat.pow_succ]
      congr 2
      omega
    have w2 : IntKind.i64.wrap ((a : Int) + 1) = ((a + 1 : Nat) : Int) := by rw [w64 (by omega)]; omega
    generalize n ^ (a - 1) = pw at *
    simp only [go_sem, fT, h3, w1, w2]
    exact ih (a + 1) (by omega) ⟨by omega, h2⟩ _ (by simp [go_sem, fT])
  · have h3 : ¬ (a : Int) < i := by omega
    have h4 : a = i := by omega
    subst h4
    simp only [go_sem, fT, h3]
    simp only [go_sem, fT] at hK
    exact hK

theorem cellsAt_add (H X : Heap) (k : Nat) : Heap.cellsAt (H ++ X) (H.length + k) = Heap.cellsAt X k := by
  unfold Heap.cellsAt
  rw [List.getElem?_append_right (by omega), show H.length + k - H.length = k by omega]
theorem put_add (H X : Heap) (k : Nat) (y : Row) (hk : k < X.length) : Heap.put (H ++ X) (H.length + k) y = H ++ Heap.put X k y := by
  rw [put_lt hk, put_lt (by simp; omega)]
  rw [List.set_append_right _ _ (by omega), show H.length + k - H.length = k by omega]
theorem cellsAt_app {H : Heap} {j : Nat} {r : Bool × Nat × List AVal} (h : H.cellsAt j = some r) (Y : Heap) : (H ++ Y).cellsAt j = some r := by
  unfold Heap.cellsAt at *
  rcases hj : H[j]? with _ | _ | x
  · rw [hj] at h; simp at h
  · rw [hj] at h; simp at h
  · rw [List.getElem?_append_left (List.getElem?_eq_some_iff.1 hj).1, hj]
    rw [hj] at h
    exact h
theorem take_snoc {α : Type} {l : List α} {i : Nat} {x : α} (h : l[i]? = some x) : l.take (i + 1) = l.take i ++ [x] := by
  rw [List.take_add_one, h]; rfl
theorem ivs_snoc (l : List Int) (x : Int) : ivs l ++ [.int .i64 x] = ivs (l ++ [x]) := by simp [ivs]

/-- What one digit is. -/
structure Dig (M : List Ht) (n w i : Nat) (z : Ht) (rest pw dg rest' : Nat) : Prop where
  le : dg < n
  at_ : M[dg]? = some z
  quo : IntKind.i64.wrap (Int.tdiv (rest : Int) (pw : Int)) = (dg : Int)
  rem : Int.tmod (rest : Int) (pw : Int) = (rest' : Int)
  pos : 0 < pw
theorem dig_of {M : List Ht} (hM : 0 < M.length) {w i : Nat} (hi : 1 ≤ i) (hw : w < 10000) : ∃ z, Dig M M.length w i z (w % M.length ^ i) (M.length ^ (i - 1)) (w % M.length ^ i / M.length ^ (i - 1)) (w % M.length ^ (i - 1)) := by
  have e : M.length ^ i = M.length ^ (i - 1) * M.length := by rw [← Nat.pow_succ]; congr 1; omega
  have h1 : w % M.length ^ i / M.length ^ (i - 1) < M.length := by
    rw [e, Nat.mod_mul_right_div_self]; exact Nat.mod_lt _ hM
  have h2 : w % M.length ^ i ≤ w := Nat.mod_le _ _
  have h3 : w % M.length ^ (i - 1) ≤ w := Nat.mod_le _ _
  have h4 : w % M.length ^ i / M.length ^ (i - 1) ≤ w % M.length ^ i := Nat.div_le_self _ _
  have hwn : ∀ x : Nat, x ≤ 10000 → IntKind.i64.wrap (x : Int) = x := fun x h => w64 (by omega)
  refine ⟨_, h1, List.getElem?_eq_getElem h1, ?_, ?_, Nat.pow_pos hM⟩
  · rw [← Int.ofNat_tdiv, hwn _ (Nat.le_trans h4 (Nat.le_trans h2 (by omega)))]
  · rw [← Int.ofNat_tmod]
    rw [Nat.mod_mod_of_dvd _ (by rw [e]; exact Nat.dvd_mul_right _ _)]

theorem pick_snoc {M : List Ht} {L : List Int} {j dg : Nat} {z : Ht} (h : L[j]? = some (dg : Int)) (hz : M[dg]? = some z) : pick M (L.take (j + 1)) = pick M (L.take j) ++ [z] := by
  rw [pick_take M h, Int.toNat_natCast, List.getD_eq_getElem?_getD, hz]; rfl
theorem lenOf_snoc (l : List Ht) (z : Ht) : lenOfL (l ++ [z]) = lenOfL l + z.ticks := by rw [lenOfL_app]; simp [lenOfL]
theorem lenOf_nonneg : ∀ l : List Ht, (∀ z ∈ l, HtOK z) → 0 ≤ lenOfL l
  | [], _ => by simp [lenOfL]
  | z :: l, h => by
    have h1 := (h z (by simp)).ticks
    have h2 := lenOf_nonneg l fun y hy => h y (by simp [hy])
    simp only [lenOfL]
    omega
theorem ht_fold (xs : List Ht) (z : Ht) : xs.map Ht.v ++ [.agg [.int .i64 z.ticks, .int .i64 z.heat, .int .i64 z.cur]] = (xs ++ [z]).map Ht.v := hts_snoc xs z

set_option maxRecDepth 20000 in
set_option maxHeartbeats 4000000 in
theorem dig_loop {G : Ctx} {k : Nat} {fs : List Sx.Frame} {Q : Goal} {H : Heap} {m jM s al w : Nat} {a9 a10 a11 b13 : AVal} {t14 : Int} (M : List Ht) (hn : 1 ≤ M.length ∧ M.length ≤ 4) (hs : 1 ≤ s ∧ s ≤ 5) (hw : w < M.length ^ s) (hlM : LsOK M) (hMt : ∀ z ∈ M, z.ticks ≤ 100)
    (hH : H.cellsAt jM = some (true, 3, M.map Ht.v))
    (hK : ∀ g1 g2 Y r, 
      Run Try.prog G k none 2988 (.out .normal) fs ⟨tsets 180 (fT m jM M.length a9 a10 a11 b13 t14 s al w ++ [(19, .sl (H.length + 1) 0 s), (20, .sl (H.length + 3) 0 s), (21, r), (22, .int .i64 (lenOfL (pick M (digL M.length s w)))), (23, .int .i64 0), (87, .int .i64 0), (88, .bool false)]), H ++ ([some g1, some (.cells true 3 ((pick M (digL M.length s w)).map Ht.v)), some g2, some (.cells true 1 (ivs (digL M.length s w)))] ++ Y), []⟩ Q)
    {ρ : List AVal} (hρ : Wk ρ (tsets 180 (fT m jM M.length a9 a10 a11 b13 t14 s al w ++ [(19, .nilsl), (20, .nilsl), (21, .int .i64 w), (22, .int .i64 0), (23, .int .i64 s)]))) :
    Sx.Loop Try.prog G k none k_law03_CathodeFirst_r36 (.blk 6 :: fs) ⟨ρ, H, []⟩ Q := by
  have hp : M.length ^ s ≤ 4 ^ s := Nat.pow_le_pow_left hn.2 _
  have hp2 : 4 ^ s ≤ 4 ^ 5 := Nat.pow_le_pow_right (by decide) hs.2
  have hHa := cellsAt_app hH
  have hall := fun i hi => dig_of (M := M) (by omega) (w := w) (i := i) hi (by omega)
  have hdl := digL_len M.length s w
  have hdin := digL_in (c := M.length) (by omega) s w
  have hget := fun j hj => digL_get (c := M.length) (by omega) (n := s) (w := w) (j := j) hj
  generalize digL M.length s w = L at *
  refine loop_wk hρ ?_
  refine loop_body 2000 k_law03_CathodeFirst_r36.eq_1 ?_
  have s0 : (s : Int) > 0 := by omega
  simp only [go_sem, fT, s0]
  obtain ⟨z, hd⟩ := hall s hs.1
  refine pow_loop (m := m) (jM := jM) (n := M.length) (s := s) (al := al) (w := w) (i := s) (a9 := a9) (a10 := a10) (a11 := a11) (b13 := b13) (t14 := t14) (v19 := .nilsl) (v20 := .nilsl) (v21 := .int .i64 w) (v22 := .int .i64 0) hn hs ?_ (by simp [go_sem, fT])
  have hws : w % M.length ^ s = w := Nat.mod_eq_of_lt hw
  rw [hws] at hd
  obtain ⟨d1, d2, d3, d4, d5⟩ := hd
  have hz := hlM.all z (List.mem_of_getElem? d2)
  have hzt := hMt z (List.mem_of_getElem? d2)
  have hztk := hz.ticks
  have d0 := hget 0 (by omega)
  simp only [Nat.sub_zero] at d0
  rw [hws] at d0
  generalize hpw : M.length ^ (s - 1) = pw at *
  generalize w / pw = dg at *
  generalize hrest : w % pw = rest at *
  have p1 : pick M (L.take 1) = [z] := by rw [pick_snoc d0 d2]; simp [pick]
  have p2 : L.take 1 = [(dg : Int)] := by rw [take_snoc d0]; simp
  have w1 : IntKind.i64.wrap (0 + z.ticks) = lenOfL (pick M (L.take 1)) := by rw [p1, w64 (by omega)]; simp [lenOfL]
  have w2 : IntKind.i64.wrap ((s : Int) - 1) = ((s - 1 : Nat) : Int) := by rw [w64 (by omega)]; omega
  have n0 : ((pw : Int) == 0) = false := by simp only [beq_eq_false_iff_ne, ne_eq]; omega
  have n1 : ¬ (dg : Int) < 0 := by omega
  have n2 : (dg : Int) < M.length := by omega
  have n3 : ¬ (pw : Int) = 0 := by omega
  simp only [go_sem, fT, d3, d4, n1, n2, n3, hH, hHa, d2, List.length_map, Ht.v, Ht.cs, w1, w2]
  refine ⟨by decide, by decide, ?_⟩
  refine loop_ind k_law03_CathodeFirst_r36.eq_1 (fun a : Nat × Row × Row × Heap => 1 ≤ a.1 ∧ a.1 ≤ s) (fun a => s - a.1)
    (fun a => (tsets 180 (fT m jM M.length a9 a10 a11 b13 t14 s al w ++ [(19, .sl (H.length + 1) 0 a.1), (20, .sl (H.length + 3) 0 a.1), (21, .int .i64 (w % M.length ^ (s - a.1) : Nat)), (22, .int .i64 (lenOfL (pick M (L.take a.1)))), (23, .int .i64 (s - a.1 : Nat))]),
      H ++ ([some a.2.1, some (.cells true 3 ((pick M (L.take a.1)).map Ht.v)), some a.2.2.1, some (.cells true 1 (ivs (L.take a.1)))] ++ a.2.2.2))) (1, .cells false 3 [z.v], .cells false 1 [.int .i64 dg], []) ⟨Nat.le_refl _, hs.1⟩ (by dsimp only; rw [hpw, hrest]; simp [go_sem, fT]) (by dsimp only; rw [p1, p2]; simp [ivs, Ht.v, Ht.cs]) ?_
  clear p1 p2 n0 n1 n2 n3 d1 d2 d3 d4 d5 d0 w1 w2 hz hzt hztk hpw hrest
  clear z pw dg rest
  rintro ⟨j, g1, g2, Y⟩ ⟨hj1, hj2⟩ ih
  dsimp only at hj1 hj2 ih ⊢
  by_cases h1 : j < s
  · have s1 : ((s - j : Nat) : Int) > 0 := by omega
    simp only [go_sem, fT, s1]
    obtain ⟨z, hd⟩ := hall (s - j) (by omega)
    refine pow_loop (m := m) (jM := jM) (n := M.length) (s := s) (al := al) (w := w) (i := s - j) (a9 := a9) (a10 := a10) (a11 := a11) (b13 := b13) (t14 := t14) (v19 := .sl (H.length + 1) 0 j) (v20 := .sl (H.length + 3) 0 j) (v21 := .int .i64 (w % M.length ^ (s - j) : Nat)) (v22 := .int .i64 (lenOfL (pick M (L.take j)))) hn (by omega) ?_ (by simp [go_sem, fT])
    obtain ⟨d1, d2, d3, d4, d5⟩ := hd
    have hz := hlM.all z (List.mem_of_getElem? d2)
    have hzt := hMt z (List.mem_of_getElem? d2)
    have hztk := hz.ticks
    have d0 := hget j h1
    have e1 : s - (j + 1) = s - j - 1 := by omega
    generalize hrr : w % M.length ^ (s - j - 1) = rest' at *
    generalize hpw : M.length ^ (s - j - 1) = pw at *
    generalize w % M.length ^ (s - j) = rest at *
    generalize rest / pw = dg at *
    have p1 : pick M (L.take (j + 1)) = pick M (L.take j) ++ [z] := pick_snoc d0 d2
    have p2 := take_snoc d0
    have hri : (w : Int) % (M.length : Int) ^ (s - (j + 1)) = rest' := by rw [e1, ← hrr, ← hpw]; simp
    have hpo := pick_ok hlM hMt (fun x hx => hdin x (List.mem_of_mem_take hx)) (by simp; omega : (L.take j).length ≤ 5)
    have hlo := hpo.sum
    have hlo2 := lenOf_nonneg _ hpo.all
    have hpl : (pick M (L.take j)).length = j := by rw [pick_len]; simp; omega
    have hil : (ivs (L.take j)).length = j := by rw [ivs_len]; simp; omega
    have w1 : IntKind.i64.wrap (lenOfL (pick M (L.take j)) + z.ticks) = lenOfL (pick M (L.take (j + 1))) := by rw [p1, lenOf_snoc, w64 (by omega)]
    have w2 : IntKind.i64.wrap (((s - j : Nat) : Int) - 1) = ((s - (j + 1) : Nat) : Int) := by rw [w64 (by omega)]; omega
    have n0 : ((pw : Int) == 0) = false := by simp only [beq_eq_false_iff_ne, ne_eq]; omega
    have n1 : ¬ (dg : Int) < 0 := by omega
    have n2 : (dg : Int) < M.length := by omega
    have n3 : ¬ (pw : Int) = 0 := by omega
    simp only [go_sem, fT, d3, d4, n1, n2, n3, hHa, d2, List.length_map, Ht.v, Ht.cs, w1, w2, cellsAt_add, hpl, hil, hts_snoc, ivs_snoc, ← p1, ← p2]
    exact ⟨by omega, by omega, ih (j + 1, g1, g2, Y ++ [_, _]) (by dsimp only; omega) ⟨by dsimp only; omega, h1⟩ _ (by simp [go_sem, fT, hri])⟩
  · have h2 : j = s := by omega
    subst h2
    have s1 : ¬ ((j - j : Nat) : Int) > 0 := by omega
    have hLt : L.take j = L := List.take_of_length_le (by omega)
    have h := hK g1 g2 Y (.int .i64 (w % M.length ^ (j - j) : Nat))
    simp only [go_sem, fT] at h
    simp only [go_sem, fT, s1, hLt]
    rw [show j - j = 0 by omega] at h ⊢
    exact h
end Go.Proofs
