/- A part of the proof. -/
import Derived.Test.YtnfiahhdjilboaaPD
set_option linter.unusedSimpArgs false
set_option linter.unusedVariables false
namespace Go.Proofs
open Go Go.Sx
attribute [local irreducible] Run

theorem groR_add {zs : List Zn} {a b c : Int} (h : (a ≤ b ∧ b ≤ c) ∨ (c ≤ b ∧ b ≤ a)) : groR zs a c = ((groR zs a b).1 + (groR zs b c).1, (groR zs a b).2 + (groR zs b c).2) := by
  have up : ∀ (f : Int → Int) (a b c : Int), a ≤ b → b ≤ c → sumD f c (c - a).toNat = sumD f b (b - a).toNat + sumD f c (c - b).toNat := fun f a b c h1 h2 => by
    have e : (c - a).toNat = (c - b).toNat + (b - a).toNat := by omega
    have e2 : c - ((c - b).toNat : Int) = b := by omega
    rw [e, sumD_cat, e2]; omega
  have zero : ∀ (f : Int → Int) (a : Int), sumD f a (a - a).toNat = 0 := fun f a => by rw [Int.sub_self]; rfl
  rcases h with ⟨h1, h2⟩ | ⟨h1, h2⟩
  · unfold groR
    rw [if_neg (by omega), if_neg (by omega), if_neg (by omega)]
    dsimp only
    rw [up (gLo zs) a b c h1 h2, up (gHi zs) a b c h1 h2]
  · have u1 := up (gLo zs) c b a h1 h2
    have u2 := up (gHi zs) c b a h1 h2
    by_cases c1 : b < a
    · by_cases c2 : c < b
      · unfold groR
        rw [if_pos (by omega), if_pos (by omega), if_pos (by omega)]
        dsimp only
        rw [u1, u2]; congr 1 <;> omega
      · obtain rfl : c = b := by omega
        unfold groR
        rw [if_pos (by omega), if_neg (by omega)]
        dsimp only
        rw [zero, zero]; simp
    · obtain rfl : b = a := by omega
      by_cases c2 : c < b
      · unfold groR
        rw [if_pos (by omega), if_neg (by omega)]
        dsimp only
        rw [zero, zero]; simp
      · obtain rfl : c = b := by omega
        unfold groR
        rw [if_neg (by omega)]
        dsimp only
        rw [zero, zero]; simp
theorem lat_in {zs : List Zn} {l : List Int} (h : TrOK zs 2001 l) {x : Int} (h0 : 0 ≤ x) (h1 : x ≤ 2000) : gLo zs x ≤ lat l x ∧ lat l x ≤ gHi zs x := by
  have := h.bd x.toNat (by omega)
  have e : ((x.toNat : Nat) : Int) = x := by omega
  rw [e] at this
  exact this
theorem lat_bd {zs : List Zn} (hz : ZsOK zs) {l : List Int} (h : TrOK zs 2001 l) (x : Int) : 0 ≤ lat l x ∧ lat l x ≤ 100000 := by
  by_cases c : x.toNat ≤ 2000
  · have h1 := h.bd x.toNat (by omega)
    have h2 := g_in hz (x.toNat : Int)
    unfold lat; omega
  · unfold lat
    rw [List.getD_eq_getElem?_getD, List.getElem?_eq_none (by have := h.len; omega)]; simp
theorem grn_in {zs : List Zn} {l : List Int} (h : TrOK zs 2001 l) {f t : Int} (hf : 0 ≤ f ∧ f ≤ 2000) (ht : 0 ≤ t ∧ t ≤ 2000) : (groR zs f t).1 ≤ grnV l f t ∧ grnV l f t ≤ (groR zs f t).2 := by
  have m1 := fun (a : Int) (n : Nat) (h1 : 0 ≤ a - n) (h2 : a ≤ 2001) => sumD_mono (f := gLo zs) (g := lat l) a n fun x hx hx2 => (lat_in h (by omega) (by omega)).1
  have m2 := fun (a : Int) (n : Nat) (h1 : 0 ≤ a - n) (h2 : a ≤ 2001) => sumD_mono (f := lat l) (g := gHi zs) a n fun x hx hx2 => (lat_in h (by omega) (by omega)).2
  unfold grnV groR
  split
  · have := m1 f (f - t).toNat (by omega) (by omega)
    have := m2 f (f - t).toNat (by omega) (by omega)
    dsimp only; omega
  · have := m1 t (t - f).toNat (by omega) (by omega)
    have := m2 t (t - f).toNat (by omega) (by omega)
    dsimp only; omega
theorem il_frz {H : Heap} {l : List Int} {j n : Nat} {g : Bool} (h : H[j]? = some (some (.cells g 1 (il l)))) (hn : l.length = n) : frz 6 H (.sl j 0 n) = .view (l.map (.int .i64)) := by
  rw [frz_sl (d := 5) h (by unfold il; rw [List.length_map]; exact hn.symm)]
  unfold il
  rw [List.map_map]; rfl
set_option maxHeartbeats 4000000 in
set_option maxRecDepth 10000 in
theorem adds_law (ns : List Int) (hl : ns.length ≤ 9223372036854775807) (a1 a2 a3 : Int) : Ans Try.prog n_law05_GlassAdds [.view (ns.map (.int .i64)), .int .i64 a1, .int .i64 a2, .int .i64 a3] [] (.bool true) [] := by
  have m1 := mod_in a1 2001 (by omega)
  have m2 := mod_in a2 2001 (by omega)
  have m3 := mod_in a3 2001 (by omega)
  have e1 := mod_pos a1 2001 (by omega)
  have e2 := mod_pos a2 2001 (by omega)
  have e3 := mod_pos a3 2001 (by omega)
  obtain ⟨a, ha⟩ : ∃ s, a1 % 2001 = s := ⟨_, rfl⟩
  obtain ⟨b, hb⟩ : ∃ s, a2 % 2001 = s := ⟨_, rfl⟩
  obtain ⟨c, hc⟩ : ∃ s, a3 % 2001 = s := ⟨_, rfl⟩
  rw [ha] at m1 e1
  rw [hb] at m2 e2
  rw [hc] at m3 e3
  obtain ⟨lo, hlo⟩ : ∃ lo, min (min a b) c = lo := ⟨_, rfl⟩
  obtain ⟨hi, hhi⟩ : ∃ hi, max (max a b) c = hi := ⟨_, rfl⟩
  refine spec_run e_law05_GlassAdds fun G => ?_
  simp only [go_sem]
  refine callN1 (newdice_ok ns hl) (by simp only [go_sem]) (dr_bel _ _) (by simp) (by simp) ?_
  generalize seedW ns = w
  simp only [go_sem]
  refine callDN (stuffOf_run w) rfl (by simp only [go_sem]) (dr_bel _ _) (fun a ha => ⟨by simp [go_sem], dr_bel _ _, by rw [row_bel_cells]; simp only [go_sem]⟩) (by simp) (by simp) ?_
  rintro ⟨b1, z1, w1⟩ h1
  dsimp only at h1 ⊢
  simp only [go_sem, ren, rens]
  refine cP e1 ?_
  simp only [go_sem]
  refine cP e2 ?_
  simp only [go_sem]
  refine cP e3 ?_
  simp only [go_sem]
  have eh : (if c > (if b > a then b else a) then c else (if b > a then b else a)) = hi := by
    rw [← hhi]; split <;> split at * <;> omega
  have el : (if c < (if b < a then b else a) then c else (if b < a then b else a)) = lo := by
    rw [← hlo]; split <;> split at * <;> omega
  obtain ⟨mi, hmi⟩ : ∃ mi, a + b + c - lo - hi = mi := ⟨_, rfl⟩
  have hmid : lo ≤ mi ∧ mi ≤ hi ∧ 0 ≤ lo ∧ hi ≤ 2000 := by omega
  have x1 : IntKind.i64.wrap (a + b) = a + b := w64 (by omega)
  have x2 : IntKind.i64.wrap (a + b + c) = a + b + c := w64 (by omega)
  have x3 : IntKind.i64.wrap (a + b + c - lo) = a + b + c - lo := w64 (by omega)
  have x4 : IntKind.i64.wrap (a + b + c - lo - hi) = mi := by rw [hmi]; exact w64 (by omega)
  by_cases c0 : c < b
  · skip
    have kx := Growth_run h1 (f := hi) (t := mi) (by omega) (by omega)
    have ky := Growth_run h1 (f := mi) (t := lo) (by omega) (by omega)
    have kz := Growth_run h1 (f := hi) (t := lo) (by omega) (by omega)
    have hgn := fun (l : List Int) (h : TrOK z1 2001 l) => grn_in h (f := hi) (t := lo) (by omega) (by omega)
    have hgr := fun (l : List Int) (h : TrOK z1 2001 l) => grown_run h.len (lat_bd h1.zs h) (f := hi) (t := lo) (by omega) (by omega)
    rw [groR_add (a := hi) (b := mi) (c := lo) (by omega)] at kz hgn
    have ix := groR_in h1.zs (f := hi) (t := mi) (by omega) (by omega)
    have iy := groR_in h1.zs (f := mi) (t := lo) (by omega) (by omega)
    obtain ⟨P, hP⟩ : ∃ P, groR z1 hi mi = P := ⟨_, rfl⟩
    obtain ⟨Q, hQ⟩ : ∃ Q, groR z1 mi lo = Q := ⟨_, rfl⟩
    rw [hP] at kx kz ix hgn
    rw [hQ] at ky kz iy hgn
    dsimp only at kz hgn
    simp only [r2] at kx ky kz
    simp only [go_sem, eh, el, c0, x1, x2, x3, x4]
    refine cF kx 6 ⟨.inl (st_frz (g := true) rfl rfl), .inl rfl, .inl rfl, trivial⟩ ?_
    simp only [go_sem]
    refine cF ky 6 ⟨.inl (st_frz (g := true) rfl rfl), .inl rfl, .inl rfl, trivial⟩ ?_
    simp only [go_sem]
    refine cF kz 6 ⟨.inl (st_frz (g := true) rfl rfl), .inl rfl, .inl rfl, trivial⟩ ?_
    simp only [go_sem]
    refine callR1 (truly_run w1 b1 h1.zs true) (j0 := 0) (j1 := 1) rfl (by simp [go_sem]) rfl rfl (dr_bel _ _) (by rw [row_bel_cells]; simp only [go_sem]) (by decide) (fun q hq => ⟨by simp [go_sem], dr_bel _ _, by rw [row_bel_cells]; exact bels_map _ _ fun z => by simp only [go_sem]⟩) (by simp) (by simp) ?_
    rintro ⟨w2, l⟩ ht
    dsimp only at ht ⊢
    have hn := hgn l ht
    have kg := hgr l ht
    obtain ⟨n, hne⟩ : ∃ n, grnV l hi lo = n := ⟨_, rfl⟩
    rw [hne] at hn kg
    simp only [go_sem, ren, rens]
    refine cF kg 6 ⟨.inl (il_frz (g := false) rfl ht.len), .inl rfl, .inl rfl, trivial⟩ ?_
    have y1 : IntKind.i64.wrap (P.1 + Q.1) = P.1 + Q.1 := w64 (by omega)
    have y2 : IntKind.i64.wrap (P.2 + Q.2) = P.2 + Q.2 := w64 (by omega)
    have y3 : n ≥ P.1 + Q.1 := hn.1
    have y4 : n ≤ P.2 + Q.2 := hn.2
    have y5 : ¬ n < P.1 + Q.1 := by omega
    have y6 : ¬ P.2 + Q.2 < n := by omega
    have sp := span_run (P.1 + Q.1) (P.2 + Q.2)
    simp only [r2] at sp
    simp only [go_sem, y1, y2]
    refine dP sp ?_
    simp only [go_sem, y3, y4]
    refine cP awake_ok ?_
    simp only [go_sem]
  · skip
    have kx := Growth_run h1 (f := lo) (t := mi) (by omega) (by omega)
    have ky := Growth_run h1 (f := mi) (t := hi) (by omega) (by omega)
    have kz := Growth_run h1 (f := lo) (t := hi) (by omega) (by omega)
    have hgn := fun (l : List Int) (h : TrOK z1 2001 l) => grn_in h (f := lo) (t := hi) (by omega) (by omega)
    have hgr := fun (l : List Int) (h : TrOK z1 2001 l) => grown_run h.len (lat_bd h1.zs h) (f := lo) (t := hi) (by omega) (by omega)
    rw [groR_add (a := lo) (b := mi) (c := hi) (by omega)] at kz hgn
    have ix := groR_in h1.zs (f := lo) (t := mi) (by omega) (by omega)
    have iy := groR_in h1.zs (f := mi) (t := hi) (by omega) (by omega)
    obtain ⟨P, hP⟩ : ∃ P, groR z1 lo mi = P := ⟨_, rfl⟩
    obtain ⟨Q, hQ⟩ : ∃ Q, groR z1 mi hi = Q := ⟨_, rfl⟩
    rw [hP] at kx kz ix hgn
    rw [hQ] at ky kz iy hgn
    dsimp only at kz hgn
    simp only [r2] at kx ky kz
    simp only [go_sem, eh, el, c0, x1, x2, x3, x4]
    refine cF kx 6 ⟨.inl (st_frz (g := true) rfl rfl), .inl rfl, .inl rfl, trivial⟩ ?_
    simp only [go_sem]
    refine cF ky 6 ⟨.inl (st_frz (g := true) rfl rfl), .inl rfl, .inl rfl, trivial⟩ ?_
    simp only [go_sem]
    refine cF kz 6 ⟨.inl (st_frz (g := true) rfl rfl), .inl rfl, .inl rfl, trivial⟩ ?_
    simp only [go_sem]
    refine callR1 (truly_run w1 b1 h1.zs true) (j0 := 0) (j1 := 1) rfl (by simp [go_sem]) rfl rfl (dr_bel _ _) (by rw [row_bel_cells]; simp only [go_sem]) (by decide) (fun q hq => ⟨by simp [go_sem], dr_bel _ _, by rw [row_bel_cells]; exact bels_map _ _ fun z => by simp only [go_sem]⟩) (by simp) (by simp) ?_
    rintro ⟨w2, l⟩ ht
    dsimp only at ht ⊢
    have hn := hgn l ht
    have kg := hgr l ht
    obtain ⟨n, hne⟩ : ∃ n, grnV l lo hi = n := ⟨_, rfl⟩
    rw [hne] at hn kg
    simp only [go_sem, ren, rens]
    refine cF kg 6 ⟨.inl (il_frz (g := false) rfl ht.len), .inl rfl, .inl rfl, trivial⟩ ?_
    have y1 : IntKind.i64.wrap (P.1 + Q.1) = P.1 + Q.1 := w64 (by omega)
    have y2 : IntKind.i64.wrap (P.2 + Q.2) = P.2 + Q.2 := w64 (by omega)
    have y3 : n ≥ P.1 + Q.1 := hn.1
    have y4 : n ≤ P.2 + Q.2 := hn.2
    have y5 : ¬ n < P.1 + Q.1 := by omega
    have y6 : ¬ P.2 + Q.2 < n := by omega
    have sp := span_run (P.1 + Q.1) (P.2 + Q.2)
    simp only [r2] at sp
    simp only [go_sem, y1, y2]
    refine dP sp ?_
    simp only [go_sem, y3, y4]
    refine cP awake_ok ?_
    simp only [go_sem]
end Go.Proofs

