/- A part of the proof. -/
import Derived.Test.YtdodlephmmpemaaPF
set_option linter.unusedSimpArgs false
set_option linter.unusedVariables false
namespace Go.Proofs
open Go Go.Sx
attribute [local irreducible] Run

set_option maxHeartbeats 64000000 in
set_option maxRecDepth 20000 in
theorem checks_loop (p Q M : Rp) (v zs : List Int) (at' by' w1 : Int) (hp : p.cs.length ≤ 300) (hv : v.length ≤ 300) (hm : M.cs.length ≤ 300) (hmn : M.cs ≠ []) (hz : zs.length ≤ 9223372036854775807) {G : Ctx} :
    Sx.Loop Try.prog G 0 none k_law01_FieldChecks_r23 [.blk 0, .seq (.seq (.reg k_law01_FieldChecks_r24 false) .ret)] ⟨tsets 155 [(2, vw v), (3, .view (zs.map (.int .i64))), (4, .int .i64 at'), (5, .int .i64 by'), (6, .ptr 0 0 0 1), (7, .ptr 1 0 0 1), (14, .sl 6 0 2), (15, .int .i64 0)], [some (.cells false 4 [p.v]), some (.cells false 4 [Q.v]), some (.cells false 1 [vw v]), some (Dr w1), some (.cells true 1 (iv M.cs)), some (.cells false 4 [M.a (.sl 4 0 M.cs.length)]), some (.cells false 4 [p.v, M.a (.sl 4 0 M.cs.length)])], []⟩ (RetPost [.tmp 12] fun r _ => r = .bool true) := by
  have ckp := Check_raw p (by omega)
  have rckp := rCheck_raw p (by omega)
  have cvp := CheckVolts_raw p (v := v) (by omega) (by omega)
  have rcvp := rCheckVolts_raw p (v := v) (by omega) (by omega)
  have sAp := rSame_raw p p (by omega) true (by simp)
  have sBp := fSame_raw p p (by omega) true (by simp)
  obtain ⟨bqp, hbqp⟩ := boolOf (p = Q)
  have sCp := fSame_raw p Q (by omega) bqp hbqp
  have sDp := rSame_raw p Q (by omega) bqp hbqp
  have bbp : (bqp != bqp) = false := by cases bqp <;> rfl
  clear hbqp
  have ckm := Check_raw M (by omega)
  have rckm := rCheck_raw M (by omega)
  have cvm := CheckVolts_raw M (v := v) (by omega) (by omega)
  have rcvm := rCheckVolts_raw M (v := v) (by omega) (by omega)
  have sAm := rSame_raw M M (by omega) true (by simp)
  have sBm := fSame_raw M M (by omega) true (by simp)
  obtain ⟨bqm, hbqm⟩ := boolOf (M = Q)
  have sCm := fSame_raw M Q (by omega) bqm hbqm
  have sDm := rSame_raw M Q (by omega) bqm hbqm
  have bbm : (bqm != bqm) = false := by cases bqm <;> rfl
  clear hbqm
  have sV := kSame_self (l := v) (by omega)
  have sN := (Same_ok (a := []) (b := []) (by simp)).lss (args' := [.nilsl, .nilsl]) ⟨.inr ⟨rfl, rfl⟩, .inr ⟨rfl, rfl⟩, trivial⟩
  have u1 : IntKind.i64.wrap 1 = 1 := by decide
  have u2 : IntKind.i64.wrap (1 + 1) = 2 := by decide
  have u3 : IntKind.i64.wrap 2 = 2 := by decide
  have l22 : ¬ (2 : Int) < 2 := by decide
  have n00 : ((0 : Int) != 0) = false := by decide
  refine loop_body 3000 k_law01_FieldChecks_r23.eq_1 ?_
  simp only [go_sem, noPl, Rp.a, Rp.v, vw, ren, rens, iv_len, u1, u2, u3, l22, n00, bne_self_eq_false, List.length_map]
  refine cN1 (rCopyR (p := p) (by omega)) ?_ (hr := by simp [go_sem, Rp.a]) (hx := iv_row _ _ _)
  simp only [go_sem, noPl, Rp.a, Rp.v, vw, ren, rens, iv_len, u1, u2, u3, l22, n00, bne_self_eq_false, List.length_map]
  refine cN1 (ownR (l := v) (by omega)) ?_ (hr := by simp [go_sem]) (hx := iv_row _ _ _)
  simp only [go_sem, noPl, Rp.a, Rp.v, vw, ren, rens, iv_len, u1, u2, u3, l22, n00, bne_self_eq_false, List.length_map]
  refine dF ckp 6 [7] ⟨.inl (rpa_frz 3 (p := p) (j := 7) (g := true) (onlyR_row rfl (by simp)) rfl), trivial⟩ ?_
  simp only [go_sem, noPl, Rp.a, Rp.v, vw, ren, rens, iv_len, u1, u2, u3, l22, n00, bne_self_eq_false, List.length_map]
  refine cP rckp ?_
  simp only [go_sem, noPl, Rp.a, Rp.v, vw, ren, rens, iv_len, u1, u2, u3, l22, n00, bne_self_eq_false, List.length_map]
  refine dF cvp 6 [7, 8] ⟨.inl (rpa_frz 3 (p := p) (j := 7) (g := true) (onlyR_row rfl (by simp)) rfl), .inl (iv_frz_sl (d := 4) (l := v) (j := 8) (g := true) (onlyR_row rfl (by simp)) rfl), trivial⟩ ?_
  simp only [go_sem, noPl, Rp.a, Rp.v, vw, ren, rens, iv_len, u1, u2, u3, l22, n00, bne_self_eq_false, List.length_map]
  refine cP rcvp ?_
  simp only [go_sem, noPl, Rp.a, Rp.v, vw, ren, rens, iv_len, u1, u2, u3, l22, n00, bne_self_eq_false, List.length_map]
  by_cases hep : p.err = 0
  · have hE0 := Rp.ok hep
    obtain ⟨hpop, hpvp⟩ := hE0
    have elp := Elec_ok hpop (by have h := ckp; rw [hep, hpvp] at h; exact h)
    have relp := rElec_ok hpop (by have h := rckp; rw [hep, hpvp] at h; exact h)
    rw [← hpvp] at elp relp
    have help := elT6_len p.pl 6
    have hpn : p.cs ≠ [] := fun h => by have h2 := hpop.ne; exact h2 h
    generalize elT6 p.pl 6 = Ep at *
    have sEp := kSame_self (l := Ep) (by omega)
    refine dFN elp 6 [7] ⟨.inl (rpa_frz 3 (p := p) (j := 7) (g := true) (onlyR_row rfl (by simp)) rfl), trivial⟩ ?_ (hr := by simp [go_sem]) (hnv := by simp only [go_sem]) (hx := iv_row _ _ _) (hxn := iv_nv _ _)
    simp only [go_sem, noPl, Rp.a, Rp.v, vw, ren, rens, iv_len, u1, u2, u3, l22, n00, bne_self_eq_false, List.length_map]
    refine cN1 relp ?_ (hr := by simp [go_sem]) (hx := iv_row _ _ _)
    simp only [go_sem, noPl, Rp.a, Rp.v, vw, ren, rens, iv_len, u1, u2, u3, l22, n00, bne_self_eq_false, List.length_map]
    refine cF sEp 6 ⟨.inl (iv_frz_sl (d := 4) (l := Ep) (j := 10) (g := true) rfl rfl), .inl (iv_frz_sl (d := 4) (l := Ep) (j := 11) (g := true) rfl rfl), trivial⟩ ?_
    simp only [go_sem, noPl, Rp.a, Rp.v, vw, ren, rens, iv_len, u1, u2, u3, l22, n00, bne_self_eq_false, List.length_map]
    refine cFN (fCopyR (p := p) (by omega) hpn) 6 ⟨.inl (rpa_frz 3 (p := p) (j := 7) (g := true) rfl rfl), trivial⟩ ?_ (by simp [go_sem, Rp.a]) (by simp only [go_sem, Rp.a]) (iv_row _ _ _) (iv_nv _ _)
    simp only [go_sem, noPl, Rp.a, Rp.v, vw, ren, rens, iv_len, u1, u2, u3, l22, n00, bne_self_eq_false, List.length_map]
    refine cF sAp 6 ⟨.inl (rpa_frz 3 (p := p) (j := 12) (g := true) rfl rfl), .inl (rp_frz 3 _ p), trivial⟩ ?_
    simp only [go_sem, noPl, Rp.a, Rp.v, vw, ren, rens, iv_len, u1, u2, u3, l22, n00, bne_self_eq_false, List.length_map]
    refine cF sBp 6 ⟨.inl (rpa_frz 3 (p := p) (j := 12) (g := true) rfl rfl), .inl (rpa_frz 3 (p := p) (j := 7) (g := true) rfl rfl), trivial⟩ ?_
    simp only [go_sem, noPl, Rp.a, Rp.v, vw, ren, rens, iv_len, u1, u2, u3, l22, n00, bne_self_eq_false, List.length_map]
    refine dF sCp 6 [7] ⟨.inl (rpa_frz 3 (p := p) (j := 7) (g := true) (onlyR_row rfl (by simp)) rfl), .inl (rp_frz 3 _ Q), trivial⟩ ?_
    simp only [go_sem, noPl, Rp.a, Rp.v, vw, ren, rens, iv_len, u1, u2, u3, l22, n00, bne_self_eq_false, List.length_map]
    refine cP sDp ?_
    simp only [go_sem, noPl, Rp.a, Rp.v, vw, ren, rens, iv_len, u1, u2, u3, l22, n00, bne_self_eq_false, List.length_map, bbp]
    have hWp : (p.cs.map (fun z => IntKind.i64.wrap (z + 1))).length = p.cs.length := by simp
    have hg0p : ∀ k, k < p.cs.length → gt (p.cs.map (fun z => IntKind.i64.wrap (z + 1))) k = IntKind.i64.wrap (gt p.cs k + 1) := fun k hk => by simp [gt, List.getD_eq_getElem?_getD, List.getElem?_map, List.getElem?_eq_getElem hk]
    generalize hWdp : p.cs.map (fun z => IntKind.i64.wrap (z + 1)) = Wp at *
    have hm0p : p.cs = mixTo Wp p.cs 0 := by simp [mixTo]
    refine loop_ind k_law01_FieldChecks_r19.eq_1 (fun k : Nat => k ≤ p.cs.length) (fun k => p.cs.length - k) (fun kp => (tsets 155 [(2, vw v), (3, .view (zs.map (.int .i64))), (4, .int .i64 at'), (5, .int .i64 by'), (6, .ptr 0 0 0 1), (7, .ptr 1 0 0 1), (14, .sl 6 0 2), (15, .int .i64 0), (16, .ptr 9 0 0 1), (17, .sl 8 0 v.length), (18, .ptr 13 0 0 1), (19, .int .i64 kp)], [some (.cells false 4 [p.v]), some (.cells false 4 [Q.v]), some (.cells false 1 [vw v]), some (Dr w1), some (.cells true 1 (iv M.cs)), some (.cells false 4 [M.a (.sl 4 0 M.cs.length)]), some (.cells false 4 [p.v, M.a (.sl 4 0 M.cs.length)]), some (.cells true 1 (iv p.cs)), some (.cells true 1 (iv v)), some (.cells false 4 [p.a (.sl 7 0 p.cs.length)]), some (.cells true 1 (iv Ep)), some (.cells true 1 (iv Ep)), some (.cells true 1 (iv (mixTo Wp p.cs kp))), some (.cells false 4 [p.a (.sl 12 0 p.cs.length)])])) 0 (Nat.zero_le _) (by simp [go_sem, vw]) (by rw [← hm0p]; rfl) ?_
    intro kp hkp ih
    dsimp only at hkp ih ⊢
    by_cases h1p : kp < p.cs.length
    rotate_left
    · have h2 : ¬ (kp : Int) < p.cs.length := by omega
      have f1 := mix_len (a := Wp) (b := p.cs) hWp (i := kp) (by omega)
      rw [hWp] at f1
      clear ih
      simp only [go_sem, noPl, Rp.a, Rp.v, vw, ren, rens, iv_len, u1, u2, u3, l22, n00, bne_self_eq_false, List.length_map, f1, h2]
      refine cF sAp 6 ⟨.inl (rpa_frz 3 (p := p) (j := 7) (g := true) rfl rfl), .inl (rp_frz 3 _ p), trivial⟩ ?_
      simp only [go_sem, noPl, Rp.a, Rp.v, vw, ren, rens, iv_len, u1, u2, u3, l22, n00, bne_self_eq_false, List.length_map]
      refine cF sV 6 ⟨.inl (iv_frz_sl (d := 4) (l := v) (j := 8) (g := true) rfl rfl), .inl (vw_frz 4 _ v), trivial⟩ ?_
      simp only [go_sem, noPl, Rp.a, Rp.v, vw, ren, rens, iv_len, u1, u2, u3, l22, n00, bne_self_eq_false, List.length_map]
      refine loop_body 3000 k_law01_FieldChecks_r23.eq_1 ?_
      simp only [go_sem, noPl, Rp.a, Rp.v, vw, ren, rens, iv_len, u1, u2, u3, l22, n00, bne_self_eq_false, List.length_map]
      refine cFN (rCopyR (p := M) (by omega)) 6 ⟨.inl (rpa_frz 3 (p := M) (j := 4) (g := true) rfl rfl), trivial⟩ ?_ (by simp [go_sem, Rp.a]) (by simp only [go_sem, Rp.a]) (iv_row _ _ _) (iv_nv _ _)
      simp only [go_sem, noPl, Rp.a, Rp.v, vw, ren, rens, iv_len, u1, u2, u3, l22, n00, bne_self_eq_false, List.length_map]
      refine cN1 (ownR (l := v) (by omega)) ?_ (hr := by simp [go_sem]) (hx := iv_row _ _ _)
      simp only [go_sem, noPl, Rp.a, Rp.v, vw, ren, rens, iv_len, u1, u2, u3, l22, n00, bne_self_eq_false, List.length_map]
      refine dF ckm 6 [14] ⟨.inl (rpa_frz 3 (p := M) (j := 14) (g := true) (onlyR_row rfl (by simp)) rfl), trivial⟩ ?_
      simp only [go_sem, noPl, Rp.a, Rp.v, vw, ren, rens, iv_len, u1, u2, u3, l22, n00, bne_self_eq_false, List.length_map]
      refine cF rckm 6 ⟨.inl (rpa_frz 3 (p := M) (j := 4) (g := true) rfl rfl), trivial⟩ ?_
      simp only [go_sem, noPl, Rp.a, Rp.v, vw, ren, rens, iv_len, u1, u2, u3, l22, n00, bne_self_eq_false, List.length_map]
      refine dF cvm 6 [14, 15] ⟨.inl (rpa_frz 3 (p := M) (j := 14) (g := true) (onlyR_row rfl (by simp)) rfl), .inl (iv_frz_sl (d := 4) (l := v) (j := 15) (g := true) (onlyR_row rfl (by simp)) rfl), trivial⟩ ?_
      simp only [go_sem, noPl, Rp.a, Rp.v, vw, ren, rens, iv_len, u1, u2, u3, l22, n00, bne_self_eq_false, List.length_map]
      refine cF rcvm 6 ⟨.inl (rpa_frz 3 (p := M) (j := 4) (g := true) rfl rfl), .inl (vw_frz 4 _ v), trivial⟩ ?_
      simp only [go_sem, noPl, Rp.a, Rp.v, vw, ren, rens, iv_len, u1, u2, u3, l22, n00, bne_self_eq_false, List.length_map]
      by_cases hem : M.err = 0
      · have hE0 := Rp.ok hem
        obtain ⟨hpom, hpvm⟩ := hE0
        have elm := Elec_ok hpom (by have h := ckm; rw [hem, hpvm] at h; exact h)
        have relm := rElec_ok hpom (by have h := rckm; rw [hem, hpvm] at h; exact h)
        rw [← hpvm] at elm relm
        have helm := elT6_len M.pl 6
        generalize elT6 M.pl 6 = Em at *
        have sEm := kSame_self (l := Em) (by omega)
        refine dFN elm 6 [14] ⟨.inl (rpa_frz 3 (p := M) (j := 14) (g := true) (onlyR_row rfl (by simp)) rfl), trivial⟩ ?_ (hr := by simp [go_sem]) (hnv := by simp only [go_sem]) (hx := iv_row _ _ _) (hxn := iv_nv _ _)
        simp only [go_sem, noPl, Rp.a, Rp.v, vw, ren, rens, iv_len, u1, u2, u3, l22, n00, bne_self_eq_false, List.length_map]
        refine cFN relm 6 ⟨.inl (rpa_frz 3 (p := M) (j := 4) (g := true) rfl rfl), trivial⟩ ?_ (by simp [go_sem]) (by simp only [go_sem]) (iv_row _ _ _) (iv_nv _ _)
        simp only [go_sem, noPl, Rp.a, Rp.v, vw, ren, rens, iv_len, u1, u2, u3, l22, n00, bne_self_eq_false, List.length_map]
        refine cF sEm 6 ⟨.inl (iv_frz_sl (d := 4) (l := Em) (j := 17) (g := true) rfl rfl), .inl (iv_frz_sl (d := 4) (l := Em) (j := 18) (g := true) rfl rfl), trivial⟩ ?_
        simp only [go_sem, noPl, Rp.a, Rp.v, vw, ren, rens, iv_len, u1, u2, u3, l22, n00, bne_self_eq_false, List.length_map]
        refine cFN (fCopyR (p := M) (by omega) hmn) 6 ⟨.inl (rpa_frz 3 (p := M) (j := 14) (g := true) rfl rfl), trivial⟩ ?_ (by simp [go_sem, Rp.a]) (by simp only [go_sem, Rp.a]) (iv_row _ _ _) (iv_nv _ _)
        simp only [go_sem, noPl, Rp.a, Rp.v, vw, ren, rens, iv_len, u1, u2, u3, l22, n00, bne_self_eq_false, List.length_map]
        refine cF sAm 6 ⟨.inl (rpa_frz 3 (p := M) (j := 19) (g := true) rfl rfl), .inl (rpa_frz 3 (p := M) (j := 4) (g := true) rfl rfl), trivial⟩ ?_
        simp only [go_sem, noPl, Rp.a, Rp.v, vw, ren, rens, iv_len, u1, u2, u3, l22, n00, bne_self_eq_false, List.length_map]
        refine cF sBm 6 ⟨.inl (rpa_frz 3 (p := M) (j := 19) (g := true) rfl rfl), .inl (rpa_frz 3 (p := M) (j := 14) (g := true) rfl rfl), trivial⟩ ?_
        simp only [go_sem, noPl, Rp.a, Rp.v, vw, ren, rens, iv_len, u1, u2, u3, l22, n00, bne_self_eq_false, List.length_map]
        refine dF sCm 6 [14] ⟨.inl (rpa_frz 3 (p := M) (j := 14) (g := true) (onlyR_row rfl (by simp)) rfl), .inl (rp_frz 3 _ Q), trivial⟩ ?_
        simp only [go_sem, noPl, Rp.a, Rp.v, vw, ren, rens, iv_len, u1, u2, u3, l22, n00, bne_self_eq_false, List.length_map]
        refine cF sDm 6 ⟨.inl (rpa_frz 3 (p := M) (j := 4) (g := true) rfl rfl), .inl (rp_frz 3 _ Q), trivial⟩ ?_
        simp only [go_sem, noPl, Rp.a, Rp.v, vw, ren, rens, iv_len, u1, u2, u3, l22, n00, bne_self_eq_false, List.length_map, bbm]
        have hWm : (M.cs.map (fun z => IntKind.i64.wrap (z + 1))).length = M.cs.length := by simp
        have hg0m : ∀ k, k < M.cs.length → gt (M.cs.map (fun z => IntKind.i64.wrap (z + 1))) k = IntKind.i64.wrap (gt M.cs k + 1) := fun k hk => by simp [gt, List.getD_eq_getElem?_getD, List.getElem?_map, List.getElem?_eq_getElem hk]
        generalize hWdm : M.cs.map (fun z => IntKind.i64.wrap (z + 1)) = Wm at *
        have hm0m : M.cs = mixTo Wm M.cs 0 := by simp [mixTo]
        refine loop_ind k_law01_FieldChecks_r19.eq_1 (fun k : Nat => k ≤ M.cs.length) (fun k => M.cs.length - k) (fun km => (tsets 155 [(2, vw v), (3, .view (zs.map (.int .i64))), (4, .int .i64 at'), (5, .int .i64 by'), (6, .ptr 0 0 0 1), (7, .ptr 1 0 0 1), (14, .sl 6 0 2), (15, .int .i64 1), (16, .ptr 16 0 0 1), (17, .sl 15 0 v.length), (18, .ptr 20 0 0 1), (19, .int .i64 km)], [some (.cells false 4 [p.v]), some (.cells false 4 [Q.v]), some (.cells false 1 [vw v]), some (Dr w1), some (.cells true 1 (iv M.cs)), some (.cells false 4 [M.a (.sl 4 0 M.cs.length)]), some (.cells false 4 [p.v, M.a (.sl 4 0 M.cs.length)]), some (.cells true 1 (iv p.cs)), some (.cells true 1 (iv v)), some (.cells false 4 [p.a (.sl 7 0 p.cs.length)]), some (.cells true 1 (iv Ep)), some (.cells true 1 (iv Ep)), some (.cells true 1 (iv (mixTo Wp p.cs kp))), some (.cells false 4 [p.a (.sl 12 0 p.cs.length)]), some (.cells true 1 (iv M.cs)), some (.cells true 1 (iv v)), some (.cells false 4 [M.a (.sl 14 0 M.cs.length)]), some (.cells true 1 (iv Em)), some (.cells true 1 (iv Em)), some (.cells true 1 (iv (mixTo Wm M.cs km))), some (.cells false 4 [M.a (.sl 19 0 M.cs.length)])])) 0 (Nat.zero_le _) (by simp [go_sem, vw]) (by rw [← hm0m]; rfl) ?_
        intro km hkm ih
        dsimp only at hkm ih ⊢
        by_cases h1m : km < M.cs.length
        rotate_left
        · have h2 : ¬ (km : Int) < M.cs.length := by omega
          have f1 := mix_len (a := Wm) (b := M.cs) hWm (i := km) (by omega)
          rw [hWm] at f1
          clear ih
          simp only [go_sem, noPl, Rp.a, Rp.v, vw, ren, rens, iv_len, u1, u2, u3, l22, n00, bne_self_eq_false, List.length_map, f1, h2]
          refine cF sAm 6 ⟨.inl (rpa_frz 3 (p := M) (j := 14) (g := true) rfl rfl), .inl (rpa_frz 3 (p := M) (j := 4) (g := true) rfl rfl), trivial⟩ ?_
          simp only [go_sem, noPl, Rp.a, Rp.v, vw, ren, rens, iv_len, u1, u2, u3, l22, n00, bne_self_eq_false, List.length_map]
          refine cF sV 6 ⟨.inl (iv_frz_sl (d := 4) (l := v) (j := 15) (g := true) rfl rfl), .inl (vw_frz 4 _ v), trivial⟩ ?_
          simp only [go_sem, noPl, Rp.a, Rp.v, vw, ren, rens, iv_len, u1, u2, u3, l22, n00, bne_self_eq_false, List.length_map]
          refine loop_body 3000 k_law01_FieldChecks_r23.eq_1 ?_
          simp only [go_sem, noPl, Rp.a, Rp.v, vw, ren, rens, iv_len, u1, u2, u3, l22, n00, bne_self_eq_false, List.length_map]
          refine cP (weights_ok p (by omega) zs hz at' by') ?_ (hb := by simp only [go_sem, Rp.v, vw])
          simp only [go_sem, noPl, Rp.a, Rp.v, vw, ren, rens, iv_len, u1, u2, u3, l22, n00, bne_self_eq_false, List.length_map]
          refine cP awake_ok ?_
          simp only [go_sem]
        · have h2 : (km : Int) < M.cs.length := by omega
          have h3 := idx_next h1m (by omega)
          have n0 : ¬ (km : Int) < 0 := by omega
          have f1 := mix_len (a := Wm) (b := M.cs) hWm (i := km) (by omega)
          rw [hWm] at f1
          have s1 := mix_set (a := Wm) (b := M.cs) hWm (i := km) (by omega)
          have g1 := mix_gt (a := Wm) (b := M.cs) hWm (i := km) (by omega)
          have gi : (iv (mixTo Wm M.cs km))[km]? = some (.int .i64 (gt M.cs km)) := by rw [iv_get (by omega), g1]
          rw [hg0m km h1m] at s1
          have ihn := ih (km + 1) (by omega) h1m
          clear ih
          generalize gt M.cs km = z at *
          simp only [go_sem, noPl, Rp.a, Rp.v, vw, ren, rens, iv_len, u1, u2, u3, l22, n00, bne_self_eq_false, List.length_map, f1, h2, n0, gi, iv_set, s1, h3]
          exact ihn _ (by simp [go_sem, vw])
      · have elm := Elec_bad ckm hem
        have relm := rElec_bad rckm hem
        refine dF elm 6 [14] ⟨.inl (rpa_frz 3 (p := M) (j := 14) (g := true) (onlyR_row rfl (by simp)) rfl), trivial⟩ ?_
        simp only [go_sem, noPl, Rp.a, Rp.v, vw, ren, rens, iv_len, u1, u2, u3, l22, n00, bne_self_eq_false, List.length_map]
        refine cF relm 6 ⟨.inl (rpa_frz 3 (p := M) (j := 4) (g := true) rfl rfl), trivial⟩ ?_
        simp only [go_sem, noPl, Rp.a, Rp.v, vw, ren, rens, iv_len, u1, u2, u3, l22, n00, bne_self_eq_false, List.length_map]
        refine cP sN ?_
        simp only [go_sem, noPl, Rp.a, Rp.v, vw, ren, rens, iv_len, u1, u2, u3, l22, n00, bne_self_eq_false, List.length_map]
        refine cFN (fCopyR (p := M) (by omega) hmn) 6 ⟨.inl (rpa_frz 3 (p := M) (j := 14) (g := true) rfl rfl), trivial⟩ ?_ (by simp [go_sem, Rp.a]) (by simp only [go_sem, Rp.a]) (iv_row _ _ _) (iv_nv _ _)
        simp only [go_sem, noPl, Rp.a, Rp.v, vw, ren, rens, iv_len, u1, u2, u3, l22, n00, bne_self_eq_false, List.length_map]
        refine cF sAm 6 ⟨.inl (rpa_frz 3 (p := M) (j := 17) (g := true) rfl rfl), .inl (rpa_frz 3 (p := M) (j := 4) (g := true) rfl rfl), trivial⟩ ?_
        simp only [go_sem, noPl, Rp.a, Rp.v, vw, ren, rens, iv_len, u1, u2, u3, l22, n00, bne_self_eq_false, List.length_map]
        refine cF sBm 6 ⟨.inl (rpa_frz 3 (p := M) (j := 17) (g := true) rfl rfl), .inl (rpa_frz 3 (p := M) (j := 14) (g := true) rfl rfl), trivial⟩ ?_
        simp only [go_sem, noPl, Rp.a, Rp.v, vw, ren, rens, iv_len, u1, u2, u3, l22, n00, bne_self_eq_false, List.length_map]
        refine dF sCm 6 [14] ⟨.inl (rpa_frz 3 (p := M) (j := 14) (g := true) (onlyR_row rfl (by simp)) rfl), .inl (rp_frz 3 _ Q), trivial⟩ ?_
        simp only [go_sem, noPl, Rp.a, Rp.v, vw, ren, rens, iv_len, u1, u2, u3, l22, n00, bne_self_eq_false, List.length_map]
        refine cF sDm 6 ⟨.inl (rpa_frz 3 (p := M) (j := 4) (g := true) rfl rfl), .inl (rp_frz 3 _ Q), trivial⟩ ?_
        simp only [go_sem, noPl, Rp.a, Rp.v, vw, ren, rens, iv_len, u1, u2, u3, l22, n00, bne_self_eq_false, List.length_map, bbm]
        have hWm : (M.cs.map (fun z => IntKind.i64.wrap (z + 1))).length = M.cs.length := by simp
        have hg0m : ∀ k, k < M.cs.length → gt (M.cs.map (fun z => IntKind.i64.wrap (z + 1))) k = IntKind.i64.wrap (gt M.cs k + 1) := fun k hk => by simp [gt, List.getD_eq_getElem?_getD, List.getElem?_map, List.getElem?_eq_getElem hk]
        generalize hWdm : M.cs.map (fun z => IntKind.i64.wrap (z + 1)) = Wm at *
        have hm0m : M.cs = mixTo Wm M.cs 0 := by simp [mixTo]
        refine loop_ind k_law01_FieldChecks_r19.eq_1 (fun k : Nat => k ≤ M.cs.length) (fun k => M.cs.length - k) (fun km => (tsets 155 [(2, vw v), (3, .view (zs.map (.int .i64))), (4, .int .i64 at'), (5, .int .i64 by'), (6, .ptr 0 0 0 1), (7, .ptr 1 0 0 1), (14, .sl 6 0 2), (15, .int .i64 1), (16, .ptr 16 0 0 1), (17, .sl 15 0 v.length), (18, .ptr 18 0 0 1), (19, .int .i64 km)], [some (.cells false 4 [p.v]), some (.cells false 4 [Q.v]), some (.cells false 1 [vw v]), some (Dr w1), some (.cells true 1 (iv M.cs)), some (.cells false 4 [M.a (.sl 4 0 M.cs.length)]), some (.cells false 4 [p.v, M.a (.sl 4 0 M.cs.length)]), some (.cells true 1 (iv p.cs)), some (.cells true 1 (iv v)), some (.cells false 4 [p.a (.sl 7 0 p.cs.length)]), some (.cells true 1 (iv Ep)), some (.cells true 1 (iv Ep)), some (.cells true 1 (iv (mixTo Wp p.cs kp))), some (.cells false 4 [p.a (.sl 12 0 p.cs.length)]), some (.cells true 1 (iv M.cs)), some (.cells true 1 (iv v)), some (.cells false 4 [M.a (.sl 14 0 M.cs.length)]), some (.cells true 1 (iv (mixTo Wm M.cs km))), some (.cells false 4 [M.a (.sl 17 0 M.cs.length)])])) 0 (Nat.zero_le _) (by simp [go_sem, vw]) (by rw [← hm0m]; rfl) ?_
        intro km hkm ih
        dsimp only at hkm ih ⊢
        by_cases h1m : km < M.cs.length
        rotate_left
        · have h2 : ¬ (km : Int) < M.cs.length := by omega
          have f1 := mix_len (a := Wm) (b := M.cs) hWm (i := km) (by omega)
          rw [hWm] at f1
          clear ih
          simp only [go_sem, noPl, Rp.a, Rp.v, vw, ren, rens, iv_len, u1, u2, u3, l22, n00, bne_self_eq_false, List.length_map, f1, h2]
          refine cF sAm 6 ⟨.inl (rpa_frz 3 (p := M) (j := 14) (g := true) rfl rfl), .inl (rpa_frz 3 (p := M) (j := 4) (g := true) rfl rfl), trivial⟩ ?_
          simp only [go_sem, noPl, Rp.a, Rp.v, vw, ren, rens, iv_len, u1, u2, u3, l22, n00, bne_self_eq_false, List.length_map]
          refine cF sV 6 ⟨.inl (iv_frz_sl (d := 4) (l := v) (j := 15) (g := true) rfl rfl), .inl (vw_frz 4 _ v), trivial⟩ ?_
          simp only [go_sem, noPl, Rp.a, Rp.v, vw, ren, rens, iv_len, u1, u2, u3, l22, n00, bne_self_eq_false, List.length_map]
          refine loop_body 3000 k_law01_FieldChecks_r23.eq_1 ?_
          simp only [go_sem, noPl, Rp.a, Rp.v, vw, ren, rens, iv_len, u1, u2, u3, l22, n00, bne_self_eq_false, List.length_map]
          refine cP (weights_ok p (by omega) zs hz at' by') ?_ (hb := by simp only [go_sem, Rp.v, vw])
          simp only [go_sem, noPl, Rp.a, Rp.v, vw, ren, rens, iv_len, u1, u2, u3, l22, n00, bne_self_eq_false, List.length_map]
          refine cP awake_ok ?_
          simp only [go_sem]
        · have h2 : (km : Int) < M.cs.length := by omega
          have h3 := idx_next h1m (by omega)
          have n0 : ¬ (km : Int) < 0 := by omega
          have f1 := mix_len (a := Wm) (b := M.cs) hWm (i := km) (by omega)
          rw [hWm] at f1
          have s1 := mix_set (a := Wm) (b := M.cs) hWm (i := km) (by omega)
          have g1 := mix_gt (a := Wm) (b := M.cs) hWm (i := km) (by omega)
          have gi : (iv (mixTo Wm M.cs km))[km]? = some (.int .i64 (gt M.cs km)) := by rw [iv_get (by omega), g1]
          rw [hg0m km h1m] at s1
          have ihn := ih (km + 1) (by omega) h1m
          clear ih
          generalize gt M.cs km = z at *
          simp only [go_sem, noPl, Rp.a, Rp.v, vw, ren, rens, iv_len, u1, u2, u3, l22, n00, bne_self_eq_false, List.length_map, f1, h2, n0, gi, iv_set, s1, h3]
          exact ihn _ (by simp [go_sem, vw])
    · have h2 : (kp : Int) < p.cs.length := by omega
      have h3 := idx_next h1p (by omega)
      have n0 : ¬ (kp : Int) < 0 := by omega
      have f1 := mix_len (a := Wp) (b := p.cs) hWp (i := kp) (by omega)
      rw [hWp] at f1
      have s1 := mix_set (a := Wp) (b := p.cs) hWp (i := kp) (by omega)
      have g1 := mix_gt (a := Wp) (b := p.cs) hWp (i := kp) (by omega)
      have gi : (iv (mixTo Wp p.cs kp))[kp]? = some (.int .i64 (gt p.cs kp)) := by rw [iv_get (by omega), g1]
      rw [hg0p kp h1p] at s1
      have ihn := ih (kp + 1) (by omega) h1p
      clear ih
      generalize gt p.cs kp = z at *
      simp only [go_sem, noPl, Rp.a, Rp.v, vw, ren, rens, iv_len, u1, u2, u3, l22, n00, bne_self_eq_false, List.length_map, f1, h2, n0, gi, iv_set, s1, h3]
      exact ihn _ (by simp [go_sem, vw])
  · have elp := Elec_bad ckp hep
    have relp := rElec_bad rckp hep
    refine dF elp 6 [7] ⟨.inl (rpa_frz 3 (p := p) (j := 7) (g := true) (onlyR_row rfl (by simp)) rfl), trivial⟩ ?_
    simp only [go_sem, noPl, Rp.a, Rp.v, vw, ren, rens, iv_len, u1, u2, u3, l22, n00, bne_self_eq_false, List.length_map]
    refine cP relp ?_
    simp only [go_sem, noPl, Rp.a, Rp.v, vw, ren, rens, iv_len, u1, u2, u3, l22, n00, bne_self_eq_false, List.length_map]
    refine cP sN ?_
    simp only [go_sem, noPl, Rp.a, Rp.v, vw, ren, rens, iv_len, u1, u2, u3, l22, n00, bne_self_eq_false, List.length_map]
    by_cases hpe : p.cs = []
    · skip
      have nq := nilp_eq hpe
      have c1 := (fCopyN hpe)
      refine cF c1 6 ⟨.inl (rpa_frz 3 (p := p) (j := 7) (g := true) rfl rfl), trivial⟩ ?_ (hr := by simp only [go_sem, Rp.a]) (hnv := by simp only [go_sem, Rp.a])
      simp only [go_sem, noPl, Rp.a, Rp.v, vw, ren, rens, iv_len, u1, u2, u3, l22, n00, bne_self_eq_false, List.length_map]
      have sAn := Go.Proofs.Ans.lss2 sAp (args' := [p.a .nilsl, p.v]) ⟨.inr (.inr nq), .inl rfl, trivial⟩
      have sBn := Go.Proofs.Ans.lss2 sBp (args' := [p.a .nilsl, p.v]) ⟨.inr (.inr nq), .inl rfl, trivial⟩
      refine cP sAn ?_ (hb := by simp only [go_sem, Rp.a])
      simp only [go_sem, noPl, Rp.a, Rp.v, vw, ren, rens, iv_len, u1, u2, u3, l22, n00, bne_self_eq_false, List.length_map]
      refine cF sBn 6 ⟨.inl rfl, .inl (rpa_frz 3 (p := p) (j := 7) (g := true) rfl rfl), trivial⟩ ?_
      simp only [go_sem, noPl, Rp.a, Rp.v, vw, ren, rens, iv_len, u1, u2, u3, l22, n00, bne_self_eq_false, List.length_map]
      refine dF sCp 6 [7] ⟨.inl (rpa_frz 3 (p := p) (j := 7) (g := true) (onlyR_row rfl (by simp)) rfl), .inl (rp_frz 3 _ Q), trivial⟩ ?_
      simp only [go_sem, noPl, Rp.a, Rp.v, vw, ren, rens, iv_len, u1, u2, u3, l22, n00, bne_self_eq_false, List.length_map]
      refine cP sDp ?_
      simp only [go_sem, noPl, Rp.a, Rp.v, vw, ren, rens, iv_len, u1, u2, u3, l22, n00, bne_self_eq_false, List.length_map, bbp]
      refine loop_body 3000 k_law01_FieldChecks_r19.eq_1 ?_
      simp only [go_sem, noPl, Rp.a, Rp.v, vw, ren, rens, iv_len, u1, u2, u3, l22, n00, bne_self_eq_false, List.length_map]
      refine cF sAp 6 ⟨.inl (rpa_frz 3 (p := p) (j := 7) (g := true) rfl rfl), .inl (rp_frz 3 _ p), trivial⟩ ?_
      simp only [go_sem, noPl, Rp.a, Rp.v, vw, ren, rens, iv_len, u1, u2, u3, l22, n00, bne_self_eq_false, List.length_map]
      refine cF sV 6 ⟨.inl (iv_frz_sl (d := 4) (l := v) (j := 8) (g := true) rfl rfl), .inl (vw_frz 4 _ v), trivial⟩ ?_
      simp only [go_sem, noPl, Rp.a, Rp.v, vw, ren, rens, iv_len, u1, u2, u3, l22, n00, bne_self_eq_false, List.length_map]
      refine loop_body 3000 k_law01_FieldChecks_r23.eq_1 ?_
      simp only [go_sem, noPl, Rp.a, Rp.v, vw, ren, rens, iv_len, u1, u2, u3, l22, n00, bne_self_eq_false, List.length_map]
      refine cFN (rCopyR (p := M) (by omega)) 6 ⟨.inl (rpa_frz 3 (p := M) (j := 4) (g := true) rfl rfl), trivial⟩ ?_ (by simp [go_sem, Rp.a]) (by simp only [go_sem, Rp.a]) (iv_row _ _ _) (iv_nv _ _)
      simp only [go_sem, noPl, Rp.a, Rp.v, vw, ren, rens, iv_len, u1, u2, u3, l22, n00, bne_self_eq_false, List.length_map]
      refine cN1 (ownR (l := v) (by omega)) ?_ (hr := by simp [go_sem]) (hx := iv_row _ _ _)
      simp only [go_sem, noPl, Rp.a, Rp.v, vw, ren, rens, iv_len, u1, u2, u3, l22, n00, bne_self_eq_false, List.length_map]
      refine dF ckm 6 [11] ⟨.inl (rpa_frz 3 (p := M) (j := 11) (g := true) (onlyR_row rfl (by simp)) rfl), trivial⟩ ?_
      simp only [go_sem, noPl, Rp.a, Rp.v, vw, ren, rens, iv_len, u1, u2, u3, l22, n00, bne_self_eq_false, List.length_map]
      refine cF rckm 6 ⟨.inl (rpa_frz 3 (p := M) (j := 4) (g := true) rfl rfl), trivial⟩ ?_
      simp only [go_sem, noPl, Rp.a, Rp.v, vw, ren, rens, iv_len, u1, u2, u3, l22, n00, bne_self_eq_false, List.length_map]
      refine dF cvm 6 [11, 12] ⟨.inl (rpa_frz 3 (p := M) (j := 11) (g := true) (onlyR_row rfl (by simp)) rfl), .inl (iv_frz_sl (d := 4) (l := v) (j := 12) (g := true) (onlyR_row rfl (by simp)) rfl), trivial⟩ ?_
      simp only [go_sem, noPl, Rp.a, Rp.v, vw, ren, rens, iv_len, u1, u2, u3, l22, n00, bne_self_eq_false, List.length_map]
      refine cF rcvm 6 ⟨.inl (rpa_frz 3 (p := M) (j := 4) (g := true) rfl rfl), .inl (vw_frz 4 _ v), trivial⟩ ?_
      simp only [go_sem, noPl, Rp.a, Rp.v, vw, ren, rens, iv_len, u1, u2, u3, l22, n00, bne_self_eq_false, List.length_map]
      by_cases hem : M.err = 0
      · have hE0 := Rp.ok hem
        obtain ⟨hpom, hpvm⟩ := hE0
        have elm := Elec_ok hpom (by have h := ckm; rw [hem, hpvm] at h; exact h)
        have relm := rElec_ok hpom (by have h := rckm; rw [hem, hpvm] at h; exact h)
        rw [← hpvm] at elm relm
        have helm := elT6_len M.pl 6
        generalize elT6 M.pl 6 = Em at *
        have sEm := kSame_self (l := Em) (by omega)
        refine dFN elm 6 [11] ⟨.inl (rpa_frz 3 (p := M) (j := 11) (g := true) (onlyR_row rfl (by simp)) rfl), trivial⟩ ?_ (hr := by simp [go_sem]) (hnv := by simp only [go_sem]) (hx := iv_row _ _ _) (hxn := iv_nv _ _)
        simp only [go_sem, noPl, Rp.a, Rp.v, vw, ren, rens, iv_len, u1, u2, u3, l22, n00, bne_self_eq_false, List.length_map]
        refine cFN relm 6 ⟨.inl (rpa_frz 3 (p := M) (j := 4) (g := true) rfl rfl), trivial⟩ ?_ (by simp [go_sem]) (by simp only [go_sem]) (iv_row _ _ _) (iv_nv _ _)
        simp only [go_sem, noPl, Rp.a, Rp.v, vw, ren, rens, iv_len, u1, u2, u3, l22, n00, bne_self_eq_false, List.length_map]
        refine cF sEm 6 ⟨.inl (iv_frz_sl (d := 4) (l := Em) (j := 14) (g := true) rfl rfl), .inl (iv_frz_sl (d := 4) (l := Em) (j := 15) (g := true) rfl rfl), trivial⟩ ?_
        simp only [go_sem, noPl, Rp.a, Rp.v, vw, ren, rens, iv_len, u1, u2, u3, l22, n00, bne_self_eq_false, List.length_map]
        refine cFN (fCopyR (p := M) (by omega) hmn) 6 ⟨.inl (rpa_frz 3 (p := M) (j := 11) (g := true) rfl rfl), trivial⟩ ?_ (by simp [go_sem, Rp.a]) (by simp only [go_sem, Rp.a]) (iv_row _ _ _) (iv_nv _ _)
        simp only [go_sem, noPl, Rp.a, Rp.v, vw, ren, rens, iv_len, u1, u2, u3, l22, n00, bne_self_eq_false, List.length_map]
        refine cF sAm 6 ⟨.inl (rpa_frz 3 (p := M) (j := 16) (g := true) rfl rfl), .inl (rpa_frz 3 (p := M) (j := 4) (g := true) rfl rfl), trivial⟩ ?_
        simp only [go_sem, noPl, Rp.a, Rp.v, vw, ren, rens, iv_len, u1, u2, u3, l22, n00, bne_self_eq_false, List.length_map]
        refine cF sBm 6 ⟨.inl (rpa_frz 3 (p := M) (j := 16) (g := true) rfl rfl), .inl (rpa_frz 3 (p := M) (j := 11) (g := true) rfl rfl), trivial⟩ ?_
        simp only [go_sem, noPl, Rp.a, Rp.v, vw, ren, rens, iv_len, u1, u2, u3, l22, n00, bne_self_eq_false, List.length_map]
        refine dF sCm 6 [11] ⟨.inl (rpa_frz 3 (p := M) (j := 11) (g := true) (onlyR_row rfl (by simp)) rfl), .inl (rp_frz 3 _ Q), trivial⟩ ?_
        simp only [go_sem, noPl, Rp.a, Rp.v, vw, ren, rens, iv_len, u1, u2, u3, l22, n00, bne_self_eq_false, List.length_map]
        refine cF sDm 6 ⟨.inl (rpa_frz 3 (p := M) (j := 4) (g := true) rfl rfl), .inl (rp_frz 3 _ Q), trivial⟩ ?_
        simp only [go_sem, noPl, Rp.a, Rp.v, vw, ren, rens, iv_len, u1, u2, u3, l22, n00, bne_self_eq_false, List.length_map, bbm]
        have hWm : (M.cs.map (fun z => IntKind.i64.wrap (z + 1))).length = M.cs.length := by simp
        have hg0m : ∀ k, k < M.cs.length → gt (M.cs.map (fun z => IntKind.i64.wrap (z + 1))) k = IntKind.i64.wrap (gt M.cs k + 1) := fun k hk => by simp [gt, List.getD_eq_getElem?_getD, List.getElem?_map, List.getElem?_eq_getElem hk]
        generalize hWdm : M.cs.map (fun z => IntKind.i64.wrap (z + 1)) = Wm at *
        have hm0m : M.cs = mixTo Wm M.cs 0 := by simp [mixTo]
        refine loop_ind k_law01_FieldChecks_r19.eq_1 (fun k : Nat => k ≤ M.cs.length) (fun k => M.cs.length - k) (fun km => (tsets 155 [(2, vw v), (3, .view (zs.map (.int .i64))), (4, .int .i64 at'), (5, .int .i64 by'), (6, .ptr 0 0 0 1), (7, .ptr 1 0 0 1), (14, .sl 6 0 2), (15, .int .i64 1), (16, .ptr 13 0 0 1), (17, .sl 12 0 v.length), (18, .ptr 17 0 0 1), (19, .int .i64 km)], [some (.cells false 4 [p.v]), some (.cells false 4 [Q.v]), some (.cells false 1 [vw v]), some (Dr w1), some (.cells true 1 (iv M.cs)), some (.cells false 4 [M.a (.sl 4 0 M.cs.length)]), some (.cells false 4 [p.v, M.a (.sl 4 0 M.cs.length)]), some (.cells true 1 (iv p.cs)), some (.cells true 1 (iv v)), some (.cells false 4 [p.a (.sl 7 0 p.cs.length)]), some (.cells false 4 [p.a .nilsl]), some (.cells true 1 (iv M.cs)), some (.cells true 1 (iv v)), some (.cells false 4 [M.a (.sl 11 0 M.cs.length)]), some (.cells true 1 (iv Em)), some (.cells true 1 (iv Em)), some (.cells true 1 (iv (mixTo Wm M.cs km))), some (.cells false 4 [M.a (.sl 16 0 M.cs.length)])])) 0 (Nat.zero_le _) (by simp [go_sem, vw]) (by rw [← hm0m]; rfl) ?_
        intro km hkm ih
        dsimp only at hkm ih ⊢
        by_cases h1m : km < M.cs.length
        rotate_left
        · have h2 : ¬ (km : Int) < M.cs.length := by omega
          have f1 := mix_len (a := Wm) (b := M.cs) hWm (i := km) (by omega)
          rw [hWm] at f1
          clear ih
          simp only [go_sem, noPl, Rp.a, Rp.v, vw, ren, rens, iv_len, u1, u2, u3, l22, n00, bne_self_eq_false, List.length_map, f1, h2]
          refine cF sAm 6 ⟨.inl (rpa_frz 3 (p := M) (j := 11) (g := true) rfl rfl), .inl (rpa_frz 3 (p := M) (j := 4) (g := true) rfl rfl), trivial⟩ ?_
          simp only [go_sem, noPl, Rp.a, Rp.v, vw, ren, rens, iv_len, u1, u2, u3, l22, n00, bne_self_eq_false, List.length_map]
          refine cF sV 6 ⟨.inl (iv_frz_sl (d := 4) (l := v) (j := 12) (g := true) rfl rfl), .inl (vw_frz 4 _ v), trivial⟩ ?_
          simp only [go_sem, noPl, Rp.a, Rp.v, vw, ren, rens, iv_len, u1, u2, u3, l22, n00, bne_self_eq_false, List.length_map]
          refine loop_body 3000 k_law01_FieldChecks_r23.eq_1 ?_
          simp only [go_sem, noPl, Rp.a, Rp.v, vw, ren, rens, iv_len, u1, u2, u3, l22, n00, bne_self_eq_false, List.length_map]
          refine cP (weights_ok p (by omega) zs hz at' by') ?_ (hb := by simp only [go_sem, Rp.v, vw])
          simp only [go_sem, noPl, Rp.a, Rp.v, vw, ren, rens, iv_len, u1, u2, u3, l22, n00, bne_self_eq_false, List.length_map]
          refine cP awake_ok ?_
          simp only [go_sem]
        · have h2 : (km : Int) < M.cs.length := by omega
          have h3 := idx_next h1m (by omega)
          have n0 : ¬ (km : Int) < 0 := by omega
          have f1 := mix_len (a := Wm) (b := M.cs) hWm (i := km) (by omega)
          rw [hWm] at f1
          have s1 := mix_set (a := Wm) (b := M.cs) hWm (i := km) (by omega)
          have g1 := mix_gt (a := Wm) (b := M.cs) hWm (i := km) (by omega)
          have gi : (iv (mixTo Wm M.cs km))[km]? = some (.int .i64 (gt M.cs km)) := by rw [iv_get (by omega), g1]
          rw [hg0m km h1m] at s1
          have ihn := ih (km + 1) (by omega) h1m
          clear ih
          generalize gt M.cs km = z at *
          simp only [go_sem, noPl, Rp.a, Rp.v, vw, ren, rens, iv_len, u1, u2, u3, l22, n00, bne_self_eq_false, List.length_map, f1, h2, n0, gi, iv_set, s1, h3]
          exact ihn _ (by simp [go_sem, vw])
      · have elm := Elec_bad ckm hem
        have relm := rElec_bad rckm hem
        refine dF elm 6 [11] ⟨.inl (rpa_frz 3 (p := M) (j := 11) (g := true) (onlyR_row rfl (by simp)) rfl), trivial⟩ ?_
        simp only [go_sem, noPl, Rp.a, Rp.v, vw, ren, rens, iv_len, u1, u2, u3, l22, n00, bne_self_eq_false, List.length_map]
        refine cF relm 6 ⟨.inl (rpa_frz 3 (p := M) (j := 4) (g := true) rfl rfl), trivial⟩ ?_
        simp only [go_sem, noPl, Rp.a, Rp.v, vw, ren, rens, iv_len, u1, u2, u3, l22, n00, bne_self_eq_false, List.length_map]
        refine cP sN ?_
        simp only [go_sem, noPl, Rp.a, Rp.v, vw, ren, rens, iv_len, u1, u2, u3, l22, n00, bne_self_eq_false, List.length_map]
        refine cFN (fCopyR (p := M) (by omega) hmn) 6 ⟨.inl (rpa_frz 3 (p := M) (j := 11) (g := true) rfl rfl), trivial⟩ ?_ (by simp [go_sem, Rp.a]) (by simp only [go_sem, Rp.a]) (iv_row _ _ _) (iv_nv _ _)
        simp only [go_sem, noPl, Rp.a, Rp.v, vw, ren, rens, iv_len, u1, u2, u3, l22, n00, bne_self_eq_false, List.length_map]
        refine cF sAm 6 ⟨.inl (rpa_frz 3 (p := M) (j := 14) (g := true) rfl rfl), .inl (rpa_frz 3 (p := M) (j := 4) (g := true) rfl rfl), trivial⟩ ?_
        simp only [go_sem, noPl, Rp.a, Rp.v, vw, ren, rens, iv_len, u1, u2, u3, l22, n00, bne_self_eq_false, List.length_map]
        refine cF sBm 6 ⟨.inl (rpa_frz 3 (p := M) (j := 14) (g := true) rfl rfl), .inl (rpa_frz 3 (p := M) (j := 11) (g := true) rfl rfl), trivial⟩ ?_
        simp only [go_sem, noPl, Rp.a, Rp.v, vw, ren, rens, iv_len, u1, u2, u3, l22, n00, bne_self_eq_false, List.length_map]
        refine dF sCm 6 [11] ⟨.inl (rpa_frz 3 (p := M) (j := 11) (g := true) (onlyR_row rfl (by simp)) rfl), .inl (rp_frz 3 _ Q), trivial⟩ ?_
        simp only [go_sem, noPl, Rp.a, Rp.v, vw, ren, rens, iv_len, u1, u2, u3, l22, n00, bne_self_eq_false, List.length_map]
        refine cF sDm 6 ⟨.inl (rpa_frz 3 (p := M) (j := 4) (g := true) rfl rfl), .inl (rp_frz 3 _ Q), trivial⟩ ?_
        simp only [go_sem, noPl, Rp.a, Rp.v, vw, ren, rens, iv_len, u1, u2, u3, l22, n00, bne_self_eq_false, List.length_map, bbm]
        have hWm : (M.cs.map (fun z => IntKind.i64.wrap (z + 1))).length = M.cs.length := by simp
        have hg0m : ∀ k, k < M.cs.length → gt (M.cs.map (fun z => IntKind.i64.wrap (z + 1))) k = IntKind.i64.wrap (gt M.cs k + 1) := fun k hk => by simp [gt, List.getD_eq_getElem?_getD, List.getElem?_map, List.getElem?_eq_getElem hk]
        generalize hWdm : M.cs.map (fun z => IntKind.i64.wrap (z + 1)) = Wm at *
        have hm0m : M.cs = mixTo Wm M.cs 0 := by simp [mixTo]
        refine loop_ind k_law01_FieldChecks_r19.eq_1 (fun k : Nat => k ≤ M.cs.length) (fun k => M.cs.length - k) (fun km => (tsets 155 [(2, vw v), (3, .view (zs.map (.int .i64))), (4, .int .i64 at'), (5, .int .i64 by'), (6, .ptr 0 0 0 1), (7, .ptr 1 0 0 1), (14, .sl 6 0 2), (15, .int .i64 1), (16, .ptr 13 0 0 1), (17, .sl 12 0 v.length), (18, .ptr 15 0 0 1), (19, .int .i64 km)], [some (.cells false 4 [p.v]), some (.cells false 4 [Q.v]), some (.cells false 1 [vw v]), some (Dr w1), some (.cells true 1 (iv M.cs)), some (.cells false 4 [M.a (.sl 4 0 M.cs.length)]), some (.cells false 4 [p.v, M.a (.sl 4 0 M.cs.length)]), some (.cells true 1 (iv p.cs)), some (.cells true 1 (iv v)), some (.cells false 4 [p.a (.sl 7 0 p.cs.length)]), some (.cells false 4 [p.a .nilsl]), some (.cells true 1 (iv M.cs)), some (.cells true 1 (iv v)), some (.cells false 4 [M.a (.sl 11 0 M.cs.length)]), some (.cells true 1 (iv (mixTo Wm M.cs km))), some (.cells false 4 [M.a (.sl 14 0 M.cs.length)])])) 0 (Nat.zero_le _) (by simp [go_sem, vw]) (by rw [← hm0m]; rfl) ?_
        intro km hkm ih
        dsimp only at hkm ih ⊢
        by_cases h1m : km < M.cs.length
        rotate_left
        · have h2 : ¬ (km : Int) < M.cs.length := by omega
          have f1 := mix_len (a := Wm) (b := M.cs) hWm (i := km) (by omega)
          rw [hWm] at f1
          clear ih
          simp only [go_sem, noPl, Rp.a, Rp.v, vw, ren, rens, iv_len, u1, u2, u3, l22, n00, bne_self_eq_false, List.length_map, f1, h2]
          refine cF sAm 6 ⟨.inl (rpa_frz 3 (p := M) (j := 11) (g := true) rfl rfl), .inl (rpa_frz 3 (p := M) (j := 4) (g := true) rfl rfl), trivial⟩ ?_
          simp only [go_sem, noPl, Rp.a, Rp.v, vw, ren, rens, iv_len, u1, u2, u3, l22, n00, bne_self_eq_false, List.length_map]
          refine cF sV 6 ⟨.inl (iv_frz_sl (d := 4) (l := v) (j := 12) (g := true) rfl rfl), .inl (vw_frz 4 _ v), trivial⟩ ?_
          simp only [go_sem, noPl, Rp.a, Rp.v, vw, ren, rens, iv_len, u1, u2, u3, l22, n00, bne_self_eq_false, List.length_map]
          refine loop_body 3000 k_law01_FieldChecks_r23.eq_1 ?_
          simp only [go_sem, noPl, Rp.a, Rp.v, vw, ren, rens, iv_len, u1, u2, u3, l22, n00, bne_self_eq_false, List.length_map]
          refine cP (weights_ok p (by omega) zs hz at' by') ?_ (hb := by simp only [go_sem, Rp.v, vw])
          simp only [go_sem, noPl, Rp.a, Rp.v, vw, ren, rens, iv_len, u1, u2, u3, l22, n00, bne_self_eq_false, List.length_map]
          refine cP awake_ok ?_
          simp only [go_sem]
        · have h2 : (km : Int) < M.cs.length := by omega
          have h3 := idx_next h1m (by omega)
          have n0 : ¬ (km : Int) < 0 := by omega
          have f1 := mix_len (a := Wm) (b := M.cs) hWm (i := km) (by omega)
          rw [hWm] at f1
          have s1 := mix_set (a := Wm) (b := M.cs) hWm (i := km) (by omega)
          have g1 := mix_gt (a := Wm) (b := M.cs) hWm (i := km) (by omega)
          have gi : (iv (mixTo Wm M.cs km))[km]? = some (.int .i64 (gt M.cs km)) := by rw [iv_get (by omega), g1]
          rw [hg0m km h1m] at s1
          have ihn := ih (km + 1) (by omega) h1m
          clear ih
          generalize gt M.cs km = z at *
          simp only [go_sem, noPl, Rp.a, Rp.v, vw, ren, rens, iv_len, u1, u2, u3, l22, n00, bne_self_eq_false, List.length_map, f1, h2, n0, gi, iv_set, s1, h3]
          exact ihn _ (by simp [go_sem, vw])
    · have hpn : p.cs ≠ [] := hpe
      refine cFN (fCopyR (p := p) (by omega) hpn) 6 ⟨.inl (rpa_frz 3 (p := p) (j := 7) (g := true) rfl rfl), trivial⟩ ?_ (by simp [go_sem, Rp.a]) (by simp only [go_sem, Rp.a]) (iv_row _ _ _) (iv_nv _ _)
      simp only [go_sem, noPl, Rp.a, Rp.v, vw, ren, rens, iv_len, u1, u2, u3, l22, n00, bne_self_eq_false, List.length_map]
      refine cF sAp 6 ⟨.inl (rpa_frz 3 (p := p) (j := 10) (g := true) rfl rfl), .inl (rp_frz 3 _ p), trivial⟩ ?_
      simp only [go_sem, noPl, Rp.a, Rp.v, vw, ren, rens, iv_len, u1, u2, u3, l22, n00, bne_self_eq_false, List.length_map]
      refine cF sBp 6 ⟨.inl (rpa_frz 3 (p := p) (j := 10) (g := true) rfl rfl), .inl (rpa_frz 3 (p := p) (j := 7) (g := true) rfl rfl), trivial⟩ ?_
      simp only [go_sem, noPl, Rp.a, Rp.v, vw, ren, rens, iv_len, u1, u2, u3, l22, n00, bne_self_eq_false, List.length_map]
      refine dF sCp 6 [7] ⟨.inl (rpa_frz 3 (p := p) (j := 7) (g := true) (onlyR_row rfl (by simp)) rfl), .inl (rp_frz 3 _ Q), trivial⟩ ?_
      simp only [go_sem, noPl, Rp.a, Rp.v, vw, ren, rens, iv_len, u1, u2, u3, l22, n00, bne_self_eq_false, List.length_map]
      refine cP sDp ?_
      simp only [go_sem, noPl, Rp.a, Rp.v, vw, ren, rens, iv_len, u1, u2, u3, l22, n00, bne_self_eq_false, List.length_map, bbp]
      have hWp : (p.cs.map (fun z => IntKind.i64.wrap (z + 1))).length = p.cs.length := by simp
      have hg0p : ∀ k, k < p.cs.length → gt (p.cs.map (fun z => IntKind.i64.wrap (z + 1))) k = IntKind.i64.wrap (gt p.cs k + 1) := fun k hk => by simp [gt, List.getD_eq_getElem?_getD, List.getElem?_map, List.getElem?_eq_getElem hk]
      generalize hWdp : p.cs.map (fun z => IntKind.i64.wrap (z + 1)) = Wp at *
      have hm0p : p.cs = mixTo Wp p.cs 0 := by simp [mixTo]
      refine loop_ind k_law01_FieldChecks_r19.eq_1 (fun k : Nat => k ≤ p.cs.length) (fun k => p.cs.length - k) (fun kp => (tsets 155 [(2, vw v), (3, .view (zs.map (.int .i64))), (4, .int .i64 at'), (5, .int .i64 by'), (6, .ptr 0 0 0 1), (7, .ptr 1 0 0 1), (14, .sl 6 0 2), (15, .int .i64 0), (16, .ptr 9 0 0 1), (17, .sl 8 0 v.length), (18, .ptr 11 0 0 1), (19, .int .i64 kp)], [some (.cells false 4 [p.v]), some (.cells false 4 [Q.v]), some (.cells false 1 [vw v]), some (Dr w1), some (.cells true 1 (iv M.cs)), some (.cells false 4 [M.a (.sl 4 0 M.cs.length)]), some (.cells false 4 [p.v, M.a (.sl 4 0 M.cs.length)]), some (.cells true 1 (iv p.cs)), some (.cells true 1 (iv v)), some (.cells false 4 [p.a (.sl 7 0 p.cs.length)]), some (.cells true 1 (iv (mixTo Wp p.cs kp))), some (.cells false 4 [p.a (.sl 10 0 p.cs.length)])])) 0 (Nat.zero_le _) (by simp [go_sem, vw]) (by rw [← hm0p]; rfl) ?_
      intro kp hkp ih
      dsimp only at hkp ih ⊢
      by_cases h1p : kp < p.cs.length
      rotate_left
      · have h2 : ¬ (kp : Int) < p.cs.length := by omega
        have f1 := mix_len (a := Wp) (b := p.cs) hWp (i := kp) (by omega)
        rw [hWp] at f1
        clear ih
        simp only [go_sem, noPl, Rp.a, Rp.v, vw, ren, rens, iv_len, u1, u2, u3, l22, n00, bne_self_eq_false, List.length_map, f1, h2]
        refine cF sAp 6 ⟨.inl (rpa_frz 3 (p := p) (j := 7) (g := true) rfl rfl), .inl (rp_frz 3 _ p), trivial⟩ ?_
        simp only [go_sem, noPl, Rp.a, Rp.v, vw, ren, rens, iv_len, u1, u2, u3, l22, n00, bne_self_eq_false, List.length_map]
        refine cF sV 6 ⟨.inl (iv_frz_sl (d := 4) (l := v) (j := 8) (g := true) rfl rfl), .inl (vw_frz 4 _ v), trivial⟩ ?_
        simp only [go_sem, noPl, Rp.a, Rp.v, vw, ren, rens, iv_len, u1, u2, u3, l22, n00, bne_self_eq_false, List.length_map]
        refine loop_body 3000 k_law01_FieldChecks_r23.eq_1 ?_
        simp only [go_sem, noPl, Rp.a, Rp.v, vw, ren, rens, iv_len, u1, u2, u3, l22, n00, bne_self_eq_false, List.length_map]
        refine cFN (rCopyR (p := M) (by omega)) 6 ⟨.inl (rpa_frz 3 (p := M) (j := 4) (g := true) rfl rfl), trivial⟩ ?_ (by simp [go_sem, Rp.a]) (by simp only [go_sem, Rp.a]) (iv_row _ _ _) (iv_nv _ _)
        simp only [go_sem, noPl, Rp.a, Rp.v, vw, ren, rens, iv_len, u1, u2, u3, l22, n00, bne_self_eq_false, List.length_map]
        refine cN1 (ownR (l := v) (by omega)) ?_ (hr := by simp [go_sem]) (hx := iv_row _ _ _)
        simp only [go_sem, noPl, Rp.a, Rp.v, vw, ren, rens, iv_len, u1, u2, u3, l22, n00, bne_self_eq_false, List.length_map]
        refine dF ckm 6 [12] ⟨.inl (rpa_frz 3 (p := M) (j := 12) (g := true) (onlyR_row rfl (by simp)) rfl), trivial⟩ ?_
        simp only [go_sem, noPl, Rp.a, Rp.v, vw, ren, rens, iv_len, u1, u2, u3, l22, n00, bne_self_eq_false, List.length_map]
        refine cF rckm 6 ⟨.inl (rpa_frz 3 (p := M) (j := 4) (g := true) rfl rfl), trivial⟩ ?_
        simp only [go_sem, noPl, Rp.a, Rp.v, vw, ren, rens, iv_len, u1, u2, u3, l22, n00, bne_self_eq_false, List.length_map]
        refine dF cvm 6 [12, 13] ⟨.inl (rpa_frz 3 (p := M) (j := 12) (g := true) (onlyR_row rfl (by simp)) rfl), .inl (iv_frz_sl (d := 4) (l := v) (j := 13) (g := true) (onlyR_row rfl (by simp)) rfl), trivial⟩ ?_
        simp only [go_sem, noPl, Rp.a, Rp.v, vw, ren, rens, iv_len, u1, u2, u3, l22, n00, bne_self_eq_false, List.length_map]
        refine cF rcvm 6 ⟨.inl (rpa_frz 3 (p := M) (j := 4) (g := true) rfl rfl), .inl (vw_frz 4 _ v), trivial⟩ ?_
        simp only [go_sem, noPl, Rp.a, Rp.v, vw, ren, rens, iv_len, u1, u2, u3, l22, n00, bne_self_eq_false, List.length_map]
        by_cases hem : M.err = 0
        · have hE0 := Rp.ok hem
          obtain ⟨hpom, hpvm⟩ := hE0
          have elm := Elec_ok hpom (by have h := ckm; rw [hem, hpvm] at h; exact h)
          have relm := rElec_ok hpom (by have h := rckm; rw [hem, hpvm] at h; exact h)
          rw [← hpvm] at elm relm
          have helm := elT6_len M.pl 6
          generalize elT6 M.pl 6 = Em at *
          have sEm := kSame_self (l := Em) (by omega)
          refine dFN elm 6 [12] ⟨.inl (rpa_frz 3 (p := M) (j := 12) (g := true) (onlyR_row rfl (by simp)) rfl), trivial⟩ ?_ (hr := by simp [go_sem]) (hnv := by simp only [go_sem]) (hx := iv_row _ _ _) (hxn := iv_nv _ _)
          simp only [go_sem, noPl, Rp.a, Rp.v, vw, ren, rens, iv_len, u1, u2, u3, l22, n00, bne_self_eq_false, List.length_map]
          refine cFN relm 6 ⟨.inl (rpa_frz 3 (p := M) (j := 4) (g := true) rfl rfl), trivial⟩ ?_ (by simp [go_sem]) (by simp only [go_sem]) (iv_row _ _ _) (iv_nv _ _)
          simp only [go_sem, noPl, Rp.a, Rp.v, vw, ren, rens, iv_len, u1, u2, u3, l22, n00, bne_self_eq_false, List.length_map]
          refine cF sEm 6 ⟨.inl (iv_frz_sl (d := 4) (l := Em) (j := 15) (g := true) rfl rfl), .inl (iv_frz_sl (d := 4) (l := Em) (j := 16) (g := true) rfl rfl), trivial⟩ ?_
          simp only [go_sem, noPl, Rp.a, Rp.v, vw, ren, rens, iv_len, u1, u2, u3, l22, n00, bne_self_eq_false, List.length_map]
          refine cFN (fCopyR (p := M) (by omega) hmn) 6 ⟨.inl (rpa_frz 3 (p := M) (j := 12) (g := true) rfl rfl), trivial⟩ ?_ (by simp [go_sem, Rp.a]) (by simp only [go_sem, Rp.a]) (iv_row _ _ _) (iv_nv _ _)
          simp only [go_sem, noPl, Rp.a, Rp.v, vw, ren, rens, iv_len, u1, u2, u3, l22, n00, bne_self_eq_false, List.length_map]
          refine cF sAm 6 ⟨.inl (rpa_frz 3 (p := M) (j := 17) (g := true) rfl rfl), .inl (rpa_frz 3 (p := M) (j := 4) (g := true) rfl rfl), trivial⟩ ?_
          simp only [go_sem, noPl, Rp.a, Rp.v, vw, ren, rens, iv_len, u1, u2, u3, l22, n00, bne_self_eq_false, List.length_map]
          refine cF sBm 6 ⟨.inl (rpa_frz 3 (p := M) (j := 17) (g := true) rfl rfl), .inl (rpa_frz 3 (p := M) (j := 12) (g := true) rfl rfl), trivial⟩ ?_
          simp only [go_sem, noPl, Rp.a, Rp.v, vw, ren, rens, iv_len, u1, u2, u3, l22, n00, bne_self_eq_false, List.length_map]
          refine dF sCm 6 [12] ⟨.inl (rpa_frz 3 (p := M) (j := 12) (g := true) (onlyR_row rfl (by simp)) rfl), .inl (rp_frz 3 _ Q), trivial⟩ ?_
          simp only [go_sem, noPl, Rp.a, Rp.v, vw, ren, rens, iv_len, u1, u2, u3, l22, n00, bne_self_eq_false, List.length_map]
          refine cF sDm 6 ⟨.inl (rpa_frz 3 (p := M) (j := 4) (g := true) rfl rfl), .inl (rp_frz 3 _ Q), trivial⟩ ?_
          simp only [go_sem, noPl, Rp.a, Rp.v, vw, ren, rens, iv_len, u1, u2, u3, l22, n00, bne_self_eq_false, List.length_map, bbm]
          have hWm : (M.cs.map (fun z => IntKind.i64.wrap (z + 1))).length = M.cs.length := by simp
          have hg0m : ∀ k, k < M.cs.length → gt (M.cs.map (fun z => IntKind.i64.wrap (z + 1))) k = IntKind.i64.wrap (gt M.cs k + 1) := fun k hk => by simp [gt, List.getD_eq_getElem?_getD, List.getElem?_map, List.getElem?_eq_getElem hk]
          generalize hWdm : M.cs.map (fun z => IntKind.i64.wrap (z + 1)) = Wm at *
          have hm0m : M.cs = mixTo Wm M.cs 0 := by simp [mixTo]
          refine loop_ind k_law01_FieldChecks_r19.eq_1 (fun k : Nat => k ≤ M.cs.length) (fun k => M.cs.length - k) (fun km => (tsets 155 [(2, vw v), (3, .view (zs.map (.int .i64))), (4, .int .i64 at'), (5, .int .i64 by'), (6, .ptr 0 0 0 1), (7, .ptr 1 0 0 1), (14, .sl 6 0 2), (15, .int .i64 1), (16, .ptr 14 0 0 1), (17, .sl 13 0 v.length), (18, .ptr 18 0 0 1), (19, .int .i64 km)], [some (.cells false 4 [p.v]), some (.cells false 4 [Q.v]), some (.cells false 1 [vw v]), some (Dr w1), some (.cells true 1 (iv M.cs)), some (.cells false 4 [M.a (.sl 4 0 M.cs.length)]), some (.cells false 4 [p.v, M.a (.sl 4 0 M.cs.length)]), some (.cells true 1 (iv p.cs)), some (.cells true 1 (iv v)), some (.cells false 4 [p.a (.sl 7 0 p.cs.length)]), some (.cells true 1 (iv (mixTo Wp p.cs kp))), some (.cells false 4 [p.a (.sl 10 0 p.cs.length)]), some (.cells true 1 (iv M.cs)), some (.cells true 1 (iv v)), some (.cells false 4 [M.a (.sl 12 0 M.cs.length)]), some (.cells true 1 (iv Em)), some (.cells true 1 (iv Em)), some (.cells true 1 (iv (mixTo Wm M.cs km))), some (.cells false 4 [M.a (.sl 17 0 M.cs.length)])])) 0 (Nat.zero_le _) (by simp [go_sem, vw]) (by rw [← hm0m]; rfl) ?_
          intro km hkm ih
          dsimp only at hkm ih ⊢
          by_cases h1m : km < M.cs.length
          rotate_left
          · have h2 : ¬ (km : Int) < M.cs.length := by omega
            have f1 := mix_len (a := Wm) (b := M.cs) hWm (i := km) (by omega)
            rw [hWm] at f1
            clear ih
            simp only [go_sem, noPl, Rp.a, Rp.v, vw, ren, rens, iv_len, u1, u2, u3, l22, n00, bne_self_eq_false, List.length_map, f1, h2]
            refine cF sAm 6 ⟨.inl (rpa_frz 3 (p := M) (j := 12) (g := true) rfl rfl), .inl (rpa_frz 3 (p := M) (j := 4) (g := true) rfl rfl), trivial⟩ ?_
            simp only [go_sem, noPl, Rp.a, Rp.v, vw, ren, rens, iv_len, u1, u2, u3, l22, n00, bne_self_eq_false, List.length_map]
            refine cF sV 6 ⟨.inl (iv_frz_sl (d := 4) (l := v) (j := 13) (g := true) rfl rfl), .inl (vw_frz 4 _ v), trivial⟩ ?_
            simp only [go_sem, noPl, Rp.a, Rp.v, vw, ren, rens, iv_len, u1, u2, u3, l22, n00, bne_self_eq_false, List.length_map]
            refine loop_body 3000 k_law01_FieldChecks_r23.eq_1 ?_
            simp only [go_sem, noPl, Rp.a, Rp.v, vw, ren, rens, iv_len, u1, u2, u3, l22, n00, bne_self_eq_false, List.length_map]
            refine cP (weights_ok p (by omega) zs hz at' by') ?_ (hb := by simp only [go_sem, Rp.v, vw])
            simp only [go_sem, noPl, Rp.a, Rp.v, vw, ren, rens, iv_len, u1, u2, u3, l22, n00, bne_self_eq_false, List.length_map]
            refine cP awake_ok ?_
            simp only [go_sem]
          · have h2 : (km : Int) < M.cs.length := by omega
            have h3 := idx_next h1m (by omega)
            have n0 : ¬ (km : Int) < 0 := by omega
            have f1 := mix_len (a := Wm) (b := M.cs) hWm (i := km) (by omega)
            rw [hWm] at f1
            have s1 := mix_set (a := Wm) (b := M.cs) hWm (i := km) (by omega)
            have g1 := mix_gt (a := Wm) (b := M.cs) hWm (i := km) (by omega)
            have gi : (iv (mixTo Wm M.cs km))[km]? = some (.int .i64 (gt M.cs km)) := by rw [iv_get (by omega), g1]
            rw [hg0m km h1m] at s1
            have ihn := ih (km + 1) (by omega) h1m
            clear ih
            generalize gt M.cs km = z at *
            simp only [go_sem, noPl, Rp.a, Rp.v, vw, ren, rens, iv_len, u1, u2, u3, l22, n00, bne_self_eq_false, List.length_map, f1, h2, n0, gi, iv_set, s1, h3]
            exact ihn _ (by simp [go_sem, vw])
        · have elm := Elec_bad ckm hem
          have relm := rElec_bad rckm hem
          refine dF elm 6 [12] ⟨.inl (rpa_frz 3 (p := M) (j := 12) (g := true) (onlyR_row rfl (by simp)) rfl), trivial⟩ ?_
          simp only [go_sem, noPl, Rp.a, Rp.v, vw, ren, rens, iv_len, u1, u2, u3, l22, n00, bne_self_eq_false, List.length_map]
          refine cF relm 6 ⟨.inl (rpa_frz 3 (p := M) (j := 4) (g := true) rfl rfl), trivial⟩ ?_
          simp only [go_sem, noPl, Rp.a, Rp.v, vw, ren, rens, iv_len, u1, u2, u3, l22, n00, bne_self_eq_false, List.length_map]
          refine cP sN ?_
          simp only [go_sem, noPl, Rp.a, Rp.v, vw, ren, rens, iv_len, u1, u2, u3, l22, n00, bne_self_eq_false, List.length_map]
          refine cFN (fCopyR (p := M) (by omega) hmn) 6 ⟨.inl (rpa_frz 3 (p := M) (j := 12) (g := true) rfl rfl), trivial⟩ ?_ (by simp [go_sem, Rp.a]) (by simp only [go_sem, Rp.a]) (iv_row _ _ _) (iv_nv _ _)
          simp only [go_sem, noPl, Rp.a, Rp.v, vw, ren, rens, iv_len, u1, u2, u3, l22, n00, bne_self_eq_false, List.length_map]
          refine cF sAm 6 ⟨.inl (rpa_frz 3 (p := M) (j := 15) (g := true) rfl rfl), .inl (rpa_frz 3 (p := M) (j := 4) (g := true) rfl rfl), trivial⟩ ?_
          simp only [go_sem, noPl, Rp.a, Rp.v, vw, ren, rens, iv_len, u1, u2, u3, l22, n00, bne_self_eq_false, List.length_map]
          refine cF sBm 6 ⟨.inl (rpa_frz 3 (p := M) (j := 15) (g := true) rfl rfl), .inl (rpa_frz 3 (p := M) (j := 12) (g := true) rfl rfl), trivial⟩ ?_
          simp only [go_sem, noPl, Rp.a, Rp.v, vw, ren, rens, iv_len, u1, u2, u3, l22, n00, bne_self_eq_false, List.length_map]
          refine dF sCm 6 [12] ⟨.inl (rpa_frz 3 (p := M) (j := 12) (g := true) (onlyR_row rfl (by simp)) rfl), .inl (rp_frz 3 _ Q), trivial⟩ ?_
          simp only [go_sem, noPl, Rp.a, Rp.v, vw, ren, rens, iv_len, u1, u2, u3, l22, n00, bne_self_eq_false, List.length_map]
          refine cF sDm 6 ⟨.inl (rpa_frz 3 (p := M) (j := 4) (g := true) rfl rfl), .inl (rp_frz 3 _ Q), trivial⟩ ?_
          simp only [go_sem, noPl, Rp.a, Rp.v, vw, ren, rens, iv_len, u1, u2, u3, l22, n00, bne_self_eq_false, List.length_map, bbm]
          have hWm : (M.cs.map (fun z => IntKind.i64.wrap (z + 1))).length = M.cs.length := by simp
          have hg0m : ∀ k, k < M.cs.length → gt (M.cs.map (fun z => IntKind.i64.wrap (z + 1))) k = IntKind.i64.wrap (gt M.cs k + 1) := fun k hk => by simp [gt, List.getD_eq_getElem?_getD, List.getElem?_map, List.getElem?_eq_getElem hk]
          generalize hWdm : M.cs.map (fun z => IntKind.i64.wrap (z + 1)) = Wm at *
          have hm0m : M.cs = mixTo Wm M.cs 0 := by simp [mixTo]
          refine loop_ind k_law01_FieldChecks_r19.eq_1 (fun k : Nat => k ≤ M.cs.length) (fun k => M.cs.length - k) (fun km => (tsets 155 [(2, vw v), (3, .view (zs.map (.int .i64))), (4, .int .i64 at'), (5, .int .i64 by'), (6, .ptr 0 0 0 1), (7, .ptr 1 0 0 1), (14, .sl 6 0 2), (15, .int .i64 1), (16, .ptr 14 0 0 1), (17, .sl 13 0 v.length), (18, .ptr 16 0 0 1), (19, .int .i64 km)], [some (.cells false 4 [p.v]), some (.cells false 4 [Q.v]), some (.cells false 1 [vw v]), some (Dr w1), some (.cells true 1 (iv M.cs)), some (.cells false 4 [M.a (.sl 4 0 M.cs.length)]), some (.cells false 4 [p.v, M.a (.sl 4 0 M.cs.length)]), some (.cells true 1 (iv p.cs)), some (.cells true 1 (iv v)), some (.cells false 4 [p.a (.sl 7 0 p.cs.length)]), some (.cells true 1 (iv (mixTo Wp p.cs kp))), some (.cells false 4 [p.a (.sl 10 0 p.cs.length)]), some (.cells true 1 (iv M.cs)), some (.cells true 1 (iv v)), some (.cells false 4 [M.a (.sl 12 0 M.cs.length)]), some (.cells true 1 (iv (mixTo Wm M.cs km))), some (.cells false 4 [M.a (.sl 15 0 M.cs.length)])])) 0 (Nat.zero_le _) (by simp [go_sem, vw]) (by rw [← hm0m]; rfl) ?_
          intro km hkm ih
          dsimp only at hkm ih ⊢
          by_cases h1m : km < M.cs.length
          rotate_left
          · have h2 : ¬ (km : Int) < M.cs.length := by omega
            have f1 := mix_len (a := Wm) (b := M.cs) hWm (i := km) (by omega)
            rw [hWm] at f1
            clear ih
            simp only [go_sem, noPl, Rp.a, Rp.v, vw, ren, rens, iv_len, u1, u2, u3, l22, n00, bne_self_eq_false, List.length_map, f1, h2]
            refine cF sAm 6 ⟨.inl (rpa_frz 3 (p := M) (j := 12) (g := true) rfl rfl), .inl (rpa_frz 3 (p := M) (j := 4) (g := true) rfl rfl), trivial⟩ ?_
            simp only [go_sem, noPl, Rp.a, Rp.v, vw, ren, rens, iv_len, u1, u2, u3, l22, n00, bne_self_eq_false, List.length_map]
            refine cF sV 6 ⟨.inl (iv_frz_sl (d := 4) (l := v) (j := 13) (g := true) rfl rfl), .inl (vw_frz 4 _ v), trivial⟩ ?_
            simp only [go_sem, noPl, Rp.a, Rp.v, vw, ren, rens, iv_len, u1, u2, u3, l22, n00, bne_self_eq_false, List.length_map]
            refine loop_body 3000 k_law01_FieldChecks_r23.eq_1 ?_
            simp only [go_sem, noPl, Rp.a, Rp.v, vw, ren, rens, iv_len, u1, u2, u3, l22, n00, bne_self_eq_false, List.length_map]
            refine cP (weights_ok p (by omega) zs hz at' by') ?_ (hb := by simp only [go_sem, Rp.v, vw])
            simp only [go_sem, noPl, Rp.a, Rp.v, vw, ren, rens, iv_len, u1, u2, u3, l22, n00, bne_self_eq_false, List.length_map]
            refine cP awake_ok ?_
            simp only [go_sem]
          · have h2 : (km : Int) < M.cs.length := by omega
            have h3 := idx_next h1m (by omega)
            have n0 : ¬ (km : Int) < 0 := by omega
            have f1 := mix_len (a := Wm) (b := M.cs) hWm (i := km) (by omega)
            rw [hWm] at f1
            have s1 := mix_set (a := Wm) (b := M.cs) hWm (i := km) (by omega)
            have g1 := mix_gt (a := Wm) (b := M.cs) hWm (i := km) (by omega)
            have gi : (iv (mixTo Wm M.cs km))[km]? = some (.int .i64 (gt M.cs km)) := by rw [iv_get (by omega), g1]
            rw [hg0m km h1m] at s1
            have ihn := ih (km + 1) (by omega) h1m
            clear ih
            generalize gt M.cs km = z at *
            simp only [go_sem, noPl, Rp.a, Rp.v, vw, ren, rens, iv_len, u1, u2, u3, l22, n00, bne_self_eq_false, List.length_map, f1, h2, n0, gi, iv_set, s1, h3]
            exact ihn _ (by simp [go_sem, vw])
      · have h2 : (kp : Int) < p.cs.length := by omega
        have h3 := idx_next h1p (by omega)
        have n0 : ¬ (kp : Int) < 0 := by omega
        have f1 := mix_len (a := Wp) (b := p.cs) hWp (i := kp) (by omega)
        rw [hWp] at f1
        have s1 := mix_set (a := Wp) (b := p.cs) hWp (i := kp) (by omega)
        have g1 := mix_gt (a := Wp) (b := p.cs) hWp (i := kp) (by omega)
        have gi : (iv (mixTo Wp p.cs kp))[kp]? = some (.int .i64 (gt p.cs kp)) := by rw [iv_get (by omega), g1]
        rw [hg0p kp h1p] at s1
        have ihn := ih (kp + 1) (by omega) h1p
        clear ih
        generalize gt p.cs kp = z at *
        simp only [go_sem, noPl, Rp.a, Rp.v, vw, ren, rens, iv_len, u1, u2, u3, l22, n00, bne_self_eq_false, List.length_map, f1, h2, n0, gi, iv_set, s1, h3]
        exact ihn _ (by simp [go_sem, vw])
end Go.Proofs

