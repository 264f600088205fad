/- A part of the proof. -/
import Derived.Test.YtpbheanmmfmffaaPF
set_option linter.unusedSimpArgs false
set_option linter.unusedVariables false
namespace Go.Proofs
open Go Go.Sx
attribute [local irreducible] Run

def sS (p : Pl) (i k : Nat) : Int := sumT (fun x => wgI p i x * 1) k
def sT (p : Pl) (v : List Int) (i k : Nat) : Int := sumT (fun x => wgI p i x * (if p.el x then vAt p v x else 0)) k
theorem sS_in {p : Pl} (hp : PlOK p) {i : Nat} (hi : i < p.w * p.h) : ∀ k : Nat, 0 ≤ sS p i k ∧ sS p i k ≤ 32 * k
  | 0 => by simp [sS, sumT]
  | k + 1 => by
    have h1 := sS_in hp hi k
    have h2 := wgI_in hp hi k
    have : sS p i (k + 1) = sS p i k + wgI p i k * 1 := rfl
    rw [this]; omega
theorem vAt_in {p : Pl} {v : List Int} (hv : ∀ x ∈ v, -1000 ≤ x ∧ x ≤ 1000) (x : Nat) : -1000 ≤ vAt p v x ∧ vAt p v x ≤ 1000 := by
  unfold vAt vo gt
  rw [List.getD_eq_getElem?_getD]
  rcases h : v[(List.getD p.cs x 0 - 1).toNat]? with _ | y
  · exact ⟨by decide, by decide⟩
  · exact hv y (List.mem_of_getElem? h)
theorem term_in {p : Pl} (hp : PlOK p) {v : List Int} (hv : ∀ x ∈ v, -1000 ≤ x ∧ x ≤ 1000) {i : Nat} (hi : i < p.w * p.h) (x : Nat) : In 32000 (wgI p i x * vAt p v x) := by
  have h1 := wgI_in hp hi x
  exact (In.mul (B := 32) (C := 1000) ⟨by omega, by omega⟩ (vAt_in hv x)).to (by omega)
theorem sT_in {p : Pl} (hp : PlOK p) {v : List Int} (hv : ∀ x ∈ v, -1000 ≤ x ∧ x ≤ 1000) {i : Nat} (hi : i < p.w * p.h) : ∀ k : Nat, In (32000 * k) (sT p v i k)
  | 0 => by constructor <;> simp [sT, sumT]
  | k + 1 => by
    have h1 := sT_in hp hv hi k
    have h2 := term_in hp hv hi k
    have : sT p v i (k + 1) = sT p v i k + wgI p i k * (if p.el k then vAt p v k else 0) := rfl
    rw [this]
    have h3 : In 32000 (wgI p i k * (if p.el k then vAt p v k else 0)) := by
      split
      · exact h2
      · rw [Int.mul_zero]; constructor <;> omega
    have := h1.1; have := h1.2; have := h3.1; have := h3.2
    constructor <;> omega
def smT (jp jt ja jb jv m vl i : Nat) (x11 : AVal) : List (Nat × AVal) := [(6, .ptr jp 0 0 1), (7, .sl jt 0 m), (9, .sl jv 0 vl), (11, x11), (13, .sl ja 0 m), (14, .sl jb 0 m), (15, .int .i64 i)]

set_option maxHeartbeats 8000000 in
set_option maxRecDepth 100000 in
theorem sum_loop {G : Ctx} {Q : Goal} {fs : List Sx.Frame} {p : Pl} (hp : PlOK p) {jp jc jt ja jb jv qi i : Nat} {ss : List AVal} {x11 : AVal} {v l b0 : List Int} {gv : Bool} {H : Heap} (h4 : nV p ≤ 4) (hi : i < nV p) (hv : ∀ x ∈ v, -1000 ≤ x ∧ x ≤ 1000) (hvl : VLen p v) (hL : LawH H p jp jc jt)
    (ha : H[ja]? = some (some (.cells false 1 ss))) (hss : ss.length = nV p) (hsi : ss[i]? = some (.sl qi 0 (nV p))) (hq : H[qi]? = some (some (.cells false 1 (iv l)))) (hl : l.length = nV p) (hl0 : l[i]? = some 0)
    (hb : H[jb]? = some (some (.cells false 1 (iv b0)))) (hbl : b0.length = nV p) (hb0 : b0[i]? = some 0) (hvr : H[jv]? = some (some (.cells gv 1 (iv v))))
    (hne : qi ≠ jp ∧ qi ≠ jc ∧ qi ≠ jt ∧ qi ≠ ja ∧ qi ≠ jb ∧ qi ≠ jv) (hnb : jb ≠ jp ∧ jb ≠ jc ∧ jb ≠ jt ∧ jb ≠ ja ∧ jb ≠ jv)
    (hK : Run Try.prog G 0 none 2985 (.out .normal) fs ⟨tsets 255 (smT jp jt ja jb jv (nV p) v.length i x11 ++ [(16, .int .i64 (p.w * p.h : Nat)), (123, .int .i64 (p.w * p.h : Nat)), (124, .ptr jp 0 3 1), (125, .sl jc 0 (p.w * p.h)), (126, .int .i64 (p.w * p.h : Nat)), (127, .bool false)]), (H.set qi (some (.cells false 1 (iv (l.set i (sS p (vacF p i) (p.w * p.h))))))).set jb (some (.cells false 1 (iv (b0.set i (sT p v (vacF p i) (p.w * p.h)))))), []⟩ Q)
    {ρ : List AVal} (hw : Wk ρ (tsets 255 (smT jp jt ja jb jv (nV p) v.length i x11 ++ [(16, .int .i64 0)]))) : Sx.Loop Try.prog G 0 none k_law01_FieldExact_r32 (.blk 6 :: fs) ⟨ρ, H, []⟩ Q := by
  have hlq : qi < H.length := (List.getElem?_eq_some_iff.1 hq).1
  have hlb : jb < H.length := (List.getElem?_eq_some_iff.1 hb).1
  have hN : p.w * p.h ≤ 256 := Nat.mul_le_mul hp.w.2 hp.h.2
  have e0 : l.set i 0 = l := List.ext_getElem? fun j => by
    by_cases e : i = j
    · subst e; rw [List.getElem?_set_self (by omega), hl0]
    · rw [List.getElem?_set_ne e]
  have e1 : b0.set i 0 = b0 := List.ext_getElem? fun j => by
    by_cases e : i = j
    · subst e; rw [List.getElem?_set_self (by omega), hb0]
    · rw [List.getElem?_set_ne e]
  refine loop_ind k_law01_FieldExact_r32.eq_1 (fun k : Nat => k ≤ p.w * p.h) (fun k => p.w * p.h - k)
    (fun k => (tsets 255 (smT jp jt ja jb jv (nV p) v.length i x11 ++ [(16, .int .i64 k)]), (H.set qi (some (.cells false 1 (iv (l.set i (sS p (vacF p i) k)))))).set jb (some (.cells false 1 (iv (b0.set i (sT p v (vacF p i) k))))))) 0 (Nat.zero_le _) (by simpa using hw)
    (by dsimp only; rw [show sS p (vacF p i) 0 = 0 from rfl, show sT p v (vacF p i) 0 = 0 from rfl, e0, e1, set_same hq, set_same hb]) ?_
  intro k hk ih
  dsimp only at hk ih ⊢
  have hM := (hL.set hne.1 hne.2.1 hne.2.2.1 (some (.cells false 1 (iv (l.set i (sS p (vacF p i) k)))))).set hnb.1 hnb.2.1 hnb.2.2.1 (some (.cells false 1 (iv (b0.set i (sT p v (vacF p i) k)))))
  have hiv := (vac_ok p).inn i hi
  have cq : Heap.cellsAt ((H.set qi (some (.cells false 1 (iv (l.set i (sS p (vacF p i) k)))))).set jb (some (.cells false 1 (iv (b0.set i (sT p v (vacF p i) k)))))) qi = some (false, 1, iv (l.set i (sS p (vacF p i) k))) := cells_at (by rw [List.getElem?_set_ne (fun e => hne.2.2.2.2.1 e.symm), List.getElem?_set_self hlq])
  have cb : Heap.cellsAt ((H.set qi (some (.cells false 1 (iv (l.set i (sS p (vacF p i) k)))))).set jb (some (.cells false 1 (iv (b0.set i (sT p v (vacF p i) k)))))) jb = some (false, 1, iv (b0.set i (sT p v (vacF p i) k))) := cells_at (List.getElem?_set_self (by rw [List.length_set]; exact hlb))
  have ca : Heap.cellsAt ((H.set qi (some (.cells false 1 (iv (l.set i (sS p (vacF p i) k)))))).set jb (some (.cells false 1 (iv (b0.set i (sT p v (vacF p i) k)))))) ja = some (false, 1, ss) := cells_at (by rw [List.getElem?_set_ne hnb.2.2.2.1, List.getElem?_set_ne hne.2.2.2.1]; exact ha)
  have cv : Heap.cellsAt ((H.set qi (some (.cells false 1 (iv (l.set i (sS p (vacF p i) k)))))).set jb (some (.cells false 1 (iv (b0.set i (sT p v (vacF p i) k)))))) jv = some (gv, 1, iv v) := cells_at (by rw [List.getElem?_set_ne hnb.2.2.2.2, List.getElem?_set_ne hne.2.2.2.2.2]; exact hvr)
  have l3 : (iv (b0.set i (sT p v (vacF p i) k))).length = nV p := by rw [iv_len, List.length_set, hbl]
  have l2 : (iv (l.set i (sS p (vacF p i) k))).length = nV p := by rw [iv_len, List.length_set, hl]
  have vq : (iv (l.set i (sS p (vacF p i) k)))[i]? = some (.int .i64 (sS p (vacF p i) k)) := by
    unfold iv; rw [List.getElem?_map, List.getElem?_set_self (by omega)]; rfl
  have vb : (iv (b0.set i (sT p v (vacF p i) k)))[i]? = some (.int .i64 (sT p v (vacF p i) k)) := by
    unfold iv; rw [List.getElem?_map, List.getElem?_set_self (by omega)]; rfl
  have pq : ∀ x B, Heap.put ((H.set qi (some (.cells false 1 (iv (l.set i (sS p (vacF p i) k)))))).set jb B) qi x = (H.set qi (some x)).set jb B := fun x B => by
    rw [put_lt (by rw [List.length_set, List.length_set]; exact hlq), List.set_comm _ _ (fun e => hne.2.2.2.2.1 e.symm), List.set_set]
  have pb : ∀ x A B, Heap.put ((H.set qi A).set jb B) jb x = (H.set qi A).set jb (some x) := fun x A B => by
    rw [put_lt (by rw [List.length_set, List.length_set]; exact hlb), List.set_set]
  have cb' : ∀ A B, Heap.cellsAt ((H.set qi A).set jb (some (.cells false 1 B))) jb = some (false, 1, B) := fun A B => cells_at (List.getElem?_set_self (by rw [List.length_set]; exact hlb))
  have cv' : ∀ A B, Heap.cellsAt ((H.set qi A).set jb B) jv = some (gv, 1, iv v) := fun A B => cells_at (by rw [List.getElem?_set_ne hnb.2.2.2.2, List.getElem?_set_ne hne.2.2.2.2.2]; exact hvr)
  have cp' : ∀ A B, Heap.cellsAt ((H.set qi A).set jb B) jp = some (false, 4, [p.a (.sl jc 0 p.cs.length)]) := fun A B => cells_at ((hL.set hne.1 hne.2.1 hne.2.2.1 A).set hnb.1 hnb.2.1 hnb.2.2.1 B).box
  obtain ⟨gc, hc0⟩ := hL.cells
  have cc' : ∀ A B, Heap.cellsAt ((H.set qi A).set jb B) jc = some (gc, 1, iv p.cs) := fun A B => cells_at (by rw [List.getElem?_set_ne hnb.2.1, List.getElem?_set_ne hne.2.1]; exact hc0)
  have hcc : ∀ A B, ((H.set qi A).set jb B)[jc]? = some (some (.cells gc 1 (iv p.cs))) := fun A B => by rw [List.getElem?_set_ne hnb.2.1, List.getElem?_set_ne hne.2.1]; exact hc0
  obtain ⟨gt0, ht0⟩ := hL.vac
  have ct' : ∀ A B, Heap.cellsAt ((H.set qi A).set jb B) jt = some (gt0, 1, iv ((vacL p).map fun c : Nat => (c : Int))) := fun A B => cells_at (by rw [List.getElem?_set_ne hnb.2.2.1, List.getElem?_set_ne hne.2.2.1]; exact ht0)
  have l1 : (iv ((vacL p).map fun c : Nat => (c : Int))).length = nV p := by simp [iv, nV]
  have l4 : (iv p.cs).length = p.w * p.h := by rw [iv_len, hp.len]
  have l5 : p.cs.length = p.w * p.h := hp.len
  have l6 : (iv v).length = v.length := iv_len v
  by_cases hlt : k < p.w * p.h
  · have i1 : (k : Int) < (p.w * p.h : Nat) := by omega
    have i2 : (i : Int) < nV p := by omega
    have w1 : IntKind.i64.wrap ((k : Int) + 1) = (k : Int) + 1 := w64 ⟨by omega, by omega⟩
    have v1 : (iv ((vacL p).map fun c : Nat => (c : Int)))[i]? = some (.int .i64 (vacF p i)) := by
      unfold iv; rw [List.getElem?_map, List.getElem?_map, vacF_get hi]; rfl
    have v2 : (iv p.cs)[k]? = some (.int .i64 (gt p.cs k)) := iv_get (by omega)
    have hS := sS_in hp hiv.1 k
    have hT := sT_in hp hv hiv.1 k
    have hw0 := wgI_in hp hiv.1 k
    have htm := term_in hp hv hiv.1 k
    have hcr := hp.cell _ (hp.mem hlt)
    have hcl := hvl _ (hp.mem hlt)
    have wS : IntKind.i64.wrap (sS p (vacF p i) k + wgI p (vacF p i) k) = sS p (vacF p i) (k + 1) := by
      rw [w64 ⟨by omega, by omega⟩]
      show _ = sS p (vacF p i) k + wgI p (vacF p i) k * 1
      omega
    by_cases hE : gt p.cs k = 0
    · have hgt : ¬ (0 : Int) < gt p.cs k := by omega
      have eT : sT p v (vacF p i) (k + 1) = sT p v (vacF p i) k := by
        show sT p v (vacF p i) k + wgI p (vacF p i) k * (if p.el k then vAt p v k else 0) = _
        rw [if_neg (fun h => h hE)]; simp
      have hih := ih (k + 1) (by omega) (by omega)
      rw [eT] at hih
      clear ih
      simp only [go_sem, smT] at hih
      simp only [go_sem, smT, cp', cc', ct', l1, l2, l4, l5, i1, i2, v1, w1, Pl.a, Pl.c4]
      refine cF (rWeight_ok hp hiv.1 hlt) 6 ⟨.inl (pla_frz 3 (j := jc) (g := gc) (hcc _ _) l5.symm), .inl rfl, .inl rfl, trivial⟩ ?_
      simp only [go_sem, cp', cc', ct', ca, cq, cb, vq, v2, hgt, hss, hsi, l1, l2, l4, l5, i1, i2, w1, wS, pq, iv_set, List.set_set, Pl.a, Pl.c4]
      refine hih _ ?_
      simp [go_sem, smT]
    · obtain ⟨d, hd⟩ : ∃ d : Nat, gt p.cs k = (d : Int) + 1 := ⟨(gt p.cs k - 1).toNat, by omega⟩
      have hgt : (0 : Int) < (d : Int) + 1 := by omega
      have eA : vAt p v k = gt v d := by
        unfold vAt vo
        rw [hd, show ((d : Int) + 1 - 1).toNat = d by omega]
      have eT : sT p v (vacF p i) (k + 1) = sT p v (vacF p i) k + wgI p (vacF p i) k * gt v d := by
        show sT p v (vacF p i) k + wgI p (vacF p i) k * (if p.el k then vAt p v k else 0) = _
        rw [if_pos (show p.el k from hE), eA]
      rw [eA] at htm
      rw [hd] at v2
      have i5 : (d : Int) < v.length := by omega
      have w4 : IntKind.i64.wrap ((d : Int) + 1 - 1) = (d : Int) := by rw [w64 ⟨by omega, by omega⟩]; omega
      have v3 : (iv v)[d]? = some (.int .i64 (gt v d)) := iv_get (by omega)
      have w5 : IntKind.i64.wrap (wgI p (vacF p i) k * gt v d) = wgI p (vacF p i) k * gt v d := w64 ⟨by have := htm.1; omega, by have := htm.2; omega⟩
      have w6 : IntKind.i64.wrap (sT p v (vacF p i) k + wgI p (vacF p i) k * gt v d) = sT p v (vacF p i) (k + 1) := by
        rw [eT]
        exact w64 ⟨by have := htm.1; have := hT.1; omega, by have := htm.2; have := hT.2; omega⟩
      have hih := ih (k + 1) (by omega) (by omega)
      clear ih
      simp only [go_sem, smT] at hih
      simp only [go_sem, smT, cp', cc', ct', l1, l2, l4, l5, i1, i2, v1, w1, Pl.a, Pl.c4]
      refine cF (rWeight_ok hp hiv.1 hlt) 6 ⟨.inl (pla_frz 3 (j := jc) (g := gc) (hcc _ _) l5.symm), .inl rfl, .inl rfl, trivial⟩ ?_
      simp only [go_sem, cp', cc', ct', ca, cq, cb, cb', cv', vq, vb, v2, v3, hgt, hss, hsi, l1, l2, l3, l4, l5, l6, i1, i2, i5, w1, w4, w5, w6, wS, pq, pb, iv_set, List.set_set, Pl.a, Pl.c4]
      refine hih _ ?_
      simp [go_sem, smT]
  · obtain rfl : k = p.w * p.h := by omega
    have i1 : ¬ ((p.w * p.h : Nat) : Int) < (p.w * p.h : Nat) := by omega
    have := hK
    simp only [go_sem, smT] at this
    simp only [go_sem, smT, cp', cc', l4, l5, i1, Pl.a, Pl.c4]
    exact this
end Go.Proofs

namespace Go.Proofs
open Go Go.Sx

theorem sS_end {p : Pl} (hp : PlOK p) {i : Nat} (hi : i < p.w * p.h) : sS p i (p.w * p.h) = wtot (nbs p i) := by
  unfold sS wtot
  exact sum_wgI hp hi fun _ => 1
theorem sT_end {p : Pl} (hp : PlOK p) (v : List Int) {i : Nat} (hi : i < p.w * p.h) : sT p v i (p.w * p.h) = wsum (nbs p i) fun x => if p.el x then vAt p v x else 0 := by
  unfold sT
  exact sum_wgI hp hi fun x => if p.el x then vAt p v x else 0
theorem row_end {p : Pl} (hp : PlOK p) (v : List Int) (h4 : nV p ≤ 4) {i : Nat} (hi : i < nV p) {l w : List Int} (hl : l.length = nV p) (hw : w.length = nV p)
    (h : ∀ j : Nat, j < nV p → w[j]? = if j ≠ i then some (- wgI p (vacF p i) (vacF p j)) else (l.set i (sS p (vacF p i) (p.w * p.h)))[j]?) : w = matA p v i := by
  have hiv := (vac_ok p).inn i hi
  refine List.ext_getElem? fun j => ?_
  by_cases hj : j < nV p
  · rw [h j hj, matA_get v hi hj h4]
    by_cases e : j = i
    · subst e
      rw [if_neg (by simp), if_pos rfl, List.getElem?_set_self (by omega), sS_end hp hiv.1]
    · rw [if_pos e, if_neg (fun x => e x.symm), pw_wgI hp hiv.1]
  · rw [List.getElem?_eq_none (by omega), List.getElem?_eq_none (by simp [matA]; omega)]
def bTo (p : Pl) (v : List Int) (i : Nat) : List Int := (matB p v).take i ++ List.replicate (nV p - i) 0
theorem bTo_len (p : Pl) (v : List Int) {i : Nat} (hi : i ≤ nV p) : (bTo p v i).length = nV p := by
  have : (matB p v).length = nV p := by simp [matB]
  simp [bTo, this]; omega
theorem bTo_get {p : Pl} (v : List Int) {i : Nat} (hi : i < nV p) : (bTo p v i)[i]? = some 0 := by
  have hl : ((matB p v).take i).length = i := by simp [matB]; omega
  unfold bTo
  rw [List.getElem?_append_right (by omega), hl, Nat.sub_self, List.getElem?_replicate, if_pos (by omega)]
theorem bTo_next {p : Pl} (hp : PlOK p) (v : List Int) {i : Nat} (hi : i < nV p) : (bTo p v i).set i (sT p v (vacF p i) (p.w * p.h)) = bTo p v (i + 1) := by
  have hl : ((matB p v).take i).length = i := by simp [matB]; omega
  unfold bTo
  rw [List.set_append_right _ _ (by omega), hl, Nat.sub_self, show nV p - i = (nV p - (i + 1)) + 1 by omega, List.replicate_succ, List.set_cons_zero, List.take_add_one, matB_get v hi, sT_end hp v ((vac_ok p).inn i hi).1]
  simp
theorem bTo_zero (p : Pl) (v : List Int) : bTo p v 0 = List.replicate (nV p) 0 := by simp [bTo]
theorem bTo_end (p : Pl) (v : List Int) : bTo p v (nV p) = matB p v := by
  have : (matB p v).length = nV p := by simp [matB]
  unfold bTo
  rw [Nat.sub_self, List.take_of_length_le (by omega)]; simp
end Go.Proofs

namespace Go.Proofs
open Go Go.Sx
attribute [local irreducible] Run

structure M4 (J : Heap) (p : Pl) (v : List Int) (gv : Bool) (jp jc jt ja jb jv : Nat) (qs : List Nat) (i : Nat) : Prop where
  law : LawH J p jp jc jt
  arow : J[ja]? = some (some (.cells false 1 ((qs.map fun q => AVal.sl q 0 (nV p)) ++ List.replicate (nV p - i) .nilsl)))
  brow : J[jb]? = some (some (.cells false 1 (iv (bTo p v i))))
  vrow : J[jv]? = some (some (.cells gv 1 (iv v)))
  qlen : qs.length = i
  cell : ∀ j q : Nat, qs[j]? = some q → q ≠ ja ∧ q ≠ jb ∧ J[q]? = some (some (.cells false 1 (iv (matA p v j))))
theorem LawH.app {H : Heap} {p : Pl} {jp jc jt : Nat} (h : LawH H p jp jc jt) (Y : Heap) : LawH (H ++ Y) p jp jc jt :=
  have old : ∀ {j : Nat} {y : Option Row}, H[j]? = some y → (H ++ Y)[j]? = some y := fun hy => by
    rw [List.getElem?_append_left (List.getElem?_eq_some_iff.1 hy).1]; exact hy
  ⟨old h.box, h.cells.imp fun _ h => old h, h.vac.imp fun _ h => old h⟩
def moT (jp jt ja jb jv m vl : Nat) (x11 : AVal) : List (Nat × AVal) := [(6, .ptr jp 0 0 1), (7, .sl jt 0 m), (9, .sl jv 0 vl), (11, x11), (13, .sl ja 0 m), (14, .sl jb 0 m)]

set_option maxHeartbeats 8000000 in
set_option maxRecDepth 100000 in
theorem mat_loop {G : Ctx} {Q : Goal} {fs : List Sx.Frame} {p : Pl} (hp : PlOK p) {jp jc jt ja jb jv : Nat} {x11 : AVal} {v : List Int} {gv : Bool} {H : Heap} (h4 : nV p ≤ 4) (hv : ∀ x ∈ v, -1000 ≤ x ∧ x ≤ 1000) (hvl : VLen p v)
    (hI : M4 H p v gv jp jc jt ja jb jv [] 0) (hna : ja ≠ jp ∧ ja ≠ jc ∧ ja ≠ jt ∧ ja ≠ jb ∧ ja ≠ jv) (hnb : jb ≠ jp ∧ jb ≠ jc ∧ jb ≠ jt ∧ jb ≠ ja ∧ jb ≠ jv)
    (hK : ∀ J qs, M4 J p v gv jp jc jt ja jb jv qs (nV p) → H.length ≤ J.length → (∀ j, j < H.length → j ≠ ja → j ≠ jb → J[j]? = H[j]?) → Run Try.prog G 0 none 2986 (.out .normal) fs ⟨tsets 255 (moT jp jt ja jb jv (nV p) v.length x11 ++ [(15, .int .i64 (nV p)), (111, .int .i64 (nV p)), (112, .sl jt 0 (nV p)), (113, .int .i64 (nV p)), (114, .bool false)]), J, []⟩ Q)
    {ρ : List AVal} (hw : Wk ρ (tsets 255 (moT jp jt ja jb jv (nV p) v.length x11 ++ [(15, .int .i64 0)]))) : Sx.Loop Try.prog G 0 none k_law01_FieldExact_r40 (.blk 4 :: fs) ⟨ρ, H, []⟩ Q := by
  refine loop_ind k_law01_FieldExact_r40.eq_1 (fun s : Nat × List Nat × Heap => s.1 ≤ nV p ∧ M4 s.2.2 p v gv jp jc jt ja jb jv s.2.1 s.1 ∧ H.length ≤ s.2.2.length ∧ (∀ j, j < H.length → j ≠ ja → j ≠ jb → s.2.2[j]? = H[j]?)) (fun s => nV p - s.1)
    (fun s => (tsets 255 (moT jp jt ja jb jv (nV p) v.length x11 ++ [(15, .int .i64 s.1)]), s.2.2)) (0, [], H) ⟨Nat.zero_le _, hI, Nat.le_refl _, fun _ _ _ _ => rfl⟩ (by simpa using hw) rfl ?_
  rintro ⟨i, qs, J⟩ ⟨hi, hM, hle, hkp⟩ ih
  dsimp only at hi hM hle hkp ih ⊢
  obtain ⟨gt0, ht0⟩ := hM.law.vac
  have ct := cells_at ht0
  have l1 : (iv ((vacL p).map fun c : Nat => (c : Int))).length = nV p := by simp [iv, nV]
  by_cases hlt : i < nV p
  · have i1 : (i : Int) < nV p := by omega
    have w1 : IntKind.i64.wrap ((i : Int) + 1) = (i : Int) + 1 := w64 ⟨by omega, by omega⟩
    have la : ja < J.length := (List.getElem?_eq_some_iff.1 hM.arow).1
    have lb : jb < J.length := (List.getElem?_eq_some_iff.1 hM.brow).1
    have lv : jv < J.length := (List.getElem?_eq_some_iff.1 hM.vrow).1
    have lp : jp < J.length := (List.getElem?_eq_some_iff.1 hM.law.box).1
    obtain ⟨gc0, hc0⟩ := hM.law.cells
    have lc : jc < J.length := (List.getElem?_eq_some_iff.1 hc0).1
    have lt : jt < J.length := (List.getElem?_eq_some_iff.1 ht0).1
    have ca := cells_at hM.arow
    have caY := fun Y => cells_more ca Y
    have hpm := fun Y x => put_more la Y x
    have l2 : ((qs.map fun q => AVal.sl q 0 (nV p)) ++ List.replicate (nV p - i) AVal.nilsl).length = nV p := by simp [hM.qlen]; omega
    have v3 : ((qs.map fun q => AVal.sl q 0 (nV p)) ++ List.replicate (nV p - i) AVal.nilsl)[i]? = some .nilsl := by
      rw [List.getElem?_append_right (by simp [hM.qlen]), List.length_map, hM.qlen, Nat.sub_self, List.getElem?_replicate, if_pos (by omega)]
    have eS : ((qs.map fun q => AVal.sl q 0 (nV p)) ++ List.replicate (nV p - i) AVal.nilsl).set i (.sl J.length 0 (nV p)) = ((qs ++ [J.length]).map fun q => AVal.sl q 0 (nV p)) ++ List.replicate (nV p - (i + 1)) AVal.nilsl := by
      have hql : (qs.map fun q => AVal.sl q 0 (nV p)).length = i := by simp [hM.qlen]
      rw [show nV p - i = (nV p - (i + 1)) + 1 by omega, List.set_append_right _ _ (by omega), hql, Nat.sub_self, List.replicate_succ]
      simp
    have g1 : (nV p : Int) ≤ 2 ^ 44 := by omega
    have g2 : (nV p : Int) * 8 ≤ 2 ^ 44 := by omega
    have g3 : (0 : Int) ≤ nV p := by omega
    have hz : List.replicate (nV p) (AVal.int IntKind.i64 0) = iv (List.replicate (nV p) 0) := by simp [iv]
    simp only [go_sem, moT, ct, l1, l2, v3, i1, w1, g1, g2, g3, caY, hpm, eS, hz]
    refine ⟨Int.le_refl _, ?_⟩
    have hL1 := (hM.law.set hna.1 hna.2.1 hna.2.2.1 (some (Row.cells false 1 (((qs ++ [J.length]).map fun q => AVal.sl q 0 (nV p)) ++ List.replicate (nV p - (i + 1)) AVal.nilsl)))).app [some (Row.cells false 1 (iv (List.replicate (nV p) 0)))]
    have old : ∀ (j : Nat) (y : Option Row), j ≠ ja → J[j]? = some y → (List.set J ja (some (Row.cells false 1 (((qs ++ [J.length]).map fun q => AVal.sl q 0 (nV p)) ++ List.replicate (nV p - (i + 1)) AVal.nilsl))) ++ [some (Row.cells false 1 (iv (List.replicate (nV p) 0)))])[j]? = some y := fun j y hj h => by
      rw [List.getElem?_append_left (by rw [List.length_set]; exact (List.getElem?_eq_some_iff.1 h).1), List.getElem?_set_ne (fun e => hj e.symm)]; exact h
    have ha1 : (List.set J ja (some (Row.cells false 1 (((qs ++ [J.length]).map fun q => AVal.sl q 0 (nV p)) ++ List.replicate (nV p - (i + 1)) AVal.nilsl))) ++ [some (Row.cells false 1 (iv (List.replicate (nV p) 0)))])[ja]? = some (some (Row.cells false 1 (((qs ++ [J.length]).map fun q => AVal.sl q 0 (nV p)) ++ List.replicate (nV p - (i + 1)) AVal.nilsl))) := by
      rw [List.getElem?_append_left (by rw [List.length_set]; exact la), List.getElem?_set_self la]
    have hq1 : (List.set J ja (some (Row.cells false 1 (((qs ++ [J.length]).map fun q => AVal.sl q 0 (nV p)) ++ List.replicate (nV p - (i + 1)) AVal.nilsl))) ++ [some (Row.cells false 1 (iv (List.replicate (nV p) 0)))])[J.length]? = some (some (.cells false 1 (iv (List.replicate (nV p) 0)))) := by
      rw [List.getElem?_append_right (by rw [List.length_set]; exact Nat.le_refl _), List.length_set, Nat.sub_self]; rfl
    have hlen1 : (List.set J ja (some (Row.cells false 1 (((qs ++ [J.length]).map fun q => AVal.sl q 0 (nV p)) ++ List.replicate (nV p - (i + 1)) AVal.nilsl))) ++ [some (Row.cells false 1 (iv (List.replicate (nV p) 0)))]).length = J.length + 1 := by simp
    generalize (List.set J ja (some (Row.cells false 1 (((qs ++ [J.length]).map fun q => AVal.sl q 0 (nV p)) ++ List.replicate (nV p - (i + 1)) AVal.nilsl))) ++ [some (Row.cells false 1 (iv (List.replicate (nV p) 0)))] : Heap) = J1 at hL1 old ha1 hq1 hlen1 ⊢
    have hss : (((qs ++ [J.length]).map fun q => AVal.sl q 0 (nV p)) ++ List.replicate (nV p - (i + 1)) AVal.nilsl).length = nV p := by simp [hM.qlen]; omega
    have hsi : (((qs ++ [J.length]).map fun q => AVal.sl q 0 (nV p)) ++ List.replicate (nV p - (i + 1)) AVal.nilsl)[i]? = some (.sl J.length 0 (nV p)) := by
      rw [List.getElem?_append_left (by simp [hM.qlen]), List.getElem?_map, List.getElem?_append_right (by rw [hM.qlen]; exact Nat.le_refl _), hM.qlen, Nat.sub_self]; rfl
    have hb1 := old jb _ hnb.2.2.2.1 hM.brow
    have hv1 := old jv _ (fun e => hna.2.2.2.2 e.symm) hM.vrow
    have hl0 : (List.replicate (nV p) (0 : Int))[i]? = some 0 := by rw [List.getElem?_replicate, if_pos hlt]
    refine sum_loop hp (x11 := x11) h4 hlt hv hvl hL1 ha1 hss hsi hq1 (by simp) hl0 hb1 (bTo_len p v hi) (bTo_get v hlt) hv1 ⟨by omega, by omega, by omega, by omega, by omega, by omega⟩ hnb ?_ (by simp [go_sem, smT])
    rw [bTo_next hp v hlt]
    simp only [go_sem, smT]
    have hL2 := fun A B => (hL1.set (j := J.length) (by omega) (by omega) (by omega) A).set hnb.1 hnb.2.1 hnb.2.2.1 B
    have ha2 : ∀ (A B : Option Row), ((J1.set J.length A).set jb B)[ja]? = J1[ja]? := fun A B => by rw [List.getElem?_set_ne hnb.2.2.2.1, List.getElem?_set_ne (show J.length ≠ ja by omega)]
    have hq2 : ∀ (A B : Option Row), ((J1.set J.length A).set jb B)[J.length]? = some A := fun A B => by rw [List.getElem?_set_ne (show jb ≠ J.length by omega), List.getElem?_set_self (by omega)]
    refine off_loop hp (qi := J.length) (x9 := .sl jv 0 v.length) (x11 := x11) (x14 := .sl jb 0 (nV p)) h4 hlt (hL2 _ _) ((ha2 _ _).trans ha1) hss hsi (hq2 _ _) (by simp) ⟨by omega, by omega, by omega, by omega⟩ (fun w hwl hwj => ?_) (by simp [go_sem, ofT])
    have ew := row_end hp v h4 hlt (l := List.replicate (nV p) 0) (by simp) hwl hwj
    subst ew
    have hget : ∀ (A A' B : Option Row) (j : Nat), j ≠ J.length → j ≠ jb → (((J1.set J.length A).set jb B).set J.length A')[j]? = J1[j]? := fun A A' B j h1 h2 => by
      rw [List.getElem?_set_ne (fun e => h1 e.symm), List.getElem?_set_ne (fun e => h2 e.symm), List.getElem?_set_ne (fun e => h1 e.symm)]
    have hih := ih (i + 1, qs ++ [J.length], _) (by dsimp only; omega) ⟨by dsimp only; omega, ⟨(hL2 (some (.cells false 1 (iv ((List.replicate (nV p) 0).set i (sS p (vacF p i) (p.w * p.h)))))) (some (.cells false 1 (iv (bTo p v (i + 1)))))).set (j := J.length) (by omega) (by omega) (by omega) (some (.cells false 1 (iv (matA p v i)))),
        by dsimp only; rw [hget _ _ _ _ (by omega) (fun e => hnb.2.2.2.1 e.symm)]; exact ha1,
        by dsimp only; rw [List.getElem?_set_ne (show J.length ≠ jb by omega), List.getElem?_set_self (by rw [List.length_set]; omega)],
        by dsimp only; rw [hget _ _ _ _ (by omega) (fun e => hnb.2.2.2.2 e.symm)]; exact hv1,
        by simp [hM.qlen], fun j q hq => by
          dsimp only at hq ⊢
          by_cases hj : j < i
          · rw [List.getElem?_append_left (by rw [hM.qlen]; exact hj)] at hq
            obtain ⟨c1, c2, c3⟩ := hM.cell j q hq
            have hql : q < J.length := (List.getElem?_eq_some_iff.1 c3).1
            exact ⟨c1, c2, by rw [hget _ _ _ _ (by omega) c2]; exact old _ _ c1 c3⟩
          · rw [List.getElem?_append_right (by rw [hM.qlen]; omega), hM.qlen] at hq
            obtain rfl : j = i := by
              have := (List.getElem?_eq_some_iff.1 hq).1
              simp at this; omega
            rw [Nat.sub_self] at hq; simp at hq; subst hq
            exact ⟨by omega, by omega, by rw [List.getElem?_set_self (by rw [List.length_set, List.length_set]; omega)]⟩⟩,
      by dsimp only; rw [List.length_set, List.length_set, List.length_set]; omega, fun j hj h1 h2 => by
        dsimp only
        rw [hget _ _ _ _ (by omega) h2, ← hkp j hj h1 h2]
        exact old _ _ h1 (List.getElem?_eq_getElem (by omega)) |>.trans (List.getElem?_eq_getElem (by omega)).symm⟩
    clear ih
    dsimp only at hih
    simp only [go_sem, moT] at hih
    simp only [go_sem, ofT, w1]
    exact hih _ (by simp [go_sem, moT])
  · obtain rfl : i = nV p := by omega
    have i1 : ¬ (nV p : Int) < nV p := by omega
    have := hK J qs hM hle hkp
    simp only [go_sem, moT] at this
    simp only [go_sem, moT, ct, l1, i1]
    exact this
end Go.Proofs

namespace Go.Proofs
open Go Go.Sx

theorem frz_mat {H : Heap} {ja n d : Nat} {g : Bool} {qs : List Nat} {A : Nat → List Int} (h : H[ja]? = some (some (.cells g 1 (qs.map fun q => AVal.sl q 0 n)))) (hl : qs.length = n) (hc : ∀ j q : Nat, qs[j]? = some q → (A j).length = n ∧ H[q]? = some (some (.cells false 1 (iv (A j))))) : frz (d + 3) H (.sl ja 0 n) = .view (vws n A) := by
  rw [frz_sl h (by simp [hl])]
  congr 1
  refine List.ext_getElem? fun j => ?_
  unfold vws
  rw [List.map_map, List.getElem?_map, List.getElem?_map]
  by_cases hj : j < n
  · obtain ⟨q, hq⟩ : ∃ q, qs[j]? = some q := ⟨_, List.getElem?_eq_getElem (by omega)⟩
    obtain ⟨h1, h2⟩ := hc j q hq
    rw [hq, List.getElem?_range hj]
    show some (frz (d + 2) H (.sl q 0 n)) = some (vw (A j))
    rw [iv_frz_sl h2 h1.symm]
  · rw [List.getElem?_eq_none (by omega), List.getElem?_eq_none (by simp; omega)]; rfl
theorem M4.frz {J : Heap} {p : Pl} {v : List Int} {gv : Bool} {jp jc jt ja jb jv : Nat} {qs : List Nat} (h : M4 J p v gv jp jc jt ja jb jv qs (nV p)) (d : Nat) : Sx.frz (d + 3) J (.sl ja 0 (nV p)) = .view (vws (nV p) (matA p v)) ∧ Sx.frz (d + 3) J (.sl jb 0 (nV p)) = vw (matB p v) := by
  refine ⟨frz_mat (by have := h.arow; rw [Nat.sub_self] at this; simpa using this) h.qlen fun j q hq => ⟨by simp [matA], (h.cell j q hq).2.2⟩, ?_⟩
  have hb := h.brow
  rw [bTo_end] at hb
  exact iv_frz_sl (d := d + 1) hb (by simp [matB])
end Go.Proofs

namespace Go.Proofs
open Go Go.Sx
attribute [local irreducible] Run

def vacTo (cs : List Int) (i : Nat) : List Nat := (List.range i).filter fun j => decide (gt cs j = 0)
def natI (A : List Nat) : List Int := A.map fun c : Nat => (c : Int)
theorem vacTo_next (cs : List Int) (i : Nat) : vacTo cs (i + 1) = vacTo cs i ++ if gt cs i = 0 then [i] else [] := by
  unfold vacTo
  rw [List.range_succ, List.filter_append]
  congr 1
  by_cases h : gt cs i = 0 <;> simp [h]
theorem gt_set_ne (l : List Int) {i j : Nat} (c : Int) (h : i ≠ j) : gt (l.set i c) j = gt l j := by
  unfold gt; rw [List.getD_eq_getElem?_getD, List.getD_eq_getElem?_getD, List.getElem?_set_ne h]
theorem gt_set_eq (l : List Int) {i : Nat} (c : Int) (h : i < l.length) : gt (l.set i c) i = c := by
  unfold gt; rw [List.getD_eq_getElem?_getD, List.getElem?_set_self h]; rfl
theorem vacTo_set (cs : List Int) (i : Nat) (c : Int) : vacTo (cs.set i c) i = vacTo cs i := by
  unfold vacTo
  refine List.filter_congr fun j hj => ?_
  rw [gt_set_ne cs c (by have := List.mem_range.1 hj; omega)]
theorem vacTo_vacL {p : Pl} (h : p.cs.length = p.w * p.h) : vacTo p.cs p.cs.length = vacL p := by
  unfold vacTo vacL
  rw [h]
  refine List.filter_congr fun j _ => ?_
  simp [Pl.el]
structure VacI (p : Pl) (i : Nat) (cs : List Int) : Prop where
  len : cs.length = p.cs.length
  le : ∀ c ∈ cs, 0 ≤ c ∧ c ≤ 3
  first : 1 ≤ gt cs 0
  few : (vacTo cs i).length ≤ 4
theorem VacI.fin {a b : Int} {p : Pl} (hp : PlMade a b p) {cs : List Int} (h : VacI p p.cs.length cs) : PlMade a b ⟨p.w, p.h, p.rd, cs⟩ ∧ nV ⟨p.w, p.h, p.rd, cs⟩ ≤ 4 ∧ vacTo cs p.cs.length = vacL ⟨p.w, p.h, p.rd, cs⟩ := by
  have hl : cs.length = p.w * p.h := by rw [h.len]; exact hp.ok.len
  have e : vacTo cs p.cs.length = vacL ⟨p.w, p.h, p.rd, cs⟩ := by
    rw [← h.len]; exact vacTo_vacL (p := ⟨p.w, p.h, p.rd, cs⟩) hl
  have hpos : 0 < p.w * p.h := Nat.mul_pos hp.ok.w.1 hp.ok.h.1
  refine ⟨⟨⟨hp.ok.w, hp.ok.h, hl, fun c hc => by have := h.le c hc; omega, 0, hpos, ?_⟩, hp.w, hp.h, h.le, h.first⟩, ?_, e⟩
  · show gt cs 0 ≠ 0
    have := h.first; omega
  · show (vacL _).length ≤ 4
    rw [← e]; exact h.few

def vaE (p : Pl) (d : Int) (cs : List Int) : Heap := [some (Dr d), some (.cells true 1 (iv cs)), some (.cells false 4 [p.a (.sl 1 0 p.cs.length)])]
def vaF (p : Pl) (d : Int) (cs A : List Int) (g : Option Row) : Heap := [some (Dr d), some (.cells true 1 (iv cs)), some (.cells false 4 [p.a (.sl 1 0 p.cs.length)]), g, some (.cells true 1 (iv A))]
def vaT (a1 : Int) (v : AVal) (i : Nat) : List (Nat × AVal) := [(1, .int .i64 a1), (5, .ptr 0 0 0 1), (6, .ptr 2 0 0 1), (7, v), (8, .int .i64 i)]
def vaX (p : Pl) : List (Nat × AVal) := [(26, .int .i64 p.cs.length), (27, .ptr 2 0 3 1), (28, .sl 1 0 p.cs.length), (29, .int .i64 p.cs.length), (30, .bool false)]

set_option maxHeartbeats 8000000 in
set_option maxRecDepth 100000 in
theorem vac_loop {G : Ctx} {Q : Goal} {fs : List Sx.Frame} {p : Pl} (hp : PlMade 3 3 p) {a1 w : Int}
    (h0 : ∀ (d : Int) (cs : List Int), VacI p p.cs.length cs → vacTo cs p.cs.length = [] → Run Try.prog G 0 none 2985 (.out .normal) fs ⟨tsets 255 (vaT a1 .nilsl p.cs.length ++ vaX p), vaE p d cs, []⟩ Q)
    (h1 : ∀ (d : Int) (cs : List Int) g X, VacI p p.cs.length cs → vacTo cs p.cs.length ≠ [] → Run Try.prog G 0 none 2985 (.out .normal) fs ⟨tsets 255 (vaT a1 (.sl 4 0 (vacTo cs p.cs.length).length) p.cs.length ++ vaX p), vaF p d cs (natI (vacTo cs p.cs.length)) g ++ X, []⟩ Q)
    {ρ : List AVal} (hw : Wk ρ (tsets 255 (vaT a1 .nilsl 0))) : Sx.Loop Try.prog G 0 none k_law01_FieldExact_r11 (.blk 0 :: fs) ⟨ρ, vaE p w p.cs, []⟩ Q := by
  have hN : p.cs.length ≤ 256 := by rw [hp.ok.len]; exact Nat.mul_le_mul hp.ok.w.2 hp.ok.h.2
  have hN0 : 0 < p.cs.length := by rw [hp.ok.len]; exact Nat.mul_pos hp.ok.w.1 hp.ok.h.1
  refine loop_ind k_law01_FieldExact_r11.eq_1 (fun s : Nat × List Int × AVal × Heap => s.1 ≤ p.cs.length ∧ VacI p s.1 s.2.1 ∧ ((vacTo s.2.1 s.1 = [] ∧ s.2.2.1 = .nilsl ∧ ∃ d, s.2.2.2 = vaE p d s.2.1) ∨ (vacTo s.2.1 s.1 ≠ [] ∧ s.2.2.1 = .sl 4 0 (vacTo s.2.1 s.1).length ∧ ∃ d g X, s.2.2.2 = vaF p d s.2.1 (natI (vacTo s.2.1 s.1)) g ++ X))) (fun s => p.cs.length - s.1)
    (fun s => (tsets 255 (vaT a1 s.2.2.1 s.1), s.2.2.2)) (0, p.cs, .nilsl, vaE p w p.cs) ⟨Nat.zero_le _, ⟨rfl, hp.le, hp.first, by simp [vacTo]⟩, .inl ⟨rfl, rfl, w, rfl⟩⟩ hw rfl ?_
  rintro ⟨i, cs, v, H⟩ ⟨hi, hI, hH⟩ ih
  dsimp only at hi hI hH ih ⊢
  have hlen := hI.len
  by_cases hlt : i < p.cs.length
  · have i1 : (i : Int) < p.cs.length := by omega
    have w1 : IntKind.i64.wrap ((i : Int) + 1) = (i : Int) + 1 := w64 ⟨by omega, by omega⟩
    have v1 : (iv cs)[i]? = some (.int .i64 (gt cs i)) := iv_get (by omega)
    have l1 : (iv cs).length = p.cs.length := by rw [iv_len, hlen]
    have nx := vacTo_next cs i
    by_cases hc : gt cs i = 0
    · rw [if_pos hc] at nx
      have hbe : (gt cs i == 0) = true := by simp [hc]
      rcases hH with ⟨hA, rfl, d, rfl⟩ | ⟨hA, rfl, d, g, X, rfl⟩
      · rw [hA, List.nil_append] at nx
        have ihn := fun g => ih (i + 1, cs, .sl 4 0 1, vaF p d cs (natI [i]) g ++ []) (by dsimp only; omega) ⟨by dsimp only; omega, ⟨hI.len, hI.le, hI.first, by dsimp only; rw [nx]; simp⟩, .inr ⟨by dsimp only; rw [nx]; simp, by dsimp only; rw [nx]; rfl, d, g, [], by dsimp only; rw [nx]⟩⟩
        clear ih
        dsimp only at ihn
        simp only [go_sem, vaT, vaF, natI, List.map_cons, List.map_nil, Pl.a, Pl.c4] at ihn
        simp only [go_sem, vaT, vaE, i1, w1, v1, l1, hbe, hc, Pl.a, Pl.c4]
        exact ⟨by decide, ihn _ _ (by simp [go_sem])⟩
      · have hA0 : 0 < (vacTo cs i).length := List.length_pos_iff.2 hA
        have hA4 := hI.few
        by_cases h4 : (vacTo cs i).length = 4
        · have hl4 : ((4 : Nat) : Int) == 4 := rfl
          have p2 := between_ok d 1 3 (by omega) (by omega) (by omega)
          have p3 := btw_in (w := d) (show (1 : Int) ≤ 3 by omega)
          generalize btw d 1 3 = c at *
          have hcs : VacI p (i + 1) (cs.set i c) := ⟨by rw [List.length_set]; exact hI.len, fun x hx => by
            rcases List.mem_or_eq_of_mem_set hx with h | h
            · exact hI.le x h
            · omega, by
            by_cases hi0 : i = 0
            · subst hi0; rw [gt_set_eq _ _ (by omega)]; omega
            · rw [gt_set_ne _ _ hi0]; exact hI.first, by
            rw [vacTo_next, vacTo_set, gt_set_eq _ _ (by omega), if_neg (by omega), List.append_nil]; exact hI.few⟩
          have hnx : vacTo (cs.set i c) (i + 1) = vacTo cs i := by rw [vacTo_next, vacTo_set, gt_set_eq _ _ (by omega), if_neg (by omega), List.append_nil]
          have ihn := ih (i + 1, cs.set i c, .sl 4 0 4, vaF p (dstep d) (cs.set i c) (natI (vacTo cs i)) g ++ X) (by dsimp only; omega) ⟨by dsimp only; omega, hcs, .inr ⟨by dsimp only; rw [hnx]; exact hA, by dsimp only; rw [hnx, h4], _, g, X, by dsimp only; rw [hnx]⟩⟩
          clear ih
          have l2 : (iv (natI (vacTo cs i))).length = 4 := by simp [iv, natI, h4]
          have c1 : (c == 0) = false := by simp; omega
          have v2 : (iv (cs.set i c))[i]? = some (.int .i64 c) := by rw [iv_get (by rw [List.length_set]; omega), gt_set_eq _ _ (by omega)]
          have l3 : (iv (cs.set i c)).length = p.cs.length := by rw [iv_len, List.length_set, hlen]
          dsimp only at ihn
          simp only [go_sem, vaT, vaF, Pl.a, Pl.c4, List.cons_append, List.nil_append] at ihn
          simp only [go_sem, vaT, vaF, i1, w1, v1, l1, l2, h4, hl4, hbe, hc, Pl.a, Pl.c4, List.cons_append, List.nil_append]

          refine dD p2 ?_
          simp only [go_sem, iv_set, v1, l1, v2, l3, c1, i1, w1]
          exact ihn _ (by simp [go_sem])
        · have hl4 : (((vacTo cs i).length : Int) == 4) = false := by simp; omega
          have ihn := fun Y => ih (i + 1, cs, .sl 4 0 ((vacTo cs i).length + 1), vaF p d cs (natI (vacTo cs i) ++ [(i : Int)]) g ++ (X ++ Y)) (by dsimp only; omega) ⟨by dsimp only; omega, ⟨hI.len, hI.le, hI.first, by dsimp only; rw [nx]; simp; omega⟩, .inr ⟨by dsimp only; rw [nx]; simp, by dsimp only; rw [nx]; simp, d, g, X ++ Y, by dsimp only; rw [nx]; simp [natI]⟩⟩
          clear ih
          have l2 : (iv (natI (vacTo cs i))).length = (vacTo cs i).length := by simp [iv, natI]
          dsimp only at ihn
          simp only [go_sem, vaT, vaF, Pl.a, Pl.c4, List.cons_append, List.nil_append] at ihn
          simp only [go_sem, vaT, vaF, i1, w1, v1, l1, l2, hl4, hbe, hc, Pl.a, Pl.c4, iv_app, List.cons_append, List.nil_append]

          exact ⟨by omega, ihn _ _ (by simp [go_sem])⟩
    · rw [if_neg hc, List.append_nil] at nx
      have hbe : (gt cs i == 0) = false := by simp [hc]
      have hI' : VacI p (i + 1) cs := ⟨hI.len, hI.le, hI.first, by rw [nx]; exact hI.few⟩
      rcases hH with ⟨hA, rfl, d, rfl⟩ | ⟨hA, rfl, d, g, X, rfl⟩
      · have ihn := ih (i + 1, cs, .nilsl, vaE p d cs) (by dsimp only; omega) ⟨by dsimp only; omega, hI', .inl ⟨by dsimp only; rw [nx]; exact hA, rfl, d, rfl⟩⟩
        clear ih
        dsimp only at ihn
        simp only [go_sem, vaT, vaE, Pl.a, Pl.c4] at ihn
        simp only [go_sem, vaT, vaE, i1, w1, v1, l1, hbe, Pl.a, Pl.c4]
        exact ihn _ (by simp [go_sem])
      · have ihn := ih (i + 1, cs, .sl 4 0 (vacTo cs i).length, vaF p d cs (natI (vacTo cs i)) g ++ X) (by dsimp only; omega) ⟨by dsimp only; omega, hI', .inr ⟨by dsimp only; rw [nx]; exact hA, by dsimp only; rw [nx], d, g, X, by dsimp only; rw [nx]⟩⟩
        clear ih
        dsimp only at ihn
        simp only [go_sem, vaT, vaF, Pl.a, Pl.c4, List.cons_append, List.nil_append] at ihn
        simp only [go_sem, vaT, vaF, i1, w1, v1, l1, hbe, Pl.a, Pl.c4, List.cons_append, List.nil_append]
        exact ihn _ (by simp [go_sem])
  · obtain rfl : i = p.cs.length := by omega
    have i1 : ¬ (p.cs.length : Int) < p.cs.length := by omega
    have l1 : (iv cs).length = p.cs.length := by rw [iv_len, hlen]
    rcases hH with ⟨hA, rfl, d, rfl⟩ | ⟨hA, rfl, d, g, X, rfl⟩
    · have := h0 d cs hI hA
      simp only [go_sem, vaT, vaX, vaE, Pl.a, Pl.c4, List.cons_append, List.nil_append] at this
      simp only [go_sem, vaT, vaE, i1, l1, Pl.a, Pl.c4]
      exact this
    · have := h1 d cs g X hI hA
      simp only [go_sem, vaT, vaX, vaF, Pl.a, Pl.c4, List.cons_append, List.nil_append] at this
      simp only [go_sem, vaT, vaF, i1, l1, Pl.a, Pl.c4, List.cons_append, List.nil_append]
      exact this
end Go.Proofs

namespace Go.Proofs
open Go Go.Sx
attribute [local irreducible] Run

set_option maxHeartbeats 16000000 in
set_option maxRecDepth 100000 in
theorem exact_law (zs : List Int) (hl : zs.length ≤ 9223372036854775807) (a1 : Int) : Ans Try.prog n_law01_FieldExact [.view (zs.map (.int .i64)), .int .i64 a1] [] (.bool true) [] := by
  have m1 := mod_in a1 31 (by omega)
  have e1 := mod_pos a1 31 (by omega)
  generalize a1 % 31 = n1 at *
  obtain ⟨n, rfl⟩ : ∃ n : Nat, n1 = n := ⟨n1.toNat, by omega⟩
  refine spec_run e_law01_FieldExact fun G => ?_
  simp only [go_sem]
  refine callN1 (newdice_ok zs hl) (by simp only [go_sem]) (dr_bel _ _) (by simp) (by simp) ?_
  generalize seedW zs = w
  simp only [go_sem]
  refine callDN (PlanOf_ok w 3 3 (by omega) (by omega)) rfl (by simp only [go_sem]) (dr_bel _ _) (fun q hq => ⟨pla_bel _ _ _ _ rfl, dr_bel _ _, iv_row _ _ _⟩) (by simp) (by simp) ?_
  rintro ⟨w1, p⟩ hp
  dsimp only at hp ⊢
  simp only [go_sem, Pl.a, Pl.c4, ren, rens]
  refine vac_loop hp (a1 := a1) (w := w1) ?_ ?_ (by simp [go_sem, vaT])
  · intro d cs hI hA
    obtain ⟨hm, h4, hv⟩ := hI.fin hp
    rw [hA] at hv
    obtain ⟨q, hq⟩ : ∃ q : Pl, q = ⟨p.w, p.h, p.rd, cs⟩ := ⟨_, rfl⟩
    rw [← hq] at hm h4 hv
    have hln : p.cs.length = q.cs.length := by rw [hq]; exact hI.len.symm
    have hE : vaE p d cs = [some (Dr d), some (.cells true 1 (iv q.cs)), some (.cells false 4 [q.a (.sl 1 0 q.cs.length)])] := by
      unfold vaE; rw [hln]; subst hq; rfl
    have hn0 : nV q = 0 := by unfold nV; rw [← hv]; rfl
    rw [hE]
    simp only [vaX, hln]
    clear hE hln hI hA hq hp
    have hpo := hm.ok
    have hpl : q.cs.length ≤ 1000000 := by
      rw [hpo.len]; have := Nat.mul_le_mul hpo.w.2 hpo.h.2; omega
    have hmx := hpo.max
    simp only [go_sem, vaT, Pl.a, Pl.c4]
    refine callR1 (VoltsOf_ok d hpl (by omega) true) (j0 := 0) (j1 := 1) rfl (by simp [go_sem, Pl.a, Pl.c4]) rfl rfl (dr_bel _ _) (iv_row _ _ _) (by decide) (fun q hq => ⟨by simp [go_sem], dr_bel _ _, iv_row _ _ _⟩) (by simp) (by simp) ?_
    rintro ⟨w2, v⟩ hvv
    dsimp only at hvv ⊢
    have hv1 := hvv.2
    have hvl := hvv.len hm
    simp only [go_sem, ren, rens]
    refine small_loop (jv := 3) (g := false) (v := v) (x5 := .int .i64 a1) (x6 := .ptr 2 0 0 1) (x7 := .nilsl) (by omega) rfl ?_ (by simp [go_sem])
    rw [← smV_len v] at hvl ⊢
    have hs3 := smV_in v
    generalize smV v = u at *
    have hvk : VOK u := fun x hx => by have := hs3 x hx; omega
    have s1 := Solve_ok hpo hvk hvl (n := n) (by omega)
    simp only [go_sem]
    refine dP e1 ?_
    simp only [go_sem]
    refine dFN2 s1 6 [1, 3] ⟨.inl (pla_frz 3 (j := 1) (g := true) (onlyR_row rfl (by simp)) rfl), .inl (iv_frz_sl (d := 4) (j := 3) (g := false) (onlyR_row rfl (by simp)) rfl), .inl rfl, trivial⟩ ?_ (by simp [go_sem, fldV]) (by simp only [go_sem, fldV]) (iv_row _ _ _) (iv_nv _ _) (iv_row _ _ _) (iv_nv _ _) (by simp [go_sem])
    have hL := low_ok hpo u (cnt q u n)
    have hH := high_ok hpo u (cnt q u n)
    have lL : (lowB q u (cnt q u n)).length = q.cs.length := by rw [hL.len, hpo.len]
    have lH : (highB q u (cnt q u n)).length = q.cs.length := by rw [hH.len, hpo.len]
    have hSP := solved_plan hpo (by have := hm.w; omega) hs3 h4
    have hb0 : matB q u = [] := by unfold matB; rw [hn0]; rfl
    generalize cnt q u n = c1 at *
    generalize stl q u c1 = t1 at *
    generalize lowB q u c1 = la at *
    generalize highB q u c1 = ha at *
    simp only [go_sem, ren, rens, fldV, Pl.a, Pl.c4, bne_self_eq_false, iv_len, lL, lH]
    refine ⟨by omega, by omega, ?_⟩
    refine loop_body 3000 k_law01_FieldExact_r40.eq_1 ?_
    simp only [go_sem]
    refine cFN hSP 6 ⟨.inl ?_, .inl ?_, trivial⟩ ?_ (hx := iv_row _ _ _) (hxn := iv_nv _ _)
    · rw [hn0]; exact frz_mat (d := 3) (g := false) (qs := []) rfl rfl (by simp)
    · rw [hb0]; exact iv_frz_sl (d := 4) (j := 8) (g := false) rfl rfl
    simp only [go_sem, hn0, ren, rens]
    refine loop_body 3000 k_law01_FieldExact_r49.eq_1 ?_
    simp only [go_sem]
    refine cP awake_ok ?_
    simp only [go_sem]
  · intro d cs g X hI hA
    obtain ⟨hm, h4, hv⟩ := hI.fin hp
    obtain ⟨q, hq⟩ : ∃ q : Pl, q = ⟨p.w, p.h, p.rd, cs⟩ := ⟨_, rfl⟩
    rw [← hq] at hm h4 hv
    have hln : p.cs.length = q.cs.length := by rw [hq]; exact hI.len.symm
    have hcs : cs = q.cs := by rw [hq]
    have hbx : p.a (.sl 1 0 p.cs.length) = q.a (.sl 1 0 q.cs.length) := by rw [hln]; subst hq; rfl
    have hnv : (vacL q).length = nV q := rfl
    have hn0 : 0 < nV q := by unfold nV; rw [← hv]; exact List.length_pos_iff.2 hA
    rw [hv, hnv]
    have hH0 : (vaF p d cs (natI (vacL q)) g ++ X)[0]? = some (some (Dr d)) := rfl
    have hH1 : (vaF p d cs (natI (vacL q)) g ++ X)[1]? = some (some (.cells true 1 (iv q.cs))) := by rw [← hcs]; rfl
    have hH2 : (vaF p d cs (natI (vacL q)) g ++ X)[2]? = some (some (.cells false 4 [q.a (.sl 1 0 q.cs.length)])) := by rw [← hbx]; rfl
    have hH4 : (vaF p d cs (natI (vacL q)) g ++ X)[4]? = some (some (.cells true 1 (iv (natI (vacL q))))) := rfl
    have hHl : 5 ≤ (vaF p d cs (natI (vacL q)) g ++ X).length := by simp [vaF]
    generalize (vaF p d cs (natI (vacL q)) g ++ X : Heap) = H at *
    simp only [vaX, hln]
    clear hln hI hA hv hbx hcs hq hp
    have hpo := hm.ok
    have hpl : q.cs.length ≤ 1000000 := by
      rw [hpo.len]; have := Nat.mul_le_mul hpo.w.2 hpo.h.2; omega
    have hmx := hpo.max
    have c2 := cells_at hH2
    simp only [go_sem, vaT, c2, Pl.a, Pl.c4]
    refine callR1 (VoltsOf_ok d hpl (by omega) true) (j0 := 0) (j1 := 1) rfl (by simp [go_sem, Pl.a, Pl.c4]) hH0 hH1 (dr_bel _ _) (iv_row _ _ _) (by decide) (fun q hq => ⟨by simp [go_sem], dr_bel _ _, iv_row _ _ _⟩) (by simp) (by simp) ?_
    rintro ⟨w2, v⟩ hvv
    dsimp only at hvv ⊢
    have hv1 := hvv.2
    have hvl := hvv.len hm
    have old : ∀ (j : Nat) (y : Option Row), 0 < j → H[j]? = some y → (H.set 0 (some (Dr w2)) ++ [some (.cells false 1 (iv v))])[j]? = some y := fun j y hj h => by
      rw [List.getElem?_append_left (by rw [List.length_set]; exact (List.getElem?_eq_some_iff.1 h).1), List.getElem?_set_ne (by omega)]; exact h
    have hJ1 := old 1 _ (by omega) hH1
    have hJ2 := old 2 _ (by omega) hH2
    have hJ4 := old 4 _ (by omega) hH4
    have hJv : (H.set 0 (some (Dr w2)) ++ [some (.cells false 1 (iv v))])[H.length]? = some (some (.cells false 1 (iv v))) := by
      rw [List.getElem?_append_right (by rw [List.length_set]; exact Nat.le_refl _), List.length_set, Nat.sub_self]; rfl
    have hJl : (H.set 0 (some (Dr w2)) ++ [some (Row.cells false 1 (iv v))]).length = H.length + 1 := by simp
    generalize (H.set 0 (some (Dr w2)) ++ [some (Row.cells false 1 (iv v))] : Heap) = J at *
    generalize H.length = N at *
    clear old c2 hH0 hH1 hH2 hH4
    simp only [go_sem, ren, rens]
    refine small_loop (jv := N) (g := false) (v := v) (x5 := .int .i64 a1) (x6 := .ptr 2 0 0 1) (x7 := .sl 4 0 (nV q)) (by omega) hJv ?_ (by simp [go_sem])
    rw [← smV_len v] at hvl ⊢
    have hs3 := smV_in v
    generalize smV v = u at *
    have hvk : VOK u := fun x hx => by have := hs3 x hx; omega
    have s1 := Solve_ok hpo hvk hvl (n := n) (by omega)
    have old : ∀ (j : Nat) (y : Option Row), j ≠ N → J[j]? = some y → (J.set N (some (Row.cells false 1 (iv u))))[j]? = some y := fun j y hj h => by
      rw [List.getElem?_set_ne (fun e => hj e.symm)]; exact h
    have hK1 := old 1 _ (by omega) hJ1
    have hK2 := old 2 _ (by omega) hJ2
    have hK4 := old 4 _ (by omega) hJ4
    have hKv : (J.set N (some (Row.cells false 1 (iv u))))[N]? = some (some (.cells false 1 (iv u))) := List.getElem?_set_self (by omega)
    have hKl : (J.set N (some (Row.cells false 1 (iv u)))).length = N + 1 := by rw [List.length_set, hJl]
    generalize (J.set N (some (Row.cells false 1 (iv u))) : Heap) = K at *
    clear old hJ1 hJ2 hJ4 hJv hJl
    have k2 := cells_at hK2
    simp only [go_sem, k2, Pl.a, Pl.c4]
    refine dP e1 ?_
    simp only [go_sem]
    refine dFN2 s1 6 [1, N] ⟨.inl (pla_frz 3 (j := 1) (g := true) (onlyR_row hK1 (by simp)) rfl), .inl (iv_frz_sl (d := 4) (j := N) (g := false) (onlyR_row hKv (by simp)) rfl), .inl rfl, trivial⟩ ?_ (by simp [go_sem, fldV]) (by simp only [go_sem, fldV]) (iv_row _ _ _) (iv_nv _ _) (iv_row _ _ _) (iv_nv _ _) (by simp [go_sem, hKl])
    have hL := low_ok hpo u (cnt q u n)
    have hH := high_ok hpo u (cnt q u n)
    have lL : (lowB q u (cnt q u n)).length = q.cs.length := by rw [hL.len, hpo.len]
    have lH : (highB q u (cnt q u n)).length = q.cs.length := by rw [hH.len, hpo.len]
    have hSP := solved_plan hpo (by have := hm.w; omega) hs3 h4
    have B1 : ∀ j, j < q.w * q.h → -1000000 ≤ gt (lowB q u (cnt q u n)) j ∧ gt (lowB q u (cnt q u n)) j ≤ 1000000 := fun j hj => by
      have := hL.bd j hj; have := endL_in hvk q; have := endM_in hvk q; omega
    have B2 : ∀ j, j < q.w * q.h → -1000000 ≤ gt (highB q u (cnt q u n)) j ∧ gt (highB q u (cnt q u n)) j ≤ 1000000 := fun j hj => by
      have := hH.bd j hj; have := endL_in hvk q; have := endM_in hvk q; omega
    have hPB := plan_between hpo (by have := hm.w; omega) hs3 h4 hL hH
    generalize cnt q u n = c1 at *
    generalize stl q u c1 = t1 at *
    generalize lowB q u c1 = la at *
    generalize highB q u c1 = ha at *
    have hp1 : ∀ a b x, Heap.put (K ++ [a, b]) (N + 1 + 2) x = K ++ [a, b, some x] := fun a b x => by
      have := Heap.put_end (K ++ [a, b]) x
      rw [show (K ++ [a, b]).length = N + 1 + 2 by simp [hKl]] at this
      rw [this]; simp
    have hc1 : ∀ a b g s e, Heap.cellsAt (K ++ [a, b, some (Row.cells g s e)]) (N + 1 + 2) = some (g, s, e) := fun a b g s e => cells_at (by
      rw [List.getElem?_append_right (by omega), hKl, show N + 1 + 2 - (N + 1) = 2 by omega]; rfl)
    have hp2 : ∀ a b c x, Heap.put (K ++ [a, b, c]) (N + 1 + 2) x = K ++ [a, b, some x] := fun a b c x => by
      rw [put_lt (by simp [hKl]), List.set_append_right _ _ (by omega), hKl, show N + 1 + 2 - (N + 1) = 2 by omega]; rfl
    have hc2 : ∀ Y, Heap.cellsAt (K ++ Y) 2 = some (false, 4, [q.a (.sl 1 0 q.cs.length)]) := fun Y => cells_more k2 Y
    have k1 := cells_at hK1
    have hc3 : ∀ Y, Heap.cellsAt (K ++ Y) 1 = some (true, 1, iv q.cs) := fun Y => cells_more k1 Y
    have hc4 : ∀ a b Y, Heap.cellsAt (K ++ some (Row.cells false 1 (iv a)) :: some (Row.cells false 1 (iv b)) :: Y) (N + 1) = some (false, 1, iv a) := fun a b Y => cells_at (by
      rw [List.getElem?_append_right (by omega), hKl, Nat.sub_self]; rfl)
    have hc5 : ∀ a b Y, Heap.cellsAt (K ++ some (Row.cells false 1 (iv a)) :: some (Row.cells false 1 (iv b)) :: Y) (N + 1 + 1) = some (false, 1, iv b) := fun a b Y => cells_at (by
      rw [List.getElem?_append_right (by omega), hKl, show N + 1 + 1 - (N + 1) = 1 by omega]; rfl)
    simp only [go_sem, ren, rens, fldV, Pl.a, Pl.c4, bne_self_eq_false, iv_len, lL, lH, hKl, hp1, hc1, hp2]
    refine ⟨by simp; omega, ?_⟩
    simp only [go_sem, ren, rens, fldV, Pl.a, Pl.c4, bne_self_eq_false, iv_len, lL, lH, hKl, hp1, hc1, hp2, hc2, hc3, hc4, hc5]
    have k4 := cells_at hK4
    have hg : ∀ (j : Nat) (y : Option Row) Y, K[j]? = some y → (K ++ Y)[j]? = some y := fun j y Y h => by
      rw [List.getElem?_append_left (List.getElem?_eq_some_iff.1 h).1]; exact h
    have hM0 : LawH (K ++ [some (Row.cells false 1 (iv la)), some (Row.cells false 1 (iv ha)), some (Row.cells false 4 [AVal.agg [AVal.sl (N + 1) 0 q.cs.length, AVal.sl (N + 1 + 1) 0 q.cs.length, AVal.int IntKind.i64 c1, AVal.bool t1]])]) q 2 1 4 := ⟨hg _ _ _ hK2, ⟨_, hg _ _ _ hK1⟩, ⟨_, hg _ _ _ hK4⟩⟩
    have hM1 := hg _ _ [some (Row.cells false 1 (iv la)), some (Row.cells false 1 (iv ha)), some (Row.cells false 4 [AVal.agg [AVal.sl (N + 1) 0 q.cs.length, AVal.sl (N + 1 + 1) 0 q.cs.length, AVal.int IntKind.i64 c1, AVal.bool t1]])] hKv
    have hM2 : (K ++ [some (Row.cells false 1 (iv la)), some (Row.cells false 1 (iv ha)), some (Row.cells false 4 [AVal.agg [AVal.sl (N + 1) 0 q.cs.length, AVal.sl (N + 1 + 1) 0 q.cs.length, AVal.int IntKind.i64 c1, AVal.bool t1]])])[N + 1]? = some (some (.cells false 1 (iv la))) := by
      rw [List.getElem?_append_right (by omega), hKl, Nat.sub_self]; rfl
    have hM3 : (K ++ [some (Row.cells false 1 (iv la)), some (Row.cells false 1 (iv ha)), some (Row.cells false 4 [AVal.agg [AVal.sl (N + 1) 0 q.cs.length, AVal.sl (N + 1 + 1) 0 q.cs.length, AVal.int IntKind.i64 c1, AVal.bool t1]])])[N + 1 + 1]? = some (some (.cells false 1 (iv ha))) := by
      rw [List.getElem?_append_right (by omega), hKl, show N + 1 + 1 - (N + 1) = 1 by omega]; rfl
    have hM4 : (K ++ [some (Row.cells false 1 (iv la)), some (Row.cells false 1 (iv ha)), some (Row.cells false 4 [AVal.agg [AVal.sl (N + 1) 0 q.cs.length, AVal.sl (N + 1 + 1) 0 q.cs.length, AVal.int IntKind.i64 c1, AVal.bool t1]])])[N + 1 + 2]? = some (some (.cells false 4 [fldV q.cs.length c1 t1 (N + 1) (N + 1 + 1)])) := by
      rw [List.getElem?_append_right (by omega), hKl, show N + 1 + 2 - (N + 1) = 2 by omega]; rfl
    have hMl : (K ++ [some (Row.cells false 1 (iv la)), some (Row.cells false 1 (iv ha)), some (Row.cells false 4 [AVal.agg [AVal.sl (N + 1) 0 q.cs.length, AVal.sl (N + 1 + 1) 0 q.cs.length, AVal.int IntKind.i64 c1, AVal.bool t1]])]).length = N + 4 := by simp [hKl]
    generalize (K ++ [some (Row.cells false 1 (iv la)), some (Row.cells false 1 (iv ha)), some (Row.cells false 4 [AVal.agg [AVal.sl (N + 1) 0 q.cs.length, AVal.sl (N + 1 + 1) 0 q.cs.length, AVal.int IntKind.i64 c1, AVal.bool t1]])] : Heap) = L at *
    clear hg hp1 hc1 hp2 hc2 hc3 hc4 hc5 k1 k2 k4 hK1 hK2 hK4 hKv hKl
    obtain ⟨ga, hvac⟩ := hM0.vac
    have l4 := cells_at hvac
    have ll : (iv ((vacL q).map fun c : Nat => (c : Int))).length = nV q := by simp [iv, nV]
    have g1 : (nV q : Int) ≤ 2 ^ 44 := by omega
    have g2 : (nV q : Int) * 8 ≤ 2 ^ 44 := by omega
    have g3 : (0 : Int) ≤ nV q := by omega
    have g4 : (nV q : Int) * 24 ≤ 2 ^ 44 := by omega
    have l5 := fun Y => cells_more l4 Y
    have hpA : ∀ x, Heap.put L (N + 4) x = L ++ [some x] := fun x => by rw [← hMl]; exact Heap.put_end L x
    have hpB : ∀ a x, Heap.put (L ++ [a]) (N + 4 + 1) x = L ++ [a, some x] := fun a x => by
      have := Heap.put_end (L ++ [a]) x
      rw [show (L ++ [a]).length = N + 4 + 1 by simp [hMl]] at this
      rw [this]; simp
    simp only [go_sem, l4, l5, ll, g1, g2, g3, g4, hMl, hpA]
    refine ⟨Int.le_refl _, ?_⟩
    simp only [go_sem, l4, l5, ll, g1, g2, g3, g4, hMl, hpA, hpB]
    refine ⟨by omega, Int.le_refl _, by simp <;> omega, ?_⟩
    have hM : M4 (L ++ [some (Row.cells false 1 (List.replicate (nV q) AVal.nilsl)), some (Row.cells false 1 (List.replicate (nV q) (AVal.int IntKind.i64 0)))]) q u false 2 1 4 (N + 4) (N + 4 + 1) N [] 0 :=
      ⟨hM0.app _, by rw [List.getElem?_append_right (by omega), hMl, Nat.sub_self]; simp, by rw [List.getElem?_append_right (by omega), hMl, show N + 4 + 1 - (N + 4) = 1 by omega, bTo_zero]; simp [iv], by rw [List.getElem?_append_left (by omega)]; exact hM1, rfl, fun j q h => by simp at h⟩
    refine mat_loop hpo (jp := 2) (jc := 1) (jt := 4) (ja := N + 4) (jb := N + 4 + 1) (jv := N) (x11 := .ptr (N + 1 + 2) 0 0 1) (v := u) (gv := false) h4 hs3 (VLen_of hpo hvl) hM (by omega) (by omega) ?_ (by simp [go_sem, moT])
    intro J qs hJ hle hkp
    have hf := hJ.frz 3
    have hkp2 : ∀ (j : Nat) (y : Option Row), j < N + 4 → L[j]? = some y → J[j]? = some y := fun j y hj h => by
      rw [hkp j (by simp; omega) (by omega) (by omega), List.getElem?_append_left (by omega)]; exact h
    have hJ2 := hkp2 _ _ (by omega) hM2
    have hJ3 := hkp2 _ _ (by omega) hM3
    have hJ4 := hkp2 _ _ (by omega) hM4
    have hJv := hJ.law.vac
    clear hkp hkp2 hle hM hM0 hM1 hM2 hM3 hM4 hpA hpB
    simp only [go_sem, moT]
    refine cFN hSP 6 ⟨.inl hf.1, .inl hf.2, trivial⟩ ?_ (hx := iv_row _ _ _) (hxn := iv_nv _ _) (hk := by omega)
    obtain ⟨gv, hJv⟩ := hJv
    have q1 : ((nV q : Int) > 0) = True := by simp; omega
    have q2 : (detV q u ≤ 0) = False := by simp; omega
    have q4 := cells_at hJv
    have q5 := fun Y => cells_more q4 Y
    simp only [go_sem, ren, rens, q1, q2, q5, ll]
    have hat : ∀ i, i < nV q → gt ((vacL q).map fun c : Nat => (c : Int)) i = (vacF q i : Int) := fun i hi => by
      have h1 : (vacL q)[i]? = some (vacF q i) := vacF_get hi
      unfold gt
      rw [List.getD_eq_getElem?_getD, List.getElem?_map, h1]; rfl
    have hap : ∀ (j : Nat) (y : Option Row) Y, J[j]? = some y → (J ++ Y)[j]? = some y := fun j y Y h => by
      rw [List.getElem?_append_left (List.getElem?_eq_some_iff.1 h).1]; exact h
    have hwd : ∀ x : Int, -1000000 ≤ x ∧ x ≤ 1000000 → IntKind.i64.wrap (x * detV q u) = x * detV q u := fun x hx => by
      have := (In.mul (B := 1000000) (C := 921984) hx ⟨by omega, hPB.2.1⟩)
      exact w64 ⟨by have := this.1; omega, by have := this.2; omega⟩
    refine end_loop (m := nV q) (n := q.cs.length) (s := c1) (t := t1) (jt := 4) (jf := N + 1 + 2) (j0 := N + 1) (j1 := N + 1 + 1) (ju := J.length) (lo := la) (hi := ha) (us := numV q u) (det := detV q u) (ats := (vacL q).map fun c : Nat => (c : Int)) h4 (by rw [hpo.len]; exact Nat.mul_le_mul hpo.w.2 hpo.h.2)
      (hap _ _ _ hJv) (by simp [nV]) (hap _ _ _ hJ4) (hap _ _ _ hJ2) lL (hap _ _ _ hJ3) lH (gu := false) (by rw [List.getElem?_append_right (Nat.le_refl _), Nat.sub_self]; rfl) (solL_len _ _) (fun i hi => ?_) ?_ (by simp [go_sem, enT])
    · have hvi := ((vac_ok q).inn i hi).1
      obtain ⟨e1, e2⟩ := hPB.2.2 i hi
      exact ⟨vacF q i, hat i hi, by rw [hpo.len]; exact hvi, hwd _ (B1 _ hvi), hwd _ (B2 _ hvi), e1, e2⟩
    · simp only [go_sem, enT]
      refine cP awake_ok ?_
      simp only [go_sem]
end Go.Proofs

